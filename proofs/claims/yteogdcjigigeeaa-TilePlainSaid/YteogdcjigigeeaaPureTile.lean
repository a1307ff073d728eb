/-
  Plain mathematics of tiles (W1, W2): what a cover costs at the least, and covers of trees: no program.
-/
import Derived.Test.YteogdcjigigeeaaMPure
namespace Go.Proofs.Yteogdcjigigeeaa
set_option linter.unusedSimpArgs false
set_option linter.unusedVariables false

/-! ### What is reckoned of a number by what is reckoned of lower ones -/
section
variable {α : Type}

def fixF (d : α) (st : (Nat → α) → Nat → α) : Nat → Nat → α
  | 0, _ => d
  | f + 1, i => st (fixF d st f) i

def fixA (d : α) (st : (Nat → α) → Nat → α) (i : Nat) : α := fixF d st (i + 1) i

theorem fixF_more {d : α} {st : (Nat → α) → Nat → α} (hst : ∀ h h' i, (∀ j, j < i → h j = h' j) → st h i = st h' i) : ∀ i f, i < f → fixF d st f i = fixA d st i := by
  intro i
  induction i using Nat.strongRecOn with
  | ind i ih =>
    intro f hf
    obtain ⟨g, rfl⟩ : ∃ g, f = g + 1 := ⟨f - 1, by omega⟩
    show st (fixF d st g) i = st (fixF d st i) i
    exact hst _ _ _ fun j hj => by rw [ih j hj g (by omega), ih j hj i hj]

theorem fixA_eq {d : α} {st : (Nat → α) → Nat → α} (hst : ∀ h h' i, (∀ j, j < i → h j = h' j) → st h i = st h' i) (i : Nat) : fixA d st i = st (fixA d st) i :=
  hst _ _ _ fun j hj => fixF_more hst j i hj

end

/-! ### Tiles -/

/-- a tile -/
structure Ti where
  op : Int
  lt : Int
  rt : Int
  c : Int

def tiz : Ti := ⟨0, 0, 0, 0⟩

/-- W2: the code of one tile -/
def ckTi1 (t : Ti) : Int :=
  if 1 ≤ t.op ∧ t.op ≤ 6 ∧ 0 ≤ t.lt ∧ t.lt ≤ 6 ∧ 0 ≤ t.rt ∧ t.rt ≤ 6 then
    (if t.op ≤ 2 ∧ ¬ (t.lt = 0 ∧ t.rt = 0) then 3 else if 0 ≤ t.c ∧ t.c ≤ 99 then 0 else 4) else 6

def ckTiL : List Ti → Int
  | [] => 0
  | t :: r => if ckTi1 t = 0 then ckTiL r else ckTi1 t

/-- W2: the code of tiles -/
def ckTi (ts : List Ti) : Int := if 10 < ts.length then 1 else ckTiL ts

/-- a tile as it should be -/
structure TiOk (t : Ti) : Prop where
  op1 : 1 ≤ t.op
  op6 : t.op ≤ 6
  lt0 : 0 ≤ t.lt
  lt6 : t.lt ≤ 6
  rt0 : 0 ≤ t.rt
  rt6 : t.rt ≤ 6
  leaf : t.op ≤ 2 → t.lt = 0 ∧ t.rt = 0
  c0 : 0 ≤ t.c
  c99 : t.c ≤ 99

theorem ckTi1_ok {t : Ti} (h : ckTi1 t = 0) : TiOk t := by
  unfold ckTi1 at h
  split at h
  · rename_i h1
    split at h
    · cases h
    · rename_i h2
      split at h
      · rename_i h3
        refine ⟨h1.1, h1.2.1, h1.2.2.1, h1.2.2.2.1, h1.2.2.2.2.1, h1.2.2.2.2.2, fun h4 => ?_, h3.1, h3.2⟩
        exact Decidable.byContradiction fun hn => h2 ⟨h4, hn⟩
      · cases h
  · cases h

theorem ckTi1_of {t : Ti} (h : TiOk t) : ckTi1 t = 0 := by
  unfold ckTi1
  rw [if_pos ⟨h.op1, h.op6, h.lt0, h.lt6, h.rt0, h.rt6⟩, if_neg (fun hn => hn.2 (h.leaf hn.1)), if_pos ⟨h.c0, h.c99⟩]

theorem ckTiL_ok : ∀ {ts : List Ti}, ckTiL ts = 0 → ∀ t ∈ ts, TiOk t
  | [], _, t, ht => by cases ht
  | u :: r, h, t, ht => by
    unfold ckTiL at h
    split at h
    · rename_i h1
      rcases List.mem_cons.1 ht with rfl | ht
      · exact ckTi1_ok h1
      · exact ckTiL_ok h t ht
    · rename_i h1
      exact absurd h h1

theorem ckTiL_of : ∀ {ts : List Ti}, (∀ t ∈ ts, TiOk t) → ckTiL ts = 0
  | [], _ => rfl
  | u :: r, h => by
    unfold ckTiL
    rw [if_pos (ckTi1_of (h u (by simp)))]
    exact ckTiL_of fun t ht => h t (by simp [ht])

theorem ckTiL_app : ∀ {ts : List Ti} {x : Ti}, ckTiL ts = 0 → ckTiL (ts ++ [x]) = ckTiL [x]
  | [], _, _ => rfl
  | u :: r, x, h => by
    unfold ckTiL at h
    split at h
    · rename_i h1
      show (if ckTi1 u = 0 then ckTiL (r ++ [x]) else ckTi1 u) = _
      rw [if_pos h1]
      exact ckTiL_app h
    · rename_i h1
      exact absurd h h1

theorem ckTiL_left : ∀ {ts : List Ti} {x : Ti}, ckTiL (ts ++ [x]) = 0 → ckTiL ts = 0
  | [], _, _ => rfl
  | u :: r, x, h => by
    have h' : (if ckTi1 u = 0 then ckTiL (r ++ [x]) else ckTi1 u) = 0 := h
    split at h'
    · rename_i h1
      show (if ckTi1 u = 0 then ckTiL r else ckTi1 u) = 0
      rw [if_pos h1]
      exact ckTiL_left h'
    · rename_i h1
      exact absurd h' h1

theorem ckTi_ok {ts : List Ti} (h : ckTi ts = 0) : ts.length ≤ 10 ∧ ∀ t ∈ ts, TiOk t := by
  unfold ckTi at h
  split at h
  · cases h
  · rename_i h1
    exact ⟨by omega, ckTiL_ok h⟩

theorem ckTiL_go {t : Ti} {r : List Ti} (h : ckTi1 t = 0) : ckTiL (t :: r) = ckTiL r := by
  show (if ckTi1 t = 0 then ckTiL r else ckTi1 t) = _
  rw [if_pos h]

theorem ckTiL_stop {t : Ti} {r : List Ti} (h : ¬ ckTi1 t = 0) : ckTiL (t :: r) = ckTi1 t := by
  show (if ckTi1 t = 0 then ckTiL r else ckTi1 t) = _
  rw [if_neg h]

def tmA (l : List Tm) (j : Nat) : Tm := l.getD j tz

theorem tmA_at {l : List Tm} {j : Nat} {t : Tm} (h : l[j]? = some t) : tmA l j = t := by
  unfold tmA
  rw [List.getD_eq_getElem?_getD, h, Option.getD_some]

theorem tmA_out {l : List Tm} {j : Nat} (h : l.length ≤ j) : tmA l j = tz := by
  unfold tmA
  rw [List.getD_eq_getElem?_getD, List.getElem?_eq_none h, Option.getD_none]

/-- W1: the leaves on one side: the operand there or, if that is covered, its operands -/
def lvAt (l : List Tm) (j : Nat) (op : Int) : List Nat :=
  if op = 0 then [j] else if (tmA l j).op < 3 then [] else [(tmA l j).a.toNat, (tmA l j).b.toNat]

/-- W1: the leaves of a tile that matches a term -/
def lvs (l : List Tm) (t : Tm) (ti : Ti) : List Nat :=
  if t.op < 3 then [] else lvAt l t.a.toNat ti.lt ++ lvAt l t.b.toNat ti.rt

/-- W1: a tile matches a term -/
def mtc (l : List Tm) (t : Tm) (ti : Ti) : Bool :=
  decide (t.op = ti.op ∧ (ti.lt = 0 ∨ (tmA l t.a.toNat).op = ti.lt) ∧ (ti.rt = 0 ∨ (tmA l t.b.toNat).op = ti.rt))

theorem mtc_iff {l : List Tm} {t : Tm} {ti : Ti} : mtc l t ti = true ↔ t.op = ti.op ∧ (ti.lt = 0 ∨ (tmA l t.a.toNat).op = ti.lt) ∧ (ti.rt = 0 ∨ (tmA l t.b.toNat).op = ti.rt) := by
  unfold mtc
  exact decide_eq_true_iff

theorem lvAt_len (l : List Tm) (j : Nat) (op : Int) : (lvAt l j op).length ≤ 2 := by
  unfold lvAt
  split
  · exact Nat.le_succ 1
  · split
    · exact Nat.zero_le _
    · exact Nat.le_refl _

theorem lvs_len (l : List Tm) (t : Tm) (ti : Ti) : (lvs l t ti).length ≤ 4 := by
  unfold lvs
  split
  · exact Nat.zero_le _
  · rw [List.length_append]
    have := lvAt_len l t.a.toNat ti.lt
    have := lvAt_len l t.b.toNat ti.rt
    omega

/-- of checked terms: operands come first -/
theorem tmA_less {vars : Int} {l : List Tm} (hc : ckTerms vars l = 0) {i : Nat} (ho : ¬ (tmA l i).op < 3) : i < l.length ∧ (tmA l i).a.toNat < i ∧ (tmA l i).b.toNat < i ∧ 0 ≤ (tmA l i).a ∧ 0 ≤ (tmA l i).b := by
  rcases Nat.lt_or_ge i l.length with hi | hi
  · have hd := List.getElem?_eq_getElem hi
    have hcs := ckTerm_cases (ckTerms_at hc hd)
    rw [tmA_at hd] at ho ⊢
    refine ⟨hi, ?_, ?_, ?_, ?_⟩ <;> omega
  · rw [tmA_out hi] at ho
    exact absurd (show tz.op < 3 from by decide) ho

theorem lvAt_less {vars : Int} {l : List Tm} (hc : ckTerms vars l = 0) {j : Nat} {op : Int} {k : Nat} (hk : k ∈ lvAt l j op) : k ≤ j := by
  unfold lvAt at hk
  split at hk
  · simp at hk
    omega
  · split at hk
    · cases hk
    · rename_i ho
      have := tmA_less hc ho
      simp at hk
      omega

theorem lvs_less {vars : Int} {l : List Tm} (hc : ckTerms vars l = 0) {i : Nat} {ti : Ti} {k : Nat} (hk : k ∈ lvs l (tmA l i) ti) : k < i ∧ i < l.length := by
  unfold lvs at hk
  split at hk
  · cases hk
  · rename_i ho
    have := tmA_less hc ho
    rcases List.mem_append.1 hk with h | h
    · have := lvAt_less hc h
      omega
    · have := lvAt_less hc h
      omega

/-! ### The cheapest way -/

/-- a tile's number and what it costs with all below it -/
abbrev Cho := Option (Nat × Nat)

/-- what a tile and the ways for its leaves cost -/
def csW (h : Nat → Cho) : List Nat → Nat → Option Nat
  | [], c => some c
  | j :: r, c => match h j with
    | none => none
    | some (_, d) => csW h r (c + d)

def wayC (l : List Tm) (t : Tm) (h : Nat → Cho) (ti : Ti) : Option Nat := if mtc l t ti = true then csW h (lvs l t ti) ti.c.toNat else none

/-- a way more to choose from -/
def pk1 (o : Cho) (n : Nat) : Option Nat → Cho
  | none => o
  | some c => match o with
    | none => some (n, c)
    | some (m, d) => if c < d then some (n, c) else some (m, d)

def pkF (l : List Tm) (t : Tm) (h : Nat → Cho) : Nat → List Ti → Cho → Cho
  | _, [], o => o
  | n, ti :: r, o => pkF l t h (n + 1) r (pk1 o n (wayC l t h ti))

def chS (l : List Tm) (ts : List Ti) (h : Nat → Cho) (i : Nat) : Cho := pkF l (tmA l i) h 0 ts none

/-- W2: the cheapest way for each term -/
def cho (l : List Tm) (ts : List Ti) : Nat → Cho := fixA none (chS l ts)

theorem csW_same {h h' : Nat → Cho} : ∀ {js : List Nat} {c : Nat}, (∀ j ∈ js, h j = h' j) → csW h js c = csW h' js c
  | [], _, _ => rfl
  | j :: r, c, hs => by
    simp only [csW]
    rw [hs j (by simp)]
    cases h' j with
    | none => rfl
    | some p => exact csW_same fun k hk => hs k (by simp [hk])

theorem pkF_same {l : List Tm} {t : Tm} {h h' : Nat → Cho} : ∀ {ts : List Ti} {n : Nat} {o : Cho}, (∀ ti ∈ ts, ∀ j ∈ lvs l t ti, h j = h' j) → pkF l t h n ts o = pkF l t h' n ts o
  | [], _, _, _ => rfl
  | ti :: r, n, o, hs => by
    simp only [pkF]
    have e : wayC l t h ti = wayC l t h' ti := by
      unfold wayC
      rw [csW_same (hs ti (by simp))]
    rw [e]
    exact pkF_same fun tj hj => hs tj (by simp [hj])

theorem chS_same {vars : Int} {l : List Tm} (hc : ckTerms vars l = 0) (ts : List Ti) : ∀ h h' i, (∀ j, j < i → h j = h' j) → chS l ts h i = chS l ts h' i :=
  fun h h' i hs => pkF_same fun ti _ j hj => hs j (lvs_less hc hj).1

theorem cho_eq {vars : Int} {l : List Tm} (hc : ckTerms vars l = 0) (ts : List Ti) (i : Nat) : cho l ts i = pkF l (tmA l i) (cho l ts) 0 ts none := fixA_eq (chS_same hc ts) i

/-- with what is known of lower terms alone -/
theorem cho_low {vars : Int} {l : List Tm} (hc : ckTerms vars l = 0) {ts : List Ti} {i : Nat} {h : Nat → Cho} (hs : ∀ j, j < i → h j = cho l ts j) : pkF l (tmA l i) h 0 ts none = cho l ts i := by
  rw [cho_eq hc]
  exact chS_same hc ts h _ i hs

theorem pk1_none {o : Cho} {n : Nat} : pk1 o n none = o := rfl

theorem pk1_le {o : Cho} {n : Nat} {x : Option Nat} {m d : Nat} (h : o = some (m, d)) : ∃ m' d', pk1 o n x = some (m', d') ∧ d' ≤ d := by
  subst h
  cases x with
  | none => exact ⟨m, d, rfl, Nat.le_refl _⟩
  | some c =>
    simp only [pk1]
    split
    · exact ⟨n, c, rfl, by omega⟩
    · exact ⟨m, d, rfl, Nat.le_refl _⟩

theorem pk1_new {o : Cho} {n c : Nat} : ∃ m' d', pk1 o n (some c) = some (m', d') ∧ d' ≤ c := by
  cases o with
  | none => exact ⟨n, c, rfl, Nat.le_refl _⟩
  | some p =>
    obtain ⟨m, d⟩ := p
    simp only [pk1]
    split
    · exact ⟨n, c, rfl, Nat.le_refl _⟩
    · exact ⟨m, d, rfl, by omega⟩

theorem pk1_of {o : Cho} {n : Nat} {x : Option Nat} {m d : Nat} (h : pk1 o n x = some (m, d)) : o = some (m, d) ∨ (m = n ∧ x = some d) := by
  cases x with
  | none => exact .inl h
  | some c =>
    cases o with
    | none =>
      simp only [pk1, Option.some.injEq, Prod.mk.injEq] at h
      exact .inr ⟨h.1.symm, by rw [h.2]⟩
    | some p =>
      obtain ⟨m', d'⟩ := p
      simp only [pk1] at h
      split at h
      · simp only [Option.some.injEq, Prod.mk.injEq] at h
        exact .inr ⟨h.1.symm, by rw [h.2]⟩
      · exact .inl h

theorem pkF_le {l : List Tm} {t : Tm} {h : Nat → Cho} : ∀ {ts : List Ti} {n : Nat} {o : Cho} {m d : Nat}, o = some (m, d) → ∃ m' d', pkF l t h n ts o = some (m', d') ∧ d' ≤ d
  | [], _, _, m, d, ho => ⟨m, d, ho, Nat.le_refl _⟩
  | ti :: r, n, o, m, d, ho => by
    obtain ⟨m1, d1, h1, h2⟩ := pk1_le (n := n) (x := wayC l t h ti) ho
    obtain ⟨m', d', h3, h4⟩ := pkF_le (l := l) (t := t) (h := h) (ts := r) (n := n + 1) h1
    exact ⟨m', d', h3, by omega⟩

/-- no tile is cheaper -/
theorem pkF_least {l : List Tm} {t : Tm} {h : Nat → Cho} : ∀ {ts : List Ti} {n : Nat} {o : Cho} {ti : Ti} {c : Nat}, ti ∈ ts → wayC l t h ti = some c → ∃ m' d', pkF l t h n ts o = some (m', d') ∧ d' ≤ c
  | [], _, _, _, _, hm, _ => by cases hm
  | tj :: r, n, o, ti, c, hm, hw => by
    rcases List.mem_cons.1 hm with rfl | hm
    · obtain ⟨m1, d1, h1, h2⟩ := pk1_new (o := o) (n := n) (c := c)
      rw [← hw] at h1
      obtain ⟨m', d', h3, h4⟩ := pkF_le (l := l) (t := t) (h := h) (ts := r) (n := n + 1) h1
      exact ⟨m', d', h3, by omega⟩
    · exact pkF_least (ts := r) (n := n + 1) hm hw

/-- what is chosen is a tile's -/
theorem pkF_of {l : List Tm} {t : Tm} {h : Nat → Cho} : ∀ {ts : List Ti} {n : Nat} {o : Cho} {m d : Nat}, pkF l t h n ts o = some (m, d) →
    o = some (m, d) ∨ ∃ i ti, ts[i]? = some ti ∧ m = n + i ∧ wayC l t h ti = some d
  | [], _, _, _, _, h => .inl h
  | ti :: r, n, o, m, d, h => by
    rcases pkF_of (ts := r) (n := n + 1) h with h1 | ⟨i, tj, h1, h2, h3⟩
    · rcases pk1_of h1 with h2 | ⟨h2, h3⟩
      · exact .inl h2
      · exact .inr ⟨0, ti, rfl, by omega, h3⟩
    · exact .inr ⟨i + 1, tj, by simpa using h1, by omega, h3⟩

/-- a term's own tile -/
def tlA (l : List Tm) (ts : List Ti) (i : Nat) : Ti := match cho l ts i with
  | none => tiz
  | some (n, _) => ts.getD n tiz

/-- W1: its leaves, where it has a way -/
def lvB (l : List Tm) (ts : List Ti) (i : Nat) : List Nat := match cho l ts i with
  | none => []
  | some _ => lvs l (tmA l i) (tlA l ts i)

theorem tlA_of {l : List Tm} {ts : List Ti} {i n c : Nat} {ti : Ti} (h : cho l ts i = some (n, c)) (hn : ts[n]? = some ti) : tlA l ts i = ti := by
  unfold tlA
  rw [h]
  show ts.getD n tiz = ti
  rw [List.getD_eq_getElem?_getD, hn, Option.getD_some]

theorem lvB_of {l : List Tm} {ts : List Ti} {i : Nat} (h : cho l ts i ≠ none) : lvB l ts i = lvs l (tmA l i) (tlA l ts i) := by
  unfold lvB
  cases hc : cho l ts i with
  | none => exact absurd hc h
  | some p => rfl

theorem lvB_none {l : List Tm} {ts : List Ti} {i : Nat} (h : cho l ts i = none) : lvB l ts i = [] := by
  unfold lvB
  rw [h]

/-- what a term's way is -/
theorem cho_some {vars : Int} {l : List Tm} (hc : ckTerms vars l = 0) {ts : List Ti} {i n c : Nat} (h : cho l ts i = some (n, c)) :
    n < ts.length ∧ ts[n]? = some (tlA l ts i) ∧ tlA l ts i ∈ ts ∧ mtc l (tmA l i) (tlA l ts i) = true ∧ csW (cho l ts) (lvB l ts i) (tlA l ts i).c.toNat = some c ∧ lvB l ts i = lvs l (tmA l i) (tlA l ts i) := by
  have h0 := h
  rw [cho_eq hc] at h0
  rcases pkF_of h0 with h1 | ⟨k, ti, h1, h2, h3⟩
  · cases h1
  · rw [Nat.zero_add] at h2
    subst h2
    have e := tlA_of h h1
    have e2 := lvB_of (l := l) (ts := ts) (i := i) (by rw [h]; intro x; cases x)
    unfold wayC at h3
    split at h3
    · rename_i hm
      rw [e2, e]
      exact ⟨(List.getElem?_eq_some_iff.1 h1).1, h1, List.mem_of_getElem? h1, hm, h3, rfl⟩
    · cases h3

theorem csW_all {h : Nat → Cho} : ∀ {js : List Nat} {c d : Nat}, csW h js c = some d → ∀ j ∈ js, h j ≠ none
  | [], _, _, _, j, hj => by cases hj
  | k :: r, c, d, hs, j, hj => by
    simp only [csW] at hs
    cases hk : h k with
    | none => rw [hk] at hs; cases hs
    | some p =>
      rw [hk] at hs
      rcases List.mem_cons.1 hj with rfl | hj
      · rw [hk]; intro x; cases x
      · exact csW_all hs j hj

/-- what a term's way costs -/
def coA (l : List Tm) (ts : List Ti) (i : Nat) : Nat := match cho l ts i with
  | none => 0
  | some (_, c) => c

theorem coA_of {l : List Tm} {ts : List Ti} {i n c : Nat} (h : cho l ts i = some (n, c)) : coA l ts i = c := by
  unfold coA
  rw [h]

/-- a sum over a list -/
def smL (f : Nat → Nat) : List Nat → Nat
  | [] => 0
  | j :: r => f j + smL f r

theorem smL_app (f : Nat → Nat) : ∀ a b : List Nat, smL f (a ++ b) = smL f a + smL f b
  | [], b => by simp [smL]
  | j :: r, b => by simp only [List.cons_append, smL, smL_app f r b]; omega

theorem csW_sum {l : List Tm} {ts : List Ti} : ∀ {js : List Nat} {c d : Nat}, csW (cho l ts) js c = some d → d = c + smL (coA l ts) js
  | [], c, d, h => by simp [csW] at h; simp [smL, h]
  | k :: r, c, d, h => by
    simp only [csW] at h
    cases hk : cho l ts k with
    | none => rw [hk] at h; cases h
    | some p =>
      obtain ⟨n, x⟩ := p
      rw [hk] at h
      have := csW_sum (js := r) h
      simp only [smL, coA_of hk]
      omega

theorem lvB_some {vars : Int} {l : List Tm} (hc : ckTerms vars l = 0) {ts : List Ti} {i j : Nat} (h : j ∈ lvB l ts i) : cho l ts j ≠ none := by
  cases hi : cho l ts i with
  | none => rw [lvB_none hi] at h; cases h
  | some p =>
    obtain ⟨n, c⟩ := p
    exact csW_all (cho_some hc hi).2.2.2.2.1 j h

theorem lvB_less {vars : Int} {l : List Tm} (hc : ckTerms vars l = 0) {ts : List Ti} {i j : Nat} (h : j ∈ lvB l ts i) : j < i ∧ i < l.length := by
  cases hi : cho l ts i with
  | none => rw [lvB_none hi] at h; cases h
  | some p =>
    rw [lvB_of (by rw [hi]; intro x; cases x)] at h
    exact lvs_less hc h

/-! ### No way costs much -/

/-- at most this for each leaf -/
theorem csW_bd {h : Nat → Cho} {M : Nat} : ∀ {js : List Nat} {c d : Nat}, (∀ j ∈ js, ∀ n x, h j = some (n, x) → x ≤ M) → csW h js c = some d → d ≤ c + js.length * M
  | [], c, d, _, hs => by simp [csW] at hs; omega
  | k :: r, c, d, hb, hs => by
    simp only [csW] at hs
    cases hk : h k with
    | none => rw [hk] at hs; cases hs
    | some p =>
      obtain ⟨n, x⟩ := p
      rw [hk] at hs
      have h1 := hb k (by simp) n x hk
      have h2 := csW_bd (js := r) (fun j hj => hb j (by simp [hj])) hs
      rw [List.length_cons, Nat.add_mul, Nat.one_mul]
      omega

theorem cho_pow {vars : Int} {l : List Tm} (hc : ckTerms vars l = 0) {ts : List Ti} (hts : ∀ t ∈ ts, TiOk t) : ∀ i n c, cho l ts i = some (n, c) → c ≤ 100 * 5 ^ i := by
  intro i
  induction i using Nat.strongRecOn with
  | ind i ih =>
    intro n c h
    obtain ⟨_, _, hm, _, hw, hl⟩ := cho_some hc h
    have hk := hts _ hm
    have hc0 := hk.c0
    have hc9 := hk.c99
    rcases Nat.eq_zero_or_pos i with h0 | h0
    · subst h0
      have he : lvB l ts 0 = [] := by
        cases hlv : lvB l ts 0 with
        | nil => rfl
        | cons j r =>
          have := lvB_less hc (ts := ts) (i := 0) (j := j) (by rw [hlv]; simp)
          omega
      rw [he] at hw
      simp [csW] at hw
      omega
    · obtain ⟨k, rfl⟩ : ∃ k, i = k + 1 := ⟨i - 1, by omega⟩
      have hb := csW_bd (M := 100 * 5 ^ k) (fun j hj n x hx => by
        have hj2 := (lvB_less hc hj).1
        have h1 := ih j hj2 n x hx
        have h2 : 5 ^ j ≤ 5 ^ k := Nat.pow_le_pow_right (by omega) (by omega)
        omega) hw
      have hlen : (lvB l ts (k + 1)).length ≤ 4 := by rw [hl]; exact lvs_len _ _ _
      have h3 : (lvB l ts (k + 1)).length * (100 * 5 ^ k) ≤ 4 * (100 * 5 ^ k) := Nat.mul_le_mul_right _ hlen
      have h4 : 1 ≤ 5 ^ k := Nat.one_le_pow _ _ (by omega)
      rw [Nat.pow_succ]
      omega

def bigC : Nat := 3051757812500

theorem cho_big {vars : Int} {l : List Tm} (hc : ckTerms vars l = 0) {ts : List Ti} (hts : ∀ t ∈ ts, TiOk t) {i n c : Nat} (h : cho l ts i = some (n, c)) : c ≤ bigC := by
  have h1 := cho_pow hc hts i n c h
  have hbd := ckTerms_bd hc
  rcases Nat.lt_or_ge i l.length with hi | hi
  · have h2 : 5 ^ i ≤ 5 ^ 15 := Nat.pow_le_pow_right (by omega) (by omega)
    have h3 : (5 : Nat) ^ 15 = 30517578125 := by decide
    unfold bigC
    omega
  · obtain ⟨_, _, hm, hmt, hw, hl⟩ := cho_some hc h
    have hk := hts _ hm
    rw [tmA_out hi] at hmt
    have := (mtc_iff.1 hmt).1
    have h5 := hk.op1
    have h6 : tz.op = 0 := rfl
    omega

/-- one tile more costs no more -/
theorem cho_more {vars : Int} {l : List Tm} (hc : ckTerms vars l = 0) {ts : List Ti} (x : Ti) : ∀ i n c, cho l ts i = some (n, c) → ∃ n' c', cho l (ts ++ [x]) i = some (n', c') ∧ c' ≤ c := by
  have hw : ∀ {i : Nat}, (∀ j, j < i → ∀ n c, cho l ts j = some (n, c) → ∃ n' c', cho l (ts ++ [x]) j = some (n', c') ∧ c' ≤ c) → ∀ (js : List Nat) (c d c' : Nat), (∀ j ∈ js, j < i) → c' ≤ c → csW (cho l ts) js c = some d → ∃ d', csW (cho l (ts ++ [x])) js c' = some d' ∧ d' ≤ d := by
    intro i ih js
    induction js with
    | nil =>
      intro c d c' _ hle h
      simp [csW] at h
      exact ⟨c', rfl, by omega⟩
    | cons k r ihr =>
      intro c d c' hj hle h
      simp only [csW] at h
      cases hk : cho l ts k with
      | none => rw [hk] at h; cases h
      | some p =>
        obtain ⟨n, y⟩ := p
        rw [hk] at h
        obtain ⟨n', y', h1, h2⟩ := ih k (hj k (by simp)) n y hk
        obtain ⟨d', h3, h4⟩ := ihr (c + y) d (c' + y') (fun j hj2 => hj j (by simp [hj2])) (by omega) h
        refine ⟨d', ?_, h4⟩
        simp only [csW]
        rw [h1]
        exact h3
  intro i
  induction i using Nat.strongRecOn with
  | ind i ih =>
    intro n c h
    obtain ⟨_, _, hm, hmt, hcs, hl⟩ := cho_some hc h
    obtain ⟨d', h1, h2⟩ := hw ih (lvB l ts i) _ c _ (fun j hj => (lvB_less hc hj).1) (Nat.le_refl _) hcs
    rw [hl] at h1
    have h3 : wayC l (tmA l i) (cho l (ts ++ [x])) (tlA l ts i) = some d' := by
      unfold wayC
      rw [if_pos hmt]
      exact h1
    obtain ⟨n', c', h4, h5⟩ := pkF_least (ts := ts ++ [x]) (n := 0) (o := none) (List.mem_append_left _ hm) h3
    rw [← cho_eq hc] at h4
    exact ⟨n', c', h4, by omega⟩

/-! ### The cover -/

/-- a cover as words of tiles' numbers, -1 for none -/
def tlN (l : List Tm) (ts : List Ti) (i : Nat) : Int := match cho l ts i with
  | none => -1
  | some (n, _) => n

theorem tlN_of {l : List Tm} {ts : List Ti} {i n c : Nat} (h : cho l ts i = some (n, c)) : tlN l ts i = n := by
  unfold tlN
  rw [h]

theorem tlN_ne {l : List Tm} {ts : List Ti} {i : Nat} (h : cho l ts i ≠ none) : tlN l ts i ≠ -1 := by
  cases hc : cho l ts i with
  | none => exact absurd hc h
  | some p =>
    obtain ⟨n, c⟩ := p
    rw [tlN_of hc]
    omega

/-- all leaves get their tiles -/
def putL (l : List Tm) (ts : List Ti) : List Nat → List Int → List Int
  | [], c => c
  | j :: r, c => putL l ts r (c.set j (tlN l ts j))

/-- one term's turn -/
def cvS (l : List Tm) (ts : List Ti) (c : List Int) (i : Nat) : List Int := if c.getD i (-1) = -1 then c else putL l ts (lvB l ts i) c

/-- what a cover being made holds -/
structure CvI (l : List Tm) (ts : List Ti) (c : List Int) : Prop where
  len : c.length = l.length
  own : ∀ j, j < l.length → c.getD j (-1) = -1 ∨ (c.getD j (-1) = tlN l ts j ∧ cho l ts j ≠ none)

theorem set_getI {c : List Int} {i j : Nat} {x : Int} (hi : i < c.length) : (c.set i x).getD j (-1) = if i = j then x else c.getD j (-1) := by
  simp only [List.getD_eq_getElem?_getD, List.getElem?_set]
  split
  · first | rfl | (rw [if_pos (by omega)]; rfl)
  · rfl

theorem CvI.set {l : List Tm} {ts : List Ti} {c : List Int} (h : CvI l ts c) {j : Nat} (hj : j < l.length) (hs : cho l ts j ≠ none) : CvI l ts (c.set j (tlN l ts j)) := by
  refine ⟨by rw [List.length_set]; exact h.len, fun k hk => ?_⟩
  rw [set_getI (by rw [h.len]; exact hj)]
  split
  · rename_i e
    subst e
    exact .inr ⟨rfl, hs⟩
  · exact h.own k hk

theorem CvI.put {l : List Tm} {ts : List Ti} : ∀ {js : List Nat} {c : List Int}, CvI l ts c → (∀ j ∈ js, j < l.length ∧ cho l ts j ≠ none) → CvI l ts (putL l ts js c)
  | [], _, h, _ => h
  | j :: r, c, h, hs => CvI.put (js := r) (h.set (hs j (by simp)).1 (hs j (by simp)).2) fun k hk => hs k (by simp [hk])

theorem CvI.step {vars : Int} {l : List Tm} {ts : List Ti} {c : List Int} (hc : ckTerms vars l = 0) (h : CvI l ts c) (i : Nat) : CvI l ts (cvS l ts c i) := by
  unfold cvS
  split
  · exact h
  · exact h.put fun j hj => ⟨by have := lvB_less hc hj; omega, lvB_some hc hj⟩

theorem CvI.fold {vars : Int} {l : List Tm} {ts : List Ti} (hc : ckTerms vars l = 0) : ∀ {is : List Nat} {c : List Int}, CvI l ts c → CvI l ts (is.foldl (cvS l ts) c)
  | [], _, h => h
  | i :: r, _, h => CvI.fold hc (is := r) (h.step hc i)

theorem CvI.at_ {vars : Int} {l : List Tm} {ts : List Ti} {c : List Int} (hc : ckTerms vars l = 0) (h : CvI l ts c) {i : Nat} (hi : i < l.length) (hn : c.getD i (-1) ≠ -1) :
    ∃ n x, c[i]? = some ((n : Nat) : Int) ∧ cho l ts i = some (n, x) := by
  rcases h.own i hi with h1 | ⟨h1, h2⟩
  · exact absurd h1 hn
  · cases hx : cho l ts i with
    | none => exact absurd hx h2
    | some p =>
      obtain ⟨n, x⟩ := p
      rw [tlN_of hx] at h1
      have e := List.getElem?_eq_getElem (show i < c.length by rw [h.len]; exact hi)
      refine ⟨n, x, ?_, rfl⟩
      rw [e]
      rw [List.getD_eq_getElem?_getD, e, Option.getD_some] at h1
      rw [h1]

theorem putL_out {l : List Tm} {ts : List Ti} : ∀ {js : List Nat} {c : List Int} {k : Nat}, (∀ j ∈ js, j < c.length) → k ∉ js → (putL l ts js c).getD k (-1) = c.getD k (-1)
  | [], _, _, _, _ => rfl
  | j :: r, c, k, hs, hk => by
    simp only [List.mem_cons, not_or] at hk
    rw [putL, putL_out (js := r) (fun i hi => by rw [List.length_set]; exact hs i (by simp [hi])) hk.2, set_getI (hs j (by simp)), if_neg (by omega)]

theorem putL_in {l : List Tm} {ts : List Ti} : ∀ {js : List Nat} {c : List Int} {k : Nat}, (∀ j ∈ js, j < c.length) → k ∈ js → (putL l ts js c).getD k (-1) = tlN l ts k
  | [], _, _, _, hk => by cases hk
  | j :: r, c, k, hs, hk => by
    have hs' : ∀ i ∈ r, i < (c.set j (tlN l ts j)).length := fun i hi => by rw [List.length_set]; exact hs i (by simp [hi])
    rw [putL]
    by_cases hr : k ∈ r
    · exact putL_in hs' hr
    · rw [putL_out hs' hr, set_getI (hs j (by simp))]
      rcases List.mem_cons.1 hk with rfl | h
      · rw [if_pos rfl]
      · exact absurd h hr

/-- the cover at the start: the last term's tile alone -/
def cv0 (l : List Tm) (ts : List Ti) : List Int := (List.replicate l.length (-1)).set (l.length - 1) (tlN l ts (l.length - 1))

/-- the terms from the last one on, so many -/
def dwn (n : Nat) : Nat → List Nat
  | 0 => []
  | k + 1 => dwn n k ++ [n - 1 - k]

/-- W1: the cover -/
def cvL (l : List Tm) (ts : List Ti) : List Int := (dwn l.length l.length).foldl (cvS l ts) (cv0 l ts)

theorem cv0_get {l : List Tm} {ts : List Ti} (hl : 0 < l.length) (j : Nat) : (cv0 l ts).getD j (-1) = if l.length - 1 = j then tlN l ts j else -1 := by
  unfold cv0
  rw [set_getI (by rw [List.length_replicate]; omega)]
  split
  · rename_i h
    rw [h]
  · rw [List.getD_eq_getElem?_getD, List.getElem?_replicate]
    split <;> rfl

theorem CvI.start {l : List Tm} {ts : List Ti} (hl : 0 < l.length) (h : cho l ts (l.length - 1) ≠ none) : CvI l ts (cv0 l ts) := by
  refine ⟨by simp [cv0], fun j hj => ?_⟩
  rw [cv0_get hl]
  split
  · rename_i e
    rw [← e]
    exact .inr ⟨rfl, h⟩
  · exact .inl rfl

/-- a term has a tile just if it is the last one, or a leaf of one that has -/
structure CvR (l : List Tm) (ts : List Ti) (c : List Int) (k : Nat) : Prop where
  ok : CvI l ts c
  iff : ∀ j, j < l.length → (c.getD j (-1) ≠ -1 ↔ j = l.length - 1 ∨ ∃ i, l.length ≤ i + k ∧ i < l.length ∧ c.getD i (-1) ≠ -1 ∧ j ∈ lvB l ts i)

theorem CvR.step {vars : Int} {l : List Tm} {ts : List Ti} {c : List Int} {k : Nat} (hc : ckTerms vars l = 0) (h : CvR l ts c k) (hk : k < l.length) : CvR l ts (cvS l ts c (l.length - 1 - k)) (k + 1) := by
  have hlen := h.ok.len
  have hin : ∀ j ∈ lvB l ts (l.length - 1 - k), j < c.length := fun j hj => by
    have := lvB_less hc hj
    omega
  refine ⟨h.ok.step hc _, fun j hj => ?_⟩
  unfold cvS
  split
  · rename_i h0
    rw [h.iff j hj]
    refine or_congr Iff.rfl ⟨fun ⟨i, h1, h2, h3, h4⟩ => ⟨i, by omega, h2, h3, h4⟩, fun ⟨i, h1, h2, h3, h4⟩ => ⟨i, ?_, h2, h3, h4⟩⟩
    rcases Nat.lt_or_ge (i + k) l.length with h5 | h5
    · have : i = l.length - 1 - k := by omega
      subst this
      exact absurd h0 h3
    · exact h5
  · rename_i h0
    have hhi : ∀ i, l.length ≤ i + (k + 1) → (putL l ts (lvB l ts (l.length - 1 - k)) c).getD i (-1) = c.getD i (-1) := fun i hi => putL_out hin fun hm => by
      have := lvB_less hc hm
      omega
    by_cases hm : j ∈ lvB l ts (l.length - 1 - k)
    · rw [putL_in hin hm]
      refine ⟨fun _ => .inr ⟨l.length - 1 - k, by omega, by omega, ?_, hm⟩, fun _ => tlN_ne (lvB_some hc hm)⟩
      rw [hhi _ (by omega)]
      exact h0
    · rw [putL_out hin hm, h.iff j hj]
      refine or_congr Iff.rfl ⟨fun ⟨i, h1, h2, h3, h4⟩ => ⟨i, by omega, h2, by rw [hhi i (by omega)]; exact h3, h4⟩, fun ⟨i, h1, h2, h3, h4⟩ => ⟨i, ?_, h2, by rw [hhi i h1] at h3; exact h3, h4⟩⟩
      rcases Nat.lt_or_ge (i + k) l.length with h5 | h5
      · have : i = l.length - 1 - k := by omega
        subst this
        exact absurd h4 hm
      · exact h5

theorem CvR.go {vars : Int} {l : List Tm} {ts : List Ti} (hc : ckTerms vars l = 0) (h : cho l ts (l.length - 1) ≠ none) : ∀ k, k ≤ l.length → CvR l ts ((dwn l.length k).foldl (cvS l ts) (cv0 l ts)) k
  | 0, _ => by
    have hb := ckTerms_bd hc
    refine ⟨CvI.start hb.2.2.1 h, fun j hj => ?_⟩
    show (cv0 l ts).getD j (-1) ≠ -1 ↔ _
    rw [cv0_get hb.2.2.1]
    split
    · rename_i e
      rw [← e]
      exact ⟨fun _ => .inl rfl, fun _ => tlN_ne h⟩
    · rename_i e
      refine ⟨fun hn => absurd rfl hn, fun hn => ?_⟩
      rcases hn with h1 | ⟨i, h1, h2, _⟩
      · exact absurd h1.symm e
      · omega
  | k + 1, hk => by
    rw [dwn, List.foldl_append]
    exact (CvR.go hc h k (by omega)).step hc (by omega)

/-- W1: the cover, done -/
structure CvD (l : List Tm) (ts : List Ti) (c : List Int) : Prop where
  ok : CvI l ts c
  iff : ∀ j, j < l.length → (c.getD j (-1) ≠ -1 ↔ j = l.length - 1 ∨ ∃ i, i < l.length ∧ c.getD i (-1) ≠ -1 ∧ j ∈ lvB l ts i)

theorem cvL_done {vars : Int} {l : List Tm} {ts : List Ti} (hc : ckTerms vars l = 0) (h : cho l ts (l.length - 1) ≠ none) : CvD l ts (cvL l ts) := by
  have hr := CvR.go hc h l.length (Nat.le_refl _)
  refine ⟨hr.ok, fun j hj => ?_⟩
  have := hr.iff j hj
  refine this.trans (or_congr Iff.rfl ⟨fun ⟨i, _, h2, h3, h4⟩ => ⟨i, h2, h3, h4⟩, fun ⟨i, h2, h3, h4⟩ => ⟨i, by omega, h2, h3, h4⟩⟩)

/-! ### In a tree each term with a tile is come to once -/

theorem used_ge {l : List Tm} : ∀ {i j : Nat} {t : Tm}, l[i]? = some t → 3 ≤ t.op → (t.a = (j : Int) ∨ t.b = (j : Int)) → 1 ≤ usedN l j := by
  induction l with
  | nil => intro i j t h; simp at h
  | cons u r ih =>
    intro i j t h ho hx
    rw [usedN]
    cases i with
    | zero =>
      simp at h
      subst h
      rw [if_pos ho]
      rcases hx with h1 | h1
      · rw [if_pos h1]; omega
      · rw [if_pos h1]; omega
    | succ i =>
      have := ih (i := i) (by simpa using h) ho hx
      omega

theorem used_both {l : List Tm} : ∀ {i j : Nat} {t : Tm}, l[i]? = some t → 3 ≤ t.op → t.a = (j : Int) → t.b = (j : Int) → 2 ≤ usedN l j := by
  induction l with
  | nil => intro i j t h; simp at h
  | cons u r ih =>
    intro i j t h ho ha hb
    rw [usedN]
    cases i with
    | zero =>
      simp at h
      subst h
      rw [if_pos ho, if_pos ha, if_pos hb]
      omega
    | succ i =>
      have := ih (i := i) (by simpa using h) ho ha hb
      omega

theorem used_two {l : List Tm} : ∀ {i k j : Nat} {t u : Tm}, l[i]? = some t → l[k]? = some u → i < k → 3 ≤ t.op → 3 ≤ u.op → (t.a = (j : Int) ∨ t.b = (j : Int)) → (u.a = (j : Int) ∨ u.b = (j : Int)) → 2 ≤ usedN l j := by
  induction l with
  | nil => intro i k j t u h; simp at h
  | cons x r ih =>
    intro i k j t u h h' hik ho ho' hx hx'
    rw [usedN]
    obtain ⟨k, rfl⟩ : ∃ m, k = m + 1 := ⟨k - 1, by omega⟩
    have h2 : r[k]? = some u := by simpa using h'
    cases i with
    | zero =>
      simp at h
      subst h
      have := used_ge h2 ho' hx'
      rw [if_pos ho]
      rcases hx with h1 | h1
      · rw [if_pos h1]; omega
      · rw [if_pos h1]; omega
    | succ i =>
      have := ih (i := i) (k := k) (by simpa using h) h2 (by omega) ho ho' hx hx'
      omega

theorem used_ex {l : List Tm} : ∀ {j : Nat}, 1 ≤ usedN l j → ∃ (i : Nat) (t : Tm), l[i]? = some t ∧ 3 ≤ t.op ∧ (t.a = (j : Int) ∨ t.b = (j : Int)) := by
  induction l with
  | nil => intro j h; exact absurd h (by simp [usedN])
  | cons u r ih =>
    intro j h
    by_cases h1 : 1 ≤ usedN r j
    · obtain ⟨i, t, h2, h3, h4⟩ := ih h1
      exact ⟨i + 1, t, by simpa using h2, h3, h4⟩
    · rw [usedN] at h
      by_cases ho : 3 ≤ u.op
      · rw [if_pos ho] at h
        refine ⟨0, u, rfl, ho, ?_⟩
        by_cases ha : u.a = (j : Int)
        · exact .inl ha
        · by_cases hb : u.b = (j : Int)
          · exact .inr hb
          · rw [if_neg ha, if_neg hb] at h
            omega
      · rw [if_neg ho] at h
        omega

/-- j is an operand of i -/
def Opd (l : List Tm) (i j : Nat) : Prop := i < l.length ∧ 3 ≤ (tmA l i).op ∧ ((tmA l i).a = (j : Int) ∨ (tmA l i).b = (j : Int))

theorem tm_get {l : List Tm} {i : Nat} (h : i < l.length) : l[i]? = some (tmA l i) := by
  rw [List.getElem?_eq_getElem h, ← tmA_at (List.getElem?_eq_getElem h)]

theorem opd_one {l : List Tm} (ht : treeL l) {i k j : Nat} (hj : j < l.length - 1) (h : Opd l i j) (h' : Opd l k j) : i = k := by
  have h1 := ht j hj
  rcases Nat.lt_trichotomy i k with h2 | h2 | h2
  · have := used_two (tm_get h.1) (tm_get h'.1) h2 h.2.1 h'.2.1 h.2.2 h'.2.2
    omega
  · exact h2
  · have := used_two (tm_get h'.1) (tm_get h.1) h2 h'.2.1 h.2.1 h'.2.2 h.2.2
    omega

theorem opd_side {l : List Tm} (ht : treeL l) {i j : Nat} (hj : j < l.length - 1) (hi : i < l.length) (ho : 3 ≤ (tmA l i).op) : ¬ ((tmA l i).a = (j : Int) ∧ (tmA l i).b = (j : Int)) := fun ⟨h1, h2⟩ => by
  have := used_both (tm_get hi) ho h1 h2
  have := ht j hj
  omega

/-- a leaf is an operand that is not covered, or an operand of a covered one -/
theorem lvAt_opd {vars : Int} {l : List Tm} (hc : ckTerms vars l = 0) {m j : Nat} {op : Int} (h : j ∈ lvAt l m op) : (op = 0 ∧ j = m) ∨ (op ≠ 0 ∧ Opd l m j) := by
  unfold lvAt at h
  split at h
  · rename_i h0
    simp at h
    exact .inl ⟨h0, h⟩
  · rename_i h0
    split at h
    · cases h
    · rename_i ho
      have hl := tmA_less hc ho
      refine .inr ⟨h0, hl.1, by omega, ?_⟩
      simp at h
      rcases h with h | h
      · exact .inl (by omega)
      · exact .inr (by omega)

/-- the operands of a term that has a tile, where that covers them, have none -/
theorem CvD.hid {vars : Int} {l : List Tm} {ts : List Ti} {c : List Int} (hc : ckTerms vars l = 0) (ht : treeL l) (h : CvD l ts c) : ∀ d i, l.length - i = d → i < l.length → c.getD i (-1) ≠ -1 → 3 ≤ (tmA l i).op →
    ((tlA l ts i).lt ≠ 0 → ¬ c.getD (tmA l i).a.toNat (-1) ≠ -1) ∧ ((tlA l ts i).rt ≠ 0 → ¬ c.getD (tmA l i).b.toNat (-1) ≠ -1) := by
  intro d
  induction d using Nat.strongRecOn with
  | ind d ih =>
    intro i hd hi hR ho
    have hl := tmA_less hc (l := l) (i := i) (by omega)
    -- the term above, were it covered
    have key : ∀ (a : Nat), a < i → ((tmA l i).a = (a : Int) ∨ (tmA l i).b = (a : Int)) → c.getD a (-1) ≠ -1 →
        ((tmA l i).a = (a : Int) ∧ (tlA l ts i).lt = 0) ∨ ((tmA l i).b = (a : Int) ∧ (tlA l ts i).rt = 0) := by
      intro a ha hop hRa
      have hoi : Opd l i a := ⟨hi, ho, hop⟩
      rcases (h.iff a (by omega)).1 hRa with h1 | ⟨k, hk, hRk, hm⟩
      · omega
      · have hsome : cho l ts k ≠ none := by
          rcases h.ok.own k hk with h2 | h2
          · exact absurd h2 hRk
          · exact h2.2
        rw [lvB_of hsome] at hm
        unfold lvs at hm
        split at hm
        · cases hm
        · rename_i hok
          have hlk := tmA_less hc hok
          have hcase : ∀ (m : Nat) (op : Int), a ∈ lvAt l m op → ((tmA l k).a = (m : Int) ∧ op = (tlA l ts k).lt ∨ (tmA l k).b = (m : Int) ∧ op = (tlA l ts k).rt) → ((tmA l i).a = (a : Int) ∧ (tlA l ts i).lt = 0) ∨ ((tmA l i).b = (a : Int) ∧ (tlA l ts i).rt = 0) := by
            intro m op hx hy
            rcases lvAt_opd hc hx with ⟨h0, rfl⟩ | ⟨h0, hox⟩
            · have : i = k := opd_one ht (j := a) (by omega) hoi ⟨hk, by omega, by rcases hy with hy | hy; exact .inl hy.1; exact .inr hy.1⟩
              subst this
              rcases hy with ⟨h2, h3⟩ | ⟨h2, h3⟩
              · exact .inl ⟨h2, by omega⟩
              · exact .inr ⟨h2, by omega⟩
            · have hmi : i = m := opd_one ht (j := a) (by omega) hoi hox
              subst hmi
              exfalso
              have hik : i < k := by rcases hy with hy | hy <;> omega
              have := ih (l.length - k) (by omega) k rfl hk hRk (by omega)
              rcases hy with ⟨h2, h3⟩ | ⟨h2, h3⟩
              · refine this.1 (by omega) ?_
                rw [h2, Int.toNat_natCast]
                exact hR
              · refine this.2 (by omega) ?_
                rw [h2, Int.toNat_natCast]
                exact hR
          rcases List.mem_append.1 hm with hm | hm
          · exact hcase _ _ hm (.inl ⟨by omega, rfl⟩)
          · exact hcase _ _ hm (.inr ⟨by omega, rfl⟩)
    refine ⟨fun h0 hRa => ?_, fun h0 hRa => ?_⟩
    · rcases key _ hl.2.1 (.inl (by omega)) hRa with ⟨h1, h2⟩ | ⟨h1, h2⟩
      · exact h0 h2
      · exact opd_side ht (j := (tmA l i).a.toNat) (by omega) hi ho ⟨by omega, h1⟩
    · rcases key _ hl.2.2.1 (.inr (by omega)) hRa with ⟨h1, h2⟩ | ⟨h1, h2⟩
      · exact opd_side ht (j := (tmA l i).b.toNat) (by omega) hi ho ⟨h1, by omega⟩
      · exact h0 h2

/-! ### How many there are -/

def cnS (l : List Tm) (ts : List Ti) (h : Nat → Nat) (i : Nat) : Nat := 1 + smL h (lvB l ts i)

/-- how many tiles a term's way has -/
def cnA (l : List Tm) (ts : List Ti) : Nat → Nat := fixA 0 (cnS l ts)

theorem smL_same {f g : Nat → Nat} : ∀ {js : List Nat}, (∀ j ∈ js, f j = g j) → smL f js = smL g js
  | [], _ => rfl
  | j :: r, h => by rw [smL, smL, h j (by simp), smL_same (js := r) fun k hk => h k (by simp [hk])]

theorem cnA_eq {vars : Int} {l : List Tm} (hc : ckTerms vars l = 0) (ts : List Ti) (i : Nat) : cnA l ts i = 1 + smL (cnA l ts) (lvB l ts i) :=
  fixA_eq (st := cnS l ts) (fun h h' i hs => by unfold cnS; rw [smL_same fun j hj => hs j (lvB_less hc hj).1]) i

/-- the sum of all weights, by operands -/
theorem tree_sumI {vars : Int} {l : List Tm} (hc : ckTerms vars l = 0) (ht : treeL l) (w : Nat → Nat) (g : Nat → Nat)
    (hg : ∀ i, i < l.length → g i = w i + if 3 ≤ (tmA l i).op then g (tmA l i).a.toNat + g (tmA l i).b.toNat else 0) : g (l.length - 1) = sumN w l.length := by
  have hbd := ckTerms_bd hc
  have hall : ∀ k, k ≤ l.length → sumN g k = sumN w k + opSum g (l.take k) := by
    intro k
    induction k with
    | zero => intro _; simp [sumN, opSum]
    | succ k ih =>
      intro hk
      have hkl : k < l.length := by omega
      rw [sumN, ih (by omega), hg k hkl, List.take_succ_eq_append_getElem hkl, opSum_append, sumN, tmA_at (List.getElem?_eq_getElem hkl)]
      simp only [opSum]
      omega
  have h1 := hall l.length (Nat.le_refl _)
  rw [List.take_of_length_le (Nat.le_refl _)] at h1
  have h2 : opSum g l = sumN (fun j => usedN l j * g j) (l.length - 1) := by
    refine opSum_used g (l.length - 1) l fun t htm ho => ?_
    obtain ⟨i, hi⟩ := List.getElem?_of_mem htm
    have hil := (List.getElem?_eq_some_iff.1 hi).1
    have hcs := ckTerm_cases (ckTerms_at hc hi)
    omega
  have h3 : sumN (fun j => usedN l j * g j) (l.length - 1) = sumN g (l.length - 1) := sumN_congr fun j hj => by rw [ht j hj, Nat.one_mul]
  have h4 : sumN g l.length = sumN g (l.length - 1) + g (l.length - 1) := by
    obtain ⟨n, hn⟩ : ∃ n, l.length = n + 1 := ⟨l.length - 1, by omega⟩
    rw [hn, Nat.add_sub_cancel]
    rfl
  omega

def hasT (c : List Int) (j : Nat) : Nat := if c.getD j (-1) = -1 then 0 else 1

def sbS (l : List Tm) (c : List Int) (h : Nat → Nat) (i : Nat) : Nat := hasT c i + if 3 ≤ (tmA l i).op then h (tmA l i).a.toNat + h (tmA l i).b.toNat else 0

/-- how many terms with tiles there are below one -/
def sbA (l : List Tm) (c : List Int) : Nat → Nat := fixA 0 (sbS l c)

theorem sbA_eq {vars : Int} {l : List Tm} (hc : ckTerms vars l = 0) (c : List Int) (i : Nat) : sbA l c i = hasT c i + if 3 ≤ (tmA l i).op then sbA l c (tmA l i).a.toNat + sbA l c (tmA l i).b.toNat else 0 :=
  fixA_eq (st := sbS l c) (fun h h' i hs => by
    unfold sbS
    split
    · have := tmA_less hc (l := l) (i := i) (by omega)
      rw [hs _ this.2.1, hs _ this.2.2.1]
    · rfl) i

/-- how many terms have tiles -/
def manyT (c : List Int) : Nat := sumN (hasT c) c.length

theorem CvD.sub {vars : Int} {l : List Tm} {ts : List Ti} {c : List Int} (hc : ckTerms vars l = 0) (ht : treeL l) (h : CvD l ts c) : ∀ i, i < l.length → c.getD i (-1) ≠ -1 → sbA l c i = cnA l ts i := by
  intro i
  induction i using Nat.strongRecOn with
  | ind i ih =>
    intro hi hR
    have hsome : cho l ts i ≠ none := by
      rcases h.ok.own i hi with h2 | h2
      · exact absurd h2 hR
      · exact h2.2
    have hone : hasT c i = 1 := by unfold hasT; rw [if_neg hR]
    have hlv := lvB_of hsome
    rw [sbA_eq hc, cnA_eq hc, hone]
    by_cases ho : 3 ≤ (tmA l i).op
    · have hl := tmA_less hc (l := l) (i := i) (by omega)
      have hh := h.hid hc ht _ i rfl hi hR ho
      have hmem : ∀ j ∈ lvB l ts i, j < l.length ∧ j < i ∧ c.getD j (-1) ≠ -1 := fun j hj => by
        have h1 := lvB_less hc hj
        exact ⟨by omega, h1.1, (h.iff j (by omega)).2 (.inr ⟨i, hi, hR, hj⟩)⟩
      have hlv2 : lvB l ts i = lvAt l (tmA l i).a.toNat (tlA l ts i).lt ++ lvAt l (tmA l i).b.toNat (tlA l ts i).rt := by
        rw [hlv]
        unfold lvs
        rw [if_neg (by omega)]
      have side : ∀ (m : Nat) (op : Int), m < i → (∀ j ∈ lvAt l m op, j ∈ lvB l ts i) → (op ≠ 0 → ¬ c.getD m (-1) ≠ -1) → sbA l c m = smL (cnA l ts) (lvAt l m op) := by
        intro m op hm hin hno
        unfold lvAt at hin ⊢
        by_cases h0 : op = 0
        · rw [if_pos h0] at hin ⊢
          have := hmem m (hin m (by simp))
          rw [ih m hm this.1 this.2.2]
          simp [smL]
        · rw [if_neg h0] at hin ⊢
          have hz : hasT c m = 0 := by
            unfold hasT
            rw [if_pos (Decidable.byContradiction fun hn => hno h0 hn)]
          rw [sbA_eq hc, hz]
          by_cases ho2 : (tmA l m).op < 3
          · rw [if_pos ho2, if_neg (by omega)]
            rfl
          · rw [if_neg ho2] at hin ⊢
            rw [if_pos (by omega)]
            have ha := hmem _ (hin (tmA l m).a.toNat (by simp))
            have hb := hmem _ (hin (tmA l m).b.toNat (by simp))
            rw [ih _ ha.2.1 ha.1 ha.2.2, ih _ hb.2.1 hb.1 hb.2.2]
            simp only [smL]
            omega
      rw [if_pos ho, hlv2, smL_app, side _ _ hl.2.1 (fun j hj => by rw [hlv2]; exact List.mem_append_left _ hj) hh.1, side _ _ hl.2.2.1 (fun j hj => by rw [hlv2]; exact List.mem_append_right _ hj) hh.2]
    · rw [if_neg ho, hlv]
      unfold lvs
      rw [if_pos (by omega)]
      rfl

/-- as many terms have tiles as the last term's way has -/
theorem CvD.many {vars : Int} {l : List Tm} {ts : List Ti} {c : List Int} (hc : ckTerms vars l = 0) (ht : treeL l) (h : CvD l ts c) : manyT c = cnA l ts (l.length - 1) := by
  have hbd := ckTerms_bd hc
  have hR := (h.iff (l.length - 1) (by omega)).2 (.inl rfl)
  have h1 := tree_sumI hc ht (hasT c) (sbA l c) fun i _ => sbA_eq hc c i
  rw [← h.sub hc ht _ (by omega) hR, h1]
  unfold manyT
  rw [h.ok.len]

/-! ### The way through a cover, one term after another -/

/-- what is left of a walk over a cover: all that are come to have tiles; what is still to be paid, and how many are still to come -/
structure CvW (l : List Tm) (ts : List Ti) (c : List Int) (k sum : Nat) (todo : List Nat) : Prop where
  has : ∀ j ∈ todo, j < l.length ∧ c.getD j (-1) ≠ -1
  pay : sum + smL (coA l ts) (todo.drop k) = coA l ts (l.length - 1)
  num : k + smL (cnA l ts) (todo.drop k) = cnA l ts (l.length - 1)

theorem CvW.start {l : List Tm} {ts : List Ti} {c : List Int} (hl : 0 < l.length) (h : CvD l ts c) : CvW l ts c 0 0 [l.length - 1] :=
  ⟨fun j hj => by simp at hj; subst hj; exact ⟨by omega, (h.iff _ (by omega)).2 (.inl rfl)⟩, by simp [smL], by simp [smL]⟩

theorem CvW.step {vars : Int} {l : List Tm} {ts : List Ti} {c : List Int} {k sum i : Nat} {todo : List Nat} (hc : ckTerms vars l = 0) (h : CvD l ts c) (hw : CvW l ts c k sum todo) (hi : todo[k]? = some i) :
    CvW l ts c (k + 1) (sum + (tlA l ts i).c.toNat) (todo ++ lvB l ts i) := by
  obtain ⟨hil, hR⟩ := hw.has i (List.mem_of_getElem? hi)
  obtain ⟨n, x, _, hx⟩ := h.ok.at_ hc hil hR
  have hcs := csW_sum (cho_some hc hx).2.2.2.2.1
  have hcn := cnA_eq hc ts i
  have hco := coA_of hx
  have hp := hw.pay
  have hn := hw.num
  have hk := (List.getElem?_eq_some_iff.1 hi).1
  rw [drop_at hi] at hp hn
  simp only [smL] at hp hn
  have hd : (todo ++ lvB l ts i).drop (k + 1) = todo.drop (k + 1) ++ lvB l ts i := by
    rw [List.drop_append_of_le_length (by omega)]
  refine ⟨fun j hj => ?_, ?_, ?_⟩
  · rcases List.mem_append.1 hj with hj | hj
    · exact hw.has j hj
    · have h1 := lvB_less hc hj
      exact ⟨by omega, (h.iff j (by omega)).2 (.inr ⟨i, hil, hR, hj⟩)⟩
  · rw [hd, smL_app]
    omega
  · rw [hd, smL_app]
    omega

theorem smL_ge {f : Nat → Nat} (hf : ∀ j, 1 ≤ f j) : ∀ js : List Nat, js.length ≤ smL f js
  | [] => Nat.le_refl _
  | j :: r => by
    have := smL_ge hf r
    have := hf j
    rw [smL, List.length_cons]
    omega

theorem CvW.bd {vars : Int} {l : List Tm} {ts : List Ti} {c : List Int} {k sum : Nat} {todo : List Nat} (hc : ckTerms vars l = 0) (hw : CvW l ts c k sum todo) (hk : k ≤ todo.length) : todo.length ≤ cnA l ts (l.length - 1) ∧ sum ≤ coA l ts (l.length - 1) := by
  have h1 := smL_ge (f := cnA l ts) (fun j => by rw [cnA_eq hc]; omega) (todo.drop k)
  rw [List.length_drop] at h1
  have h2 := hw.num
  have h3 := hw.pay
  omega

theorem CvW.done {l : List Tm} {ts : List Ti} {c : List Int} {sum : Nat} {todo : List Nat} (hw : CvW l ts c todo.length sum todo) : sum = coA l ts (l.length - 1) ∧ todo.length = cnA l ts (l.length - 1) := by
  have h1 := hw.pay
  have h2 := hw.num
  rw [List.drop_length] at h1 h2
  simp only [smL] at h1 h2
  omega

/-! ### One tile of cost 1 for each operation -/

def unit6 : List Ti := [⟨1, 0, 0, 1⟩, ⟨2, 0, 0, 1⟩, ⟨3, 0, 0, 1⟩, ⟨4, 0, 0, 1⟩, ⟨5, 0, 0, 1⟩, ⟨6, 0, 0, 1⟩]

theorem unit6_ok : ∀ t ∈ unit6, TiOk t := ckTiL_ok (by decide)

theorem unit6_ck : ckTi unit6 = 0 := by decide

theorem unit_way {l : List Tm} {t : Tm} {h : Nat → Cho} {ti : Ti} (h1 : ti.lt = 0) (h2 : ti.rt = 0) : wayC l t h ti = if t.op = ti.op then csW h (if t.op < 3 then [] else [t.a.toNat, t.b.toNat]) ti.c.toNat else none := by
  unfold wayC mtc lvs lvAt
  rw [if_pos h1, if_pos h2]
  by_cases ho : t.op = ti.op
  · rw [if_pos (by rw [decide_eq_true_iff]; exact ⟨ho, .inl h1, .inl h2⟩), if_pos ho]
    rfl
  · rw [if_neg (by rw [decide_eq_true_iff]; exact fun hn => ho hn.1), if_neg ho]

theorem unit_cho {vars : Int} {l : List Tm} (hc : ckTerms vars l = 0) : ∀ i, i < l.length → cho l unit6 i = some ((tmA l i).op.toNat - 1, szA l i) ∧ 1 ≤ (tmA l i).op ∧ (tmA l i).op ≤ 6 := by
  intro i
  induction i using Nat.strongRecOn with
  | ind i ih =>
    intro hi
    have hd := tm_get hi
    have hcs := ckTerm_cases (ckTerms_at hc hd)
    have hsz := szA_at hc hd
    have hrange : 1 ≤ (tmA l i).op ∧ (tmA l i).op ≤ 6 := by omega
    refine ⟨?_, hrange⟩
    have hway : ∀ o : Int, csW (cho l unit6) (if (tmA l i).op < 3 then [] else [(tmA l i).a.toNat, (tmA l i).b.toNat]) (1 : Int).toNat = some (szA l i) := by
      intro o
      by_cases ho : (tmA l i).op < 3
      · rw [if_pos ho] at hsz ⊢
        rw [hsz]
        rfl
      · rw [if_neg ho] at hsz ⊢
        have hl := tmA_less hc ho
        simp only [csW]
        rw [(ih _ hl.2.1 (by omega)).1]
        simp only []
        rw [(ih _ hl.2.2.1 (by omega)).1]
        simp only []
        rw [hsz]
        simp
        omega
    have hway := hway 0
    rw [cho_eq hc]
    clear ih
    generalize cho l unit6 = H at hway ⊢
    simp only [unit6, pkF, unit_way]
    simp only [hway]
    generalize (tmA l i).op = o at *
    have h6 : o = 1 ∨ o = 2 ∨ o = 3 ∨ o = 4 ∨ o = 5 ∨ o = 6 := by omega
    rcases h6 with rfl | rfl | rfl | rfl | rfl | rfl <;> simp [pk1]

theorem unit_lvB {vars : Int} {l : List Tm} (hc : ckTerms vars l = 0) {i : Nat} (hi : i < l.length) (ho : 3 ≤ (tmA l i).op) : lvB l unit6 i = [(tmA l i).a.toNat, (tmA l i).b.toNat] := by
  obtain ⟨h1, h2, h3⟩ := unit_cho hc i hi
  rw [lvB_of (by rw [h1]; intro x; cases x)]
  have hm := (cho_some hc h1).2.2.1
  have hall : ∀ t ∈ unit6, t.lt = 0 ∧ t.rt = 0 := by decide
  have h0 := hall _ hm
  unfold lvs lvAt
  rw [if_neg (by omega), if_pos h0.1, if_pos h0.2]
  rfl

/-- every term has a tile -/
theorem unit_all {vars : Int} {l : List Tm} (hc : ckTerms vars l = 0) (ht : treeL l) {c : List Int} (h : CvD l unit6 c) : ∀ d j, l.length - j = d → j < l.length → c.getD j (-1) ≠ -1 := by
  intro d
  induction d using Nat.strongRecOn with
  | ind d ih =>
    intro j hd hj
    refine (h.iff j hj).2 ?_
    by_cases hl : j = l.length - 1
    · exact .inl hl
    · refine .inr ?_
      have hu := ht j (by omega)
      obtain ⟨i, t, h1, h2, h3⟩ := used_ex (l := l) (j := j) (by omega)
      have hi := (List.getElem?_eq_some_iff.1 h1).1
      have e := tmA_at h1
      have hl := tmA_less hc (l := l) (i := i) (by rw [e]; omega)
      rw [e] at hl
      have hij : j < i := by omega
      refine ⟨i, hi, ih (l.length - i) (by omega) i rfl hi, ?_⟩
      rw [unit_lvB hc hi (by rw [e]; exact h2), e]
      simp
      omega

theorem unit_at {vars : Int} {l : List Tm} (hc : ckTerms vars l = 0) (ht : treeL l) {c : List Int} (h : CvD l unit6 c) {j : Nat} (hj : j < l.length) : c[j]? = some ((tmA l j).op - 1) := by
  have h1 := unit_all hc ht h _ j rfl hj
  obtain ⟨n, x, h2, h3⟩ := h.ok.at_ hc hj h1
  have h4 := unit_cho hc j hj
  rw [h4.1] at h3
  injection h3 with h3
  rw [Prod.mk.injEq] at h3
  rw [h2, ← h3.1]
  congr 1
  omega

end Go.Proofs.Yteogdcjigigeeaa
