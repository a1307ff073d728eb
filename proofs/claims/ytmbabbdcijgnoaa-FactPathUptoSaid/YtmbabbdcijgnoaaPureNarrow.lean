/-
  Plain mathematics of package rule's ways (F1, F2): sets made smaller until they stay, edges gathered, meets gathered: no program's text.
-/
import Derived.Test.YtmbabbdcijgnoaaPureRule
namespace Go.Proofs.Ytmbabbdcijgnoaa
set_option linter.unusedSimpArgs false
set_option linter.unusedVariables false

theorem sum_set : ∀ {l : List Nat} {i b x : Nat}, l[i]? = some b → (l.set i x).sum + b = l.sum + x
  | [], _, _, _, h => by simp at h
  | a :: l, 0, b, x, h => by
    simp only [List.getElem?_cons_zero, Option.some.injEq] at h
    subst h
    simp only [List.set_cons_zero, List.sum_cons]
    omega
  | a :: l, i + 1, b, x, h => by
    have := sum_set (l := l) (i := i) (b := b) (x := x) (by simpa using h)
    simp only [List.set_cons_succ, List.sum_cons]
    omega

theorem set_same {l : List Nat} {i x : Nat} (h : l[i]? = some x) : l.set i x = l := by
  apply List.ext_getElem?
  intro r
  rw [List.getElem?_set]
  split
  · rename_i e
    subst e
    rw [if_pos (List.getElem?_eq_some_iff.1 h).1, h]
  · rfl

theorem lt_of_bits {W n : Nat} (h : ∀ j, W.testBit j = true → j < n) : W < 2 ^ n := by
  refine Nat.lt_pow_two_of_testBit W fun i hi => ?_
  cases hb : W.testBit i with
  | false => rfl
  | true => have := h i hb; omega

/-- one does not dominate what one comes to without it -/
theorem Dom.edge {nx : List (List Int)} {j v t : Nat} (h : Dom nx j t) (hv : Rea nx (-1) 0 v) (ht : t ∈ sc nx v) (hne : j ≠ t) : Dom nx j v := by
  refine ⟨h.1, hv, .inr fun h2 => ?_⟩
  exact (h.2.2.resolve_left hne) (h2.step ht (int_ne (Ne.symm hne)))

/-- F1: what the sets keep while they are made smaller -/
structure NarI (nx : List (List Int)) (tb : List Nat) : Prop where
  len : tb.length = nx.length
  lt : ∀ (i W : Nat), tb[i]? = some W → W < 4294967296
  out : ∀ (i W : Nat), tb[i]? = some W → ¬ Rea nx (-1) 0 i → W = 0
  zero : tb[0]? = some 1
  all : ∀ (i W : Nat), tb[i]? = some W → ∀ j, Dom nx j i → W.testBit j = true

theorem and_or_one (a : Nat) : 1 &&& (a ||| 2 ^ 0) = 1 := by
  apply Nat.eq_of_testBit_eq
  intro k
  rw [Nat.testBit_and, Nat.testBit_or, Nat.testBit_two_pow]
  cases k with
  | zero => simp
  | succ k => rw [show (1 : Nat) = 2 ^ 0 from rfl, Nat.testBit_two_pow]; simp

section
variable {nx : List (List Int)} {tb : List Nat}

theorem NarI.step (h : NarI nx tb) {v t a b : Nat} (hv : Rea nx (-1) 0 v) (ht : t ∈ sc nx v) (ha : tb[v]? = some a) (hb : tb[t]? = some b) : NarI nx (tb.set t (b &&& (a ||| 2 ^ t))) := by
  have hvt : Rea nx (-1) 0 t := hv.step ht (nat_ne t)
  have hat : ∀ {i W : Nat}, (tb.set t (b &&& (a ||| 2 ^ t)))[i]? = some W → (i = t ∧ W = b &&& (a ||| 2 ^ t)) ∨ (i ≠ t ∧ tb[i]? = some W) := by
    intro i W hW
    rw [List.getElem?_set] at hW
    split at hW
    · rename_i e
      subst e
      rw [if_pos (List.getElem?_eq_some_iff.1 hb).1] at hW
      injection hW with hW
      exact .inl ⟨rfl, hW.symm⟩
    · rename_i e
      exact .inr ⟨fun e' => e e'.symm, hW⟩
  refine ⟨by rw [List.length_set]; exact h.len, fun i W hW => ?_, fun i W hW hn => ?_, ?_, fun i W hW j hj => ?_⟩
  · rcases hat hW with ⟨rfl, rfl⟩ | ⟨_, h2⟩
    · exact Nat.lt_of_le_of_lt Nat.and_le_left (h.lt i b hb)
    · exact h.lt i W h2
  · rcases hat hW with ⟨rfl, rfl⟩ | ⟨_, h2⟩
    · exact absurd hvt hn
    · exact h.out i W h2 hn
  · by_cases e : t = 0
    · subst e
      have hb0 := h.zero
      rw [hb] at hb0
      injection hb0 with hb0
      subst hb0
      rw [List.getElem?_set, if_pos rfl, if_pos (List.getElem?_eq_some_iff.1 hb).1, and_or_one]
    · rw [List.getElem?_set, if_neg e]
      exact h.zero
  · rcases hat hW with ⟨rfl, rfl⟩ | ⟨_, h2⟩
    · rw [Nat.testBit_and, h.all i b hb j hj, Nat.testBit_or, Nat.testBit_two_pow]
      by_cases e : j = i
      · subst e; simp
      · rw [h.all v a ha j (hj.edge hv ht e)]; rfl
    · exact h.all i W h2 j hj

/-- an edge by which nothing more goes -/
def okE (tb : List Nat) (v t : Nat) : Prop := ∀ a b, tb[v]? = some a → tb[t]? = some b → b &&& (a ||| 2 ^ t) = b

/-- the sets that stay are those that dominate -/
theorem NarI.bits (h : NarI nx tb) (hc : ckWay nx = 0) (hd : ∀ v t, Rea nx (-1) 0 v → t ∈ sc nx v → okE tb v t) {i W : Nat} (hW : tb[i]? = some W) (j : Nat) : W.testBit j = true ↔ Dom nx j i := by
  refine ⟨fun hb => ?_, h.all i W hW j⟩
  have hb1 := ckWay_bd hc
  have at_ : ∀ x, Rea nx (-1) 0 x → ∃ V, tb[x]? = some V := fun x hx => ⟨_, List.getElem?_eq_getElem (by rw [h.len]; exact hx.lt hc (by omega))⟩
  have hi : Rea nx (-1) 0 i := Classical.byContradiction fun hn => by
    rw [h.out i W hW hn] at hb
    simp at hb
  have key : ∀ x, Rea nx (j : Int) 0 x → ∀ V, tb[x]? = some V → V.testBit j = false := by
    intro x hx
    induction hx with
    | here h0 =>
      intro V hV
      rw [h.zero] at hV
      injection hV with hV
      subst hV
      rw [show (1 : Nat) = 2 ^ 0 from rfl, Nat.testBit_two_pow]
      have : ¬ 0 = j := by omega
      simp [this]
    | @step y k h1 h2 h3 ih =>
      intro V hV
      obtain ⟨a, ha⟩ := at_ y h1.plain
      have h4 := hd y k h1.plain h2 a V ha hV
      have h5 := ih a ha
      have h6 : V.testBit j = (V &&& (a ||| 2 ^ k)).testBit j := by rw [h4]
      have h7 : ¬ k = j := by omega
      rw [h6, Nat.testBit_and, Nat.testBit_or, h5, Nat.testBit_two_pow]
      simp [h7]
  have hno : ¬ Rea nx (j : Int) 0 i := fun hr => by
    rw [key i hr W hW] at hb
    cases hb
  exact ⟨(hi.by_ (b := j)).resolve_right hno, hi, .inr hno⟩

theorem NarI.lt256 (h : NarI nx tb) (hc : ckWay nx = 0) (hd : ∀ v t, Rea nx (-1) 0 v → t ∈ sc nx v → okE tb v t) {i W : Nat} (hW : tb[i]? = some W) : W < 256 := by
  have hb := ckWay_bd hc
  refine lt_of_bits (n := 8) fun j hj => ?_
  have := (((h.bits hc hd hW j).1 hj).lt hc).1
  omega

/-- a walk over edges, by which sets are made smaller -/
structure Nar (nx : List (List Int)) (s0 : Nat) (tb : List Nat) (ch : Bool) (D : Nat → Nat → Prop) : Prop where
  inv : NarI nx tb
  le : tb.sum ≤ s0
  lt : ch = true → tb.sum < s0
  ok : ch = false → ∀ v t, D v t → okE tb v t

theorem Nar.start (h : NarI nx tb) : Nar nx tb.sum tb false (fun _ _ => False) := ⟨h, Nat.le_refl _, fun e => (by cases e), fun _ _ _ h => h.elim⟩

theorem Nar.mono {s0 : Nat} {ch : Bool} {D E : Nat → Nat → Prop} (h : Nar nx s0 tb ch D) (he : ∀ v t, E v t → D v t) : Nar nx s0 tb ch E := ⟨h.inv, h.le, h.lt, fun e v t h' => h.ok e v t (he v t h')⟩

/-- an edge by which nothing goes -/
theorem Nar.stay {s0 : Nat} {ch : Bool} {D : Nat → Nat → Prop} (h : Nar nx s0 tb ch D) {v t a b : Nat} (ha : tb[v]? = some a) (hb : tb[t]? = some b) (he : b &&& (a ||| 2 ^ t) = b) : Nar nx s0 tb ch (fun x y => D x y ∨ (x = v ∧ y = t)) := by
  refine ⟨h.inv, h.le, h.lt, fun e x y hxy => ?_⟩
  rcases hxy with hxy | ⟨rfl, rfl⟩
  · exact h.ok e x y hxy
  · intro a' b' ha' hb'
    rw [ha] at ha'
    rw [hb] at hb'
    injection ha' with ha'
    injection hb' with hb'
    rw [← ha', ← hb']
    exact he

/-- an edge by which something goes -/
theorem Nar.go {s0 : Nat} {ch : Bool} {D E : Nat → Nat → Prop} (h : Nar nx s0 tb ch D) {v t a b : Nat} (hv : Rea nx (-1) 0 v) (ht : t ∈ sc nx v) (ha : tb[v]? = some a) (hb : tb[t]? = some b) (hne : ch = true ∨ b &&& (a ||| 2 ^ t) ≠ b) : Nar nx s0 (tb.set t (b &&& (a ||| 2 ^ t))) true E := by
  have hs := sum_set (x := b &&& (a ||| 2 ^ t)) hb
  have hle : b &&& (a ||| 2 ^ t) ≤ b := Nat.and_le_left
  have h1 := h.le
  have hlt : (tb.set t (b &&& (a ||| 2 ^ t))).sum < s0 := by
    rcases hne with e | hne
    · have := h.lt e; omega
    · omega
  exact ⟨h.inv.step hv ht ha hb, by omega, fun _ => hlt, fun e => (by cases e)⟩

end

/-! ### Edges gathered -/

/-- words that hold a relation -/
structure EgI (nx : List (List Int)) (eg : List Nat) (Q : Nat → Nat → Prop) : Prop where
  len : eg.length = nx.length
  lt : ∀ (i W : Nat), eg[i]? = some W → W < 256
  mem : ∀ (i W : Nat), eg[i]? = some W → ∀ j, W.testBit j = true ↔ Q i j

section
variable {nx : List (List Int)} {eg : List Nat} {Q Q' : Nat → Nat → Prop}

theorem EgI.congr (h : EgI nx eg Q) (hq : ∀ i j, i < nx.length → (Q i j ↔ Q' i j)) : EgI nx eg Q' := ⟨h.len, h.lt, fun i W hW j => by rw [h.mem i W hW j, hq i j (by rw [← h.len]; exact (List.getElem?_eq_some_iff.1 hW).1)]⟩

theorem EgI.start (nx : List (List Int)) : EgI nx (List.replicate nx.length 0) (fun _ _ => False) := by
  refine ⟨by simp, fun i W hW => ?_, fun i W hW j => ?_⟩
  · rw [List.getElem?_replicate] at hW
    split at hW
    · injection hW with hW; omega
    · cases hW
  · rw [List.getElem?_replicate] at hW
    split at hW
    · injection hW with hW; subst hW; simp
    · cases hW

theorem EgI.add (h : EgI nx eg Q) {a t W : Nat} (hW : eg[a]? = some W) (ht : t < 8) : EgI nx (eg.set a (W ||| 2 ^ t)) (fun i j => Q i j ∨ (i = a ∧ j = t)) := by
  have hat : ∀ {i V : Nat}, (eg.set a (W ||| 2 ^ t))[i]? = some V → (i = a ∧ V = W ||| 2 ^ t) ∨ (i ≠ a ∧ eg[i]? = some V) := by
    intro i V hV
    rw [List.getElem?_set] at hV
    split at hV
    · rename_i e
      subst e
      rw [if_pos (List.getElem?_eq_some_iff.1 hW).1] at hV
      injection hV with hV
      exact .inl ⟨rfl, hV.symm⟩
    · rename_i e
      exact .inr ⟨fun e' => e e'.symm, hV⟩
  refine ⟨by rw [List.length_set]; exact h.len, fun i V hV => ?_, fun i V hV j => ?_⟩
  · rcases hat hV with ⟨rfl, rfl⟩ | ⟨_, h2⟩
    · exact Nat.or_lt_two_pow (n := 8) (h.lt i W hW) (Nat.pow_lt_pow_right (by omega) ht)
    · exact h.lt i V h2
  · rcases hat hV with ⟨rfl, rfl⟩ | ⟨hne, h2⟩
    · rw [Nat.testBit_or, Bool.or_eq_true, h.mem i W hW j, Nat.testBit_two_pow, decide_eq_true_eq]
      exact ⟨fun h => h.imp id fun e => ⟨rfl, e.symm⟩, fun h => h.imp id fun e => e.2.symm⟩
    · rw [h.mem i V h2 j]
      exact ⟨.inl, fun h => h.resolve_right fun e => hne e.1⟩

end

/-- an edge k -> f that leaves what a dominates -/
def ExitP (nx : List (List Int)) (a k f : Nat) : Prop := Dom nx a k ∧ (f = a ∨ ¬ Dom nx a f)

/-- .. of the first i nodes -/
def EdQ (nx : List (List Int)) (i : Nat) (a f : Nat) : Prop := ∃ k, k < i ∧ f ∈ sc nx k ∧ ExitP nx a k f

/-- .. and of the first c edges of node i -/
def EdR (nx : List (List Int)) (i c : Nat) (a f : Nat) : Prop := EdQ nx i a f ∨ (f ∈ (sc nx i).take c ∧ ExitP nx a i f)

/-- .. and of one more for those below m -/
def EdS (nx : List (List Int)) (i c t m : Nat) (a f : Nat) : Prop := EdR nx i c a f ∨ (a < m ∧ f = t ∧ ExitP nx a i f)

section
variable {nx : List (List Int)}

theorem EdQ.zero {a f : Nat} : EdQ nx 0 a f ↔ False := ⟨fun ⟨k, h, _⟩ => by omega, False.elim⟩

theorem EdR.zero {i a f : Nat} : EdQ nx i a f ↔ EdR nx i 0 a f := ⟨.inl, fun h => h.resolve_right fun h => by simp at h⟩

theorem EdR.done {i c a f : Nat} (hc : (sc nx i).length ≤ c) : EdR nx i c a f ↔ EdQ nx (i + 1) a f := by
  unfold EdR EdQ
  rw [List.take_of_length_le hc]
  constructor
  · rintro (⟨k, h1, h2⟩ | h)
    · exact ⟨k, by omega, h2⟩
    · exact ⟨i, by omega, h⟩
  · rintro ⟨k, h1, h2, h3⟩
    by_cases e : k = i
    · subst e; exact .inr ⟨h2, h3⟩
    · exact .inl ⟨k, by omega, h2, h3⟩

theorem EdS.zero {i c t a f : Nat} : EdR nx i c a f ↔ EdS nx i c t 0 a f := ⟨.inl, fun h => h.resolve_right fun h => by omega⟩

theorem EdS.done {i c t m a f : Nat} (ht : (sc nx i)[c]? = some t) (ha : a < m) : EdS nx i c t m a f ↔ EdR nx i (c + 1) a f := by
  unfold EdS EdR
  rw [List.take_add_one, ht, Option.toList_some, List.mem_append, List.mem_singleton]
  constructor
  · rintro ((h | ⟨h1, h2⟩) | ⟨_, h2, h3⟩)
    · exact .inl h
    · exact .inr ⟨.inl h1, h2⟩
    · exact .inr ⟨.inr h2, h3⟩
  · rintro (h | ⟨h1 | h1, h2⟩)
    · exact .inl (.inl h)
    · exact .inl (.inr ⟨h1, h2⟩)
    · exact .inr ⟨ha, h1, h2⟩

theorem EdS.skip {i c t m a f : Nat} (h : ¬ ExitP nx m i t) : EdS nx i c t m a f ↔ EdS nx i c t (m + 1) a f := by
  unfold EdS
  constructor
  · rintro (h' | ⟨h1, h2⟩)
    · exact .inl h'
    · exact .inr ⟨by omega, h2⟩
  · rintro (h' | ⟨h1, rfl, h2⟩)
    · exact .inl h'
    · refine .inr ⟨?_, rfl, h2⟩
      have : a ≠ m := fun e => h (e ▸ h2)
      omega

theorem EdS.more {i c t m a f : Nat} (h : ExitP nx m i t) : (EdS nx i c t m a f ∨ (a = m ∧ f = t)) ↔ EdS nx i c t (m + 1) a f := by
  unfold EdS
  constructor
  · rintro ((h' | ⟨h1, h2⟩) | ⟨rfl, rfl⟩)
    · exact .inl h'
    · exact .inr ⟨by omega, h2⟩
    · exact .inr ⟨by omega, rfl, h⟩
  · rintro (h' | ⟨h1, rfl, h2⟩)
    · exact .inl (.inl h')
    · by_cases e : a = m
      · exact .inr ⟨e, rfl⟩
      · exact .inl (.inr ⟨by omega, rfl, h2⟩)

theorem EdQ.all (hc : ckWay nx = 0) {a f : Nat} : EdQ nx nx.length a f ↔ EdgeP nx a f := by
  constructor
  · rintro ⟨k, _, h1, h2, h3⟩
    exact ⟨k, h2, h1, h3⟩
  · rintro ⟨k, h1, h2, h3⟩
    exact ⟨k, (h1.lt hc).2, h2, h1, h3⟩

end

/-! ### Meets gathered -/

/-- all that the words of the first k members hold -/
def frW (eg : List Nat) (s : Nat) : Nat → Nat
  | 0 => 0
  | k + 1 => if s.testBit k = true then frW eg s k ||| eg.getD k 0 else frW eg s k

theorem frW_succ (eg : List Nat) (s k : Nat) : frW eg s (k + 1) = if s.testBit k = true then frW eg s k ||| eg.getD k 0 else frW eg s k := rfl

theorem frW_bit {eg : List Nat} {s f : Nat} : ∀ {k : Nat}, (frW eg s k).testBit f = true ↔ ∃ i, i < k ∧ s.testBit i = true ∧ (eg.getD i 0).testBit f = true
  | 0 => by simp [frW]
  | k + 1 => by
    have ih := frW_bit (eg := eg) (s := s) (f := f) (k := k)
    have e : (frW eg s (k + 1)).testBit f = true ↔ ((frW eg s k).testBit f = true ∨ (s.testBit k = true ∧ (eg.getD k 0).testBit f = true)) := by
      rw [frW_succ]
      by_cases hb : s.testBit k = true
      · rw [if_pos hb, Nat.testBit_or, Bool.or_eq_true]
        simp [hb]
      · rw [if_neg hb]
        simp [hb]
    rw [e, ih]
    constructor
    · rintro (⟨i, h1, h2⟩ | h)
      · exact ⟨i, by omega, h2⟩
      · exact ⟨k, by omega, h⟩
    · rintro ⟨i, h1, h2⟩
      by_cases hi : i = k
      · subst hi; exact .inr h2
      · exact .inl ⟨i, by omega, h2⟩

theorem frW_lt {eg : List Nat} {s n : Nat} (h : ∀ (i W : Nat), eg[i]? = some W → W < 2 ^ n) : ∀ k, frW eg s k < 2 ^ n
  | 0 => Nat.two_pow_pos n
  | k + 1 => by
    have ih := frW_lt (s := s) h k
    rw [frW_succ]
    split
    · refine Nat.or_lt_two_pow ih ?_
      rw [List.getD_eq_getElem?_getD]
      cases hk : eg[k]? with
      | none => exact Nat.two_pow_pos n
      | some W => exact h k W hk
    · exact ih

/-- a subset is at most as great -/
theorem le_of_bits {a b : Nat} (h : ∀ j, a.testBit j = true → b.testBit j = true) : a ≤ b := by
  have : a &&& b = a := Nat.eq_of_testBit_eq fun j => by
    rw [Nat.testBit_and]
    cases ha : a.testBit j with
    | false => rfl
    | true => rw [h j ha]; rfl
  rw [← this]
  exact Nat.and_le_right

/-- F2: on the way to where ways meet -/
structure MtI (nx : List (List Int)) (eg : List Nat) (s m : Nat) : Prop where
  lt : m < 256
  sub : ∀ j, m.testBit j = true → Mt nx s j
  up : ∀ j, m.testBit j = true → (frW eg (s ||| m) nx.length).testBit j = true

section
variable {nx : List (List Int)} {eg : List Nat} {s m : Nat}

theorem MtI.start : MtI nx eg s 0 := ⟨by omega, fun j h => (by simp at h), fun j h => (by simp at h)⟩

theorem MtI.next (he : EgI nx eg (EdgeP nx)) (h : MtI nx eg s m) : MtI nx eg s (frW eg (s ||| m) nx.length) := by
  refine ⟨frW_lt (n := 8) he.lt _, fun j hj => ?_, fun j hj => ?_⟩
  · obtain ⟨i, h1, h2, h3⟩ := frW_bit.1 hj
    have hi : eg[i]? = some (eg.getD i 0) := by
      rw [List.getD_eq_getElem?_getD, List.getElem?_eq_getElem (by rw [he.len]; exact h1)]; rfl
    have h4 := (he.mem i _ hi j).1 h3
    rw [Nat.testBit_or, Bool.or_eq_true] at h2
    rcases h2 with h2 | h2
    · exact .one h2 h4
    · exact .more (h.sub i h2) h4
  · obtain ⟨i, h1, h2, h3⟩ := frW_bit.1 hj
    refine frW_bit.2 ⟨i, h1, ?_, h3⟩
    rw [Nat.testBit_or, Bool.or_eq_true] at h2 ⊢
    exact h2.imp id (h.up i)

theorem MtI.le (h : MtI nx eg s m) : m ≤ frW eg (s ||| m) nx.length := le_of_bits h.up

theorem MtI.done (hc : ckWay nx = 0) (he : EgI nx eg (EdgeP nx)) (h : MtI nx eg s m) (hm : frW eg (s ||| m) nx.length = m) (j : Nat) : m.testBit j = true ↔ Mt nx s j := by
  refine ⟨h.sub j, fun hj => ?_⟩
  have key : ∀ i j, (s ||| m).testBit i = true → EdgeP nx i j → m.testBit j = true := fun i j hi hij => by
    rw [← hm]
    have hil := (hij.lt hc).1
    have hie : eg[i]? = some (eg.getD i 0) := by
      rw [List.getD_eq_getElem?_getD, List.getElem?_eq_getElem (by rw [he.len]; exact hil)]; rfl
    exact frW_bit.2 ⟨i, hil, hi, (he.mem i _ hie j).2 hij⟩
  exact hj.least (S := fun j => m.testBit j = true) (fun i j hi hij => key i j (by rw [Nat.testBit_or, hi]; rfl) hij) (fun i j hi hij => key i j (by rw [Nat.testBit_or, hi, Bool.or_true]) hij)

end

/-! ### The tree by sets -/

section
variable {nx : List (List Int)} {ws : List Nat}

/-- without its own node the set of a node is that of its immediate dominator, and of none else -/
theorem idom_set (hw : ∀ (i W : Nat), ws[i]? = some W → ∀ j, W.testBit j = true ↔ Dom nx j i) {i j W V : Nat} (hi : Idom nx j i) (hW : ws[i]? = some W) (hV : ws[j]? = some V) (X : Nat) (hX : ∀ k, X.testBit k = true ↔ W.testBit k = true ∧ k ≠ i) : X = V :=
  word_ext fun k => by
    rw [hX, hw i W hW, hw j V hV, dom_idom hi]
    constructor
    · rintro ⟨h | h, h2⟩
      · exact absurd h h2
      · exact h
    · intro h
      exact ⟨.inr h, fun e => idom_not hi (e ▸ h)⟩

theorem set_one (hw : ∀ (i W : Nat), ws[i]? = some W → ∀ j, W.testBit j = true ↔ Dom nx j i) {i j V : Nat} (hr : Rea nx (-1) 0 j) (hi : ws[i]? = some V) (hj : ws[j]? = some V) : i = j := by
  have h1 := (hw i V hi j).1 ((hw j V hj j).2 (Dom.me hr))
  have h2 := (hw j V hj i).1 ((hw i V hi i).2 (Dom.me h1.2.1))
  exact (Dom.anti h1 h2).symm

end

end Go.Proofs.Ytmbabbdcijgnoaa
