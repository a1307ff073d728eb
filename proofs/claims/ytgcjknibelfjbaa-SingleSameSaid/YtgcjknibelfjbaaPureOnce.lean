/-
  Plain mathematics: where names are set, in turn; which may be used where (M3): no program's text.
-/
import Derived.Test.YtgcjknibelfjbaaPureNames
import Derived.Test.YtgcjknibelfjbaaPureSnRun
namespace Go.Proofs.Ytgcjknibelfjbaa
set_option linter.unusedSimpArgs false
set_option linter.unusedVariables false

/-- a name, in which block it is set, and where there -/
abbrev Df := Int × Int × Int

/-- what is known of names so far, and whether each was set once -/
abbrev Ds := (Int → Option (Int × Int)) × Bool

def dfS (st : Ds) (d : Df) : Ds := (fun m => if m = d.1 then some d.2 else st.1 m, st.2 && (st.1 d.1).isNone)

def ds0 : Ds := (fun _ => none, true)

def defsV : Nat → Nat → List Df
  | _, 0 => []
  | v, m + 1 => ((v : Int), -1, 21) :: defsV (v + 1) m

def defsJ (i : Nat) (js : List Jn) : List Df := js.map fun j => (j.to, (i : Int), 0)

def defsC (i : Nat) : Nat → List St → List Df
  | _, [] => []
  | k, s :: r => (s.to, (i : Int), 1 + (k : Int)) :: defsC i (k + 1) r

def defsL : Nat → List Sg → List Df
  | _, [] => []
  | i, s :: r => defsJ i s.joins ++ (defsC i 0 s.code ++ defsL (i + 1) r)

def defsAll (n : Nat) (l : List Sg) : List Df := defsV 0 n ++ defsL 0 l

def dfAll (n : Nat) (l : List Sg) : Ds := (defsAll n l).foldl dfS ds0

theorem defsV_at {v m k : Nat} (h : k < m) : (defsV v m).drop k = (((v + k : Nat) : Int), -1, 21) :: (defsV v m).drop (k + 1) := by
  induction m generalizing v k with
  | zero => omega
  | succ m ih =>
    cases k with
    | zero => simp [defsV]
    | succ k =>
      have := ih (v := v + 1) (k := k) (by omega)
      simp only [defsV, List.drop_succ_cons, this]
      congr 2
      omega

theorem defsV_len (v m : Nat) : (defsV v m).length = m := by
  induction m generalizing v with
  | zero => rfl
  | succ m ih => simp [defsV, ih]

theorem defsJ_drop {i k : Nat} {js : List Jn} {j : Jn} (h : js[k]? = some j) : defsJ i (js.drop k) = (j.to, (i : Int), 0) :: defsJ i (js.drop (k + 1)) := by
  rw [drop_at h]
  rfl

theorem defsC_drop {i k : Nat} {co : List St} {s : St} (h : co[k]? = some s) : defsC i k (co.drop k) = (s.to, (i : Int), 1 + (k : Int)) :: defsC i (k + 1) (co.drop (k + 1)) := by
  rw [drop_at h]
  rfl

theorem defsL_drop {k : Nat} {l : List Sg} {s : Sg} (h : l[k]? = some s) : defsL k (l.drop k) = defsJ k s.joins ++ (defsC k 0 s.code ++ defsL (k + 1) (l.drop (k + 1))) := by
  rw [drop_at h]
  rfl

/-! ### How often -/

def cntD (n : Int) : List Df → Nat
  | [] => 0
  | d :: r => (if d.1 = n then 1 else 0) + cntD n r

theorem cntD_app (n : Int) : ∀ a b : List Df, cntD n (a ++ b) = cntD n a + cntD n b
  | [], b => by simp [cntD]
  | d :: a, b => by simp only [List.cons_append, cntD, cntD_app n a b]; omega

theorem cntD_mem {n : Int} {x : Int × Int} : ∀ {D : List Df}, (n, x) ∈ D → 0 < cntD n D
  | [], h => by cases h
  | d :: r, h => by
    rw [cntD]
    rcases List.mem_cons.1 h with h | h
    · subst h; rw [if_pos rfl]; omega
    · exact Nat.lt_of_lt_of_le (cntD_mem h) (Nat.le_add_left _ _)

theorem cntD_pos {n : Int} : ∀ {D : List Df}, 0 < cntD n D → ∃ x, (n, x) ∈ D
  | [], h => by simp [cntD] at h
  | d :: r, h => by
    rw [cntD] at h
    by_cases e : d.1 = n
    · exact ⟨d.2, by rw [← e]; exact List.mem_cons_self ..⟩
    · rw [if_neg e] at h
      obtain ⟨x, hx⟩ := cntD_pos (n := n) (D := r) (by omega)
      exact ⟨x, List.mem_cons_of_mem _ hx⟩

theorem cntD_one {n : Int} {x y : Int × Int} : ∀ {D : List Df}, cntD n D ≤ 1 → (n, x) ∈ D → (n, y) ∈ D → x = y
  | [], _, h, _ => by cases h
  | d :: r, hc, h, h2 => by
    rw [cntD] at hc
    rcases List.mem_cons.1 h with g | g <;> rcases List.mem_cons.1 h2 with g2 | g2
    · rw [← g2] at g; injection g
    · have h3 := cntD_mem g2
      rw [← g, if_pos rfl] at hc
      omega
    · have h3 := cntD_mem g
      rw [← g2, if_pos rfl] at hc
      omega
    · exact cntD_one (D := r) (Nat.le_trans (Nat.le_add_left _ _) hc) g g2

/-- what holds when so many have been set -/
structure DfI (D : List Df) (st : Ds) : Prop where
  mem : ∀ m x, st.1 m = some x → (m, x) ∈ D
  none : ∀ m, st.1 m = none → cntD m D = 0
  one : st.2 = true ↔ ∀ m, cntD m D ≤ 1

theorem DfI.step {D : List Df} {st : Ds} (h : DfI D st) (d : Df) : DfI (D ++ [d]) (dfS st d) := by
  refine ⟨fun m x hx => ?_, fun m hm => ?_, ?_⟩
  · unfold dfS at hx
    simp only [] at hx
    split at hx
    · rename_i e
      injection hx with hx
      rw [e, ← hx]
      exact List.mem_append_right _ (List.mem_singleton_self _)
    · exact List.mem_append_left _ (h.mem m x hx)
  · unfold dfS at hm
    simp only [] at hm
    split at hm
    · cases hm
    · rename_i e
      rw [cntD_app, h.none m hm, cntD, if_neg (fun e2 => e e2.symm)]
      rfl
  · have hs : (st.1 d.1).isNone = true ↔ cntD d.1 D = 0 := by
      cases e : st.1 d.1 with
      | none => simp [h.none _ e]
      | some x =>
        have := cntD_mem (h.mem _ _ e)
        simp
        omega
    unfold dfS
    simp only [Bool.and_eq_true, h.one, hs]
    constructor
    · rintro ⟨h1, h2⟩ m
      rw [cntD_app]
      have := h1 m
      simp only [cntD]
      split
      · rename_i e; subst e; omega
      · omega
    · intro h1
      refine ⟨fun m => ?_, ?_⟩
      · have := h1 m
        rw [cntD_app] at this
        omega
      · have := h1 d.1
        rw [cntD_app] at this
        simp [cntD] at this
        omega

theorem DfI.fold : ∀ {D : List Df} {D0 : List Df} {st : Ds}, DfI D0 st → DfI (D0 ++ D) (D.foldl dfS st)
  | [], D0, st, h => by simpa using h
  | d :: D, D0, st, h => by
    have := DfI.fold (D := D) (h.step d)
    simpa using this

theorem dfAll_is (n : Nat) (l : List Sg) : DfI (defsAll n l) (dfAll n l) := by
  have h0 : DfI [] ds0 := ⟨fun m x h => by simp [ds0] at h, fun m _ => rfl, by simp [ds0, cntD]⟩
  have h := h0.fold (D := defsAll n l)
  rw [List.nil_append] at h
  exact h

/-! ### What is set where -/

theorem defsV_mem {n b q : Int} : ∀ {m v : Nat}, (n, b, q) ∈ defsV v m ↔ ((v : Int) ≤ n ∧ n < v + m) ∧ b = -1 ∧ q = 21
  | 0, v => by simp [defsV]; omega
  | m + 1, v => by
    rw [defsV, List.mem_cons, defsV_mem (m := m) (v := v + 1)]
    simp only [Prod.mk.injEq]
    omega

theorem defsJ_mem {n b q : Int} {i : Nat} {js : List Jn} : (n, b, q) ∈ defsJ i js ↔ b = (i : Int) ∧ q = 0 ∧ ∃ j ∈ js, j.to = n := by
  unfold defsJ
  rw [List.mem_map]
  constructor
  · rintro ⟨j, hj, e⟩
    simp only [Prod.mk.injEq] at e
    exact ⟨e.2.1.symm, e.2.2.symm, j, hj, e.1⟩
  · rintro ⟨rfl, rfl, j, hj, rfl⟩
    exact ⟨j, hj, rfl⟩

theorem defsC_mem {n b q : Int} {i : Nat} : ∀ {co : List St} {k : Nat}, (n, b, q) ∈ defsC i k co ↔ b = (i : Int) ∧ ∃ (m : Nat) (s : St), co[m]? = some s ∧ s.to = n ∧ q = 1 + (k : Int) + m
  | [], k => by simp [defsC]
  | s :: r, k => by
    rw [defsC, List.mem_cons, defsC_mem (co := r) (k := k + 1)]
    simp only [Prod.mk.injEq]
    constructor
    · rintro (⟨h1, h2, h3⟩ | ⟨h1, m, u, h2, h3, h4⟩)
      · exact ⟨h2, 0, s, rfl, h1.symm, by omega⟩
      · exact ⟨h1, m + 1, u, by simpa using h2, h3, by omega⟩
    · rintro ⟨h1, m, u, h2, h3, h4⟩
      cases m with
      | zero =>
        simp at h2
        subst h2
        exact .inl ⟨h3.symm, h1, by omega⟩
      | succ m => exact .inr ⟨h1, m, u, by simpa using h2, h3, by omega⟩

/-- one block sets a name at a place -/
def SetAt (s : Sg) (n q : Int) : Prop := (q = 0 ∧ ∃ j ∈ s.joins, j.to = n) ∨ ∃ (m : Nat) (u : St), s.code[m]? = some u ∧ u.to = n ∧ q = 1 + (m : Int)

theorem defsL_mem {n b q : Int} : ∀ {l : List Sg} {i : Nat}, (n, b, q) ∈ defsL i l ↔ ∃ (k : Nat) (s : Sg), l[k]? = some s ∧ b = ((i + k : Nat) : Int) ∧ SetAt s n q
  | [], i => by simp [defsL]
  | s :: r, i => by
    rw [defsL, List.mem_append, List.mem_append, defsJ_mem, defsC_mem, defsL_mem (l := r) (i := i + 1)]
    constructor
    · rintro (⟨h1, h2, h3⟩ | ⟨h1, m, u, h2, h3, h4⟩ | ⟨k, u, h1, h2, h3⟩)
      · exact ⟨0, s, rfl, by omega, .inl ⟨h2, h3⟩⟩
      · exact ⟨0, s, rfl, by omega, .inr ⟨m, u, h2, h3, by omega⟩⟩
      · exact ⟨k + 1, u, by simpa using h1, by omega, h3⟩
    · rintro ⟨k, u, h1, h2, h3⟩
      cases k with
      | zero =>
        simp at h1
        subst h1
        rcases h3 with ⟨h3, h4⟩ | ⟨m, v, h3, h4, h5⟩
        · exact .inl ⟨by omega, h3, h4⟩
        · exact .inr (.inl ⟨by omega, m, v, h3, h4, by omega⟩)
      | succ k => exact .inr (.inr ⟨k, u, by simpa using h1, by omega, h3⟩)

theorem defsAll_mem {nv : Nat} {l : List Sg} {n b q : Int} : (n, b, q) ∈ defsAll nv l ↔ ((0 ≤ n ∧ n < nv) ∧ b = -1 ∧ q = 21) ∨ ∃ (k : Nat) (s : Sg), l[k]? = some s ∧ b = (k : Int) ∧ SetAt s n q := by
  unfold defsAll
  rw [List.mem_append, defsV_mem, defsL_mem]
  simp

/-! ### .. and how often -/

theorem cnt_V (n : Int) : ∀ m v : Nat, cntD n (defsV v m) = if (v : Int) ≤ n ∧ n < v + m then 1 else 0
  | 0, v => by simp only [defsV, cntD]; rw [if_neg (by omega)]
  | m + 1, v => by
    rw [defsV, cntD, cnt_V n m (v + 1)]
    simp only []
    (repeat' split) <;> omega

theorem cnt_J (n : Int) (i : Nat) : ∀ js : List Jn, cntD n (defsJ i js) = setJ n js
  | [] => rfl
  | j :: r => by
    show (if j.to = n then 1 else 0) + cntD n (defsJ i r) = _
    rw [cnt_J n i r, setJ]

theorem cnt_C (n : Int) (i : Nat) : ∀ (co : List St) (k : Nat), cntD n (defsC i k co) = setC n co
  | [], _ => rfl
  | s :: r, k => by rw [defsC, cntD, cnt_C n i r, setC]

theorem cnt_L (n : Int) : ∀ (l : List Sg) (i : Nat), cntD n (defsL i l) = setAll n l
  | [], _ => rfl
  | s :: r, i => by
    rw [defsL, cntD_app, cntD_app, cnt_J, cnt_C, cnt_L n r, setAll, setN, List.take_length]
    omega

theorem cnt_all (nv : Nat) (l : List Sg) (n : Int) : cntD n (defsAll nv l) = (if 0 ≤ n ∧ n < nv then 1 else 0) + setAll n l := by
  unfold defsAll
  rw [cntD_app, cnt_V, cnt_L]
  simp

theorem setJ_pos {n : Int} : ∀ {js : List Jn}, 0 < setJ n js ↔ ∃ j ∈ js, j.to = n
  | [] => by simp [setJ]
  | j :: r => by
    have ih := setJ_pos (n := n) (js := r)
    rw [setJ]
    by_cases e : j.to = n
    · rw [if_pos e]
      exact ⟨fun _ => ⟨j, List.mem_cons_self .., e⟩, fun _ => by omega⟩
    · rw [if_neg e, Nat.zero_add, ih]
      constructor
      · rintro ⟨x, hx, h⟩; exact ⟨x, List.mem_cons_of_mem _ hx, h⟩
      · rintro ⟨x, hx, h⟩
        rcases List.mem_cons.1 hx with hx | hx
        · rw [hx] at h; exact absurd h e
        · exact ⟨x, hx, h⟩

theorem setC_pos {n : Int} : ∀ {co : List St}, 0 < setC n co ↔ ∃ s ∈ co, s.to = n
  | [] => by simp [setC]
  | j :: r => by
    have ih := setC_pos (n := n) (co := r)
    rw [setC]
    by_cases e : j.to = n
    · rw [if_pos e]
      exact ⟨fun _ => ⟨j, List.mem_cons_self .., e⟩, fun _ => by omega⟩
    · rw [if_neg e, Nat.zero_add, ih]
      constructor
      · rintro ⟨x, hx, h⟩; exact ⟨x, List.mem_cons_of_mem _ hx, h⟩
      · rintro ⟨x, hx, h⟩
        rcases List.mem_cons.1 hx with hx | hx
        · rw [hx] at h; exact absurd h e
        · exact ⟨x, hx, h⟩

theorem setN_pos {s : Sg} {n : Int} {k : Nat} (hk : k ≤ s.code.length) : 0 < setN s n k ↔ ∃ q, SetAt s n q ∧ q < 1 + (k : Int) := by
  unfold setN
  constructor
  · intro h
    rcases Nat.eq_zero_or_pos (setJ n s.joins) with h0 | h0
    · have h1 : 0 < setC n (s.code.take k) := by omega
      obtain ⟨u, hu, e⟩ := setC_pos.1 h1
      obtain ⟨m, hm, rfl⟩ := List.getElem_of_mem hu
      rw [List.length_take] at hm
      refine ⟨1 + (m : Int), .inr ⟨m, _, ?_, e, rfl⟩, by omega⟩
      rw [List.getElem_take, List.getElem?_eq_getElem (by omega)]
    · exact ⟨0, .inl ⟨rfl, setJ_pos.1 h0⟩, by omega⟩
  · rintro ⟨q, h | ⟨m, u, h1, h2, h3⟩, hq⟩
    · have := setJ_pos.2 h.2
      omega
    · have : 0 < setC n (s.code.take k) := setC_pos.2 ⟨u, List.mem_of_getElem? (i := m) (by rw [List.getElem?_take, if_pos (by omega)]; exact h1), h2⟩
      omega

theorem setAt_lt {s : Sg} {n q : Int} (h : SetAt s n q) : 0 ≤ q ∧ q < 1 + (s.code.length : Int) := by
  rcases h with ⟨h, _⟩ | ⟨m, u, h1, _, h3⟩
  · omega
  · have := (List.getElem?_eq_some_iff.1 h1).1
    omega

/-! ### What may be used where -/

/-- may a name be used at a place of a block, or at the beginning? -/
def alN (f : Int → Option (Int × Int)) (T : List Nat) (i place n : Int) : Bool :=
  match f n with
  | some (b, q) => if b = -1 then true else if i = -1 then false else if T.getD i.toNat 0 = 0 then true else if b = i then decide (q < place) else (T.getD i.toNat 0).testBit b.toNat
  | none => if i = -1 then false else decide (T.getD i.toNat 0 = 0)

/-- what the dominators say -/
structure Tb (nx : List (List Int)) (T : List Nat) (n : Nat) : Prop where
  len : T.length = n
  mem : ∀ (i W : Nat), T[i]? = some W → ∀ j, W.testBit j = true ↔ Dom nx j i

theorem Tb.zero {nx : List (List Int)} {T : List Nat} {n i : Nat} (h : Tb nx T n) (hi : i < n) : T.getD i 0 = 0 ↔ ¬ Rea nx (-1) 0 i := by
  have hl : i < T.length := by rw [h.len]; exact hi
  have hg := List.getElem?_eq_getElem hl
  have hm := h.mem i _ hg
  rw [List.getD_eq_getElem?_getD, hg, Option.getD_some]
  constructor
  · intro h0 hr
    have := (hm i).2 (Dom.me hr)
    rw [h0] at this
    simp at this
  · intro hn
    apply Nat.eq_of_testBit_eq
    intro j
    rw [Nat.zero_testBit]
    cases e : T[i].testBit j with
    | false => rfl
    | true => exact absurd ((hm j).1 e).2.1 hn

theorem Tb.bit {nx : List (List Int)} {T : List Nat} {n i j : Nat} (h : Tb nx T n) (hi : i < n) : (T.getD i 0).testBit j = true ↔ Dom nx j i := by
  have hl : i < T.length := by rw [h.len]; exact hi
  have hg := List.getElem?_eq_getElem hl
  rw [List.getD_eq_getElem?_getD, hg, Option.getD_some]
  exact h.mem i _ hg j

theorem alN_iff {nv : Nat} {l : List Sg} {T : List Nat} (hc : ckWay (nxP (bareP l)) = 0) (hT : Tb (nxP (bareP l)) T l.length) (hone : (dfAll nv l).2 = true) {i place n : Int} {k : Nat} (hn : 0 ≤ n) (hi : i = -1 ∨ ∃ j : Nat, i = (j : Int) ∧ j < l.length ∧ k ≤ (l.getD j sg0).code.length ∧ ∀ q, q < 1 + ((l.getD j sg0).code.length : Int) → (q < place ↔ q < 1 + (k : Int))) :
    alN (dfAll nv l).1 T i place n = true ↔ (0 ≤ i ∧ ¬ Rea (nxP (bareP l)) (-1) 0 i.toNat) ∨ Av nv l n i k := by
  have hD := dfAll_is nv l
  have h1 := hD.one.1 hone
  have uniq : ∀ {x y : Int × Int}, (n, x) ∈ defsAll nv l → (n, y) ∈ defsAll nv l → x = y := fun hx hy => cntD_one (h1 n) hx hy
  have setD : ∀ {j : Nat} {q : Int}, j < l.length → SetAt (l.getD j sg0) n q → (n, (j : Int), q) ∈ defsAll nv l := fun {j q} hj hs => defsAll_mem.2 (.inr ⟨j, _, by rw [List.getD_eq_getElem?_getD, List.getElem?_eq_getElem hj]; rfl, rfl, hs⟩)
  have nvD : n < nv → (n, -1, 21) ∈ defsAll nv l := fun h => defsAll_mem.2 (.inl ⟨⟨hn, h⟩, rfl, rfl⟩)
  unfold alN
  cases hf : (dfAll nv l).1 n with
  | none =>
    have h0 := hD.none n hf
    have hno : ∀ x, (n, x) ∉ defsAll nv l := fun x hx => by have := cntD_mem hx; omega
    have hav : ¬ Av nv l n i k := by
      rintro (h | ⟨h2, h3⟩)
      · exact hno _ (nvD h)
      · rcases hi with rfl | ⟨j, rfl, hj, hk, _⟩
        · omega
        · rw [Int.toNat_natCast] at h3
          rcases h3 with h3 | ⟨j', _, hd, h3⟩
          · obtain ⟨q, hq, _⟩ := (setN_pos hk).1 h3
            exact hno _ (setD hj hq)
          · have hj' : j' < l.length := by
              have := (hd.lt hc).1
              simpa [nxP, bareP] using this
            obtain ⟨q, hq, _⟩ := (setN_pos (Nat.le_refl _)).1 h3
            exact hno _ (setD hj' hq)
    simp only []
    rcases hi with rfl | ⟨j, rfl, hj, _, _⟩
    · simp [hav]
    · have e : ((j : Nat) : Int) ≠ -1 := by omega
      rw [if_neg e, Int.toNat_natCast, decide_eq_true_eq, hT.zero hj]
      simp [hav]
  | some x =>
    obtain ⟨b, q⟩ := x
    have hm := hD.mem n _ hf
    simp only []
    rcases defsAll_mem.1 hm with ⟨⟨_, h2⟩, rfl, rfl⟩ | ⟨jb, s, hs, rfl, hq⟩
    · simp [Av, h2]
    · have hnv : ¬ n < nv := fun h => by have := uniq hm (nvD h); injection this with e _; omega
      have hjb := (List.getElem?_eq_some_iff.1 hs).1
      have hsg : l.getD jb sg0 = s := by rw [List.getD_eq_getElem?_getD, hs]; rfl
      have e1 : ((jb : Nat) : Int) ≠ -1 := by omega
      rw [if_neg e1]
      rcases hi with rfl | ⟨j, rfl, hj, hk, hpl⟩
      · simp [Av, hnv]
      · have e2 : ((j : Nat) : Int) ≠ -1 := by omega
        rw [if_neg e2, Int.toNat_natCast]
        by_cases hr : Rea (nxP (bareP l)) (-1) 0 j
        · rw [if_neg (fun h => (hT.zero hj).1 h hr)]
          have hav : Av nv l n (j : Int) k ↔ (0 < setN (l.getD j sg0) n k ∨ ∃ j' : Nat, j' ≠ j ∧ Dom (nxP (bareP l)) j' j ∧ 0 < setN (l.getD j' sg0) n (l.getD j' sg0).code.length) := by
            unfold Av
            rw [Int.toNat_natCast]
            constructor
            · rintro (h | ⟨_, h⟩)
              · exact absurd h hnv
              · exact h
            · exact fun h => .inr ⟨by omega, h⟩
          have hL : ((0 : Int) ≤ (j : Int) ∧ ¬ Rea (nxP (bareP l)) (-1) 0 j ∨ Av nv l n (j : Int) k) ↔ Av nv l n (j : Int) k := ⟨fun h => h.elim (fun h => absurd hr h.2) id, .inr⟩
          rw [hL, hav]
          by_cases hjj : jb = j
          · subst hjj
            rw [if_pos rfl, decide_eq_true_eq, hpl q (by rw [hsg]; exact (setAt_lt hq).2)]
            constructor
            · intro h
              exact .inl ((setN_pos hk).2 ⟨q, by rw [hsg]; exact hq, h⟩)
            · rintro (h | ⟨j', hne, hd, h⟩)
              · obtain ⟨q', hq', hlt⟩ := (setN_pos hk).1 h
                have := uniq hm (setD hj hq')
                injection this with _ e
                omega
              · have hj' : j' < l.length := by
                  have := (hd.lt hc).1
                  simpa [nxP, bareP] using this
                obtain ⟨q', hq', _⟩ := (setN_pos (Nat.le_refl _)).1 h
                have := uniq hm (setD hj' hq')
                injection this with e _
                omega
          · rw [if_neg (by omega), Int.toNat_natCast, hT.bit hj]
            constructor
            · intro h
              exact .inr ⟨jb, hjj, h, (setN_pos (Nat.le_refl _)).2 ⟨q, by rw [hsg]; exact hq, by rw [hsg]; exact (setAt_lt hq).2⟩⟩
            · rintro (h | ⟨j', hne, hd, h⟩)
              · obtain ⟨q', hq', _⟩ := (setN_pos hk).1 h
                have := uniq hm (setD hj hq')
                injection this with e _
                omega
              · have hj' : j' < l.length := by
                  have := (hd.lt hc).1
                  simpa [nxP, bareP] using this
                obtain ⟨q', hq', _⟩ := (setN_pos (Nat.le_refl _)).1 h
                have := uniq hm (setD hj' hq')
                injection this with e _
                have : jb = j' := by omega
                rw [this]
                exact hd
        · rw [if_pos ((hT.zero hj).2 hr)]
          simp [hr]

end Go.Proofs.Ytgcjknibelfjbaa
