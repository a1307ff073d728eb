/-
  Plain mathematics of levels by relaxing (Q1).
-/
import Derived.Test.YthmcigdoaededaaPlanPure
namespace Go.Proofs.Ythmcigdoaededaa
set_option linter.unusedSimpArgs false
set_option linter.unusedVariables false

/-- a chain of q + 1 tasks begins with i -/
def wkP (ps : List (Nat × Nat)) : Nat → Nat → Prop
  | 0, _ => True
  | q + 1, i => ∃ j, (i, j) ∈ ps ∧ wkP ps q j

/-- relaxed: r rounds, and the first k pairs -/
structure RlxI (n : Nat) (ps : List (Nat × Nat)) (r k : Nat) (f : Nat → Nat) : Prop where
  pos : ∀ i, i < n → 1 ≤ f i
  top : ∀ i, i < n → f i ≤ 1 + r * ps.length + k
  up : ∀ i, i < n → wkP ps (f i - 1) i
  lo : ∀ i q, i < n → wkP ps q i → q ≤ r → q + 1 ≤ f i
  mid : ∀ i j q, i < n → (i, j) ∈ ps.take k → wkP ps q j → q ≤ r → q + 2 ≤ f i

def rlxF (f : Nat → Nat) (a b : Nat) : Nat → Nat := fun i => if i = a then max (f a) (f b + 1) else f i

theorem rlx_le (f : Nat → Nat) (a b i : Nat) : f i ≤ rlxF f a b i := by
  unfold rlxF
  split
  · rename_i e; subst e; exact Nat.le_max_left _ _
  · exact Nat.le_refl _

theorem RlxI.start (n : Nat) (ps : List (Nat × Nat)) : RlxI n ps 0 0 (fun _ => 1) :=
  ⟨fun _ _ => Nat.le_refl _, fun _ _ => by omega, fun _ _ => trivial, fun i q _ _ h => by omega, fun i j q _ h => by simp at h⟩

theorem RlxI.step {n r k a b : Nat} {ps : List (Nat × Nat)} {f : Nat → Nat} (h : RlxI n ps r k f) (hin : ∀ p ∈ ps, p.1 < n ∧ p.2 < n) (hk : ps[k]? = some (a, b)) : RlxI n ps r (k + 1) (rlxF f a b) := by
  have hm := List.mem_of_getElem? hk
  obtain ⟨ha, hb⟩ := hin _ hm
  simp only at ha hb
  refine ⟨fun i hi => Nat.le_trans (h.pos i hi) (rlx_le f a b i), fun i hi => ?_, fun i hi => ?_, fun i q hi hw hq => Nat.le_trans (h.lo i q hi hw hq) (rlx_le f a b i), fun i j q hi hij hw hq => ?_⟩
  · unfold rlxF
    have h1 := h.top a ha
    have h2 := h.top b hb
    have h3 := h.top i hi
    split <;> omega
  · unfold rlxF
    split
    · rename_i e
      subst e
      rcases Nat.le_total (f b + 1) (f i) with h1 | h1
      · rw [Nat.max_eq_left h1]; exact h.up i hi
      · rw [Nat.max_eq_right h1, Nat.add_sub_cancel]
        have h2 := h.pos b hb
        obtain ⟨q, hq⟩ : ∃ q, f b = q + 1 := ⟨f b - 1, by omega⟩
        have h3 := h.up b hb
        rw [hq] at h3 ⊢
        exact ⟨b, hm, h3⟩
    · exact h.up i hi
  · rw [List.take_add_one, hk, Option.toList_some, List.mem_append] at hij
    rcases hij with hij | hij
    · exact Nat.le_trans (h.mid i j q hi hij hw hq) (rlx_le f a b i)
    · have e := List.mem_singleton.1 hij
      injection e with e1 e2
      subst e1 e2
      have := h.lo j q hb hw hq
      unfold rlxF
      rw [if_pos rfl]
      omega

theorem RlxI.next {n r : Nat} {ps : List (Nat × Nat)} {f : Nat → Nat} (h : RlxI n ps r ps.length f) (hin : ∀ p ∈ ps, p.1 < n ∧ p.2 < n) : RlxI n ps (r + 1) 0 f := by
  refine ⟨h.pos, fun i hi => ?_, h.up, fun i q hi hw hq => ?_, fun i j q _ hij => by simp at hij⟩
  · have := h.top i hi
    rw [Nat.succ_mul]
    omega
  · cases q with
    | zero => exact h.pos i hi
    | succ q =>
      obtain ⟨j, hj, hw2⟩ := hw
      exact h.mid i j q hi (by rw [List.take_of_length_le (Nat.le_refl _)]; exact hj) hw2 (by omega)

theorem wk_lev {n : Nat} {ps : List (Nat × Nat)} (hk : TkOk n ps) : ∀ q i, i < n → wkP ps q i → q + 1 ≤ lvT n ps i
  | 0, i, hi, _ => hk.lev.pos i hi
  | q + 1, i, hi, ⟨j, hj, hw⟩ => by
    have h1 := (hk.ins _ hj).2
    have h2 := wk_lev hk q j h1 hw
    have h3 := hk.lev.down i j hi h1 hj
    omega

theorem lev_wk {n : Nat} {ps : List (Nat × Nat)} (hk : TkOk n ps) : ∀ q i, i < n → lvT n ps i ≤ q → wkP ps (lvT n ps i - 1) i
  | 0, i, hi, hq => by have := hk.lev.pos i hi; omega
  | q + 1, i, hi, hq => by
    rcases hk.lev.step i hi with h1 | ⟨j, hj, hp, h1⟩
    · rw [h1]; trivial
    · have h2 := hk.lev.pos j hj
      have h3 := lev_wk hk q j hj (by omega)
      obtain ⟨x, hx⟩ : ∃ x, lvT n ps j = x + 1 := ⟨lvT n ps j - 1, by omega⟩
      rw [h1, hx]
      rw [hx] at h3
      exact ⟨j, hp, h3⟩

theorem RlxI.same {n : Nat} {ps : List (Nat × Nat)} {f : Nat → Nat} (h : RlxI n ps n 0 f) (hk : TkOk n ps) {i : Nat} (hi : i < n) : f i = lvT n ps i := by
  have h1 := wk_lev hk _ i hi (h.up i hi)
  have h2 := hk.lev_le hi
  have h3 := h.lo i _ hi (lev_wk hk _ i hi (Nat.le_refl _)) (by omega)
  have h4 := h.pos i hi
  have h5 := hk.lev.pos i hi
  omega

theorem rea_head {nx : List (List Int)} {wo : Int} {i j : Nat} (h : Rea nx wo i j) : j = i ∨ ∃ z, z ∈ sc nx i ∧ Rea nx wo z j := by
  induction h with
  | here _ => exact .inl rfl
  | step h1 h2 h3 ih =>
    rcases ih with e | ⟨z, hz, hr⟩
    · subst e; exact .inr ⟨_, h2, .here h3⟩
    · exact .inr ⟨z, hz, hr.step h2 h3⟩

theorem RlxI.round {n : Nat} {ps : List (Nat × Nat)} {f : Nat → Nat} (h : RlxI n ps n 0 f) (hin : ∀ p ∈ ps, p.1 < n ∧ p.2 < n) (hr : Round n ps) : ∃ i, i < n ∧ n < f i := by
  obtain ⟨a, b, ha, hp, hba⟩ := hr
  refine ⟨a, ha, ?_⟩
  have := h.lo a n ha ?_ (Nat.le_refl _)
  · omega
  · have hall : ∀ q i, i < n → Rea (bhG n ps) (-1) i a → wkP ps q i := by
      intro q
      induction q with
      | zero => intro i _ _; trivial
      | succ q ih =>
        intro i hi hr
        rcases rea_head hr with e | ⟨z, hz, hz2⟩
        · subst e
          exact ⟨b, hp, ih b (hin _ hp).2 hba⟩
        · rw [bhG_sc hi] at hz
          have h1 := bhL_mem.1 hz
          exact ⟨z, h1, ih z (hin _ h1).2 hz2⟩
    exact hall n a ha (Rea.me _ _)

theorem RlxI.none {n : Nat} {ps : List (Nat × Nat)} {f : Nat → Nat} (h : RlxI n ps n 0 f) (hk : TkOk n ps) {i : Nat} (hi : i < n) : f i ≤ n := by
  rw [h.same hk hi]
  exact hk.lev_le hi

end Go.Proofs.Ythmcigdoaededaa
