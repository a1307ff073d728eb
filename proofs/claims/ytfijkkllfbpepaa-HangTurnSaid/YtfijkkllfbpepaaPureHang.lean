/-
  Plain mathematics of postdominators and control dependence (H1, H2): no program's text.
-/
import Derived.Test.YtfijkkllfbpepaaPureLoop
namespace Go.Proofs.Ytfijkkllfbpepaa
set_option linter.unusedSimpArgs false
set_option linter.unusedVariables false

/-- one comes from i to an exit, without wo -/
def EndP (nx : List (List Int)) (wo : Int) (i : Nat) : Prop := ∃ j, Rea nx wo i j ∧ sc nx j = []

/-- H1: k postdominates i -/
def SureP (nx : List (List Int)) (i k : Nat) : Prop := EndP nx (-1) i ∧ (i = k ∨ ¬ EndP nx (k : Int) i)

/-- H2: k hangs on i -/
def HangP (nx : List (List Int)) (i k : Nat) : Prop := ∃ j, j ∈ sc nx i ∧ SureP nx j k ∧ (i = k ∨ ¬ SureP nx i k)

section
variable {nx : List (List Int)}

theorem Rea.free {wo : Int} {i j : Nat} {k : Nat} (hc : ckWay nx = 0) (hk : nx.length ≤ k) (hi : i < nx.length) (h : Rea nx wo i j) : Rea nx (k : Int) i j := by
  induction h with
  | here _ => exact .here (by omega)
  | @step a b _ hb _ ih => exact ih.step hb (by have := sc_lt hc hb; omega)

theorem SureP.lt (hc : ckWay nx = 0) {i k : Nat} (hi : i < nx.length) (h : SureP nx i k) : k < nx.length := by
  rcases Nat.lt_or_ge k nx.length with hk | hk
  · exact hk
  · exfalso
    rcases h.2 with rfl | h2
    · omega
    · obtain ⟨j, h3, h4⟩ := h.1
      exact h2 ⟨j, h3.free hc hk hi, h4⟩

theorem HangP.lt (hc : ckWay nx = 0) {i k : Nat} (h : HangP nx i k) : k < nx.length := by
  obtain ⟨j, h1, h2, _⟩ := h
  exact h2.lt hc (sc_lt hc h1)

/-- the first step -/
theorem Rea.head {wo : Int} {i j : Nat} (h : Rea nx wo i j) : j = i ∨ ∃ z, z ∈ sc nx i ∧ Rea nx wo z j := by
  induction h with
  | here _ => exact .inl rfl
  | @step a b h1 hb hw ih =>
    rcases ih with rfl | ⟨z, hz, h⟩
    · exact .inr ⟨b, hb, .here hw⟩
    · exact .inr ⟨z, hz, h.step hb hw⟩

theorem Rea.back {wo : Int} {i z j : Nat} (hi : (i : Int) ≠ wo) (hz : z ∈ sc nx i) (h : Rea nx wo z j) : Rea nx wo i j := (Rea.edge hi hz h.start).trans h

/-- on a node with one successor alone nothing hangs -/
theorem hang_one {i j0 : Nat} (h0 : j0 ∈ sc nx i) (hall : ∀ j ∈ sc nx i, j = j0) (hne : j0 ≠ i) (hns : ¬ SureP nx j0 i) (k : Nat) : ¬ HangP nx i k := by
  rintro ⟨j, hj, hs, hk⟩
  have := hall j hj
  subst this
  rcases hk with rfl | hk
  · exact hns hs
  · apply hk
    obtain ⟨e, he, hx⟩ := hs.1
    refine ⟨⟨e, he.back (nat_ne i) hj, hx⟩, ?_⟩
    by_cases hik : i = k
    · exact .inl hik
    · refine .inr fun ⟨f, hf, hfx⟩ => ?_
      rcases hf.head with rfl | ⟨z, hz, h⟩
      · rw [hfx] at hj; cases hj
      · have := hall z hz
        subst this
        rcases hs.2 with rfl | h2
        · exact h.start rfl
        · exact h2 ⟨f, h, hfx⟩

theorem hang_none {i : Nat} (h0 : sc nx i = []) (k : Nat) : ¬ HangP nx i k := by
  rintro ⟨j, hj, _⟩
  rw [h0] at hj
  cases hj

theorem hang_sure {i k : Nat} (h : HangP nx i k) (hs : SureP nx i k) : i = k := by
  obtain ⟨_, _, _, h⟩ := h
  exact h.elim id fun h => absurd hs h

theorem sure_bool (nx : List (List Int)) : ∃ f : Nat → Nat → Bool, ∀ i k, f i k = true ↔ SureP nx i k := ⟨fun i k => @decide (SureP nx i k) (Classical.propDecidable _), fun i k => by rw [@decide_eq_true_eq _ (Classical.propDecidable _)]⟩

theorem hang_bool (nx : List (List Int)) : ∃ f : Nat → Nat → Bool, ∀ i k, f i k = true ↔ HangP nx i k := ⟨fun i k => @decide (HangP nx i k) (Classical.propDecidable _), fun i k => by rw [@decide_eq_true_eq _ (Classical.propDecidable _)]⟩

end

end Go.Proofs.Ytfijkkllfbpepaa
