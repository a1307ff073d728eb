/-
  Slices of ints of the call's own: append, and what they read as.
-/
import Derived.Test.YthgilekhohadoaaApp
namespace Go.Proofs.Ythgilekhohadoaa
open Go.RowKit
set_option linter.unusedSimpArgs false
set_option linter.unusedVariables false
set_option maxRecDepth 100000

theorem int_app : AppTy Try.prog 39 3 1 8 := appTy_of (z := .int .i64 0) Try.underlying39 (by kernel_rfl) rfl (by omega)

theorem own_rdI {w : World} {base : Nat} {e : TypeId} {A : Option Addr} {c n : Nat} {xs : List Int} (h : w.ownsRow base e 1 (.slice A n c) n (iv xs)) (hn : xs.length = n) : RdI w w.heap.size A xs := by
  subst hn
  have := own_rd h
  rw [Nat.mul_one] at this
  exact this.congr fun j hj => by simp [iv, ic, hj]

theorem RdI.news {w : World} {B : Nat} {A : Option Addr} {xs : List Int} (h : RdI w B A xs) : ∀ ad, A = some ad → ∀ j u, (iv xs)[j]? = some u → w.cell? (ad.add j) = some u := by
  intro ad hA j u hu
  have hj : j < xs.length := by
    have := (List.getElem?_eq_some_iff.1 hu).1
    simpa [iv] using this
  obtain ⟨ad', e, _, hc⟩ := h (by omega)
  rw [hA] at e
  injection e with e
  subst e
  rw [hc j hj, ← hu]
  simp [iv, ic, hj]

theorem RdI.nil {w : World} {B : Nat} {A : Option Addr} {xs : List Int} (h : RdI w B A xs) : A = none → xs.length = 0 := by
  intro hA
  rcases Nat.eq_zero_or_pos xs.length with h0 | h0
  · exact h0
  · obtain ⟨ad, e, _⟩ := h h0
    rw [hA] at e
    cases e

theorem iv_one (xs : List Int) : ∀ u ∈ iv xs, u.oneCell' = true := by
  intro u hu
  simp only [iv, List.mem_map] at hu
  obtain ⟨x, _, rfl⟩ := hu
  rfl

theorem iv_append (a b : List Int) : iv (a ++ b) = iv a ++ iv b := by simp [iv]

theorem one_cell (x : Int) : ∀ u ∈ ([.int .i64 x] : List Value), u.oneCell' = true := fun u hu => by
  simp at hu
  subst hu
  rfl

end Go.Proofs.Ythgilekhohadoaa
