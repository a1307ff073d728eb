/-
  codemasonref.Inside of three.
-/
import Derived.Test.YtacokdghfkpdpaaInside
namespace Go.Proofs.Ytacokdghfkpdpaa
open Go.RowKit
set_option linter.unusedSimpArgs false
set_option linter.unusedVariables false
set_option maxRecDepth 100000

theorem rdI_three {w : World} {p : Addr} {x y z : Int} (h : w.cell? p = some (.int .i64 x)) (h' : w.cell? ⟨p.block, p.off + 1, none⟩ = some (.int .i64 y)) (h'' : w.cell? ⟨p.block, p.off + 2, none⟩ = some (.int .i64 z)) : RdI w (p.block + 1) (some p) [x, y, z] := fun _ =>
  ⟨p, rfl, by omega, fun j hj => by
    have : j = 0 ∨ j = 1 ∨ j = 2 := by simp at hj; omega
    rcases this with rfl | rfl | rfl
    · exact h
    · exact h'
    · exact h''⟩

theorem inside3_any (n x y z : Int) (p : Addr) (c : Nat) (w : World) (h : w.cell? p = some (.int .i64 x)) (h' : w.cell? ⟨p.block, p.off + 1, none⟩ = some (.int .i64 y)) (h'' : w.cell? ⟨p.block, p.off + 2, none⟩ = some (.int .i64 z)) :
    Calls Try.prog 21 #[.int .i64 n, .slice (some p) 3 c] w fun e w' => e = .returned (.bool (decide (0 ≤ x ∧ x < n ∧ 0 ≤ y ∧ y < n ∧ 0 ≤ z ∧ z < n))) ∧ w = w' :=
  (inside_any n (some p) 3 c [x, y, z] _ w (rdI_three h h' h'') rfl (by omega)).mono fun e w' ⟨he, hw⟩ => ⟨by
    rw [he]
    refine ret_bool ?_
    simp only [insideB]
    (repeat' split) <;> simp <;> omega, hw⟩

end Go.Proofs.Ytacokdghfkpdpaa
