/-
  An argument that is a slice of moves, opened (N1).
-/
import Derived.Test.YtlknmfabfmmggaaOpenRecs
import Derived.Test.YtlknmfabfmmggaaSwapMv
namespace Go.Proofs.Ytlknmfabfmmggaa
open Go.RowKit Go.ChangeShapes Go.WideShapes Go.ChangeAt Go.Deep
set_option linter.unusedSimpArgs false
set_option linter.unusedVariables false
set_option maxRecDepth 100000

section
variable {H : Type} {enc : TypeId × Value → H} {w : World} {base : Nat} {spare : Nat → Bool} {held : Bool}

theorem cMv_mk (g : Nat → Int) (i : Nat) (h : i < 2) : (cMv (g 0, g 1))[i]? = some (.int .i64 (g i)) := by
  have : i = 0 ∨ i = 1 := by omega
  rcases this with rfl | rfl <;> rfl

theorem open_movesA {r : Reach} {b0 : Nat} {v : Value} {d : DataW H} {ps : List MemPlace} (hv : Value.okWide Try.prog w r b0 22 v) (h : DataW.Trod enc Try.prog w base spare held 22 v d ps) :
    ∃ (A : Option Addr) (cap : Nat) (l : List (Int × Int)), v = .slice A l.length cap ∧ l.length ≤ cap ∧ cap ≤ maxLen ∧ RdM w w.heap.size A l ∧ True := by
  obtain ⟨A, cap, l, h1, h2, h3, h4, _⟩ := open_recsG (c := cMv) (m := 2) (fun g => (g 0, g 1)) cMv_mk cMv_len (by omega) Try.underlying22 Try.underlying32 rfl (by kernel_rfl) (by kernel_rfl) (by kernel_rfl) hv h
  exact ⟨A, cap, l, h1, h2, h3, h4, trivial⟩

end

end Go.Proofs.Ytlknmfabfmmggaa
