/-
  An argument that is stack code, opened.
-/
import Derived.Test.YtppnckiedcbleaaStack
import Derived.Test.YtppnckiedcbleaaSame
import Derived.Test.YtppnckiedcbleaaIntsSame
import Derived.Test.YtppnckiedcbleaaLawTree
namespace Go.Proofs.Ytppnckiedcbleaa
open Go.RowKit Go.ChangeShapes Go.WideShapes Go.ChangeAt Go.Deep
set_option linter.unusedSimpArgs false
set_option linter.unusedVariables false
set_option maxRecDepth 100000

section
variable {H : Type} {enc : TypeId × Value → H} {P : Program} {w : World} {base : Nat} {spare : Nat → Bool} {held : Bool}

theorem cSo_mk (g : Nat → Int) (i : Nat) (h : i < 2) : (cSo ⟨g 0, g 1⟩)[i]? = some (.int .i64 (g i)) := by
  have : i = 0 ∨ i = 1 := by omega
  rcases this with rfl | rfl <;> rfl

theorem open_sopsA {r : Reach} {b0 : Nat} {v : Value} {d : DataW H} {ps : List MemPlace} (hv : Value.okWide Try.prog w r b0 66 v) (h : DataW.Trod enc Try.prog w base spare held 66 v d ps) :
    ∃ (A : Option Addr) (cap : Nat) (l : List So), v = .slice A l.length cap ∧ l.length ≤ cap ∧ cap ≤ maxLen ∧ RdO w w.heap.size A l ∧ True := by
  obtain ⟨A, cap, l, h1, h2, h3, h4, _⟩ := open_recs (c := cSo) (m := 2) (fun g => ⟨g 0, g 1⟩) cSo_mk cSo_len (by omega) Try.underlying66 Try.underlying77 rfl (by kernel_rfl) (by kernel_rfl) (by kernel_rfl) hv h
  exact ⟨A, cap, l, h1, h2, h3, h4, trivial⟩

end

end Go.Proofs.Ytppnckiedcbleaa
