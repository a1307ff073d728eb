/-
  What every law's row needs of this program: its own knob, its layout; its arguments opened.
-/
import Derived.Test.YtggekjccblblpaaOpen
import Derived.Test.YtggekjccblblpaaClosed
namespace Go.Proofs.Ytggekjccblblpaa
open Go.RowKit Go.ChangeShapes Go.WideShapes Go.ChangeAt Go.Deep
set_option linter.unusedSimpArgs false
set_option linter.unusedVariables false
set_option maxRecDepth 100000

theorem Try.own : ownKnob Try.prog.godebug = none := by kernel_rfl

theorem Try.laidOut : laidOutB Try.prog = true := by kernel_rfl

section
variable {H : Type} {enc : TypeId × Value → H} {w : World} {base : Nat} {spare : Nat → Bool} {held : Bool} {r : Reach} {b0 : Nat} {v : Value} {d : DataW H} {ps : List MemPlace}
theorem open_termsA (hv : Value.okWide Try.prog w r b0 23 v) (h : DataW.Trod enc Try.prog w base spare held 23 v d ps) :
    ∃ (A : Option Addr) (cap : Nat) (l : List Tm), v = .slice A l.length cap ∧ l.length ≤ cap ∧ cap ≤ maxLen ∧ RdT w w.heap.size A l ∧ ∀ t ∈ l, inI t.op ∧ inI t.a ∧ inI t.b ∧ inI t.v :=
  open_terms Try.underlying23 Try.underlying31 rfl (by kernel_rfl) (by kernel_rfl) (by kernel_rfl) hv h
theorem open_intsA (hv : Value.okWide Try.prog w r b0 24 v) (h : DataW.Trod enc Try.prog w base spare held 24 v d ps) :
    ∃ (A : Option Addr) (cap : Nat) (xs : List Int), v = .slice A xs.length cap ∧ xs.length ≤ cap ∧ cap ≤ maxLen ∧ RdI w w.heap.size A xs ∧ ∀ x ∈ xs, inI x :=
  open_intsR Try.underlying24 Try.underlying3 (by kernel_rfl) hv h
end

end Go.Proofs.Ytggekjccblblpaa
