/-
  What every law's row needs of this program: its own knob, its layout; its arguments opened.
-/
import Derived.Test.YtfhnhbkdhdocjaaOpen
import Derived.Test.YtfhnhbkdhdocjaaClosed
namespace Go.Proofs.Ytfhnhbkdhdocjaa
open Go.RowKit Go.ChangeShapes Go.WideShapes Go.ChangeAt Go.Deep
set_option linter.unusedSimpArgs false
set_option linter.unusedVariables false
set_option maxRecDepth 100000

theorem Try.own : ownKnob Try.prog.godebug = none := by kernel_rfl

theorem Try.laidOut : laidOutB Try.prog = true := by kernel_rfl

section
variable {H : Type} {enc : TypeId × Value → H} {w : World} {base : Nat} {spare : Nat → Bool} {held : Bool} {r : Reach} {b0 : Nat} {v : Value} {d : DataW H} {ps : List MemPlace}
theorem open_termsA (hv : Value.okWide Try.prog w r b0 50 v) (h : DataW.Trod enc Try.prog w base spare held 50 v d ps) :
    ∃ (A : Option Addr) (cap : Nat) (l : List Tm), v = .slice A l.length cap ∧ l.length ≤ cap ∧ cap ≤ maxLen ∧ RdT w w.heap.size A l ∧ ∀ t ∈ l, inI t.op ∧ inI t.a ∧ inI t.b ∧ inI t.v :=
  open_terms Try.underlying50 Try.underlying56 rfl (by kernel_rfl) (by kernel_rfl) (by kernel_rfl) hv h
theorem open_intsA (hv : Value.okWide Try.prog w r b0 39 v) (h : DataW.Trod enc Try.prog w base spare held 39 v d ps) :
    ∃ (A : Option Addr) (cap : Nat) (xs : List Int), v = .slice A xs.length cap ∧ xs.length ≤ cap ∧ cap ≤ maxLen ∧ RdI w w.heap.size A xs ∧ ∀ x ∈ xs, inI x :=
  open_intsR Try.underlying39 Try.underlying3 (by kernel_rfl) hv h
end

end Go.Proofs.Ytfhnhbkdhdocjaa
