/-
  The closed facts of a row, piece by piece: what hangs on the start's word is reckoned once, on its letters.
-/
import Derived.Test.YtfhnhbkdhdocjaaRows
import Derived.WalkKit
namespace Go.Proofs.Ytfhnhbkdhdocjaa
open Go.RowKit
set_option linter.unusedSimpArgs false
set_option linter.unusedVariables false

theorem and_both {a b : Bool} (h : a = true) (h' : b = true) : (a && b) = true := by rw [h, h']; rfl

/-- the start's word, letter by letter -/
def initN : List Nat := [104, 97, 114, 110, 101, 115, 115, 32, 57, 55, 97, 57, 54, 50, 49, 100, 97, 53, 102, 49, 99, 51, 56, 48, 48, 100, 54, 55, 56, 56, 49, 98, 57, 50, 53, 101, 101, 49, 56, 51, 51, 54, 99, 101, 98, 97, 97, 48, 100, 52, 48, 50, 51, 53, 50, 57, 100, 100, 52, 101, 97, 99, 51, 53, 50, 102, 55, 51, 100, 100, 101, 56, 32, 99, 117, 116, 32, 97, 116, 32, 99, 111, 100, 101, 109, 97, 115, 111, 110, 47, 99, 111, 100, 101, 109, 97, 115, 111, 110, 108, 97, 119, 46, 76, 105, 118, 101, 84, 101, 108, 108, 115, 32, 99, 111, 100, 101, 109, 97, 115, 111, 110, 47, 99, 111, 100, 101, 109, 97, 115, 111, 110, 108, 97, 119, 46, 76, 105, 118, 101, 84, 114, 105, 109, 115, 32, 99, 111, 100, 101, 109, 97, 115, 111, 110, 47, 99, 111, 100, 101, 109, 97, 115, 111, 110, 107, 101, 101, 112, 46, 76, 105, 118, 101, 83, 97, 102, 101, 32, 99, 111, 100, 101, 109, 97, 115, 111, 110, 47, 99, 111, 100, 101, 109, 97, 115, 111, 110, 107, 101, 101, 112, 46, 76, 105, 118, 101, 84, 114, 105, 109, 32, 99, 111, 100, 101, 109, 97, 115, 111, 110, 47, 99, 111, 100, 101, 109, 97, 115, 111, 110, 107, 101, 101, 112, 46, 76, 105, 118, 101, 77, 111, 114, 101, 32, 99, 111, 100, 101, 109, 97, 115, 111, 110, 47, 99, 111, 100, 101, 109, 97, 115, 111, 110, 108, 97, 119, 46, 87, 101, 97, 107, 65, 104, 101, 97, 100, 115, 32, 99, 111, 100, 101, 109, 97, 115, 111, 110, 47, 99, 111, 100, 101, 109, 97, 115, 111, 110, 108, 97, 119, 46, 87, 101, 97, 107, 72, 111, 108, 100, 115, 32, 99, 111, 100, 101, 109, 97, 115, 111, 110, 47, 99, 111, 100, 101, 109, 97, 115, 111, 110, 107, 101, 101, 112, 46, 87, 101, 97, 107, 84, 119, 111, 32, 99, 111, 100, 101, 109, 97, 115, 111, 110, 47, 99, 111, 100, 101, 109, 97, 115, 111, 110, 107, 101, 101, 112, 46, 87, 101, 97, 107, 82, 117, 108, 101, 32, 99, 111, 100, 101, 109, 97, 115, 111, 110, 47, 99, 111, 100, 101, 109, 97, 115, 111, 110, 108, 97, 119, 46, 67, 117, 116, 78, 101, 101, 100, 115, 32, 99, 111, 100, 101, 109, 97, 115, 111, 110, 47, 99, 111, 100, 101, 109, 97, 115, 111, 110, 108, 97, 119, 46, 67, 117, 116, 83, 108, 105, 99, 101, 115, 32, 99, 111, 100, 101, 109, 97, 115, 111, 110, 47, 99, 111, 100, 101, 109, 97, 115, 111, 110, 107, 101, 101, 112, 46, 67, 117, 116, 87, 101, 105, 115, 101, 114, 32, 99, 111, 100, 101, 109, 97, 115, 111, 110, 47, 99, 111, 100, 101, 109, 97, 115, 111, 110, 107, 101, 101, 112, 46, 67, 117, 116, 77, 111, 114, 101, 32, 99, 111, 100, 101, 109, 97, 115, 111, 110, 47, 99, 111, 100, 101, 109, 97, 115, 111, 110, 107, 101, 101, 112, 46, 67, 117, 116, 76, 105, 118, 101]

def cutW : List Char := [99, 117, 116].map Char.ofNat

theorem init_eq : Try.prog.initOrder = String.ofList (initN.map Char.ofNat) := by kernel_rfl

theorem init_chars : Try.prog.initOrder.toList = initN.map Char.ofNat := by rw [init_eq]; exact String.toList_ofList

theorem init_head : (behindMainWord (wordsSigns (initN.map Char.ofNat))).head? = some cutW := by kernel_rfl

theorem init_words : ∃ r, behindMainWord (wordsSigns Try.prog.initOrder.toList) = cutW :: r := by
  rw [init_chars]
  have h := init_head
  revert h
  generalize behindMainWord (wordsSigns (initN.map Char.ofNat)) = X
  intro h
  cases X with
  | nil => cases h
  | cons a r => exact ⟨r, by injection h with h; rw [h]⟩

theorem strip_cut (r : List (List Char)) : stripLifts liftWords (cutW :: r) = ([], cutW :: r) := by kernel_rfl

theorem cut_word : (cutW == "cut".toList) = true := by kernel_rfl

theorem cut_word_some : (some cutW == some "cut".toList) = true := by kernel_rfl

theorem cut_no_gc : (cutW == "gc".toList) = false := by kernel_rfl

theorem cut_no_spec : (cutW == "spec".toList) = false := by kernel_rfl

theorem cut_no_carried : (cutW == "carried".toList) = false := by kernel_rfl

theorem cut_no_carried_some : (some cutW == some "carried".toList) = false := by kernel_rfl

theorem mayEnter_of {P : Program} {r : List (List Char)} (h : behindMainWord (wordsSigns P.initOrder.toList) = cutW :: r) (h1 : P.laysLater = false) (h2 : P.bearsReflect = false) (h3 : P.doorFits [] = true) : P.mayEnter = true := by
  unfold Program.mayEnter
  rw [h]
  simp only [strip_cut, List.head?_cons, cut_word_some, h1, h2, h3, Bool.not_false, Bool.or_true, Bool.and_self, List.contains_nil, Bool.true_and, Bool.and_true]

theorem make_of {P : Program} {r : List (List Char)} (h : behindMainWord (wordsSigns P.initOrder.toList) = cutW :: r) : P.make = some .cut := by
  unfold Program.make
  rw [h]
  simp only [cut_no_gc, cut_no_spec, cut_word, Bool.or_false, Bool.true_or, if_true, Bool.false_eq_true, if_false]

theorem lifts_of {P : Program} {r : List (List Char)} (h : behindMainWord (wordsSigns P.initOrder.toList) = cutW :: r) : P.liftsFinal = false := by
  unfold Program.liftsFinal Program.headLifts
  rw [h]
  simp only [strip_cut, List.head?_cons, cut_word_some, cut_no_carried_some, if_true, List.contains_nil, Bool.false_and, Bool.or_false]

theorem may_enter : Try.prog.mayEnter = true := by
  obtain ⟨r, h⟩ := init_words
  exact mayEnter_of h (by kernel_rfl) (by kernel_rfl) (by kernel_rfl)

theorem make_ok {m : Make} (hm : m = .cut) : (Try.prog.make == some m) = true := by
  obtain ⟨r, h⟩ := init_words
  rw [make_of h, hm]
  kernel_rfl

theorem lifts_ok {b : Bool} (hb : b = false) : (b == Try.prog.liftsFinal) = true := by
  obtain ⟨r, h⟩ := init_words
  rw [lifts_of h, hb]
  kernel_rfl

end Go.Proofs.Ytfhnhbkdhdocjaa
