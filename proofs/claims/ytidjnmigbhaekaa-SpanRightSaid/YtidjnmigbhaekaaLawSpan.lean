/-
  Arguments that are spans, and slices of spans, opened (R1, R2).
-/
import Derived.Test.YtidjnmigbhaekaaOpenRecs
import Derived.Test.YtidjnmigbhaekaaSpanIs
namespace Go.Proofs.Ytidjnmigbhaekaa
open Go.RowKit Go.ChangeShapes Go.WideShapes Go.ChangeAt Go.Deep
set_option linter.unusedSimpArgs false
set_option linter.unusedVariables false
set_option maxRecDepth 100000

section
variable {H : Type} {enc : TypeId × Value → H} {P : Program} {w : World} {base : Nat} {spare : Nat → Bool} {held : Bool}

theorem cSp_mk (g : Nat → Int) (i : Nat) (h : i < 2) : (cMv (g 0, g 1))[i]? = some (.int .i64 (g i)) := by
  have : i = 0 ∨ i = 1 := by omega
  rcases this with rfl | rfl <;> rfl

/-- a struct of two ints that comes in -/
theorem open_spanR {t : TypeId} {f0 f1 : Field} {r : Reach} {b0 : Nat} {v : Value} {d : DataW H} {ps : List MemPlace} (ht : P.underlying t = some (.struct #[f0, f1]))
    (hone : oneCellFields P #[f0, f1] = true) (hC : P.cellsOf t = 2) (h0 : P.underlying f0.type = some (.int .i64)) (h1 : P.underlying f1.type = some (.int .i64))
    (hv : Value.okWide P w r b0 t v) (h : DataW.Trod enc P w base spare held t v d ps) : ∃ lo hi : Int, v = .agg #[.int .i64 lo, .int .i64 hi] ∧ inI lo ∧ inI hi := by
  obtain ⟨cs, rfl, hsz⟩ := okWide_struct ht hv
  obtain ⟨fuel, hf⟩ := h
  obtain ⟨xs, n, _, _, hlen, hxl, hg⟩ := DataW.trod_struct ht hf
  rw [hC] at hsz hlen
  have hcl : cs.toList.length = 2 := by simpa using hsz
  obtain ⟨a0, a1, hcs⟩ : ∃ a0 a1, cs.toList = [a0, a1] := by
    match cs.toList, hcl with
    | [a0, a1], _ => exact ⟨a0, a1, rfl⟩
  have hce : cs = #[a0, a1] := Array.toList_inj.1 (by simpa using hcs)
  subst hce
  have hxl2 : xs.length = 2 := by simpa using hxl
  have one := hone_of hone
  have g0 := hg 0 f0 rfl
  have g1 := hg 1 f1 rfl
  rw [(one 0 f0 rfl).1, (one 0 f0 rfl).2, List.getElem?_eq_getElem (by omega)] at g0
  rw [(one 1 f1 rfl).1, (one 1 f1 rfl).2, List.getElem?_eq_getElem (by omega)] at g1
  simp only [Value.cells, List.drop_succ_cons, List.drop_zero, List.take_succ_cons, List.take_zero] at g0 g1
  obtain ⟨lo, k0, _, w0⟩ := DataW.trod_int h0 g0
  obtain ⟨hi, k1, _, w1⟩ := DataW.trod_int h1 g1
  simp only [List.cons.injEq, and_true] at k0 k1
  subst k0 k1
  exact ⟨lo, hi, rfl, inI_of w0, inI_of w1⟩

theorem open_spanA {r : Reach} {b0 : Nat} {v : Value} {d : DataW H} {ps : List MemPlace} (hv : Value.okWide Try.prog w r b0 23 v) (h : DataW.Trod enc Try.prog w base spare held 23 v d ps) : ∃ lo hi : Int, v = .agg #[.int .i64 lo, .int .i64 hi] ∧ inI lo ∧ inI hi :=
  open_spanR Try.underlying23 (by kernel_rfl) (by kernel_rfl) Try.underlying3 Try.underlying3 hv h

theorem open_spansA {r : Reach} {b0 : Nat} {v : Value} {d : DataW H} {ps : List MemPlace} (hv : Value.okWide Try.prog w r b0 31 v) (h : DataW.Trod enc Try.prog w base spare held 31 v d ps) :
    ∃ (A : Option Addr) (cap : Nat) (l : List (Int × Int)), v = .slice A l.length cap ∧ l.length ≤ cap ∧ cap ≤ maxLen ∧ RdM w w.heap.size A l ∧ True := by
  obtain ⟨A, cap, l, h1, h2, h3, h4, _⟩ := open_recsG (c := cMv) (m := 2) (fun g => (g 0, g 1)) cSp_mk cMv_len (by omega) Try.underlying31 Try.underlying23 rfl (by kernel_rfl) (by kernel_rfl) (by kernel_rfl) hv h
  exact ⟨A, cap, l, h1, h2, h3, h4, trivial⟩

end

end Go.Proofs.Ytidjnmigbhaekaa
