/-
  Arguments that are assignments, and slices of assignments, opened (V1, V2).
-/
import Derived.Test.YtfbnmgnkigfgpaaOpenRecs
import Derived.Test.YtfbnmgnkigfgpaaPtCk
namespace Go.Proofs.Ytfbnmgnkigfgpaa
open Go.RowKit Go.ChangeShapes Go.WideShapes Go.ChangeAt Go.Deep
set_option linter.unusedSimpArgs false
set_option linter.unusedVariables false
set_option maxRecDepth 100000

section
variable {H : Type} {enc : TypeId × Value → H} {P : Program} {w : World} {base : Nat} {spare : Nat → Bool} {held : Bool}

theorem cPz_mk (g : Nat → Int) (i : Nat) (h : i < 3) : (cPz ⟨g 0, g 1, g 2⟩)[i]? = some (.int .i64 (g i)) := by
  have : i = 0 ∨ i = 1 ∨ i = 2 := by omega
  rcases this with rfl | rfl | rfl <;> rfl

theorem open_pointsA {r : Reach} {b0 : Nat} {v : Value} {d : DataW H} {ps : List MemPlace} (hv : Value.okWide Try.prog w r b0 22 v) (h : DataW.Trod enc Try.prog w base spare held 22 v d ps) :
    ∃ (A : Option Addr) (cap : Nat) (l : List Pz), v = .slice A l.length cap ∧ l.length ≤ cap ∧ cap ≤ maxLen ∧ RdPz w w.heap.size A l ∧ True := by
  obtain ⟨A, cap, l, h1, h2, h3, h4, _⟩ := open_recsG (c := cPz) (m := 3) (fun g => ⟨g 0, g 1, g 2⟩) cPz_mk cPz_len (by omega) Try.underlying22 Try.underlying41 rfl (by kernel_rfl) (by kernel_rfl) (by kernel_rfl) hv h
  exact ⟨A, cap, l, h1, h2, h3, h4, trivial⟩

/-- a struct of three ints that comes in -/
theorem open_three {t : TypeId} {f0 f1 f2 : Field} {r : Reach} {b0 : Nat} {v : Value} {d : DataW H} {ps : List MemPlace} (ht : P.underlying t = some (.struct #[f0, f1, f2]))
    (hone : oneCellFields P #[f0, f1, f2] = true) (hC : P.cellsOf t = 3) (h0 : P.underlying f0.type = some (.int .i64)) (h1 : P.underlying f1.type = some (.int .i64)) (h2 : P.underlying f2.type = some (.int .i64))
    (hv : Value.okWide P w r b0 t v) (h : DataW.Trod enc P w base spare held t v d ps) : ∃ a b c : Int, v = .agg #[.int .i64 a, .int .i64 b, .int .i64 c] := by
  obtain ⟨cs, rfl, hsz⟩ := okWide_struct ht hv
  obtain ⟨fuel, hf⟩ := h
  obtain ⟨xs, n, _, _, hlen, hxl, hg⟩ := DataW.trod_struct ht hf
  rw [hC] at hsz hlen
  have hcl : cs.toList.length = 3 := by simpa using hsz
  obtain ⟨a0, a1, a2, hcs⟩ : ∃ a0 a1 a2, cs.toList = [a0, a1, a2] := by
    match cs.toList, hcl with
    | [a0, a1, a2], _ => exact ⟨a0, a1, a2, rfl⟩
  have hce : cs = #[a0, a1, a2] := Array.toList_inj.1 (by simpa using hcs)
  subst hce
  have hxl2 : xs.length = 3 := by simpa using hxl
  have one := hone_of hone
  have g0 := hg 0 f0 rfl
  have g1 := hg 1 f1 rfl
  have g2 := hg 2 f2 rfl
  rw [(one 0 f0 rfl).1, (one 0 f0 rfl).2, List.getElem?_eq_getElem (by omega)] at g0
  rw [(one 1 f1 rfl).1, (one 1 f1 rfl).2, List.getElem?_eq_getElem (by omega)] at g1
  rw [(one 2 f2 rfl).1, (one 2 f2 rfl).2, List.getElem?_eq_getElem (by omega)] at g2
  simp only [Value.cells, List.drop_succ_cons, List.drop_zero, List.take_succ_cons, List.take_zero] at g0 g1 g2
  obtain ⟨a, k0, _, w0⟩ := DataW.trod_int h0 g0
  obtain ⟨b, k1, _, w1⟩ := DataW.trod_int h1 g1
  obtain ⟨c, k2, _, w2⟩ := DataW.trod_int h2 g2
  simp only [List.cons.injEq, and_true] at k0 k1 k2
  subst k0 k1 k2
  exact ⟨a, b, c, rfl⟩

theorem open_pointA {r : Reach} {b0 : Nat} {v : Value} {d : DataW H} {ps : List MemPlace} (hv : Value.okWide Try.prog w r b0 41 v) (h : DataW.Trod enc Try.prog w base spare held 41 v d ps) : ∃ a b c : Int, v = .agg #[.int .i64 a, .int .i64 b, .int .i64 c] :=
  open_three Try.underlying41 (by kernel_rfl) (by kernel_rfl) Try.underlying3 Try.underlying3 Try.underlying3 hv h

end

end Go.Proofs.Ytfbnmgnkigfgpaa
