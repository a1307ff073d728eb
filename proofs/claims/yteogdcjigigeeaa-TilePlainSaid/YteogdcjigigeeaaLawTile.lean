/-
  Arguments that are tiles, and slices of tiles, opened; codemasonlaw.tileCode (W1, W2).
-/
import Derived.Test.YteogdcjigigeeaaOpenRecs
import Derived.Test.YteogdcjigigeeaaTiRef
namespace Go.Proofs.Yteogdcjigigeeaa
open Go.RowKit Go.ChangeShapes Go.WideShapes Go.ChangeAt Go.Deep
set_option linter.unusedSimpArgs false
set_option linter.unusedVariables false
set_option maxRecDepth 100000

section
variable {H : Type} {enc : TypeId × Value → H} {P : Program} {w : World} {base : Nat} {spare : Nat → Bool} {held : Bool}

theorem cTi_mk (g : Nat → Int) (i : Nat) (h : i < 4) : (cTi ⟨g 0, g 1, g 2, g 3⟩)[i]? = some (.int .i64 (g i)) := by
  have : i = 0 ∨ i = 1 ∨ i = 2 ∨ i = 3 := by omega
  rcases this with rfl | rfl | rfl | rfl <;> rfl

theorem open_tilesA {r : Reach} {b0 : Nat} {v : Value} {d : DataW H} {ps : List MemPlace} (hv : Value.okWide Try.prog w r b0 23 v) (h : DataW.Trod enc Try.prog w base spare held 23 v d ps) :
    ∃ (A : Option Addr) (cap : Nat) (l : List Ti), v = .slice A l.length cap ∧ l.length ≤ cap ∧ cap ≤ maxLen ∧ RdTi w w.heap.size A l ∧ True := by
  obtain ⟨A, cap, l, h1, h2, h3, h4, _⟩ := open_recsG (c := cTi) (m := 4) (fun g => ⟨g 0, g 1, g 2, g 3⟩) cTi_mk cTi_len (by omega) Try.underlying23 Try.underlying37 rfl (by kernel_rfl) (by kernel_rfl) (by kernel_rfl) hv h
  exact ⟨A, cap, l, h1, h2, h3, h4, trivial⟩

/-- a struct of four ints that comes in -/
theorem open_four {t : TypeId} {f0 f1 f2 f3 : Field} {r : Reach} {b0 : Nat} {v : Value} {d : DataW H} {ps : List MemPlace} (ht : P.underlying t = some (.struct #[f0, f1, f2, f3]))
    (hone : oneCellFields P #[f0, f1, f2, f3] = true) (hC : P.cellsOf t = 4) (h0 : P.underlying f0.type = some (.int .i64)) (h1 : P.underlying f1.type = some (.int .i64)) (h2 : P.underlying f2.type = some (.int .i64)) (h3 : P.underlying f3.type = some (.int .i64))
    (hv : Value.okWide P w r b0 t v) (h : DataW.Trod enc P w base spare held t v d ps) : ∃ a b c e : Int, v = .agg #[.int .i64 a, .int .i64 b, .int .i64 c, .int .i64 e] := by
  obtain ⟨cs, rfl, hsz⟩ := okWide_struct ht hv
  obtain ⟨fuel, hf⟩ := h
  obtain ⟨xs, n, _, _, hlen, hxl, hg⟩ := DataW.trod_struct ht hf
  rw [hC] at hsz hlen
  have hcl : cs.toList.length = 4 := by simpa using hsz
  obtain ⟨a0, a1, a2, a3, hcs⟩ : ∃ a0 a1 a2 a3, cs.toList = [a0, a1, a2, a3] := by
    match cs.toList, hcl with
    | [a0, a1, a2, a3], _ => exact ⟨a0, a1, a2, a3, rfl⟩
  have hce : cs = #[a0, a1, a2, a3] := Array.toList_inj.1 (by simpa using hcs)
  subst hce
  have hxl2 : xs.length = 4 := by simpa using hxl
  have one := hone_of hone
  have g0 := hg 0 f0 rfl
  have g1 := hg 1 f1 rfl
  have g2 := hg 2 f2 rfl
  have g3 := hg 3 f3 rfl
  rw [(one 0 f0 rfl).1, (one 0 f0 rfl).2, List.getElem?_eq_getElem (by omega)] at g0
  rw [(one 1 f1 rfl).1, (one 1 f1 rfl).2, List.getElem?_eq_getElem (by omega)] at g1
  rw [(one 2 f2 rfl).1, (one 2 f2 rfl).2, List.getElem?_eq_getElem (by omega)] at g2
  rw [(one 3 f3 rfl).1, (one 3 f3 rfl).2, List.getElem?_eq_getElem (by omega)] at g3
  simp only [Value.cells, List.drop_succ_cons, List.drop_zero, List.take_succ_cons, List.take_zero] at g0 g1 g2 g3
  obtain ⟨a, k0, _, w0⟩ := DataW.trod_int h0 g0
  obtain ⟨b, k1, _, w1⟩ := DataW.trod_int h1 g1
  obtain ⟨c, k2, _, w2⟩ := DataW.trod_int h2 g2
  obtain ⟨e, k3, _, w3⟩ := DataW.trod_int h3 g3
  simp only [List.cons.injEq, and_true] at k0 k1 k2 k3
  subst k0 k1 k2 k3
  exact ⟨a, b, c, e, rfl⟩

theorem open_tileA {r : Reach} {b0 : Nat} {v : Value} {d : DataW H} {ps : List MemPlace} (hv : Value.okWide Try.prog w r b0 37 v) (h : DataW.Trod enc Try.prog w base spare held 37 v d ps) : ∃ a b c e : Int, v = .agg #[.int .i64 a, .int .i64 b, .int .i64 c, .int .i64 e] :=
  open_four Try.underlying37 (by kernel_rfl) (by kernel_rfl) Try.underlying3 Try.underlying3 Try.underlying3 Try.underlying3 hv h

end

set_option maxHeartbeats 4000000 in
theorem tileCode_any (vars : Int) (A : Option Addr) (len cap : Nat) (l : List Tm) (w : World) (hx : RdT w w.heap.size A l) (hl : l.length = len) (E : Option Addr) (tn te : Nat) (ts : List Ti) (ht : RdTi w w.heap.size E ts) (htl : ts.length = tn) :
    Calls Try.prog 8 #[.int .i64 vars, .slice A len cap, .slice E tn te] w fun e w' => e = .returned (.int .i64 (ckTl vars l ts)) ∧ Below w.heap.size w w' := by
  have HL := Lib.hid hl
  have HT := Lib.hid htl
  by_cases h1 : ckTree vars l = 0
  · have H1 := Lib.hid h1
    by_cases h2 : ckTi ts = 0
    · have H2 := Lib.hid h2
      have hck := (ckTree_ok h1).1
      have hbd := ckTerms_bd hck
      obtain ⟨htn, hts⟩ := ckTi_ok h2
      have HR := Lib.hid (refCost_any A len cap l hl hck E tn te ts htl hts (by omega) (len - 1) (by omega))
      have HE : Hid (ckTl vars l ts = if cho l ts (len - 1) = none then 5 else 0) := Lib.hid (by
        have h3 : ckTT vars l ts = 0 := by unfold ckTT; rw [if_pos h1]; exact h2
        unfold ckTl
        rw [h3, if_pos rfl, hl])
      have hlp : 0 < len := by omega
      have hl16 : len ≤ 16 := by omega
      have hi1 : IntKind.i64.wrap ((len : Int) - 1) = ((len - 1 : Nat) : Int) := by rw [IntKind.wrap_i64]; omega
      have hi2 : ((len : Int) - 1) = ((len - 1 : Nat) : Int) := by omega
      clear h1 h2 hck hbd htn hts hl htl
      go_enter Try.func8, Try.ntmps8
      go_wp2_with fail
      refine (treeCode_any vars A len cap l _ hx HL.out).mono ?_
      rintro e w1 ⟨rfl, hb1⟩
      rw [H1.out]
      have hx1 := (hx.below hb1 (Nat.le_refl _)).more hb1.size
      have ht1 := (ht.below hb1 (Nat.le_refl _)).more hb1.size
      go_wp2_with fail
      refine (refTiles_any E tn te ts _ ht1 HT.out).mono ?_
      rintro e w2 ⟨rfl, hb2⟩
      rw [H2.out]
      have hx2 := (hx1.below hb2 (Nat.le_refl _)).more hb2.size
      have ht2 := (ht1.below hb2 (Nat.le_refl _)).more hb2.size
      have hbw := hb1.trans (hb2.mono hb1.size)
      clear hx ht hx1 ht1 hb1 hb2
      cases hcc : cho l ts (len - 1) with
      | none =>
        have HV : Hid (rcV (cho l ts (len - 1)) = -1) := Lib.hid (by rw [hcc]; rfl)
        have HF : Hid (ckTl vars l ts = 5) := Lib.hid (by rw [HE.out, if_pos hcc])
        clear hcc
        go_wp2_with fail
        refine (HR.out _ hx2 ht2).mono ?_
        rintro e w3 ⟨rfl, hb3⟩
        rw [HV.out]
        go_wp2
        go_ret
        exact ⟨ret_int HF.out.symm, hbw.trans (hb3.mono hbw.size)⟩
      | some p =>
        obtain ⟨n, c⟩ := p
        have HV : Hid (rcV (cho l ts (len - 1)) = (c : Nat)) := Lib.hid (by rw [hcc]; rfl)
        have HF : Hid (ckTl vars l ts = 0) := Lib.hid (by rw [HE.out, if_neg (by rw [hcc]; intro h; cases h)])
        clear hcc
        go_wp2_with fail
        refine (HR.out _ hx2 ht2).mono ?_
        rintro e w3 ⟨rfl, hb3⟩
        rw [HV.out]
        go_wp2
        go_ret
        exact ⟨ret_int HF.out.symm, hbw.trans (hb3.mono hbw.size)⟩
    · have HE : Hid (ckTl vars l ts = ckTi ts) := Lib.hid (by
        have h3 : ckTT vars l ts = ckTi ts := by unfold ckTT; rw [if_pos h1]
        unfold ckTl
        rw [h3, if_neg h2])
      have hne : (ckTi ts == 0) = false := by simp [h2]
      clear h1 h2 hl htl
      go_enter Try.func8, Try.ntmps8
      go_wp2_with fail
      refine (treeCode_any vars A len cap l _ hx HL.out).mono ?_
      rintro e w1 ⟨rfl, hb1⟩
      rw [H1.out]
      go_wp2_with fail
      refine (refTiles_any E tn te ts _ ((ht.below hb1 (Nat.le_refl _)).more hb1.size) HT.out).mono ?_
      rintro e w2 ⟨rfl, hb2⟩
      go_wp2
      go_ret
      exact ⟨ret_int HE.out.symm, hb1.trans (hb2.mono hb1.size)⟩
  · have HE : Hid (ckTl vars l ts = ckTree vars l) := Lib.hid (by
      have h3 : ckTT vars l ts = ckTree vars l := by unfold ckTT; rw [if_neg h1]
      unfold ckTl
      rw [h3, if_neg h1])
    have hne : (ckTree vars l == 0) = false := by simp [h1]
    clear h1 hl htl
    go_enter Try.func8, Try.ntmps8
    go_wp2_with fail
    refine (treeCode_any vars A len cap l _ hx HL.out).mono ?_
    rintro e w1 ⟨rfl, hb1⟩
    go_wp2
    go_ret
    exact ⟨ret_int HE.out.symm, hb1⟩

/-- what the reference tells of the last term, where all is in order -/
theorem refCost_last {vars : Int} (A : Option Addr) (len cap : Nat) (l : List Tm) (hl : l.length = len) (E : Option Addr) (tn te : Nat) (ts : List Ti) (htl : ts.length = tn) (hck : ckTl vars l ts = 0) (W : World) (hx : RdT W W.heap.size A l) (ht : RdTi W W.heap.size E ts) :
    Calls Try.prog 9 #[.slice A len cap, .slice E tn te, .int .i64 ((len - 1 : Nat) : Int)] W fun e w' => e = .returned (.int .i64 (coA l ts (len - 1) : Nat)) ∧ Below W.heap.size W w' := by
  obtain ⟨h1, n, c, h2⟩ := ckTl_ok hck
  obtain ⟨h3, h4⟩ := ckTT_ok h1
  have h5 := (ckTree_ok h3).1
  have hbd := ckTerms_bd h5
  obtain ⟨htn, hts⟩ := ckTi_ok h4
  have h := refCost_any A len cap l hl h5 E tn te ts htl hts (by omega) (len - 1) (by omega) W hx ht
  rw [hl] at h2
  rw [coA_of h2]
  rw [h2] at h
  exact h

end Go.Proofs.Yteogdcjigigeeaa
