/-
  term.Value and codemasonref.Term reckon the value of a list of terms.
-/
import Derived.Test.YtfhnhbkdhdocjaaMTerm
import Derived.StillTailTactics
namespace Go.Proofs.Ytfhnhbkdhdocjaa
open Go.RowKit
set_option linter.unusedSimpArgs false
set_option linter.unusedVariables false
set_option maxRecDepth 100000

theorem int_info : (Try.prog.info? 3).map (fun i => (i.zero, i.size, i.bytes)) = some (some (.int .i64 0), 1, 8) := by kernel_rfl

set_option maxHeartbeats 4000000 in
theorem refTerm_any (vars : Int) (A HA : Option Addr) (len cap hcap : Nat) (l : List Tm) (xs0 : List Int) (w : World) (hx : RdT w w.heap.size A l) (hh : RdI w w.heap.size HA xs0) (hl : l.length = len) (hc : ckTerms vars l = 0) (hv : ckHave vars xs0 = 0) :
    Calls Try.prog 36 #[.slice A len cap, .slice HA xs0.length hcap] w fun e w' => e = .returned (.int .i64 (valT l xs0)) ∧ Below w.heap.size w w' := by
  obtain ⟨hv1, hv2⟩ := ckHave_ok hv
  obtain ⟨b1, b2, b3, b4⟩ := ckTerms_bd hc
  have HV := Lib.hid hv1
  have HL := Lib.hid hl
  have HC := Lib.hid hc
  rw [hl] at b3 b4
  have hvl : vars ≤ xs0.length := by omega
  clear hl hc hv hv1
  have hmk := make_ints (P := Try.prog) 39 3 Try.underlying39 int_info len (by omega)
  go_enter Try.func36, Try.ntmps36
  go_wp2
  go_loopw [13] (fun i wr => ∃ (k : Nat) (xs : List Int), k ≤ len ∧ i = .int .i64 k ∧ Vals xs0 l k xs ∧ Below w.heap.size w wr ∧ Own wr w.heap.size 3 (iv xs)) (fun i _ => len - (intOf i).toNat)
  case atStart => exact ⟨0, _, Nat.zero_le _, rfl, by rw [← HL.out]; exact Vals.start _ _, by go_grown, Own.new _ _ _⟩
  case round =>
    obtain ⟨k, xs, hk, rfl, hr, hb, hown⟩ := hrel
    have HR := Lib.hid hr
    clear hr
    have hsz := hown.lt
    by_cases hlt : k < len
    · obtain ⟨ad, o, a, b, v, rfl, hbl, hd, hc0, hc1, hc2, hc3⟩ := (hx.below hb (Nat.le_refl _)).at_ (k := k) (by rw [HL.out]; exact hlt)
      have hcase := ckTerms_cases HC.out hd
      have HD := Lib.hid hd
      clear hd
      have hfz := hown.frozen k
      have hxl : k < xs.length := by have := HR.out.1; rw [this, HL.out]; exact hlt
      have hcv : wr.cell? ⟨w.heap.size, k, none⟩ = some (.int .i64 (xs[k])) := hown.cell (iv_at (List.getElem?_eq_getElem hxl))
      rcases hcase with ⟨rfl, hv0, hv1⟩ | ⟨rfl, hv0, hv1⟩ | ⟨ho0, ho1, ha0, ha1, hb0, hb1⟩
      · go_wp2
        go_round
        case rel => exact ⟨k + 1, xs.set k v, by omega, by go_num, Vals.step HR.out HD.out evT_num (by omega), by go_grown, (OwnI.set hown k v).alloc _⟩
        case measure => (simp [intOf]; omega)
      · obtain ⟨vn, rfl⟩ := Int.eq_ofNat_of_zero_le hv0
        obtain ⟨hd2, x, rfl, hbl2, hx2, hcx⟩ := ((hh.below hb (Nat.le_refl _)).more (Nat.le_of_lt hsz)).at_ (k := vn) (by omega)
        have hxb := okVals_at hv2 hx2
        have HX := Lib.hid hx2
        clear hx2
        go_wp2
        go_round
        case rel => exact ⟨k + 1, xs.set k x, by omega, by go_num, Vals.step HR.out HD.out (evT_var HX.out) hxb, by go_grown, (OwnI.set hown k x).alloc _⟩
        case measure => (simp [intOf]; omega)
      · obtain ⟨an, rfl⟩ := Int.eq_ofNat_of_zero_le ha0
        obtain ⟨bn, rfl⟩ := Int.eq_ofNat_of_zero_le hb0
        have hcav := hown.cell (iv_at (List.getElem?_eq_getElem (show an < xs.length by omega)))
        have hcbv := hown.cell (iv_at (List.getElem?_eq_getElem (show bn < xs.length by omega)))
        have hav := HR.out.2.2 an _ (List.getElem?_eq_getElem (show an < xs.length by omega))
        have hbv := HR.out.2.2 bn _ (List.getElem?_eq_getElem (show bn < xs.length by omega))
        have HA1 := Lib.hid (List.getElem?_eq_getElem (show an < xs.length by omega))
        have HB1 := Lib.hid (List.getElem?_eq_getElem (show bn < xs.length by omega))
        generalize xs[an] = va at *
        generalize xs[bn] = vb at *
        go_wp2
        have han : an < len := by omega
        have hbn : bn < len := by omega
        (refine still_tail 16 (by kernel_rfl) (by kernel_rfl) ?_; simp only [List.take_succ_cons, List.take_zero, List.drop_succ_cons, List.drop_zero]; repeat still_step)
        still_call ((refOp_any _ _ _ _ (by omega) (by omega) (by omega) (by omega) (by omega) (by omega)).mono fun _ _ h => ⟨h.1, h.2.symm⟩)
        ((repeat still_step); refine wpStill_nil ?_)
        go_wp2
        go_round
        case rel => exact ⟨k + 1, xs.set k (opv o va vb), by omega, by go_num, Vals.step HR.out HD.out (evT_op ho0 (by omega) (by omega) HA1.out HB1.out) (opv_bd _ _ _), by go_grown, ((OwnI.set hown k _).alloc _).drew⟩
        case measure => (simp [intOf]; omega)
    · have hkl : k = len := by omega
      subst hkl
      have hxl : k - 1 < xs.length := by have := HR.out.1; rw [this, HL.out]; omega
      have hcv : wr.cell? ⟨w.heap.size, k - 1, none⟩ = some (.int .i64 (xs[k - 1])) := hown.cell (iv_at (List.getElem?_eq_getElem hxl))
      have HX := Lib.hid (List.getElem?_eq_getElem hxl)
      generalize xs[k - 1] = xl at *
      go_wp2
      go_ret
      exact ⟨ret_int (by have h1 := HR.out; have h2 := HX.out; rw [← HL.out] at h1 h2; exact h1.done _ h2), hb⟩

end Go.Proofs.Ytfhnhbkdhdocjaa
