/-
  term.Value reckons the value of a list of terms, or gives the first error.
-/
import Derived.Test.YtfhnhbkdhdocjaaTermVal
import Derived.Test.YtfhnhbkdhdocjaaMTerm
namespace Go.Proofs.Ytfhnhbkdhdocjaa
open Go.RowKit
set_option linter.unusedSimpArgs false
set_option linter.unusedVariables false
set_option maxRecDepth 100000

set_option maxHeartbeats 4000000 in
theorem value_bad (vars : Int) (A HA : Option Addr) (len cap hcap : Nat) (l : List Tm) (xs0 : List Int) (w : World) (hx : RdT w w.heap.size A l) (hh : RdI w w.heap.size HA xs0) (hl : l.length = len) (hhm : xs0.length ≤ maxLen) (hc : ckTerms vars l ≠ 0 ∨ ckHave vars xs0 ≠ 0) :
    Calls Try.prog 68 #[.int .i64 vars, .slice A len cap, .slice HA xs0.length hcap] w fun e w' => e = .returned (.tuple #[.int .i64 0, .int .i64 (ckVal vars l xs0)]) ∧ Below w.heap.size w w' := by
  have HL := Lib.hid hl
  clear hl
  by_cases h1 : ckTerms vars l = 0
  · have h2 : ckHave vars xs0 ≠ 0 := by omega
    have e1 : (ckTerms vars l != 0) = false := by simp [h1]
    have e2 : (ckHave vars xs0 != 0) = true := by simp [h2]
    have HF := Lib.hid (show ckVal vars l xs0 = ckHave vars xs0 by unfold ckVal; rw [if_pos h1])
    clear h1 h2 hc
    go_enter Try.func68, Try.ntmps68
    go_wp2_with fail
    refine (check_any vars A len cap l _ hx HL.out).mono ?_
    rintro e w1 ⟨rfl, hb1⟩
    go_wp2_with fail
    refine (checkHave_any vars HA _ hcap xs0 _ ((hh.below hb1 (Nat.le_refl _)).more hb1.size) rfl hhm).mono ?_
    rintro e w2 ⟨rfl, hb2⟩
    go_wp2_with fail
    go_ret2
    exact ⟨ret_ii rfl HF.out.symm, hb1.trans (hb2.mono hb1.size)⟩
  · have e1 : (ckTerms vars l != 0) = true := by simp [h1]
    have HF := Lib.hid (show ckVal vars l xs0 = ckTerms vars l by unfold ckVal; rw [if_neg h1])
    clear h1 hc
    go_enter Try.func68, Try.ntmps68
    go_wp2_with fail
    refine (check_any vars A len cap l _ hx HL.out).mono ?_
    rintro e w1 ⟨rfl, hb1⟩
    go_wp2_with fail
    go_ret2
    exact ⟨ret_ii rfl HF.out.symm, hb1⟩

set_option maxHeartbeats 4000000 in
theorem value_ok (vars : Int) (A HA : Option Addr) (len cap hcap : Nat) (l : List Tm) (xs0 : List Int) (w0 : World) (hx0 : RdT w0 w0.heap.size A l) (hh0 : RdI w0 w0.heap.size HA xs0) (hl : l.length = len) (hc : ckTerms vars l = 0) (hv : ckHave vars xs0 = 0) :
    Calls Try.prog 68 #[.int .i64 vars, .slice A len cap, .slice HA xs0.length hcap] w0 fun e w' => e = .returned (.tuple #[.int .i64 (valT l xs0), .int .i64 0]) ∧ Below w0.heap.size w0 w' := by
  obtain ⟨hv1, hv2⟩ := ckHave_ok hv
  obtain ⟨b1, b2, b3, b4⟩ := ckTerms_bd hc
  have HV := Lib.hid hv1
  have HVV := Lib.hid hv
  have HL := Lib.hid hl
  have HC := Lib.hid hc
  rw [hl] at b3 b4
  have hvl : vars ≤ xs0.length := by omega
  have hvl2 : xs0.length ≤ maxLen := by unfold maxLen; omega
  clear hl hc hv hv1
  have hmk := make_ints (P := Try.prog) 39 3 Try.underlying39 int_info len (by omega)
  go_enter Try.func68, Try.ntmps68
  go_wp2_with fail
  refine (check_any vars A len cap l _ hx0 HL.out).mono ?_
  rintro e w1 ⟨rfl, hb1⟩
  rw [HC.out]
  go_wp2_with fail
  refine (checkHave_any vars HA _ hcap xs0 _ ((hh0.below hb1 (Nat.le_refl _)).more hb1.size) rfl hvl2).mono ?_
  rintro e w ⟨rfl, hb2⟩
  rw [HVV.out]
  have hbw := hb1.trans (hb2.mono hb1.size)
  have hx := (hx0.below hbw (Nat.le_refl _)).more hbw.size
  have hh := (hh0.below hbw (Nat.le_refl _)).more hbw.size
  have hws := hbw.size
  clear hb1 hb2 hx0 hh0
  go_wp2
  go_loopw [30] (fun i wr => ∃ (k : Nat) (xs : List Int), k ≤ len ∧ i = .int .i64 k ∧ Vals xs0 l k xs ∧ Below w.heap.size w wr ∧ Own wr w.heap.size 3 (iv xs)) (fun i _ => len - (intOf i).toNat)
  case atStart => exact ⟨0, _, Nat.zero_le _, rfl, by rw [← HL.out]; exact Vals.start _ _, by go_grown, Own.new _ _ _⟩
  case round =>
    obtain ⟨k, xs, hk, rfl, hr, hb, hown⟩ := hrel
    have HR := Lib.hid hr
    clear hr
    have hsz := hown.lt
    by_cases hlt : k < len
    · obtain ⟨ad, o, a, b, v, rfl, hbl, hd, hc0, hc1, hc2, hc3⟩ := (hx.below hb (Nat.le_refl _)).at_ (k := k) (by rw [HL.out]; exact hlt)
      have hcase := ckTerms_cases HC.out hd
      have HD := Lib.hid hd
      clear hd
      have hfz := hown.frozen k
      have hxl : k < xs.length := by have := HR.out.1; rw [this, HL.out]; exact hlt
      have hcv : wr.cell? ⟨w.heap.size, k, none⟩ = some (.int .i64 (xs[k])) := hown.cell (iv_at (List.getElem?_eq_getElem hxl))
      rcases hcase with ⟨rfl, hv0, hv1⟩ | ⟨rfl, hv0, hv1⟩ | ⟨ho0, ho1, ha0, ha1, hb0, hb1⟩
      · go_wp2
        go_round
        case rel => exact ⟨k + 1, xs.set k v, by omega, by go_num, Vals.step HR.out HD.out evT_num (by omega), by go_grown, (OwnI.set hown k v).alloc _⟩
        case measure => (simp [intOf]; omega)
      · obtain ⟨vn, rfl⟩ := Int.eq_ofNat_of_zero_le hv0
        obtain ⟨hd2, x, rfl, hbl2, hx2, hcx⟩ := ((hh.below hb (Nat.le_refl _)).more (Nat.le_of_lt hsz)).at_ (k := vn) (by omega)
        have hxb := okVals_at hv2 hx2
        have HX := Lib.hid hx2
        clear hx2
        go_wp2
        go_round
        case rel => exact ⟨k + 1, xs.set k x, by omega, by go_num, Vals.step HR.out HD.out (evT_var HX.out) hxb, by go_grown, (OwnI.set hown k x).alloc _⟩
        case measure => (simp [intOf]; omega)
      · obtain ⟨an, rfl⟩ := Int.eq_ofNat_of_zero_le ha0
        obtain ⟨bn, rfl⟩ := Int.eq_ofNat_of_zero_le hb0
        have hcav := hown.cell (iv_at (List.getElem?_eq_getElem (show an < xs.length by omega)))
        have hcbv := hown.cell (iv_at (List.getElem?_eq_getElem (show bn < xs.length by omega)))
        have hav := HR.out.2.2 an _ (List.getElem?_eq_getElem (show an < xs.length by omega))
        have hbv := HR.out.2.2 bn _ (List.getElem?_eq_getElem (show bn < xs.length by omega))
        have HA1 := Lib.hid (List.getElem?_eq_getElem (show an < xs.length by omega))
        have HB1 := Lib.hid (List.getElem?_eq_getElem (show bn < xs.length by omega))
        generalize xs[an] = va at *
        generalize xs[bn] = vb at *
        go_wp2
        have han : an < len := by omega
        have hbn : bn < len := by omega
        (refine still_tail 16 (by kernel_rfl) (by kernel_rfl) ?_; simp only [List.take_succ_cons, List.take_zero, List.drop_succ_cons, List.drop_zero]; repeat still_step)
        still_call ((apply_any _ _ _ _ (by omega) (by omega) (by omega) (by omega)).mono fun _ _ h => ⟨h.1, h.2.symm⟩)
        ((repeat still_step); refine wpStill_nil ?_)
        go_wp2
        go_round
        case rel => exact ⟨k + 1, xs.set k (opv o va vb), by omega, by go_num, Vals.step HR.out HD.out (evT_op ho0 (by omega) (by omega) HA1.out HB1.out) (opv_bd _ _ _), by go_grown, ((OwnI.set hown k _).alloc _).drew⟩
        case measure => (simp [intOf]; omega)
    · have hkl : k = len := by omega
      subst hkl
      have hxl : k - 1 < xs.length := by have := HR.out.1; rw [this, HL.out]; omega
      have hcv : wr.cell? ⟨w.heap.size, k - 1, none⟩ = some (.int .i64 (xs[k - 1])) := hown.cell (iv_at (List.getElem?_eq_getElem hxl))
      have HX := Lib.hid (List.getElem?_eq_getElem hxl)
      generalize xs[k - 1] = xl at *
      go_wp2
      go_ret2
      exact ⟨ret_ii (by have h1 := HR.out; have h2 := HX.out; rw [← HL.out] at h1 h2; exact h1.done _ h2) rfl, hbw.trans (hb.mono hws)⟩


/-- term.Value, for all arguments -/
theorem value_any (vars : Int) (A HA : Option Addr) (len cap n hcap : Nat) (l : List Tm) (xs0 : List Int) (w : World) (hx : RdT w w.heap.size A l) (hh : RdI w w.heap.size HA xs0) (hl : l.length = len) (hn : xs0.length = n) (hhm : n ≤ maxLen) :
    Calls Try.prog 68 #[.int .i64 vars, .slice A len cap, .slice HA n hcap] w fun e w' => e = .returned (.tuple #[.int .i64 (valR vars l xs0), .int .i64 (ckVal vars l xs0)]) ∧ Below w.heap.size w w' := by
  subst hn
  by_cases h : ckVal vars l xs0 = 0
  · have := ckVal_parts h
    have e1 : valR vars l xs0 = valT l xs0 := by unfold valR; rw [if_pos h]
    rw [e1, h]
    exact value_ok vars A HA len cap hcap l xs0 w hx hh hl this.1 this.2
  · have e1 : valR vars l xs0 = 0 := by unfold valR; rw [if_neg h]
    rw [e1]
    refine value_bad vars A HA len cap hcap l xs0 w hx hh hl hhm ?_
    unfold ckVal at h
    split at h
    · exact .inr h
    · exact .inl h

end Go.Proofs.Ytfhnhbkdhdocjaa
