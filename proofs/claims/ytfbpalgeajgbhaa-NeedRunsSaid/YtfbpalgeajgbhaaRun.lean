/-
  need.Run, codemasonref.Steps, codemasonref.Ints: register code run (B1).
-/
import Derived.Test.YtfbpalgeajgbhaaSteps
import Derived.Test.YtfbpalgeajgbhaaIntsSame
import Derived.Test.YtfbpalgeajgbhaaTermVal
import Derived.Test.YtfbpalgeajgbhaaStepCk
import Derived.Deep.RegionWith
namespace Go.Proofs.Ytfbpalgeajgbhaa
open Go.RowKit
set_option linter.unusedSimpArgs false
set_option linter.unusedVariables false
set_option maxRecDepth 100000

/-- registers on the way: all that is left gives what the whole gives -/
def RunAt (hv : List Int) (l : List St) (rn k : Nat) (r : List Int) : Prop :=
  r.length = rn ∧ (∀ (j : Nat) (x : Int), r[j]? = some x → 0 ≤ x ∧ x ≤ 255) ∧ runS l rn hv = runF hv (l.drop k) r

theorem RunAt.start (hv : List Int) (l : List St) (rn : Nat) : RunAt hv l rn 0 (List.replicate rn 0) := by
  refine ⟨by simp, fun j x h => ?_, by unfold runS; simp⟩
  rw [List.getElem?_replicate] at h
  split at h
  · injection h with h; omega
  · cases h

theorem RunAt.step {hv : List Int} {l : List St} {rn k : Nat} {r : List Int} {o t a b v x : Int} (h : RunAt hv l rn k r) (hd : l.drop k = ⟨o, t, a, b, v⟩ :: l.drop (k + 1)) (hx : x = stV hv ⟨o, t, a, b, v⟩ r) (hb : 0 ≤ x ∧ x ≤ 255) : RunAt hv l rn (k + 1) (r.set t.toNat x) := by
  obtain ⟨h1, h2, h3⟩ := h
  refine ⟨by simp [h1], fun j y hy => ?_, by rw [h3, hd, runF, hx]⟩
  rw [List.getElem?_set] at hy
  split at hy
  · split at hy
    · injection hy with hy; omega
    · cases hy
  · exact h2 j y hy

theorem RunAt.done {hv : List Int} {l : List St} {rn : Nat} {r : List Int} (h : RunAt hv l rn l.length r) : r = runS l rn hv := by
  rw [h.2.2, List.drop_of_length_le (Nat.le_refl _)]; rfl

theorem stV_num {hv r : List Int} {t a b v : Int} : v = stV hv ⟨1, t, a, b, v⟩ r := by simp [stV]

theorem stV_var {hv r : List Int} {t a b x : Int} {v : Nat} (h : hv[v]? = some x) : x = stV hv ⟨2, t, a, b, v⟩ r := by simp [stV, h]

theorem stV_op {hv r : List Int} {o t v x y : Int} {a b : Nat} (ho : 3 ≤ o) (hx : r[a]? = some x) (hy : r[b]? = some y) : opv o x y = stV hv ⟨o, t, a, b, v⟩ r := by
  have h1 : ¬ o = 1 := by omega
  have h2 : ¬ o = 2 := by omega
  simp [stV, h1, h2, hx, hy]

set_option maxHeartbeats 4000000 in
theorem refSteps_any (vars : Int) (rn : Nat) (A HA : Option Addr) (len cap hcap : Nat) (l : List St) (xs0 : List Int) (w : World) (hx : RdS w w.heap.size A l) (hh : RdI w w.heap.size HA xs0) (hl : l.length = len) (hc : ckSteps vars l rn = 0) (hv : ckHave vars xs0 = 0) :
    Calls Try.prog 13 #[.slice A len cap, .int .i64 rn, .slice HA xs0.length hcap] w fun e w' =>
      e = .returned (.slice (some ⟨w.heap.size, 0, none⟩) rn rn) ∧ Own w' w.heap.size 3 (iv (runS l rn xs0)) ∧ Below w.heap.size w w' := by
  obtain ⟨hv1, hv2⟩ := ckHave_ok hv
  obtain ⟨b1, b2, b3, b4, b5, hcf⟩ := ckSteps_bd hc
  have HL := Lib.hid hl
  have HC := Lib.hid hcf
  rw [hl] at b3
  have hvl : vars ≤ xs0.length := by omega
  have hr8 : rn ≤ 8 := by omega
  have hr1 : 1 ≤ rn := by omega
  clear hl hc hcf hv hv1 b4 b5
  have hmk := make_ints (P := Try.prog) 23 3 Try.underlying23 int_info rn (by omega)
  go_enter Try.func13, Try.ntmps13
  go_wp2
  go_loopw [15] (fun i wr => ∃ (k : Nat) (r : List Int), k ≤ len ∧ i = .int .i64 k ∧ RunAt xs0 l rn k r ∧ Below w.heap.size w wr ∧ Own wr w.heap.size 3 (iv r)) (fun i _ => len - (intOf i).toNat)
  case atStart => exact ⟨0, _, Nat.zero_le _, rfl, RunAt.start _ _ _, by go_grown, Own.new _ _ _⟩
  case round =>
    obtain ⟨k, r, hk, rfl, hr, hb, hown⟩ := hrel
    have HR := Lib.hid hr
    have hrl := hr.1
    have HRL := Lib.hid hrl
    clear hr hrl
    have hsz := hown.lt
    by_cases hlt : k < len
    · obtain ⟨ad, o, t, a, b, v, rfl, hbl, hd, hc0, hc1, hc2, hc3, hc4⟩ := (hx.below hb (Nat.le_refl _)).at_ (k := k) (by rw [HL.out]; exact hlt)
      have hcase := ckStep_cases (ckStepsF_at HC.out hd)
      have HD := Lib.hid (drop_at hd)
      clear hd
      obtain ⟨⟨ht0, ht1⟩, hcase⟩ := hcase
      simp only [] at ht0 ht1 hcase
      obtain ⟨tn, rfl⟩ := Int.eq_ofNat_of_zero_le ht0
      have htn : tn < rn := by omega
      have hfz := hown.frozen tn
      have htl : tn < r.length := by rw [HRL.out]; exact htn
      have hct := hown.cell (iv_at (List.getElem?_eq_getElem htl))
      generalize r[tn] = xt at *
      rcases hcase with ⟨rfl, hv0, hv1⟩ | ⟨rfl, hv0, hv1⟩ | ⟨ho0, ho1, ha0, ha1, hb0, hb1⟩
      · go_wp2
        go_round
        case rel => exact ⟨k + 1, r.set tn v, by omega, by go_num, RunAt.step HR.out HD.out stV_num (by omega), by go_grown, (OwnI.set hown tn v).alloc _⟩
        case measure => (simp [intOf]; omega)
      · obtain ⟨vn, rfl⟩ := Int.eq_ofNat_of_zero_le hv0
        obtain ⟨hd2, x, rfl, hbl2, hx2, hcx⟩ := ((hh.below hb (Nat.le_refl _)).more (Nat.le_of_lt hsz)).at_ (k := vn) (by omega)
        have hxb := okVals_at hv2 hx2
        have HX := Lib.hid hx2
        clear hx2
        go_wp2
        go_round
        case rel => exact ⟨k + 1, r.set tn x, by omega, by go_num, RunAt.step HR.out HD.out (stV_var HX.out) hxb, by go_grown, (OwnI.set hown tn x).alloc _⟩
        case measure => (simp [intOf]; omega)
      · obtain ⟨an, rfl⟩ := Int.eq_ofNat_of_zero_le ha0
        obtain ⟨bn, rfl⟩ := Int.eq_ofNat_of_zero_le hb0
        have han : an < rn := by omega
        have hbn : bn < rn := by omega
        have hal : an < r.length := by rw [HRL.out]; exact han
        have hbl' : bn < r.length := by rw [HRL.out]; exact hbn
        have hcav := hown.cell (iv_at (List.getElem?_eq_getElem hal))
        have hcbv := hown.cell (iv_at (List.getElem?_eq_getElem hbl'))
        have hav := HR.out.2.1 an _ (List.getElem?_eq_getElem hal)
        have hbv := HR.out.2.1 bn _ (List.getElem?_eq_getElem hbl')
        have HA1 := Lib.hid (List.getElem?_eq_getElem hal)
        have HB1 := Lib.hid (List.getElem?_eq_getElem hbl')
        generalize r[an] = va at *
        generalize r[bn] = vb at *
        go_wp2
        (refine still_tail 13 (by kernel_rfl) (by kernel_rfl) ?_; simp only [List.take_succ_cons, List.take_zero, List.drop_succ_cons, List.drop_zero]; repeat still_step)
        still_call ((refOp_any _ _ _ _ (by omega) (by omega) (by omega) (by omega) (by omega) (by omega)).mono fun _ _ h => ⟨h.1, h.2.symm⟩)
        ((repeat still_step); refine wpStill_nil ?_)
        go_wp2
        go_round
        case rel => exact ⟨k + 1, r.set tn (opv o va vb), by omega, by go_num, RunAt.step HR.out HD.out (stV_op ho0 HA1.out HB1.out) (opv_bd _ _ _), by go_grown, ((OwnI.set hown tn _).alloc _).drew⟩
        case measure => (simp [intOf]; omega)
    · have hkl : k = len := by omega
      subst hkl
      go_wp2
      go_ret
      have hq := HR.out
      rw [← HL.out] at hq
      rw [← hq.done]
      exact ⟨rfl, hown, hb⟩

set_option maxHeartbeats 4000000 in
theorem run_ok (vars : Int) (rn : Nat) (A HA : Option Addr) (len cap hcap : Nat) (l : List St) (xs0 : List Int) (w0 : World) (hx0 : RdS w0 w0.heap.size A l) (hh0 : RdI w0 w0.heap.size HA xs0) (hl : l.length = len) (hc : ckSteps vars l rn = 0) (hv : ckHave vars xs0 = 0) :
    Calls Try.prog 10 #[.int .i64 vars, .slice A len cap, .int .i64 rn, .slice HA xs0.length hcap] w0 fun e w' =>
      ∃ g, e = .returned (.tuple #[.slice (some ⟨g, 0, none⟩) rn rn, .int .i64 0]) ∧ Own w' g 3 (iv (runS l rn xs0)) ∧ Below w0.heap.size w0 w' := by
  obtain ⟨hv1, hv2⟩ := ckHave_ok hv
  obtain ⟨b1, b2, b3, b4, b5, hcf⟩ := ckSteps_bd hc
  have HVV := Lib.hid hv
  have HVL := Lib.hid hv1
  have HL := Lib.hid hl
  have HC := Lib.hid hcf
  rw [hl] at b3
  have hvl : vars ≤ xs0.length := by omega
  have hvl2 : xs0.length ≤ maxLen := by unfold maxLen; omega
  have hr8 : rn ≤ 8 := by omega
  have hr1 : 1 ≤ rn := by omega
  have hvc : decide (1 ≤ (rn : Int) ∧ (rn : Int) ≤ 8) = true := by simp; omega
  clear hl hc hcf hv hv1 b4 b5
  have hmk := make_ints (P := Try.prog) 23 3 Try.underlying23 int_info rn (by omega)
  go_enter Try.func10, Try.ntmps10
  go_wp2_with fail
  refine (validCount_any _ _).mono ?_
  rintro e w1 ⟨rfl, rfl⟩
  rw [hvc]
  go_wp2_with fail
  refine (checkCode_any vars rn A len cap l _ hx0 HL.out b1 b2 b3).mono ?_
  rintro e w1 ⟨rfl, hb1⟩
  rw [HC.out]
  go_wp2_with fail
  refine (checkHave_any vars HA _ hcap xs0 _ ((hh0.below hb1 (Nat.le_refl _)).more hb1.size) rfl hvl2).mono ?_
  rintro e w ⟨rfl, hb2⟩
  rw [HVV.out]
  have hbw := hb1.trans (hb2.mono hb1.size)
  have hx := (hx0.below hbw (Nat.le_refl _)).more hbw.size
  have hh := (hh0.below hbw (Nat.le_refl _)).more hbw.size
  have hws := hbw.size
  clear hb1 hb2 hx0 hh0 hvc
  go_wp2
  go_loopw [48] (fun i wr => ∃ (k : Nat) (r : List Int), k ≤ len ∧ i = .int .i64 k ∧ RunAt xs0 l rn k r ∧ Below w.heap.size w wr ∧ Own wr w.heap.size 3 (iv r)) (fun i _ => len - (intOf i).toNat)
  case atStart => exact ⟨0, _, Nat.zero_le _, rfl, RunAt.start _ _ _, by go_grown, Own.new _ _ _⟩
  case round =>
    obtain ⟨k, r, hk, rfl, hr, hb, hown⟩ := hrel
    have HR := Lib.hid hr
    have hrl := hr.1
    have HRL := Lib.hid hrl
    clear hr hrl
    have hsz := hown.lt
    by_cases hlt : k < len
    · obtain ⟨ad, o, t, a, b, v, rfl, hbl, hd, hc0, hc1, hc2, hc3, hc4⟩ := (hx.below hb (Nat.le_refl _)).at_ (k := k) (by rw [HL.out]; exact hlt)
      have hcks := ckStepsF_at HC.out hd
      simp only [] at hcks
      have hckv : ckStep (xs0.length : Nat) rn o t a b v = 0 := by rw [HVL.out]; exact hcks
      have hxb : 0 ≤ stV xs0 ⟨o, t, a, b, v⟩ r ∧ stV xs0 ⟨o, t, a, b, v⟩ r ≤ 255 := stV_bd (s := ⟨o, t, a, b, v⟩) hcks HVL.out hv2
      have hsv : ∀ Z : World, Below wr.heap.size wr Z → Calls Try.prog 32 #[.agg #[.int .i64 o, .int .i64 t, .int .i64 a, .int .i64 b, .int .i64 v], .slice (some ⟨w.heap.size, 0, none⟩) rn rn, .slice HA xs0.length hcap] Z fun e w' => e = .returned (.tuple #[.int .i64 (stV xs0 ⟨o, t, a, b, v⟩ r), .int .i64 0]) ∧ Below Z.heap.size Z w' := fun Z hZ =>
        stepValue_any _ HA rn rn _ hcap o t a b v r xs0 Z ((((OwnI.rd hown).more hsz).below hZ (Nat.le_refl _)).more hZ.size) ((((hh.below hb (Nat.le_refl _)).more (Nat.le_of_lt hsz)).below hZ (Nat.le_refl _)).more hZ.size) HR.out.1 rfl hckv HR.out.2.1
      have HD := Lib.hid (drop_at hd)
      obtain ⟨⟨ht0, ht1⟩, hcase⟩ := ckStep_cases hcks
      obtain ⟨x, hxe⟩ : ∃ x, stV xs0 ⟨o, t, a, b, v⟩ r = x := ⟨_, rfl⟩
      rw [hxe] at hsv hxb
      have HSV := Lib.hid hsv
      have HXB := Lib.hid hxb
      have HXE := Lib.hid hxe.symm
      clear hd hckv hsv hcks hcase hxb hxe
      obtain ⟨tn, rfl⟩ := Int.eq_ofNat_of_zero_le ht0
      have htn : tn < rn := by omega
      have HOW := Lib.hid hown
      have htl : tn < r.length := by rw [HRL.out]; exact htn
      have HCT := Lib.hid (iv_at (List.getElem?_eq_getElem htl))
      generalize r[tn] = xt at *
      clear hown htl
      go_wp2
      go_region_with (go_at_call 32; (with_reducible refine (HSV.out _ (by go_grown)).mono ?_); rintro e w5 ⟨rfl, hb5⟩; have hbr5 : Below wr.heap.size wr w5 := Below.trans (by go_grown) (hb5.mono (by go_size)); have q1 : w5.cell? ⟨wr.heap.size, 1, none⟩ = some (.int .i64 tn) := (hb5.cell (p := ⟨wr.heap.size, 1, none⟩) (by go_size)).trans (by simp); have hown5 := HOW.out.below hbr5 hsz; have hct5 := hown5.cell HCT.out; have hfz5 := hown5.frozen tn)
      all_goals
        have hb6 : Below w.heap.size w w5 := hb.trans (hbr5.mono (Nat.le_of_lt hsz))
        go_wp2
        go_round
        case rel => exact ⟨k + 1, r.set tn x, by omega, by go_num, RunAt.step HR.out HD.out HXE.out HXB.out, by go_grown, OwnI.set hown5 tn x⟩
        case measure => (simp [intOf]; omega)
    · have hkl : k = len := by omega
      subst hkl
      go_wp2
      go_ret2
      have hq := HR.out
      rw [← HL.out] at hq
      rw [← hq.done]
      exact ⟨_, rfl, hown, hbw.trans (hb.mono hws)⟩

/-- B1: the code of a run -/
def ckRun (vars : Int) (l : List St) (regs : Int) (xs : List Int) : Int := if ckSteps vars l regs = 0 then ckHave vars xs else ckSteps vars l regs

set_option maxHeartbeats 4000000 in
theorem run_bad (vars regs : Int) (A HA : Option Addr) (len cap hcap : Nat) (l : List St) (xs0 : List Int) (w : World) (hx : RdS w w.heap.size A l) (hh : RdI w w.heap.size HA xs0) (hl : l.length = len) (hhm : xs0.length ≤ maxLen) (hc : ckRun vars l regs xs0 ≠ 0) :
    Calls Try.prog 10 #[.int .i64 vars, .slice A len cap, .int .i64 regs, .slice HA xs0.length hcap] w fun e w' => e = .returned (.tuple #[.slice none 0 0, .int .i64 (ckRun vars l regs xs0)]) ∧ Below w.heap.size w w' := by
  by_cases hbad : vars < 0 ∨ 6 < vars ∨ 40 < len ∨ regs < 1 ∨ 8 < regs
  · have hf : ckRun vars l regs xs0 = 1 := by unfold ckRun ckSteps; rw [hl, if_pos hbad]; simp
    rw [hf]
    clear hf hx hl hc hh hhm
    go_enter Try.func10, Try.ntmps10
    go_wp2_with (go_at_call 29; (with_reducible refine (validCount_any _ _).mono ?_); rintro e w1 ⟨rfl, rfl⟩)
    all_goals first
      | (go_ret2; exact ⟨rfl, by go_grown⟩)
      | (exfalso; simp_all; omega)
  · have h1 : 0 ≤ vars := by omega
    have h2 : vars ≤ 6 := by omega
    have h3 : len ≤ 40 := by omega
    have h4 : 1 ≤ regs := by omega
    have h5 : regs ≤ 8 := by omega
    have e0 : ckSteps vars l regs = ckStepsF vars regs l := by unfold ckSteps; rw [hl, if_neg hbad]
    have hvc : decide (1 ≤ regs ∧ regs ≤ 8) = true := by simp; omega
    clear hbad
    unfold ckRun at hc ⊢
    rw [e0] at hc ⊢
    have HL := Lib.hid hl
    clear hl e0
    by_cases hs : ckStepsF vars regs l = 0
    · rw [if_pos hs] at hc ⊢
      have HS := Lib.hid hs
      have e2 : (ckHave vars xs0 != 0) = true := by simp [hc]
      clear hs hc
      go_enter Try.func10, Try.ntmps10
      go_wp2_with fail
      refine (validCount_any _ _).mono ?_
      rintro e w1 ⟨rfl, rfl⟩
      rw [hvc]
      go_wp2_with fail
      refine (checkCode_any vars regs A len cap l _ hx HL.out h1 h2 h3).mono ?_
      rintro e w1 ⟨rfl, hb1⟩
      rw [HS.out]
      go_wp2_with fail
      refine (checkHave_any vars HA _ hcap xs0 _ ((hh.below hb1 (Nat.le_refl _)).more hb1.size) rfl hhm).mono ?_
      rintro e w2 ⟨rfl, hb2⟩
      go_wp2_with fail
      go_ret2
      exact ⟨rfl, hb1.trans (hb2.mono hb1.size)⟩
    · rw [if_neg hs] at hc ⊢
      have e1 : (ckStepsF vars regs l != 0) = true := by simp [hs]
      clear hs hc
      go_enter Try.func10, Try.ntmps10
      go_wp2_with fail
      refine (validCount_any _ _).mono ?_
      rintro e w1 ⟨rfl, rfl⟩
      rw [hvc]
      go_wp2_with fail
      refine (checkCode_any vars regs A len cap l _ hx HL.out h1 h2 h3).mono ?_
      rintro e w1 ⟨rfl, hb1⟩
      go_wp2_with fail
      go_ret2
      exact ⟨rfl, hb1⟩

def eqI : List Int → List Int → Bool
  | [], [] => true
  | x :: r, y :: s => if x = y then eqI r s else false
  | _, _ => false

theorem eqI_refl : ∀ xs : List Int, eqI xs xs = true
  | [] => rfl
  | x :: r => by simp [eqI, eqI_refl r]

end Go.Proofs.Ytfbpalgeajgbhaa
