/-
  shape.checkCode, checkStatement, checkList, Check (U1).
-/
import Derived.Test.YtniilhgcgcimgaaShLim
import Derived.Test.YtniilhgcgcimgaaShKinds
import Derived.Test.YtniilhgcgcimgaaMTerm
namespace Go.Proofs.Ytniilhgcgcimgaa
open Go.RowKit
set_option linter.unusedSimpArgs false
set_option linter.unusedVariables false
set_option maxRecDepth 100000

set_option maxHeartbeats 4000000 in
theorem checkCode_any (vars : Int) (A : Option Addr) (len cap : Nat) (code : List St) (w : World) (hx : RdS w w.heap.size A code) (hl : code.length = len) (hm : len ≤ 65536) :
    Calls Try.prog 45 #[.int .i64 vars, .slice A len cap] w fun e w' => e = .returned (.int .i64 (ckStepsF vars vars code)) ∧ Below w.heap.size w w' := by
  have HL := Lib.hid hl
  clear hl
  go_enter Try.func45, Try.ntmps45
  go_wp2
  go_loopw [10] (fun z wr => ∃ c : Nat, c ≤ len ∧ z = .int .i64 c ∧ Hid (ckStepsF vars vars code = ckStepsF vars vars (code.drop c)) ∧ Below w.heap.size w wr) (fun z _ => len - (intOf z).toNat)
  case atStart => exact ⟨0, Nat.zero_le _, rfl, Lib.hid rfl, Below.refl _ _⟩
  case round =>
    obtain ⟨c, hc, rfl, HR, hb⟩ := hrel
    have hsz := hb.size
    by_cases hct : c < len
    · obtain ⟨ad2, o, t, a, b, v, rfl, hbl2, hd2, e0, e1, e2, e3, e4⟩ := RdS.at_ (hx.up hb) (k := c) (by rw [HL.out]; exact hct)
      have HD2 := Lib.hid (drop_at hd2)
      clear hd2
      by_cases hop : ckStep vars vars o t a b v = 0
      · have HOP := Lib.hid hop
        have n1 : (ckStep vars vars o t a b v != 0) = false := by simp [hop]
        clear hop
        go_wp2_with (go_at_call 43; (with_reducible refine (checkStep_any _ _ _ _ _ _ _ _).mono ?_); rintro e w1 ⟨rfl, hb4⟩)
        go_round
        case rel => exact ⟨c + 1, by omega, by go_num, Lib.hid (by rw [HR.out, HD2.out]; exact ckStepsF_go HOP.out), below_via (below_via hb (by go_grown)) hb4⟩
        case measure => (simp [intOf]; omega)
      · have HOP := Lib.hid hop
        have n1 : (ckStep vars vars o t a b v != 0) = true := by simp [hop]
        clear hop
        go_wp2_with (go_at_call 43; (with_reducible refine (checkStep_any _ _ _ _ _ _ _ _).mono ?_); rintro e w1 ⟨rfl, hb4⟩)
        go_ret
        exact ⟨ret_int (by rw [HR.out, HD2.out]; exact ckStepsF_stop rfl HOP.out), below_via (below_via hb (by go_grown)) hb4⟩
    · have HE : Hid (ckStepsF vars vars code = 0) := Lib.hid (by
        rw [HR.out, List.drop_of_length_le (by rw [HL.out]; omega)]
        rfl)
      go_wp2
      go_ret
      exact ⟨ret_int HE.out.symm, hb⟩

theorem ckSh_three (vars kd ts : Int) (cd : List St) (th el r : Sh) (c cT cE : Int) (h1 : ckOne vars kd ts cd = c) (h2 : ckSh vars th = cT) (h3 : ckSh vars el = cE) : ckSh vars (.cons kd ts cd th el r) = if c ≠ 0 then c else if cT ≠ 0 then cT else if cE ≠ 0 then cE else ckSh vars r := by
  rw [ckSh]
  simp only [h1, h2, h3]

set_option maxHeartbeats 16000000 in
theorem checkStatement_any (vars kd ts : Int) (cd : List St) (Ac At Ae : Option Addr) (cl cc tl ct el' ce : Nat) (w : World) (hrc : RdS w w.heap.size Ac cd) (hcl : cd.length = cl) (hcm : cl ≤ 65536) :
    Calls Try.prog 33 #[.int .i64 vars, .agg #[.int .i64 kd, .int .i64 ts, .slice Ac cl cc, .slice At tl ct, .slice Ae el' ce]] w fun e w' => e = .returned (.int .i64 (ckOne vars kd ts cd)) ∧ Below w.heap.size w w' := by
  have HCC := Lib.hid (fun (Z : World) (hZ : Below w.heap.size w Z) => checkCode_any vars Ac cl cc cd Z (hrc.up hZ) hcl hcm)
  have HBX : Hid (Below w.heap.size w (w.alloc (.cells #[.int .i64 kd, .int .i64 ts, .slice Ac cl cc, .slice At tl ct, .slice Ae el' ce] 57))) := Lib.hid (by go_grown)
  clear hrc hcl
  by_cases k1 : kd = 1
  · subst k1
    have HST2 : Hid (ckOne vars 1 ts cd = ckStepsF vars vars cd) := Lib.hid (by unfold ckOne; simp)
    go_enter Try.func33, Try.ntmps33
    go_wp2_with (go_at_call 45; (with_reducible refine (HCC.out _ HBX.out).mono ?_); rintro e w1 ⟨rfl, hb1⟩)
    go_ret
    exact ⟨ret_int HST2.out.symm, below_via HBX.out hb1⟩
  · have g1 : (kd == 1) = false := by simp [k1]
    by_cases k23 : kd = 2 ∨ kd = 3
    · by_cases hin : 0 ≤ ts ∧ ts < vars
      · have HST2 : Hid (ckOne vars kd ts cd = 0) := Lib.hid (by unfold ckOne; simp [k1, k23, hin])
        have h1 : decide (ts < 0) = false := by simp; omega
        have h2 : decide (vars ≤ ts) = false := by simp; omega
        clear hin
        rcases k23 with rfl | rfl
        · go_enter Try.func33, Try.ntmps33
          go_wp2
          go_ret
          exact ⟨ret_int HST2.out.symm, HBX.out⟩
        · go_enter Try.func33, Try.ntmps33
          go_wp2
          go_ret
          exact ⟨ret_int HST2.out.symm, HBX.out⟩
      · have HST2 : Hid (ckOne vars kd ts cd = 2) := Lib.hid (by unfold ckOne; simp [k1, k23, hin])
        by_cases h0 : ts < 0
        · have h1 : decide (ts < 0) = true := by simp; omega
          clear hin h0
          rcases k23 with rfl | rfl
          · go_enter Try.func33, Try.ntmps33
            go_wp2
            go_ret
            exact ⟨ret_int HST2.out.symm, HBX.out⟩
          · go_enter Try.func33, Try.ntmps33
            go_wp2
            go_ret
            exact ⟨ret_int HST2.out.symm, HBX.out⟩
        · have h1 : decide (ts < 0) = false := by simp; omega
          have h2 : decide (vars ≤ ts) = true := by simp; omega
          clear hin h0
          rcases k23 with rfl | rfl
          · go_enter Try.func33, Try.ntmps33
            go_wp2
            go_ret
            exact ⟨ret_int HST2.out.symm, HBX.out⟩
          · go_enter Try.func33, Try.ntmps33
            go_wp2
            go_ret
            exact ⟨ret_int HST2.out.symm, HBX.out⟩
    · have HST2 : Hid (ckOne vars kd ts cd = 6) := Lib.hid (by unfold ckOne; simp [k1, k23])
      have g2 : (kd == 2) = false := by simp; omega
      have g3 : (kd == 3) = false := by simp; omega
      clear k1 k23
      go_enter Try.func33, Try.ntmps33
      go_wp2
      go_ret
      exact ⟨ret_int HST2.out.symm, HBX.out⟩

set_option maxHeartbeats 16000000 in
theorem checkList_one (vars : Int) (l : Sh) (lo : Nat) (A : Option Addr) (len cap : Nat) (w : World) (hx : RdH w lo w.heap.size l A 0) (hl : l.len = len) (hf : FitSh l)
    (hih : ∀ l' : Sh, l'.many < l.many → FitSh l' → ∀ (A' : Option Addr) (cap' : Nat) (Z : World), RdH Z lo Z.heap.size l' A' 0 → Calls Try.prog 19 #[.int .i64 vars, .slice A' l'.len cap'] Z fun e w' => e = .returned (.int .i64 (ckSh vars l')) ∧ Below Z.heap.size Z w') :
    Calls Try.prog 19 #[.int .i64 vars, .slice A len cap] w fun e w' => e = .returned (.int .i64 (ckSh vars l)) ∧ Below w.heap.size w w' := by
  have HL := Lib.hid hl
  have HF := Lib.hid hf
  have HIH := Lib.hid hih
  have HX := Lib.hid hx
  have hlen : len ≤ 1000 := by rw [← hl]; exact hf.len
  clear hl hf hih hx
  go_enter Try.func19, Try.ntmps19
  go_wp2
  go_loopw [10] (fun z wr => ∃ k : Nat, k ≤ len ∧ z = .int .i64 k ∧ Hid (ckSh vars l = ckSh vars (l.drop k)) ∧ Below w.heap.size w wr) (fun z _ => len - (intOf z).toNat)
  case atStart => exact ⟨0, Nat.zero_le _, rfl, Lib.hid (by rw [Sh.drop_zero]), Below.refl _ _⟩
  case round =>
    obtain ⟨k, hk, rfl, HR, hb⟩ := hrel
    have hsz := hb.size
    by_cases hlt : k < len
    · obtain ⟨ad, kd, ts, cd, th, el, Ac, At, Ae, cc, ct, ce, rfl, hbl, hd, hc0, hc1, hc2, hc3, hc4, hrc, hrt, hre⟩ := (HX.out.up hb).at_ (k := k) (by rw [HL.out]; exact hlt)
      obtain ⟨⟨hm1, hf1⟩, ⟨hm2, hf2⟩, hcl⟩ := HF.out.part hd
      obtain ⟨c, kc⟩ : ∃ x, ckOne vars kd ts cd = x := ⟨_, rfl⟩
      obtain ⟨cT, kT⟩ : ∃ x, ckSh vars th = x := ⟨_, rfl⟩
      obtain ⟨cE, kE⟩ : ∃ x, ckSh vars el = x := ⟨_, rfl⟩
      have HD : Hid (ckSh vars l = if c ≠ 0 then c else if cT ≠ 0 then cT else if cE ≠ 0 then cE else ckSh vars (l.drop (k + 1))) := Lib.hid (by rw [HR.out, hd, ckSh_three _ _ _ _ _ _ _ _ _ _ kc kT kE])
      have HBX : Hid (Below wr.heap.size wr (wr.alloc (.cells #[.int .i64 kd, .int .i64 ts, .slice Ac cd.length cc, .slice At th.len ct, .slice Ae el.len ce] 57))) := Lib.hid (by go_grown)
      have HB : Hid (Own (wr.alloc (.cells #[.int .i64 kd, .int .i64 ts, .slice Ac cd.length cc, .slice At th.len ct, .slice Ae el.len ce] 57)) wr.heap.size 57 [.int .i64 kd, .int .i64 ts, .slice Ac cd.length cc, .slice At th.len ct, .slice Ae el.len ce]) := Lib.hid (Own.new wr _ _)
      have HCS := Lib.hid (checkStatement_any vars kd ts cd Ac At Ae _ cc th.len ct el.len ce _ (hrc.up HBX.out) rfl (by omega))
      have HT := Lib.hid (fun (Z : World) (hZ : Below wr.heap.size wr Z) => HIH.out th hm1 hf1 At ct Z (hrt.up hZ))
      have HE := Lib.hid (fun (Z : World) (hZ : Below wr.heap.size wr Z) => HIH.out el hm2 hf2 Ae ce Z (hre.up hZ))
      obtain ⟨tl, htl⟩ : ∃ x, th.len = x := ⟨_, rfl⟩
      obtain ⟨el', hel⟩ : ∃ x, el.len = x := ⟨_, rfl⟩
      obtain ⟨cl, hcle⟩ : ∃ x, cd.length = x := ⟨_, rfl⟩
      rw [htl, hel, hcle] at HCS HBX HB
      rw [kc] at HCS
      rw [htl, kT] at HT
      rw [hel, kE] at HE
      rw [hcle] at hc2
      rw [htl] at hc3
      rw [hel] at hc4
      clear htl hel hcle hrt hre hrc hd hm1 hf1 hm2 hf2 hcl kc kT kE
      by_cases hz : c = 0
      · subst hz
        by_cases hzT : cT = 0
        · subst hzT
          by_cases hzE : cE = 0
          · subst hzE
            have HN : Hid (ckSh vars l = ckSh vars (l.drop (k + 1))) := Lib.hid (by rw [HD.out]; simp)
            go_wp2_with (first
              | (go_at_call 33; (with_reducible refine HCS.out.mono ?_); rintro e w1 ⟨rfl, hb1⟩; have HB1 := Lib.hid (below_via HBX.out hb1); have HO1 := Lib.hid (HB.out.below hb1 HB.out.lt); have d3 := HO1.out.cell (j := 3) rfl; have d4 := HO1.out.cell (j := 4) rfl; clear hb1)
              | (go_at_call 19; (with_reducible refine (HT.out _ HB1.out).mono ?_); rintro e w2 ⟨rfl, hb2⟩; have HB2 := Lib.hid (below_via HB1.out hb2); have HO2 := Lib.hid (HO1.out.below hb2 HO1.out.lt); have d4' := HO2.out.cell (j := 4) rfl; clear hb2)
              | (go_at_call 19; (with_reducible refine (HE.out _ HB2.out).mono ?_); rintro e w3 ⟨rfl, hb3⟩; have HB3 := Lib.hid (below_via HB2.out hb3); clear hb3))
            go_round
            case rel => exact ⟨k + 1, by omega, by go_num, HN, below_via hb HB3.out⟩
            case measure => (simp [intOf]; omega)
          · have n0 : (cE == 0) = false := by simp [hzE]
            have n1 : (cE != 0) = true := by simp [hzE]
            have HN : Hid (ckSh vars l = cE) := Lib.hid (by rw [HD.out]; simp [hzE])
            clear hzE
            go_wp2_with (first
              | (go_at_call 33; (with_reducible refine HCS.out.mono ?_); rintro e w1 ⟨rfl, hb1⟩; have HB1 := Lib.hid (below_via HBX.out hb1); have HO1 := Lib.hid (HB.out.below hb1 HB.out.lt); have d3 := HO1.out.cell (j := 3) rfl; have d4 := HO1.out.cell (j := 4) rfl; clear hb1)
              | (go_at_call 19; (with_reducible refine (HT.out _ HB1.out).mono ?_); rintro e w2 ⟨rfl, hb2⟩; have HB2 := Lib.hid (below_via HB1.out hb2); have HO2 := Lib.hid (HO1.out.below hb2 HO1.out.lt); have d4' := HO2.out.cell (j := 4) rfl; clear hb2)
              | (go_at_call 19; (with_reducible refine (HE.out _ HB2.out).mono ?_); rintro e w3 ⟨rfl, hb3⟩; have HB3 := Lib.hid (below_via HB2.out hb3); clear hb3))
            go_ret
            exact ⟨ret_int HN.out.symm, below_via hb HB3.out⟩
        · have n0 : (cT == 0) = false := by simp [hzT]
          have n1 : (cT != 0) = true := by simp [hzT]
          have HN : Hid (ckSh vars l = cT) := Lib.hid (by rw [HD.out]; simp [hzT])
          clear hzT
          go_wp2_with (first
            | (go_at_call 33; (with_reducible refine HCS.out.mono ?_); rintro e w1 ⟨rfl, hb1⟩; have HB1 := Lib.hid (below_via HBX.out hb1); have HO1 := Lib.hid (HB.out.below hb1 HB.out.lt); have d3 := HO1.out.cell (j := 3) rfl; have d4 := HO1.out.cell (j := 4) rfl; clear hb1)
            | (go_at_call 19; (with_reducible refine (HT.out _ HB1.out).mono ?_); rintro e w2 ⟨rfl, hb2⟩; have HB2 := Lib.hid (below_via HB1.out hb2); clear hb2))
          go_ret
          exact ⟨ret_int HN.out.symm, below_via hb HB2.out⟩
      · have n0 : (c == 0) = false := by simp [hz]
        have n1 : (c != 0) = true := by simp [hz]
        have HN : Hid (ckSh vars l = c) := Lib.hid (by rw [HD.out]; simp [hz])
        clear hz
        go_wp2_with (go_at_call 33; (with_reducible refine HCS.out.mono ?_); rintro e w7 ⟨rfl, hb7⟩)
        go_ret
        exact ⟨ret_int HN.out.symm, below_via hb (below_via HBX.out hb7)⟩
    · have HE : Hid (ckSh vars l = 0) := Lib.hid (by rw [HR.out, Sh.drop_ge (by rw [HL.out]; omega)]; rfl)
      go_wp2
      go_ret
      exact ⟨ret_int HE.out.symm, hb⟩

theorem checkList_any (vars : Int) (lo : Nat) : ∀ (m : Nat) (l : Sh), l.many ≤ m → FitSh l → ∀ (A : Option Addr) (cap : Nat) (w : World), RdH w lo w.heap.size l A 0 →
    Calls Try.prog 19 #[.int .i64 vars, .slice A l.len cap] w fun e w' => e = .returned (.int .i64 (ckSh vars l)) ∧ Below w.heap.size w w'
  | 0, l, hm, hf, A, cap, w, hx => checkList_one vars l lo A _ cap w hx rfl hf fun l' h => by omega
  | m + 1, l, hm, hf, A, cap, w, hx => checkList_one vars l lo A _ cap w hx rfl hf fun l' h hf' A' cap' Z hx' => checkList_any vars lo m l' (by omega) hf' A' cap' Z hx'

set_option maxHeartbeats 8000000 in
theorem shapeCheck_any (vars : Int) (l : Sh) (lo : Nat) (A : Option Addr) (len cap : Nat) (w : World) (hx : RdH w lo w.heap.size l A 0) (hl : l.len = len) (hin : InSh l) (hlen : len * 88 ≤ 140737488351232) :
    Calls Try.prog 7 #[.int .i64 vars, .slice A len cap] w fun e w' => e = .returned (.int .i64 (ckShape vars l)) ∧ Below w.heap.size w w' := by
  subst hl
  have HX := Lib.hid hx
  have HB : Hid (Own (w.alloc (.cells #[.int .i64 0, .int .i64 0] 47)) w.heap.size 47 [.int .i64 0, .int .i64 0]) := Lib.hid (Own.new w _ _)
  have HBX : Hid (Below w.heap.size w (w.alloc (.cells #[.int .i64 0, .int .i64 0] 47))) := Lib.hid (by go_grown)
  have HEX := Lib.hid (exceeds_any w.heap.size lo w.heap.size (Nat.le_refl _) 5 1 rfl (Nat.le_refl _) l A cap 0 0 _ (RdH.below HBX.out (Nat.le_refl _) hx) HB.out hin hlen (by omega) (by omega))
  have HCL := Lib.hid (fun (Z : World) (hZ : Below w.heap.size w Z) (hf : FitSh l) => checkList_any vars lo _ l (Nat.le_refl _) hf A cap Z (hx.up hZ))
  obtain ⟨ll, hll⟩ : ∃ x, l.len = x := ⟨_, rfl⟩
  rw [hll] at HEX HCL ⊢
  clear hx hin hlen hll
  by_cases hv : vars < 1 ∨ 6 < vars
  · have HR : Hid (ckShape vars l = 1) := Lib.hid (by unfold ckShape; rw [if_pos (by omega)])
    by_cases h1 : vars < 1
    · have e1 : decide (vars < 1) = true := by simp; omega
      clear hv h1
      go_enter Try.func7, Try.ntmps7
      go_wp2
      go_ret
      exact ⟨ret_int HR.out.symm, HBX.out⟩
    · have e1 : decide (vars < 1) = false := by simp; omega
      have e2 : decide (6 < vars) = true := by simp; omega
      clear hv h1
      go_enter Try.func7, Try.ntmps7
      go_wp2
      go_ret
      exact ⟨ret_int HR.out.symm, HBX.out⟩
  · have e1 : decide (vars < 1) = false := by simp; omega
    have e2 : decide (6 < vars) = false := by simp; omega
    have HV := Lib.hid hv
    clear hv
    go_enter Try.func7, Try.ntmps7
    go_wp2_with fail
    refine HEX.out.mono ?_
    rintro e w7 ⟨b, s1, q1, rfl, hex, hown, honly⟩
    have HBB := Lib.hid hex.big
    have HB7 : Hid (Below w.heap.size w w7) := Lib.hid (HBX.out.trans (honly.below (Nat.le_refl _) (by simp)))
    clear hex hown honly
    cases b with
    | true =>
      have HR : Hid (ckShape vars l = 1) := Lib.hid (by unfold ckShape; rw [if_pos (.inr (.inr (HBB.out.1 rfl)))])
      go_wp2
      go_ret
      exact ⟨ret_int HR.out.symm, HB7.out⟩
    | false =>
      have HNB : Hid (¬ bigSh l) := Lib.hid fun h => by have := HBB.out.2 h; cases this
      have HFT : Hid (FitSh l) := Lib.hid (by have := HNB.out; unfold bigSh at this; exact ⟨by omega, by omega⟩)
      have HR : Hid (ckShape vars l = ckSh vars l) := Lib.hid (by unfold ckShape; rw [if_neg fun h => (by rcases h with h | h | h; exact HV.out (.inl h); exact HV.out (.inr h); exact HNB.out h)])
      go_wp2_with (go_at_call 19; (with_reducible refine (HCL.out _ HB7.out HFT.out).mono ?_); rintro e w8 ⟨rfl, hb8⟩)
      go_ret
      exact ⟨ret_int HR.out.symm, below_via HB7.out hb8⟩

end Go.Proofs.Ytniilhgcgcimgaa
