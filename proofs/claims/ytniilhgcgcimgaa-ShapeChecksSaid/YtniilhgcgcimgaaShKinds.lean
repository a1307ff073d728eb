/-
  codemasonref.shapeKinds, Right, Whiles (U1, U2).
-/
import Derived.Test.YtniilhgcgcimgaaShMem
import Derived.Test.YtniilhgcgcimgaaMBlkR
import Derived.BigQuiet
namespace Go.Proofs.Ytniilhgcgcimgaa
open Go.RowKit
set_option linter.unusedSimpArgs false
set_option linter.unusedVariables false
set_option maxRecDepth 100000

theorem Sh.drop_many : ∀ (l : Sh) (k : Nat), (l.drop k).many ≤ l.many ∧ (l.drop k).steps ≤ l.steps
  | l, 0 => by rw [Sh.drop_zero]; exact ⟨Nat.le_refl _, Nat.le_refl _⟩
  | .nil, k + 1 => ⟨Nat.le_refl _, Nat.le_refl _⟩
  | .cons kd ts cd th el r, k + 1 => by
    have := Sh.drop_many r k
    simp only [Sh.drop, Sh.many, Sh.steps]
    omega

/-- small enough to be counted -/
def FitSh (l : Sh) : Prop := l.many ≤ 1000 ∧ l.steps ≤ 1000

theorem FitSh.part {l : Sh} {k : Nat} {kd ts : Int} {cd : List St} {th el r : Sh} (h : FitSh l) (hd : l.drop k = .cons kd ts cd th el r) : (th.many < l.many ∧ FitSh th) ∧ (el.many < l.many ∧ FitSh el) ∧ cd.length ≤ 1000 := by
  have h1 := Sh.drop_many l k
  rw [hd] at h1
  obtain ⟨h2, h3⟩ := h
  simp only [Sh.many, Sh.steps] at h1
  exact ⟨⟨by omega, by omega, by omega⟩, ⟨by omega, by omega, by omega⟩, by omega⟩

theorem FitSh.len {l : Sh} (h : FitSh l) : l.len ≤ 1000 := Nat.le_trans l.len_many h.1

section
variable {vars kd ts : Int} {cd : List St} {th el r : Sh}

theorem ckSh_one (h : ckOne vars kd ts cd ≠ 0) : ckSh vars (.cons kd ts cd th el r) = ckOne vars kd ts cd := by
  rw [ckSh, if_pos h]

theorem ckSh_th (h : ckOne vars kd ts cd = 0) (h1 : ckSh vars th ≠ 0) : ckSh vars (.cons kd ts cd th el r) = ckSh vars th := by
  rw [ckSh, if_neg (by simp [h]), if_pos h1]

theorem ckSh_el (h : ckOne vars kd ts cd = 0) (h1 : ckSh vars th = 0) (h2 : ckSh vars el ≠ 0) : ckSh vars (.cons kd ts cd th el r) = ckSh vars el := by
  rw [ckSh, if_neg (by simp [h]), if_neg (by simp [h1]), if_pos h2]

theorem ckSh_go (h : ckOne vars kd ts cd = 0) (h1 : ckSh vars th = 0) (h2 : ckSh vars el = 0) : ckSh vars (.cons kd ts cd th el r) = ckSh vars r := by
  rw [ckSh, if_neg (by simp [h]), if_neg (by simp [h1]), if_neg (by simp [h2])]

end

set_option maxHeartbeats 16000000 in
theorem refKinds_one (vars : Int) (l : Sh) (lo : Nat) (A : Option Addr) (len cap : Nat) (w : World) (hx : RdH w lo w.heap.size l A 0) (hl : l.len = len) (hf : FitSh l)
    (hih : ∀ l' : Sh, l'.many < l.many → FitSh l' → ∀ (A' : Option Addr) (cap' : Nat) (Z : World), RdH Z lo Z.heap.size l' A' 0 → Calls Try.prog 21 #[.int .i64 vars, .slice A' l'.len cap'] Z fun e w' => e = .returned (.int .i64 (ckSh vars l')) ∧ Below Z.heap.size Z w') :
    Calls Try.prog 21 #[.int .i64 vars, .slice A len cap] w fun e w' => e = .returned (.int .i64 (ckSh vars l)) ∧ Below w.heap.size w w' := by
  have HL := Lib.hid hl
  have HF := Lib.hid hf
  have HIH := Lib.hid hih
  have HX := Lib.hid hx
  have hlen : len ≤ 1000 := by rw [← hl]; exact hf.len
  clear hl hf hih hx
  go_enter Try.func21, Try.ntmps21
  go_wp2
  go_loopw [15] (fun z wr => ∃ k : Nat, k ≤ len ∧ z = .int .i64 k ∧ Hid (ckSh vars l = ckSh vars (l.drop k)) ∧ Below w.heap.size w wr) (fun z _ => len - (intOf z).toNat)
  case atStart => exact ⟨0, Nat.zero_le _, rfl, Lib.hid (by rw [Sh.drop_zero]), Below.refl _ _⟩
  case round =>
    obtain ⟨k, hk, rfl, HR, hb⟩ := hrel
    have hsz := hb.size
    by_cases hlt : k < len
    · obtain ⟨ad, kd, ts, cd, th, el, Ac, At, Ae, cc, ct, ce, rfl, hbl, hd, hc0, hc1, hc2, hc3, hc4, hrc, hrt, hre⟩ := (HX.out.up hb).at_ (k := k) (by rw [HL.out]; exact hlt)
      obtain ⟨⟨hm1, hf1⟩, ⟨hm2, hf2⟩, hcl⟩ := HF.out.part hd
      have HTH := Lib.hid (fun (Z : World) (hZ : Below wr.heap.size wr Z) => HIH.out th hm1 hf1 At ct Z (hrt.up hZ))
      have HEL := Lib.hid (fun (Z : World) (hZ : Below wr.heap.size wr Z) => HIH.out el hm2 hf2 Ae ce Z (hre.up hZ))
      have HRC := Lib.hid (fun (Z : World) (hZ : Below wr.heap.size wr Z) => hrc.up hZ)
      have HD : Hid (ckSh vars l = ckSh vars (.cons kd ts cd th el (l.drop (k + 1)))) := Lib.hid (by rw [HR.out, hd])
      obtain ⟨tl, htl⟩ : ∃ x, th.len = x := ⟨_, rfl⟩
      obtain ⟨el', hel⟩ : ∃ x, el.len = x := ⟨_, rfl⟩
      obtain ⟨cl, hcle⟩ : ∃ x, cd.length = x := ⟨_, rfl⟩
      obtain ⟨eT, heT⟩ : ∃ x, ckSh vars th = x := ⟨_, rfl⟩
      obtain ⟨eE, heE⟩ : ∃ x, ckSh vars el = x := ⟨_, rfl⟩
      have HET := Lib.hid heT
      have HEE := Lib.hid heE
      have HCL := Lib.hid hcle
      rw [htl, heT] at HTH
      rw [hel, heE] at HEL
      rw [hcle] at hc2 hcl
      rw [htl] at hc3
      rw [hel] at hc4
      clear htl hel hcle heT heE hrt hre hrc hd hm1 hf1 hm2 hf2
      have HOB : Hid (Own (wr.alloc (.cells #[.int .i64 kd, .int .i64 ts, .slice Ac cl cc, .slice At tl ct, .slice Ae el' ce] 57)) wr.heap.size 57 [.int .i64 kd, .int .i64 ts, .slice Ac cl cc, .slice At tl ct, .slice Ae el' ce]) := Lib.hid (Own.new wr _ _)
      have HBX : Hid (Below wr.heap.size wr (wr.alloc (.cells #[.int .i64 kd, .int .i64 ts, .slice Ac cl cc, .slice At tl ct, .slice Ae el' ce] 57))) := Lib.hid (by go_grown)
      have HBW := Lib.hid hb
      obtain ⟨wo, rfl⟩ : ∃ wo : World, wo = wr := ⟨_, rfl⟩
      by_cases k1 : kd = 1
      · subst k1
        go_wp2
        obtain ⟨X, hX⟩ : ∃ X, X = wo.alloc (.cells #[.int .i64 1, .int .i64 ts, .slice Ac cl cc, .slice At tl ct, .slice Ae el' ce] 57) := ⟨_, rfl⟩
        rw [← hX] at HOB HBX ⊢
        clear hX
        obtain ⟨g0, hg0⟩ : ∃ g, wo.heap.size = g := ⟨_, rfl⟩
        rw [hg0] at HOB
        have HG0 := Lib.hid hg0
        simp only [hg0]
        clear hg0 hc0 hc1 hc2 hc3 hc4 hbl hsz hb
        go_loopw [38] (fun z wr => ∃ c : Nat, c ≤ cl ∧ z = .int .i64 c ∧ Hid (ckStepsF vars vars cd = ckStepsF vars vars (cd.drop c)) ∧ Hid (Below X.heap.size X wr)) (fun z _ => cl - (intOf z).toNat)
        case atStart => exact ⟨0, Nat.zero_le _, rfl, Lib.hid rfl, Lib.hid (Below.refl _ _)⟩
        case round =>
          obtain ⟨c, hc, rfl, HRC2, HBC⟩ := hrel
          by_cases hct : c < cl
          · obtain ⟨ad2, o, t, a, b, v, rfl, hbl2, hd2, e0, e1, e2, e3, e4⟩ := RdS.at_ (HRC.out wr (below_via HBX.out HBC.out)) (k := c) (by rw [HCL.out]; exact hct)
            have HD2 := Lib.hid (drop_at hd2)
            have HBB := Lib.hid (below_via HBW.out (below_via HBX.out HBC.out))
            clear hd2
            by_cases hop : ckStep vars vars o t a b v = 0
            · have HOP := Lib.hid hop
              have n1 : (ckStep vars vars o t a b v != 0) = false := by simp [hop]
              clear hop
              go_wp2_with (go_at_call 34; (with_reducible refine (stepCheck_any _ _ _ _ _ _ _ _).mono ?_); rintro e w1 ⟨rfl, hb4⟩)
              go_round
              case rel => exact ⟨c + 1, by omega, by go_num, Lib.hid (by rw [HRC2.out, HD2.out]; exact ckStepsF_go HOP.out), Lib.hid (below_via (below_via HBC.out (by go_grown)) hb4)⟩
              case measure => (simp [intOf]; omega)
            · have HOP := Lib.hid hop
              have n1 : (ckStep vars vars o t a b v != 0) = true := by simp [hop]
              clear hop
              go_wp2_with (go_at_call 34; (with_reducible refine (stepCheck_any _ _ _ _ _ _ _ _).mono ?_); rintro e w1 ⟨rfl, hb4⟩)
              go_ret
              refine ⟨ret_int ?_, below_via (below_via HBB.out (by go_grown)) hb4⟩
              have hq : ckOne vars 1 ts cd = ckStep vars vars o t a b v := by
                unfold ckOne
                rw [if_pos rfl, HRC2.out, HD2.out]
                exact (ckStepsF_stop rfl HOP.out).symm
              rw [HD.out, ckSh_one (by rw [hq]; exact HOP.out), hq]
          · have hcc : c = cl := by omega
            have HONE : Hid (ckOne vars 1 ts cd = 0) := Lib.hid (by
              unfold ckOne
              rw [if_pos rfl, HRC2.out, List.drop_of_length_le (by rw [HCL.out]; omega)]
              rfl)
            subst hcc
            have HO5 := HOB.out.below HBC.out HOB.out.lt
            have d3 := HO5.cell (j := 3) rfl
            have d4 := HO5.cell (j := 4) rfl
            have HB5 := Lib.hid (below_via HBX.out HBC.out)
            obtain ⟨w5, rfl⟩ : ∃ w5 : World, w5 = wr := ⟨_, rfl⟩
            clear HO5
            go_wp2_with fail
            have HLT : Hid (Own (w5.alloc (.cells #[.slice At tl ct, .slice Ae el' ce] 22)) w5.heap.size 22 [.slice At tl ct, .slice Ae el' ce]) := Lib.hid (Own.new w5 _ _)
            have HBY : Hid (Below wo.heap.size wo (w5.alloc (.cells #[.slice At tl ct, .slice Ae el' ce] 22))) := Lib.hid (below_via HB5.out (by go_grown))
            obtain ⟨Y, hY⟩ : ∃ Y, Y = w5.alloc (.cells #[.slice At tl ct, .slice Ae el' ce] 22) := ⟨_, rfl⟩
            rw [← hY] at HLT HBY ⊢
            clear hY
            obtain ⟨g5, hg5⟩ : ∃ g, w5.heap.size = g := ⟨_, rfl⟩
            rw [hg5] at HLT
            simp only [hg5]
            clear hg5
            go_loopw [62] (fun z wr => ∃ j : Nat, j ≤ 2 ∧ z = .int .i64 j ∧ Hid ((1 ≤ j → eT = 0) ∧ (2 ≤ j → eE = 0)) ∧ Hid (Below Y.heap.size Y wr)) (fun z _ => 2 - (intOf z).toNat)
            case atStart => exact ⟨0, Nat.zero_le _, rfl, Lib.hid ⟨fun h => by omega, fun h => by omega⟩, Lib.hid (Below.refl _ _)⟩
            case round =>
              obtain ⟨j, hj, rfl, HZ, HBJ⟩ := hrel
              have q0 := (HLT.out.below HBJ.out HLT.out.lt).cell (j := 0) rfl
              have q1 := (HLT.out.below HBJ.out HLT.out.lt).cell (j := 1) rfl
              have HBO := Lib.hid (below_via HBY.out HBJ.out)
              obtain rfl | rfl | rfl : j = 0 ∨ j = 1 ∨ j = 2 := by omega
              · by_cases hz : eT = 0
                · have hne : (eT != 0) = false := by simp [hz]
                  have HZ0 := Lib.hid hz
                  clear hz
                  go_wp2_with (go_at_call 21; (with_reducible refine (HTH.out _ HBO.out).mono ?_); rintro e w7 ⟨rfl, hb7⟩)
                  go_round
                  case rel => exact ⟨1, by omega, by go_num, Lib.hid ⟨fun _ => HZ0.out, fun h => by omega⟩, Lib.hid (below_via HBJ.out hb7)⟩
                  case measure => first | (simp [intOf]; done) | (simp [intOf]; omega)
                · have hne : (eT != 0) = true := by simp [hz]
                  have HZ0 := Lib.hid hz
                  clear hz
                  go_wp2_with (go_at_call 21; (with_reducible refine (HTH.out _ HBO.out).mono ?_); rintro e w7 ⟨rfl, hb7⟩)
                  go_ret
                  exact ⟨ret_int (by rw [HD.out, ckSh_th HONE.out (by rw [HET.out]; exact HZ0.out), HET.out]), below_via (below_via HBW.out HBO.out) hb7⟩
              · by_cases hz : eE = 0
                · have hne : (eE != 0) = false := by simp [hz]
                  have HZ0 := Lib.hid hz
                  clear hz
                  go_wp2_with (go_at_call 21; (with_reducible refine (HEL.out _ HBO.out).mono ?_); rintro e w7 ⟨rfl, hb7⟩)
                  go_round
                  case rel => exact ⟨2, by omega, by go_num, Lib.hid ⟨fun _ => HZ.out.1 (by omega), fun _ => HZ0.out⟩, Lib.hid (below_via HBJ.out hb7)⟩
                  case measure => first | (simp [intOf]; done) | (simp [intOf]; omega)
                · have hne : (eE != 0) = true := by simp [hz]
                  have HZ0 := Lib.hid hz
                  clear hz
                  go_wp2_with (go_at_call 21; (with_reducible refine (HEL.out _ HBO.out).mono ?_); rintro e w7 ⟨rfl, hb7⟩)
                  go_ret
                  exact ⟨ret_int (by rw [HD.out, ckSh_el HONE.out (by rw [HET.out]; exact HZ.out.1 (by omega)) (by rw [HEE.out]; exact HZ0.out), HEE.out]), below_via (below_via HBW.out HBO.out) hb7⟩
              · go_wp2
                go_round
                case rel => exact ⟨k + 1, by omega, by go_num, Lib.hid (by rw [HD.out, ckSh_go HONE.out (by rw [HET.out]; exact HZ.out.1 (by omega)) (by rw [HEE.out]; exact HZ.out.2 (by omega))]), below_via HBW.out HBO.out⟩
                case measure => (simp [intOf]; omega)
      · by_cases k2 : kd = 2
        · subst k2
          by_cases hin : 0 ≤ ts ∧ ts < vars
          · have HONE : Hid (ckOne vars 2 ts cd = 0) := Lib.hid (by unfold ckOne; rw [if_neg (by omega), if_pos (by omega), if_pos hin])
            have hin2 : decide (0 ≤ ts ∧ ts < vars) = true := decide_eq_true hin
            have HI1 : Hid (∀ (p : Addr) (c : Nat) (Z : World), Z.cell? p = some (.int .i64 ts) → Calls Try.prog 15 #[.int .i64 vars, .slice (some p) 1 c] Z fun e w' => e = .returned (.bool true) ∧ Z = w') := Lib.hid fun p c Z h => by rw [← hin2]; exact inside1_any vars ts p c Z h
            have HB5 : Hid (Below wo.heap.size wo ((wo.alloc (.cells #[.int .i64 2, .int .i64 ts, .slice Ac cl cc, .slice At tl ct, .slice Ae el' ce] 57)).alloc (.cells #[.int .i64 ts] 3))) := Lib.hid (by go_grown)
            obtain ⟨W5, hW5⟩ : ∃ X, X = (wo.alloc (.cells #[.int .i64 2, .int .i64 ts, .slice Ac cl cc, .slice At tl ct, .slice Ae el' ce] 57)).alloc (.cells #[.int .i64 ts] 3) := ⟨_, rfl⟩
            have HZ5 : Hid (W5.heap.size = wo.heap.size + 1 + 1) := Lib.hid (by rw [hW5]; simp)
            clear hin hin2
            go_wp2_with (go_at_call 15; (with_reducible refine (HI1.out _ _ _ ?_).mono ?_); (· exact cell_new (by simp) rfl); rintro e w1 ⟨rfl, rfl⟩)
            rw [← hW5] at HB5 ⊢
            clear hW5
            have HLT : Hid (Own (W5.alloc (.cells #[.slice At tl ct, .slice Ae el' ce] 22)) W5.heap.size 22 [.slice At tl ct, .slice Ae el' ce]) := Lib.hid (Own.new W5 _ _)
            have HBY : Hid (Below wo.heap.size wo (W5.alloc (.cells #[.slice At tl ct, .slice Ae el' ce] 22))) := Lib.hid (below_via HB5.out (by go_grown))
            obtain ⟨Y, hY⟩ : ∃ Y, Y = W5.alloc (.cells #[.slice At tl ct, .slice Ae el' ce] 22) := ⟨_, rfl⟩
            rw [← hY] at HLT HBY ⊢
            clear hY
            obtain ⟨g5, hg5⟩ : ∃ g, wo.heap.size + 1 + 1 = g := ⟨_, rfl⟩
            rw [HZ5.out, hg5] at HLT
            simp only [hg5]
            clear hg5
            go_loopw [62] (fun z wr => ∃ j : Nat, j ≤ 2 ∧ z = .int .i64 j ∧ Hid ((1 ≤ j → eT = 0) ∧ (2 ≤ j → eE = 0)) ∧ Hid (Below Y.heap.size Y wr)) (fun z _ => 2 - (intOf z).toNat)
            case atStart => exact ⟨0, Nat.zero_le _, rfl, Lib.hid ⟨fun h => by omega, fun h => by omega⟩, Lib.hid (Below.refl _ _)⟩
            case round =>
              obtain ⟨j, hj, rfl, HZ, HBJ⟩ := hrel
              have q0 := (HLT.out.below HBJ.out HLT.out.lt).cell (j := 0) rfl
              have q1 := (HLT.out.below HBJ.out HLT.out.lt).cell (j := 1) rfl
              have HBO := Lib.hid (below_via HBY.out HBJ.out)
              obtain rfl | rfl | rfl : j = 0 ∨ j = 1 ∨ j = 2 := by omega
              · by_cases hz : eT = 0
                · have hne : (eT != 0) = false := by simp [hz]
                  have HZ0 := Lib.hid hz
                  clear hz
                  go_wp2_with (go_at_call 21; (with_reducible refine (HTH.out _ HBO.out).mono ?_); rintro e w7 ⟨rfl, hb7⟩)
                  go_round
                  case rel => exact ⟨1, by omega, by go_num, Lib.hid ⟨fun _ => HZ0.out, fun h => by omega⟩, Lib.hid (below_via HBJ.out hb7)⟩
                  case measure => first | (simp [intOf]; done) | (simp [intOf]; omega)
                · have hne : (eT != 0) = true := by simp [hz]
                  have HZ0 := Lib.hid hz
                  clear hz
                  go_wp2_with (go_at_call 21; (with_reducible refine (HTH.out _ HBO.out).mono ?_); rintro e w7 ⟨rfl, hb7⟩)
                  go_ret
                  exact ⟨ret_int (by rw [HD.out, ckSh_th HONE.out (by rw [HET.out]; exact HZ0.out), HET.out]), below_via (below_via HBW.out HBO.out) hb7⟩
              · by_cases hz : eE = 0
                · have hne : (eE != 0) = false := by simp [hz]
                  have HZ0 := Lib.hid hz
                  clear hz
                  go_wp2_with (go_at_call 21; (with_reducible refine (HEL.out _ HBO.out).mono ?_); rintro e w7 ⟨rfl, hb7⟩)
                  go_round
                  case rel => exact ⟨2, by omega, by go_num, Lib.hid ⟨fun _ => HZ.out.1 (by omega), fun _ => HZ0.out⟩, Lib.hid (below_via HBJ.out hb7)⟩
                  case measure => first | (simp [intOf]; done) | (simp [intOf]; omega)
                · have hne : (eE != 0) = true := by simp [hz]
                  have HZ0 := Lib.hid hz
                  clear hz
                  go_wp2_with (go_at_call 21; (with_reducible refine (HEL.out _ HBO.out).mono ?_); rintro e w7 ⟨rfl, hb7⟩)
                  go_ret
                  exact ⟨ret_int (by rw [HD.out, ckSh_el HONE.out (by rw [HET.out]; exact HZ.out.1 (by omega)) (by rw [HEE.out]; exact HZ0.out), HEE.out]), below_via (below_via HBW.out HBO.out) hb7⟩
              · go_wp2
                go_round
                case rel => exact ⟨k + 1, by omega, by go_num, Lib.hid (by rw [HD.out, ckSh_go HONE.out (by rw [HET.out]; exact HZ.out.1 (by omega)) (by rw [HEE.out]; exact HZ.out.2 (by omega))]), below_via HBW.out HBO.out⟩
                case measure => (simp [intOf]; omega)
          · have HONE : Hid (ckOne vars 2 ts cd = 2) := Lib.hid (by unfold ckOne; rw [if_neg (by omega), if_pos (by omega), if_neg hin])
            have hin2 : decide (0 ≤ ts ∧ ts < vars) = false := decide_eq_false hin
            have HI1 : Hid (∀ (p : Addr) (c : Nat) (Z : World), Z.cell? p = some (.int .i64 ts) → Calls Try.prog 15 #[.int .i64 vars, .slice (some p) 1 c] Z fun e w' => e = .returned (.bool false) ∧ Z = w') := Lib.hid fun p c Z h => by rw [← hin2]; exact inside1_any vars ts p c Z h
            clear hin hin2
            go_wp2_with (go_at_call 15; (with_reducible refine (HI1.out _ _ _ ?_).mono ?_); (· exact cell_new (by simp) rfl); rintro e w1 ⟨rfl, rfl⟩)
            go_ret
            exact ⟨ret_int (by rw [HD.out, ckSh_one (by rw [HONE.out]; omega), HONE.out]), by go_grown⟩
        · by_cases k3 : kd = 3
          · subst k3
            by_cases hin : 0 ≤ ts ∧ ts < vars
            · have HONE : Hid (ckOne vars 3 ts cd = 0) := Lib.hid (by unfold ckOne; rw [if_neg (by omega), if_pos (by omega), if_pos hin])
              have hin2 : decide (0 ≤ ts ∧ ts < vars) = true := decide_eq_true hin
              have HI1 : Hid (∀ (p : Addr) (c : Nat) (Z : World), Z.cell? p = some (.int .i64 ts) → Calls Try.prog 15 #[.int .i64 vars, .slice (some p) 1 c] Z fun e w' => e = .returned (.bool true) ∧ Z = w') := Lib.hid fun p c Z h => by rw [← hin2]; exact inside1_any vars ts p c Z h
              have HB5 : Hid (Below wo.heap.size wo ((wo.alloc (.cells #[.int .i64 3, .int .i64 ts, .slice Ac cl cc, .slice At tl ct, .slice Ae el' ce] 57)).alloc (.cells #[.int .i64 ts] 3))) := Lib.hid (by go_grown)
              obtain ⟨W5, hW5⟩ : ∃ X, X = (wo.alloc (.cells #[.int .i64 3, .int .i64 ts, .slice Ac cl cc, .slice At tl ct, .slice Ae el' ce] 57)).alloc (.cells #[.int .i64 ts] 3) := ⟨_, rfl⟩
              have HZ5 : Hid (W5.heap.size = wo.heap.size + 1 + 1) := Lib.hid (by rw [hW5]; simp)
              clear hin hin2
              go_wp2_with (go_at_call 15; (with_reducible refine (HI1.out _ _ _ ?_).mono ?_); (· exact cell_new (by simp) rfl); rintro e w1 ⟨rfl, rfl⟩)
              rw [← hW5] at HB5 ⊢
              clear hW5
              have HLT : Hid (Own (W5.alloc (.cells #[.slice At tl ct, .slice Ae el' ce] 22)) W5.heap.size 22 [.slice At tl ct, .slice Ae el' ce]) := Lib.hid (Own.new W5 _ _)
              have HBY : Hid (Below wo.heap.size wo (W5.alloc (.cells #[.slice At tl ct, .slice Ae el' ce] 22))) := Lib.hid (below_via HB5.out (by go_grown))
              obtain ⟨Y, hY⟩ : ∃ Y, Y = W5.alloc (.cells #[.slice At tl ct, .slice Ae el' ce] 22) := ⟨_, rfl⟩
              rw [← hY] at HLT HBY ⊢
              clear hY
              obtain ⟨g5, hg5⟩ : ∃ g, wo.heap.size + 1 + 1 = g := ⟨_, rfl⟩
              rw [HZ5.out, hg5] at HLT
              simp only [hg5]
              clear hg5
              go_loopw [62] (fun z wr => ∃ j : Nat, j ≤ 2 ∧ z = .int .i64 j ∧ Hid ((1 ≤ j → eT = 0) ∧ (2 ≤ j → eE = 0)) ∧ Hid (Below Y.heap.size Y wr)) (fun z _ => 2 - (intOf z).toNat)
              case atStart => exact ⟨0, Nat.zero_le _, rfl, Lib.hid ⟨fun h => by omega, fun h => by omega⟩, Lib.hid (Below.refl _ _)⟩
              case round =>
                obtain ⟨j, hj, rfl, HZ, HBJ⟩ := hrel
                have q0 := (HLT.out.below HBJ.out HLT.out.lt).cell (j := 0) rfl
                have q1 := (HLT.out.below HBJ.out HLT.out.lt).cell (j := 1) rfl
                have HBO := Lib.hid (below_via HBY.out HBJ.out)
                obtain rfl | rfl | rfl : j = 0 ∨ j = 1 ∨ j = 2 := by omega
                · by_cases hz : eT = 0
                  · have hne : (eT != 0) = false := by simp [hz]
                    have HZ0 := Lib.hid hz
                    clear hz
                    go_wp2_with (go_at_call 21; (with_reducible refine (HTH.out _ HBO.out).mono ?_); rintro e w7 ⟨rfl, hb7⟩)
                    go_round
                    case rel => exact ⟨1, by omega, by go_num, Lib.hid ⟨fun _ => HZ0.out, fun h => by omega⟩, Lib.hid (below_via HBJ.out hb7)⟩
                    case measure => first | (simp [intOf]; done) | (simp [intOf]; omega)
                  · have hne : (eT != 0) = true := by simp [hz]
                    have HZ0 := Lib.hid hz
                    clear hz
                    go_wp2_with (go_at_call 21; (with_reducible refine (HTH.out _ HBO.out).mono ?_); rintro e w7 ⟨rfl, hb7⟩)
                    go_ret
                    exact ⟨ret_int (by rw [HD.out, ckSh_th HONE.out (by rw [HET.out]; exact HZ0.out), HET.out]), below_via (below_via HBW.out HBO.out) hb7⟩
                · by_cases hz : eE = 0
                  · have hne : (eE != 0) = false := by simp [hz]
                    have HZ0 := Lib.hid hz
                    clear hz
                    go_wp2_with (go_at_call 21; (with_reducible refine (HEL.out _ HBO.out).mono ?_); rintro e w7 ⟨rfl, hb7⟩)
                    go_round
                    case rel => exact ⟨2, by omega, by go_num, Lib.hid ⟨fun _ => HZ.out.1 (by omega), fun _ => HZ0.out⟩, Lib.hid (below_via HBJ.out hb7)⟩
                    case measure => first | (simp [intOf]; done) | (simp [intOf]; omega)
                  · have hne : (eE != 0) = true := by simp [hz]
                    have HZ0 := Lib.hid hz
                    clear hz
                    go_wp2_with (go_at_call 21; (with_reducible refine (HEL.out _ HBO.out).mono ?_); rintro e w7 ⟨rfl, hb7⟩)
                    go_ret
                    exact ⟨ret_int (by rw [HD.out, ckSh_el HONE.out (by rw [HET.out]; exact HZ.out.1 (by omega)) (by rw [HEE.out]; exact HZ0.out), HEE.out]), below_via (below_via HBW.out HBO.out) hb7⟩
                · go_wp2
                  go_round
                  case rel => exact ⟨k + 1, by omega, by go_num, Lib.hid (by rw [HD.out, ckSh_go HONE.out (by rw [HET.out]; exact HZ.out.1 (by omega)) (by rw [HEE.out]; exact HZ.out.2 (by omega))]), below_via HBW.out HBO.out⟩
                  case measure => (simp [intOf]; omega)
            · have HONE : Hid (ckOne vars 3 ts cd = 2) := Lib.hid (by unfold ckOne; rw [if_neg (by omega), if_pos (by omega), if_neg hin])
              have hin2 : decide (0 ≤ ts ∧ ts < vars) = false := decide_eq_false hin
              have HI1 : Hid (∀ (p : Addr) (c : Nat) (Z : World), Z.cell? p = some (.int .i64 ts) → Calls Try.prog 15 #[.int .i64 vars, .slice (some p) 1 c] Z fun e w' => e = .returned (.bool false) ∧ Z = w') := Lib.hid fun p c Z h => by rw [← hin2]; exact inside1_any vars ts p c Z h
              clear hin hin2
              go_wp2_with (go_at_call 15; (with_reducible refine (HI1.out _ _ _ ?_).mono ?_); (· exact cell_new (by simp) rfl); rintro e w1 ⟨rfl, rfl⟩)
              go_ret
              exact ⟨ret_int (by rw [HD.out, ckSh_one (by rw [HONE.out]; omega), HONE.out]), by go_grown⟩
          · have HONE : Hid (ckOne vars kd ts cd = 6) := Lib.hid (by unfold ckOne; rw [if_neg k1, if_neg (by omega)])
            have f1 : (kd != 1) = true := by simp [k1]
            have f2 : (kd != 2) = true := by simp [k2]
            have f3 : (kd != 3) = true := by simp [k3]
            clear k1 k2 k3
            go_wp2
            go_ret
            exact ⟨ret_int (by rw [HD.out, ckSh_one (by rw [HONE.out]; omega), HONE.out]), by go_grown⟩
    · have hkl : k = len := by omega
      have HE : Hid (ckSh vars l = 0) := Lib.hid (by rw [HR.out, Sh.drop_ge (by rw [HL.out]; omega)]; rfl)
      go_wp2
      go_ret
      exact ⟨ret_int HE.out.symm, hb⟩

theorem refKinds_any (vars : Int) (lo : Nat) : ∀ (m : Nat) (l : Sh), l.many ≤ m → FitSh l → ∀ (A : Option Addr) (cap : Nat) (w : World), RdH w lo w.heap.size l A 0 →
    Calls Try.prog 21 #[.int .i64 vars, .slice A l.len cap] w fun e w' => e = .returned (.int .i64 (ckSh vars l)) ∧ Below w.heap.size w w'
  | 0, l, hm, hf, A, cap, w, hx => refKinds_one vars l lo A _ cap w hx rfl hf fun l' h => by omega
  | m + 1, l, hm, hf, A, cap, w, hx => refKinds_one vars l lo A _ cap w hx rfl hf fun l' h hf' A' cap' Z hx' => refKinds_any vars lo m l' (by omega) hf' A' cap' Z hx'

end Go.Proofs.Ytniilhgcgcimgaa
