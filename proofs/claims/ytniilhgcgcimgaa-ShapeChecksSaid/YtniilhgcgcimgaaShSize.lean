/-
  codemasonref.ShapeSize, ShapeCheck (U1).
-/
import Derived.Test.YtniilhgcgcimgaaShLim
import Derived.Test.YtniilhgcgcimgaaShKinds
import Derived.Test.YtniilhgcgcimgaaShBld
import Derived.IntWalk
namespace Go.Proofs.Ytniilhgcgcimgaa
open Go.RowKit
set_option linter.unusedSimpArgs false
set_option linter.unusedVariables false
set_option maxRecDepth 100000

/-- what ShapeSize answers -/
def SizeTo (l : Sh) (d f : Nat) (e : Ending) : Prop := ∃ m s x : Nat, e = .returned (.tuple #[.int .i64 (m : Nat), .int .i64 (s : Nat), .int .i64 (x : Nat)]) ∧ SzTo l d m s x ∧ m ≤ bM f ∧ s ≤ bS f

theorem bM_base (f : Nat) : 1599289640356 ≤ bM f := by cases f <;> simp [bM]

set_option maxHeartbeats 16000000 in
theorem refSize_one (lo d f : Nat) (l : Sh) (A : Option Addr) (len cap : Nat) (w : World) (hx : RdH w lo w.heap.size l A 0) (hl : l.len = len) (hin : InSh l) (hlen : len * 88 ≤ 140737488351232) (hd : 1 ≤ d) (hdf : d + f = 6)
    (hih : ∀ f', f = f' + 1 → ∀ (l' : Sh) (A' : Option Addr) (cap' : Nat) (Z : World), RdH Z lo Z.heap.size l' A' 0 → InSh l' → l'.len * 88 ≤ 140737488351232 →
      Calls Try.prog 20 #[.slice A' l'.len cap', .int .i64 ((d + 1 : Nat) : Int)] Z fun e w' => SizeTo l' (d + 1) f' e ∧ Below Z.heap.size Z w') :
    Calls Try.prog 20 #[.slice A len cap, .int .i64 (d : Nat)] w fun e w' => SizeTo l d f e ∧ Below w.heap.size w w' := by
  have HL := Lib.hid hl
  have HX := Lib.hid hx
  have HIN := Lib.hid hin
  obtain ⟨d0, rfl⟩ : ∃ d0, d = d0 + 1 := ⟨d - 1, by omega⟩
  have hB0 := bM_base f
  obtain ⟨d, hdd⟩ : ∃ d, d0 + 1 = d := ⟨_, rfl⟩
  have HDD := Lib.hid hdd
  rw [hdd] at hd hdf hih ⊢
  have hd0 : (d : Int) - 1 = (d0 : Int) := by omega
  by_cases hz : len = 0
  · subst hz
    have HNIL : Hid (l = .nil) := Lib.hid (by cases l with | nil => rfl | cons => simp [Sh.len] at hl)
    have HSZ : Hid (SizeTo l d f (.returned (.tuple #[.int .i64 ((0 : Nat) : Int), .int .i64 ((0 : Nat) : Int), .int .i64 (d0 : Nat)]))) := Lib.hid ⟨0, 0, d0, rfl, by rw [HNIL.out, show d0 = d - 1 by omega]; exact SzTo.nil d, by omega, Nat.zero_le _⟩
    have hwd0 : IntKind.i64.wrap (d0 : Int) = (d0 : Int) := IntWalk.i64_in _ ⟨by omega, by omega⟩
    clear hl hx hih hin hdd
    go_enter Try.func20, Try.ntmps20
    go_wp2
    go_returns
    exact ⟨HSZ.out, Below.refl _ _⟩
  · have HNN : Hid (l ≠ .nil) := Lib.hid (Sh.len_pos (by omega))
    have hze : ((len : Nat) == 0) = false := by simp [hz]
    have hze' : ((len : Int) == 0) = false := by simp [hz]
    by_cases hbig : 8 < len ∨ 5 < d
    · have HSZ : Hid (SizeTo l d f (.returned (.tuple #[.int .i64 (len : Nat), .int .i64 ((0 : Nat) : Int), .int .i64 (d : Nat)]))) := Lib.hid ⟨len, 0, d, rfl, by rw [← HL.out]; exact SzTo.much hd HNN.out (by rw [HL.out]; exact hbig), by omega, Nat.zero_le _⟩
      clear hl hx hih hin hdd
      rcases Nat.lt_or_ge 8 len with h8 | h8
      · have e8 : decide (8 < len) = true := by simp; omega
        have e8' : decide ((8 : Int) < (len : Int)) = true := by simp; omega
        clear hbig
        go_enter Try.func20, Try.ntmps20
        go_wp2
        go_returns
        exact ⟨HSZ.out, Below.refl _ _⟩
      · have e8 : decide (8 < len) = false := by simp; omega
        have e8' : decide ((8 : Int) < (len : Int)) = false := by simp; omega
        have e5 : decide (5 < d) = true := by simp; omega
        have e5' : decide ((5 : Int) < (d : Int)) = true := by simp; omega
        clear hbig
        go_enter Try.func20, Try.ntmps20
        go_wp2
        go_returns
        exact ⟨HSZ.out, Below.refl _ _⟩
    · have hl8 : len ≤ 8 := by omega
      have hd5 : d ≤ 5 := by omega
      obtain ⟨f1, hf1⟩ : ∃ f1, f = f1 + 1 := ⟨f - 1, by omega⟩
      have HH := Lib.hid (hih f1 hf1)
      have e8 : decide (8 < len) = false := by simp; omega
      have e8' : decide ((8 : Int) < (len : Int)) = false := by simp; omega
      have e5 : decide (5 < d) = false := by simp; omega
      have e5' : decide ((5 : Int) < (d : Int)) = false := by simp; omega
      obtain ⟨d1, hd1⟩ : ∃ d1, d + 1 = d1 := ⟨_, rfl⟩
      have HD1 := Lib.hid hd1
      rw [hd1] at HH
      have hdp : (d : Int) + 1 = (d1 : Int) := by omega
      have hwd : IntKind.i64.wrap (d1 : Int) = (d1 : Int) := IntWalk.i64_in _ ⟨by omega, by omega⟩
      have hBM := bM_le f (by omega)
      have hBS := bS_le f (by omega)
      have HFM : Hid (bM f = 1599289640356 + 16 * bM f1 ∧ bS f = 8 * (3518437208783 + 2 * bS f1)) := Lib.hid (by rw [hf1]; exact ⟨rfl, rfl⟩)
      rw [HFM.out.1] at hBM
      rw [HFM.out.2] at hBS
      unfold SizeTo at HH
      obtain ⟨BM, hbm⟩ : ∃ x, bM f1 = x := ⟨_, rfl⟩
      obtain ⟨BS, hbs⟩ : ∃ x, bS f1 = x := ⟨_, rfl⟩
      rw [hbm, hbs] at HH HFM
      rw [hbm] at hBM
      rw [hbs] at hBS
      have HST : Hid (SzI l.many l.steps (d - 1 + l.deep) len 0 d (subM l) l.steps (d - 1 + l.deep)) := Lib.hid (by rw [← HL.out]; exact SzI.start hd HNN.out)
      clear hl hx hih hin hdd hbig hd1 hf1 hbm hbs hB0 hdf hd0
      go_enter Try.func20, Try.ntmps20
      go_wp2
      go_loopw [7, 8, 9, 36] (fun a b c z wr => ∃ k m s x : Nat, k ≤ len ∧ z = .int .i64 k ∧ a = .int .i64 m ∧ b = .int .i64 s ∧ c = .int .i64 x ∧ Hid (SzI l.many l.steps (d - 1 + l.deep) m s x (subM (l.drop k)) (l.drop k).steps (d - 1 + (l.drop k).deep)) ∧ d ≤ x ∧ m ≤ 8 + 2 * (k * BM) ∧ s ≤ k * 3518437208783 + 2 * (k * BS) ∧ Hid (Below w.heap.size w wr)) (fun _ _ _ z _ => len - (intOf z).toNat)
      case atStart => exact ⟨0, len, 0, d, Nat.zero_le _, rfl, rfl, rfl, rfl, Lib.hid (by rw [Sh.drop_zero]; exact HST.out), Nat.le_refl _, by omega, by omega, Lib.hid (Below.refl _ _)⟩
      case round =>
        obtain ⟨k, m, s, x, hk, rfl, rfl, rfl, rfl, HI, hdx, hm, hs, HB⟩ := hrel
        have hsz := HB.out.size
        by_cases hlt : k < len
        · obtain ⟨ad, kd, ts, cd, th, el, Ac, At, Ae, cc, ct, ce, rfl, hbl, hdr, hc0, hc1, hc2, hc3, hc4, hrc, hrt, hre⟩ := (HX.out.up HB.out).at_ (k := k) (by rw [HL.out]; exact hlt)
          have hin := HIN.out.drop k
          rw [hdr] at hin
          obtain ⟨i1, i2, i3, i4, i5, _⟩ := hin
          have HTH := Lib.hid (fun (Z : World) (hZ : Below wr.heap.size wr Z) => HH.out th At ct Z (hrt.up hZ) i4 i2)
          have HEL := Lib.hid (fun (Z : World) (hZ : Below wr.heap.size wr Z) => HH.out el Ae ce Z (hre.up hZ) i5 i3)
          have HI0 : Hid (SzI l.many l.steps (d - 1 + l.deep) m (s + cd.length) x (th.many + (el.many + subM (l.drop (k + 1)))) (th.steps + (el.steps + (l.drop (k + 1)).steps)) (max (d + th.deep) (max (d + el.deep) (d - 1 + (l.drop (k + 1)).deep)))) := Lib.hid (by
            have h := HI.out
            rw [hdr, subM_cons, steps_cons, deep_cons hd] at h
            exact h.code rfl)
          obtain ⟨tl, htl⟩ : ∃ x, th.len = x := ⟨_, rfl⟩
          obtain ⟨el', hel⟩ : ∃ x, el.len = x := ⟨_, rfl⟩
          obtain ⟨cl, hcle⟩ : ∃ x, cd.length = x := ⟨_, rfl⟩
          rw [htl] at HTH hc3
          rw [hel] at HEL hc4
          rw [hcle] at hc2 i1 HI0
          have HB0 := Lib.hid HB.out
          have hk1 : k * BM + BM ≤ 8 * BM := by have := Nat.mul_le_mul_right BM (show k + 1 ≤ 8 by omega); rw [Nat.add_mul, Nat.one_mul] at this; exact this
          have hk2 : k * BS + BS ≤ 8 * BS := by have := Nat.mul_le_mul_right BS (show k + 1 ≤ 8 by omega); rw [Nat.add_mul, Nat.one_mul] at this; exact this
          have HK1 : Hid ((k + 1) * BM = k * BM + BM ∧ (k + 1) * BS = k * BS + BS) := Lib.hid ⟨by rw [Nat.add_mul, Nat.one_mul], by rw [Nat.add_mul, Nat.one_mul]⟩
          obtain ⟨kM, hkM⟩ : ∃ x, k * BM = x := ⟨_, rfl⟩
          obtain ⟨kS, hkS⟩ : ∃ x, k * BS = x := ⟨_, rfl⟩
          rw [hkM, hkS] at HK1
          rw [hkM] at hk1 hm
          rw [hkS] at hk2 hs
          obtain ⟨s1, hs1⟩ : ∃ x, s + cl = x := ⟨_, rfl⟩
          have HS1 := Lib.hid hs1
          have hws : IntKind.i64.wrap ((s : Int) + (cl : Int)) = (s1 : Int) := by rw [← Int.natCast_add, hs1]; exact IntWalk.i64_in _ ⟨by omega, by omega⟩
          have hs1b : s1 ≤ k * 3518437208783 + 3518437208783 + 2 * kS := by omega
          rw [hs1] at HI0
          clear hdr hrc hrt hre htl hel hcle i2 i3 i4 i5 hkM hkS hs1
          have hsa : Hid (m ≤ 8 + 2 * kM + 0 * BM) := Lib.hid (Nat.le_trans hm (Nat.le_add_right _ _))
          have hsb : Hid (s1 ≤ k * 3518437208783 + 3518437208783 + 2 * kS + 0 * BS) := Lib.hid (Nat.le_trans hs1b (Nat.le_add_right _ _))
          have HOB : Hid (Own (wr.alloc (.cells #[.int .i64 kd, .int .i64 ts, .slice Ac cl cc, .slice At tl ct, .slice Ae el' ce] 57)) wr.heap.size 57 [.int .i64 kd, .int .i64 ts, .slice Ac cl cc, .slice At tl ct, .slice Ae el' ce]) := Lib.hid (Own.new wr _ _)
          obtain ⟨wo, rfl⟩ : ∃ wo : World, wo = wr := ⟨_, rfl⟩
          have HLT : Hid (Own ((wo.alloc (.cells #[.int .i64 kd, .int .i64 ts, .slice Ac cl cc, .slice At tl ct, .slice Ae el' ce] 57)).alloc (.cells #[.slice At tl ct, .slice Ae el' ce] 22)) (wo.heap.size + 1) 22 [.slice At tl ct, .slice Ae el' ce]) := Lib.hid (own_two wo _ 22 [.slice At tl ct, .slice Ae el' ce])
          have HBY : Hid (Below wo.heap.size wo ((wo.alloc (.cells #[.int .i64 kd, .int .i64 ts, .slice Ac cl cc, .slice At tl ct, .slice Ae el' ce] 57)).alloc (.cells #[.slice At tl ct, .slice Ae el' ce] 22))) := Lib.hid (by go_grown)
          go_wp2_with fail
          obtain ⟨Y, hY⟩ : ∃ Y, Y = (wo.alloc (.cells #[.int .i64 kd, .int .i64 ts, .slice Ac cl cc, .slice At tl ct, .slice Ae el' ce] 57)).alloc (.cells #[.slice At tl ct, .slice Ae el' ce] 22) := ⟨_, rfl⟩
          rw [← hY] at HLT HBY ⊢
          clear hY hc0 hc1 hc2 hc3 hc4 hbl hsz
          obtain ⟨g1, hg1⟩ : ∃ g, wo.heap.size + 1 = g := ⟨_, rfl⟩
          rw [hg1] at HLT
          simp only [hg1]
          clear hg1
          go_loopw [7, 8, 9, 51] (fun a b c z wr => ∃ j m2 s2 x2 : Nat, j ≤ 2 ∧ z = .int .i64 j ∧ a = .int .i64 m2 ∧ b = .int .i64 s2 ∧ c = .int .i64 x2 ∧ d ≤ x2 ∧ m2 ≤ 8 + 2 * kM + j * BM ∧ s2 ≤ k * 3518437208783 + 3518437208783 + 2 * kS + j * BS ∧ Hid (Below Y.heap.size Y wr) ∧
            Hid ((j = 0 ∧ SzI l.many l.steps (d - 1 + l.deep) m2 s2 x2 (th.many + (el.many + subM (l.drop (k + 1)))) (th.steps + (el.steps + (l.drop (k + 1)).steps)) (max (d + th.deep) (max (d + el.deep) (d - 1 + (l.drop (k + 1)).deep)))) ∨
              (j = 1 ∧ SzI l.many l.steps (d - 1 + l.deep) m2 s2 x2 (el.many + subM (l.drop (k + 1))) (el.steps + (l.drop (k + 1)).steps) (max (d + el.deep) (d - 1 + (l.drop (k + 1)).deep))) ∨
              (j = 2 ∧ SzI l.many l.steps (d - 1 + l.deep) m2 s2 x2 (subM (l.drop (k + 1))) (l.drop (k + 1)).steps (d - 1 + (l.drop (k + 1)).deep)))) (fun _ _ _ z _ => 2 - (intOf z).toNat)
          case atStart => exact ⟨0, m, s1, x, Nat.zero_le _, rfl, rfl, rfl, rfl, hdx, hsa.out, hsb.out, Lib.hid (Below.refl _ _), Lib.hid (.inl ⟨rfl, HI0.out⟩)⟩
          case round =>
            obtain ⟨j, m2, s2, x2, hj, rfl, rfl, rfl, rfl, hdx2, hm2, hs2, HBJ, HJ⟩ := hrel
            have q0 := (HLT.out.below HBJ.out HLT.out.lt).cell (j := 0) rfl
            have q1 := (HLT.out.below HBJ.out HLT.out.lt).cell (j := 1) rfl
            have HBO := Lib.hid (below_via HBY.out HBJ.out)
            obtain rfl | rfl | rfl : j = 0 ∨ j = 1 ∨ j = 2 := by omega
            · have HC : Hid (SzI l.many l.steps (d - 1 + l.deep) m2 s2 x2 (th.many + (el.many + subM (l.drop (k + 1)))) (th.steps + (el.steps + (l.drop (k + 1)).steps)) (max (d + th.deep) (max (d + el.deep) (d - 1 + (l.drop (k + 1)).deep)))) := Lib.hid (by
                rcases HJ.out with ⟨_, h⟩ | ⟨h, _⟩ | ⟨h, _⟩
                · exact h
                · omega
                · omega)
              go_wp2_with fail
              refine (HTH.out _ HBO.out).mono ?_
              rintro e w7 ⟨⟨m3, s3, x3, rfl, hsz3, hm3, hs3⟩, hb7⟩
              have HS3 : Hid (SzTo th (d + 1) m3 s3 x3) := Lib.hid (by rw [HD1.out]; exact hsz3)
              have HB7 := Lib.hid (below_via HBJ.out hb7)
              clear hsz3 hb7
              have HS0 : Hid (SzI l.many l.steps (d - 1 + l.deep) (m2 + m3) (s2 + s3) (max x2 x3) (el.many + subM (l.drop (k + 1))) (el.steps + (l.drop (k + 1)).steps) (max (d + el.deep) (d - 1 + (l.drop (k + 1)).deep))) := Lib.hid (HC.out.step HS3.out rfl rfl rfl)
              obtain ⟨m4, hm4⟩ : ∃ x, m2 + m3 = x := ⟨_, rfl⟩
              obtain ⟨s4, hs4⟩ : ∃ x, s2 + s3 = x := ⟨_, rfl⟩
              have hwm : IntKind.i64.wrap ((m2 : Int) + (m3 : Int)) = (m4 : Int) := by rw [← Int.natCast_add, hm4]; exact IntWalk.i64_in _ ⟨by omega, by omega⟩
              have hws4 : IntKind.i64.wrap ((s2 : Int) + (s3 : Int)) = (s4 : Int) := by rw [← Int.natCast_add, hs4]; exact IntWalk.i64_in _ ⟨by omega, by omega⟩
              have hm5 : m4 ≤ 8 + 2 * kM + 1 * BM := by omega
              have hs5 : s4 ≤ k * 3518437208783 + 3518437208783 + 2 * kS + 1 * BS := by omega
              rw [hm4, hs4] at HS0
              clear hm4 hs4
              by_cases hxx : x2 < x3
              · have e9 : decide (x2 < x3) = true := by simp; omega
                have e9' : decide ((x2 : Int) < (x3 : Int)) = true := by simp; omega
                have HS9 : Hid (max x2 x3 = x3) := Lib.hid (by omega)
                rw [HS9.out] at HS0
                go_wp2
                go_round
                case rel => exact ⟨1, m4, s4, x3, by omega, by go_num, rfl, rfl, rfl, by omega, hm5, hs5, HB7, Lib.hid (.inr (.inl ⟨rfl, HS0.out⟩))⟩
                case measure => first | (simp [intOf]; done) | (simp [intOf]; omega)
              · have e9 : decide (x2 < x3) = false := by simp; omega
                have e9' : decide ((x2 : Int) < (x3 : Int)) = false := by simp; omega
                have HS9 : Hid (max x2 x3 = x2) := Lib.hid (by omega)
                rw [HS9.out] at HS0
                go_wp2
                go_round
                case rel => exact ⟨1, m4, s4, x2, by omega, by go_num, rfl, rfl, rfl, hdx2, hm5, hs5, HB7, Lib.hid (.inr (.inl ⟨rfl, HS0.out⟩))⟩
                case measure => first | (simp [intOf]; done) | (simp [intOf]; omega)
            · have HC : Hid (SzI l.many l.steps (d - 1 + l.deep) m2 s2 x2 (el.many + subM (l.drop (k + 1))) (el.steps + (l.drop (k + 1)).steps) (max (d + el.deep) (d - 1 + (l.drop (k + 1)).deep))) := Lib.hid (by
                rcases HJ.out with ⟨h, _⟩ | ⟨_, h⟩ | ⟨h, _⟩
                · omega
                · exact h
                · omega)
              go_wp2_with fail
              refine (HEL.out _ HBO.out).mono ?_
              rintro e w7 ⟨⟨m3, s3, x3, rfl, hsz3, hm3, hs3⟩, hb7⟩
              have HS3 : Hid (SzTo el (d + 1) m3 s3 x3) := Lib.hid (by rw [HD1.out]; exact hsz3)
              have HB7 := Lib.hid (below_via HBJ.out hb7)
              clear hsz3 hb7
              have HS1 : Hid (SzI l.many l.steps (d - 1 + l.deep) (m2 + m3) (s2 + s3) (max x2 x3) (subM (l.drop (k + 1))) (l.drop (k + 1)).steps (d - 1 + (l.drop (k + 1)).deep)) := Lib.hid (HC.out.step HS3.out rfl rfl rfl)
              obtain ⟨m4, hm4⟩ : ∃ x, m2 + m3 = x := ⟨_, rfl⟩
              obtain ⟨s4, hs4⟩ : ∃ x, s2 + s3 = x := ⟨_, rfl⟩
              have hwm : IntKind.i64.wrap ((m2 : Int) + (m3 : Int)) = (m4 : Int) := by rw [← Int.natCast_add, hm4]; exact IntWalk.i64_in _ ⟨by omega, by omega⟩
              have hws4 : IntKind.i64.wrap ((s2 : Int) + (s3 : Int)) = (s4 : Int) := by rw [← Int.natCast_add, hs4]; exact IntWalk.i64_in _ ⟨by omega, by omega⟩
              have hm5 : m4 ≤ 8 + 2 * kM + 2 * BM := by omega
              have hs5 : s4 ≤ k * 3518437208783 + 3518437208783 + 2 * kS + 2 * BS := by omega
              rw [hm4, hs4] at HS1
              clear hm4 hs4
              by_cases hxx : x2 < x3
              · have e9 : decide (x2 < x3) = true := by simp; omega
                have e9' : decide ((x2 : Int) < (x3 : Int)) = true := by simp; omega
                have HS9 : Hid (max x2 x3 = x3) := Lib.hid (by omega)
                rw [HS9.out] at HS1
                go_wp2
                go_round
                case rel => exact ⟨2, m4, s4, x3, by omega, by go_num, rfl, rfl, rfl, by omega, hm5, hs5, HB7, Lib.hid (.inr (.inr ⟨rfl, HS1.out⟩))⟩
                case measure => first | (simp [intOf]; done) | (simp [intOf]; omega)
              · have e9 : decide (x2 < x3) = false := by simp; omega
                have e9' : decide ((x2 : Int) < (x3 : Int)) = false := by simp; omega
                have HS9 : Hid (max x2 x3 = x2) := Lib.hid (by omega)
                rw [HS9.out] at HS1
                go_wp2
                go_round
                case rel => exact ⟨2, m4, s4, x2, by omega, by go_num, rfl, rfl, rfl, hdx2, hm5, hs5, HB7, Lib.hid (.inr (.inr ⟨rfl, HS1.out⟩))⟩
                case measure => first | (simp [intOf]; done) | (simp [intOf]; omega)
            · have HI2 : Hid (SzI l.many l.steps (d - 1 + l.deep) m2 s2 x2 (subM (l.drop (k + 1))) (l.drop (k + 1)).steps (d - 1 + (l.drop (k + 1)).deep)) := Lib.hid (by
                rcases HJ.out with ⟨h, _⟩ | ⟨h, _⟩ | ⟨_, h⟩
                · omega
                · omega
                · exact h)
              have HBE := Lib.hid (below_via HB0.out HBO.out)
              go_wp2
              go_round
              case rel => exact ⟨k + 1, m2, s2, x2, by omega, by go_num, rfl, rfl, rfl, HI2, hdx2, by rw [HK1.out.1]; omega, by rw [HK1.out.2]; omega, HBE⟩
              case measure => (simp [intOf]; omega)
        · have hkl : k = len := by omega
          have HSZ : Hid (SizeTo l d f (.returned (.tuple #[.int .i64 (m : Nat), .int .i64 (s : Nat), .int .i64 (x : Nat)]))) := Lib.hid ⟨m, s, x, rfl, by
            have h := HI.out
            rw [Sh.drop_ge (by rw [HL.out]; omega)] at h
            exact SzI.done hd h hdx, by
            have h1 := Nat.mul_le_mul_right BM (show k ≤ 8 by omega)
            rw [HFM.out.1]
            omega, by
            have h1 := Nat.mul_le_mul_right BS (show k ≤ 8 by omega)
            rw [HFM.out.2]
            omega⟩
          go_wp2
          go_returns
          exact ⟨HSZ.out, HB.out⟩

theorem refSize_any (lo : Nat) : ∀ (f d : Nat), 1 ≤ d → d + f = 6 → ∀ (l : Sh) (A : Option Addr) (cap : Nat) (w : World), RdH w lo w.heap.size l A 0 → InSh l → l.len * 88 ≤ 140737488351232 →
    Calls Try.prog 20 #[.slice A l.len cap, .int .i64 (d : Nat)] w fun e w' => SizeTo l d f e ∧ Below w.heap.size w w'
  | 0, d, h1, h2, l, A, cap, w, hx, hin, hl => refSize_one lo d 0 l A _ cap w hx rfl hin hl h1 h2 fun f' h => by omega
  | f + 1, d, h1, h2, l, A, cap, w, hx, hin, hl => refSize_one lo d (f + 1) l A _ cap w hx rfl hin hl h1 h2 fun f' h l' A' cap' Z hx' hin' hl' => by
    obtain rfl : f = f' := by omega
    exact refSize_any lo f (d + 1) (by omega) (by omega) l' A' cap' Z hx' hin' hl'

set_option maxHeartbeats 8000000 in
theorem refShapeCheck_any (vars : Int) (l : Sh) (lo : Nat) (A : Option Addr) (len cap : Nat) (w : World) (hx : RdH w lo w.heap.size l A 0) (hl : l.len = len) (hin : InSh l) (hlen : len * 88 ≤ 140737488351232) :
    Calls Try.prog 8 #[.int .i64 vars, .slice A len cap] w fun e w' => e = .returned (.int .i64 (ckShape vars l)) ∧ Below w.heap.size w w' := by
  subst hl
  have HSZ := Lib.hid (refSize_any lo 5 1 (Nat.le_refl _) rfl l A cap w hx hin hlen)
  have HCL := Lib.hid (fun (Z : World) (hZ : Below w.heap.size w Z) (hf : FitSh l) => refKinds_any vars lo _ l (Nat.le_refl _) hf A cap Z (hx.up hZ))
  obtain ⟨ll, hll⟩ : ∃ x, l.len = x := ⟨_, rfl⟩
  rw [hll] at HSZ HCL ⊢
  clear hx hin hlen hll
  go_enter Try.func8, Try.ntmps8
  go_wp2_with fail
  refine HSZ.out.mono ?_
  rintro e w1 ⟨⟨m, s, x, rfl, hsz, _, _⟩, hb1⟩
  have HBG := Lib.hid hsz.big
  clear hsz
  by_cases hbad : vars < 1 ∨ 6 < vars ∨ 8 < m ∨ 20 < s ∨ 5 < x
  · have HR : Hid (ckShape vars l = 1) := Lib.hid (by
      unfold ckShape
      rw [if_pos]
      rcases hbad with h | h | h
      · exact .inl h
      · exact .inr (.inl h)
      · exact .inr (.inr (HBG.out.2 h)))
    go_wp2
    all_goals first
      | (go_ret; exact ⟨ret_int HR.out.symm, hb1⟩)
      | (exfalso; simp_all; omega)
  · have HNB : Hid (¬ bigSh l) := Lib.hid fun h => by have := HBG.out.1 h; omega
    have HFT : Hid (FitSh l) := Lib.hid (by have := HNB.out; unfold bigSh at this; exact ⟨by omega, by omega⟩)
    have v1 : 1 ≤ vars := by omega
    have v2 : vars ≤ 6 := by omega
    have v3 : m ≤ 8 := by omega
    have v4 : s ≤ 20 := by omega
    have v5 : x ≤ 5 := by omega
    have HR : Hid (ckShape vars l = ckSh vars l) := Lib.hid (by unfold ckShape; rw [if_neg fun h => (by rcases h with h | h | h; omega; omega; exact HNB.out h)])
    clear hbad
    go_wp2_with (go_at_call 21; (with_reducible refine (HCL.out _ hb1 HFT.out).mono ?_); rintro e w8 ⟨rfl, hb8⟩)
    go_ret
    exact ⟨ret_int HR.out.symm, below_via hb1 hb8⟩

end Go.Proofs.Ytniilhgcgcimgaa
