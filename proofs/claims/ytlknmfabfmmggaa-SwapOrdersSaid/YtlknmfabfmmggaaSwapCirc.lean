/-
  The reference's Circles returns how many cycles there are (N1).
-/
import Derived.Test.YtlknmfabfmmggaaSwapRef
namespace Go.Proofs.Ytlknmfabfmmggaa
open Go.RowKit
set_option linter.unusedSimpArgs false
set_option linter.unusedVariables false
set_option maxRecDepth 100000

theorem cntN_succ (n : Nat) (p : Nat → Bool) : cntN (n + 1) p = cntN n p + (if p n then 1 else 0) := rfl

theorem itF_succ (F : Nat → Nat) (k x : Nat) : itF F (k + 1) x = F (itF F k x) := rfl

theorem lsB_succ (F : Nat → Nat) (r j : Nat) : lsB F r (j + 1) = (lsB F r j && decide (r < itF F (j + 1) r)) := rfl

theorem okB_succ (n : Nat) (F : Nat → Nat) (r k : Nat) : okB n F r (k + 1) = (okB n F r k && (usF n F (itF F k r) == 1)) := rfl

set_option maxHeartbeats 16000000 in
theorem circles_any (n : Nat) (A : Option Addr) (len cap : Nat) (l : List (Nat × Nat)) (w : World) (hx : RdM w w.heap.size A (mvI l)) (hl : l.length = len) (hok : MvOk n l) :
    Calls Try.prog 8 #[.int .i64 n, .slice A len cap] w fun e w' => e = .returned (.int .i64 (nCirc n (nvF l) : Nat)) ∧ Below w.heap.size w w' := by
  have hm : len ≤ 65536 := by have := hok.short; omega
  have hn8 := hok.small
  obtain ⟨F, hF⟩ : ∃ F, nvF l = F := ⟨_, rfl⟩
  have HCL : Hid (∀ k, k < n → F k < n) := Lib.hid fun k hk => by rw [← hF]; exact nvF_lt hok.ins hk
  have HMF : Hid (∀ (r : Nat) (w1 : World), Below w.heap.size w w1 → Calls Try.prog 12 #[.slice A len cap, .int .i64 (r : Int)] w1 fun e w' => e = .returned (.int .i64 (F r : Nat)) ∧ Below w1.heap.size w1 w') := Lib.hid fun r w1 hb1 => by
    rw [← hF]
    exact moveFrom_any A len cap l r w1 ((hx.below hb1 (Nat.le_refl _)).more hb1.size) hl hm
  rw [hF]
  clear hF hok hl hx
  go_enter Try.func8, Try.ntmps8
  go_wp2
  go_loopw [5, 6] (fun m i wr => ∃ r : Nat, r ≤ n ∧ i = .int .i64 r ∧ m = .int .i64 (cntN r (circB n F) : Nat) ∧ Below w.heap.size w wr) (fun _ i _ => n - (intOf i).toNat)
  case atStart => exact ⟨0, Nat.zero_le _, rfl, rfl, Below.refl _ _⟩
  case round =>
    obtain ⟨r, hr, rfl, rfl, hb⟩ := hrel
    have hsz := hb.size
    by_cases hlt : r < n
    · obtain ⟨mc, hmc⟩ : ∃ mc, cntN r (circB n F) = mc := ⟨_, rfl⟩
      have hmn : mc ≤ r := by rw [← hmc]; exact cntN_le _ _
      have HMC : Hid (cntN (r + 1) (circB n F) = mc + (if circB n F r then 1 else 0)) := Lib.hid (by rw [cntN_succ, hmc])
      rw [hmc]
      clear hmc
      obtain ⟨w1, rfl⟩ : ∃ w1 : World, w1 = wr := ⟨_, rfl⟩
      obtain ⟨al, hal⟩ : ∃ al, ((F r : Int) != (r : Int)) = al := ⟨_, rfl⟩
      have HAL := Lib.hid hal
      go_wp2_with fail
      refine (HMF.out r _ hb).mono ?_
      rintro e w2 ⟨rfl, hb2⟩
      rw [show (F r) = itF F (0 + 1) r from rfl] at hal ⊢
      have hb12 : Below w.heap.size w w2 := hb.trans (hb2.mono hsz)
      have hsz2 := hb12.size
      obtain ⟨z0, hz0⟩ : ∃ z0, itF F (0 + 1) r = z0 := ⟨_, rfl⟩
      rw [hz0] at hal ⊢
      have HZ0 := Lib.hid hz0
      clear hz0
      go_wp2
      clear hal
      go_loopw [7, 8, 10] (fun t s i wr => ∃ j : Nat, j ≤ n ∧ i = .int .i64 j ∧ t = .int .i64 (itF F (j + 1) r : Nat) ∧ s = .bool (lsB F r j) ∧ Hid (∀ i, i < j → itF F (i + 1) r ≠ r) ∧ Below w.heap.size w wr) (fun _ _ i _ => n - (intOf i).toNat)
      case atStart => exact ⟨0, Nat.zero_le _, rfl, by rw [HZ0.out], rfl, Lib.hid fun i h => by omega, hb12⟩
      case round =>
        obtain ⟨j, hj, rfl, rfl, rfl, HN, hb3⟩ := hrel
        have hsz3 := hb3.size
        obtain ⟨z, hz⟩ : ∃ z, itF F (j + 1) r = z := ⟨_, rfl⟩
        obtain ⟨ls, hls⟩ : ∃ ls, lsB F r j = ls := ⟨_, rfl⟩
        have HZ := Lib.hid hz
        have HLS := Lib.hid hls
        rw [hz, hls]
        clear hz hls
        by_cases hzr : z = r
        · have HZR := Lib.hid hzr
          have HJN : Hid (j < n) := Lib.hid (by
            rcases Nat.lt_or_ge j n with h | h
            · exact h
            · obtain ⟨p, hp, hpy⟩ := per_le (itF_in HCL.out hlt) (HZ.out.trans HZR.out)
              exact absurd hpy (HN.out p (by omega)))
          have hjn := HJN.out
          have hbz : ((z : Int) != (r : Int)) = false := by simp [hzr]
          clear hzr
          have HBACK : Hid (itF F (j + 1) r = r) := Lib.hid (HZ.out.trans HZR.out)
          cases ls
          · have HNO : Hid (circB n F r = false) := Lib.hid (circ_not HCL.out hlt HN.out (.inr HBACK.out) (.inr (.inl HLS.out)))
            go_wp2
            go_round
            case rel => exact ⟨r + 1, by omega, by go_num, by rw [HMC.out, HNO.out]; rfl, hb3⟩
            case measure => (simp [intOf]; omega)
          · cases al
            · have HNO : Hid (circB n F r = false) := Lib.hid (circ_not HCL.out hlt HN.out (.inr HBACK.out) (.inr (.inr (by have h := HAL.out; simp at h; omega))))
              go_wp2
              go_round
              case rel => exact ⟨r + 1, by omega, by go_num, by rw [HMC.out, HNO.out]; rfl, hb3⟩
              case measure => (simp [intOf]; omega)
            · have HYES : Hid (circB n F r = okB n F r n) := Lib.hid (circ_yes HCL.out hlt HN.out HBACK.out HLS.out (by have h := HAL.out; simp at h; omega))
              clear HBACK HLS HAL HN
              go_wp2
              go_loopw [11, 7, 12] (fun o t i wr => ∃ k : Nat, k ≤ n ∧ i = .int .i64 k ∧ t = .int .i64 (itF F k r : Nat) ∧ o = .bool (okB n F r k) ∧ Below w.heap.size w wr) (fun _ _ i _ => n - (intOf i).toNat)
              case atStart => exact ⟨0, Nat.zero_le _, rfl, rfl, rfl, hb3⟩
              case round =>
                obtain ⟨k, hk, rfl, rfl, rfl, hb5⟩ := hrel
                have hsz5 := hb5.size
                obtain ⟨y, hy⟩ : ∃ y, itF F k r = y := ⟨_, rfl⟩
                obtain ⟨ok, hoo⟩ : ∃ ok, okB n F r k = ok := ⟨_, rfl⟩
                have HY := Lib.hid hy
                have HOO := Lib.hid hoo
                rw [hy, hoo]
                clear hy hoo
                by_cases hkn : k < n
                · have HIT : Hid (itF F (k + 1) r = F y) := Lib.hid (by rw [itF_succ, HY.out])
                  have HO2 : Hid (okB n F r (k + 1) = (ok && (usF n F y == 1))) := Lib.hid (by rw [okB_succ, HOO.out, HY.out])
                  obtain ⟨w5, rfl⟩ : ∃ w5 : World, w5 = wr := ⟨_, rfl⟩
                  go_wp2
                  go_loopw [13, 14] (fun u i wr => ∃ s : Nat, s ≤ n ∧ i = .int .i64 s ∧ u = .int .i64 (cntN s (fun t => F t == y) : Nat) ∧ Below w.heap.size w wr) (fun _ i _ => n - (intOf i).toNat)
                  case atStart => exact ⟨0, Nat.zero_le _, rfl, rfl, hb5⟩
                  case round =>
                    obtain ⟨s, hs, rfl, rfl, hb6⟩ := hrel
                    have hsz6 := hb6.size
                    obtain ⟨us, hus⟩ : ∃ us, cntN s (fun t => F t == y) = us := ⟨_, rfl⟩
                    have husn : us ≤ s := by rw [← hus]; exact cntN_le _ _
                    have HUS := Lib.hid hus
                    have HUN : Hid (cntN (s + 1) (fun t => F t == y) = us + (if F s == y then 1 else 0)) := Lib.hid (by rw [cntN_succ, hus])
                    rw [hus]
                    clear hus
                    by_cases hsn : s < n
                    · obtain ⟨w6, rfl⟩ : ∃ w6 : World, w6 = wr := ⟨_, rfl⟩
                      obtain ⟨fs, hfs⟩ : ∃ fs, F s = fs := ⟨_, rfl⟩
                      rw [hfs] at HUN
                      have HFS := Lib.hid hfs
                      clear hfs
                      go_wp2_with fail
                      refine (HMF.out s _ hb6).mono ?_
                      rintro e w7 ⟨rfl, hb7⟩
                      rw [HFS.out]
                      by_cases he : fs = y
                      · have hbe : ((fs : Int) == (y : Int)) = true := by simp [he]
                        have HE : Hid (cntN (s + 1) (fun t => F t == y) = us + 1) := Lib.hid (by rw [HUN.out, he]; simp)
                        clear he
                        go_wp2
                        go_round
                        case rel => exact ⟨s + 1, by omega, by go_num, by rw [HE.out]; go_num, hb6.trans (hb7.mono hsz6)⟩
                        case measure => (simp [intOf]; omega)
                      · have hbe : ((fs : Int) == (y : Int)) = false := by simp; omega
                        have HE : Hid (cntN (s + 1) (fun t => F t == y) = us) := Lib.hid (by rw [HUN.out, beq_no he]; rfl)
                        clear he
                        go_wp2
                        go_round
                        case rel => exact ⟨s + 1, by omega, by go_num, by rw [HE.out], hb6.trans (hb7.mono hsz6)⟩
                        case measure => (simp [intOf]; omega)
                    · have hsn2 : s = n := by omega
                      have HUF : Hid (usF n F y = us) := Lib.hid (by unfold usF; rw [← hsn2]; exact HUS.out)
                      obtain ⟨u1, hu1⟩ : ∃ u1, (usF n F y == 1) = u1 := ⟨_, rfl⟩
                      rw [hu1] at HO2
                      rw [HUF.out] at hu1
                      have hu2 : ((us : Int) == 1) = u1 := by rw [← hu1]; rw [Bool.eq_iff_iff]; simp; omega
                      have HU1 := Lib.hid hu1
                      clear hu1
                      subst hsn2
                      obtain ⟨w6, rfl⟩ : ∃ w6 : World, w6 = wr := ⟨_, rfl⟩
                      cases ok
                      all_goals (
                        go_wp2_with fail
                        refine (HMF.out y _ hb6).mono ?_
                        rintro e w7 ⟨rfl, hb7⟩
                        go_wp2
                        go_round
                        case rel => exact ⟨k + 1, by omega, by go_num, by rw [HIT.out], by rw [HO2.out]; first | (simp; done) | (simp [hu2]; done) | (simp; exact hu2), hb6.trans (hb7.mono hsz6)⟩
                        case measure => (simp [intOf]; omega))
                · have hkn2 : k = n := by omega
                  subst hkn2
                  have HYS : Hid (circB k F r = ok) := Lib.hid (by rw [HYES.out, HOO.out])
                  cases ok
                  · go_wp2
                    go_round
                    case rel => exact ⟨r + 1, by omega, by go_num, by rw [HMC.out, HYS.out]; rfl, hb5⟩
                    case measure => (simp [intOf]; omega)
                  · go_wp2
                    go_round
                    case rel => exact ⟨r + 1, by omega, by go_num, by rw [HMC.out, HYS.out]; go_num, hb5⟩
                    case measure => (simp [intOf]; omega)
        · have HZR := Lib.hid hzr
          have hbz : ((z : Int) != (r : Int)) = true := by simp; omega
          clear hzr
          by_cases hjn : j < n
          · have HLS2 : Hid (lsB F r (j + 1) = (ls && decide (r < z))) := Lib.hid (by rw [lsB_succ, HLS.out, HZ.out])
            have HIT : Hid (itF F (j + 1 + 1) r = F z) := Lib.hid (by rw [itF_succ, HZ.out])
            have HN2 : Hid (∀ i, i < j + 1 → itF F (i + 1) r ≠ r) := Lib.hid fun i hi => by
              rcases Nat.lt_or_ge i j with h | h
              · exact HN.out i h
              · have : i = j := by omega
                subst this
                rw [HZ.out]
                exact HZR.out
            obtain ⟨gt, hgt⟩ : ∃ gt, decide (r < z) = gt := ⟨_, rfl⟩
            have hgt2 : decide ((r : Int) < (z : Int)) = gt := by rw [← hgt]; simp
            rw [hgt] at HLS2
            have HGT := Lib.hid hgt
            clear hgt
            cases ls
            all_goals (
              go_wp2_with fail
              refine (HMF.out z _ hb3).mono ?_
              rintro e w4 ⟨rfl, hb4⟩
              go_wp2
              go_round
              case rel => exact ⟨j + 1, by omega, by go_num, by rw [HIT.out], by rw [HLS2.out]; first | (simp; done) | (simp; exact HGT.out), HN2, hb3.trans (hb4.mono hsz3)⟩
              case measure => (simp [intOf]; omega))
          · have hjn2 : j = n := by omega
            have HJ := Lib.hid hjn2
            have HNO : Hid (circB n F r = false) := Lib.hid (circ_not HCL.out hlt HN.out (.inl HJ.out) (.inl (by rw [HZ.out]; exact HZR.out)))
            subst hjn2
            go_wp2
            go_round
            case rel => exact ⟨r + 1, by omega, by go_num, by rw [HMC.out, HNO.out]; rfl, hb3⟩
            case measure => (simp [intOf]; omega)
    · have hk2 : r = n := by omega
      subst hk2
      go_wp2
      go_ret
      exact ⟨rfl, hb⟩

end Go.Proofs.Ytlknmfabfmmggaa
