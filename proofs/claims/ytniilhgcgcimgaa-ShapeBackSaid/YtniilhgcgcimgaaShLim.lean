/-
  (*shape.size).exceedsLimits (U1): too many, too deep?
-/
import Derived.Test.YtniilhgcgcimgaaShMem
import Derived.Test.YtniilhgcgcimgaaShOpen
import Derived.Test.YtniilhgcgcimgaaPureShapeZ
import Derived.Test.YtniilhgcgcimgaaOnly
import Derived.IntWalk
namespace Go.Proofs.Ytniilhgcgcimgaa
open Go.RowKit
set_option linter.unusedSimpArgs false
set_option linter.unusedVariables false
set_option maxRecDepth 100000

theorem InSh.drop : ∀ {l : Sh} (h : InSh l) (k : Nat), InSh (l.drop k)
  | l, h, 0 => by rw [Sh.drop_zero]; exact h
  | .nil, h, k + 1 => h
  | .cons _ _ _ _ _ r, h, k + 1 => InSh.drop h.2.2.2.2.2 k

/-- a world in which box g alone may have changed, as the walk needs it -/
theorem RdH.only {w w' : World} {lo B g : Nat} {l : Sh} {A : Option Addr} (h : RdH w lo B l A 0) (ho : Only g w w') (hB : B ≤ g) (hs : B ≤ w.heap.size) : RdH w' lo B l A 0 := RdH.below (ho.below hB hs) (Nat.le_refl _) h

/-- what exceedsLimits answers -/
def LimTo (l : Sh) (d st sp g : Nat) (w : World) (e : Ending) (w' : World) : Prop := ∃ (b : Bool) (st' sp' : Nat), e = .returned (.bool b) ∧ ExTo l d st sp b st' sp' ∧ Own w' g 47 [.int .i64 (st' : Nat), .int .i64 (sp' : Nat)] ∧ Only g w w'

/-- the region that counts the steps -/
def LiS (Y : World) (g : Nat) (v : Int) (x : Nat × Unit) (w : World) : Prop := (x.1 = 0 → Below Y.heap.size Y w) ∧ (1 ≤ x.1 → ∃ w5, Below Y.heap.size Y w5 ∧ w = w5.setCell ⟨g, 1, none⟩ (.int .i64 v))

set_option maxHeartbeats 16000000 in
theorem exceeds_one (B lo g d st sp : Nat) (l : Sh) (A : Option Addr) (len cap : Nat) (w : World) (hx : RdH w lo B l A 0) (hB : B ≤ g) (hg : Own w g 47 [.int .i64 (st : Nat), .int .i64 (sp : Nat)]) (hl : l.len = len) (hin : InSh l) (hlen : len * 88 ≤ 140737488351232)
    (hd : 1 ≤ d) (hd6 : d ≤ 6) (hst : st ≤ 8) (hsp : sp ≤ 28147497670240 * (d - 1))
    (hih : d ≤ 5 → ∀ (l' : Sh) (A' : Option Addr) (cap' st' sp' : Nat) (Z : World), RdH Z lo B l' A' 0 → Own Z g 47 [.int .i64 (st' : Nat), .int .i64 (sp' : Nat)] → InSh l' → l'.len * 88 ≤ 140737488351232 → st' ≤ 8 → sp' ≤ 28147497670240 * d →
      Calls Try.prog 18 #[.pointer (some ⟨g, 0, none⟩), .slice A' l'.len cap', .int .i64 ((d + 1 : Nat) : Int)] Z (LimTo l' (d + 1) st' sp' g Z)) :
    Calls Try.prog 18 #[.pointer (some ⟨g, 0, none⟩), .slice A len cap, .int .i64 (d : Nat)] w (LimTo l d st sp g w) := by
  have HL := Lib.hid hl
  have HX := Lib.hid hx
  have HIH := Lib.hid hih
  have HIN := Lib.hid hin
  have HG := Lib.hid hg
  have hgl := hg.lt
  have c0 := hg.cell (j := 0) rfl
  have c1 := hg.cell (j := 1) rfl
  have f0 := hg.frozen 0
  have f1 := hg.frozen 1
  by_cases hz : len = 0
  · subst hz
    have HNIL : Hid (l = .nil) := Lib.hid (by cases l with | nil => rfl | cons => simp [Sh.len] at hl)
    clear hl hx hih hin
    go_enter Try.func18, Try.ntmps18
    go_wp2
    go_ret
    refine ⟨false, st, sp, rfl, ?_, HG.out, Only.refl _ _⟩
    rw [HNIL.out]
    exact ⟨fun h => (by cases h), fun _ => ⟨by simp [Sh.many], hst, by simp [Sh.steps], .inl rfl⟩⟩
  · have HNN : Hid (l ≠ .nil) := Lib.hid (Sh.len_pos (by omega))
    have hze : ((len : Nat) == 0) = false := by simp [hz]
    have hze' : ((len : Int) == 0) = false := by simp [hz]
    have HG1 : Hid (Own (w.setCell ⟨g, 0, none⟩ (.int .i64 ((st + len : Nat) : Int))) g 47 [.int .i64 ((st + len : Nat) : Int), .int .i64 (sp : Nat)]) := Lib.hid (hg.set 0 _)
    have HO1 : Hid (Only g w (w.setCell ⟨g, 0, none⟩ (.int .i64 ((st + len : Nat) : Int)))) := Lib.hid ((Only.refl g w).set 0 _)
    have hwl : IntKind.i64.wrap ((st : Int) + (len : Int)) = ((st + len : Nat) : Int) := by rw [← Int.natCast_add]; exact IntWalk.i64_in _ ⟨by omega, by omega⟩
    clear hl hx hih hin hg
    by_cases hbig : 8 < st + len ∨ 5 < d
    · have HEX : Hid (∀ a b, ExTo l d st sp true a b) := Lib.hid fun a b => ExTo.much hd HNN.out (by rw [HL.out]; exact hbig)
      obtain ⟨S, hS⟩ : ∃ S, st + len = S := ⟨_, rfl⟩
      rw [hS] at HG1 HO1 hwl hbig
      clear hS
      rcases Nat.lt_or_ge 8 S with h8 | h8
      · have e8 : decide (8 < S) = true := by simp; omega
        clear hbig
        go_enter Try.func18, Try.ntmps18
        go_wp2
        go_ret
        exact ⟨true, S, sp, rfl, HEX.out _ _, HG1.out, HO1.out⟩
      · have e8 : decide (8 < S) = false := by simp; omega
        have e5 : decide (5 < d) = true := by simp; omega
        have e5' : decide ((5 : Int) < (d : Int)) = true := by simp; omega
        have e8' : decide ((8 : Int) < (S : Int)) = false := by simp; omega
        clear hbig
        go_enter Try.func18, Try.ntmps18
        go_wp2
        go_ret
        exact ⟨true, S, sp, rfl, HEX.out _ _, HG1.out, HO1.out⟩
    · have HXI : Hid (ExI l d st sp 0 (st + len) sp) := Lib.hid (by rw [← HL.out]; exact ExI.start (by rw [HL.out]; omega) (by omega))
      have hl8 : len ≤ 8 := by omega
      have hd5 : d ≤ 5 := by omega
      have HH := Lib.hid (HIH.out hd5)
      obtain ⟨S, hS⟩ : ∃ S, st + len = S := ⟨_, rfl⟩
      rw [hS] at HG1 HO1 hwl hbig HXI
      have e8 : decide (8 < S) = false := by simp; omega
      have e5 : decide (5 < d) = false := by simp; omega
      have e5' : decide ((5 : Int) < (d : Int)) = false := by simp; omega
      have e8' : decide ((8 : Int) < (S : Int)) = false := by simp; omega
      obtain ⟨d1, hd1⟩ : ∃ d1, d + 1 = d1 := ⟨_, rfl⟩
      have HD1 := Lib.hid hd1
      rw [hd1] at HH
      have hdd : (d : Int) + 1 = (d1 : Int) := by omega
      have hwd : IntKind.i64.wrap (d1 : Int) = (d1 : Int) := IntWalk.i64_in _ ⟨by omega, by omega⟩
      clear hd1
      obtain ⟨P, hP⟩ : ∃ P, 28147497670240 * (d - 1) = P := ⟨_, rfl⟩
      have hPd : 28147497670240 * d = P + 28147497670240 := by omega
      have hP5 : P ≤ 112589990680960 := by omega
      rw [hP] at hsp
      clear hS hbig hP hst
      go_enter Try.func18, Try.ntmps18
      go_wp2
      clear c0 c1 f0 f1
      go_loopw [32] (fun z wr => ∃ k s1 p1 : Nat, k ≤ len ∧ z = .int .i64 k ∧ Hid (ExI l d st sp k s1 p1) ∧ p1 ≤ P + k * 3518437208780 ∧ Hid (Own wr g 47 [.int .i64 (s1 : Nat), .int .i64 (p1 : Nat)]) ∧ Hid (Only g w wr)) (fun z _ => len - (intOf z).toNat)
      case atStart => exact ⟨0, S, sp, Nat.zero_le _, rfl, HXI, by omega, HG1, HO1⟩
      case round =>
        obtain ⟨k, s1, p1, hk, rfl, HI, hp1, HGK, HOK⟩ := hrel
        have hgk := HGK.out.lt
        have hsz := HOK.out.size
        by_cases hlt : k < len
        · obtain ⟨ad, kd, ts, cd, th, el, Ac, At, Ae, cc, ct, ce, rfl, hbl, hdr, hc0, hc1, hc2, hc3, hc4, hrc, hrt, hre⟩ := (HX.out.only HOK.out hB (by omega)).at_ (k := k) (by rw [HL.out]; exact hlt)
          have hin := HIN.out.drop k
          rw [hdr] at hin
          obtain ⟨i1, i2, i3, i4, i5, _⟩ := hin
          have HDR := Lib.hid hdr
          obtain ⟨tl, htl⟩ : ∃ x, th.len = x := ⟨_, rfl⟩
          obtain ⟨el', hel⟩ : ∃ x, el.len = x := ⟨_, rfl⟩
          obtain ⟨cl, hcle⟩ : ∃ x, cd.length = x := ⟨_, rfl⟩
          have HCL := Lib.hid hcle
          have HTH := Lib.hid (fun (Z : World) (hZ : Only g wr Z) (st' sp' : Nat) h1 h2 h3 => HH.out th At ct st' sp' Z (hrt.only hZ hB (by omega)) h1 i4 i2 h2 h3)
          have HEL := Lib.hid (fun (Z : World) (hZ : Only g wr Z) (st' sp' : Nat) h1 h2 h3 => HH.out el Ae ce st' sp' Z (hre.only hZ hB (by omega)) h1 i5 i3 h2 h3)
          rw [htl] at HTH hc3
          rw [hel] at HEL hc4
          rw [hcle] at hc2 i1
          have hs8 := HI.out.le
          have hblr : (ad.add (k * 5)).block < wr.heap.size := by omega
          clear hdr hrc hrt hre htl hel hcle i2 i3 i4 i5
          have HOB : Hid (Own (wr.alloc (.cells #[.int .i64 kd, .int .i64 ts, .slice Ac cl cc, .slice At tl ct, .slice Ae el' ce] 57)) wr.heap.size 57 [.int .i64 kd, .int .i64 ts, .slice Ac cl cc, .slice At tl ct, .slice Ae el' ce]) := Lib.hid (Own.new wr _ _)
          have HBX : Hid (Below wr.heap.size wr (wr.alloc (.cells #[.int .i64 kd, .int .i64 ts, .slice Ac cl cc, .slice At tl ct, .slice Ae el' ce] 57))) := Lib.hid (by go_grown)
          obtain ⟨wo, rfl⟩ : ∃ wo : World, wo = wr := ⟨_, rfl⟩
          go_upto_region 9 with fail
          obtain ⟨Y, hY⟩ : ∃ Y, Y = wo.alloc (.cells #[.int .i64 kd, .int .i64 ts, .slice Ac cl cc, .slice At tl ct, .slice Ae el' ce] 57) := ⟨_, rfl⟩
          rw [← hY] at HOB HBX ⊢
          clear hY hc0 hc1 hc2 hc3 hc4 hbl hblr
          obtain ⟨g0, hg0⟩ : ∃ g, wo.heap.size = g := ⟨_, rfl⟩
          rw [hg0] at HOB
          have HG0 := Lib.hid hg0
          simp only [hg0]
          clear hg0 hsz
          have HGY := Lib.hid (HGK.out.below HBX.out hgk)
          have hgy := HGY.out.lt
          have y1 := HGY.out.cell (j := 1) rfl
          have y2 := HOB.out.cell (j := 2) rfl
          have hyl := HOB.out.lt
          have hwp : IntKind.i64.wrap ((p1 : Int) + (cl : Int)) = ((p1 + cl : Nat) : Int) := by rw [← Int.natCast_add]; exact IntWalk.i64_in _ ⟨by omega, by omega⟩
          obtain ⟨q1, hq1⟩ : ∃ q, p1 + cl = q := ⟨_, rfl⟩
          have HQ1 := Lib.hid hq1
          rw [hq1] at hwp
          clear hq1
          refine wp_region_steps (X := Nat × (Unit)) (LiS Y g (q1 : Nat)) (fun x j => doneL [0, 0, 0, 0, 0, 0, 0, 0, 0, 0, 1] x.1 j) (effL [0, 0, 0, 0, 0, 0, 0, 0, 0, 0, 1]) (0, ()) (fun x => [.pointer (some ⟨g, 0, none⟩), .pointer (some ⟨g, 0, none⟩), .pointer (some ⟨g, 1, none⟩), .int .i64 (p1 : Nat), .pointer (some ⟨g0, 2, none⟩), .slice Ac cl cc, .int .i64 (cl : Nat), .int .i64 (q1 : Nat), .pointer (some ⟨g, 0, none⟩), .pointer (some ⟨g, 1, none⟩), undef]) _ (by kernel_rfl) (by kernel_rfl) (by kernel_rfl) (fun x => by simp only [putsD, Act.put, List.setIfInBounds_toArray, List.set_cons_zero, List.set_cons_succ]; exact rfl) h0L ⟨fun _ => Below.drew (Below.refl _ _), fun h => absurd h (by show ¬ 1 ≤ 0; omega)⟩ (fun x => ?_) (fun x wz hDz hSz => ?_)
          · refine AllS.val (by rfl) (by rfl) (fun w hSw hPw => by go_simp) ?_
            refine AllS.val (by rfl) (by rfl) (fun w hSw hPw => by go_simp) ?_
            refine AllS.val (by rfl) (by rfl) (fun w hSw hPw => by go_simp) ?_
            refine AllS.val (by rfl) (by rfl) (fun w hSw hPw => ?_) ?_
            · (try dsimp only at hSw)
              have hq := hSw.1 (Nat.le_zero.1 (leH (hPw.not (j := 10) rfl (by kernel_rfl))))
              have c1 := (hq.cell (p := ⟨g, 1, none⟩) hgy).trans y1
              go_simp
            refine AllS.val (by rfl) (by rfl) (fun w hSw hPw => by go_simp) ?_
            refine AllS.val (by rfl) (by rfl) (fun w hSw hPw => ?_) ?_
            · (try dsimp only at hSw)
              have hq := hSw.1 (Nat.le_zero.1 (leH (hPw.not (j := 10) rfl (by kernel_rfl))))
              have c1 := (hq.cell (p := ⟨g0, 2, none⟩) hyl).trans y2
              go_simp
            refine AllS.val (by rfl) (by rfl) (fun w hSw hPw => by go_simp) ?_
            refine AllS.val (by rfl) (by rfl) (fun w hSw hPw => by go_simp) ?_
            refine AllS.val (by rfl) (by rfl) (fun w hSw hPw => by go_simp) ?_
            refine AllS.val (by rfl) (by rfl) (fun w hSw hPw => by go_simp) ?_
            refine AllS.turn (fun _ _ => rfl) (by rfl) (fun w hSw hPw K hK => ?_) ?_
            · (try dsimp only at hSw)
              have h0 := leH (hPw.me rfl)
              have hx0 : x.1 = 0 := by exact Nat.le_zero.1 h0
              obtain ⟨p, y⟩ := x
              (try dsimp only at hx0)
              subst hx0
              have hq := hSw.1 rfl
              have hO5 := HGY.out.below hq hgy
              have u1 := hO5.cell (j := 1) rfl
              have v1 := hO5.frozen 1
              go_simp
              exact hK (1, y) _ (nxtL rfl (by decide)) ⟨fun h => absurd h (by show ¬ 1 = 0; omega), fun _ => ⟨_, hq, rfl⟩⟩
            exact AllS.nil
          obtain ⟨w5, hq5, rfl⟩ := hSz.2 (geH (hDz 10 (by decide) (by decide)))
          have HG5 : Hid (Own (w5.setCell ⟨g, 1, none⟩ (.int .i64 (q1 : Nat))) g 47 [.int .i64 (s1 : Nat), .int .i64 (q1 : Nat)]) := Lib.hid ((HGY.out.below hq5 hgy).set 1 _)
          have HOY : Hid (Only g wo (w5.setCell ⟨g, 1, none⟩ (.int .i64 (q1 : Nat)))) := Lib.hid (((Only.of_below g HBX.out).via hq5).set 1 _)
          have HOX : Hid (Own (w5.setCell ⟨g, 1, none⟩ (.int .i64 (q1 : Nat))) g0 57 [.int .i64 kd, .int .i64 ts, .slice Ac cl cc, .slice At tl ct, .slice Ae el' ce]) := Lib.hid (((Only.refl g w5).set 1 _).own (HOB.out.below hq5 hyl) (by have := HG0.out; omega))
          obtain ⟨Z, hZ⟩ : ∃ Z, Z = w5.setCell ⟨g, 1, none⟩ (.int .i64 (q1 : Nat)) := ⟨_, rfl⟩
          rw [← hZ] at HG5 HOY HOX ⊢
          clear hZ hSz hDz hq5 y1 y2 hgy hyl
          have d3 := HOX.out.cell (j := 3) rfl
          have d4 := HOX.out.cell (j := 4) rfl
          have HP1 : Hid (q1 ≤ 28147497670240 * d ∧ p1 + cl = q1) := Lib.hid ⟨by have := HQ1.out; omega, HQ1.out⟩
          go_wp2_with fail
          refine (HTH.out _ HOY.out s1 q1 HG5.out hs8 HP1.out.1).mono ?_
          rintro e w7 ⟨b1, s2, q2, rfl, hx1, ho1, hk1⟩
          have HX1 : Hid (ExTo th (d + 1) s1 (p1 + cd.length) b1 s2 q2) := Lib.hid (by rw [HCL.out, HP1.out.2, HD1.out]; exact hx1)
          have HG7 := Lib.hid ho1
          have HO7 := Lib.hid (HOY.out.trans hk1)
          have HOX7 := Lib.hid (hk1.own HOX.out (by have := HG0.out; omega))
          have d4 := HOX7.out.cell (j := 4) rfl
          clear hx1 ho1 hk1 d3
          cases b1 with
          | true =>
            have HEX := Lib.hid (fun a b => (HI.out.bad1 hd HDR.out HX1.out : ExTo l d st sp true a b))
            go_wp2
            go_ret
            exact ⟨true, s2, q2, rfl, HEX.out _ _, HG7.out, HOK.out.trans HO7.out⟩
          | false =>
            obtain ⟨h1, h2, h3, h4⟩ := HX1.out.2 rfl
            have HQ2 : Hid (s2 ≤ 8 ∧ q2 ≤ P + (k + 1) * 3518437208780) := Lib.hid ⟨h2, by
              have := HP1.out.2
              have := HCL.out
              rcases h4 with rfl | ⟨_, h4⟩
              · simp [Sh.steps] at h3; omega
              · omega⟩
            clear h1 h2 h3 h4
            go_wp2_with fail
            refine (HEL.out _ HO7.out s2 q2 HG7.out HQ2.out.1 (by have := HQ2.out; omega)).mono ?_
            rintro e w8 ⟨b2, s3, q3, rfl, hx2, ho2, hk2⟩
            have HX2 : Hid (ExTo el (d + 1) s2 q2 b2 s3 q3) := Lib.hid (by rw [HD1.out]; exact hx2)
            have HG8 := Lib.hid ho2
            have HO8 := Lib.hid (HOK.out.trans (HO7.out.trans hk2))
            clear hx2 ho2 hk2 d4
            cases b2 with
            | true =>
              have HEX := Lib.hid (fun a b => (HI.out.bad2 hd HDR.out HX1.out HX2.out : ExTo l d st sp true a b))
              go_wp2
              go_ret
              exact ⟨true, s3, q3, rfl, HEX.out _ _, HG8.out, HO8.out⟩
            | false =>
              have HQ3 : Hid (q3 ≤ P + (k + 1) * 3518437208780) := Lib.hid (by
                obtain ⟨h1, h2, h3, h4⟩ := HX2.out.2 rfl
                have := HQ2.out
                rcases h4 with rfl | ⟨_, h4⟩
                · simp [Sh.steps] at h3; omega
                · omega)
              have HI2 := Lib.hid (HI.out.step hd HDR.out HX1.out HX2.out)
              go_wp2
              go_round
              case rel => exact ⟨k + 1, s3, q3, by omega, by go_num, HI2, HQ3.out, HG8, HO8⟩
              case measure => (simp [intOf]; omega)
        · have hkl : k = len := by omega
          have HE := Lib.hid (ExI.done (by rw [hkl, ← HL.out] at HI; exact HI.out))
          have y1 := HGK.out.cell (j := 1) rfl
          go_wp2
          go_ret
          exact ⟨decide (20 < p1), s1, p1, ret_bool (by simp; omega), HE.out, HGK.out, HOK.out⟩

theorem exceeds_any (B lo g : Nat) (hB : B ≤ g) : ∀ (f d : Nat), d + f = 6 → 1 ≤ d → ∀ (l : Sh) (A : Option Addr) (cap st sp : Nat) (w : World), RdH w lo B l A 0 → Own w g 47 [.int .i64 (st : Nat), .int .i64 (sp : Nat)] → InSh l → l.len * 88 ≤ 140737488351232 → st ≤ 8 → sp ≤ 28147497670240 * (d - 1) →
    Calls Try.prog 18 #[.pointer (some ⟨g, 0, none⟩), .slice A l.len cap, .int .i64 (d : Nat)] w (LimTo l d st sp g w)
  | 0, d, hd, h1, l, A, cap, st, sp, w, hx, hg, hin, hl, hst, hsp => exceeds_one B lo g d st sp l A _ cap w hx hB hg rfl hin hl h1 (by omega) hst hsp fun h => by omega
  | f + 1, d, hd, h1, l, A, cap, st, sp, w, hx, hg, hin, hl, hst, hsp => exceeds_one B lo g d st sp l A _ cap w hx hB hg rfl hin hl h1 (by omega) hst hsp fun h l' A' cap' st' sp' Z hx' hg' hin' hl' hst' hsp' =>
    exceeds_any B lo g hB f (d + 1) (by omega) (by omega) l' A' cap' st' sp' Z hx' hg' hin' hl' hst' (by rw [Nat.add_sub_cancel]; exact hsp')

end Go.Proofs.Ytniilhgcgcimgaa
