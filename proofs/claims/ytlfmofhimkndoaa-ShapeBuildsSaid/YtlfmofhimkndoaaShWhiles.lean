/-
  codemasonref.Whiles (U2): how many shapes go round.
-/
import Derived.Test.YtlfmofhimkndoaaShKinds
import Derived.IntWalk
namespace Go.Proofs.Ytlfmofhimkndoaa
open Go.RowKit
set_option linter.unusedSimpArgs false
set_option linter.unusedVariables false
set_option maxRecDepth 100000

theorem whSh_many : ∀ l : Sh, whSh l ≤ l.many
  | .nil => Nat.le_refl _
  | .cons kd _ _ th el r => by
    have h1 := whSh_many th
    have h2 := whSh_many el
    have h3 := whSh_many r
    simp only [whSh, Sh.many]
    split <;> omega

/-- the region that adds, value by value -/
def WhS (X : World) (m0 m1 : Int) (x : Nat × Value) (w : World) : Prop := Below X.heap.size X w ∧ (x.1 ≤ 2 → x.2 = .int .i64 m0) ∧ (3 ≤ x.1 → x.2 = .int .i64 m1)

set_option maxHeartbeats 16000000 in
theorem refWhiles_one (l : Sh) (lo : Nat) (A : Option Addr) (len cap : Nat) (w : World) (hx : RdH w lo w.heap.size l A 0) (hl : l.len = len) (hf : FitSh l)
    (hih : ∀ l' : Sh, l'.many < l.many → FitSh l' → ∀ (A' : Option Addr) (cap' : Nat) (Z : World), RdH Z lo Z.heap.size l' A' 0 → Calls Try.prog 14 #[.slice A' l'.len cap'] Z fun e w' => e = .returned (.int .i64 (whSh l' : Nat)) ∧ Below Z.heap.size Z w') :
    Calls Try.prog 14 #[.slice A len cap] w fun e w' => e = .returned (.int .i64 (whSh l : Nat)) ∧ Below w.heap.size w w' := by
  have HL := Lib.hid hl
  have HF := Lib.hid hf
  have HIH := Lib.hid hih
  have HX := Lib.hid hx
  have hlen : len ≤ 1000 := by rw [← hl]; exact hf.len
  have HWM := Lib.hid (Nat.le_trans (whSh_many l) hf.1)
  clear hl hf hih hx
  go_enter Try.func14, Try.ntmps14
  go_wp2
  go_loopw [3, 8] (fun s z wr => ∃ k m : Nat, k ≤ len ∧ z = .int .i64 k ∧ s = .int .i64 m ∧ Hid (whSh l = m + whSh (l.drop k)) ∧ Below w.heap.size w wr) (fun _ z _ => len - (intOf z).toNat)
  case atStart => exact ⟨0, 0, Nat.zero_le _, rfl, rfl, Lib.hid (by rw [Sh.drop_zero]; omega), Below.refl _ _⟩
  case round =>
    obtain ⟨k, m, hk, rfl, rfl, HR, hb⟩ := hrel
    have hsz := hb.size
    by_cases hlt : k < len
    · obtain ⟨ad, kd, ts, cd, th, el, Ac, At, Ae, cc, ct, ce, rfl, hbl, hd, hc0, hc1, hc2, hc3, hc4, hrc, hrt, hre⟩ := (HX.out.up hb).at_ (k := k) (by rw [HL.out]; exact hlt)
      obtain ⟨⟨hm1, hf1⟩, ⟨hm2, hf2⟩, hcl⟩ := HF.out.part hd
      have HTH := Lib.hid (fun (Z : World) (hZ : Below wr.heap.size wr Z) => HIH.out th hm1 hf1 At ct Z (hrt.up hZ))
      have HEL := Lib.hid (fun (Z : World) (hZ : Below wr.heap.size wr Z) => HIH.out el hm2 hf2 Ae ce Z (hre.up hZ))
      have hwt := Nat.le_trans (whSh_many th) hf1.1
      have hwe := Nat.le_trans (whSh_many el) hf2.1
      have hws := HWM.out
      have HD : Hid (whSh l = m + ((if kd = 3 then 1 else 0) + whSh th + whSh el + whSh (l.drop (k + 1)))) := Lib.hid (by rw [HR.out, hd]; rfl)
      obtain ⟨tl, htl⟩ : ∃ x, th.len = x := ⟨_, rfl⟩
      obtain ⟨el', hel⟩ : ∃ x, el.len = x := ⟨_, rfl⟩
      obtain ⟨cl, hcle⟩ : ∃ x, cd.length = x := ⟨_, rfl⟩
      obtain ⟨a, ha⟩ : ∃ x, whSh th = x := ⟨_, rfl⟩
      obtain ⟨b, hb2⟩ : ∃ x, whSh el = x := ⟨_, rfl⟩
      obtain ⟨q, hq⟩ : ∃ x, (if kd = 3 then 1 else 0 : Nat) = x := ⟨_, rfl⟩
      rw [ha, hb2, hq] at HD
      have hml : m + q + a + b ≤ 1000 := by have := HD.out; omega
      rw [htl, ha] at HTH
      rw [hel, hb2] at HEL
      rw [hcle] at hc2
      rw [htl] at hc3
      rw [hel] at hc4
      rw [ha] at hwt
      rw [hb2] at hwe
      have HBW := Lib.hid hb
      have HOB : Hid (Own (wr.alloc (.cells #[.int .i64 kd, .int .i64 ts, .slice Ac cl cc, .slice At tl ct, .slice Ae el' ce] 55)) wr.heap.size 55 [.int .i64 kd, .int .i64 ts, .slice Ac cl cc, .slice At tl ct, .slice Ae el' ce]) := Lib.hid (Own.new wr _ _)
      have HBX : Hid (Below wr.heap.size wr (wr.alloc (.cells #[.int .i64 kd, .int .i64 ts, .slice Ac cl cc, .slice At tl ct, .slice Ae el' ce] 55))) := Lib.hid (by go_grown)
      have HQ := Lib.hid hq
      clear htl hel hcle ha hb2 hq hrt hre hrc hd hm1 hf1 hm2 hf2 hws hwt hwe
      obtain ⟨wo, rfl⟩ : ∃ wo : World, wo = wr := ⟨_, rfl⟩
      have hkq : (kd = 3 ∧ q = 1) ∨ (kd ≠ 3 ∧ q = 0) := by have := HQ.out; by_cases h : kd = 3 <;> simp [h] at this <;> omega
      rcases hkq with ⟨rfl, rfl⟩ | ⟨hk3, rfl⟩
      · go_upto_region 7 with fail
        obtain ⟨X, hX⟩ : ∃ X, X = wo.alloc (.cells #[.int .i64 3, .int .i64 ts, .slice Ac cl cc, .slice At tl ct, .slice Ae el' ce] 55) := ⟨_, rfl⟩
        rw [← hX] at HOB HBX ⊢
        clear hX
        obtain ⟨g0, hg0⟩ : ∃ g, wo.heap.size = g := ⟨_, rfl⟩
        rw [hg0] at HOB
        simp only [hg0]
        clear hg0 hc0 hc1 hc2 hc3 hc4 hbl hsz hb
        have d3 := HOB.out.cell (j := 3) rfl
        have d4 := HOB.out.cell (j := 4) rfl
        have hgl := HOB.out.lt
        have hw1 : IntKind.i64.wrap ((m : Int) + 1 + (a : Int)) = (m : Int) + 1 + (a : Int) := IntWalk.i64_in _ ⟨by omega, by omega⟩
        have hw2 : IntKind.i64.wrap ((m : Int) + 1 + (a : Int) + (b : Int)) = (m : Int) + 1 + (a : Int) + (b : Int) := IntWalk.i64_in _ ⟨by omega, by omega⟩
        refine wp_region_late (X := Nat × (Value)) (WhS X ((m : Int) + 1) ((m : Int) + 1 + (a : Int) + (b : Int))) (fun x j => doneL [0, 0, 0, 1, 0, 0, 0, 2, 0, 3] x.1 j) (effL [0, 0, 0, 1, 0, 0, 0, 2, 0, 3]) [9] (0, .int .i64 ((m : Int) + 1)) (fun x => [.int .i64 ((m : Int) + 1), .pointer (some ⟨g0, 3, none⟩), .slice At tl ct, .int .i64 (a : Nat), .int .i64 ((m : Int) + 1 + (a : Int)), .pointer (some ⟨g0, 4, none⟩), .slice Ae el' ce, .int .i64 (b : Nat), .int .i64 ((m : Int) + 1 + (a : Int) + (b : Int)), x.2]) _ (by kernel_rfl) (by kernel_rfl) (by kernel_rfl) (fun x => by simp only [putsD, Act.put, List.setIfInBounds_toArray, List.set_cons_zero, List.set_cons_succ]; exact rfl) (fun j hj => by rw [List.mem_singleton.1 hj]; rfl) h0L ⟨Below.drew (Below.refl _ _), fun _ => rfl, fun h => absurd h (by show ¬ 3 ≤ 0; omega)⟩ (fun x => ?_) (fun x wz hDz hSz => ?_)
        · refine AllS.val (by rfl) (by rfl) (fun w hSw hPw => ?_) ?_
          · (try dsimp only at hSw)
            have hw := hSw.2.1 (leH (hPw.not (j := 9) rfl (by kernel_rfl)))
            go_simp
          refine AllS.val (by rfl) (by rfl) (fun w hSw hPw => by go_simp) ?_
          refine AllS.val (by rfl) (by rfl) (fun w hSw hPw => ?_) ?_
          · (try dsimp only at hSw)
            have c0 := (hSw.1.cell (p := ⟨g0, 3, none⟩) hgl).trans d3
            go_simp
          refine AllS.turn (fun _ _ => rfl) (by rfl) (fun w hSw hPw K hK => ?_) ?_
          · (try dsimp only at hSw)
            have h0 := leH (hPw.me rfl)
            have hx0 : x.1 = 0 := by exact Nat.le_zero.1 h0
            obtain ⟨p, y⟩ := x
            (try dsimp only at hx0)
            subst hx0
            obtain ⟨hq, hy, hy2⟩ := hSw
            go_simp
            go_at_call 14
            refine (HTH.out _ (below_via HBX.out hq)).mono ?_
            rintro e w7 ⟨rfl, hb7⟩
            go_simp
            exact hK (1, y) _ (nxtL rfl (by decide)) ⟨below_via hq hb7, fun _ => hy (Nat.zero_le _), fun h => absurd h (by show ¬ 3 ≤ 1; omega)⟩
          refine AllS.val (by rfl) (by rfl) (fun w hSw hPw => by go_simp) ?_
          refine AllS.val (by rfl) (by rfl) (fun w hSw hPw => by go_simp) ?_
          refine AllS.val (by rfl) (by rfl) (fun w hSw hPw => ?_) ?_
          · (try dsimp only at hSw)
            have c0 := (hSw.1.cell (p := ⟨g0, 4, none⟩) hgl).trans d4
            go_simp
          refine AllS.turn (fun _ _ => rfl) (by rfl) (fun w hSw hPw K hK => ?_) ?_
          · (try dsimp only at hSw)
            have h0 := leH (hPw.me rfl)
            have h1 := geH (hPw.need (k := 3) rfl (by kernel_rfl))
            have hx0 : x.1 = 1 := Nat.le_antisymm h0 h1
            obtain ⟨p, y⟩ := x
            (try dsimp only at hx0)
            subst hx0
            obtain ⟨hq, hy, hy2⟩ := hSw
            go_simp
            go_at_call 14
            refine (HEL.out _ (below_via HBX.out hq)).mono ?_
            rintro e w7 ⟨rfl, hb7⟩
            go_simp
            exact hK (2, y) _ (nxtL rfl (by decide)) ⟨below_via hq hb7, fun _ => hy (by show 1 ≤ 2; omega), fun h => absurd h (by show ¬ 3 ≤ 2; omega)⟩
          refine AllS.val (by rfl) (by rfl) (fun w hSw hPw => by go_simp) ?_
          refine AllS.turn (fun _ _ => rfl) (by rfl) (fun w hSw hPw K hK => ?_) ?_
          · (try dsimp only at hSw)
            have h0 := leH (hPw.me rfl)
            have h1 := geH (hPw.need (k := 7) rfl (by kernel_rfl))
            have hx0 : x.1 = 2 := Nat.le_antisymm h0 h1
            obtain ⟨p, y⟩ := x
            (try dsimp only at hx0)
            subst hx0
            obtain ⟨hq, hy, hy2⟩ := hSw
            go_simp
            exact hK (3, .int .i64 ((m : Int) + 1 + (a : Int) + (b : Int))) _ (nxtL rfl (by decide)) ⟨hq, fun h => absurd h (by show ¬ 3 ≤ 2; omega), fun _ => rfl⟩
          exact AllS.nil
        have hd4 := geH (hDz 9 (by decide) (by decide))
        obtain ⟨p, y⟩ := x
        (try dsimp only at hd4)
        obtain ⟨hq, _, hy⟩ := hSz
        have hy := hy hd4
        (try dsimp only at hy)
        subst hy
        have HBE := Lib.hid (below_via HBW.out (below_via HBX.out hq))
        clear hDz hd4 hq d3 d4
        go_wp2
        go_round
        case rel => exact ⟨k + 1, m + 1 + a + b, by omega, by go_num, by go_num, Lib.hid (by have := HD.out; omega), HBE.out⟩
        case measure => (simp [intOf]; omega)
      · have f3 : (kd == 3) = false := by simp [hk3]
        clear hk3 HQ
        go_upto_region 7 with fail
        obtain ⟨X, hX⟩ : ∃ X, X = wo.alloc (.cells #[.int .i64 kd, .int .i64 ts, .slice Ac cl cc, .slice At tl ct, .slice Ae el' ce] 55) := ⟨_, rfl⟩
        rw [← hX] at HOB HBX ⊢
        clear hX
        obtain ⟨g0, hg0⟩ : ∃ g, wo.heap.size = g := ⟨_, rfl⟩
        rw [hg0] at HOB
        simp only [hg0]
        clear hg0 hc0 hc1 hc2 hc3 hc4 hbl hsz hb
        have d3 := HOB.out.cell (j := 3) rfl
        have d4 := HOB.out.cell (j := 4) rfl
        have hgl := HOB.out.lt
        have hw1 : IntKind.i64.wrap ((m : Int) + (a : Int)) = (m : Int) + (a : Int) := IntWalk.i64_in _ ⟨by omega, by omega⟩
        have hw2 : IntKind.i64.wrap ((m : Int) + (a : Int) + (b : Int)) = (m : Int) + (a : Int) + (b : Int) := IntWalk.i64_in _ ⟨by omega, by omega⟩
        refine wp_region_late (X := Nat × (Value)) (WhS X ((m : Int)) ((m : Int) + (a : Int) + (b : Int))) (fun x j => doneL [0, 0, 0, 1, 0, 0, 0, 2, 0, 3] x.1 j) (effL [0, 0, 0, 1, 0, 0, 0, 2, 0, 3]) [9] (0, .int .i64 ((m : Int))) (fun x => [.int .i64 ((m : Int)), .pointer (some ⟨g0, 3, none⟩), .slice At tl ct, .int .i64 (a : Nat), .int .i64 ((m : Int) + (a : Int)), .pointer (some ⟨g0, 4, none⟩), .slice Ae el' ce, .int .i64 (b : Nat), .int .i64 ((m : Int) + (a : Int) + (b : Int)), x.2]) _ (by kernel_rfl) (by kernel_rfl) (by kernel_rfl) (fun x => by simp only [putsD, Act.put, List.setIfInBounds_toArray, List.set_cons_zero, List.set_cons_succ]; exact rfl) (fun j hj => by rw [List.mem_singleton.1 hj]; rfl) h0L ⟨Below.drew (Below.refl _ _), fun _ => rfl, fun h => absurd h (by show ¬ 3 ≤ 0; omega)⟩ (fun x => ?_) (fun x wz hDz hSz => ?_)
        · refine AllS.val (by rfl) (by rfl) (fun w hSw hPw => ?_) ?_
          · (try dsimp only at hSw)
            have hw := hSw.2.1 (leH (hPw.not (j := 9) rfl (by kernel_rfl)))
            go_simp
          refine AllS.val (by rfl) (by rfl) (fun w hSw hPw => by go_simp) ?_
          refine AllS.val (by rfl) (by rfl) (fun w hSw hPw => ?_) ?_
          · (try dsimp only at hSw)
            have c0 := (hSw.1.cell (p := ⟨g0, 3, none⟩) hgl).trans d3
            go_simp
          refine AllS.turn (fun _ _ => rfl) (by rfl) (fun w hSw hPw K hK => ?_) ?_
          · (try dsimp only at hSw)
            have h0 := leH (hPw.me rfl)
            have hx0 : x.1 = 0 := by exact Nat.le_zero.1 h0
            obtain ⟨p, y⟩ := x
            (try dsimp only at hx0)
            subst hx0
            obtain ⟨hq, hy, hy2⟩ := hSw
            go_simp
            go_at_call 14
            refine (HTH.out _ (below_via HBX.out hq)).mono ?_
            rintro e w7 ⟨rfl, hb7⟩
            go_simp
            exact hK (1, y) _ (nxtL rfl (by decide)) ⟨below_via hq hb7, fun _ => hy (Nat.zero_le _), fun h => absurd h (by show ¬ 3 ≤ 1; omega)⟩
          refine AllS.val (by rfl) (by rfl) (fun w hSw hPw => by go_simp) ?_
          refine AllS.val (by rfl) (by rfl) (fun w hSw hPw => by go_simp) ?_
          refine AllS.val (by rfl) (by rfl) (fun w hSw hPw => ?_) ?_
          · (try dsimp only at hSw)
            have c0 := (hSw.1.cell (p := ⟨g0, 4, none⟩) hgl).trans d4
            go_simp
          refine AllS.turn (fun _ _ => rfl) (by rfl) (fun w hSw hPw K hK => ?_) ?_
          · (try dsimp only at hSw)
            have h0 := leH (hPw.me rfl)
            have h1 := geH (hPw.need (k := 3) rfl (by kernel_rfl))
            have hx0 : x.1 = 1 := Nat.le_antisymm h0 h1
            obtain ⟨p, y⟩ := x
            (try dsimp only at hx0)
            subst hx0
            obtain ⟨hq, hy, hy2⟩ := hSw
            go_simp
            go_at_call 14
            refine (HEL.out _ (below_via HBX.out hq)).mono ?_
            rintro e w7 ⟨rfl, hb7⟩
            go_simp
            exact hK (2, y) _ (nxtL rfl (by decide)) ⟨below_via hq hb7, fun _ => hy (by show 1 ≤ 2; omega), fun h => absurd h (by show ¬ 3 ≤ 2; omega)⟩
          refine AllS.val (by rfl) (by rfl) (fun w hSw hPw => by go_simp) ?_
          refine AllS.turn (fun _ _ => rfl) (by rfl) (fun w hSw hPw K hK => ?_) ?_
          · (try dsimp only at hSw)
            have h0 := leH (hPw.me rfl)
            have h1 := geH (hPw.need (k := 7) rfl (by kernel_rfl))
            have hx0 : x.1 = 2 := Nat.le_antisymm h0 h1
            obtain ⟨p, y⟩ := x
            (try dsimp only at hx0)
            subst hx0
            obtain ⟨hq, hy, hy2⟩ := hSw
            go_simp
            exact hK (3, .int .i64 ((m : Int) + (a : Int) + (b : Int))) _ (nxtL rfl (by decide)) ⟨hq, fun h => absurd h (by show ¬ 3 ≤ 2; omega), fun _ => rfl⟩
          exact AllS.nil
        have hd4 := geH (hDz 9 (by decide) (by decide))
        obtain ⟨p, y⟩ := x
        (try dsimp only at hd4)
        obtain ⟨hq, _, hy⟩ := hSz
        have hy := hy hd4
        (try dsimp only at hy)
        subst hy
        have HBE := Lib.hid (below_via HBW.out (below_via HBX.out hq))
        clear hDz hd4 hq d3 d4
        go_wp2
        go_round
        case rel => exact ⟨k + 1, m + a + b, by omega, by go_num, by go_num, Lib.hid (by have := HD.out; omega), HBE.out⟩
        case measure => (simp [intOf]; omega)
    · have hkl : k = len := by omega
      have HE : Hid (whSh l = m) := Lib.hid (by rw [HR.out, Sh.drop_ge (by rw [HL.out]; omega)]; rfl)
      go_wp2
      go_ret
      exact ⟨ret_int (by rw [HE.out]), hb⟩

theorem refWhiles_any (lo : Nat) : ∀ (m : Nat) (l : Sh), l.many ≤ m → FitSh l → ∀ (A : Option Addr) (cap : Nat) (w : World), RdH w lo w.heap.size l A 0 →
    Calls Try.prog 14 #[.slice A l.len cap] w fun e w' => e = .returned (.int .i64 (whSh l : Nat)) ∧ Below w.heap.size w w'
  | 0, l, hm, hf, A, cap, w, hx => refWhiles_one l lo A _ cap w hx rfl hf fun l' h => by omega
  | m + 1, l, hm, hf, A, cap, w, hx => refWhiles_one l lo A _ cap w hx rfl hf fun l' h hf' A' cap' Z hx' => refWhiles_any lo m l' (by omega) hf' A' cap' Z hx'

end Go.Proofs.Ytlfmofhimkndoaa
