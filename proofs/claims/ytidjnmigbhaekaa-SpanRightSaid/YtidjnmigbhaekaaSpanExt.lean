/-
  span.extend (R2): a row made wider in place.
-/
import Derived.Test.YtidjnmigbhaekaaSpanBeh
import Derived.Test.YtidjnmigbhaekaaRegionLate
namespace Go.Proofs.Ytidjnmigbhaekaa
open Go.RowKit
set_option linter.unusedSimpArgs false
set_option linter.unusedVariables false
set_option maxRecDepth 100000

theorem set_ne {l a : List (Int × Int)} {k : Nat} {x z : Int × Int} (hl : l[k]? = some x) (ha : a[k]? = some x) : l.set k z ≠ a ↔ l ≠ a ∨ z ≠ x := by
  constructor
  · intro h
    by_cases h1 : l = a
    · refine .inr fun e => h ?_
      subst e h1
      exact list_set_same hl
    · exact .inl h1
  · rintro (h | h) e
    · refine h ?_
      apply List.ext_getElem?
      intro j
      have hj : (l.set k z)[j]? = a[j]? := by rw [e]
      rw [List.getElem?_set] at hj
      by_cases hjk : k = j
      · subst hjk; rw [hl, ha]
      · rwa [if_neg hjk] at hj
    · have hk : (l.set k z)[k]? = a[k]? := by rw [e]
      rw [List.getElem?_set_self (List.getElem?_eq_some_iff.1 hl).1, ha] at hk
      injection hk with hk
      exact h hk

set_option maxHeartbeats 16000000 in
theorem extend_any (base h n c cb : Nat) (B : Option Addr) (a b : List (Int × Int)) (w : World) (hx : OwnSp w base h n c a) (hy : RdM w w.heap.size B b) (hne : ∀ ad, B = some ad → ad.block ≠ h) (hl2 : b.length = n) (hn6 : n ≤ 6) :
    Calls Try.prog 39 #[.slice (some ⟨h, 0, none⟩) n c, .slice B n cb] w fun e w' => e = .returned (.bool (decide (joRow a b ≠ a))) ∧ OwnSp w' base h n c (joRow a b) ∧ Wrote h w w' := by
  have HL := Lib.hid hx.2
  have HL2 := Lib.hid hl2
  have HX := Lib.hid hx
  have HY := Lib.hid hy
  have HNE := Lib.hid hne
  have hhw := hx.lt.2
  clear hx hy hne hl2
  go_enter Try.func39, Try.ntmps39
  go_wp2
  go_loopw [5, 10] (fun z5 z10 wr => ∃ (k : Nat) (q : List (Int × Int)) (ch : Bool), k ≤ n ∧ z10 = .int .i64 k ∧ z5 = .bool ch ∧ Hid (JoAt a b k q ∧ (ch = true ↔ q ≠ a)) ∧ OwnSp wr base h n c q ∧ Wrote h w wr) (fun _ z10 _ => n - (intOf z10).toNat)
  case atStart => exact ⟨0, a, false, Nat.zero_le _, by first | rfl | simp, rfl, Lib.hid ⟨JoAt.start a b, by simp⟩, HX.out, Wrote.of_below (Below.refl _ _)⟩
  case round =>
    obtain ⟨k, q, ch, hk, rfl, rfl, HJ, ho, hw⟩ := hrel
    have hsz := hw.size
    have HW := Lib.hid hw
    have HO := Lib.hid ho
    have hgl := ho.lt.2
    by_cases hlt : k < n
    · obtain ⟨adb, y0, y1, rfl, hbl, hd, hc0, hc1⟩ := RdM.at_ HY.out (k := k) (by rw [HL2.out]; exact hlt)
      have hbne : adb.block ≠ h := HNE.out adb rfl
      have hbne2 : (adb.add (k * 2)).block ≠ h := by rw [addr_add_block]; exact hbne
      have hc0' := (hw.cell hbl hbne2).trans hc0
      have hc1' := (hw.cell (p := ⟨(adb.add (k * 2)).block, (adb.add (k * 2)).off + 1, none⟩) hbl hbne2).trans hc1
      obtain ⟨⟨x0, x1⟩, hxk⟩ : ∃ x, a[k]? = some x := ⟨_, List.getElem?_eq_getElem (by rw [HL.out]; exact hlt)⟩
      obtain ⟨hqk, hj2⟩ := HJ.out.1.step (by rw [HL.out]; exact hlt) hxk hd
      have HXK := Lib.hid hxk
      have HJ2 := Lib.hid hj2
      have HQ := Lib.hid hqk
      have HCH : Hid (∀ z, (q.set k z ≠ a ↔ q ≠ a ∨ z ≠ (x0, x1))) := Lib.hid fun z => set_ne hqk hxk
      have hblw : (adb.add (k * 2)).block < wr.heap.size := by omega
      obtain ⟨q0, q1⟩ := ho.cells hqk
      simp only at q0 q1
      have HHU : Hid (∀ Z : World, Calls Try.prog 46 #[.agg #[.int .i64 x0, .int .i64 x1], .agg #[.int .i64 y0, .int .i64 y1]] Z fun e w' => e = .returned (.agg #[.int .i64 (joSp (x0, x1) (y0, y1)).1, .int .i64 (joSp (x0, x1) (y0, y1)).2]) ∧ Below Z.heap.size Z w') := Lib.hid fun Z => hull_any (x0, x1) (y0, y1) Z
      obtain ⟨⟨z0, z1⟩, hz⟩ : ∃ z, joSp (x0, x1) (y0, y1) = z := ⟨_, rfl⟩
      rw [hz] at HJ2 HHU
      simp only at HHU
      clear hd hxk hqk hj2 hw ho hc0 hc1 hz
      obtain ⟨X, hX⟩ : ∃ X, X = wr.alloc (.cells #[.int .i64 x0, .int .i64 x1] 23) := ⟨_, rfl⟩
      have HX1 := Lib.hid hX
      have hbX : Below wr.heap.size wr X := by rw [hX]; go_grown
      have HBX := Lib.hid hbX
      have HS : Hid (Own X wr.heap.size 23 [.int .i64 x0, .int .i64 x1]) := Lib.hid (by rw [hX]; exact Own.new wr _ [_, _])
      have HOX := Lib.hid (HO.out.below hbX)
      clear hX hbX
      go_upto_region 5 with fail
      rw [← HX1.out]
      have e0 := HS.out.cell (j := 0) rfl
      have e1 := HS.out.cell (j := 1) rfl
      have hSl := HS.out.lt
      have r0 := (HBX.out.cell hblw).trans hc0'
      have r1 := (HBX.out.cell (p := ⟨(adb.add (k * 2)).block, (adb.add (k * 2)).off + 1, none⟩) hblw).trans hc1'
      have hblX : (adb.add (k * 2)).block < X.heap.size := Nat.lt_of_lt_of_le hblw HBX.out.size
      obtain ⟨q0', q1'⟩ := HOX.out.cells HQ.out
      simp only at q0' q1'
      have hgX := HOX.out.lt.2
      obtain ⟨b7, hb7⟩ : ∃ b7, wr.heap.size = b7 := ⟨_, rfl⟩
      have HB7 := Lib.hid hb7
      rw [hb7] at e0 e1 hSl HS
      simp only [hb7]
      clear hb7
      refine wp_region_steps (X := Nat × (Unit)) (fun x w' => (x.1 ≤ 1 → Below X.heap.size X w') ∧ (2 ≤ x.1 → ∃ w5, Below X.heap.size X w5 ∧ w' = (w5.setCell ⟨h, k * 2, none⟩ (.int .i64 z0)).setCell ⟨h, k * 2 + 1, none⟩ (.int .i64 z1))) (fun x j => doneL [0, 0, 0, 0, 0, 0, 0, 1, 0, 2] x.1 j) (effL [0, 0, 0, 0, 0, 0, 0, 1, 0, 2]) (0, ()) (fun x => [.slice (some ⟨h, 0, none⟩) n c, .int .i64 (k : Nat), .agg #[.int .i64 x0, .int .i64 x1], .slice (some adb) n cb, .int .i64 (k : Nat), .pointer (some (adb.add (k * 2))), .agg #[.int .i64 y0, .int .i64 y1], .agg #[.int .i64 z0, .int .i64 z1], .pointer (some ⟨h, k * 2, none⟩), undef]) _ (by kernel_rfl) (by kernel_rfl) (by kernel_rfl) (fun x => by simp only [putsD, Act.put, List.setIfInBounds_toArray, List.set_cons_zero, List.set_cons_succ]; exact rfl) h0L ⟨fun _ => Below.drew (Below.refl _ _), fun h => absurd h (by decide)⟩ (fun x => ?_) (fun x wz hDz hSz => ?_)
      · refine AllS.val (by rfl) (by rfl) (fun w hSw hPw => by go_simp) ?_
        refine AllS.val (by rfl) (by rfl) (fun w hSw hPw => by go_simp) ?_
        refine AllS.val (by rfl) (by rfl) (fun w hSw hPw => ?_) ?_
        · (try dsimp only at hSw)
          have hn := leS (hPw.not (j := 9) rfl (by kernel_rfl))
          have hq := hSw.1 hn
          have c := (hq.cell (p := ⟨b7, 0, none⟩) hSl).trans e0
          have c' := (hq.cell (p := ⟨b7, 1, none⟩) hSl).trans e1
          go_simp
        refine AllS.val (by rfl) (by rfl) (fun w hSw hPw => by go_simp) ?_
        refine AllS.val (by rfl) (by rfl) (fun w hSw hPw => by go_simp) ?_
        refine AllS.val (by rfl) (by rfl) (fun w hSw hPw => by go_simp) ?_
        refine AllS.val (by rfl) (by rfl) (fun w hSw hPw => ?_) ?_
        · (try dsimp only at hSw)
          have hn := leS (hPw.not (j := 9) rfl (by kernel_rfl))
          have hq := hSw.1 hn
          have c := (hq.cell hblX).trans r0
          have c' := (hq.cell (p := ⟨(adb.add (k * 2)).block, (adb.add (k * 2)).off + 1, none⟩) hblX).trans r1
          go_simp
        refine AllS.turn (fun _ _ => rfl) (by rfl) (fun w hSw hPw K hK => ?_) ?_
        · (try dsimp only at hSw)
          have h0 := leS (hPw.me rfl)
          have hq := hSw.1 (Nat.le_trans h0 (by decide))
          go_simp
          go_at_call 46
          (with_reducible refine (HHU.out _).mono ?_)
          rintro e w7 ⟨rfl, hb7⟩
          go_simp
          have hx0 : x.1 = 0 := by exact Nat.le_zero.1 h0
          obtain ⟨p, y⟩ := x
          (try dsimp only at hx0)
          subst hx0
          exact hK (1, y) _ (nxtL rfl (by decide)) ⟨fun _ => below_via hq hb7, fun h => absurd h (by simp)⟩
        refine AllS.val (by rfl) (by rfl) (fun w hSw hPw => by go_simp) ?_
        refine AllS.turn (fun _ _ => rfl) (by rfl) (fun w hSw hPw K hK => ?_) ?_
        · (try dsimp only at hSw)
          have h0 := leS (hPw.me rfl)
          have h1 := geS (hPw.need (k := 7) rfl (by kernel_rfl))
          have hq := hSw.1 h0
          have hx0 : x.1 = 1 := Nat.le_antisymm h0 h1
          obtain ⟨p, y⟩ := x
          (try dsimp only at hx0)
          subst hx0
          have hT5 := HOX.out.below hq
          have u0 := (hq.cell (p := ⟨h, k * 2, none⟩) hgX).trans q0'
          have u1 := (hq.cell (p := ⟨h, k * 2 + 1, none⟩) hgX).trans q1'
          have v0 := hT5.frozen (k * 2)
          have v1 := hT5.frozen (k * 2 + 1)
          go_simp
          exact hK (2, y) _ (nxtL rfl (by decide)) ⟨fun h => absurd h (by simp), fun _ => ⟨_, hq, rfl⟩⟩
        exact AllS.nil
      obtain ⟨w5, hb5, rfl⟩ := hSz.2 (geS (hDz 9 (by decide) (by decide)))
      obtain ⟨Y, hY⟩ : ∃ Y, Y = (w5.setCell ⟨h, k * 2, none⟩ (.int .i64 z0)).setCell ⟨h, k * 2 + 1, none⟩ (.int .i64 z1) := ⟨_, rfl⟩
      have HOY : Hid (OwnSp Y base h n c (q.set k (z0, z1))) := Lib.hid (by rw [hY]; exact (HOX.out.below hb5).put (by rw [HJ.out.1.1, HL.out]; exact hlt) (z0, z1))
      have HSY : Hid (Own Y b7 23 [.int .i64 x0, .int .i64 x1]) := Lib.hid (by rw [hY]; exact ((HS.out.below hb5 hSl).far (by show b7 ≠ h; have := HB7.out; omega) _).far (by show b7 ≠ h; have := HB7.out; omega) _)
      have HWY : Hid (Wrote h w Y) := Lib.hid (by rw [hY]; exact ((HW.out.andThen ((HBX.out.mono hsz).trans (hb5.mono (Nat.le_trans hsz HBX.out.size)))).set rfl _).set rfl _)
      rw [← hY]
      clear hY hb5 hSz hDz
      have HQS : Hid ((q.set k (z0, z1))[k]? = some (z0, z1)) := Lib.hid (List.getElem?_set_self (List.getElem?_eq_some_iff.1 HQ.out).1)
      obtain ⟨t0, t1⟩ := HOY.out.cells HQS.out
      simp only at t0 t1
      have hgY := HOY.out.lt.2
      have g0 := HSY.out.cell (j := 0) rfl
      have g1 := HSY.out.cell (j := 1) rfl
      have hbY := HSY.out.lt
      have HCZ := Lib.hid (HCH.out (z0, z1))
      cases ch
      · by_cases d0 : z0 = x0
        · subst d0
          by_cases d1 : z1 = x1
          · subst d1
            have HBQ : Hid (false = true ↔ q.set k (z0, z1) ≠ a) := Lib.hid (by rw [HCZ.out]; have := HJ.out.2; simp at this; simp [this])
            go_upto_region 6 with fail
            refine wp_region_late (X := Nat × (Value)) (fun x w' => (x.1 ≤ 0 → x.2 = .bool false) ∧ (1 ≤ x.1 → x.2 = .bool false) ∧ w' = Y.drew) (fun x j => doneL [0, 0, 0, 0, 0, 0, 0, 0, 0, 1] x.1 j) (effL [0, 0, 0, 0, 0, 0, 0, 0, 0, 1]) [9] (0, (.bool false)) (fun x => [.bool false, .bool false, .slice (some ⟨h, 0, none⟩) n c, .int .i64 (k : Nat), .pointer (some ⟨h, k * 2, none⟩), .agg #[.int .i64 z0, .int .i64 z1], .agg #[.int .i64 z0, .int .i64 z1], .bool false, .bool false, x.2]) _ (by kernel_rfl) (by kernel_rfl) (by kernel_rfl) (fun x => by simp only [putsD, Act.put, List.setIfInBounds_toArray, List.set_cons_zero, List.set_cons_succ]; exact rfl) (fun j hj => by rw [List.mem_singleton.1 hj]; rfl) h0L ⟨fun _ => rfl, fun h => absurd h (by decide), rfl⟩ (fun x => ?_) (fun x wz hDz hSz => ?_)
            · refine AllS.val (by rfl) (by rfl) (fun w hSw hPw => ?_) ?_
              · (try dsimp only at hSw)
                have hn := leS (hPw.not (j := 9) rfl (by kernel_rfl))
                have hv := hSw.1 hn
                go_simp
              refine AllS.val (by rfl) (by rfl) (fun w hSw hPw => by go_simp) ?_
              refine AllS.val (by rfl) (by rfl) (fun w hSw hPw => by go_simp) ?_
              refine AllS.val (by rfl) (by rfl) (fun w hSw hPw => by go_simp) ?_
              refine AllS.val (by rfl) (by rfl) (fun w hSw hPw => by go_simp) ?_
              refine AllS.val (by rfl) (by rfl) (fun w hSw hPw => ?_) ?_
              · (try dsimp only at hSw)
                have hq := hSw.2.2
                subst hq
                go_simp
              refine AllS.val (by rfl) (by rfl) (fun w hSw hPw => ?_) ?_
              · (try dsimp only at hSw)
                have hq := hSw.2.2
                subst hq
                go_simp
              refine AllS.val (by rfl) (by rfl) (fun w hSw hPw => by go_simp) ?_
              refine AllS.val (by rfl) (by rfl) (fun w hSw hPw => by go_simp) ?_
              refine AllS.turn (fun _ _ => rfl) (by rfl) (fun w hSw hPw K hK => ?_) ?_
              · (try dsimp only at hSw)
                have h0 := leS (hPw.me rfl)
                have hx0 : x.1 = 0 := by exact Nat.le_zero.1 h0
                obtain ⟨p, y⟩ := x
                (try dsimp only at hx0)
                subst hx0
                obtain ⟨i1, i2, i3⟩ := hSw
                go_simp
                exact hK (1, .bool false) _ (nxtL rfl (by decide)) ⟨fun h => absurd h (by simp), fun _ => rfl, rfl⟩
              exact AllS.nil
            obtain ⟨p, y⟩ := x
            have hy := hSz.2.1 (geS (hDz 9 (by decide) (by decide)))
            have hz := hSz.2.2
            (try dsimp only at hy)
            subst hy hz
            clear hSz hDz
            go_wp2
            go_round
            case rel => exact ⟨k + 1, q.set k (z0, z1), false, by omega, by go_num, rfl, Lib.hid ⟨HJ2.out, HBQ.out⟩, HOY.out.below (by go_grown), HWY.out.andThen (by go_grown)⟩
            case measure => (simp [intOf]; omega)
          · have d1b : (z1 == x1) = false := by simp [d1]
            have HBQ : Hid (true = true ↔ q.set k (z0, z1) ≠ a) := Lib.hid (by rw [HCZ.out]; simp [d1])
            go_upto_region 6 with fail
            refine wp_region_late (X := Nat × (Value)) (fun x w' => (x.1 ≤ 0 → x.2 = .bool false) ∧ (1 ≤ x.1 → x.2 = .bool true) ∧ w' = Y.drew) (fun x j => doneL [0, 0, 0, 0, 0, 0, 0, 0, 0, 1] x.1 j) (effL [0, 0, 0, 0, 0, 0, 0, 0, 0, 1]) [9] (0, (.bool false)) (fun x => [.bool false, .bool false, .slice (some ⟨h, 0, none⟩) n c, .int .i64 (k : Nat), .pointer (some ⟨h, k * 2, none⟩), .agg #[.int .i64 z0, .int .i64 z1], .agg #[.int .i64 z0, .int .i64 x1], .bool true, .bool true, x.2]) _ (by kernel_rfl) (by kernel_rfl) (by kernel_rfl) (fun x => by simp only [putsD, Act.put, List.setIfInBounds_toArray, List.set_cons_zero, List.set_cons_succ]; exact rfl) (fun j hj => by rw [List.mem_singleton.1 hj]; rfl) h0L ⟨fun _ => rfl, fun h => absurd h (by decide), rfl⟩ (fun x => ?_) (fun x wz hDz hSz => ?_)
            · refine AllS.val (by rfl) (by rfl) (fun w hSw hPw => ?_) ?_
              · (try dsimp only at hSw)
                have hn := leS (hPw.not (j := 9) rfl (by kernel_rfl))
                have hv := hSw.1 hn
                go_simp
              refine AllS.val (by rfl) (by rfl) (fun w hSw hPw => by go_simp) ?_
              refine AllS.val (by rfl) (by rfl) (fun w hSw hPw => by go_simp) ?_
              refine AllS.val (by rfl) (by rfl) (fun w hSw hPw => by go_simp) ?_
              refine AllS.val (by rfl) (by rfl) (fun w hSw hPw => by go_simp) ?_
              refine AllS.val (by rfl) (by rfl) (fun w hSw hPw => ?_) ?_
              · (try dsimp only at hSw)
                have hq := hSw.2.2
                subst hq
                go_simp
              refine AllS.val (by rfl) (by rfl) (fun w hSw hPw => ?_) ?_
              · (try dsimp only at hSw)
                have hq := hSw.2.2
                subst hq
                go_simp
              refine AllS.val (by rfl) (by rfl) (fun w hSw hPw => by go_simp) ?_
              refine AllS.val (by rfl) (by rfl) (fun w hSw hPw => by go_simp) ?_
              refine AllS.turn (fun _ _ => rfl) (by rfl) (fun w hSw hPw K hK => ?_) ?_
              · (try dsimp only at hSw)
                have h0 := leS (hPw.me rfl)
                have hx0 : x.1 = 0 := by exact Nat.le_zero.1 h0
                obtain ⟨p, y⟩ := x
                (try dsimp only at hx0)
                subst hx0
                obtain ⟨i1, i2, i3⟩ := hSw
                go_simp
                exact hK (1, .bool true) _ (nxtL rfl (by decide)) ⟨fun h => absurd h (by simp), fun _ => rfl, rfl⟩
              exact AllS.nil
            obtain ⟨p, y⟩ := x
            have hy := hSz.2.1 (geS (hDz 9 (by decide) (by decide)))
            have hz := hSz.2.2
            (try dsimp only at hy)
            subst hy hz
            clear hSz hDz
            go_wp2
            go_round
            case rel => exact ⟨k + 1, q.set k (z0, z1), true, by omega, by go_num, rfl, Lib.hid ⟨HJ2.out, HBQ.out⟩, HOY.out.below (by go_grown), HWY.out.andThen (by go_grown)⟩
            case measure => (simp [intOf]; omega)
        · have d0b : (z0 == x0) = false := by simp [d0]
          have HBQ : Hid (true = true ↔ q.set k (z0, z1) ≠ a) := Lib.hid (by rw [HCZ.out]; simp [d0])
          go_upto_region 6 with fail
          refine wp_region_late (X := Nat × (Value)) (fun x w' => (x.1 ≤ 0 → x.2 = .bool false) ∧ (1 ≤ x.1 → x.2 = .bool true) ∧ w' = Y.drew) (fun x j => doneL [0, 0, 0, 0, 0, 0, 0, 0, 0, 1] x.1 j) (effL [0, 0, 0, 0, 0, 0, 0, 0, 0, 1]) [9] (0, (.bool false)) (fun x => [.bool false, .bool false, .slice (some ⟨h, 0, none⟩) n c, .int .i64 (k : Nat), .pointer (some ⟨h, k * 2, none⟩), .agg #[.int .i64 z0, .int .i64 z1], .agg #[.int .i64 x0, .int .i64 x1], .bool true, .bool true, x.2]) _ (by kernel_rfl) (by kernel_rfl) (by kernel_rfl) (fun x => by simp only [putsD, Act.put, List.setIfInBounds_toArray, List.set_cons_zero, List.set_cons_succ]; exact rfl) (fun j hj => by rw [List.mem_singleton.1 hj]; rfl) h0L ⟨fun _ => rfl, fun h => absurd h (by decide), rfl⟩ (fun x => ?_) (fun x wz hDz hSz => ?_)
          · refine AllS.val (by rfl) (by rfl) (fun w hSw hPw => ?_) ?_
            · (try dsimp only at hSw)
              have hn := leS (hPw.not (j := 9) rfl (by kernel_rfl))
              have hv := hSw.1 hn
              go_simp
            refine AllS.val (by rfl) (by rfl) (fun w hSw hPw => by go_simp) ?_
            refine AllS.val (by rfl) (by rfl) (fun w hSw hPw => by go_simp) ?_
            refine AllS.val (by rfl) (by rfl) (fun w hSw hPw => by go_simp) ?_
            refine AllS.val (by rfl) (by rfl) (fun w hSw hPw => by go_simp) ?_
            refine AllS.val (by rfl) (by rfl) (fun w hSw hPw => ?_) ?_
            · (try dsimp only at hSw)
              have hq := hSw.2.2
              subst hq
              go_simp
            refine AllS.val (by rfl) (by rfl) (fun w hSw hPw => ?_) ?_
            · (try dsimp only at hSw)
              have hq := hSw.2.2
              subst hq
              go_simp
            refine AllS.val (by rfl) (by rfl) (fun w hSw hPw => by go_simp) ?_
            refine AllS.val (by rfl) (by rfl) (fun w hSw hPw => by go_simp) ?_
            refine AllS.turn (fun _ _ => rfl) (by rfl) (fun w hSw hPw K hK => ?_) ?_
            · (try dsimp only at hSw)
              have h0 := leS (hPw.me rfl)
              have hx0 : x.1 = 0 := by exact Nat.le_zero.1 h0
              obtain ⟨p, y⟩ := x
              (try dsimp only at hx0)
              subst hx0
              obtain ⟨i1, i2, i3⟩ := hSw
              go_simp
              exact hK (1, .bool true) _ (nxtL rfl (by decide)) ⟨fun h => absurd h (by simp), fun _ => rfl, rfl⟩
            exact AllS.nil
          obtain ⟨p, y⟩ := x
          have hy := hSz.2.1 (geS (hDz 9 (by decide) (by decide)))
          have hz := hSz.2.2
          (try dsimp only at hy)
          subst hy hz
          clear hSz hDz
          go_wp2
          go_round
          case rel => exact ⟨k + 1, q.set k (z0, z1), true, by omega, by go_num, rfl, Lib.hid ⟨HJ2.out, HBQ.out⟩, HOY.out.below (by go_grown), HWY.out.andThen (by go_grown)⟩
          case measure => (simp [intOf]; omega)
      · have HBQ : Hid (true = true ↔ q.set k (z0, z1) ≠ a) := Lib.hid (by rw [HCZ.out]; have := HJ.out.2; simp at this; simp [this])
        go_upto_region 6 with fail
        refine wp_region_late (X := Nat × (Value)) (fun x w' => (x.1 ≤ 0 → x.2 = .bool true) ∧ (1 ≤ x.1 → x.2 = .bool true) ∧ w' = Y.drew) (fun x j => doneL [0, 0, 0, 0, 0, 0, 0, 0, 0, 1] x.1 j) (effL [0, 0, 0, 0, 0, 0, 0, 0, 0, 1]) [9] (0, (.bool true)) (fun x => [.bool true, .bool true, undef, undef, undef, undef, undef, undef, .bool true, x.2]) _ (by kernel_rfl) (by kernel_rfl) (by kernel_rfl) (fun x => by simp only [putsD, Act.put, List.setIfInBounds_toArray, List.set_cons_zero, List.set_cons_succ]; exact rfl) (fun j hj => by rw [List.mem_singleton.1 hj]; rfl) h0L ⟨fun _ => rfl, fun h => absurd h (by decide), rfl⟩ (fun x => ?_) (fun x wz hDz hSz => ?_)
        · refine AllS.val (by rfl) (by rfl) (fun w hSw hPw => ?_) ?_
          · (try dsimp only at hSw)
            have hn := leS (hPw.not (j := 9) rfl (by kernel_rfl))
            have hv := hSw.1 hn
            go_simp
          refine AllS.val (by rfl) (by rfl) (fun w hSw hPw => by go_simp) ?_
          refine AllS.no (by rfl) (by rfl) ?_
          refine AllS.no (by rfl) (by rfl) ?_
          refine AllS.no (by rfl) (by rfl) ?_
          refine AllS.no (by rfl) (by rfl) ?_
          refine AllS.no (by rfl) (by rfl) ?_
          refine AllS.no (by rfl) (by rfl) ?_
          refine AllS.val (by rfl) (by rfl) (fun w hSw hPw => by go_simp) ?_
          refine AllS.turn (fun _ _ => rfl) (by rfl) (fun w hSw hPw K hK => ?_) ?_
          · (try dsimp only at hSw)
            have h0 := leS (hPw.me rfl)
            have hx0 : x.1 = 0 := by exact Nat.le_zero.1 h0
            obtain ⟨p, y⟩ := x
            (try dsimp only at hx0)
            subst hx0
            obtain ⟨i1, i2, i3⟩ := hSw
            go_simp
            exact hK (1, .bool true) _ (nxtL rfl (by decide)) ⟨fun h => absurd h (by simp), fun _ => rfl, rfl⟩
          exact AllS.nil
        obtain ⟨p, y⟩ := x
        have hy := hSz.2.1 (geS (hDz 9 (by decide) (by decide)))
        have hz := hSz.2.2
        (try dsimp only at hy)
        subst hy hz
        clear hSz hDz
        go_wp2
        go_round
        case rel => exact ⟨k + 1, q.set k (z0, z1), true, by omega, by go_num, rfl, Lib.hid ⟨HJ2.out, HBQ.out⟩, HOY.out.below (by go_grown), HWY.out.andThen (by go_grown)⟩
        case measure => (simp [intOf]; omega)
    · have hkn : k = n := by omega
      have HD : Hid (q = joRow a b) := Lib.hid (JoAt.done (by rw [HL.out, ← hkn]; exact HJ.out.1) (by rw [HL.out, HL2.out]))
      have HB : Hid (decide (joRow a b ≠ a) = ch) := Lib.hid (by
        rw [← HD.out]
        cases ch
        · rw [decide_eq_false_iff_not]; exact fun h => Bool.noConfusion (HJ.out.2.2 h)
        · rw [decide_eq_true_eq]; exact HJ.out.2.1 rfl)
      clear hkn
      go_wp2
      go_ret
      exact ⟨ret_bool HB.out.symm, by rw [← HD.out]; exact ho, hw⟩

end Go.Proofs.Ytidjnmigbhaekaa
