/-
  span.products, results, Do (R1): the contract of Do.
-/
import Derived.Test.YtidjnmigbhaekaaSpanFn
import Derived.Test.YtidjnmigbhaekaaSpanIs
import Derived.Test.YtidjnmigbhaekaaSpanSteps
import Derived.Deep.Cut
import Derived.Laws.ResultCell
namespace Go.Proofs.Ytidjnmigbhaekaa
open Go.RowKit
set_option linter.unusedSimpArgs false
set_option linter.unusedVariables false
set_option maxRecDepth 100000

/-- two boxes with the arguments, one for the result -/
structure PdA (n : Nat) (a b : Int × Int) (w wr : World) : Prop where
  a : Own wr n 23 [.int .i64 a.1, .int .i64 a.2]
  b : Own wr (n + 1) 23 [.int .i64 b.1, .int .i64 b.2]
  r : Own wr (n + 2) 23 [.int .i64 0, .int .i64 0]
  bel : Below n w wr

theorem PdA.new (w : World) (a b : Int × Int) : PdA w.heap.size a b w (((w.alloc (.cells #[.int .i64 a.1, .int .i64 a.2] 23)).alloc (.cells #[.int .i64 b.1, .int .i64 b.2] 23)).alloc (.cells #[.int .i64 0, .int .i64 0] 23)) :=
  ⟨((Own.new w _ [.int .i64 a.1, .int .i64 a.2]).alloc _).alloc _, by simpa using (Own.new (w.alloc _) 23 [.int .i64 b.1, .int .i64 b.2]).alloc _, by simpa using Own.new ((w.alloc _).alloc _) 23 [.int .i64 0, .int .i64 0], by go_grown⟩

theorem PdA.below {n : Nat} {a b : Int × Int} {w wr w' : World} (h : PdA n a b w wr) (hb : Below wr.heap.size wr w') : PdA n a b w w' :=
  ⟨h.a.below hb h.a.lt, h.b.below hb h.b.lt, h.r.below hb h.r.lt, h.bel.trans (hb.mono (Nat.le_of_lt h.a.lt))⟩

theorem PdA.far {n m j : Nat} {a b : Int × Int} {w wr : World} (h : PdA n a b w wr) (hm : n + 2 < m) (u : Value) : PdA n a b w (wr.setCell ⟨m, j, none⟩ u) :=
  ⟨h.a.far (by show n ≠ m; omega) _, h.b.far (by show n + 1 ≠ m; omega) _, h.r.far (by show n + 2 ≠ m; omega) _, h.bel.setCell (by show n ≤ m; omega) _⟩

/-- and one with what has been found -/
structure PdB (n m : Nat) (a b f : Int × Int) (w wr : World) : Prop where
  pd : PdA n a b w wr
  s : Own wr m 23 [.int .i64 f.1, .int .i64 f.2]
  hm : n + 2 < m

theorem PdB.below {n m : Nat} {a b f : Int × Int} {w wr w' : World} (h : PdB n m a b f w wr) (hb : Below wr.heap.size wr w') : PdB n m a b f w w' := ⟨h.pd.below hb, h.s.below hb h.s.lt, h.hm⟩

theorem PdB.put {n m : Nat} {a b f : Int × Int} {w wr : World} (h : PdB n m a b f w wr) (g : Int × Int) : PdB n m a b g w ((wr.setCell ⟨m, 0, none⟩ (.int .i64 g.1)).setCell ⟨m, 1, none⟩ (.int .i64 g.2)) :=
  ⟨(h.pd.far h.hm _).far h.hm _, (h.s.set 0 _).set 1 _, h.hm⟩

set_option maxHeartbeats 16000000 in
theorem products_any (a b : Int × Int) (w : World) (ha : SpOk a) (hb : SpOk b) :
    Calls Try.prog 33 #[.agg #[.int .i64 a.1, .int .i64 a.2], .agg #[.int .i64 b.1, .int .i64 b.2]] w fun e w' => e = .returned (.agg #[.int .i64 (doSp 5 a b).1, .int .i64 (doSp 5 a b).2]) ∧ Below w.heap.size w w' := by
  have HAO := Lib.hid ha
  have HBO := Lib.hid hb
  have HP0 := Lib.hid (PdA.new w a b)
  obtain ⟨ha0, ha1, ha2⟩ := ha
  obtain ⟨hb0, hb1, hb2⟩ := hb
  obtain ⟨al, ah⟩ := a
  obtain ⟨bl, bh⟩ := b
  simp only at ha0 ha1 ha2 hb0 hb1 hb2
  have HAP := Lib.hid (fun x y w (h : InSp x (al, ah) ∧ InSp y (bl, bh)) => apply_any 5 x y w (by have := h.1.1; simp only at this; omega) (by have := h.1.2; simp only at this; omega) (by have := h.2.1; simp only at this; omega) (by have := h.2.2; simp only at this; omega))
  have HST : Hid (∀ v, opv 5 al bl = v → FndI (al, ah) (bl, bh) (SnP (al, ah) (bl, bh) al bl) (v, v)) := Lib.hid fun v hv => FndI.start HAO.out HBO.out (fun x y h => sn_none h) hv
  have HA0 := Lib.hid (HAP.out al bl (((w.alloc (.cells #[.int .i64 al, .int .i64 ah] 23)).alloc (.cells #[.int .i64 bl, .int .i64 bh] 23)).alloc (.cells #[.int .i64 0, .int .i64 0] 23)) ⟨⟨Int.le_refl _, ha1⟩, ⟨Int.le_refl _, hb1⟩⟩)
  obtain ⟨v, hv⟩ : ∃ v, opv 5 al bl = v := ⟨_, rfl⟩
  rw [hv] at HA0
  have HS0 := Lib.hid (HST.out v hv)
  clear hv HST
  go_enter Try.func33, Try.ntmps33
  go_wp2_with (first
    | (go_at_call 34; (with_reducible refine HA0.out.mono ?_); rintro e w1 ⟨rfl, rfl⟩)
    | (go_at_call 45; (with_reducible refine (oneValue_any v _).mono ?_); rintro e w1 ⟨rfl, hb1⟩; have hp1 := HP0.out.below hb1; have c0 := hp1.a.cell (j := 0) rfl; have hl := hp1.a.lt))
  have HB1 : Hid (PdB w.heap.size w1.heap.size (al, ah) (bl, bh) (v, v) w (w1.alloc (.cells #[.int .i64 v, .int .i64 v] 23))) := Lib.hid ⟨hp1.below (by go_grown), Own.new w1 _ [.int .i64 v, .int .i64 v], hp1.r.lt⟩
  obtain ⟨n, hn⟩ : ∃ n, w.heap.size = n := ⟨_, rfl⟩
  obtain ⟨m, hm⟩ : ∃ m, w1.heap.size = m := ⟨_, rfl⟩
  have HN := Lib.hid hn
  rw [hn, hm] at HB1
  simp only [hn, hm]
  clear hn hm hp1 c0 hl hb1 HP0 HA0
  go_loopw [6] (fun x wr => ∃ (xi : Int) (f : Int × Int), al ≤ xi ∧ xi ≤ ah + 1 ∧ x = .int .i64 xi ∧ Hid (FndI (al, ah) (bl, bh) (SnP (al, ah) (bl, bh) xi bl) f) ∧ PdB n m (al, ah) (bl, bh) f w wr) (fun x _ => (ah + 1 - intOf x).toNat)
  case atStart => exact ⟨al, (v, v), Int.le_refl _, by omega, rfl, HS0, HB1.out⟩
  case round =>
    obtain ⟨xi, f, hx1, hx2, rfl, HS, hpd⟩ := hrel
    have HPD := Lib.hid hpd
    have a1 := hpd.pd.a.cell (j := 1) rfl
    have b0 := hpd.pd.b.cell (j := 0) rfl
    have hll := hpd.s.lt
    have hbl := hpd.pd.b.lt
    clear hpd
    by_cases hxa : xi ≤ ah
    · obtain ⟨wo, rfl⟩ : ∃ wo : World, wo = wr := ⟨_, rfl⟩
      go_wp2
      go_loopw [7] (fun y wr => ∃ (yi : Int) (f : Int × Int), bl ≤ yi ∧ yi ≤ bh + 1 ∧ y = .int .i64 yi ∧ Hid (FndI (al, ah) (bl, bh) (SnP (al, ah) (bl, bh) xi yi) f) ∧ PdB n m (al, ah) (bl, bh) f w wr) (fun y _ => (bh + 1 - intOf y).toNat)
      case atStart => exact ⟨bl, f, Int.le_refl _, by omega, rfl, HS, HPD.out⟩
      case round =>
        obtain ⟨yi, f, hy1, hy2, rfl, HS, hpd⟩ := hrel
        have HPD := Lib.hid hpd
        have b1 := hpd.pd.b.cell (j := 1) rfl
        have hbl := hpd.pd.b.lt
        clear hpd
        by_cases hyb : yi ≤ bh
        · obtain ⟨v, hv⟩ : ∃ v, opv 5 xi yi = v := ⟨_, rfl⟩
          have HAPv : Hid (∀ Z : World, Calls Try.prog 34 #[.int .i64 5, .int .i64 xi, .int .i64 yi] Z fun e w' => e = .returned (.int .i64 v) ∧ Z = w') := Lib.hid fun Z => by
            have := HAP.out xi yi Z ⟨⟨hx1, hxa⟩, ⟨hy1, hyb⟩⟩
            rw [hv] at this
            exact this
          have HFN : Hid (FndI (al, ah) (bl, bh) (SnP (al, ah) (bl, bh) xi (yi + 1)) (joSp f (v, v))) := Lib.hid (HS.out.add (fun u v => sn_add ⟨hx1, hxa⟩ ⟨hy1, hyb⟩) ⟨hx1, hxa⟩ ⟨hy1, hyb⟩ hv)
          have HHU : Hid (∀ Z : World, Calls Try.prog 46 #[.agg #[.int .i64 f.1, .int .i64 f.2], .agg #[.int .i64 v, .int .i64 v]] Z fun e w' => e = .returned (.agg #[.int .i64 (joSp f (v, v)).1, .int .i64 (joSp f (v, v)).2]) ∧ Below Z.heap.size Z w') := Lib.hid fun Z => hull_any f (v, v) Z
          obtain ⟨⟨g0, g1⟩, hg⟩ : ∃ g, joSp f (v, v) = g := ⟨_, rfl⟩
          rw [hg] at HFN HHU
          simp only at HHU
          obtain ⟨f0, f1⟩ := f
          simp only at HHU
          clear hv hg
          go_upto_region 8 with fail
          have s0 := HPD.out.s.cell (j := 0) rfl
          have s1 := HPD.out.s.cell (j := 1) rfl
          have hml := HPD.out.s.lt
          simp only at s0 s1
          refine wp_region_steps (X := Nat × (Unit)) (fun x w' => (x.1 ≤ 2 → Below wr.heap.size wr w') ∧ (3 ≤ x.1 → ∃ w5, Below wr.heap.size wr w5 ∧ w' = (w5.setCell ⟨m, 0, none⟩ (.int .i64 g0)).setCell ⟨m, 1, none⟩ (.int .i64 g1))) (fun x j => doneL [0, 0, 0, 0, 1, 2, 3] x.1 j) (effL [0, 0, 0, 0, 1, 2, 3]) (0, ()) (fun x => [.agg #[.int .i64 f0, .int .i64 f1], .int .i64 xi, .int .i64 yi, .int .i64 v, .agg #[.int .i64 v, .int .i64 v], .agg #[.int .i64 g0, .int .i64 g1], undef]) _ (by kernel_rfl) (by kernel_rfl) (by kernel_rfl) (fun x => by simp only [putsD, Act.put, List.setIfInBounds_toArray, List.set_cons_zero, List.set_cons_succ]; exact rfl) h0L ⟨fun _ => Below.drew (Below.refl _ _), fun h => absurd h (by decide)⟩ (fun x => ?_) (fun x wz hDz hSz => ?_)
          · refine AllS.val (by rfl) (by rfl) (fun w hSw hPw => ?_) ?_
            · (try dsimp only at hSw)
              have hn := leS (hPw.not (j := 6) rfl (by kernel_rfl))
              have hq := hSw.1 hn
              have c := (hq.cell (p := ⟨m, 0, none⟩) hml).trans s0
              have c' := (hq.cell (p := ⟨m, 1, none⟩) hml).trans s1
              go_simp
            refine AllS.val (by rfl) (by rfl) (fun w hSw hPw => by go_simp) ?_
            refine AllS.val (by rfl) (by rfl) (fun w hSw hPw => by go_simp) ?_
            refine AllS.turn (fun _ _ => rfl) (by rfl) (fun w hSw hPw K hK => ?_) ?_
            · (try dsimp only at hSw)
              go_simp
              go_at_call 34
              (with_reducible refine (HAPv.out _).mono ?_)
              rintro e w7 ⟨rfl, rfl⟩
              go_simp
              exact hK x _ (Nxt.none rfl) hSw
            refine AllS.turn (fun _ _ => rfl) (by rfl) (fun w hSw hPw K hK => ?_) ?_
            · (try dsimp only at hSw)
              have h0 := leS (hPw.me rfl)
              have hq := hSw.1 (Nat.le_trans h0 (by decide))
              go_simp
              go_at_call 45
              (with_reducible refine (oneValue_any v _).mono ?_)
              rintro e w7 ⟨rfl, hb7⟩
              go_simp
              have hx0 : x.1 = 0 := by exact Nat.le_zero.1 h0
              obtain ⟨p, y⟩ := x
              (try dsimp only at hx0)
              subst hx0
              exact hK (1, y) _ (nxtL rfl (by decide)) ⟨fun _ => below_via hq hb7, fun h => absurd h (by simp)⟩
            refine AllS.turn (fun _ _ => rfl) (by rfl) (fun w hSw hPw K hK => ?_) ?_
            · (try dsimp only at hSw)
              have h0 := leS (hPw.me rfl)
              have h1 := geS (hPw.need (k := 4) rfl (by kernel_rfl))
              have hq := hSw.1 (Nat.le_trans h0 (by decide))
              go_simp
              go_at_call 46
              (with_reducible refine (HHU.out _).mono ?_)
              rintro e w7 ⟨rfl, hb7⟩
              go_simp
              have hx0 : x.1 = 1 := Nat.le_antisymm h0 h1
              obtain ⟨p, y⟩ := x
              (try dsimp only at hx0)
              subst hx0
              exact hK (2, y) _ (nxtL rfl (by decide)) ⟨fun _ => below_via hq hb7, fun h => absurd h (by simp)⟩
            refine AllS.turn (fun _ _ => rfl) (by rfl) (fun w hSw hPw K hK => ?_) ?_
            · (try dsimp only at hSw)
              have h0 := leS (hPw.me rfl)
              have h1 := geS (hPw.need (k := 5) rfl (by kernel_rfl))
              have hq := hSw.1 h0
              have hx0 : x.1 = 2 := Nat.le_antisymm h0 h1
              obtain ⟨p, y⟩ := x
              (try dsimp only at hx0)
              subst hx0
              have hT5 := HPD.out.s.below hq hml
              have u0 := hT5.cell (j := 0) rfl
              have u1 := hT5.cell (j := 1) rfl
              have v0 := hT5.frozen 0
              have v1 := hT5.frozen 1
              go_simp
              exact hK (3, y) _ (nxtL rfl (by decide)) ⟨fun h => absurd h (by simp), fun _ => ⟨_, hq, rfl⟩⟩
            exact AllS.nil
          obtain ⟨w5, hb5, rfl⟩ := hSz.2 (geS (hDz 6 (by decide) (by decide)))
          obtain ⟨Y, hY⟩ : ∃ Y, Y = (w5.setCell ⟨m, 0, none⟩ (.int .i64 g0)).setCell ⟨m, 1, none⟩ (.int .i64 g1) := ⟨_, rfl⟩
          have HPY : Hid (PdB n m (al, ah) (bl, bh) (g0, g1) w Y) := Lib.hid (by rw [hY]; exact (HPD.out.below hb5).put (g0, g1))
          rw [← hY]
          clear hY hb5 hSz hDz s0 s1 hml
          have z0 := HPY.out.s.cell (j := 0) rfl
          have z1 := HPY.out.s.cell (j := 1) rfl
          have hmY := HPY.out.s.lt
          simp only at z0 z1
          by_cases e0 : g0 = 0
          · by_cases e1 : g1 = 255
            · subst e0 e1
              go_upto_region 9 with fail
              refine wp_region_steps (X := Nat × (Unit)) (fun x w' => Below Y.heap.size Y w') (fun x j => doneL [0, 1, 0] x.1 j) (effL [0, 1, 0]) (0, ()) (fun x => [.agg #[.int .i64 0, .int .i64 255], .agg #[.int .i64 0, .int .i64 255], .bool true]) _ (by kernel_rfl) (by kernel_rfl) (by kernel_rfl) (fun x => by simp only [putsD, Act.put, List.setIfInBounds_toArray, List.set_cons_zero, List.set_cons_succ]; exact rfl) h0L (Below.drew (Below.refl _ _)) (fun x => ?_) (fun x wz hDz hSz => ?_)
              · refine AllS.val (by rfl) (by rfl) (fun w hSw hPw => ?_) ?_
                · (try dsimp only at hSw)
                  have c := (hSw.cell (p := ⟨m, 0, none⟩) hmY).trans z0
                  have c' := (hSw.cell (p := ⟨m, 1, none⟩) hmY).trans z1
                  go_simp
                refine AllS.turn (fun _ _ => rfl) (by rfl) (fun w hSw hPw K hK => ?_) ?_
                · (try dsimp only at hSw)
                  have h0 := leS (hPw.me rfl)
                  go_simp
                  go_at_call 44
                  (with_reducible refine (allValues_any _).mono ?_)
                  rintro e w7 ⟨rfl, hb7⟩
                  go_simp
                  have hx0 : x.1 = 0 := by exact Nat.le_zero.1 h0
                  obtain ⟨p, y⟩ := x
                  (try dsimp only at hx0)
                  subst hx0
                  exact hK (1, y) _ (nxtL rfl (by decide)) (below_via hSw hb7)
                refine AllS.val (by rfl) (by rfl) (fun w hSw hPw => by go_simp) ?_
                exact AllS.nil
              have HPZ := Lib.hid (HPY.out.below hSz)
              have HE : Hid ((0, 255) = doSp 5 (al, ah) (bl, bh)) := Lib.hid (HFN.out.done HAO.out HBO.out (.inr rfl))
              have q0 := HPZ.out.s.cell (j := 0) rfl
              have q1 := HPZ.out.s.cell (j := 1) rfl
              have r0 := HPZ.out.pd.r.cell (j := 0) rfl
              have r1 := HPZ.out.pd.r.cell (j := 1) rfl
              have k0 := HPZ.out.pd.r.frozen 0
              have k1 := HPZ.out.pd.r.frozen 1
              have hrl := HPZ.out.pd.r.lt
              have hml := HPZ.out.s.lt
              simp only at q0 q1
              clear hSz hDz
              go_wp2
              (try simp only [Exit.inBlock, Exit.then])
              exact bodyPost_ret (v := .agg #[.int .i64 0, .int .i64 255]) (results_cell_row rfl _ _ (n + 2) 23 _ _ _ rfl ((HPZ.out.pd.r.set 0 (.int .i64 0)).set 1 (.int .i64 255)) Try.underlying23 rfl (by kernel_rfl)) rfl ⟨by rw [← HE.out], by rw [HN.out]; exact (HPZ.out.pd.bel.setCell (by show n ≤ n + 2; omega) _).setCell (by show n ≤ n + 2; omega) _⟩
            · subst e0
              have e1b : (g1 == 255) = false := by simp [e1]
              go_upto_region 9 with fail
              refine wp_region_steps (X := Nat × (Unit)) (fun x w' => Below Y.heap.size Y w') (fun x j => doneL [0, 1, 0] x.1 j) (effL [0, 1, 0]) (0, ()) (fun x => [.agg #[.int .i64 0, .int .i64 g1], .agg #[.int .i64 0, .int .i64 255], .bool false]) _ (by kernel_rfl) (by kernel_rfl) (by kernel_rfl) (fun x => by simp only [putsD, Act.put, List.setIfInBounds_toArray, List.set_cons_zero, List.set_cons_succ]; exact rfl) h0L (Below.drew (Below.refl _ _)) (fun x => ?_) (fun x wz hDz hSz => ?_)
              · refine AllS.val (by rfl) (by rfl) (fun w hSw hPw => ?_) ?_
                · (try dsimp only at hSw)
                  have c := (hSw.cell (p := ⟨m, 0, none⟩) hmY).trans z0
                  have c' := (hSw.cell (p := ⟨m, 1, none⟩) hmY).trans z1
                  go_simp
                refine AllS.turn (fun _ _ => rfl) (by rfl) (fun w hSw hPw K hK => ?_) ?_
                · (try dsimp only at hSw)
                  have h0 := leS (hPw.me rfl)
                  go_simp
                  go_at_call 44
                  (with_reducible refine (allValues_any _).mono ?_)
                  rintro e w7 ⟨rfl, hb7⟩
                  go_simp
                  have hx0 : x.1 = 0 := by exact Nat.le_zero.1 h0
                  obtain ⟨p, y⟩ := x
                  (try dsimp only at hx0)
                  subst hx0
                  exact hK (1, y) _ (nxtL rfl (by decide)) (below_via hSw hb7)
                refine AllS.val (by rfl) (by rfl) (fun w hSw hPw => by go_simp) ?_
                exact AllS.nil
              have HPZ := Lib.hid (HPY.out.below hSz)
              clear hSz hDz
              go_wp2
              go_round
              case rel => exact ⟨yi + 1, _, by omega, by omega, by go_num, HFN, HPZ.out⟩
              case measure => (simp [intOf]; omega)
          · have e0b : (g0 == 0) = false := by simp [e0]
            go_upto_region 9 with fail
            refine wp_region_steps (X := Nat × (Unit)) (fun x w' => Below Y.heap.size Y w') (fun x j => doneL [0, 1, 0] x.1 j) (effL [0, 1, 0]) (0, ()) (fun x => [.agg #[.int .i64 g0, .int .i64 g1], .agg #[.int .i64 0, .int .i64 255], .bool false]) _ (by kernel_rfl) (by kernel_rfl) (by kernel_rfl) (fun x => by simp only [putsD, Act.put, List.setIfInBounds_toArray, List.set_cons_zero, List.set_cons_succ]; exact rfl) h0L (Below.drew (Below.refl _ _)) (fun x => ?_) (fun x wz hDz hSz => ?_)
            · refine AllS.val (by rfl) (by rfl) (fun w hSw hPw => ?_) ?_
              · (try dsimp only at hSw)
                have c := (hSw.cell (p := ⟨m, 0, none⟩) hmY).trans z0
                have c' := (hSw.cell (p := ⟨m, 1, none⟩) hmY).trans z1
                go_simp
              refine AllS.turn (fun _ _ => rfl) (by rfl) (fun w hSw hPw K hK => ?_) ?_
              · (try dsimp only at hSw)
                have h0 := leS (hPw.me rfl)
                go_simp
                go_at_call 44
                (with_reducible refine (allValues_any _).mono ?_)
                rintro e w7 ⟨rfl, hb7⟩
                go_simp
                have hx0 : x.1 = 0 := by exact Nat.le_zero.1 h0
                obtain ⟨p, y⟩ := x
                (try dsimp only at hx0)
                subst hx0
                exact hK (1, y) _ (nxtL rfl (by decide)) (below_via hSw hb7)
              refine AllS.val (by rfl) (by rfl) (fun w hSw hPw => by go_simp) ?_
              exact AllS.nil
            have HPZ := Lib.hid (HPY.out.below hSz)
            clear hSz hDz
            go_wp2
            go_round
            case rel => exact ⟨yi + 1, _, by omega, by omega, by go_num, HFN, HPZ.out⟩
            case measure => (simp [intOf]; omega)
        · have hyb2 : yi = bh + 1 := by omega
          have HS2 : Hid (FndI (al, ah) (bl, bh) (SnP (al, ah) (bl, bh) (xi + 1) bl) f) := Lib.hid (HS.out.congr fun u v => by rw [hyb2]; exact sn_row)
          clear hyb2
          go_wp2
          go_round
          case rel => exact ⟨xi + 1, f, by omega, by omega, by go_num, HS2, HPD.out⟩
          case measure => (simp [intOf]; omega)
    · have hxe : xi = ah + 1 := by omega
      obtain ⟨f0, f1⟩ := f
      have HE : Hid ((f0, f1) = doSp 5 (al, ah) (bl, bh)) := Lib.hid (HS.out.done HAO.out HBO.out (.inl fun u v hu hv => sn_all hxe hu hv))
      have q0 := HPD.out.s.cell (j := 0) rfl
      have q1 := HPD.out.s.cell (j := 1) rfl
      have r0 := HPD.out.pd.r.cell (j := 0) rfl
      have r1 := HPD.out.pd.r.cell (j := 1) rfl
      have k0 := HPD.out.pd.r.frozen 0
      have k1 := HPD.out.pd.r.frozen 1
      have hrl := HPD.out.pd.r.lt
      have hml := HPD.out.s.lt
      simp only at q0 q1
      clear hxe
      go_wp2
      (try simp only [Exit.inBlock, Exit.then])
      exact bodyPost_ret (v := .agg #[.int .i64 f0, .int .i64 f1]) (results_cell_row rfl _ _ (n + 2) 23 _ _ _ rfl ((HPD.out.pd.r.set 0 (.int .i64 f0)).set 1 (.int .i64 f1)) Try.underlying23 rfl (by kernel_rfl)) rfl ⟨by rw [← HE.out], by rw [HN.out]; exact (HPD.out.pd.bel.setCell (by show n ≤ n + 2; omega) _).setCell (by show n ≤ n + 2; omega) _⟩

theorem PdA.done {n : Nat} {a b : Int × Int} {w wr : World} (h : PdA n a b w wr) (x y : Int) : Own ((wr.setCell ⟨n + 2, 0, none⟩ (.int .i64 x)).setCell ⟨n + 2, 1, none⟩ (.int .i64 y)) (n + 2) 23 [.int .i64 x, .int .i64 y] ∧ Below n w ((wr.setCell ⟨n + 2, 0, none⟩ (.int .i64 x)).setCell ⟨n + 2, 1, none⟩ (.int .i64 y)) :=
  ⟨(h.r.set 0 _).set 1 _, (h.bel.setCell (by show n ≤ n + 2; omega) _).setCell (by show n ≤ n + 2; omega) _⟩

set_option maxHeartbeats 4000000 in
theorem results_any (o : Int) (a b : Int × Int) (w : World) (ho : 3 ≤ o) (ho' : o ≤ 6) (ha : SpOk a) (hb : SpOk b) :
    Calls Try.prog 19 #[.int .i64 o, .agg #[.int .i64 a.1, .int .i64 a.2], .agg #[.int .i64 b.1, .int .i64 b.2]] w fun e w' => e = .returned (.agg #[.int .i64 (doSp o a b).1, .int .i64 (doSp o a b).2]) ∧ Below w.heap.size w w' := by
  have HAO := Lib.hid ha
  have HBO := Lib.hid hb
  have HP0 := Lib.hid (PdA.new w a b)
  obtain ⟨ha0, ha1, ha2⟩ := ha
  obtain ⟨hb0, hb1, hb2⟩ := hb
  obtain ⟨al, ah⟩ := a
  obtain ⟨bl, bh⟩ := b
  simp only at ha0 ha1 ha2 hb0 hb1 hb2
  obtain ⟨⟨z0, z1⟩, hz⟩ : ∃ z, doSp o (al, ah) (bl, bh) = z := ⟨_, rfl⟩
  rw [hz]
  simp only
  have hcase : o = 3 ∨ o = 4 ∨ o = 5 ∨ o = 6 := by omega
  clear ho ho'
  rcases hcase with rfl | rfl | rfl | rfl
  · have HW : Hid (∀ Z : World, Calls Try.prog 32 #[.int .i64 (al + bl), .int .i64 (ah + bh)] Z fun e w' => e = .returned (.agg #[.int .i64 z0, .int .i64 z1]) ∧ Below Z.heap.size Z w') := Lib.hid fun Z => by
      have := wrap_any (al + bl) (ah + bh) Z (by omega) (by omega) (by omega)
      rw [show wrapS (al + bl) (ah + bh) = (z0, z1) from (do_add HAO.out HBO.out).trans hz] at this
      exact this
    clear hz
    go_enter Try.func19, Try.ntmps19
    go_wp2_with (go_at_call 32; (with_reducible refine (HW.out _).mono ?_); rintro e w1 ⟨rfl, hq1⟩; have hp1 := HP0.out.below hq1; have r0 := hp1.r.cell (j := 0) rfl; have r1 := hp1.r.cell (j := 1) rfl; have k0 := hp1.r.frozen 0; have k1 := hp1.r.frozen 1; have hl := hp1.r.lt)
    (try simp only [Exit.inBlock, Exit.then])
    exact bodyPost_ret (v := .agg #[.int .i64 z0, .int .i64 z1]) (results_cell_row rfl _ _ (w.heap.size + 2) 23 _ _ _ rfl (hp1.done z0 z1).1 Try.underlying23 rfl (by kernel_rfl)) rfl ⟨rfl, (hp1.done z0 z1).2⟩
  · have HW : Hid (∀ Z : World, Calls Try.prog 32 #[.int .i64 (al - bh + 256), .int .i64 (ah - bl + 256)] Z fun e w' => e = .returned (.agg #[.int .i64 z0, .int .i64 z1]) ∧ Below Z.heap.size Z w') := Lib.hid fun Z => by
      have := wrap_any (al - bh + 256) (ah - bl + 256) Z (by omega) (by omega) (by omega)
      rw [show wrapS (al - bh + 256) (ah - bl + 256) = (z0, z1) from (do_sub HAO.out HBO.out).trans hz] at this
      exact this
    clear hz
    go_enter Try.func19, Try.ntmps19
    go_wp2_with (go_at_call 32; (with_reducible refine (HW.out _).mono ?_); rintro e w1 ⟨rfl, hq1⟩; have hp1 := HP0.out.below hq1; have r0 := hp1.r.cell (j := 0) rfl; have r1 := hp1.r.cell (j := 1) rfl; have k0 := hp1.r.frozen 0; have k1 := hp1.r.frozen 1; have hl := hp1.r.lt)
    (try simp only [Exit.inBlock, Exit.then])
    exact bodyPost_ret (v := .agg #[.int .i64 z0, .int .i64 z1]) (results_cell_row rfl _ _ (w.heap.size + 2) 23 _ _ _ rfl (hp1.done z0 z1).1 Try.underlying23 rfl (by kernel_rfl)) rfl ⟨rfl, (hp1.done z0 z1).2⟩
  · have HW : Hid (∀ Z : World, Calls Try.prog 33 #[.agg #[.int .i64 al, .int .i64 ah], .agg #[.int .i64 bl, .int .i64 bh]] Z fun e w' => e = .returned (.agg #[.int .i64 z0, .int .i64 z1]) ∧ Below Z.heap.size Z w') := Lib.hid fun Z => by
      have := products_any (al, ah) (bl, bh) Z HAO.out HBO.out
      rw [hz] at this
      exact this
    clear hz
    go_enter Try.func19, Try.ntmps19
    go_wp2_with (go_at_call 33; (with_reducible refine (HW.out _).mono ?_); rintro e w1 ⟨rfl, hq1⟩; have hp1 := HP0.out.below hq1; have r0 := hp1.r.cell (j := 0) rfl; have r1 := hp1.r.cell (j := 1) rfl; have k0 := hp1.r.frozen 0; have k1 := hp1.r.frozen 1; have hl := hp1.r.lt)
    (try simp only [Exit.inBlock, Exit.then])
    exact bodyPost_ret (v := .agg #[.int .i64 z0, .int .i64 z1]) (results_cell_row rfl _ _ (w.heap.size + 2) 23 _ _ _ rfl (hp1.done z0 z1).1 Try.underlying23 rfl (by kernel_rfl)) rfl ⟨rfl, (hp1.done z0 z1).2⟩
  · have hle := (do_less HAO.out HBO.out).trans hz
    simp only [Prod.mk.injEq] at hle
    have HA1 : Hid (∀ Z : World, Calls Try.prog 34 #[.int .i64 6, .int .i64 ah, .int .i64 bl] Z fun e w' => e = .returned (.int .i64 z0) ∧ Z = w') := Lib.hid fun Z => by
      have := apply_any 6 ah bl Z (by omega) (by omega) (by omega) (by omega)
      rw [hle.1] at this
      exact this
    have HA2 : Hid (∀ Z : World, Calls Try.prog 34 #[.int .i64 6, .int .i64 al, .int .i64 bh] Z fun e w' => e = .returned (.int .i64 z1) ∧ Z = w') := Lib.hid fun Z => by
      have := apply_any 6 al bh Z (by omega) (by omega) (by omega) (by omega)
      rw [hle.2] at this
      exact this
    clear hz hle
    go_enter Try.func19, Try.ntmps19
    go_upto_region 8 with fail
    obtain ⟨X, hX⟩ : ∃ X, X = ((w.alloc (.cells #[.int .i64 al, .int .i64 ah] 23)).alloc (.cells #[.int .i64 bl, .int .i64 bh] 23)).alloc (.cells #[.int .i64 0, .int .i64 0] 23) := ⟨_, rfl⟩
    simp only at HP0
    rw [← hX] at HP0 ⊢
    clear hX
    obtain ⟨n, hn⟩ : ∃ n, w.heap.size = n := ⟨_, rfl⟩
    have HN := Lib.hid hn
    rw [hn] at HP0
    simp only [hn]
    clear hn
    have a0 := HP0.out.a.cell (j := 0) rfl
    have a1 := HP0.out.a.cell (j := 1) rfl
    have b0 := HP0.out.b.cell (j := 0) rfl
    have b1 := HP0.out.b.cell (j := 1) rfl
    have r0 := HP0.out.r.cell (j := 0) rfl
    have r1 := HP0.out.r.cell (j := 1) rfl
    have k0 := HP0.out.r.frozen 0
    have k1 := HP0.out.r.frozen 1
    have hl := HP0.out.r.lt
    simp only at a0 a1 b0 b1
    refine wp_region_steps (X := Nat × (Unit)) (fun x w' => (x.1 ≤ 0 → w' = X.drew) ∧ (1 ≤ x.1 → w' = (X.drew.setCell ⟨n + 2, 0, none⟩ (.int .i64 z0)).setCell ⟨n + 2, 1, none⟩ (.int .i64 z1))) (fun x j => doneL [0, 0, 0, 0, 0, 0, 0, 0, 0, 0, 0, 0, 0, 1] x.1 j) (effL [0, 0, 0, 0, 0, 0, 0, 0, 0, 0, 0, 0, 0, 1]) (0, ()) (fun x => [.int .i64 6, .pointer (some ⟨n, 1, none⟩), .int .i64 ah, .pointer (some ⟨n + 1, 0, none⟩), .int .i64 bl, .int .i64 z0, .int .i64 6, .pointer (some ⟨n, 0, none⟩), .int .i64 al, .pointer (some ⟨n + 1, 1, none⟩), .int .i64 bh, .int .i64 z1, .agg #[.int .i64 z0, .int .i64 z1], undef]) _ (by kernel_rfl) (by kernel_rfl) (by kernel_rfl) (fun x => by simp only [putsD, Act.put, List.setIfInBounds_toArray, List.set_cons_zero, List.set_cons_succ]; exact rfl) h0L ⟨fun _ => rfl, fun h => absurd h (by decide)⟩ (fun x => ?_) (fun x wz hDz hSz => ?_)
    · refine AllS.val (by rfl) (by rfl) (fun w hSw hPw => by go_simp) ?_
      refine AllS.val (by rfl) (by rfl) (fun w hSw hPw => by go_simp) ?_
      refine AllS.val (by rfl) (by rfl) (fun w hSw hPw => ?_) ?_
      · (try dsimp only at hSw)
        have hn := leS (hPw.not (j := 13) rfl (by kernel_rfl))
        have hq := hSw.1 hn
        subst hq
        go_simp
      refine AllS.val (by rfl) (by rfl) (fun w hSw hPw => by go_simp) ?_
      refine AllS.val (by rfl) (by rfl) (fun w hSw hPw => ?_) ?_
      · (try dsimp only at hSw)
        have hn := leS (hPw.not (j := 13) rfl (by kernel_rfl))
        have hq := hSw.1 hn
        subst hq
        go_simp
      refine AllS.turn (fun _ _ => rfl) (by rfl) (fun w hSw hPw K hK => ?_) ?_
      · (try dsimp only at hSw)
        go_simp
        go_at_call 34
        (with_reducible refine (HA1.out _).mono ?_)
        rintro e w7 ⟨rfl, rfl⟩
        go_simp
        exact hK x _ (Nxt.none rfl) hSw
      refine AllS.val (by rfl) (by rfl) (fun w hSw hPw => by go_simp) ?_
      refine AllS.val (by rfl) (by rfl) (fun w hSw hPw => by go_simp) ?_
      refine AllS.val (by rfl) (by rfl) (fun w hSw hPw => ?_) ?_
      · (try dsimp only at hSw)
        have hn := leS (hPw.not (j := 13) rfl (by kernel_rfl))
        have hq := hSw.1 hn
        subst hq
        go_simp
      refine AllS.val (by rfl) (by rfl) (fun w hSw hPw => by go_simp) ?_
      refine AllS.val (by rfl) (by rfl) (fun w hSw hPw => ?_) ?_
      · (try dsimp only at hSw)
        have hn := leS (hPw.not (j := 13) rfl (by kernel_rfl))
        have hq := hSw.1 hn
        subst hq
        go_simp
      refine AllS.turn (fun _ _ => rfl) (by rfl) (fun w hSw hPw K hK => ?_) ?_
      · (try dsimp only at hSw)
        go_simp
        go_at_call 34
        (with_reducible refine (HA2.out _).mono ?_)
        rintro e w7 ⟨rfl, rfl⟩
        go_simp
        exact hK x _ (Nxt.none rfl) hSw
      refine AllS.val (by rfl) (by rfl) (fun w hSw hPw => by go_simp) ?_
      refine AllS.turn (fun _ _ => rfl) (by rfl) (fun w hSw hPw K hK => ?_) ?_
      · (try dsimp only at hSw)
        have h0 := leS (hPw.me rfl)
        have hq := hSw.1 h0
        have hx0 : x.1 = 0 := by exact Nat.le_zero.1 h0
        obtain ⟨p, y⟩ := x
        (try dsimp only at hx0)
        subst hx0 hq
        go_simp
        exact hK (1, y) _ (nxtL rfl (by decide)) ⟨fun h => absurd h (by simp), fun _ => rfl⟩
      exact AllS.nil
    have hw := hSz.2 (geS (hDz 13 (by decide) (by decide)))
    subst hw
    have HD := (HP0.out.below (Below.refl _ _).drew).done z0 z1
    go_wp2
    (try simp only [Exit.inBlock, Exit.then])
    exact bodyPost_ret (v := .agg #[.int .i64 z0, .int .i64 z1]) (results_cell_row rfl _ _ (n + 2) 23 _ _ _ rfl HD.1 Try.underlying23 rfl (by kernel_rfl)) rfl ⟨rfl, by rw [HN.out]; exact HD.2⟩

/-- results: a struct in a box, and a slot -/
theorem results_row_tmp {P : Program} {fn : Func} {p u : Tmp} {ty : TypeId} (h : fn.results = #[.cell p ty, .tmp u]) (tmps : Array Value) (w : World) (g : Nat) (t : TypeId) (cs : Array Value) (fr : Nat × Nat) (d : TypeDesc)
    (hp : tmps.getD p undef = .pointer (some ⟨g, 0, none⟩)) (hg : w.heap[g]? = some (.cells cs t fr))
    (hu : P.underlying ty = some d) (hd : (match d with | .struct _ | .array _ _ => true | _ => false) = true) (hi : (P.info? ty).map (·.size) = some cs.size)
    {x : Value} (hx : tmps.getD u undef = x) : (results fn tmps).run P w = .ok (.tuple #[.agg cs, x]) w := by
  rw [results_cell_tmp h, hp, hx]
  simp [asAddr, run_loadVar_row w g t ty cs fr d hg hu hd hi]

set_option maxHeartbeats 4000000 in
theorem spDo_ok (o : Int) (a b : Int × Int) (w : World) (ho : 3 ≤ o) (ho' : o ≤ 6) (ha : SpOk a) (hb : SpOk b) :
    Calls Try.prog 7 #[.int .i64 o, .agg #[.int .i64 a.1, .int .i64 a.2], .agg #[.int .i64 b.1, .int .i64 b.2]] w fun e w' => e = .returned (.tuple #[.agg #[.int .i64 (doSp o a b).1, .int .i64 (doSp o a b).2], .int .i64 0]) ∧ Below w.heap.size w w' := by
  have HP0 := Lib.hid (PdA.new w a b)
  have HV1 : Hid (∀ Z : World, Calls Try.prog 18 #[.agg #[.int .i64 a.1, .int .i64 a.2]] Z fun e w' => e = .returned (.bool true) ∧ Below Z.heap.size Z w') := Lib.hid fun Z => by
    have := isValid_any a.1 a.2 Z
    rwa [decide_eq_true (show SpOk (a.1, a.2) from ha)] at this
  have HV2 : Hid (∀ Z : World, Calls Try.prog 18 #[.agg #[.int .i64 b.1, .int .i64 b.2]] Z fun e w' => e = .returned (.bool true) ∧ Below Z.heap.size Z w') := Lib.hid fun Z => by
    have := isValid_any b.1 b.2 Z
    rwa [decide_eq_true (show SpOk (b.1, b.2) from hb)] at this
  have HRS : Hid (∀ Z : World, Calls Try.prog 19 #[.int .i64 o, .agg #[.int .i64 a.1, .int .i64 a.2], .agg #[.int .i64 b.1, .int .i64 b.2]] Z fun e w' => e = .returned (.agg #[.int .i64 (doSp o a b).1, .int .i64 (doSp o a b).2]) ∧ Below Z.heap.size Z w') := Lib.hid fun Z => results_any o a b Z ho ho' ha hb
  obtain ⟨⟨z0, z1⟩, hz⟩ : ∃ z, doSp o a b = z := ⟨_, rfl⟩
  rw [hz] at HRS ⊢
  obtain ⟨al, ah⟩ := a
  obtain ⟨bl, bh⟩ := b
  simp only at HV1 HV2 HRS HP0 ⊢
  clear hz ha hb
  have hcase : o = 3 ∨ o = 4 ∨ o = 5 ∨ o = 6 := by omega
  clear ho ho'
  rcases hcase with rfl | rfl | rfl | rfl
  all_goals (
    go_enter Try.func7, Try.ntmps7
    go_wp2_with (first
      | (go_at_call 18; (with_reducible refine (HV1.out _).mono ?_); rintro e w1 ⟨rfl, hq1⟩; have hp1 := HP0.out.below hq1; have b0 := hp1.b.cell (j := 0) rfl; have b1 := hp1.b.cell (j := 1) rfl; have hl1 := hp1.b.lt)
      | (go_at_call 18; (with_reducible refine (HV2.out _).mono ?_); rintro e w2 ⟨rfl, hq2⟩; have hp2 := hp1.below hq2; have a0' := hp2.a.cell (j := 0) rfl; have a1' := hp2.a.cell (j := 1) rfl; have b0' := hp2.b.cell (j := 0) rfl; have b1' := hp2.b.cell (j := 1) rfl; have hl2 := hp2.a.lt; have hl3 := hp2.b.lt)
      | (go_at_call 19; (with_reducible refine (HRS.out _).mono ?_); rintro e w3 ⟨rfl, hq3⟩; have hp3 := hp2.below hq3; have r0 := hp3.r.cell (j := 0) rfl; have r1 := hp3.r.cell (j := 1) rfl; have k0 := hp3.r.frozen 0; have k1 := hp3.r.frozen 1; have hl4 := hp3.r.lt))
    (try simp only [Exit.inBlock, Exit.then])
    exact bodyPost_ret (v := .tuple #[.agg #[.int .i64 z0, .int .i64 z1], .int .i64 0]) (results_row_tmp rfl _ _ (w.heap.size + 2) 23 _ _ _ rfl (hp3.done z0 z1).1 Try.underlying23 rfl (by kernel_rfl) rfl) rfl ⟨rfl, (hp3.done z0 z1).2⟩)

set_option maxHeartbeats 4000000 in
theorem spDo_kind (o : Int) (a b : Int × Int) (w : World) (ho : o < 3 ∨ 6 < o) :
    Calls Try.prog 7 #[.int .i64 o, .agg #[.int .i64 a.1, .int .i64 a.2], .agg #[.int .i64 b.1, .int .i64 b.2]] w fun e w' => e = .returned (.tuple #[.agg #[.int .i64 0, .int .i64 0], .int .i64 6]) ∧ Below w.heap.size w w' := by
  have HP0 := Lib.hid (PdA.new w a b)
  obtain ⟨al, ah⟩ := a
  obtain ⟨bl, bh⟩ := b
  simp only at HP0 ⊢
  have o3 : (o == 3) = false := by simp; omega
  have o4 : (o == 4) = false := by simp; omega
  have o5 : (o == 5) = false := by simp; omega
  have o6 : (o == 6) = false := by simp; omega
  clear ho
  go_enter Try.func7, Try.ntmps7
  go_wp2
  (try simp only [Exit.inBlock, Exit.then])
  exact bodyPost_ret (v := .tuple #[.agg #[.int .i64 0, .int .i64 0], .int .i64 6]) (results_row_tmp rfl _ _ (w.heap.size + 2) 23 _ _ _ rfl HP0.out.r Try.underlying23 rfl (by kernel_rfl) rfl) rfl ⟨rfl, by go_grown⟩

set_option maxHeartbeats 4000000 in
theorem spDo_range (o : Int) (a b : Int × Int) (w : World) (ho : 3 ≤ o) (ho' : o ≤ 6) (hab : ¬ (SpOk a ∧ SpOk b)) :
    Calls Try.prog 7 #[.int .i64 o, .agg #[.int .i64 a.1, .int .i64 a.2], .agg #[.int .i64 b.1, .int .i64 b.2]] w fun e w' => e = .returned (.tuple #[.agg #[.int .i64 0, .int .i64 0], .int .i64 4]) ∧ Below w.heap.size w w' := by
  have HP0 := Lib.hid (PdA.new w a b)
  have hcase : o = 3 ∨ o = 4 ∨ o = 5 ∨ o = 6 := by omega
  clear ho ho'
  by_cases ha : SpOk a
  · have hb : ¬ SpOk b := fun h => hab ⟨ha, h⟩
    have HV1 : Hid (∀ Z : World, Calls Try.prog 18 #[.agg #[.int .i64 a.1, .int .i64 a.2]] Z fun e w' => e = .returned (.bool true) ∧ Below Z.heap.size Z w') := Lib.hid fun Z => by
      have := isValid_any a.1 a.2 Z
      rwa [decide_eq_true (show SpOk (a.1, a.2) from ha)] at this
    have HV2 : Hid (∀ Z : World, Calls Try.prog 18 #[.agg #[.int .i64 b.1, .int .i64 b.2]] Z fun e w' => e = .returned (.bool false) ∧ Below Z.heap.size Z w') := Lib.hid fun Z => by
      have := isValid_any b.1 b.2 Z
      rwa [decide_eq_false (show ¬ SpOk (b.1, b.2) from hb)] at this
    obtain ⟨al, ah⟩ := a
    obtain ⟨bl, bh⟩ := b
    simp only at HV1 HV2 HP0 ⊢
    clear ha hb hab
    rcases hcase with rfl | rfl | rfl | rfl
    all_goals (
      go_enter Try.func7, Try.ntmps7
      go_wp2_with (first
        | (go_at_call 18; (with_reducible refine (HV1.out _).mono ?_); rintro e w1 ⟨rfl, hq1⟩; have hp1 := HP0.out.below hq1; have b0 := hp1.b.cell (j := 0) rfl; have b1 := hp1.b.cell (j := 1) rfl; have hl1 := hp1.b.lt)
        | (go_at_call 18; (with_reducible refine (HV2.out _).mono ?_); rintro e w2 ⟨rfl, hq2⟩; have hp2 := hp1.below hq2; have r0 := hp2.r.cell (j := 0) rfl; have r1 := hp2.r.cell (j := 1) rfl; have k0 := hp2.r.frozen 0; have k1 := hp2.r.frozen 1; have hl4 := hp2.r.lt))
      (try simp only [Exit.inBlock, Exit.then])
      exact bodyPost_ret (v := .tuple #[.agg #[.int .i64 0, .int .i64 0], .int .i64 4]) (results_row_tmp rfl _ _ (w.heap.size + 2) 23 _ _ _ rfl (hp2.done 0 0).1 Try.underlying23 rfl (by kernel_rfl) rfl) rfl ⟨rfl, (hp2.done 0 0).2⟩)
  · have HV1 : Hid (∀ Z : World, Calls Try.prog 18 #[.agg #[.int .i64 a.1, .int .i64 a.2]] Z fun e w' => e = .returned (.bool false) ∧ Below Z.heap.size Z w') := Lib.hid fun Z => by
      have := isValid_any a.1 a.2 Z
      rwa [decide_eq_false (show ¬ SpOk (a.1, a.2) from ha)] at this
    obtain ⟨al, ah⟩ := a
    obtain ⟨bl, bh⟩ := b
    simp only at HV1 HP0 ⊢
    clear ha hab
    rcases hcase with rfl | rfl | rfl | rfl
    all_goals (
      go_enter Try.func7, Try.ntmps7
      go_wp2_with (go_at_call 18; (with_reducible refine (HV1.out _).mono ?_); rintro e w1 ⟨rfl, hq1⟩; have hp1 := HP0.out.below hq1; have r0 := hp1.r.cell (j := 0) rfl; have r1 := hp1.r.cell (j := 1) rfl; have k0 := hp1.r.frozen 0; have k1 := hp1.r.frozen 1; have hl4 := hp1.r.lt)
      (try simp only [Exit.inBlock, Exit.then])
      exact bodyPost_ret (v := .tuple #[.agg #[.int .i64 0, .int .i64 0], .int .i64 4]) (results_row_tmp rfl _ _ (w.heap.size + 2) 23 _ _ _ rfl (hp1.done 0 0).1 Try.underlying23 rfl (by kernel_rfl) rfl) rfl ⟨rfl, (hp1.done 0 0).2⟩)

theorem doIs : DoIs := ⟨fun o a b w h1 h2 h3 h4 => spDo_ok o a b w h1 h2 h3 h4, fun o a b w h => spDo_kind o a b w h, fun o a b w h1 h2 h => spDo_range o a b w h1 h2 h⟩

end Go.Proofs.Ytidjnmigbhaekaa
