/-
  slices.Clone of spans, span.with, span.behind (R2).
-/
import Derived.Test.YtidjnmigbhaekaaSpanDo
import Derived.Test.YtidjnmigbhaekaaSpanKn
namespace Go.Proofs.Ytidjnmigbhaekaa
open Go.RowKit
set_option linter.unusedSimpArgs false
set_option linter.unusedVariables false
set_option maxRecDepth 100000

set_option maxHeartbeats 4000000 in
theorem cloneS_any (VA : Option Addr) (n vcap : Nat) (v : List (Int × Int)) (w : World) (hv : RdM w w.heap.size VA v) (hl : v.length = n) (hn : 1 ≤ n) (hn6 : n ≤ 6) :
    Calls Try.prog 22 #[.slice VA n vcap] w fun e w' => PutTo w n v e w' := by
  obtain ⟨ad, x, y, rfl, _, _, _⟩ := RdM.at_ hv (k := 0) (by omega)
  have HO1C : Hid (∀ u ∈ rv cMv v, u.oneCell' = true) := Lib.hid (rv_all (p := fun u => u.oneCell' = true) cMv_one v)
  have HL1 : Hid ((rv cMv v).length = n * 2) := Lib.hid (by rw [rv_len cMv_len, hl])
  have HNW : Hid (∀ Z : World, Below w.heap.size w Z → ∀ a, some ad = some a → ∀ j u, (rv cMv v)[j]? = some u → Z.cell? (a.add j) = some u) := Lib.hid fun Z hZ => (RdM.below hv hZ (Nat.le_refl _)).news cMv_len
  have HVL := Lib.hid hl
  have ha_ : 0 + n ≤ maxLen := by unfold maxLen; omega
  have hb_ : (0 + n) * 16 ≤ 140737488355328 := by omega
  have qT : ∀ (w : World) (a : Option Addr) (n c n' c' : Nat), (binOp .eql 31 (.slice a n c) (.slice none n' c')).run Try.prog w = .ok (.bool a.isNone) w := fun w a n c n' c' => Lib.run_eql_slice_nil w _ _ a n c n' c' Try.underlying31
  clear hl hv
  go_enter Try.func22, Try.ntmps22
  go_wp2_with (at_builtin; refine wpList_app rfl (.tmp 5) (.tmp 6) 31 rfl w.heap.size 23 2 16 span_app [] rfl (own_empty2 _ _ _ _ (by simp) (by simp)) (rv cMv v) rfl HL1.out (fun h => by cases h) (HNW.out _ (by go_grown)) HO1C.out ha_ hb_ (by simp) ?_; intro A1 c1 w1 hown1 hg1 hb1; rw [Nat.zero_add, List.nil_append] at hown1)
  obtain ⟨g, rfl, hg0, hg1'⟩ := own_form hown1 (by omega)
  have hbw : Below w.heap.size w w1 := ((by go_grown : Below w.heap.size w (w.alloc (.cells #[] 23)))).trans hb1
  clear hg1 hb1
  go_ret
  exact ⟨g, c1, by simp, ⟨hown1, HVL.out⟩, hbw⟩

set_option maxHeartbeats 4000000 in
theorem with_any (VA : Option Addr) (n vcap tn : Nat) (v : List (Int × Int)) (s : Int × Int) (w : World) (hv : RdM w w.heap.size VA v) (hl : v.length = n) (hn6 : n ≤ 6) (ht : tn < n) :
    Calls Try.prog 49 #[.slice VA n vcap, .int .i64 tn, .agg #[.int .i64 s.1, .int .i64 s.2]] w fun e w' => PutTo w n (v.set tn s) e w' := by
  obtain ⟨s0, s1⟩ := s
  simp only
  have HVL := Lib.hid hl
  have HCL := Lib.hid (fun (Z : World) (hZ : Below w.heap.size w Z) => cloneS_any VA n vcap v Z ((RdM.below hv hZ (Nat.le_refl _)).more hZ.size) hl (by omega) hn6)
  have HS := Lib.hid (Own.new w 23 [.int .i64 s0, .int .i64 s1])
  obtain ⟨x, hx⟩ : ∃ x, v[tn]? = some x := ⟨_, List.getElem?_eq_getElem (by omega)⟩
  have HX := Lib.hid hx
  have htl : tn < v.length := by omega
  have HTL := Lib.hid htl
  clear hl hv hx htl
  go_enter Try.func49, Try.ntmps49
  go_wp2_with (go_at_call 22; refine (HCL.out _ (by go_grown)).mono ?_; rintro e w1 ⟨g, c1, rfl, ho1, hb1⟩; have hq := HS.out.below hb1 HS.out.lt; have k0 := hq.cell (j := 0) rfl; have k1 := hq.cell (j := 1) rfl; have hql := hq.lt; obtain ⟨q0, q1⟩ := ho1.cells HX.out; have f0 := ho1.frozen (tn * 2); have f1 := ho1.frozen (tn * 2 + 1); have hgl := ho1.lt)
  have hg1 : w.heap.size + 1 ≤ g := by simpa using hgl.1
  have hb2 : Below w.heap.size w w1 := Below.trans (by go_grown) (hb1.mono (by simp))
  go_ret
  exact ⟨g, c1, rfl, ⟨own_mono (ho1.put HTL.out (s0, s1)).1 (by simp), (ho1.put HTL.out (s0, s1)).2⟩, (hb2.setCell (by show w.heap.size ≤ g; omega) _).setCell (by show w.heap.size ≤ g; omega) _⟩

set_option maxHeartbeats 16000000 in
theorem behindS_any (n : Nat) (A VA : Option Addr) (cl cap vc : Nat) (code : List St) (v : List (Int × Int)) (w : World) (hx : RdS w w.heap.size A code) (hv : RdM w w.heap.size VA v) (hl : code.length = cl) (hm : cl ≤ 65536) (hc : ckStepsF n n code = 0) (hok : RSp n v) (hn : 1 ≤ n) (hn6 : n ≤ 6) :
    Calls Try.prog 38 #[.slice A cl cap, .slice VA n vc] w fun e w' => PutTo w n (bhSp code v) e w' := by
  have HL := Lib.hid hl
  have HC := Lib.hid hc
  have HD0 : Hid (BsAt n code v 0 v) := Lib.hid ⟨hok, rfl⟩
  have HCLN := Lib.hid (cloneS_any VA n vc v w hv hok.1 hn hn6)
  clear hl hc hok hv
  go_enter Try.func38, Try.ntmps38
  go_wp2_with (go_at_call 22; refine HCLN.out.mono ?_; rintro e w1 ⟨g, c1, rfl, ho1, hbw⟩)
  have HO1 := Lib.hid ho1
  clear ho1
  go_loopw [12] (fun i wr => ∃ (k : Nat) (r : List (Int × Int)), k ≤ cl ∧ i = .int .i64 k ∧ Hid (BsAt n code v k r) ∧ OwnSp wr w.heap.size g n c1 r ∧ Below w.heap.size w wr) (fun i _ => cl - (intOf i).toNat)
  case atStart => exact ⟨0, v, Nat.zero_le _, by first | rfl | simp, HD0, HO1.out, hbw⟩
  case round =>
    obtain ⟨k, r, hk, rfl, HR, ho, hb⟩ := hrel
    have hsz := hb.size
    by_cases hlt : k < cl
    · obtain ⟨ad, o, t, a, b, vv, rfl, hbl, hd, hc0, hc1, hc2, hc3, hc4⟩ := (RdS.below hx hb (Nat.le_refl _)).at_ (k := k) (by rw [HL.out]; exact hlt)
      have hcks := ckStepsF_at HC.out hd
      simp only [] at hcks
      obtain ⟨⟨ht0, ht1⟩, hcase⟩ := ckStep_cases hcks
      obtain ⟨tn, rfl⟩ := Int.eq_ofNat_of_zero_le ht0
      have htn : tn < n := by omega
      have hrl : r.length = n := HR.out.1.1
      have HRL := Lib.hid hrl
      have HST : Hid (∀ x, mkSp ⟨o, tn, a, b, vv⟩ r = x → BsAt n code v (k + 1) (r.set tn x)) := Lib.hid fun x hx => HR.out.step hd hcks (by simp) hx
      obtain ⟨⟨t0, t1⟩, hrt⟩ : ∃ x, r[tn]? = some x := ⟨_, List.getElem?_eq_getElem (by rw [hrl]; exact htn)⟩
      have HRT := Lib.hid hrt
      have HO := Lib.hid ho
      have hgl := ho.lt
      have hg0 := ho.lt.1
      clear hd hcks hrl hrt ho ht0 ht1
      have hgS : g < wr.heap.size := hgl.2
      obtain ⟨X, hX⟩ : ∃ X, X = wr.alloc (.cells #[.int .i64 o, .int .i64 tn, .int .i64 a, .int .i64 b, .int .i64 vv] 54) := ⟨_, rfl⟩
      have hbX : Below wr.heap.size wr X := by rw [hX]; go_grown
      have hS : Own X wr.heap.size 54 [.int .i64 o, .int .i64 tn, .int .i64 a, .int .i64 b, .int .i64 vv] := by rw [hX]; exact Own.new wr _ [_, _, _, _, _]
      have HX := Lib.hid hX
      have HOX := Lib.hid (HO.out.below hbX)
      clear hX
      have HS := Lib.hid hS
      have HBX : Hid (Below w.heap.size w X) := Lib.hid (hb.trans (hbX.mono hsz))
      clear hS hbX
      obtain ⟨q0, q1⟩ := HOX.out.cells HRT.out
      simp only at q0 q1
      have hgX := HOX.out.lt.2
      have HFIN : Hid (∀ (w5 : World) (z : Int × Int), Below X.heap.size X w5 → OwnSp ((w5.setCell ⟨g, tn * 2, none⟩ (.int .i64 z.1)).setCell ⟨g, tn * 2 + 1, none⟩ (.int .i64 z.2)) w.heap.size g n c1 (r.set tn z) ∧ Below w.heap.size w ((w5.setCell ⟨g, tn * 2, none⟩ (.int .i64 z.1)).setCell ⟨g, tn * 2 + 1, none⟩ (.int .i64 z.2))) := Lib.hid fun w5 z h5 =>
        ⟨(HOX.out.below h5).put (by rw [HRL.out]; exact htn) z, (((HBX.out.trans (h5.mono HBX.out.size))).setCell (by show w.heap.size ≤ g; omega) _).setCell (by show w.heap.size ≤ g; omega) _⟩
      rcases hcase with ⟨rfl, h2, h3⟩ | ⟨rfl, h2, h3⟩ | ⟨h1, h2, h3, h4, h5, h6⟩
      · have HB := Lib.hid (HST.out (vv, vv) (mkSp_num rfl))
        go_upto_region 8 with fail
        rw [← HX.out]
        have e1 := HS.out.cell (j := 1) rfl
        have e4 := HS.out.cell (j := 4) rfl
        have hSl := HS.out.lt
        obtain ⟨b7, hb7⟩ : ∃ b7, wr.heap.size = b7 := ⟨_, rfl⟩
        rw [hb7] at e1 e4 hSl
        simp only [hb7]
        clear hb7
        refine wp_region_steps (X := Nat × (Unit)) (fun x w' => (x.1 ≤ 1 → Below X.heap.size X w') ∧ (2 ≤ x.1 → ∃ w5, Below X.heap.size X w5 ∧ w' = (w5.setCell ⟨g, tn * 2, none⟩ (.int .i64 vv)).setCell ⟨g, tn * 2 + 1, none⟩ (.int .i64 vv))) (fun x j => doneL [0, 0, 0, 0, 0, 1, 0, 2] x.1 j) (effL [0, 0, 0, 0, 0, 1, 0, 2]) (0, ()) (fun x => [.slice (some ⟨g, 0, none⟩) n c1, .pointer (some ⟨b7, 1, none⟩), .int .i64 (tn : Nat), .pointer (some ⟨b7, 4, none⟩), .int .i64 vv, .agg #[.int .i64 vv, .int .i64 vv], .pointer (some ⟨g, tn * 2, none⟩), undef]) _ (by kernel_rfl) (by kernel_rfl) (by kernel_rfl) (fun x => by simp only [putsD, Act.put, List.setIfInBounds_toArray, List.set_cons_zero, List.set_cons_succ]; exact rfl) h0L ⟨fun _ => Below.drew (Below.refl _ _), fun h => absurd h (by decide)⟩ (fun x => ?_) (fun x wz hDz hSz => ?_)
        · refine AllS.val (by rfl) (by rfl) (fun w hSw hPw => by go_simp) ?_
          refine AllS.val (by rfl) (by rfl) (fun w hSw hPw => by go_simp) ?_
          refine AllS.val (by rfl) (by rfl) (fun w hSw hPw => ?_) ?_
          · (try dsimp only at hSw)
            have hn := leS (hPw.not (j := 7) rfl (by kernel_rfl))
            have hq := hSw.1 hn
            have c := (hq.cell (p := ⟨b7, 1, none⟩) hSl).trans e1
            go_simp
          refine AllS.val (by rfl) (by rfl) (fun w hSw hPw => by go_simp) ?_
          refine AllS.val (by rfl) (by rfl) (fun w hSw hPw => ?_) ?_
          · (try dsimp only at hSw)
            have hn := leS (hPw.not (j := 7) rfl (by kernel_rfl))
            have hq := hSw.1 hn
            have c := (hq.cell (p := ⟨b7, 4, none⟩) hSl).trans e4
            go_simp
          refine AllS.turn (fun _ _ => rfl) (by rfl) (fun w hSw hPw K hK => ?_) ?_
          · (try dsimp only at hSw)
            have h0 := leS (hPw.me rfl)
            have hq := hSw.1 (Nat.le_trans h0 (by decide))
            go_simp
            go_at_call 45
            (with_reducible refine (oneValue_any vv _).mono ?_)
            rintro e w7 ⟨rfl, hb7⟩
            go_simp
            have hx0 : x.1 = 0 := by exact Nat.le_zero.1 h0
            obtain ⟨p, y⟩ := x
            (try dsimp only at hx0)
            subst hx0
            exact hK (1, y) _ (nxtL rfl (by decide)) ⟨fun _ => below_via hq hb7, fun h => absurd h (by simp)⟩
          refine AllS.val (by rfl) (by rfl) (fun w hSw hPw => by go_simp) ?_
          refine AllS.turn (fun _ _ => rfl) (by rfl) (fun w hSw hPw K hK => ?_) ?_
          · (try dsimp only at hSw)
            have h0 := leS (hPw.me rfl)
            have h1 := geS (hPw.need (k := 5) rfl (by kernel_rfl))
            have hq := hSw.1 h0
            have hx0 : x.1 = 1 := Nat.le_antisymm h0 h1
            obtain ⟨p, y⟩ := x
            (try dsimp only at hx0)
            subst hx0
            have hT5 := HOX.out.below hq
            have u0 := (hq.cell (p := ⟨g, tn * 2, none⟩) hgX).trans q0
            have u1 := (hq.cell (p := ⟨g, tn * 2 + 1, none⟩) hgX).trans q1
            have v0 := hT5.frozen (tn * 2)
            have v1 := hT5.frozen (tn * 2 + 1)
            go_simp
            exact hK (2, y) _ (nxtL rfl (by decide)) ⟨fun h => absurd h (by simp), fun _ => ⟨_, hq, rfl⟩⟩
          exact AllS.nil
        obtain ⟨w5, hb5, rfl⟩ := hSz.2 (geS (hDz 7 (by decide) (by decide)))
        obtain ⟨i1, i2⟩ := HFIN.out w5 (vv, vv) hb5
        simp only at i1 i2
        clear hSz hDz hb5
        go_wp2
        go_round
        case rel => exact ⟨k + 1, r.set tn (vv, vv), by omega, by go_num, HB, i1, i2⟩
        case measure => (simp [intOf]; omega)
      · obtain ⟨vn, rfl⟩ := Int.eq_ofNat_of_zero_le h2
        have hvn : vn < n := by omega
        obtain ⟨⟨x0, x1⟩, hrv⟩ : ∃ x, r[vn]? = some x := ⟨_, List.getElem?_eq_getElem (by rw [HRL.out]; exact hvn)⟩
        have HB := Lib.hid (HST.out (x0, x1) (by rw [mkSp_var rfl]; simp only [Int.toNat_natCast]; exact getD_spD hrv))
        obtain ⟨p0, p1⟩ := HOX.out.cells hrv
        simp only at p0 p1
        clear hrv
        go_upto_region 10 with fail
        rw [← HX.out]
        have e1 := HS.out.cell (j := 1) rfl
        have e4 := HS.out.cell (j := 4) rfl
        have hSl := HS.out.lt
        obtain ⟨b7, hb7⟩ : ∃ b7, wr.heap.size = b7 := ⟨_, rfl⟩
        rw [hb7] at e1 e4 hSl
        simp only [hb7]
        clear hb7
        refine wp_region_steps (X := Nat × (Unit)) (fun x w' => (x.1 ≤ 0 → Below X.heap.size X w') ∧ (1 ≤ x.1 → ∃ w5, Below X.heap.size X w5 ∧ w' = (w5.setCell ⟨g, tn * 2, none⟩ (.int .i64 x0)).setCell ⟨g, tn * 2 + 1, none⟩ (.int .i64 x1))) (fun x j => doneL [0, 0, 0, 0, 0, 0, 0, 0, 0, 1] x.1 j) (effL [0, 0, 0, 0, 0, 0, 0, 0, 0, 1]) (0, ()) (fun x => [.slice (some ⟨g, 0, none⟩) n c1, .pointer (some ⟨b7, 1, none⟩), .int .i64 (tn : Nat), .slice (some ⟨g, 0, none⟩) n c1, .pointer (some ⟨b7, 4, none⟩), .int .i64 (vn : Nat), .pointer (some ⟨g, vn * 2, none⟩), .agg #[.int .i64 x0, .int .i64 x1], .pointer (some ⟨g, tn * 2, none⟩), undef]) _ (by kernel_rfl) (by kernel_rfl) (by kernel_rfl) (fun x => by simp only [putsD, Act.put, List.setIfInBounds_toArray, List.set_cons_zero, List.set_cons_succ]; exact rfl) h0L ⟨fun _ => Below.drew (Below.refl _ _), fun h => absurd h (by decide)⟩ (fun x => ?_) (fun x wz hDz hSz => ?_)
        · refine AllS.val (by rfl) (by rfl) (fun w hSw hPw => by go_simp) ?_
          refine AllS.val (by rfl) (by rfl) (fun w hSw hPw => by go_simp) ?_
          refine AllS.val (by rfl) (by rfl) (fun w hSw hPw => ?_) ?_
          · (try dsimp only at hSw)
            have hn := leS (hPw.not (j := 9) rfl (by kernel_rfl))
            have hq := hSw.1 hn
            have c := (hq.cell (p := ⟨b7, 1, none⟩) hSl).trans e1
            go_simp
          refine AllS.val (by rfl) (by rfl) (fun w hSw hPw => by go_simp) ?_
          refine AllS.val (by rfl) (by rfl) (fun w hSw hPw => by go_simp) ?_
          refine AllS.val (by rfl) (by rfl) (fun w hSw hPw => ?_) ?_
          · (try dsimp only at hSw)
            have hn := leS (hPw.not (j := 9) rfl (by kernel_rfl))
            have hq := hSw.1 hn
            have c := (hq.cell (p := ⟨b7, 4, none⟩) hSl).trans e4
            go_simp
          refine AllS.val (by rfl) (by rfl) (fun w hSw hPw => by go_simp) ?_
          refine AllS.val (by rfl) (by rfl) (fun w hSw hPw => ?_) ?_
          · (try dsimp only at hSw)
            have hn := leS (hPw.not (j := 9) rfl (by kernel_rfl))
            have hq := hSw.1 hn
            have c := (hq.cell (p := ⟨g, vn * 2, none⟩) hgX).trans p0
            have c' := (hq.cell (p := ⟨g, vn * 2 + 1, none⟩) hgX).trans p1
            go_simp
          refine AllS.val (by rfl) (by rfl) (fun w hSw hPw => by go_simp) ?_
          refine AllS.turn (fun _ _ => rfl) (by rfl) (fun w hSw hPw K hK => ?_) ?_
          · (try dsimp only at hSw)
            have h0 := leS (hPw.me rfl)
            have hq := hSw.1 h0
            have hx0 : x.1 = 0 := by exact Nat.le_zero.1 h0
            obtain ⟨p, y⟩ := x
            (try dsimp only at hx0)
            subst hx0
            have hT5 := HOX.out.below hq
            have u0 := (hq.cell (p := ⟨g, tn * 2, none⟩) hgX).trans q0
            have u1 := (hq.cell (p := ⟨g, tn * 2 + 1, none⟩) hgX).trans q1
            have v0 := hT5.frozen (tn * 2)
            have v1 := hT5.frozen (tn * 2 + 1)
            go_simp
            exact hK (1, y) _ (nxtL rfl (by decide)) ⟨fun h => absurd h (by simp), fun _ => ⟨_, hq, rfl⟩⟩
          exact AllS.nil
        obtain ⟨w5, hb5, rfl⟩ := hSz.2 (geS (hDz 9 (by decide) (by decide)))
        obtain ⟨i1, i2⟩ := HFIN.out w5 (x0, x1) hb5
        simp only at i1 i2
        clear hSz hDz hb5
        go_wp2
        go_round
        case rel => exact ⟨k + 1, r.set tn (x0, x1), by omega, by go_num, HB, i1, i2⟩
        case measure => (simp [intOf]; omega)
      · obtain ⟨an, rfl⟩ := Int.eq_ofNat_of_zero_le h3
        obtain ⟨bn, rfl⟩ := Int.eq_ofNat_of_zero_le h5
        have han : an < n := by omega
        have hbn : bn < n := by omega
        obtain ⟨⟨x0, x1⟩, hra⟩ : ∃ x, r[an]? = some x := ⟨_, List.getElem?_eq_getElem (by rw [HRL.out]; exact han)⟩
        obtain ⟨⟨y0, y1⟩, hrb⟩ : ∃ x, r[bn]? = some x := ⟨_, List.getElem?_eq_getElem (by rw [HRL.out]; exact hbn)⟩
        have hsx : SpOk (x0, x1) := HR.out.1.2 _ _ hra
        have hsy : SpOk (y0, y1) := HR.out.1.2 _ _ hrb
        obtain ⟨⟨z0, z1⟩, hz⟩ : ∃ z, doSp o (x0, x1) (y0, y1) = z := ⟨_, rfl⟩
        have HB := Lib.hid (HST.out (z0, z1) (by rw [mkSp_op h1]; simp only [Int.toNat_natCast]; rw [getD_spD hra, getD_spD hrb]; exact hz))
        have HDO : Hid (∀ Z : World, Calls Try.prog 19 #[.int .i64 o, .agg #[.int .i64 x0, .int .i64 x1], .agg #[.int .i64 y0, .int .i64 y1]] Z fun e w' => e = .returned (.agg #[.int .i64 z0, .int .i64 z1]) ∧ Below Z.heap.size Z w') := Lib.hid fun Z => by
          have := results_any o (x0, x1) (y0, y1) Z h1 h2 hsx hsy
          rw [hz] at this
          exact this
        obtain ⟨p0, p1⟩ := HOX.out.cells hra
        obtain ⟨s0, s1⟩ := HOX.out.cells hrb
        simp only at p0 p1 s0 s1
        have o1 : (o == 1) = false := by simp; omega
        have o2 : (o == 2) = false := by simp; omega
        clear hra hrb hsx hsy hz
        go_upto_region 6 with fail
        rw [← HX.out]
        have e0 := HS.out.cell (j := 0) rfl
        have e1 := HS.out.cell (j := 1) rfl
        have e2 := HS.out.cell (j := 2) rfl
        have e3 := HS.out.cell (j := 3) rfl
        have hSl := HS.out.lt
        obtain ⟨b7, hb7⟩ : ∃ b7, wr.heap.size = b7 := ⟨_, rfl⟩
        rw [hb7] at e0 e1 e2 e3 hSl
        simp only [hb7]
        clear hb7
        refine wp_region_steps (X := Nat × (Unit)) (fun x w' => (x.1 ≤ 1 → Below X.heap.size X w') ∧ (2 ≤ x.1 → ∃ w5, Below X.heap.size X w5 ∧ w' = (w5.setCell ⟨g, tn * 2, none⟩ (.int .i64 z0)).setCell ⟨g, tn * 2 + 1, none⟩ (.int .i64 z1))) (fun x j => doneL [0, 0, 0, 0, 0, 0, 0, 0, 0, 0, 0, 0, 0, 0, 0, 1, 0, 2] x.1 j) (effL [0, 0, 0, 0, 0, 0, 0, 0, 0, 0, 0, 0, 0, 0, 0, 1, 0, 2]) (0, ()) (fun x => [.slice (some ⟨g, 0, none⟩) n c1, .pointer (some ⟨b7, 1, none⟩), .int .i64 (tn : Nat), .pointer (some ⟨b7, 0, none⟩), .int .i64 o, .slice (some ⟨g, 0, none⟩) n c1, .pointer (some ⟨b7, 2, none⟩), .int .i64 (an : Nat), .pointer (some ⟨g, an * 2, none⟩), .agg #[.int .i64 x0, .int .i64 x1], .slice (some ⟨g, 0, none⟩) n c1, .pointer (some ⟨b7, 3, none⟩), .int .i64 (bn : Nat), .pointer (some ⟨g, bn * 2, none⟩), .agg #[.int .i64 y0, .int .i64 y1], .agg #[.int .i64 z0, .int .i64 z1], .pointer (some ⟨g, tn * 2, none⟩), undef]) _ (by kernel_rfl) (by kernel_rfl) (by kernel_rfl) (fun x => by simp only [putsD, Act.put, List.setIfInBounds_toArray, List.set_cons_zero, List.set_cons_succ]; exact rfl) h0L ⟨fun _ => Below.drew (Below.refl _ _), fun h => absurd h (by decide)⟩ (fun x => ?_) (fun x wz hDz hSz => ?_)
        · refine AllS.val (by rfl) (by rfl) (fun w hSw hPw => by go_simp) ?_
          refine AllS.val (by rfl) (by rfl) (fun w hSw hPw => by go_simp) ?_
          refine AllS.val (by rfl) (by rfl) (fun w hSw hPw => ?_) ?_
          · (try dsimp only at hSw)
            have hn := leS (hPw.not (j := 17) rfl (by kernel_rfl))
            have hq := hSw.1 hn
            have c := (hq.cell (p := ⟨b7, 1, none⟩) hSl).trans e1
            go_simp
          refine AllS.val (by rfl) (by rfl) (fun w hSw hPw => by go_simp) ?_
          refine AllS.val (by rfl) (by rfl) (fun w hSw hPw => ?_) ?_
          · (try dsimp only at hSw)
            have hn := leS (hPw.not (j := 17) rfl (by kernel_rfl))
            have hq := hSw.1 hn
            have c := (hq.cell (p := ⟨b7, 0, none⟩) hSl).trans e0
            go_simp
          refine AllS.val (by rfl) (by rfl) (fun w hSw hPw => by go_simp) ?_
          refine AllS.val (by rfl) (by rfl) (fun w hSw hPw => by go_simp) ?_
          refine AllS.val (by rfl) (by rfl) (fun w hSw hPw => ?_) ?_
          · (try dsimp only at hSw)
            have hn := leS (hPw.not (j := 17) rfl (by kernel_rfl))
            have hq := hSw.1 hn
            have c := (hq.cell (p := ⟨b7, 2, none⟩) hSl).trans e2
            go_simp
          refine AllS.val (by rfl) (by rfl) (fun w hSw hPw => by go_simp) ?_
          refine AllS.val (by rfl) (by rfl) (fun w hSw hPw => ?_) ?_
          · (try dsimp only at hSw)
            have hn := leS (hPw.not (j := 17) rfl (by kernel_rfl))
            have hq := hSw.1 hn
            have c := (hq.cell (p := ⟨g, an * 2, none⟩) hgX).trans p0
            have c' := (hq.cell (p := ⟨g, an * 2 + 1, none⟩) hgX).trans p1
            go_simp
          refine AllS.val (by rfl) (by rfl) (fun w hSw hPw => by go_simp) ?_
          refine AllS.val (by rfl) (by rfl) (fun w hSw hPw => by go_simp) ?_
          refine AllS.val (by rfl) (by rfl) (fun w hSw hPw => ?_) ?_
          · (try dsimp only at hSw)
            have hn := leS (hPw.not (j := 17) rfl (by kernel_rfl))
            have hq := hSw.1 hn
            have c := (hq.cell (p := ⟨b7, 3, none⟩) hSl).trans e3
            go_simp
          refine AllS.val (by rfl) (by rfl) (fun w hSw hPw => by go_simp) ?_
          refine AllS.val (by rfl) (by rfl) (fun w hSw hPw => ?_) ?_
          · (try dsimp only at hSw)
            have hn := leS (hPw.not (j := 17) rfl (by kernel_rfl))
            have hq := hSw.1 hn
            have c := (hq.cell (p := ⟨g, bn * 2, none⟩) hgX).trans s0
            have c' := (hq.cell (p := ⟨g, bn * 2 + 1, none⟩) hgX).trans s1
            go_simp
          refine AllS.turn (fun _ _ => rfl) (by rfl) (fun w hSw hPw K hK => ?_) ?_
          · (try dsimp only at hSw)
            have h0 := leS (hPw.me rfl)
            have hq := hSw.1 (Nat.le_trans h0 (by decide))
            go_simp
            go_at_call 19
            (with_reducible refine (HDO.out _).mono ?_)
            rintro e w7 ⟨rfl, hb7⟩
            go_simp
            have hx0 : x.1 = 0 := by exact Nat.le_zero.1 h0
            obtain ⟨p, y⟩ := x
            (try dsimp only at hx0)
            subst hx0
            exact hK (1, y) _ (nxtL rfl (by decide)) ⟨fun _ => below_via hq hb7, fun h => absurd h (by simp)⟩
          refine AllS.val (by rfl) (by rfl) (fun w hSw hPw => by go_simp) ?_
          refine AllS.turn (fun _ _ => rfl) (by rfl) (fun w hSw hPw K hK => ?_) ?_
          · (try dsimp only at hSw)
            have h0 := leS (hPw.me rfl)
            have h1 := geS (hPw.need (k := 15) rfl (by kernel_rfl))
            have hq := hSw.1 h0
            have hx0 : x.1 = 1 := Nat.le_antisymm h0 h1
            obtain ⟨p, y⟩ := x
            (try dsimp only at hx0)
            subst hx0
            have hT5 := HOX.out.below hq
            have u0 := (hq.cell (p := ⟨g, tn * 2, none⟩) hgX).trans q0
            have u1 := (hq.cell (p := ⟨g, tn * 2 + 1, none⟩) hgX).trans q1
            have v0 := hT5.frozen (tn * 2)
            have v1 := hT5.frozen (tn * 2 + 1)
            go_simp
            exact hK (2, y) _ (nxtL rfl (by decide)) ⟨fun h => absurd h (by simp), fun _ => ⟨_, hq, rfl⟩⟩
          exact AllS.nil
        obtain ⟨w5, hb5, rfl⟩ := hSz.2 (geS (hDz 17 (by decide) (by decide)))
        obtain ⟨i1, i2⟩ := HFIN.out w5 (z0, z1) hb5
        simp only at i1 i2
        clear hSz hDz hb5
        go_wp2
        go_round
        case rel => exact ⟨k + 1, r.set tn (z0, z1), by omega, by go_num, HB, i1, i2⟩
        case measure => (simp [intOf]; omega)
    · have hkl : cl = k := by omega
      have HQ : Hid (bhSp code v = r) := Lib.hid (by rw [HR.out.2, ← hkl, List.drop_of_length_le (by rw [HL.out]; exact Nat.le_refl _)]; rfl)
      clear hkl
      go_wp2
      go_ret
      exact ⟨g, c1, rfl, by rw [HQ.out]; exact ho, hb⟩

end Go.Proofs.Ytidjnmigbhaekaa
