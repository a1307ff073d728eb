/-
  For any tree, any tiles and one more tile: tile.Cost tells no more (W2).
-/
import Derived.Test.YteogdcjigigeeaaTiMore
import Derived.Test.YteogdcjigigeeaaMOpen
namespace Go.Proofs.Yteogdcjigigeeaa
open Go.RowKit Go.ChangeShapes Go.WideShapes Go.ChangeAt Go.Deep
set_option linter.unusedSimpArgs false
set_option linter.unusedVariables false
set_option maxRecDepth 100000

theorem below_viaT {w Y Z : World} (h : Below w.heap.size w Y) (h2 : Below Y.heap.size Y Z) : Below w.heap.size w Z := h.trans (h2.mono h.size)

theorem one_ck : ckTl 1 [⟨2, 0, 0, 0⟩] [⟨2, 0, 0, 5⟩] = 0 := by decide

theorem one_tc : tcR 1 [⟨2, 0, 0, 0⟩] [⟨2, 0, 0, 5⟩] = 5 := by decide

set_option maxHeartbeats 8000000 in
theorem lawTileMore_any (vars : Int) (A : Option Addr) (cap : Nat) (l : List Tm) (E : Option Addr) (te : Nat) (ts : List Ti) (po pl pr pc : Int) (w : World) (hx : RdT w w.heap.size A l) (ht : RdTi w w.heap.size E ts) (hm : ts.length ≤ maxLen) (hby : ts.length * 32 ≤ 140737488351232) :
    Calls Try.prog 5 #[.int .i64 vars, .slice A l.length cap, .slice E ts.length te, .agg #[.int .i64 po, .int .i64 pl, .int .i64 pr, .int .i64 pc]] w fun e w' => e = .returned (.bool true) ∧ Below w.heap.size w w' := by
  obtain ⟨tn, htn⟩ : ∃ tn, ts.length = tn := ⟨_, rfl⟩
  have HTN := Lib.hid htn
  rw [htn] at hm hby ⊢
  have HL1 : Hid ((rv cTi ts).length = tn * 4) := Lib.hid (by rw [rv_len cTi_len, htn])
  have HN1 : Hid (E = none → tn = 0) := Lib.hid fun h => by rw [← htn]; exact RdR.nil (by omega) ht h
  obtain ⟨p, hp⟩ : ∃ p : Ti, p = ⟨po, pl, pr, pc⟩ := ⟨_, rfl⟩
  have HPC : Hid (cTi p = [.int .i64 po, .int .i64 pl, .int .i64 pr, .int .i64 pc]) := Lib.hid (by rw [hp]; rfl)
  have HX := Lib.hid (fun (Z : World) (hZ : Below w.heap.size w Z) => (hx.below hZ (Nat.le_refl _)).more hZ.size)
  have HTX := Lib.hid (fun (Z : World) (hZ : Below w.heap.size w Z) => (ht.below hZ (Nat.le_refl _)).more hZ.size)
  have HCA := Lib.hid (fun (Z : World) (hZ : Below w.heap.size w Z) => tileCost_any vars A l.length cap l Z (HX.out Z hZ) rfl E tn te ts (HTX.out Z hZ) htn)
  have HCB := Lib.hid (fun (A' : Option Addr) (c : Nat) (Z : World) (hZ : Below w.heap.size w Z) (hr : RdTi Z Z.heap.size A' (ts ++ [p])) => tileCost_any vars A l.length cap l Z (HX.out Z hZ) rfl A' (tn + 1) c (ts ++ [p]) hr (by simp [htn]))
  obtain ⟨ea, hea⟩ : ∃ c, ckTl vars l ts = c := ⟨_, rfl⟩
  obtain ⟨eb, heb⟩ : ∃ c, ckTl vars l (ts ++ [p]) = c := ⟨_, rfl⟩
  obtain ⟨va, hva⟩ : ∃ c, tcR vars l ts = c := ⟨_, rfl⟩
  obtain ⟨vb, hvb⟩ : ∃ c, tcR vars l (ts ++ [p]) = c := ⟨_, rfl⟩
  simp only [hea, hva] at HCA
  simp only [heb, hvb] at HCB
  have HVA : Hid (ea ≠ 0 → va = 0) := Lib.hid fun h => by rw [← hva]; unfold tcR; rw [if_neg (by rw [hea]; exact h)]
  have HVB : Hid (eb ≠ 0 → vb = 0) := Lib.hid fun h => by rw [← hvb]; unfold tcR; rw [if_neg (by rw [heb]; exact h)]
  have HNO : Hid (ea = 0 → eb ≠ 0 → tn = 10 ∨ ckTi [p] ≠ 0) := Lib.hid fun h1 h2 => by rw [← htn]; exact more_no (hea.trans h1) (by rw [heb]; exact h2)
  have HLE : Hid (ea = 0 → eb = 0 → vb ≤ va ∧ 0 ≤ vb) := Lib.hid fun h1 h2 => by rw [← hva, ← hvb]; exact more_le (hea.trans h1) (heb.trans h2)
  have hd1 : 0 + tn ≤ maxLen := by unfold maxLen; omega
  have hd2 : (0 + tn) * 32 ≤ 140737488355328 := by omega
  have hd3 : tn + 1 ≤ maxLen := by unfold maxLen; omega
  have hd4 : (tn + 1) * 32 ≤ 140737488355328 := by omega
  have HQ0 : Own (((w.alloc (.cells #[.int .i64 po, .int .i64 pl, .int .i64 pr, .int .i64 pc] 37)).alloc (.cells #[.int .i64 2, .int .i64 0, .int .i64 0, .int .i64 0] 39)).alloc (.cells #[.int .i64 2, .int .i64 0, .int .i64 0, .int .i64 5] 37)) w.heap.size 37 [.int .i64 po, .int .i64 pl, .int .i64 pr, .int .i64 pc] := ((Own.new w _ [_, _, _, _]).alloc _).alloc _
  have HQ1 : Own (((w.alloc (.cells #[.int .i64 po, .int .i64 pl, .int .i64 pr, .int .i64 pc] 37)).alloc (.cells #[.int .i64 2, .int .i64 0, .int .i64 0, .int .i64 0] 39)).alloc (.cells #[.int .i64 2, .int .i64 0, .int .i64 0, .int .i64 5] 37)) (w.heap.size + 1) 39 (tv [⟨2, 0, 0, 0⟩]) := (own_endT (by simp) _ [_, _, _, _]).alloc _
  have HQ2 : Own (((w.alloc (.cells #[.int .i64 po, .int .i64 pl, .int .i64 pr, .int .i64 pc] 37)).alloc (.cells #[.int .i64 2, .int .i64 0, .int .i64 0, .int .i64 0] 39)).alloc (.cells #[.int .i64 2, .int .i64 0, .int .i64 0, .int .i64 5] 37)) (w.heap.size + 1 + 1) 37 (rv cTi [⟨2, 0, 0, 5⟩]) := own_endT (by simp) _ [_, _, _, _]
  have hb0 : Below w.heap.size w (((w.alloc (.cells #[.int .i64 po, .int .i64 pl, .int .i64 pr, .int .i64 pc] 37)).alloc (.cells #[.int .i64 2, .int .i64 0, .int .i64 0, .int .i64 0] 39)).alloc (.cells #[.int .i64 2, .int .i64 0, .int .i64 0, .int .i64 5] 37)) := by go_grown
  have HC1 := Lib.hid (tileCost_any 1 (some ⟨w.heap.size + 1, 0, none⟩) 1 1 [⟨2, 0, 0, 0⟩] _ ((OwnT.rd HQ1).more HQ1.lt) rfl (some ⟨w.heap.size + 1 + 1, 0, none⟩) 1 1 [⟨2, 0, 0, 5⟩] ((rdTi_own HQ2).more HQ2.lt) rfl)
  rw [one_ck, one_tc] at HC1
  clear hx ht htn hp hea heb hva hvb HQ1 HQ2
  go_enter Try.func5, Try.ntmps5
  go_wp2_with fail
  refine HC1.out.mono ?_
  rintro e w1 ⟨rfl, hb1⟩
  have hq1 := HQ0.below hb1 HQ0.lt
  have hbw1 := below_viaT hb0 hb1
  have hql := hq1.lt
  clear hb0 hb1 HQ0 HC1
  go_wp2_with fail
  refine (HCA.out w1 hbw1).mono ?_
  rintro e w3 ⟨rfl, hb3⟩
  have HQ3 := Lib.hid (hq1.below hb3 hql)
  have HBW := Lib.hid (below_viaT hbw1 hb3)
  have hq3l := HQ3.out.lt
  have HX3 := Lib.hid (HTX.out _ HBW.out)
  clear hb3 hbw1 hq1 hql
  go_upto_region 5 with fail
  obtain ⟨nb, hnb⟩ : ∃ n, w.heap.size = n := ⟨_, rfl⟩
  have HNB := Lib.hid hnb
  rw [hnb] at hq3l HQ3
  simp only [hnb]
  clear hnb
  refine wp_region_stepsB (X := TmX) (fun x w => TmS w3 tn ts p x w) tmD tmE ⟨none, none, none, none, false⟩ (fun x => [.int .i64 vars, .slice A l.length cap, .slice (some ⟨x.e.getD 0, 0, none⟩) 0 0, .slice E tn te, .slice (x.a.getD (none, 0)).1 tn (x.a.getD (none, 0)).2, .agg #[.int .i64 po, .int .i64 pl, .int .i64 pr, .int .i64 pc], .slice (some ⟨x.x.getD 0, 0, none⟩) 1 1, .slice (x.b.getD (none, 0)).1 (tn + 1) (x.b.getD (none, 0)).2, .tuple #[.int .i64 vb, .int .i64 eb], .tuple #[.int .i64 vb, .int .i64 eb], .int .i64 vb, .int .i64 eb, .int .i64 vb, .int .i64 eb]) _ (by kernel_rfl) (by kernel_rfl) (by kernel_rfl) (fun x => by simp only [putsD, Act.put, List.setIfInBounds_toArray, List.set_cons_zero, List.set_cons_succ]; exact rfl) tmH0 TmS.start (fun x => ?_) (fun x wz hDz hSz => ?_)
  · refine AllS.val (by rfl) (by rfl) (fun w hSw hPw => by go_simp) ?_
    refine AllS.val (by rfl) (by rfl) (fun w hSw hPw => by go_simp) ?_
    refine AllS.turn (fun _ _ => rfl) (by rfl) (fun w hSw hPw K hK => ?_) ?_
    · (try dsimp only at hSw)
      have h0 := tno2 (hPw.me rfl)
      have h3 := tno4 (hPw.not (j := 4) rfl (by kernel_rfl))
      have ht := hSw.mk2 h0 h3
      clear h0 h3
      go_simp
      exact hK _ _ tnx2 ht
    refine AllS.val (by rfl) (by rfl) (fun w hSw hPw => by go_simp) ?_
    refine AllS.turn (fun _ _ => rfl) (by rfl) (fun w hSw hPw K hK => ?_) ?_
    · (try dsimp only at hSw)
      have h0 := tno4 (hPw.me rfl)
      obtain ⟨b, hb⟩ := tyes2 (hPw.need (k := 2) rfl (by kernel_rfl))
      have h1 := hSw.s1 b hb h0
      refine oper_app' (.tmp 39) (.tmp 40) 23 rfl w3.heap.size 37 4 32 tile_app (A := some ⟨b, 0, none⟩) (n := 0) (c := 0) [] (by show Value.slice (some ⟨x.e.getD 0, 0, none⟩) 0 0 = _; rw [hb]; rfl) h1.2 (rv cTi ts) rfl HL1.out HN1.out (RdR.news cTi_len ((HX3.out.below hSw.be (Nat.le_refl _)).more hSw.be.size)) (rv_all cTi_one ts) hd1 hd2 hSw.be.size ?_
      intro A8 c8 w8 hown8 hg8 hb8 hk8
      simp only [Nat.zero_add] at hown8 ⊢
      exact hK ⟨x.e, some (A8, c8), x.x, x.b, x.r⟩ _ tnx4 (hSw.mk4 hb h0 hown8 hg8 hb8)
    refine AllS.val (by rfl) (by rfl) (fun w hSw hPw => ?_) ?_
    · (try dsimp only at hSw)
      have hq := HQ3.out.below hSw.be hq3l
      have f0 := hq.cell (j := 0) rfl
      have f1 := hq.cell (j := 1) rfl
      have f2 := hq.cell (j := 2) rfl
      have f3 := hq.cell (j := 3) rfl
      go_simp
    refine AllS.turn (fun _ _ => rfl) (by rfl) (fun w hSw hPw K hK => ?_) ?_
    · (try dsimp only at hSw)
      have h0 := tno6 (hPw.me rfl)
      have h6 := tno7 (hPw.not (j := 7) rfl (by kernel_rfl))
      have ht := hSw.mk6 h0 h6
      rw [HPC.out] at ht
      clear h0 h6
      go_simp
      exact hK _ _ tnx6 ht
    refine AllS.turn (fun _ _ => rfl) (by rfl) (fun w hSw hPw K hK => ?_) ?_
    · (try dsimp only at hSw)
      have h0 := tno7 (hPw.me rfl)
      obtain ⟨⟨A5, c5⟩, hq⟩ := tyes4 (hPw.need (k := 4) rfl (by kernel_rfl))
      obtain ⟨b, hb⟩ := tyes6 (hPw.need (k := 6) rfl (by kernel_rfl))
      have h3 := hSw.s3 A5 c5 hq h0
      have h5 := (hSw.s5 b hb h0).1
      refine oper_app' (.tmp 41) (.tmp 43) 23 rfl w3.heap.size 37 4 32 tile_app (A := A5) (n := tn) (c := c5) (rv cTi ts) (by show Value.slice (x.a.getD (none, 0)).1 tn (x.a.getD (none, 0)).2 = _; rw [hq]; rfl) h3 (A2 := some ⟨b, 0, none⟩) (m := 1) (c2 := 1) (cTi p) (by show Value.slice (some ⟨x.x.getD 0, 0, none⟩) 1 1 = _; rw [hb]; rfl) (cTi_len p) (fun h => by cases h) (own_newsL h5) (cTi_one p) hd3 hd4 hSw.be.size ?_
      intro A8 c8 w8 hown8 hg8 hb8 hk8
      exact hK ⟨x.e, x.a, x.x, some (A8, c8), x.r⟩ _ tnx7 (hSw.mk7 hq h0 HTN.out hown8 hb8)
    refine AllS.turn (fun _ _ => rfl) (by rfl) (fun w hSw hPw K hK => ?_) ?_
    · (try dsimp only at hSw)
      have h0 := tno8 (hPw.me rfl)
      obtain ⟨⟨A6, c6⟩, hq⟩ := tyes7 (hPw.need (k := 7) rfl (by kernel_rfl))
      have h6 := hSw.s6 A6 c6 hq
      obtain ⟨q3, ha⟩ : ∃ q, x.a = some q := by {cases h : x.a with | none => rw [hSw.o6 h] at hq; cases hq | some q => exact ⟨q, rfl⟩}
      have hbz := below_viaT HBW.out hSw.be
      obtain ⟨xe, xa, xx, xb, xr⟩ := x
      (try dsimp only at hq)
      subst hq
      have HA := Lib.hid ha
      clear h0 ha
      go_simp
      go_at_call 7
      (with_reducible refine (HCB.out A6 c6 _ hbz h6).mono ?_)
      rintro e w5 ⟨rfl, hb7⟩
      go_simp
      exact hK ⟨xe, xa, xx, some (A6, c6), true⟩ _ tnx8 (hSw.mk8 HA.out rfl hb7)
    refine AllS.val (by rfl) (by rfl) (fun w hSw hPw => by go_simp) ?_
    refine AllS.val (by rfl) (by rfl) (fun w hSw hPw => by go_simp) ?_
    refine AllS.val (by rfl) (by rfl) (fun w hSw hPw => by go_simp) ?_
    refine AllS.val (by rfl) (by rfl) (fun w hSw hPw => by go_simp) ?_
    refine AllS.val (by rfl) (by rfl) (fun w hSw hPw => by go_simp) ?_
    exact AllS.nil
  have hbz := hSz.be
  have hqz := HQ3.out.below hbz hq3l
  have HBZ := Lib.hid (below_viaT HBW.out hbz)
  have hnb := HNB.out
  subst hnb
  obtain ⟨xe, xa, xx, xb, xr⟩ := x
  clear hSz hDz hbz
  have e0 := hqz.cell (j := 0) rfl
  have e1 := hqz.cell (j := 1) rfl
  have e2 := hqz.cell (j := 2) rfl
  have e3 := hqz.cell (j := 3) rfl
  have hqzl := hqz.lt
  by_cases h1 : ea = 0
  · subst h1
    by_cases h2 : eb = 0
    · subst h2
      obtain ⟨h3, h4⟩ := HLE.out rfl rfl
      go_wp2
      go_ret
      exact ⟨ret_bool (by simp [h3, h4]), HBZ.out⟩
    · have hv := HVB.out h2
      subst hv
      have hne : (eb != 0) = true := by simp [h2]
      have HCK := HNO.out rfl h2
      by_cases h10 : tn = 10
      · have h10b : ((tn : Int) == 10) = true := by simp; omega
        clear h10 h2
        go_wp2
        go_ret
        exact ⟨ret_bool (by simp), HBZ.out⟩
      · have h10b : ((tn : Int) == 10) = false := by simp; omega
        have hck : ckTi [p] ≠ 0 := by rcases HCK with h | h; exact absurd h h10; exact h
        have HNE : Hid ((ckTi [p] != 0) = true) := Lib.hid (by simp [hck])
        have HOP : Own (wz.alloc (.cells #[.int .i64 po, .int .i64 pl, .int .i64 pr, .int .i64 pc] 37)) wz.heap.size 37 (rv cTi [p]) := by
          rw [rv_one, HPC.out]
          exact own_endT rfl _ [_, _, _, _]
        have HTC := Lib.hid (refTiles_any (some ⟨wz.heap.size, 0, none⟩) 1 1 [p] _ ((rdTi_own HOP).more HOP.lt) rfl)
        obtain ⟨cp, hcp⟩ : ∃ c, ckTi [p] = c := ⟨_, rfl⟩
        simp only [hcp] at HNE HTC
        have hnc := HNE.out
        clear h10 h2 hck HCK HOP hcp
        go_wp2_with fail
        refine HTC.out.mono ?_
        rintro e w9 ⟨rfl, hb9⟩
        go_wp2
        go_ret
        exact ⟨ret_bool (by simp), below_viaT (below_viaT HBZ.out (by go_grown)) hb9⟩
  · have hv := HVA.out h1
    subst hv
    have hne : (ea != 0) = true := by simp [h1]
    go_wp2
    go_ret
    exact ⟨ret_bool (by simp), HBZ.out⟩

set_option maxRecDepth 100000 in
theorem lawTileMore_lifted (os : Os) (started : os.Started) (H : Type) (enc : TypeId × Value → H) :
    ReturnsInHanded {} Try.checked os 5 .any (Rows.tileMoreSpec.pre6 enc Try.prog Try.f5 Rows.tileMoreRow.domain false) (Rows.tileMoreSpec.post enc Try.prog Try.f5 false true false false) := by
  refine returnsInHanded_of_change_sized (C := Try.checked) Try.own started (by kernel_rfl) Try.func5
    (ChangeSpec.witness6 (enc := enc) (C := Try.checked) false ⟨#[], #[.int .i64 0, .slice none 0 0, .slice none 0 0, .agg #[.int .i64 0, .int .i64 0, .int .i64 0, .int .i64 0]], []⟩ 8 (by kernel_rfl) (by kernel_rfl) (by kernel_rfl) (by kernel_rfl)) ?_
  intro W base args ds gs before hval0 hW hcnd hsz _
  have hval : ∀ (j : Nat) t v, Try.f5.params[j]? = some t → args[j]? = some v → Value.okWide Try.prog W .any base t v := hval0
  have hW' := hW
  obtain ⟨p, q, hA0, hV, rfl, hfz, hnd⟩ := hW
  have hA : DataW.TrodAll enc Try.prog W 0 (fun _ => true) true Try.f5.params.toList args.toList ds p := hA0
  obtain ⟨hgs, _⟩ := trodVars_none hV
  rw [Try.params5] at hA hval
  obtain ⟨v0, vs0, d0, ds0, p0, q0, hargs, rfl, rfl, h0, r0⟩ := trodAll_cons hA
  obtain ⟨v1, vs1, d1, ds1, p1, q1, rfl, rfl, rfl, h1, r1⟩ := trodAll_cons r0
  obtain ⟨v2, vs2, d2, ds2, p2, q2, rfl, rfl, rfl, h2, r2⟩ := trodAll_cons r1
  obtain ⟨v3, vs3, d3, ds3, p3, q3, rfl, rfl, rfl, h3, r3⟩ := trodAll_cons r2
  obtain ⟨rfl, rfl, rfl⟩ := trodAll_nil r3
  have hargs2 : args = #[v0, v1, v2, v3] := Array.toList_inj.1 hargs
  subst hargs2
  obtain ⟨a0, rfl, _, _, w0⟩ := open_int Try.underlying3 (hval 0 3 v0 rfl rfl) h0
  obtain ⟨A1, c1, l1, rfl, lc1, cm1, x1, r1⟩ := open_termsA (hval 1 22 v1 rfl rfl) h1
  have b1 := len_reach Try.underlying22 (hval 1 22 _ rfl rfl) h1 hsz (j := 1) (by rw [Try.params5]; rfl) rfl
  rw [show Try.prog.bytesOf (Try.prog.elem 22) = 32 from by kernel_rfl] at b1
  obtain ⟨A2, c2, l2, rfl, lc2, cm2, x2, r2⟩ := open_tilesA (hval 2 23 v2 rfl rfl) h2
  have b2 := len_reach Try.underlying23 (hval 2 23 _ rfl rfl) h2 hsz (j := 2) (by rw [Try.params5]; rfl) rfl
  rw [show Try.prog.bytesOf (Try.prog.elem 23) = 32 from by kernel_rfl] at b2
  obtain ⟨to3, tl3, tr3, tc3, rfl⟩ := open_tileA (hval 3 37 v3 rfl rfl) h3
  refine (lawTileMore_any a0 A1 c1 l1 A2 c2 l2 to3 tl3 tr3 tc3 _ x1 x2 (by unfold maxLen; omega) (by omega)).mono fun e W' ⟨he, hb⟩ => ?_
  subst he
  exact ⟨_, rfl, law_post Try.laidOut rfl (by kernel_rfl) Try.underlying4 ⟨rfl, rfl, rfl⟩ (by kernel_rfl) hW' hb⟩

theorem tileMore_holds : Rows.TileMoreSaid :=
  OpenClaim.holds_of_wide 5 Try.f5 rfl rfl rfl rfl rfl rfl rfl ⟨rfl, rfl, rfl, rfl, rfl⟩ rfl rfl rfl rfl rfl (by kernel_rfl) Try.func5 (show joinedFacts Try.prog 5 Try.f5 Rows.tileMoreSpec Rows.tileMoreRow = true from (by unfold joinedFacts; (repeat' (with_reducible refine and_both ?_ ?_)) <;> first | (with_reducible exact may_enter) | ((with_reducible refine make_ok ?_); rfl) | ((with_reducible refine lifts_ok ?_); rfl) | kernel_rfl))
    (of_decide_eq_true (by kernel_rfl)) (by unfold Func.isWrapper; rw [if_neg (of_decide_eq_false (by kernel_rfl))]; exact ⟨rfl, rfl⟩)
    (fun os started H enc _ => lawTileMore_lifted os started H enc)

end Go.Proofs.Yteogdcjigigeeaa
