/-
  single.Run (M1).
-/
import Derived.Test.YtgcjknibelfjbaaSnCheck
import Derived.Test.YtgcjknibelfjbaaSnExec
import Derived.Test.YtgcjknibelfjbaaPureSnRun
import Derived.Laws.CopyOwn
import Derived.Deep.RegionWith
namespace Go.Proofs.Ytgcjknibelfjbaa
open Go.RowKit
set_option linter.unusedSimpArgs false
set_option linter.unusedVariables false
set_option maxRecDepth 100000

/-- what a run answers: M1 -/
def RunsN (r : Option (List Int)) (e : Ending) (w' : World) : Prop :=
  (r = none ∧ ∃ A c, e = .returned (.tuple #[.slice A 0 c, .int .i64 7])) ∨ ∃ (x : List Int) (A : Option Addr) (c : Nat), r = some x ∧ e = .returned (.tuple #[.slice A x.length c, .int .i64 0]) ∧ RdI w' w'.heap.size A x

theorem begin_splice {n m : Nat} {hv : List Int} (h : hv.length = n) (hm : m = 128) : splice (iv (List.replicate m 0)) 0 (iv hv) = iv (beginS hv) := by
  unfold splice beginS
  rw [iv_append, ← hm]
  simp [iv, h]

set_option maxHeartbeats 16000000 in
theorem snRun_any (n : Nat) (A HA : Option Addr) (len cap hcap : Nat) (l : List Sg) (hv : List Int) (w0 : World) (hx0 : RdN w0 w0.heap.size A l) (hh0 : RdI w0 w0.heap.size HA hv) (hl : l.length = len) (hin : ∀ s ∈ l, InSg s) (hc : ckSingle n l = 0) (hok : ValsOk n hv) :
    Calls Try.prog 10 #[.int .i64 n, .slice A len cap, .slice HA n hcap] w0 fun e w' => RunsN (runN l 200 0 (-1) (beginS hv)) e w' ∧ Below w0.heap.size w0 w' := by
  obtain ⟨b1, b2, b3, b4, b5, b6, b7, b8⟩ := ckSingle_bd hc
  have HC := Lib.hid hc
  have HL := Lib.hid hl
  have HMC := Lib.hid b5
  have HMJ := Lib.hid b6
  have HWAY : Hid (ckWay (nxP (bareP l)) = 0) := Lib.hid (bareP_way (vars := n) b3 b4 b7)
  have HNL : Hid ((nxP (bareP l)).length = len) := Lib.hid (by rw [← hl]; simp [bareP, nxP])
  rw [hl] at b3 b4
  have hn1 : 1 ≤ n := by omega
  have hn6 : n ≤ 6 := by omega
  have HCK := Lib.hid (singleChk_any n A len cap l w0 hx0 hl (by unfold maxLen; omega) hin)
  unfold ChkS at HCK
  rw [hc] at HCK
  have HCV : Hid (ckHave n hv = 0) := Lib.hid (ckHave_vals hok)
  have HHL : Hid (hv.length = n) := Lib.hid hok.1
  have HBO : Hid (ValsOk 128 (beginS hv)) := Lib.hid (beginS_ok hok (by omega))
  have HSPL := Lib.hid (begin_splice hok.1 (rfl : 128 = 128))
  have hmk := make_ints (P := Try.prog) 26 3 Try.underlying26 (by kernel_rfl) 128 (by omega)
  have HNC : Hid ((iv hv).length = Nat.min n 128) := Lib.hid (by rw [iv, List.length_map, hok.1]; exact (Nat.min_eq_left (by omega)).symm)
  have HHN : Hid (∀ Z : World, Below w0.heap.size w0 Z → 0 < (iv hv).length → ∃ ad, HA = some ad ∧ ∀ j v, (iv hv)[j]? = some v → Z.cell? (ad.add j) = some v) := Lib.hid fun Z hZ h0 => by
    have h0' : 0 < hv.length := by simpa [iv] using h0
    obtain ⟨ad, hA, _, _⟩ := hh0 h0'
    exact ⟨ad, hA, fun j v hj => (hh0.below hZ (Nat.le_refl _)).news ad hA j v hj⟩
  obtain ⟨V0, hV0⟩ : ∃ V0, iv hv = V0 := ⟨_, rfl⟩
  have HV0 := Lib.hid hV0
  obtain ⟨Z0, hZ0⟩ : ∃ Z0, iv (List.replicate 128 0) = Z0 := ⟨_, rfl⟩
  have HZL : Hid (0 + V0.length ≤ Z0.length) := Lib.hid (by rw [← hZ0, ← hV0]; simp only [iv, List.length_map, List.length_replicate, hok.1]; omega)
  have HV1 : Hid (∀ v ∈ V0, v.oneCell' = true) := Lib.hid (by rw [← hV0]; exact iv_one _)
  rw [hV0] at HSPL HNC HHN
  rw [hZ0] at HSPL hmk
  obtain ⟨R, hR⟩ : ∃ R, runN l 200 0 (-1) (beginS hv) = R := ⟨_, rfl⟩
  have HRR := Lib.hid hR
  rw [hR]
  have h128 : ((128 : Nat) : Int) = 128 := rfl
  rw [h128] at hmk
  clear hc hl hok b1 b2 b5 b6 b7 b8 hR hin h128 hV0 hZ0
  go_enter Try.func10, Try.ntmps10
  go_wp2_with fail
  (with_reducible refine HCK.out.mono ?_)
  rintro e w1 ⟨A1, n1, c1, rfl, hnx, hb1⟩
  obtain ⟨rfl, hg1⟩ := hnx trivial
  go_wp2_with fail
  refine (checkHave_any n HA n hcap hv _ ((hh0.below hb1 (Nat.le_refl _)).more hb1.size) HHL.out (by unfold maxLen; omega)).mono ?_
  rintro e w2 ⟨rfl, hb2⟩
  rw [HCV.out]
  have hbw2 := hb1.trans (hb2.mono hb1.size)
  have HG2 := Lib.hid ((hg1.below hb2 (Nat.le_refl _)).more hb2.size)
  clear HCK hb1 hb2 hg1 hnx
  have hnv : V0.length = n := by rw [HNC.out]; exact Nat.min_eq_left (by omega)
  have hpos : 0 < V0.length := by omega
  obtain ⟨ad, rfl, hsrc⟩ := HHN.out (w2.alloc (.cells Z0.toArray 3)) (hbw2.trans ((by go_grown : Below w2.heap.size w2 _).mono hbw2.size)) hpos
  have hrun := run_copy_row (P := Try.prog) (w2.alloc (.cells Z0.toArray 3)) 26 26 3 3 w2.heap.size 0 128 128 ad n hcap Z0.toArray 3 V0 Try.underlying26 (by kernel_rfl) (Own.new w2 3 Z0) HNC.out hsrc (by simpa using HZL.out) HV1.out
  have h2 : Z0.toArray.toList.take 0 ++ V0 ++ Z0.toArray.toList.drop (0 + V0.length) = iv (beginS hv) := by
    rw [List.append_assoc]
    exact HSPL.out
  rw [h2] at hrun
  have hrow : Own ((w2.alloc (.cells Z0.toArray 3)).setRow w2.heap.size (iv (beginS hv)).toArray) w2.heap.size 3 (iv (beginS hv)) := setRow_heap (w2.alloc (.cells Z0.toArray 3)) w2.heap.size _ (iv (beginS hv)).toArray 3 _ (Own.new w2 3 Z0)
  have hb3 : Below w2.heap.size w2 ((w2.alloc (.cells Z0.toArray 3)).setRow w2.heap.size (iv (beginS hv)).toArray) := below_setRow (by go_grown) (Nat.le_refl _) _
  obtain ⟨w3, hw3⟩ : ∃ w3, (w2.alloc (.cells Z0.toArray 3)).setRow w2.heap.size (iv (beginS hv)).toArray = w3 := ⟨_, rfl⟩
  rw [hw3] at hrow hb3 hrun
  have hrun2 : (Builtin.copy_ #[26, 26] 3 #[.slice (some ⟨w2.heap.size, 0, none⟩) 128 128, .slice (some ad) n hcap]).run Try.prog (w2.alloc (.cells Z0.toArray 3)) = .ok (.int .i64 n) w3 := by
    have e : goInt V0.length = .int .i64 n := by rw [hnv]; rfl
    rw [← e]
    exact hrun
  have HROW3 := Lib.hid hrow
  have HG3 := Lib.hid ((HG2.out.below hb3 (Nat.le_refl _)).more hb3.size)
  have hbw3 := hbw2.trans (hb3.mono hbw2.size)
  clear hpos hsrc hrun hrow hw3 HHN HG2 h2 hnv
  have HB0 : Hid ((iv (beginS hv)).length = 128) := Lib.hid (by rw [iv, List.length_map, HBO.out.1])
  have hvr3 : w3.ownsRow w2.heap.size 3 1 (.slice (some ⟨w2.heap.size, 0, none⟩) 128 128) 128 (iv (beginS hv)) := ⟨by rw [HB0.out], .inr ⟨w2.heap.size, 128, (iv (beginS hv)).toArray, rfl, Nat.le_refl _, HROW3.out, Nat.le_refl _, by simp [maxLen], by rw [List.size_toArray, HB0.out], by rw [List.take_of_length_le (by simp [HB0.out])]⟩⟩
  have hgl3 := (hvr3.lt w2.heap.size rfl).2
  go_wp2_with fail
  refine (sourcesO_any A1 n1 c1 (nxP (bareP l)) w3 HG3.out HNL.out HWAY.out (nxP_nodup HWAY.out)).mono ?_
  rintro e w4 ⟨cs, rfl, hro4', hb4⟩
  have hro4 : RowsO w4 w3.heap.size (frP l) cs := hro4'
  have HRO4 := Lib.hid hro4
  have HVR4 := Lib.hid (own_below hvr3 hb4)
  have hbw4 := hbw3.trans (hb4.mono hbw3.size)
  have hsz4 := hb4.size
  have hsw2 := hbw2.size
  have hfr0 : ∃ row, (frP l)[0]? = some row ∧ row[0]? = some (-1) := by
    obtain ⟨row, hr⟩ := frP_get (l := l) (j := 0) (by rw [HL.out]; omega)
    exact ⟨row, hr, frG_zero hr⟩
  obtain ⟨g, hg⟩ : ∃ g, w2.heap.size = g := ⟨_, rfl⟩
  obtain ⟨G5, hG5⟩ : ∃ G5, w3.heap.size = G5 := ⟨_, rfl⟩
  rw [hg] at HVR4 hgl3 hsw2 ⊢
  rw [hG5] at HRO4 hgl3 hsz4 ⊢
  have HF0 := Lib.hid hfr0
  clear HG3 hro4 hro4' hvr3 hb4 hb3 hbw2 hbw3 HROW3 hrun2 hmk hfr0 hg hG5 HSPL HNC HZL HV1
  go_wp2
  go_loopw [13, 14, 37] (fun s13 s14 z wr => ∃ (k i : Nat) (frm : Int) (v : List Int), k ≤ 200 ∧ z = .int .i64 k ∧ s13 = .int .i64 frm ∧ s14 = .int .i64 i ∧ i < n1 ∧ ValsOk 128 v ∧ R = runN l (200 - k) i frm v ∧ (∃ (src : Nat) (row : List Int), (frP l)[i]? = some row ∧ row[src]? = some frm) ∧ wr.ownsRow g 3 1 (.slice (some ⟨g, 0, none⟩) 128 128) 128 (iv v) ∧ RowsO wr G5 (frP l) cs ∧ Below w0.heap.size w0 wr) (fun _ _ z _ => 200 - (intOf z).toNat)
  case atStart =>
    obtain ⟨row, h1, h2⟩ := HF0.out
    exact ⟨0, 0, -1, beginS hv, by omega, rfl, rfl, rfl, by omega, HBO.out, HRR.out.symm, ⟨0, row, h1, h2⟩, HVR4.out, HRO4.out, hbw4⟩
  case round =>
    obtain ⟨k, i, frm, v, hk, rfl, rfl, rfl, hi, hvo, hR, ⟨src, row, hrow, hsrc⟩, hvr, hro, hb⟩ := hrel
    have HVO := Lib.hid hvo
    have HR := Lib.hid hR
    have HRO := Lib.hid hro
    have HVR := Lib.hid hvr
    have hsz := hb.size
    clear hvo hR
    by_cases hlt : k < 200
    · obtain ⟨ad2, ⟨js, co, te, th, el, la⟩, Aj, cj, Ac, cc, Al, cl, rfl, hbl, hd, hrj0, hrc0, hrl0, e0, e1, e2, e3, e4, e5⟩ := hx0.at_ (k := i) (by rw [HL.out]; exact hi)
      have hrj := hrj0.below hb (Nat.le_refl _)
      have hrc := RdS.below hrc0 hb (Nat.le_refl _)
      have HRL := Lib.hid hrl0
      have e0 := (hb.cell hbl).trans e0
      have e1 := (hb.cell (p := ⟨(ad2.add (i * 6)).block, (ad2.add (i * 6)).off + 1, none⟩) hbl).trans e1
      have e2 := (hb.cell (p := ⟨(ad2.add (i * 6)).block, (ad2.add (i * 6)).off + 2, none⟩) hbl).trans e2
      have e3 := (hb.cell (p := ⟨(ad2.add (i * 6)).block, (ad2.add (i * 6)).off + 3, none⟩) hbl).trans e3
      have e4 := (hb.cell (p := ⟨(ad2.add (i * 6)).block, (ad2.add (i * 6)).off + 4, none⟩) hbl).trans e4
      have e5 := (hb.cell (p := ⟨(ad2.add (i * 6)).block, (ad2.add (i * 6)).off + 5, none⟩) hbl).trans e5
      clear hrj0 hrc0 hrl0
      have hsg := ckSingle_at HC.out hd hrow
      have hstep := runN_step (f := 199 - k) (last := frm) (v := v) hd hrow
      rw [show 199 - k + 1 = 200 - k by omega, jnsS_jnX (frG_nodup hrow) hsrc (fun j hj => (ckJn_ok (hsg.joins j hj)).1)] at hstep
      have HSTEP := Lib.hid hstep
      have hm1 := manyC_le hd
      have hm2 := manyJ_le hd
      have hmc := HMC.out
      have hmj := HMJ.out
      have hgl := goB_lt hsg.bare (doS co (jnX js (jnV v src js) v))
      have HNS := Lib.hid (fun (j : Nat) (row' : List Int) (x : List Int) (h1 : goB (bareS ⟨js, co, te, th, el, la⟩) x = (j : Int)) (h2 : (frP l)[j]? = some row') => next_src (v := x) hd hsg h1 h2)
      have HLA := Lib.hid hsg.last
      have htest := hsg.test
      have HLL := Lib.hid hsg.len
      simp only [] at HLA HLL HRL
      obtain ⟨ns, hns⟩ : ∃ ns, row.length = ns := ⟨_, rfl⟩
      have hsn : src < ns := by rw [← hns]; exact (List.getElem?_eq_some_iff.1 hsrc).1
      have hll := hsg.len
      simp only [] at e0 e1 e2 e3 e4 e5 hrj hrc hm1 hm2 hgl htest hll
      obtain ⟨m1, hm1e⟩ : ∃ m, co.length = m := ⟨_, rfl⟩
      obtain ⟨m2, hm2e⟩ : ∃ m, js.length = m := ⟨_, rfl⟩
      rw [hm1e] at e1 hm1
      rw [hm2e] at e0 hm2
      rw [hll] at e5
      have hgw := (hvr.lt g rfl).2
      have HJN := Lib.hid hsg.joins
      have HCO := Lib.hid hsg.code
      simp only [] at HJN HCO
      rw [hns] at HJN
      have HEX := Lib.hid (fun (Z : World) (hZ : Below wr.heap.size wr Z) => execute_any Aj Ac Al m2 cj m1 cc n cl g 128 src ns g js co te th el v Z ((hrj.more hsw2).below hZ (by omega)) ((RdS.more hrc hsw2).below hZ (by omega)) hm2e hm1e (by omega) (by omega) hsn HJN.out HCO.out HVO.out (Nat.le_trans (Nat.le_of_lt hgw) hZ.size) (own_below HVR.out hZ))
      have hxo : ValsOk 128 (doS co (jnX js (jnV v src js) v)) := doS_ok (ckStNs_steps HCO.out) (jnX_ok HVO.out (jnV_ok HVO.out src js))
      obtain ⟨X, hX⟩ : ∃ X, doS co (jnX js (jnV v src js) v) = X := ⟨_, rfl⟩
      rw [hX] at HEX HSTEP hgl hxo
      have HXO := Lib.hid hxo
      have hte : te = -1 ∨ (0 ≤ te ∧ te < (128 : Nat)) := by omega
      have HFO : Hid (∀ Z : World, Z.ownsRow g 3 1 (.slice (some ⟨g, 0, none⟩) 128 128) 128 (iv X) → Calls Try.prog 30 #[.agg #[.slice Aj m2 cj, .slice Ac m1 cc, .int .i64 te, .int .i64 th, .int .i64 el, .slice Al n cl], .slice (some ⟨g, 0, none⟩) 128 128] Z fun e w' => e = .returned (.int .i64 (goB (bareS ⟨js, co, te, th, el, la⟩) X)) ∧ Below Z.heap.size Z w') := Lib.hid fun Z hZ =>
        snFollower_any Aj Ac Al (some ⟨g, 0, none⟩) m2 cj m1 cc n cl 128 128 te th el js co la X Z (own_rdI hZ HXO.out.1) HXO.out.1 hte
      have HVO2 : Hid (∀ Z : World, Below w0.heap.size w0 Z → Z.ownsRow g 3 1 (.slice (some ⟨g, 0, none⟩) 128 128) 128 (iv X) → Calls Try.prog 31 #[.slice Al n cl, .slice (some ⟨g, 0, none⟩) 128 128] Z fun e w' => ∃ A' c', e = .returned (.slice A' n c') ∧ RdI w' w'.heap.size A' (la.map fun x => X.getD x.toNat 0) ∧ Below Z.heap.size Z w') := Lib.hid fun Z hZ hv => valuesOf_any Al (some ⟨g, 0, none⟩) n cl 128 128 la X Z (((HRL.out.below hZ (Nat.le_refl _))).more hZ.size) (own_rdI hv HXO.out.1) HLL.out HXO.out.1 (by omega) HLA.out
      obtain ⟨go, hgo⟩ : ∃ go, goB (bareS ⟨js, co, te, th, el, la⟩) X = go := ⟨_, rfl⟩
      have HGO := Lib.hid hgo
      rw [hgo] at HFO HSTEP hgl
      rw [HL.out] at hgl
      have HGL := Lib.hid hgl
      have hrowl : row.length ≤ 9 := by have := frP_row hrow; have := HL.out; omega
      obtain ⟨A5, c5, hcs5, how5⟩ := hro.rows i row hrow
      have hrd5 := own_rdI how5 rfl
      rw [hns] at hcs5 hrowl
      have hcell5 := hro.own.cell hcs5
      have hgl5 := hro.own.lt
      have HIX : Hid (∀ Z : World, Below wr.heap.size wr Z → Calls Try.prog 29 #[.slice A5 ns c5, .int .i64 frm] Z fun e w' => e = .returned (.int .i64 src) ∧ Z = w') := Lib.hid fun Z hZ => indexI_any A5 ns c5 row frm src wr.heap.size Z (hrd5.below hZ (Nat.le_refl _)) hns (by unfold maxLen; omega) hsrc (frG_nodup hrow)
      clear hd hsg hstep hns hll hm1e hm2e hrj hrc hX hxo hgo hgl hsrc hro hvr hcs5 how5 hrd5 hm1 hm2 hmc hmj hte htest hrow
      have hbox := Own.new wr 43 [.slice Aj m2 cj, .slice Ac m1 cc, .int .i64 te, .int .i64 th, .int .i64 el, .slice Al n cl]
      have HBOX := Lib.hid hbox
      clear hbox
      go_wp2
      go_region_with (first
        | (go_at_call 29; (with_reducible refine (HIX.out _ (by go_grown)).mono ?_); rintro e wq ⟨rfl, rfl⟩)
        | (go_at_call 28; (with_reducible refine (HEX.out _ (by go_grown)).mono ?_); rintro e w5 ⟨rfl, hv5, hw5⟩; have hbx5 : Own w5 wr.heap.size 43 [.slice Aj m2 cj, .slice Ac m1 cc, .int .i64 te, .int .i64 th, .int .i64 el, .slice Al n cl] := (hw5.block wr.heap.size (by simp) (by omega)).trans HBOX.out; have hwr5 : Wrote g wr w5 := (Wrote.of_below (by go_grown)).trans hw5; have HV5 := Lib.hid hv5; have HBX5 := Lib.hid hbx5; have HW5 := Lib.hid hwr5; clear hv5 hw5 hbx5 hwr5))
      all_goals
        have hb5 : Below w0.heap.size w0 w5 := hb.trans (HW5.out.below hsw2 hsz)
        have hsz5 := HW5.out.size
        have hro5 := HRO.out.wrote HW5.out hgl3
        have HRO5 := Lib.hid hro5
        have p0 := HBX5.out.cell (j := 0) rfl
        have p1 := HBX5.out.cell (j := 1) rfl
        have p2 := HBX5.out.cell (j := 2) rfl
        have p3 := HBX5.out.cell (j := 3) rfl
        have p4 := HBX5.out.cell (j := 4) rfl
        have p5 := HBX5.out.cell (j := 5) rfl
        have hbx5l := HBX5.out.lt
        clear hro5 HEX HIX
        rcases HGL.out with hgo | ⟨j, hgo, hj⟩
        · have HR6 : Hid (R = some (la.map fun x => X.getD x.toNat 0)) := Lib.hid (by rw [HR.out, HSTEP.out, if_pos hgo])
          rw [hgo] at HFO
          clear hgo HGL
          go_wp2_with fail
          refine (HFO.out _ HV5.out).mono ?_
          rintro e w6 ⟨rfl, hb6⟩
          have p5' := (HBX5.out.below hb6 hbx5l).cell (j := 5) rfl
          have hb06 := hb5.trans (hb6.mono hb5.size)
          have HV6 := Lib.hid (own_below HV5.out hb6)
          have hs6 := hb6.size
          clear p0 p1 p2 p3 p4 p5 hb6
          go_wp2_with fail
          refine (HVO2.out _ hb06 HV6.out).mono ?_
          rintro e w7 ⟨A7, c7, rfl, hr7, hb7⟩
          have HR7 := Lib.hid hr7
          have hb07 := hb06.trans (hb7.mono hb06.size)
          clear hr7
          go_wp2
          go_returns
          exact ⟨.inr ⟨_, A7, c7, HR6.out, (by rw [List.length_map, HLL.out]; rfl), HR7.out⟩, hb07⟩
        · have HR6 : Hid (R = runN l (200 - (k + 1)) j i X) := Lib.hid (by
            rw [HR.out, HSTEP.out, if_neg (by omega), hgo, show 199 - k = 200 - (k + 1) by omega]
            rfl)
          have hsrc6 : ∃ (src : Nat) (row : List Int), (frP l)[j]? = some row ∧ row[src]? = some (i : Int) := by
            obtain ⟨row', hr'⟩ := frP_get (l := l) (j := j) (by rw [HL.out]; exact hj)
            have hm := HNS.out j row' X (HGO.out.trans hgo) hr'
            obtain ⟨src', hs', e'⟩ := List.getElem_of_mem hm
            exact ⟨src', row', hr', by rw [← e']; exact List.getElem?_eq_getElem hs'⟩
          have HS6 := Lib.hid hsrc6
          rw [hgo] at HFO
          clear hgo hsrc6 HGL
          go_wp2_with fail
          refine (HFO.out _ HV5.out).mono ?_
          rintro e w6 ⟨rfl, hb6⟩
          have HV6 := Lib.hid (own_below HV5.out hb6)
          have HRO6 := Lib.hid (HRO5.out.quiet hb6)
          have hb06 := hb5.trans (hb6.mono hb5.size)
          clear p0 p1 p2 p3 p4 p5 hb6
          go_wp2
          go_round
          case rel => exact ⟨k + 1, j, i, X, by omega, by go_num, rfl, rfl, hj, HXO.out, HR6.out, HS6.out, HV6.out, HRO6.out, hb06⟩
          case measure => (simp [intOf]; omega)
    · have HR6 : Hid (R = none) := Lib.hid (by rw [HR.out, show 200 - k = 0 by omega]; rfl)
      clear hsrc hrow hro hvr
      go_wp2
      go_returns
      exact ⟨.inl ⟨HR6.out, _, _, rfl⟩, hb⟩

/-- M1: the code of a run -/
def ckRunN (vars : Int) (l : List Sg) (hv : List Int) : Int := if ckSingle vars l = 0 then ckHave vars hv else ckSingle vars l

set_option maxHeartbeats 4000000 in
theorem snRun_bad (vars : Int) (A HA : Option Addr) (len cap hl hcap : Nat) (l : List Sg) (hv : List Int) (w : World) (hx : RdN w w.heap.size A l) (hh : RdI w w.heap.size HA hv) (hpl : l.length = len) (hm : len ≤ maxLen) (hin : ∀ s ∈ l, InSg s) (hhl : hv.length = hl) (hhm : hl ≤ maxLen) (hc : ckRunN vars l hv ≠ 0) :
    Calls Try.prog 10 #[.int .i64 vars, .slice A len cap, .slice HA hl hcap] w fun e w' => ∃ A1 c1, e = .returned (.tuple #[.slice A1 0 c1, .int .i64 (ckRunN vars l hv)]) ∧ Below w.heap.size w w' := by
  have HCK := Lib.hid (singleChk_any vars A len cap l w hx hpl hm hin)
  unfold ChkS at HCK
  unfold ckRunN at hc ⊢
  by_cases h0 : ckSingle vars l = 0
  · rw [if_pos h0] at hc ⊢
    rw [h0] at HCK
    have e2 : (ckHave vars hv != 0) = true := by simp [hc]
    clear hx hin hc h0
    go_enter Try.func10, Try.ntmps10
    go_wp2_with fail
    (with_reducible refine HCK.out.mono ?_)
    rintro e w1 ⟨A1, n1, c1, rfl, _, hb1⟩
    go_wp2_with fail
    refine (checkHave_any vars HA hl hcap hv _ ((hh.below hb1 (Nat.le_refl _)).more hb1.size) hhl hhm).mono ?_
    rintro e w2 ⟨rfl, hb2⟩
    go_wp2_with fail
    go_returns
    exact ⟨_, _, rfl, hb1.trans (hb2.mono hb1.size)⟩
  · rw [if_neg h0] at hc ⊢
    have e1 : (ckSingle vars l != 0) = true := by simp [h0]
    clear hx hin hc h0 hh
    go_enter Try.func10, Try.ntmps10
    go_wp2_with (go_at_call 20; (with_reducible refine HCK.out.mono ?_); rintro e w1 ⟨A1, n1, c1, rfl, _, hb1⟩)
    go_returns
    exact ⟨_, _, rfl, hb1⟩

end Go.Proofs.Ytgcjknibelfjbaa
