/-
  codemasonref.needs (T1): the walk.
-/
import Derived.Test.YtfhnhbkdhdocjaaCutSpot
import Derived.Test.YtfhnhbkdhdocjaaMCut
import Derived.Test.YtfhnhbkdhdocjaaMarks
import Derived.Test.YtfhnhbkdhdocjaaMReg
namespace Go.Proofs.Ytfhnhbkdhdocjaa
open Go.RowKit
set_option linter.unusedSimpArgs false
set_option linter.unusedVariables false
set_option maxRecDepth 100000

set_option maxHeartbeats 16000000 in
theorem refNeeds_any (T : Bool) (n want tests v : Nat) (A SA : Option Addr) (len cap sc_ : Nat) (p : List Bk) (ms : List (List Bool)) (i0 k0 : Nat) (w : World) (hx : RdP w w.heap.size A p) (hl : p.length = len) (hc : ckProg n p = 0) (hw : want < 4294967296) (hv : v < n) (hin : SpIn p (i0, k0)) (hms : RdM2 w w.heap.size SA ms) (hml : ms.length = len) (hmr : ∀ (i : Nat) (b : Bk) (r : List Bool), p[i]? = some b → ms[i]? = some r → r.length = b.code.length) (ht : tests < 4294967296) (hT : T = true ↔ LvM p want (mkS ms) (mkT tests) v (i0, k0)) :
    Calls Try.prog 73 #[.slice A len cap, .int .u32 (want : Nat), .slice SA len sc_, .int .u32 (tests : Nat), .int .i64 (v : Int), .agg #[.int .i64 (i0 : Int), .int .i64 (k0 : Int)]] w fun e w' => e = .returned (.bool T) ∧ Below w.heap.size w w' := by
  obtain ⟨b1, b2, b3, b4, b5, _⟩ := ckProg_bd hc
  have HC := Lib.hid hc
  have HL := Lib.hid hl
  have HML := Lib.hid hml
  have HT := Lib.hid hT
  have HMR := Lib.hid hmr
  have HMS := Lib.hid (fun (Z : World) (hZ : Below w.heap.size w Z) => (hms.below hZ (Nat.le_refl _)).more hZ.size)
  have HH0 : Hid (HsM p want (mkS ms) (mkT tests) v (i0, k0) [(i0, k0)]) := Lib.hid (HsM.start hin)
  rw [hl] at b3 b4
  have hn6 : n ≤ 6 := by omega
  have hv32 : v < 32 := by omega
  have hrow0 : (((w.alloc (.cells #[.int .i64 (i0 : Int), .int .i64 (k0 : Int)] 32)).alloc (.cells #[.int .i64 (i0 : Int), .int .i64 (k0 : Int)] 32))).ownsRow w.heap.size 32 2 (.slice (some ⟨w.heap.size + 1, 0, none⟩) 1 1) 1 (rv cSp [(i0, k0)]) :=
    ⟨rfl, .inr ⟨w.heap.size + 1, 1, #[.int .i64 (i0 : Int), .int .i64 (k0 : Int)], rfl, by omega, by have := heap_alloc_new (w.alloc (.cells #[.int .i64 (i0 : Int), .int .i64 (k0 : Int)] 32)) (.cells #[.int .i64 (i0 : Int), .int .i64 (k0 : Int)] 32); rwa [World.size_alloc] at this, Nat.le_refl _, by simp [maxLen], rfl, rfl⟩⟩
  clear hl hc hin b1 b2 hms hml hmr hT
  go_enter Try.func73, Try.ntmps73
  go_wp2
  go_loopw [13, 14] (fun s9 s10 wr => ∃ (hs : List (Nat × Nat)) (k : Nat) (A2 : Option Addr) (c2 : Nat), k ≤ hs.length ∧ s10 = .int .i64 k ∧ s9 = .slice A2 hs.length c2 ∧ wr.ownsRow w.heap.size 32 2 (.slice A2 hs.length c2) hs.length (rv cSp hs) ∧ Below w.heap.size w wr ∧ HsM p want (mkS ms) (mkT tests) v (i0, k0) hs ∧ DnM p want (mkS ms) (mkT tests) v hs k)
    (fun s9 s10 _ => 2 * (168 - lenW s9) + (lenW s9 - (intOf s10).toNat))
  case atStart => exact ⟨[(i0, k0)], 0, _, _, by simp, rfl, rfl, hrow0, by go_grown, HH0.out, DnM.zero _ _ _ _ _ _⟩
  case round =>
    obtain ⟨hs, k, A2, c2, hk, rfl, rfl, hown, hb, hhs, hdn⟩ := hrel
    have hlen := hhs.len HC.out
    have HHS := Lib.hid hhs
    have HDN := Lib.hid hdn
    have HOWN := Lib.hid hown
    have hsz := hb.size
    obtain ⟨m, hme⟩ : ∃ m, hs.length = m := ⟨_, rfl⟩
    have HM := Lib.hid hme
    rw [hme] at hk hlen HOWN ⊢
    by_cases hlt : k < m
    · obtain ⟨ad2, x1, x2, rfl, hbl2, hsp, hs0, hs1⟩ := sp_at (own_rdR (c := cSp) hown rfl) (k := k) (by rw [hme]; exact hlt)
      have hxin : (x1, x2) ∈ hs := List.mem_of_getElem? hsp
      obtain ⟨bk, hbk, hxk⟩ := hhs.inn _ hxin
      simp only [] at hbk hxk
      have hx1 := (List.getElem?_eq_some_iff.1 hbk).1
      rw [HL.out] at hx1
      obtain ⟨ad, b', Ac, cc, rfl, hbl, hd, hrow, hc0, hc1, hc2, hc3⟩ := (hx.below hb (Nat.le_refl _)).at_ (k := x1) (by rw [HL.out]; exact hx1)
      rw [hbk] at hd
      injection hd with hd
      subst hd
      have HBK := Lib.hid hbk
      have HSP := Lib.hid hsp
      have HXIN := Lib.hid hxin
      have hbkok := ckProg_at HC.out hbk
      have hcl20 := manyS_le hbk
      have HFIT := Lib.hid (fun j (hj : j ∈ nxB bk) => nxB_in HC.out hbk hj)
      obtain ⟨code, te, th, el⟩ := bk
      simp only [] at hc0 hc1 hc2 hc3 hrow hxk hcl20
      have hcode := hbkok.code
      simp only [] at hcode
      have HCD := Lib.hid hcode
      obtain ⟨cl, hcl⟩ : ∃ cl, code.length = cl := ⟨_, rfl⟩
      have HCL := Lib.hid hcl
      rw [hcl] at hc0 hxk hcl20
      have hblr : (ad.add (x1 * 4)).block < wr.heap.size := by omega
      have hblr1 : (ad.add (x1 * 4)).block < wr.heap.size + 1 := by omega
      clear hown hhs hdn hme hsp hxin hbk hbkok hcode hcl
      by_cases hct : x2 < cl
      · obtain ⟨ad3, o, t, a, bb, vv, rfl, hbl3, hd3, e0, e1, e2, e3, e4⟩ := hrow.at_ (k := x2) (by rw [HCL.out]; exact hct)
        have hcks := ckStepsF_at HCD.out hd3
        simp only [] at hcks
        have HUS := Lib.hid (usM_step (want := want) (MS := mkS ms) (MT := mkT tests) (v := v) HBK.out hd3)
        have HNX := Lib.hid (fun y => nx_step (v := v) (y := y) HBK.out hd3)
        have hrw := rdW_bit (s := ⟨o, t, a, bb, vv⟩) hcks v
        have hrl := rdW_lt (s := ⟨o, t, a, bb, vv⟩) hcks hn6
        obtain ⟨W, hW⟩ : ∃ W, rdW ⟨o, t, a, bb, vv⟩ = W := ⟨_, rfl⟩
        have HRD : Hid (∀ Z : World, Calls Try.prog 48 #[.agg #[.int .i64 o, .int .i64 t, .int .i64 a, .int .i64 bb, .int .i64 vv]] Z fun e w' => e = .returned (.int .u32 (W : Nat)) ∧ Below Z.heap.size Z w') := Lib.hid fun Z => by rw [← hW]; exact reads_any n o t a bb vv Z hcks hn6
        rw [hW] at hrw hrl
        have hrl32 : W < 4294967296 := Nat.lt_of_lt_of_le hrl (by decide)
        have hbb := bitB_small (W := W) hv32
        obtain ⟨tb, htb⟩ : ∃ tb, W.testBit v = tb := ⟨_, rfl⟩
        rw [htb] at hbb hrw
        have HRW := Lib.hid hrw
        have HBB := Lib.hid hbb
        have hbl3r : (ad3.add (x2 * 5)).block < wr.heap.size := by omega
        have hbl3r1 : (ad3.add (x2 * 5)).block < wr.heap.size + 1 := by omega
        have hbl3r2 : (ad3.add (x2 * 5)).block < wr.heap.size + 1 + 1 := by omega
        obtain ⟨sad, mrow, Ar2, cr2, rfl, hsbl, hmrow, hmc, hmrd⟩ := (HMS.out wr hb).at_ (k := x1) (by rw [HML.out]; exact hx1)
        have hmlen : mrow.length = cl := by rw [HMR.out x1 _ mrow HBK.out hmrow]; exact HCL.out
        obtain ⟨rad, mk, rfl, hrbl, hmk, hmkc⟩ := hmrd.at_ (k := x2) (by rw [hmlen]; exact hct)
        have HMK : Hid (mkS ms x1 x2 ↔ mk = true) := Lib.hid (by
          unfold mkS
          have e1 : ms.getD x1 [] = mrow := by rw [List.getD_eq_getElem?_getD, hmrow]; rfl
          rw [e1, List.getD_eq_getElem?_getD, hmk, Option.getD_some])
        rw [hmlen] at hmc
        have HM4 := Lib.hid (fun (Z : World) (hZ : Below wr.heap.size wr Z) => show Z.cell? (sad.add x1) = some (.slice (some rad) cl cr2) ∧ Z.cell? (rad.add x2) = some (.bool mk) from ⟨(hZ.cell hsbl).trans hmc, (hZ.cell hrbl).trans hmkc⟩)
        clear hd3 hcks hrl hW hbb htb hrw hmrow hmrd hmk hmkc hmc hsbl hrbl hmlen
        have hbr1 : Below wr.heap.size wr (((wr.alloc (.cells #[.int .i64 (x1 : Int), .int .i64 (x2 : Int)] 32)).alloc (.cells #[.slice (some ad3) cl cc, .int .i64 te, .int .i64 th, .int .i64 el] 79)).alloc (.cells #[.int .i64 o, .int .i64 t, .int .i64 a, .int .i64 bb, .int .i64 vv] 87)) := by go_grown
        have HY0 : Hid (Own (((wr.alloc (.cells #[.int .i64 (x1 : Int), .int .i64 (x2 : Int)] 32)).alloc (.cells #[.slice (some ad3) cl cc, .int .i64 te, .int .i64 th, .int .i64 el] 79)).alloc (.cells #[.int .i64 o, .int .i64 t, .int .i64 a, .int .i64 bb, .int .i64 vv] 87)) wr.heap.size 32 [.int .i64 (x1 : Int), .int .i64 (x2 : Int)]) := Lib.hid (((Own.new wr _ _).alloc _).alloc _)
        have HY2 : Hid (Own (((wr.alloc (.cells #[.int .i64 (x1 : Int), .int .i64 (x2 : Int)] 32)).alloc (.cells #[.slice (some ad3) cl cc, .int .i64 te, .int .i64 th, .int .i64 el] 79)).alloc (.cells #[.int .i64 o, .int .i64 t, .int .i64 a, .int .i64 bb, .int .i64 vv] 87)) (wr.heap.size + 1 + 1) 87 [.int .i64 o, .int .i64 t, .int .i64 a, .int .i64 bb, .int .i64 vv]) := Lib.hid (by simpa using Own.new ((wr.alloc (.cells #[.int .i64 (x1 : Int), .int .i64 (x2 : Int)] 32)).alloc (.cells #[.slice (some ad3) cl cc, .int .i64 te, .int .i64 th, .int .i64 el] 79)) 87 [.int .i64 o, .int .i64 t, .int .i64 a, .int .i64 bb, .int .i64 vv])
        have HBR1 := Lib.hid hbr1
        clear hbr1
        have hyes : tb = true → mk = true → LvM p want (mkS ms) (mkT tests) v (i0, k0) := fun h1 h2 => HHS.out.lv _ HXIN.out (.here (HUS.out.2 ⟨HMK.out.2 h2, HRW.out.1 h1⟩))
        have hnot : (mk = false ∨ tb = false) → ¬ UsM p want (mkS ms) (mkT tests) v (x1, x2) := fun h h2 => by
          obtain ⟨h3, h4⟩ := HUS.out.1 h2
          have h5 := HMK.out.1 h3
          have h6 := HRW.out.2 h4
          rcases h with h | h
          · rw [h] at h5; cases h5
          · rw [h] at h6; cases h6
        have HYES := Lib.hid hyes
        have HNOT := Lib.hid hnot
        clear hyes hnot
        go_upto_region 9 with fail
        obtain ⟨Y, hY⟩ : ∃ Y, Y = ((wr.alloc (.cells #[.int .i64 (x1 : Int), .int .i64 (x2 : Int)] 32)).alloc (.cells #[.slice (some ad3) cl cc, .int .i64 te, .int .i64 th, .int .i64 el] 79)).alloc (.cells #[.int .i64 o, .int .i64 t, .int .i64 a, .int .i64 bb, .int .i64 vv] 87) := ⟨_, rfl⟩
        rw [← hY] at HY0 HY2 HBR1 ⊢
        clear hY
        cases mk with
        | false =>
          refine wp_region_steps (X := Nat × (Unit)) (fun x w' => Below Y.heap.size Y w') (fun x j => doneL [0, 0, 0, 0, 0, 0, 0, 0, 0, 0, 0, 0, 0, 0, 0] x.1 j) (effL [0, 0, 0, 0, 0, 0, 0, 0, 0, 0, 0, 0, 0, 0, 0]) (0, ()) (fun x => [.slice (some sad) len sc_, .pointer (some ⟨wr.heap.size, 0, none⟩), .int .i64 (x1 : Nat), .pointer (some (sad.add x1)), .slice (some rad) cl cr2, .pointer (some ⟨wr.heap.size, 1, none⟩), .int .i64 (x2 : Nat), .pointer (some (rad.add x2)), .bool false, .bool false, undef, undef, undef, undef, .bool false]) _ (by kernel_rfl) (by kernel_rfl) (by kernel_rfl) (fun x => by simp only [putsD, Act.put, List.setIfInBounds_toArray, List.set_cons_zero, List.set_cons_succ]; exact rfl) h0L (Below.drew (Below.refl _ _)) (fun x => ?_) (fun x wz hDz hSz => ?_)
          · refine AllS.val (by rfl) (by rfl) (fun w hSw hPw => by go_simp) ?_
            refine AllS.val (by rfl) (by rfl) (fun w hSw hPw => by go_simp) ?_
            refine AllS.val (by rfl) (by rfl) (fun w hSw hPw => ?_) ?_
            · (try dsimp only at hSw)
              have q0 := (HY0.out.below hSw HY0.out.lt).cell (j := 0) rfl
              go_simp
            refine AllS.val (by rfl) (by rfl) (fun w hSw hPw => by go_simp) ?_
            refine AllS.val (by rfl) (by rfl) (fun w hSw hPw => ?_) ?_
            · (try dsimp only at hSw)
              have q0 := (HM4.out w (below_via HBR1.out hSw)).1
              go_simp
            refine AllS.val (by rfl) (by rfl) (fun w hSw hPw => by go_simp) ?_
            refine AllS.val (by rfl) (by rfl) (fun w hSw hPw => ?_) ?_
            · (try dsimp only at hSw)
              have q0 := (HY0.out.below hSw HY0.out.lt).cell (j := 1) rfl
              go_simp
            refine AllS.val (by rfl) (by rfl) (fun w hSw hPw => by go_simp) ?_
            refine AllS.val (by rfl) (by rfl) (fun w hSw hPw => ?_) ?_
            · (try dsimp only at hSw)
              have q0 := (HM4.out w (below_via HBR1.out hSw)).2
              go_simp
            refine AllS.val (by rfl) (by rfl) (fun w hSw hPw => by go_simp) ?_
            refine AllS.no (by rfl) (by rfl) ?_
            refine AllS.no (by rfl) (by rfl) ?_
            refine AllS.no (by rfl) (by rfl) ?_
            refine AllS.no (by rfl) (by rfl) ?_
            refine AllS.val (by rfl) (by rfl) (fun w hSw hPw => by go_simp) ?_
            exact AllS.nil
          have hbr5 : Below wr.heap.size wr wz := below_via HBR1.out hSz
          have hO2 := HY2.out.below hSz HY2.out.lt
          have hO0 := HY0.out.below hSz HY0.out.lt
          have q5 := hO2.cell (j := 1) rfl
          have q6 := hO0.cell (j := 0) rfl
          have q7 := hO0.cell (j := 1) rfl
          have hl2 := hO2.lt
          have hl0 := hO0.lt
          have HNU := Lib.hid (HNOT.out (.inl rfl))
          clear hO2 hO0 hDz hSz
          by_cases hto : t = (v : Int)
          · have hdn2 : DnM p want (mkS ms) (mkT tests) v hs (k + 1) := HDN.out.succ HSP.out HNU.out fun y hy => absurd hto ((HNX.out y).1 hy).1
            have HDN2 := Lib.hid hdn2
            have hne : (t != (v : Int)) = false := by simp [hto]
            clear hdn2 hto
            go_wp2
            go_round
            case rel => exact ⟨hs, k + 1, some ad2, c2, by rw [HM.out]; omega, by go_num, by rw [HM.out], by rw [HM.out]; exact own_below HOWN.out hbr5, hb.trans (hbr5.mono hsz), HHS.out, HDN2.out⟩
            case measure => simp [lenW, intOf]; omega
          · have hne : (t != (v : Int)) = true := by simp [hto]
            have hR1 := HHS.out.add HXIN.out ((HNX.out (x1, x2 + 1)).2 ⟨hto, rfl⟩) ⟨_, HBK.out, by show x2 + 1 ≤ code.length; rw [HCL.out]; omega⟩
            have hR2 : DnM p want (mkS ms) (mkT tests) v (addP hs (x1, x2 + 1)) (k + 1) := (HDN.out.grow (by rw [HM.out]; omega) fun m x h => addP_pre _ _ h).succ (addP_pre _ _ HSP.out) HNU.out fun y hy => addP_mem.2 (.inr ((HNX.out y).1 hy).2)
            have hR3 := addP_len hs (x1, x2 + 1)
            have hR4 := hR1.len HC.out
            have hcm : ∀ Z : World, Below wr.heap.size wr Z → Calls Try.prog 49 #[.slice (some ad2) m c2, .agg #[.int .i64 (x1 : Int), .int .i64 ((x2 : Int) + 1)]] Z fun e w' => ∃ A' c', e = .returned (.slice A' (addP hs (x1, x2 + 1)).length c') ∧
                w'.ownsRow w.heap.size 32 2 (.slice A' (addP hs (x1, x2 + 1)).length c') (addP hs (x1, x2 + 1)).length (rv cSp (addP hs (x1, x2 + 1))) ∧ Z.grownBy w' (Value.slice (some ad2) m c2).ownBlock := fun Z hZ =>
              (comesP_any w.heap.size (some ad2) m c2 hs x1 (x2 + 1) Z (own_below HOWN.out hZ) HM.out (Nat.le_trans hsz hZ.size) (by omega)).mono fun e w' ⟨A', c', h1, h2, h3, _⟩ => ⟨A', c', h1, h2, h3⟩
            obtain ⟨R, hRe⟩ : ∃ R, addP hs (x1, x2 + 1) = R := ⟨_, rfl⟩
            rw [hRe] at hR1 hR2 hR3 hR4 hcm
            rw [HM.out] at hR3
            have HR1 := Lib.hid hR1
            have HR2 := Lib.hid hR2
            have HCM := Lib.hid hcm
            clear hto hR1 hR2 hcm hRe
            go_wp2_with (go_at_call 49; (with_reducible refine (HCM.out _ hbr5).mono ?_); rintro e w8 ⟨A8, c8, rfl, hown8, hg8⟩)
            have hb8 := own_base (own_below HOWN.out hbr5) hg8 (Nat.le_trans hsz hbr5.size)
            go_round
            case rel => exact ⟨R, k + 1, A8, c8, by omega, by go_num, rfl, hown8, (hb.trans (hbr5.mono hsz)).trans hb8, HR1.out, HR2.out⟩
            case measure => simp [lenW, intOf]; omega
        | true =>
          cases tb with
          | true =>
            refine wp_region_steps (X := Nat × (Unit)) (fun x w' => Below Y.heap.size Y w') (fun x j => doneL [0, 0, 0, 0, 0, 0, 0, 0, 0, 0, 0, 0, 0, 0, 0] x.1 j) (effL [0, 0, 0, 0, 0, 0, 0, 0, 0, 0, 0, 0, 0, 0, 0]) (0, ()) (fun x => [.slice (some sad) len sc_, .pointer (some ⟨wr.heap.size, 0, none⟩), .int .i64 (x1 : Nat), .pointer (some (sad.add x1)), .slice (some rad) cl cr2, .pointer (some ⟨wr.heap.size, 1, none⟩), .int .i64 (x2 : Nat), .pointer (some (rad.add x2)), .bool true, .bool true, .agg #[.int .i64 o, .int .i64 t, .int .i64 a, .int .i64 bb, .int .i64 vv], .int .u32 (W : Nat), .int .i64 (v : Nat), .bool true, .bool true]) _ (by kernel_rfl) (by kernel_rfl) (by kernel_rfl) (fun x => by simp only [putsD, Act.put, List.setIfInBounds_toArray, List.set_cons_zero, List.set_cons_succ]; exact rfl) h0L (Below.drew (Below.refl _ _)) (fun x => ?_) (fun x wz hDz hSz => ?_)
            · refine AllS.val (by rfl) (by rfl) (fun w hSw hPw => by go_simp) ?_
              refine AllS.val (by rfl) (by rfl) (fun w hSw hPw => by go_simp) ?_
              refine AllS.val (by rfl) (by rfl) (fun w hSw hPw => ?_) ?_
              · (try dsimp only at hSw)
                have q0 := (HY0.out.below hSw HY0.out.lt).cell (j := 0) rfl
                go_simp
              refine AllS.val (by rfl) (by rfl) (fun w hSw hPw => by go_simp) ?_
              refine AllS.val (by rfl) (by rfl) (fun w hSw hPw => ?_) ?_
              · (try dsimp only at hSw)
                have q0 := (HM4.out w (below_via HBR1.out hSw)).1
                go_simp
              refine AllS.val (by rfl) (by rfl) (fun w hSw hPw => by go_simp) ?_
              refine AllS.val (by rfl) (by rfl) (fun w hSw hPw => ?_) ?_
              · (try dsimp only at hSw)
                have q0 := (HY0.out.below hSw HY0.out.lt).cell (j := 1) rfl
                go_simp
              refine AllS.val (by rfl) (by rfl) (fun w hSw hPw => by go_simp) ?_
              refine AllS.val (by rfl) (by rfl) (fun w hSw hPw => ?_) ?_
              · (try dsimp only at hSw)
                have q0 := (HM4.out w (below_via HBR1.out hSw)).2
                go_simp
              refine AllS.val (by rfl) (by rfl) (fun w hSw hPw => by go_simp) ?_
              refine AllS.val (by rfl) (by rfl) (fun w hSw hPw => ?_) ?_
              · (try dsimp only at hSw)
                have hO := HY2.out.below hSw HY2.out.lt
                have q0 := hO.cell (j := 0) rfl
                have q1 := hO.cell (j := 1) rfl
                have q2 := hO.cell (j := 2) rfl
                have q3 := hO.cell (j := 3) rfl
                have q4 := hO.cell (j := 4) rfl
                go_simp
              refine AllS.turn (fun _ _ => rfl) (by rfl) (fun w hSw hPw K hK => ?_) ?_
              · (try dsimp only at hSw)
                go_simp
                go_at_call 48
                (with_reducible refine (HRD.out _).mono ?_)
                rintro e w5 ⟨rfl, hb5⟩
                go_simp
                exact hK x _ (Nxt.none rfl) (below_via hSw hb5)
              refine AllS.val (by rfl) (by rfl) (fun w hSw hPw => by go_simp) ?_
              refine AllS.turn (fun _ _ => rfl) (by rfl) (fun w hSw hPw K hK => ?_) ?_
              · (try dsimp only at hSw)
                go_simp
                go_at_call 19
                (with_reducible refine (bit_any W _ _ hrl32).mono ?_)
                rw [HBB.out]
                rintro e w6 ⟨rfl, rfl⟩
                go_simp
                exact hK x _ (Nxt.none rfl) hSw
              refine AllS.val (by rfl) (by rfl) (fun w hSw hPw => by go_simp) ?_
              exact AllS.nil
            have HBZ := Lib.hid (below_via HBR1.out hSz)
            have HLV := Lib.hid (HYES.out rfl rfl)
            clear hDz hSz
            go_wp2
            go_ret
            exact ⟨ret_bool (HT.out.2 HLV.out).symm, hb.trans (HBZ.out.mono hsz)⟩
          | false =>
            refine wp_region_steps (X := Nat × (Unit)) (fun x w' => Below Y.heap.size Y w') (fun x j => doneL [0, 0, 0, 0, 0, 0, 0, 0, 0, 0, 0, 0, 0, 0, 0] x.1 j) (effL [0, 0, 0, 0, 0, 0, 0, 0, 0, 0, 0, 0, 0, 0, 0]) (0, ()) (fun x => [.slice (some sad) len sc_, .pointer (some ⟨wr.heap.size, 0, none⟩), .int .i64 (x1 : Nat), .pointer (some (sad.add x1)), .slice (some rad) cl cr2, .pointer (some ⟨wr.heap.size, 1, none⟩), .int .i64 (x2 : Nat), .pointer (some (rad.add x2)), .bool true, .bool true, .agg #[.int .i64 o, .int .i64 t, .int .i64 a, .int .i64 bb, .int .i64 vv], .int .u32 (W : Nat), .int .i64 (v : Nat), .bool false, .bool false]) _ (by kernel_rfl) (by kernel_rfl) (by kernel_rfl) (fun x => by simp only [putsD, Act.put, List.setIfInBounds_toArray, List.set_cons_zero, List.set_cons_succ]; exact rfl) h0L (Below.drew (Below.refl _ _)) (fun x => ?_) (fun x wz hDz hSz => ?_)
            · refine AllS.val (by rfl) (by rfl) (fun w hSw hPw => by go_simp) ?_
              refine AllS.val (by rfl) (by rfl) (fun w hSw hPw => by go_simp) ?_
              refine AllS.val (by rfl) (by rfl) (fun w hSw hPw => ?_) ?_
              · (try dsimp only at hSw)
                have q0 := (HY0.out.below hSw HY0.out.lt).cell (j := 0) rfl
                go_simp
              refine AllS.val (by rfl) (by rfl) (fun w hSw hPw => by go_simp) ?_
              refine AllS.val (by rfl) (by rfl) (fun w hSw hPw => ?_) ?_
              · (try dsimp only at hSw)
                have q0 := (HM4.out w (below_via HBR1.out hSw)).1
                go_simp
              refine AllS.val (by rfl) (by rfl) (fun w hSw hPw => by go_simp) ?_
              refine AllS.val (by rfl) (by rfl) (fun w hSw hPw => ?_) ?_
              · (try dsimp only at hSw)
                have q0 := (HY0.out.below hSw HY0.out.lt).cell (j := 1) rfl
                go_simp
              refine AllS.val (by rfl) (by rfl) (fun w hSw hPw => by go_simp) ?_
              refine AllS.val (by rfl) (by rfl) (fun w hSw hPw => ?_) ?_
              · (try dsimp only at hSw)
                have q0 := (HM4.out w (below_via HBR1.out hSw)).2
                go_simp
              refine AllS.val (by rfl) (by rfl) (fun w hSw hPw => by go_simp) ?_
              refine AllS.val (by rfl) (by rfl) (fun w hSw hPw => ?_) ?_
              · (try dsimp only at hSw)
                have hO := HY2.out.below hSw HY2.out.lt
                have q0 := hO.cell (j := 0) rfl
                have q1 := hO.cell (j := 1) rfl
                have q2 := hO.cell (j := 2) rfl
                have q3 := hO.cell (j := 3) rfl
                have q4 := hO.cell (j := 4) rfl
                go_simp
              refine AllS.turn (fun _ _ => rfl) (by rfl) (fun w hSw hPw K hK => ?_) ?_
              · (try dsimp only at hSw)
                go_simp
                go_at_call 48
                (with_reducible refine (HRD.out _).mono ?_)
                rintro e w5 ⟨rfl, hb5⟩
                go_simp
                exact hK x _ (Nxt.none rfl) (below_via hSw hb5)
              refine AllS.val (by rfl) (by rfl) (fun w hSw hPw => by go_simp) ?_
              refine AllS.turn (fun _ _ => rfl) (by rfl) (fun w hSw hPw K hK => ?_) ?_
              · (try dsimp only at hSw)
                go_simp
                go_at_call 19
                (with_reducible refine (bit_any W _ _ hrl32).mono ?_)
                rw [HBB.out]
                rintro e w6 ⟨rfl, rfl⟩
                go_simp
                exact hK x _ (Nxt.none rfl) hSw
              refine AllS.val (by rfl) (by rfl) (fun w hSw hPw => by go_simp) ?_
              exact AllS.nil
            have hbr5 : Below wr.heap.size wr wz := below_via HBR1.out hSz
            have hO2 := HY2.out.below hSz HY2.out.lt
            have hO0 := HY0.out.below hSz HY0.out.lt
            have q5 := hO2.cell (j := 1) rfl
            have q6 := hO0.cell (j := 0) rfl
            have q7 := hO0.cell (j := 1) rfl
            have hl2 := hO2.lt
            have hl0 := hO0.lt
            have HNU := Lib.hid (HNOT.out (.inr rfl))
            clear hO2 hO0 hDz hSz
            by_cases hto : t = (v : Int)
            · have hdn2 : DnM p want (mkS ms) (mkT tests) v hs (k + 1) := HDN.out.succ HSP.out HNU.out fun y hy => absurd hto ((HNX.out y).1 hy).1
              have HDN2 := Lib.hid hdn2
              have hne : (t != (v : Int)) = false := by simp [hto]
              clear hdn2 hto
              go_wp2
              go_round
              case rel => exact ⟨hs, k + 1, some ad2, c2, by rw [HM.out]; omega, by go_num, by rw [HM.out], by rw [HM.out]; exact own_below HOWN.out hbr5, hb.trans (hbr5.mono hsz), HHS.out, HDN2.out⟩
              case measure => simp [lenW, intOf]; omega
            · have hne : (t != (v : Int)) = true := by simp [hto]
              have hR1 := HHS.out.add HXIN.out ((HNX.out (x1, x2 + 1)).2 ⟨hto, rfl⟩) ⟨_, HBK.out, by show x2 + 1 ≤ code.length; rw [HCL.out]; omega⟩
              have hR2 : DnM p want (mkS ms) (mkT tests) v (addP hs (x1, x2 + 1)) (k + 1) := (HDN.out.grow (by rw [HM.out]; omega) fun m x h => addP_pre _ _ h).succ (addP_pre _ _ HSP.out) HNU.out fun y hy => addP_mem.2 (.inr ((HNX.out y).1 hy).2)
              have hR3 := addP_len hs (x1, x2 + 1)
              have hR4 := hR1.len HC.out
              have hcm : ∀ Z : World, Below wr.heap.size wr Z → Calls Try.prog 49 #[.slice (some ad2) m c2, .agg #[.int .i64 (x1 : Int), .int .i64 ((x2 : Int) + 1)]] Z fun e w' => ∃ A' c', e = .returned (.slice A' (addP hs (x1, x2 + 1)).length c') ∧
                  w'.ownsRow w.heap.size 32 2 (.slice A' (addP hs (x1, x2 + 1)).length c') (addP hs (x1, x2 + 1)).length (rv cSp (addP hs (x1, x2 + 1))) ∧ Z.grownBy w' (Value.slice (some ad2) m c2).ownBlock := fun Z hZ =>
                (comesP_any w.heap.size (some ad2) m c2 hs x1 (x2 + 1) Z (own_below HOWN.out hZ) HM.out (Nat.le_trans hsz hZ.size) (by omega)).mono fun e w' ⟨A', c', h1, h2, h3, _⟩ => ⟨A', c', h1, h2, h3⟩
              obtain ⟨R, hRe⟩ : ∃ R, addP hs (x1, x2 + 1) = R := ⟨_, rfl⟩
              rw [hRe] at hR1 hR2 hR3 hR4 hcm
              rw [HM.out] at hR3
              have HR1 := Lib.hid hR1
              have HR2 := Lib.hid hR2
              have HCM := Lib.hid hcm
              clear hto hR1 hR2 hcm hRe
              go_wp2_with (go_at_call 49; (with_reducible refine (HCM.out _ hbr5).mono ?_); rintro e w8 ⟨A8, c8, rfl, hown8, hg8⟩)
              have hb8 := own_base (own_below HOWN.out hbr5) hg8 (Nat.le_trans hsz hbr5.size)
              go_round
              case rel => exact ⟨R, k + 1, A8, c8, by omega, by go_num, rfl, hown8, (hb.trans (hbr5.mono hsz)).trans hb8, HR1.out, HR2.out⟩
              case measure => simp [lenW, intOf]; omega
      · have hxe : x2 = cl := by omega
        have hue := usM_end (want := want) (MS := mkS ms) (MT := mkT tests) (v := v) HBK.out
        have hne := fun y => nx_end (v := v) (y := y) HBK.out
        simp only [] at hue hne
        rw [HCL.out, ← hxe] at hue hne
        have HUE := Lib.hid hue
        obtain ⟨js, hjs⟩ : ∃ js, nxB ⟨code, te, th, el⟩ = js := ⟨_, rfl⟩
        have hjl : js.length ≤ 2 := by rw [← hjs]; exact nxB_len _
        have HJIN : Hid (∀ j ∈ js, 0 ≤ j ∧ Nx p v (x1, x2) (j.toNat, 0) ∧ SpIn p (j.toNat, 0)) := Lib.hid fun j hj => by
          obtain ⟨h0, h1⟩ := HFIT.out j (by rw [hjs]; exact hj)
          refine ⟨h0, (hne _).2 ⟨j.toNat, by rw [hjs]; rwa [Int.toNat_of_nonneg h0], rfl⟩, ?_⟩
          have hjl : j.toNat < p.length := by omega
          exact ⟨_, List.getElem?_eq_getElem hjl, Nat.zero_le _⟩
        have HNE : Hid (∀ y, Nx p v (x1, x2) y → ∃ j : Nat, (j : Int) ∈ js ∧ y = (j, 0)) := Lib.hid fun y hy => by
          have := (hne y).1 hy
          rwa [hjs] at this
        have HNC : Hid (∀ Z : World, Below w.heap.size w Z → Calls Try.prog 50 #[.slice (some ad) len cap] Z fun e w' => ∃ ad5 c' Ar cr, e = .returned (.slice (some ad5) len c') ∧ w'.cell? (ad5.add x1) = some (.slice Ar js.length cr) ∧ RdI w' w'.heap.size Ar js ∧ (∀ a, Ar = some a → Z.heap.size ≤ a.block) ∧ Below Z.heap.size Z w') := Lib.hid fun Z hZ =>
          (refNextsN_any (some ad) len cap p Z ((hx.below hZ (Nat.le_refl _)).more hZ.size) HL.out (by omega)).mono fun e w' ⟨A5, c5, h1, h2, h3, h4⟩ => by
            obtain ⟨ad5, row, Ar, cr, rfl, hbl5, hd5, hcell5, hrd5⟩ := h2.at_ (k := x1) (by simp [nxP, HL.out]; exact hx1)
            have hrow5 : row = js := by
              rw [nxP, List.getElem?_map, HBK.out] at hd5
              injection hd5 with hd5
              rw [← hjs]
              exact hd5.symm
            subst hrow5
            exact ⟨ad5, c5, Ar, cr, h1, hcell5, hrd5, fun a ha => (h4 ad5 rfl).2 x1 (by simp [nxP, HL.out]; exact hx1) Ar _ cr hcell5 a ha, h3⟩
        clear hue hne hjs hxk hct HFIT HCD hrow
        obtain ⟨tb2, htb2⟩ : ∃ tb2, tests.testBit x1 = tb2 := ⟨_, rfl⟩
        have HBT : Hid (bitB tests (x1 : Int) = tb2) := Lib.hid (by rw [bitB_small (by omega), htb2])
        have HTB2 := Lib.hid htb2
        by_cases hte : te = (v : Int) ∧ tb2 = true
        · obtain ⟨hte, rfl⟩ := hte
          have HLV : Hid (LvM p want (mkS ms) (mkT tests) v (i0, k0)) := Lib.hid (HHS.out.lv _ HXIN.out (.here (HUE.out.2 (.inl ⟨hte, htb2⟩))))
          have e1 : (te == (v : Int)) = true := by simp [hte]
          clear hte htb2
          go_wp2_with (go_at_call 19; (with_reducible refine (bit_any tests _ _ ht).mono ?_); rw [HBT.out]; rintro e w6 ⟨rfl, rfl⟩)
          go_ret
          exact ⟨ret_bool (HT.out.2 HLV.out).symm, by go_grown⟩
        · obtain ⟨tb, htb⟩ : ∃ tb, want.testBit v = tb := ⟨_, rfl⟩
          have HBW : Hid (bitB want (v : Int) = tb) := Lib.hid (by rw [bitB_small hv32, htb])
          by_cases hyes : te = -1 ∧ th = -1 ∧ tb = true
          · obtain ⟨rfl, rfl, rfl⟩ := hyes
            have HLV : Hid (LvM p want (mkS ms) (mkT tests) v (i0, k0)) := Lib.hid (HHS.out.lv _ HXIN.out (.here (HUE.out.2 (.inr ⟨rfl, rfl, htb⟩))))
            have e1 : ((-1 : Int) == (v : Int)) = false := by first | (simp; done) | (simp; omega)
            clear hte htb htb2
            go_wp2_with (go_at_call 19; (with_reducible refine (bit_any want _ _ hw).mono ?_); rw [HBW.out]; rintro e w6 ⟨rfl, rfl⟩)
            go_ret
            exact ⟨ret_bool (HT.out.2 HLV.out).symm, by go_grown⟩
          · have HNU : Hid (¬ UsM p want (mkS ms) (mkT tests) v (x1, x2)) := Lib.hid fun h => by
              rcases HUE.out.1 h with ⟨h, h'⟩ | ⟨h1, h2, h3⟩
              · exact hte ⟨h, by rw [← htb2]; exact h'⟩
              · exact hyes ⟨h1, h2, by rw [← htb]; exact h3⟩
            have hways : ((te == (v : Int)) = false ∧ (te == -1) = false) ∨ ((te == (v : Int)) = false ∧ (te == -1) = true ∧ (th == -1) = false) ∨ (((-1 : Int) == (v : Int)) = false ∧ te = -1 ∧ th = -1 ∧ tb = false) ∨ ((te == (v : Int)) = true ∧ (te == -1) = false ∧ tb2 = false) := by
              by_cases h0 : te = (v : Int)
              · refine .inr (.inr (.inr ⟨by simp [h0], by first | (simp; done) | (simp; omega), ?_⟩))
                cases tb2 with
                | false => rfl
                | true => exact absurd ⟨h0, rfl⟩ hte
              · by_cases h1 : te = -1
                · by_cases h2 : th = -1
                  · exact .inr (.inr (.inl ⟨by first | (simp; done) | (simp; omega), h1, h2, by cases tb with | false => rfl | true => exact absurd ⟨h1, h2, rfl⟩ hyes⟩))
                  · exact .inr (.inl ⟨by simp [h0], by simp [h1], by simp [h2]⟩)
                · exact .inl ⟨by simp [h0], by simp [h1]⟩
            clear hte htb htb2 hyes
            rcases hways with ⟨f0, f1⟩ | ⟨f0, f1, f2⟩ | ⟨f0, rfl, rfl, rfl⟩ | ⟨f0, f1, rfl⟩
            all_goals
              go_wp2_with (first | (go_at_call 19; (with_reducible refine (bit_any tests _ _ ht).mono ?_); rw [HBT.out]; rintro e w6 ⟨rfl, rfl⟩) | (go_at_call 19; (with_reducible refine (bit_any want _ _ hw).mono ?_); rw [HBW.out]; rintro e w6 ⟨rfl, rfl⟩))
              go_region_with (go_at_call 50; (with_reducible refine (HNC.out _ (by go_grown)).mono ?_); rintro e w5 ⟨ad5, c5, Ar, cr, rfl, hcell5, hrd5, hnew5, hb5⟩; have q6 : w5.cell? ⟨wr.heap.size, 0, none⟩ = some (.int .i64 (x1 : Int)) := (hb5.cell (p := ⟨wr.heap.size, 0, none⟩) (by simp; omega)).trans ((World.cell?_alloc_lt _ _ _ (by simp)).trans (by simp)))
              all_goals
                have hbr5 : Below wr.heap.size wr w5 := (by go_grown : Below wr.heap.size wr _).trans (hb5.mono (by simp; omega))
                have hown5 := own_below HOWN.out hbr5
                have hbw5 := hb.trans (hbr5.mono hsz)
                have hap5 : ∀ a, Ar = some a → (Value.slice (some ad2) m c2).ownBlock ≠ some a.block := fun a ha he => by
                  have h1 := (HOWN.out.lt _ he).2
                  have h2 := hnew5 a ha
                  simp at h2
                  omega
                have HRD5 := Lib.hid hrd5
                have HAP5 := Lib.hid hap5
                have HOW5 := Lib.hid hown5
                have HBW5 := Lib.hid hbw5
                obtain ⟨wo, rfl⟩ : ∃ wo : World, wo = wr := ⟨_, rfl⟩
                clear hcell5 hrd5 hnew5 hap5 hown5 hbw5 q6
                go_wp2
                try simp only [List.getElem_toArray, List.getElem_cons_succ, List.getElem_cons_zero]
                try go_frame
                go_loopw [13, 108] (fun s9 s87 wr => ∃ (c : Nat) (cur : List (Nat × Nat)) (A3 : Option Addr) (c3 : Nat), c ≤ js.length ∧ s87 = .int .i64 c ∧ s9 = .slice A3 cur.length c3 ∧ cur = addJ hs (js.take c) ∧
                    wr.ownsRow w.heap.size 32 2 (.slice A3 cur.length c3) cur.length (rv cSp cur) ∧ Below w.heap.size w wr ∧ RdI wr wr.heap.size Ar js ∧
                    (∀ a, Ar = some a → (Value.slice A3 cur.length c3).ownBlock ≠ some a.block)) (fun _ z _ => js.length - (intOf z).toNat)
                case atStart => exact ⟨0, hs, some ad2, c2, Nat.zero_le _, rfl, by rw [HM.out], rfl, by rw [HM.out]; exact HOW5.out, HBW5.out, HRD5.out, by rw [HM.out]; exact HAP5.out⟩
                case round =>
                  obtain ⟨c, cur, A3, c3, hc, rfl, rfl, hcur, hown3, hb3, hrd3, hap3⟩ := hrel
                  have hcH : HsM p want (mkS ms) (mkT tests) v (i0, k0) cur := by rw [hcur]; exact HHS.out.addJ HXIN.out fun j hj => ⟨_, rfl, (HJIN.out j (List.mem_of_mem_take hj)).2.1, (HJIN.out j (List.mem_of_mem_take hj)).2.2⟩
                  have hcl := hcH.len HC.out
                  have hge : m ≤ cur.length := by rw [hcur, ← HM.out]; exact (addJ_len (js.take c) hs).1
                  have HCH := Lib.hid hcH
                  have HCUR := Lib.hid hcur
                  have hsz3 := hb3.size
                  clear hcH hcur
                  by_cases hct : c < js.length
                  · obtain ⟨adr, z, rfl, hblr, hz, hcz⟩ := hrd3.at_ (k := c) hct
                    have hz0 := (HJIN.out z (List.mem_of_getElem? hz)).1
                    obtain ⟨zn, rfl⟩ := Int.eq_ofNat_of_zero_le hz0
                    have hnx := addJ_succ hs js hz
                    rw [← HCUR.out, Int.toNat_natCast] at hnx
                    have HNXT := Lib.hid hnx
                    have HCM : Hid (Calls Try.prog 49 #[.slice A3 cur.length c3, .agg #[.int .i64 (zn : Int), .int .i64 0]] wr fun e w' => ∃ A' c', e = .returned (.slice A' (addP cur (zn, 0)).length c') ∧
                        w'.ownsRow w.heap.size 32 2 (.slice A' (addP cur (zn, 0)).length c') (addP cur (zn, 0)).length (rv cSp (addP cur (zn, 0))) ∧ Below w.heap.size w w' ∧ RdI w' w'.heap.size (some adr) js ∧
                        (∀ a, some adr = some a → (Value.slice A' (addP cur (zn, 0)).length c').ownBlock ≠ some a.block)) := Lib.hid ((comesP_any w.heap.size A3 cur.length c3 cur zn 0 wr hown3 rfl hsz3 (by omega)).mono fun e w' ⟨A', c', h1, h2, h3, h4⟩ => by
                      refine ⟨A', c', h1, h2, hb3.trans (own_base hown3 h3 hsz3), hrd3.grown h3 hap3, fun a ha => ?_⟩
                      rcases h4 with h4 | ⟨g, h4, h5⟩
                      · rw [h4]; exact hap3 a ha
                      · rw [h4]
                        intro he
                        injection he with he
                        injection ha with ha
                        subst ha
                        rw [addr_add_block] at hblr
                        omega)
                    clear hz hz0 hnx hown3 hrd3 hap3
                    go_wp2_with (go_at_call 49; (with_reducible refine HCM.out.mono ?_); rintro e w8 ⟨A8, c8, rfl, hown8, hb8, hrd8, hap8⟩)
                    go_round
                    case rel => exact ⟨c + 1, addP cur (zn, 0), A8, c8, by omega, by go_num, rfl, HNXT.out.symm, hown8, hb8, hrd8, hap8⟩
                    case measure => (simp [intOf]; omega)
                  · have hcj : js.take c = js := List.take_of_length_le (by omega)
                    have hcur : cur = addJ hs js := by rw [HCUR.out, hcj]
                    have HDN2 : Hid (DnM p want (mkS ms) (mkT tests) v cur (k + 1)) := Lib.hid (by
                      rw [hcur]
                      exact (HDN.out.grow (by rw [HM.out]; omega) fun m x h => addJ_pre _ _ h).succ (addJ_pre _ _ HSP.out) HNU.out fun y hy => by
                        obtain ⟨j, hj, rfl⟩ := HNE.out y hy
                        exact addJ_mem js hs hj)
                    clear hcj hcur hrd3 hap3
                    go_wp2
                    go_round
                    case rel => exact ⟨cur, k + 1, A3, c3, by omega, by go_num, rfl, hown3, hb3, HCH.out, HDN2.out⟩
                    case measure => simp [lenW, intOf]; omega
    · have hkm : k = m := by omega
      have HNO : Hid (T = false) := Lib.hid (by
        have hno := DnM.no HHS.out (by rw [HM.out, ← hkm]; exact HDN.out)
        cases T with
        | false => rfl
        | true => exact absurd (HT.out.1 rfl) hno)
      clear hown hhs hdn hme hkm
      go_wp2
      go_ret
      exact ⟨ret_bool HNO.out.symm, hb⟩

end Go.Proofs.Ytfhnhbkdhdocjaa
