/-
  single.Build makes a named program of a program: valid, each name set once ahead of its uses, with the same ways, and it runs as the program (M3), or the first error, for all arguments: codemasonlaw.SingleBuilds returns true and leaves its arguments alone. No condition.
-/
import Derived.Test.YtgcjknibelfjbaaMMade
import Derived.Test.YtgcjknibelfjbaaSingleOnce
import Derived.Test.YtgcjknibelfjbaaSingleGo
import Derived.BigQuiet
namespace Go.Proofs.Ytgcjknibelfjbaa
open Go.RowKit Go.ChangeShapes Go.WideShapes Go.ChangeAt Go.Deep
set_option linter.unusedSimpArgs false
set_option linter.unusedVariables false
set_option maxRecDepth 100000

theorem rdI_nilB (w : World) (A : Option Addr) : RdI w w.heap.size A [] := fun h => by simp at h

set_option maxHeartbeats 8000000 in
theorem lawSingleBuilds_any (vars : Int) (A HA : Option Addr) (cap hcap : Nat) (p : List Bk) (hv : List Int) (w : World) (hx : RdP w w.heap.size A p) (hh : RdI w w.heap.size HA hv) (hm : p.length ≤ maxLen) (hin : ∀ b ∈ p, InBk b) (hhm : hv.length ≤ maxLen) :
    Calls Try.prog 6 #[.int .i64 vars, .slice A p.length cap, .slice HA hv.length hcap] w fun e w' => e = .returned (.bool true) ∧ Below w.heap.size w w' := by
  have HIN := Lib.hid hin
  have HM := Lib.hid hm
  have HHM := Lib.hid hhm
  clear hin hm hhm
  by_cases hc : ckProg vars p = 0
  · obtain ⟨n, rfl, hn1, hn6⟩ := ckProg_nat hc
    have HC := Lib.hid hc
    obtain ⟨_, _, c3, c4, _⟩ := ckProg_bd hc
    obtain ⟨len, hlen⟩ : ∃ len, p.length = len := ⟨_, rfl⟩
    have HLEN := Lib.hid hlen
    rw [hlen] at c3 c4 ⊢
    have HBLD := Lib.hid (build_any n A len cap p w hx hlen hc)
    have HHL : Hid (∃ hl, hv.length = hl) := Lib.hid ⟨_, rfl⟩
    clear hc hlen
    go_enter Try.func6, Try.ntmps6
    go_wp2_with fail
    refine HBLD.out.mono ?_
    rintro e w1 ⟨g, L, hmade, hLl, rfl, hL, hb1⟩
    have HMD := Lib.hid hmade
    have HLL := Lib.hid hLl
    have HV := Lib.hid hmade.valid
    have HON := Lib.hid hmade.once
    have HIS := Lib.hid (hmade.in (by rw [hLl, HLEN.out]) HIN.out)
    have hx1 := (hx.below hb1 (Nat.le_refl _)).more hb1.size
    have hs1 := hb1.size
    clear hmade hLl HBLD
    go_wp2_with fail
    refine (refProgCheck_any n A len cap p _ hx1 HLEN.out (by rw [← HLEN.out]; exact HM.out) HIN.out).mono ?_
    rintro e w2 ⟨rfl, hb2⟩
    rw [HC.out]
    have hL2 := (hL.below hb2 (Nat.le_refl _)).more hb2.size
    have hb12 := hb1.trans (hb2.mono hs1)
    go_wp2_with fail
    refine (singleCheck_any n (some ⟨g, 0, none⟩) len len L _ hL2 HLL.out (by unfold maxLen; omega) HIS.out).mono ?_
    rintro e w3 ⟨rfl, hb3⟩
    rw [HV.out]
    have hL3 := (hL2.below hb3 (Nat.le_refl _)).more hb3.size
    have hb13 := hb12.trans (hb3.mono hb12.size)
    go_wp2_with fail
    refine (onceSet_any n (some ⟨g, 0, none⟩) len len L _ hL3 HLL.out HV.out).mono ?_
    rintro e w4 ⟨⟨b, rfl, hbo⟩, hb4⟩
    have hbt : b = true := hbo.2 HON.out
    subst hbt
    have hL4 := (hL3.below hb4 (Nat.le_refl _)).more hb4.size
    have hb14 := hb13.trans (hb4.mono hb13.size)
    have hs4 := hb14.size
    have HL4 := Lib.hid hL4
    have HX4 := Lib.hid ((hx.below hb14 (Nat.le_refl _)).more hb14.size)
    have HH4 := Lib.hid ((hh.below hb14 (Nat.le_refl _)).more hb14.size)
    clear hbo hL hL2 hL3 hL4 hx1
    go_wp2
    go_loopw [10] (fun z wr => ∃ k : Nat, k ≤ len ∧ z = .int .i64 k ∧ Below w4.heap.size w4 wr) (fun z _ => len - (intOf z).toNat)
    case atStart => exact ⟨0, Nat.zero_le _, rfl, Below.refl _ _⟩
    case round =>
      obtain ⟨k, hk, rfl, hb⟩ := hrel
      have hsz := hb.size
      by_cases hkt : k < len
      · obtain ⟨ad, ⟨js, co, te, th, el, la⟩, Aj, cj, Ac, cc, Al, cl, ead, hbl, hd, _, _, _, e0, e1, e2, e3, e4, e5⟩ := (HL4.out.below hb (Nat.le_refl _)).at_ (k := k) (by rw [HLL.out]; exact hkt)
        injection ead with ead
        subst ead
        obtain ⟨ad2, ⟨co2, te2, th2, el2⟩, Ac2, cc2, rfl, hbl2, hd2, _, g0, g1, g2, g3⟩ := (HX4.out.below hb (Nat.le_refl _)).at_ (k := k) (by rw [HLEN.out]; exact hkt)
        obtain ⟨q1, q2⟩ := HMD.out.ends hd hd2
        simp only [] at q1 q2 e3 e4 g2 g3
        subst q1 q2
        clear hd hd2
        have ha : (⟨g, 0, none⟩ : Addr).add (k * 6) = ⟨g, k * 6, none⟩ := by unfold Addr.add; split <;> simp_all
        rw [ha] at e3 e4 hbl
        simp only [] at e3 e4 hbl
        have hgr : g < wr.heap.size := by omega
        have hbr2 : (ad2.add (k * 4)).block < wr.heap.size := by omega
        clear ha e0 e1 e2 e5 g0 g1
        go_wp2
        go_quiet (fail)
        go_wp2
        go_round
        case rel => exact ⟨k + 1, by omega, by go_num, below_drewNC hb _⟩
        case measure => (simp [intOf]; omega)
      · have hb5 := hb14.trans (hb.mono hs4)
        have hh5 := (HH4.out.below hb (Nat.le_refl _)).more hb.size
        go_wp2_with fail
        refine (haveCheck_any n HA _ hcap hv _ _ hh5 rfl HHM.out).mono ?_
        rintro e w5 ⟨rfl, rfl⟩
        by_cases hhc : ckHave n hv = 0
        · have hvo := valsOk_of hhc
          have HVO := Lib.hid hvo
          have hvl := hvo.1
          have HRN := Lib.hid (HMD.out.run HC.out hvo)
          have hL5 := (HL4.out.below hb (Nat.le_refl _)).more hb.size
          have hx5 := (HX4.out.below hb (Nat.le_refl _)).more hb.size
          rw [hhc]
          have HGO := Lib.hid (refGoes_any n 200 A HA len cap hcap p hv _ hx5 hh5 HLEN.out HC.out hvo (by omega))
          have HSR := Lib.hid (fun Z (h1 : RdN Z Z.heap.size (some ⟨g, 0, none⟩) L) (h2 : RdI Z Z.heap.size HA hv) => singleRun_any n (some ⟨g, 0, none⟩) HA len len hcap L hv Z h1 h2 HLL.out HV.out hvo)
          obtain ⟨R, hR⟩ : ∃ R, goP p 200 0 hv = R := ⟨_, rfl⟩
          have HXL : Hid (∀ x l, R = some (x, l) → x.length ≤ maxLen) := Lib.hid fun x l h => by
            rw [← hR] at h
            obtain ⟨r, _, _, _, hxo⟩ := goP_way HC.out 200 0 hv x l (by rw [HLEN.out]; omega) hvo h
            rw [hxo.1]
            unfold maxLen
            omega
          rw [hR] at HRN HGO
          clear hhc hvo hR
          rw [hvl]
          go_wp2_with fail
          refine HGO.out.mono ?_
          rintro e w6 ⟨hgt, hb6⟩
          have hL6 := (hL5.below hb6 (Nat.le_refl _)).more hb6.size
          have hh6 := (hh5.below hb6 (Nat.le_refl _)).more hb6.size
          have hb06 := hb5.trans (hb6.mono hb5.size)
          rcases hgt with ⟨hr, rfl⟩ | ⟨x, l, A3, A4, c3', c4', hr, rfl, hr3, hr4⟩
          · rw [hr] at HRN
            go_wp2_with fail
            refine (HSR.out _ hL6 hh6).mono ?_
            rintro e w7 ⟨hst, hb7⟩
            rw [HRN.out] at hst
            have hb07 := hb06.trans (hb7.mono hb06.size)
            rcases hst with ⟨_, rfl⟩ | ⟨x, A3, c3', hr, _, _⟩
            · go_wp2_with fail
              refine (ints_same none none 0 0 0 [] _ (rdI_nilB _ _) (rdI_nilB _ _) rfl (Nat.zero_le _)).mono ?_
              rintro e w8 ⟨rfl, hb8⟩
              go_wp2
              go_ret
              exact ⟨ret_bool (by simp), hb07.trans (hb8.mono hb07.size)⟩
            · cases hr
          · have hxm := HXL.out x l hr
            rw [hr] at HRN
            have HXM := Lib.hid hxm
            clear hxm hr
            go_wp2_with fail
            refine (HSR.out _ hL6 hh6).mono ?_
            rintro e w7 ⟨hst, hb7⟩
            rw [HRN.out] at hst
            have hb07 := hb06.trans (hb7.mono hb06.size)
            have hr37 := (hr3.below hb7 (Nat.le_refl _)).more hb7.size
            rcases hst with ⟨hr, _⟩ | ⟨x2, A5, c5', hr, rfl, hr5⟩
            · cases hr
            · simp only [Option.map_some, Option.some.injEq] at hr
              subst hr
              go_wp2_with fail
              refine (ints_same A3 A5 _ c3' c5' x _ hr37 hr5 rfl HXM.out).mono ?_
              rintro e w8 ⟨rfl, hb8⟩
              go_wp2
              go_ret
              exact ⟨ret_bool (by simp), hb07.trans (hb8.mono hb07.size)⟩
        · have e1 : (ckHave n hv != 0) = true := by simp [hhc]
          clear hhc
          go_wp2
          go_ret
          exact ⟨ret_bool (by simp), hb5⟩
  · have HB := Lib.hid (snBuild_bad vars A _ cap p w hx rfl HM.out HIN.out hc)
    have e1 : (ckProg vars p != 0) = true := by simp [hc]
    clear hc
    go_enter Try.func6, Try.ntmps6
    go_wp2_with fail
    refine HB.out.mono ?_
    rintro e w1 ⟨rfl, hb1⟩
    have hx1 := (hx.below hb1 (Nat.le_refl _)).more hb1.size
    go_wp2_with fail
    refine (refProgCheck_any vars A _ cap p _ hx1 rfl HM.out HIN.out).mono ?_
    rintro e w2 ⟨rfl, hb2⟩
    go_wp2
    go_ret
    exact ⟨ret_bool (by simp), hb1.trans (hb2.mono hb1.size)⟩

set_option maxRecDepth 100000 in
theorem lawSingleBuilds_lifted (os : Os) (started : os.Started) (H : Type) (enc : TypeId × Value → H) :
    ReturnsInHanded {} Try.checked os 6 .any (Rows.singleBuildsSpec.pre6 enc Try.prog Try.f6 Rows.singleBuildsRow.domain false) (Rows.singleBuildsSpec.post enc Try.prog Try.f6 false true false false) := by
  refine returnsInHanded_of_change_sized (C := Try.checked) Try.own started (by kernel_rfl) Try.func6
    (ChangeSpec.witness6 (enc := enc) (C := Try.checked) false ⟨#[], #[.int .i64 0, .slice none 0 0, .slice none 0 0], []⟩ 8 (by kernel_rfl) (by kernel_rfl) (by kernel_rfl) (by kernel_rfl)) ?_
  intro W base args ds gs before hval0 hW hcnd hsz _
  have hval : ∀ (j : Nat) t v, Try.f6.params[j]? = some t → args[j]? = some v → Value.okWide Try.prog W .any base t v := hval0
  have hW' := hW
  obtain ⟨p, q, hA0, hV, rfl, hfz, hnd⟩ := hW
  have hA : DataW.TrodAll enc Try.prog W 0 (fun _ => true) true Try.f6.params.toList args.toList ds p := hA0
  obtain ⟨hgs, _⟩ := trodVars_none hV
  rw [Try.params6] at hA hval
  obtain ⟨v0, vs0, d0, ds0, p0, q0, hargs, rfl, rfl, h0, r0⟩ := trodAll_cons hA
  obtain ⟨v1, vs1, d1, ds1, p1, q1, rfl, rfl, rfl, h1, r1⟩ := trodAll_cons r0
  obtain ⟨v2, vs2, d2, ds2, p2, q2, rfl, rfl, rfl, h2, r2⟩ := trodAll_cons r1
  obtain ⟨rfl, rfl, rfl⟩ := trodAll_nil r2
  have hargs2 : args = #[v0, v1, v2] := Array.toList_inj.1 hargs
  subst hargs2
  obtain ⟨a0, rfl, _, _, w0⟩ := open_int Try.underlying3 (hval 0 3 v0 rfl rfl) h0
  obtain ⟨A1, c1, l1, rfl, lc1, cm1, x1, g1⟩ := open_progA (reach_at hsz (j := 1) (t := 36) (by rw [Try.params6]; rfl) rfl) (hval 1 36 v1 rfl rfl) h1
  have b1 := len_reach Try.underlying36 (hval 1 36 _ rfl rfl) h1 hsz (j := 1) (by rw [Try.params6]; rfl) rfl
  rw [show Try.prog.bytesOf (Try.prog.elem 36) = 48 from by kernel_rfl] at b1
  obtain ⟨A2, c2, l2, rfl, lc2, cm2, x2, r2⟩ := open_intsA (hval 2 26 v2 rfl rfl) h2
  have b2 := len_reach Try.underlying26 (hval 2 26 _ rfl rfl) h2 hsz (j := 2) (by rw [Try.params6]; rfl) rfl
  rw [show Try.prog.bytesOf (Try.prog.elem 26) = 8 from by kernel_rfl] at b2
  refine (lawSingleBuilds_any a0 A1 A2 c1 c2 l1 l2 _ x1 x2 (by omega) g1 (by omega)).mono fun e W' ⟨he, hb⟩ => ?_
  subst he
  exact ⟨_, rfl, law_post Try.laidOut rfl (by kernel_rfl) Try.underlying4 ⟨rfl, rfl, rfl⟩ (by kernel_rfl) hW' hb⟩

theorem singleBuilds_holds : Rows.SingleBuildsSaid :=
  OpenClaim.holds_of_wide 6 Try.f6 rfl rfl rfl rfl rfl rfl rfl ⟨rfl, rfl, rfl, rfl, rfl⟩ rfl rfl rfl rfl rfl (by kernel_rfl) Try.func6 (show joinedFacts Try.prog 6 Try.f6 Rows.singleBuildsSpec Rows.singleBuildsRow = true from (by unfold joinedFacts; (repeat' (with_reducible refine and_both ?_ ?_)) <;> first | (with_reducible exact may_enter) | ((with_reducible refine make_ok ?_); rfl) | ((with_reducible refine lifts_ok ?_); rfl) | kernel_rfl))
    (of_decide_eq_true (by kernel_rfl)) (by unfold Func.isWrapper; rw [if_neg (of_decide_eq_false (by kernel_rfl))]; exact ⟨rfl, rfl⟩)
    (fun os started H enc _ => lawSingleBuilds_lifted os started H enc)

end Go.Proofs.Ytgcjknibelfjbaa
