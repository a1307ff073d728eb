/-
  A program with what is known put in it stops with the same, after the same blocks, or neither does (L2): codemasonkeep.KnownFold returns true and leaves its arguments alone. No condition.
-/
import Derived.Test.YtdckagledddkdaaKnown
import Derived.Test.YtdckagledddkdaaLawKnown
import Derived.Test.YtdckagledddkdaaLawStarted
import Derived.Test.YtdckagledddkdaaBlockIs
import Derived.Test.YtdckagledddkdaaIntsSame
import Derived.Test.YtdckagledddkdaaLawBlock
namespace Go.Proofs.Ytdckagledddkdaa
open Go.RowKit Go.ChangeShapes Go.WideShapes Go.ChangeAt Go.Deep
set_option linter.unusedSimpArgs false
set_option linter.unusedVariables false
set_option maxRecDepth 100000

/-- blocks of a folded program within reach -/
theorem fdP_in {n : Nat} {p : List Bk} {L : List (List Int)} (h : ckProg n (fdP p L) = 0) (hin : ∀ b ∈ p, InBk b) : ∀ b ∈ fdP p L, InBk b := fun b hb => by
  obtain ⟨i, hi, rfl⟩ := List.getElem_of_mem hb
  have hb' := List.getElem?_eq_getElem hi
  obtain ⟨_, h2, h3, h4⟩ := ckProg_at h hb'
  have hm := manyS_le hb'
  obtain ⟨_, b2, _, b4, b5, _⟩ := ckProg_bd h
  have hip : i < p.length := by
    unfold fdP at hi
    rw [List.length_zipWith] at hi
    omega
  have hil : i < L.length := by
    unfold fdP at hi
    rw [List.length_zipWith] at hi
    omega
  have he := fdP_at (List.getElem?_eq_getElem hip) (List.getElem?_eq_getElem hil)
  rw [hb'] at he
  injection he with he
  have hel : inI (fdP p L)[i].el := by
    rw [he]
    unfold fdB
    split
    · exact ⟨by simp, by simp⟩
    · split
      · exact ⟨by simp, by simp⟩
      · exact (hin _ (List.getElem_mem hip)).2.2.2
  exact ⟨by omega, ⟨by omega, by omega⟩, ⟨by omega, by omega⟩, hel⟩

set_option maxHeartbeats 16000000 in
theorem lawKnownFold_any (K : FoldIs) (K2 : GoIs) (vars : Int) (A SA HA : Option Addr) (cap sc hc : Nat) (p : List Bk) (st hv : List Int) (w : World) (hx : RdP w w.heap.size A p) (hs : RdI w w.heap.size SA st) (hh : RdI w w.heap.size HA hv) (hm : p.length ≤ maxLen) (hin : ∀ b ∈ p, InBk b) (hsm : st.length ≤ maxLen) (hhm : hv.length ≤ maxLen) :
    Calls Try.prog 6 #[.int .i64 vars, .slice A p.length cap, .slice SA st.length sc, .slice HA hv.length hc] w fun e w' => e = .returned (.bool true) ∧ Below w.heap.size w w' := by
  obtain ⟨len, hl⟩ : ∃ len, p.length = len := ⟨_, rfl⟩
  have HL := Lib.hid hl
  rw [hl] at hm ⊢
  have HBI := Lib.hid hin
  have HPC := Lib.hid (fun (Z : World) (hZ : Below w.heap.size w Z) => refProgCheck_any vars A len cap p Z ((hx.below hZ (Nat.le_refl _)).more hZ.size) hl hm hin)
  obtain ⟨sl, hsl⟩ : ∃ k, st.length = k := ⟨_, rfl⟩
  have HSL := Lib.hid hsl
  rw [hsl] at hsm ⊢
  obtain ⟨hl2, hhl⟩ : ∃ k, hv.length = k := ⟨_, rfl⟩
  have HHL := Lib.hid hhl
  rw [hhl] at hhm ⊢
  by_cases hc : ckKnow vars p st = 0
  · obtain ⟨n, rfl, hn1, hn6, hc1, hk⟩ := ckKnow_ok hc
    obtain ⟨_, _, b3, b4, b5, _⟩ := ckProg_bd hc1
    rw [hl] at b3 b4
    obtain rfl : n = sl := by rw [← hsl]; exact hk.1.symm
    have HC1 := Lib.hid hc1
    have HK := Lib.hid hk
    have HST := Lib.hid (ckStart_ok.2 hk)
    have HIN := Lib.hid (K.fold n A SA len cap sc p st w hx hs hl hc1 hk)
    clear hc hc1 hk hl hin hsl hhl
    by_cases hgo : ValsOk n hv ∧ LeL hv st
    · obtain ⟨hvo, hle⟩ := hgo
      have HVO := Lib.hid hvo
      have HLE := Lib.hid hle
      obtain rfl : n = hl2 := by rw [← HHL.out]; exact hvo.1.symm
      clear hvo hle
      go_enter Try.func6, Try.ntmps6
      go_wp2_with fail
      refine HIN.out.mono ?_
      rintro e w1 ⟨A1, c1, L, rfl, hx1, hL, hb1⟩
      have HLS := Lib.hid hL.sol
      have HFL : Hid ((fdP p L).length = len) := Lib.hid (by rw [fdP_len hL.sol.len, HL.out])
      have HFC : Hid (ckProg n (fdP p L) = 0) := Lib.hid (fdP_ok HC1.out hL.sol.len hL.sol.ok)
      clear hL
      go_wp2_with fail
      refine (HPC.out _ hb1).mono ?_
      rintro e w2 ⟨rfl, hb2⟩
      rw [HC1.out]
      have hb02 := hb1.trans (hb2.mono hb1.size)
      have hs2 := (hs.below hb02 (Nat.le_refl _)).more hb02.size
      have hh2 := (hh.below hb02 (Nat.le_refl _)).more hb02.size
      have hp2 := (hx.below hb02 (Nat.le_refl _)).more hb02.size
      have hsz2 := hb02.size
      go_wp2_with (go_at_call 16; (with_reducible refine (startCheck_any n SA n sc st _ _ hs2 HSL.out hsm).mono ?_); rw [HST.out]; rintro e w5 ⟨rfl, rfl⟩)
      have hq2 := (hx1.below hb2 (Nat.le_refl _)).more hb2.size
      refine (refProgCheck_any n A1 len c1 (fdP p L) w2 hq2 HFL.out hm (fdP_in HFC.out HBI.out)).mono ?_
      rintro e w3 ⟨rfl, hb3⟩
      rw [HFC.out]
      have hb03 := hb02.trans (hb3.mono hsz2)
      have hq3 := (hq2.below hb3 (Nat.le_refl _)).more hb3.size
      have hs3 := (hs2.below hb3 (Nat.le_refl _)).more hb3.size
      have hh3 := (hh2.below hb3 (Nat.le_refl _)).more hb3.size
      have hp3 := (hp2.below hb3 (Nat.le_refl _)).more hb3.size
      have hsz3 := hb03.size
      go_wp2_with fail
      refine (started_any n SA HA n sc hc st hv w3 hs3 hh3 HK.out HHL.out hhm hn6).mono ?_
      rintro e w5 ⟨hst, rfl⟩
      rcases hst with ⟨rfl, _⟩ | ⟨rfl, hno⟩
      · have HGO : Hid (goP (fdP p L) 200 ((0 : Nat) : Int) hv = goP p 200 ((0 : Nat) : Int) hv) := Lib.hid (fdP_go HC1.out HLS.out 200 0 hv (by rw [HL.out]; omega) HVO.out (AsKnown.start HLS.out (by omega) HVO.out.1 HLE.out))
        have HW1 := Lib.hid (fun x l (h : goP p 200 ((0 : Nat) : Int) hv = some (x, l)) => goP_way HC1.out 200 0 hv x l (by rw [HL.out]; omega) HVO.out h)
        go_wp2_with fail
        refine (K2.run n A HA len cap hc p hv _ hp3 hh3 HL.out HC1.out HVO.out).mono ?_
        rintro e w5 ⟨hrt, hb5⟩
        have hb05 := hb03.trans (hb5.mono hsz3)
        have hq5 := (hq3.below hb5 (Nat.le_refl _)).more hb5.size
        have hh5 := (hh3.below hb5 (Nat.le_refl _)).more hb5.size
        rcases hrt with ⟨hr, B1, B2, d1, d2, rfl⟩ | ⟨x, l, B1, B2, d1, d2, hr, rfl, hr1, hr2⟩
        · have HR := Lib.hid hr
          clear hr
          go_wp2_with fail
          refine (K2.run n A1 HA len c1 hc (fdP p L) hv _ hq5 hh5 HFL.out HFC.out HVO.out).mono ?_
          rintro e w6 ⟨hrt, hb6⟩
          have hb06 := hb05.trans (hb6.mono hb05.size)
          rcases hrt with ⟨hr', B3, B4, d3, d4, rfl⟩ | ⟨x, l, B3, B4, d3, d4, hr', _⟩
          · go_wp2_with fail
            refine (ints_same B2 B4 0 d2 d4 [] _ (fun h => by simp at h) (fun h => by simp at h) rfl (Nat.zero_le _)).mono ?_
            rintro e w7 ⟨rfl, hb7⟩
            have hb07 := hb06.trans (hb7.mono hb06.size)
            go_wp2_with fail
            refine (ints_same B1 B3 0 d1 d3 [] _ (fun h => by simp at h) (fun h => by simp at h) rfl (Nat.zero_le _)).mono ?_
            rintro e w8 ⟨rfl, hb8⟩
            go_wp2
            go_ret
            exact ⟨ret_bool (by simp), hb07.trans (hb8.mono hb07.size)⟩
          · have := HGO.out
            rw [show ((0 : Nat) : Int) = 0 from rfl, HR.out, hr'] at this
            cases this
        · have HR := Lib.hid hr
          obtain ⟨r0, hlr, hrw, hll, hxo⟩ := HW1.out x l hr
          have HXL := Lib.hid hxo.1
          clear hr hlr hrw
          go_wp2_with fail
          refine (K2.run n A1 HA len c1 hc (fdP p L) hv _ hq5 hh5 HFL.out HFC.out HVO.out).mono ?_
          rintro e w6 ⟨hrt, hb6⟩
          have hb06 := hb05.trans (hb6.mono hb05.size)
          have hr16 := (hr1.below hb6 (Nat.le_refl _)).more hb6.size
          have hr26 := (hr2.below hb6 (Nat.le_refl _)).more hb6.size
          rcases hrt with ⟨hr', _⟩ | ⟨y, l', B3, B4, d3, d4, hr', rfl, hr3, hr4⟩
          · have := HGO.out
            rw [show ((0 : Nat) : Int) = 0 from rfl, HR.out, hr'] at this
            cases this
          · have hsg := HGO.out
            rw [show ((0 : Nat) : Int) = 0 from rfl, HR.out, hr'] at hsg
            injection hsg with hsg
            injection hsg with hy hll'
            subst hy hll'
            have hlm : l'.length ≤ maxLen := by unfold maxLen; omega
            have HLM := Lib.hid hlm
            rw [hxo.1]
            clear hr' hlm hll hxo
            go_wp2_with fail
            refine (ints_same B2 B4 _ d2 d4 (ni l') _ hr26 hr4 (by simp [ni]) HLM.out).mono ?_
            rintro e w7 ⟨rfl, hb7⟩
            have hb07 := hb06.trans (hb7.mono hb06.size)
            have hr17 := (hr16.below hb7 (Nat.le_refl _)).more hb7.size
            have hr37 := (hr3.below hb7 (Nat.le_refl _)).more hb7.size
            go_wp2_with fail
            refine (ints_same B1 B3 n d1 d3 y _ hr17 hr37 HXL.out (by unfold maxLen; omega)).mono ?_
            rintro e w8 ⟨rfl, hb8⟩
            go_wp2
            go_ret
            exact ⟨ret_bool (by simp), hb07.trans (hb8.mono hb07.size)⟩
      · exact absurd ⟨HVO.out, HLE.out⟩ hno
    · have HNO := Lib.hid hgo
      clear hgo
      go_enter Try.func6, Try.ntmps6
      go_wp2_with fail
      refine HIN.out.mono ?_
      rintro e w1 ⟨A1, c1, L, rfl, hx1, hL, hb1⟩
      have HFL : Hid ((fdP p L).length = len) := Lib.hid (by rw [fdP_len hL.sol.len, HL.out])
      have HFC : Hid (ckProg n (fdP p L) = 0) := Lib.hid (fdP_ok HC1.out hL.sol.len hL.sol.ok)
      clear hL
      go_wp2_with fail
      refine (HPC.out _ hb1).mono ?_
      rintro e w2 ⟨rfl, hb2⟩
      rw [HC1.out]
      have hb02 := hb1.trans (hb2.mono hb1.size)
      have hs2 := (hs.below hb02 (Nat.le_refl _)).more hb02.size
      have hh2 := (hh.below hb02 (Nat.le_refl _)).more hb02.size
      go_wp2_with (go_at_call 16; (with_reducible refine (startCheck_any n SA n sc st _ _ hs2 HSL.out hsm).mono ?_); rw [HST.out]; rintro e w5 ⟨rfl, rfl⟩)
      have hq2 := (hx1.below hb2 (Nat.le_refl _)).more hb2.size
      refine (refProgCheck_any n A1 len c1 (fdP p L) w2 hq2 HFL.out hm (fdP_in HFC.out HBI.out)).mono ?_
      rintro e w3 ⟨rfl, hb3⟩
      rw [HFC.out]
      have hb03 := hb02.trans (hb3.mono hb02.size)
      have hs3 := (hs2.below hb3 (Nat.le_refl _)).more hb3.size
      have hh3 := (hh2.below hb3 (Nat.le_refl _)).more hb3.size
      go_wp2_with fail
      refine (started_any n SA HA hl2 sc hc st hv w3 hs3 hh3 HK.out HHL.out hhm hn6).mono ?_
      rintro e w5 ⟨hst, rfl⟩
      rcases hst with ⟨rfl, hyes⟩ | ⟨rfl, hno⟩
      · exact absurd hyes HNO.out
      · go_wp2
        go_ret
        exact ⟨rfl, hb03⟩
  · have HIB := Lib.hid (K.foldBad vars A SA len cap sl sc p st w hx hs hl hm hin hsl hsm hc)
    by_cases h1 : ckProg vars p = 0
    · have hck : ckKnow vars p st = ckStart vars st := by unfold ckKnow; rw [if_pos h1]
      rw [hck] at HIB hc
      have H1 := Lib.hid h1
      obtain ⟨c, hce⟩ : ∃ c, ckStart vars st = c := ⟨_, rfl⟩
      have HCE := Lib.hid hce
      rw [hce] at HIB hc
      have hne : (c != 0) = true := by simp [hc]
      clear hc hl hin hce h1 hck hsl hhl
      go_enter Try.func6, Try.ntmps6
      go_wp2_with fail
      refine HIB.out.mono ?_
      rintro e w1 ⟨A1, c1, rfl, hb1⟩
      go_wp2_with fail
      refine (HPC.out _ hb1).mono ?_
      rintro e w2 ⟨rfl, hb2⟩
      rw [H1.out]
      have hb02 := hb1.trans (hb2.mono hb1.size)
      have hs2 := (hs.below hb02 (Nat.le_refl _)).more hb02.size
      go_wp2_with (go_at_call 16; (with_reducible refine (startCheck_any vars SA sl sc st _ _ hs2 HSL.out hsm).mono ?_); rw [HCE.out]; rintro e w5 ⟨rfl, rfl⟩)
      go_ret
      exact ⟨rfl, hb02⟩
    · have hck : ckKnow vars p st = ckProg vars p := by unfold ckKnow; rw [if_neg h1]
      rw [hck] at HIB
      have hne : (ckProg vars p != 0) = true := by simp [h1]
      clear hc hl hin h1 hck hsl hhl
      go_enter Try.func6, Try.ntmps6
      go_wp2_with fail
      refine HIB.out.mono ?_
      rintro e w1 ⟨A1, c1, rfl, hb1⟩
      go_wp2_with fail
      refine (HPC.out _ hb1).mono ?_
      rintro e w2 ⟨rfl, hb2⟩
      go_wp2_with fail
      go_ret
      exact ⟨rfl, hb1.trans (hb2.mono hb1.size)⟩

set_option maxRecDepth 100000 in
theorem lawKnownFold_lifted (os : Os) (started : os.Started) (H : Type) (enc : TypeId × Value → H) :
    ReturnsInHanded {} Try.checked os 6 .any (Rows.knownFoldSpec.pre6 enc Try.prog Try.f6 Rows.knownFoldRow.domain false) (Rows.knownFoldSpec.post enc Try.prog Try.f6 false true false false) := by
  refine returnsInHanded_of_change_sized (C := Try.checked) Try.own started (by kernel_rfl) Try.func6
    (ChangeSpec.witness6 (enc := enc) (C := Try.checked) false ⟨#[], #[.int .i64 0, .slice none 0 0, .slice none 0 0, .slice none 0 0], []⟩ 8 (by kernel_rfl) (by kernel_rfl) (by kernel_rfl) (by kernel_rfl)) ?_
  intro W base args ds gs before hval0 hW hcnd hsz _
  have hval : ∀ (j : Nat) t v, Try.f6.params[j]? = some t → args[j]? = some v → Value.okWide Try.prog W .any base t v := hval0
  have hW' := hW
  obtain ⟨p, q, hA0, hV, rfl, hfz, hnd⟩ := hW
  have hA : DataW.TrodAll enc Try.prog W 0 (fun _ => true) true Try.f6.params.toList args.toList ds p := hA0
  obtain ⟨hgs, _⟩ := trodVars_none hV
  rw [Try.params6] at hA hval
  obtain ⟨v0, vs0, d0, ds0, p0, q0, hargs, rfl, rfl, h0, r0⟩ := trodAll_cons hA
  obtain ⟨v1, vs1, d1, ds1, p1, q1, rfl, rfl, rfl, h1, r1⟩ := trodAll_cons r0
  obtain ⟨v2, vs2, d2, ds2, p2, q2, rfl, rfl, rfl, h2, r2⟩ := trodAll_cons r1
  obtain ⟨v3, vs3, d3, ds3, p3, q3, rfl, rfl, rfl, h3, r3⟩ := trodAll_cons r2
  obtain ⟨rfl, rfl, rfl⟩ := trodAll_nil r3
  have hargs2 : args = #[v0, v1, v2, v3] := Array.toList_inj.1 hargs
  subst hargs2
  obtain ⟨a0, rfl, _, _, w0⟩ := open_int Try.underlying3 (hval 0 3 v0 rfl rfl) h0
  obtain ⟨A1, c1, l1, rfl, lc1, cm1, x1, g1⟩ := open_progA (reach_at hsz (j := 1) (t := 22) (by rw [Try.params6]; rfl) rfl) (hval 1 22 v1 rfl rfl) h1
  have b1 := len_reach Try.underlying22 (hval 1 22 _ rfl rfl) h1 hsz (j := 1) (by rw [Try.params6]; rfl) rfl
  rw [show Try.prog.bytesOf (Try.prog.elem 22) = 48 from by kernel_rfl] at b1
  obtain ⟨A2, c2, l2, rfl, lc2, cm2, x2, r2⟩ := open_intsA (hval 2 23 v2 rfl rfl) h2
  have b2 := len_reach Try.underlying23 (hval 2 23 _ rfl rfl) h2 hsz (j := 2) (by rw [Try.params6]; rfl) rfl
  rw [show Try.prog.bytesOf (Try.prog.elem 23) = 8 from by kernel_rfl] at b2
  obtain ⟨A3, c3, l3, rfl, lc3, cm3, x3, r3⟩ := open_intsA (hval 3 23 v3 rfl rfl) h3
  have b3 := len_reach Try.underlying23 (hval 3 23 _ rfl rfl) h3 hsz (j := 3) (by rw [Try.params6]; rfl) rfl
  rw [show Try.prog.bytesOf (Try.prog.elem 23) = 8 from by kernel_rfl] at b3
  refine (lawKnownFold_any foldIs goIsK a0 A1 A2 A3 c1 c2 c3 l1 l2 l3 _ x1 x2 x3 (by omega) g1 (by omega) (by omega)).mono fun e W' ⟨he, hb⟩ => ?_
  subst he
  exact ⟨_, rfl, law_post Try.laidOut rfl (by kernel_rfl) Try.underlying4 ⟨rfl, rfl, rfl⟩ (by kernel_rfl) hW' hb⟩

theorem knownFold_holds : Rows.KnownFoldSaid :=
  OpenClaim.holds_of_wide 6 Try.f6 rfl rfl rfl rfl rfl rfl rfl ⟨rfl, rfl, rfl, rfl, rfl⟩ rfl rfl rfl rfl rfl (by kernel_rfl) Try.func6 (show joinedFacts Try.prog 6 Try.f6 Rows.knownFoldSpec Rows.knownFoldRow = true from (by unfold joinedFacts; (repeat' (with_reducible refine and_both ?_ ?_)) <;> first | (with_reducible exact may_enter) | ((with_reducible refine make_ok ?_); rfl) | ((with_reducible refine lifts_ok ?_); rfl) | kernel_rfl))
    (of_decide_eq_true (by kernel_rfl)) (by unfold Func.isWrapper; rw [if_neg (of_decide_eq_false (by kernel_rfl))]; exact ⟨rfl, rfl⟩)
    (fun os started H enc _ => lawKnownFold_lifted os started H enc)

end Go.Proofs.Ytdckagledddkdaa
