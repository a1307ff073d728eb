/-
  Without what is not needed a program stops with the same, after the same blocks, and nothing more can be left out (K2): codemasonkeep.LiveTrim returns true and leaves its arguments alone. No condition.
-/
import Derived.Test.YtfhnhbkdhdocjaaLawLive
import Derived.Test.YtfhnhbkdhdocjaaLive
import Derived.Test.YtfhnhbkdhdocjaaLiveProgs
import Derived.Test.YtfhnhbkdhdocjaaLawBlock
namespace Go.Proofs.Ytfhnhbkdhdocjaa
open Go.RowKit Go.ChangeShapes Go.WideShapes Go.ChangeAt Go.Deep
set_option linter.unusedSimpArgs false
set_option linter.unusedVariables false
set_option maxRecDepth 100000

theorem rdI_nilL (w : World) (A : Option Addr) : RdI w w.heap.size A [] := fun h => by simp at h

set_option maxHeartbeats 8000000 in
theorem lawLiveTrim_any (K : TrimIs) (K2 : GoIs) (vars : Int) (A HA : Option Addr) (cap hcap want : Nat) (p : List Bk) (hv : List Int) (w : World) (hx : RdP w w.heap.size A p) (hh : RdI w w.heap.size HA hv) (hm : p.length ≤ maxLen) (hin : ∀ b ∈ p, InBk b) (hw : want < 4294967296) (hhm : hv.length ≤ maxLen) :
    Calls Try.prog 6 #[.int .i64 vars, .slice A p.length cap, .int .u32 (want : Nat), .slice HA hv.length hcap] w fun e w' => e = .returned (.bool true) ∧ Below w.heap.size w w' := by
  obtain ⟨len, hl⟩ : ∃ len, p.length = len := ⟨_, rfl⟩
  have HL := Lib.hid hl
  rw [hl] at hm ⊢
  have HPC := Lib.hid (fun (Z : World) (hZ : Below w.heap.size w Z) => refProgCheck_any vars A len cap p Z ((hx.below hZ (Nat.le_refl _)).more hZ.size) hl hm hin)
  obtain ⟨hn', hhn'⟩ : ∃ k, hv.length = k := ⟨_, rfl⟩
  have HHN := Lib.hid hhn'
  rw [hhn'] at hhm ⊢
  clear hhn'
  by_cases hc : ckWant vars p want = 0
  · obtain ⟨n, rfl, hn1, hn6, hc1, hc2⟩ := ckWant_ok hc
    obtain ⟨_, _, b3, b4, _⟩ := ckProg_bd hc1
    rw [hl] at b3 b4
    have HC1 := Lib.hid hc1
    have HC2 := Lib.hid hc2
    have HF := Lib.hid (decide_eq_true hc2)
    have HTR := Lib.hid (K.trim n want A len cap p w hx hl hc1 hc2)
    clear hc hc1 hc2 hl hin
    go_enter Try.func6, Try.ntmps6
    go_wp2_with fail
    refine HTR.out.mono ?_
    rintro e w1 ⟨A1, c1, q, rfl, hx1, hcs, hnf, hb1⟩
    have HCS := Lib.hid hcs
    have HNF := Lib.hid hnf
    have HQ := Lib.hid (hcs.ok HC1.out)
    have HQL : Hid (q.length = len) := Lib.hid (by rw [hcs.len, HL.out])
    clear hcs hnf
    go_wp2_with fail
    refine (HPC.out _ hb1).mono ?_
    rintro e w2 ⟨rfl, hb2⟩
    rw [HC1.out]
    have hb02 := hb1.trans (hb2.mono hb1.size)
    have hx12 := (hx1.below hb2 (Nat.le_refl _)).more hb2.size
    go_wp2_with (go_at_call 21; (with_reducible refine (refFits_is n want _ (by omega) hw).mono ?_); rw [HF.out]; rintro e w5 ⟨rfl, rfl⟩)
    go_wp2_with fail
    refine (K.trim n want A1 len c1 q _ hx12 HQL.out HQ.out HC2.out).mono ?_
    rintro e w3 ⟨A3, c3, r, rfl, hx3, hcs3, _, hb3⟩
    have hrq := hcs3.again HNF.out
    subst hrq
    have hb03 := hb02.trans (hb3.mono hb02.size)
    have hx13 := (hx12.below hb3 (Nat.le_refl _)).more hb3.size
    obtain ⟨_, _, _, _, hm20, _⟩ := ckProg_bd HQ.out
    go_wp2_with fail
    refine (progs_same A1 A3 len c1 c3 r _ hx13 hx3 HQL.out b4 hm20).mono ?_
    rintro e w4 ⟨rfl, hb4⟩
    have hb04 := hb03.trans (hb4.mono hb03.size)
    have hx4 := (hx.below hb04 (Nat.le_refl _)).more hb04.size
    have hh4 := (hh.below hb04 (Nat.le_refl _)).more hb04.size
    have hx14 := (hx13.below hb4 (Nat.le_refl _)).more hb4.size
    clear hx1 hx12 hx13 hx3
    by_cases hg : ckHave n hv = 0
    · have HG : Hid ((ckHave n hv == 0) = true) := Lib.hid (by simp [hg])
      have hvo := valsOk_of hg
      have HVO := Lib.hid hvo
      have hnn : hn' = n := by rw [← HHN.out]; exact hvo.1
      subst hnn
      have HGO := Lib.hid (HCS.out.go HC1.out 200 hv hvo.1)
      have HW1 := Lib.hid (fun x l (h : goP p 200 0 hv = some (x, l)) => goP_way HC1.out 200 0 hv x l (by have := (ckProg_bd HC1.out).2.2.1; omega) hvo h)
      clear hg hvo
      go_wp2_with (go_at_call 26; (with_reducible refine (given_any hn' HA hn' hcap hv _ _ hh4 HHN.out hhm).mono ?_); rw [HG.out]; rintro e w5 ⟨rfl, rfl⟩)
      go_wp2_with fail
      refine (K2.run hn' A HA len cap hcap p hv _ hx4 hh4 HL.out HC1.out HVO.out).mono ?_
      rintro e w5 ⟨hrt, hb5⟩
      have hb05 := hb04.trans (hb5.mono hb04.size)
      have hx15 := (hx14.below hb5 (Nat.le_refl _)).more hb5.size
      have hh5 := (hh4.below hb5 (Nat.le_refl _)).more hb5.size
      rcases hrt with ⟨hr, B1, B2, d1, d2, rfl⟩ | ⟨x, l, B1, B2, d1, d2, hr, rfl, hr1, hr2⟩
      · have HR := Lib.hid hr
        clear hr
        go_wp2_with fail
        refine (K2.run hn' A1 HA len c1 hcap r hv _ hx15 hh5 HQL.out HQ.out HVO.out).mono ?_
        rintro e w6 ⟨hrt, hb6⟩
        have hb06 := hb05.trans (hb6.mono hb05.size)
        rcases hrt with ⟨hr', B3, B4, d3, d4, rfl⟩ | ⟨x, l, B3, B4, d3, d4, hr', _⟩
        · go_wp2_with fail
          refine (ints_same B2 B4 0 d2 d4 [] _ (rdI_nilL _ _) (rdI_nilL _ _) rfl (Nat.zero_le _)).mono ?_
          rintro e w7 ⟨rfl, hb7⟩
          go_wp2
          go_ret
          exact ⟨ret_bool (by simp), hb06.trans (hb7.mono hb06.size)⟩
        · have := HGO.out
          rw [HR.out, hr'] at this
          exact this.elim
      · have HR := Lib.hid hr
        obtain ⟨r0, hlr, hrw, hll, hxo⟩ := HW1.out x l hr
        clear hr hlr hrw hxo
        go_wp2_with fail
        refine (K2.run hn' A1 HA len c1 hcap r hv _ hx15 hh5 HQL.out HQ.out HVO.out).mono ?_
        rintro e w6 ⟨hrt, hb6⟩
        have hb06 := hb05.trans (hb6.mono hb05.size)
        have hr16 := (hr1.below hb6 (Nat.le_refl _)).more hb6.size
        have hr26 := (hr2.below hb6 (Nat.le_refl _)).more hb6.size
        rcases hrt with ⟨hr', _⟩ | ⟨y, l', B3, B4, d3, d4, hr', rfl, hr3, hr4⟩
        · have := HGO.out
          rw [HR.out, hr'] at this
          exact this.elim
        · have hsg := HGO.out
          rw [HR.out, hr'] at hsg
          obtain ⟨hll', hxl, hyl, hag⟩ := hsg
          subst hll'
          have hlm : l.length ≤ maxLen := by unfold maxLen; omega
          have HLM := Lib.hid hlm
          have HAG := Lib.hid hag
          have HXL := Lib.hid hxl
          have HYL := Lib.hid hyl
          rw [hxl, hyl]
          clear hr' hag hlm hll hxl hyl
          go_wp2_with fail
          refine (ints_same B2 B4 _ d2 d4 (ni l) _ hr26 hr4 (by simp [ni]) HLM.out).mono ?_
          rintro e w7 ⟨rfl, hb7⟩
          have hb07 := hb06.trans (hb7.mono hb06.size)
          have hr17 := (hr16.below hb7 (Nat.le_refl _)).more hb7.size
          have hr37 := (hr3.below hb7 (Nat.le_refl _)).more hb7.size
          go_wp2_with fail
          refine (alike_any B1 B3 hn' d1 d3 want x y _ hr17 hr37 HXL.out HYL.out hn6 hw HAG.out).mono ?_
          rintro e w8 ⟨rfl, hb8⟩
          go_wp2
          go_ret
          exact ⟨ret_bool (by simp), hb07.trans (hb8.mono hb07.size)⟩
    · have HG : Hid ((ckHave n hv == 0) = false) := Lib.hid (by simp [hg])
      clear hg
      go_wp2_with (go_at_call 26; (with_reducible refine (given_any n HA hn' hcap hv _ _ hh4 HHN.out hhm).mono ?_); rw [HG.out]; rintro e w5 ⟨rfl, rfl⟩)
      go_ret
      exact ⟨rfl, hb04⟩
  · have HIB := Lib.hid (K.trimBad vars want A len cap p w hx hl hm hin hw hc)
    by_cases h1 : ckProg vars p = 0
    · obtain ⟨b1, b2, _⟩ := ckProg_bd h1
      obtain ⟨n, rfl⟩ := Int.eq_ofNat_of_zero_le (show 0 ≤ vars by omega)
      have h2 : ¬ want < 2 ^ n := fun h => hc (ckWant_of h1 h)
      have HF := Lib.hid (decide_eq_false h2)
      have H1 := Lib.hid h1
      obtain ⟨c, hce⟩ : ∃ c, ckWant n p want = c := ⟨_, rfl⟩
      rw [hce] at HIB hc
      have hne : (c != 0) = true := by simp [hc]
      clear hc hl hin hce h1 h2
      go_enter Try.func6, Try.ntmps6
      go_wp2_with fail
      refine HIB.out.mono ?_
      rintro e w1 ⟨A1, c1, rfl, hb1⟩
      go_wp2_with fail
      refine (HPC.out _ hb1).mono ?_
      rintro e w2 ⟨rfl, hb2⟩
      rw [H1.out]
      go_wp2_with (go_at_call 21; (with_reducible refine (refFits_is n want _ (by omega) hw).mono ?_); rw [HF.out]; rintro e w5 ⟨rfl, rfl⟩)
      go_ret
      exact ⟨rfl, hb1.trans (hb2.mono hb1.size)⟩
    · have hck : ckWant vars p want = ckProg vars p := by unfold ckWant; rw [if_neg h1]
      rw [hck] at HIB
      have hne : (ckProg vars p != 0) = true := by simp [h1]
      clear hc hl hin h1 hck
      go_enter Try.func6, Try.ntmps6
      go_wp2_with fail
      refine HIB.out.mono ?_
      rintro e w1 ⟨A1, c1, rfl, hb1⟩
      go_wp2_with fail
      refine (HPC.out _ hb1).mono ?_
      rintro e w2 ⟨rfl, hb2⟩
      go_wp2_with fail
      go_ret
      exact ⟨rfl, hb1.trans (hb2.mono hb1.size)⟩

theorem lawLiveTrim_int (K : TrimIs) (K2 : GoIs) (vars : Int) (A HA : Option Addr) (cap hcap : Nat) (want : Int) (p : List Bk) (hv : List Int) (w : World) (hx : RdP w w.heap.size A p) (hh : RdI w w.heap.size HA hv) (hm : p.length ≤ maxLen) (hin : ∀ b ∈ p, InBk b) (hw : (Lit.int .u32 want).wf = true) (hhm : hv.length ≤ maxLen) :
    Calls Try.prog 6 #[.int .i64 vars, .slice A p.length cap, .int .u32 want, .slice HA hv.length hcap] w fun e w' => e = .returned (.bool true) ∧ Below w.heap.size w w' := by
  obtain ⟨n, rfl, hn⟩ := u32_lit hw
  exact lawLiveTrim_any K K2 vars A HA cap hcap n p hv w hx hh hm hin hn hhm

set_option maxRecDepth 100000 in
theorem lawLiveTrim_lifted (os : Os) (started : os.Started) (H : Type) (enc : TypeId × Value → H) :
    ReturnsInHanded {} Try.checked os 6 .any (Rows.liveTrimSpec.pre6 enc Try.prog Try.f6 Rows.liveTrimRow.domain false) (Rows.liveTrimSpec.post enc Try.prog Try.f6 false true false false) := by
  refine returnsInHanded_of_change_sized (C := Try.checked) Try.own started (by kernel_rfl) Try.func6
    (ChangeSpec.witness6 (enc := enc) (C := Try.checked) false ⟨#[], #[.int .i64 0, .slice none 0 0, .int .u32 0, .slice none 0 0], []⟩ 8 (by kernel_rfl) (by kernel_rfl) (by kernel_rfl) (by kernel_rfl)) ?_
  intro W base args ds gs before hval0 hW hcnd hsz _
  have hval : ∀ (j : Nat) t v, Try.f6.params[j]? = some t → args[j]? = some v → Value.okWide Try.prog W .any base t v := hval0
  have hW' := hW
  obtain ⟨p, q, hA0, hV, rfl, hfz, hnd⟩ := hW
  have hA : DataW.TrodAll enc Try.prog W 0 (fun _ => true) true Try.f6.params.toList args.toList ds p := hA0
  obtain ⟨hgs, _⟩ := trodVars_none hV
  rw [Try.params6] at hA hval
  obtain ⟨v0, vs0, d0, ds0, p0, q0, hargs, rfl, rfl, h0, r0⟩ := trodAll_cons hA
  obtain ⟨v1, vs1, d1, ds1, p1, q1, rfl, rfl, rfl, h1, r1⟩ := trodAll_cons r0
  obtain ⟨v2, vs2, d2, ds2, p2, q2, rfl, rfl, rfl, h2, r2⟩ := trodAll_cons r1
  obtain ⟨v3, vs3, d3, ds3, p3, q3, rfl, rfl, rfl, h3, r3⟩ := trodAll_cons r2
  obtain ⟨rfl, rfl, rfl⟩ := trodAll_nil r3
  have hargs2 : args = #[v0, v1, v2, v3] := Array.toList_inj.1 hargs
  subst hargs2
  obtain ⟨a0, rfl, _, _, w0⟩ := open_int Try.underlying3 (hval 0 3 v0 rfl rfl) h0
  obtain ⟨A1, c1, l1, rfl, lc1, cm1, x1, g1⟩ := open_progA (reach_at hsz (j := 1) (t := 22) (by rw [Try.params6]; rfl) rfl) (hval 1 22 v1 rfl rfl) h1
  have b1 := len_reach Try.underlying22 (hval 1 22 _ rfl rfl) h1 hsz (j := 1) (by rw [Try.params6]; rfl) rfl
  rw [show Try.prog.bytesOf (Try.prog.elem 22) = 48 from by kernel_rfl] at b1
  obtain ⟨a2, rfl, _, _, w2⟩ := open_int Try.underlying23 (hval 2 23 v2 rfl rfl) h2
  obtain ⟨A3, c3, l3, rfl, lc3, cm3, x3, r3⟩ := open_intsA (hval 3 39 v3 rfl rfl) h3
  have b3 := len_reach Try.underlying39 (hval 3 39 _ rfl rfl) h3 hsz (j := 3) (by rw [Try.params6]; rfl) rfl
  rw [show Try.prog.bytesOf (Try.prog.elem 39) = 8 from by kernel_rfl] at b3
  refine (lawLiveTrim_int trimIs goIs a0 A1 A3 c1 c3 a2 l1 l3 _ x1 x3 (by omega) g1 w2 (by omega)).mono fun e W' ⟨he, hb⟩ => ?_
  subst he
  exact ⟨_, rfl, law_post Try.laidOut rfl (by kernel_rfl) Try.underlying4 ⟨rfl, rfl, rfl⟩ (by kernel_rfl) hW' hb⟩

theorem liveTrim_holds : Rows.LiveTrimSaid :=
  OpenClaim.holds_of_wide 6 Try.f6 rfl rfl rfl rfl rfl rfl rfl ⟨rfl, rfl, rfl, rfl, rfl⟩ rfl rfl rfl rfl rfl (by kernel_rfl) Try.func6 (show joinedFacts Try.prog 6 Try.f6 Rows.liveTrimSpec Rows.liveTrimRow = true from (by unfold joinedFacts; (repeat' (with_reducible refine and_both ?_ ?_)) <;> first | (with_reducible exact may_enter) | ((with_reducible refine make_ok ?_); rfl) | ((with_reducible refine lifts_ok ?_); rfl) | kernel_rfl))
    (of_decide_eq_true (by kernel_rfl)) (by unfold Func.isWrapper; rw [if_neg (of_decide_eq_false (by kernel_rfl))]; exact ⟨rfl, rfl⟩)
    (fun os started H enc _ => lawLiveTrim_lifted os started H enc)

end Go.Proofs.Ytfhnhbkdhdocjaa
