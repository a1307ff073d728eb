/-
  single.Run returns what variables have where a named program stops (M1, M2), or the first error, for all arguments: codemasonlaw.SingleRuns returns true and leaves its arguments alone. No condition.
-/
import Derived.Test.YtgcjknibelfjbaaLawBlock
import Derived.Test.YtgcjknibelfjbaaSnRun
import Derived.Test.YtgcjknibelfjbaaSingleGo
namespace Go.Proofs.Ytgcjknibelfjbaa
open Go.RowKit Go.ChangeShapes Go.WideShapes Go.ChangeAt Go.Deep
set_option linter.unusedSimpArgs false
set_option linter.unusedVariables false
set_option maxRecDepth 100000

theorem rdI_nilS (w : World) (A : Option Addr) : RdI w w.heap.size A [] := fun h => by simp at h

theorem runN_len {l : List Sg} {n : Nat} (hl : ∀ s ∈ l, s.last.length ≤ n) : ∀ (f i : Nat) (last : Int) (v x : List Int), runN l f i last v = some x → x.length ≤ n
  | 0, _, _, _, _, h => by cases h
  | f + 1, i, last, v, x, h => by
    simp only [runN] at h
    split at h
    · injection h with h
      rw [← h, List.length_map]
      rw [List.getD_eq_getElem?_getD]
      cases e : l[i]? with
      | none => simp
      | some s => exact hl s (List.mem_of_getElem? e)
    · exact runN_len hl f _ _ _ _ h

theorem ckRunN_ok {vars : Int} {l : List Sg} {hv : List Int} (h : ckRunN vars l hv = 0) : ckSingle vars l = 0 ∧ ckHave vars hv = 0 := by
  unfold ckRunN at h
  split at h
  · rename_i h1; exact ⟨h1, h⟩
  · rename_i h1; exact absurd h h1

theorem ckSingle_nat {vars : Int} {l : List Sg} (h : ckSingle vars l = 0) : ∃ n : Nat, vars = (n : Int) ∧ 1 ≤ n ∧ n ≤ 6 := by
  obtain ⟨h1, h2, _⟩ := ckSingle_bd h
  exact ⟨vars.toNat, by omega, by omega, by omega⟩

theorem ckSingle_last {n : Nat} {l : List Sg} (h : ckSingle n l = 0) : ∀ s ∈ l, s.last.length ≤ n := fun s hs => by
  obtain ⟨k, hk, rfl⟩ := List.getElem_of_mem hs
  obtain ⟨row, hr⟩ := frP_get hk
  have := (ckSingle_at h (List.getElem?_eq_getElem hk) hr).len
  omega

set_option maxHeartbeats 4000000 in
theorem lawSingleRuns_any (vars : Int) (A HA : Option Addr) (cap hcap : Nat) (l : List Sg) (hv : List Int) (w : World) (hx : RdN w w.heap.size A l) (hh : RdI w w.heap.size HA hv) (hm : l.length ≤ maxLen) (hin : ∀ s ∈ l, InSg s) (hhm : hv.length ≤ maxLen) :
    Calls Try.prog 4 #[.int .i64 vars, .slice A l.length cap, .slice HA hv.length hcap] w fun e w' => e = .returned (.bool true) ∧ Below w.heap.size w w' := by
  have HIN := Lib.hid hin
  have HM := Lib.hid hm
  have HHM := Lib.hid hhm
  clear hin hm hhm
  by_cases hc : ckRunN vars l hv = 0
  · obtain ⟨hc1, hc2⟩ := ckRunN_ok hc
    obtain ⟨n, rfl, hn1, hn6⟩ := ckSingle_nat hc1
    have hvo := valsOk_of hc2
    have HC1 := Lib.hid hc1
    have HC2 := Lib.hid hc2
    have HVO := Lib.hid hvo
    have hlen := hvo.1
    rw [hlen]
    have HLEN := Lib.hid hlen
    have hnm : n ≤ maxLen := by unfold maxLen; omega
    have HXL := Lib.hid (fun (x : List Int) (h : runN l 200 0 (-1) (beginS hv) = some x) => runN_len (ckSingle_last hc1) _ _ _ _ _ h)
    obtain ⟨R, hR⟩ : ∃ R, runN l 200 0 (-1) (beginS hv) = R := ⟨_, rfl⟩
    have HRN := Lib.hid (fun Z (h1 : RdN Z Z.heap.size A l) (h2 : RdI Z Z.heap.size HA hv) => snRun_any n A HA _ cap hcap l hv Z h1 h2 rfl HIN.out hc1 hvo)
    have HRR := Lib.hid (fun Z (h1 : RdN Z Z.heap.size A l) (h2 : RdI Z Z.heap.size HA hv) => singleRun_any n A HA _ cap hcap l hv Z h1 h2 rfl hc1 hvo)
    rw [hR] at HRN HRR HXL
    clear hc hc1 hc2 hvo hlen hR
    go_enter Try.func4, Try.ntmps4
    go_wp2_with fail
    refine (HRN.out _ hx hh).mono ?_
    rintro e w1 ⟨hrt, hb1⟩
    have hx1 := (hx.below hb1 (Nat.le_refl _)).more hb1.size
    have hh1 := (hh.below hb1 (Nat.le_refl _)).more hb1.size
    have hs1 := hb1.size
    rcases hrt with ⟨rfl, A1, c1, rfl⟩ | ⟨x, A1, c1, rfl, rfl, hr1⟩
    · go_wp2_with fail
      refine (singleCheck_any n A _ cap l _ hx1 rfl HM.out HIN.out).mono ?_
      rintro e w2 ⟨rfl, hb2⟩
      rw [HC1.out]
      have hb12 := hb1.trans (hb2.mono hs1)
      have hx2 := (hx.below hb12 (Nat.le_refl _)).more hb12.size
      have hh2 := (hh.below hb12 (Nat.le_refl _)).more hb12.size
      go_wp2_with fail
      refine (haveCheck_any n HA n hcap hv _ _ hh2 HLEN.out hnm).mono ?_
      rintro e w3 ⟨rfl, rfl⟩
      rw [HC2.out]
      go_wp2_with fail
      refine (HRR.out _ hx2 hh2).mono ?_
      rintro e w3 ⟨hgt, hb3⟩
      have hb13 := hb12.trans (hb3.mono hb12.size)
      rcases hgt with ⟨_, rfl⟩ | ⟨x, A3, c3, hr, _, _⟩
      · go_wp2_with fail
        refine (ints_same A1 none 0 c1 0 [] _ (rdI_nilS _ _) (rdI_nilS _ _) rfl (Nat.zero_le _)).mono ?_
        rintro e w4 ⟨rfl, hb4⟩
        go_wp2
        go_ret
        exact ⟨ret_bool (by simp), hb13.trans (hb4.mono hb13.size)⟩
      · cases hr
    · have hxm : x.length ≤ maxLen := Nat.le_trans (HXL.out x rfl) hnm
      have HXM := Lib.hid hxm
      clear hxm
      go_wp2_with fail
      refine (singleCheck_any n A _ cap l _ hx1 rfl HM.out HIN.out).mono ?_
      rintro e w2 ⟨rfl, hb2⟩
      rw [HC1.out]
      have hb12 := hb1.trans (hb2.mono hs1)
      have hx2 := (hx.below hb12 (Nat.le_refl _)).more hb12.size
      have hh2 := (hh.below hb12 (Nat.le_refl _)).more hb12.size
      have hr12 := (hr1.below hb2 (Nat.le_refl _)).more hb2.size
      go_wp2_with fail
      refine (haveCheck_any n HA n hcap hv _ _ hh2 HLEN.out hnm).mono ?_
      rintro e w3 ⟨rfl, rfl⟩
      rw [HC2.out]
      go_wp2_with fail
      refine (HRR.out _ hx2 hh2).mono ?_
      rintro e w3 ⟨hgt, hb3⟩
      have hb13 := hb12.trans (hb3.mono hb12.size)
      have hr13 := (hr12.below hb3 (Nat.le_refl _)).more hb3.size
      rcases hgt with ⟨hr, _⟩ | ⟨x2, A3, c3, hr, rfl, hr3⟩
      · cases hr
      · injection hr with hr
        subst hr
        go_wp2_with fail
        refine (ints_same A1 A3 _ c1 c3 x _ hr13 hr3 rfl HXM.out).mono ?_
        rintro e w4 ⟨rfl, hb4⟩
        go_wp2
        go_ret
        exact ⟨ret_bool (by simp), hb13.trans (hb4.mono hb13.size)⟩
  · have HC := Lib.hid hc
    have hne : (ckRunN vars l hv == 0) = false := by simp [hc]
    have HRB := Lib.hid (snRun_bad vars A HA _ cap _ hcap l hv _ hx hh rfl HM.out HIN.out rfl HHM.out hc)
    unfold ckRunN at HRB hne hc
    by_cases h0 : ckSingle vars l = 0
    · rw [if_pos h0] at HRB hne
      have H0 := Lib.hid h0
      clear hc h0
      go_enter Try.func4, Try.ntmps4
      go_wp2_with fail
      refine HRB.out.mono ?_
      rintro e w1 ⟨A1, c1, rfl, hb1⟩
      have hx1 := (hx.below hb1 (Nat.le_refl _)).more hb1.size
      go_wp2_with fail
      refine (singleCheck_any vars A _ cap l _ hx1 rfl HM.out HIN.out).mono ?_
      rintro e w2 ⟨rfl, hb2⟩
      rw [H0.out]
      have hb12 := hb1.trans (hb2.mono hb1.size)
      have hh2 := (hh.below hb12 (Nat.le_refl _)).more hb12.size
      go_wp2_with fail
      refine (haveCheck_any vars HA _ hcap hv _ _ hh2 rfl HHM.out).mono ?_
      rintro e w3 ⟨rfl, rfl⟩
      go_wp2_with fail
      refine (ints_same A1 none 0 c1 0 [] _ (rdI_nilS _ _) (rdI_nilS _ _) rfl (Nat.zero_le _)).mono ?_
      rintro e w4 ⟨rfl, hb4⟩
      go_wp2
      go_ret
      exact ⟨ret_bool (by simp), hb12.trans (hb4.mono hb12.size)⟩
    · rw [if_neg h0] at HRB hne
      clear hc h0
      go_enter Try.func4, Try.ntmps4
      go_wp2_with fail
      refine HRB.out.mono ?_
      rintro e w1 ⟨A1, c1, rfl, hb1⟩
      have hx1 := (hx.below hb1 (Nat.le_refl _)).more hb1.size
      go_wp2_with fail
      refine (singleCheck_any vars A _ cap l _ hx1 rfl HM.out HIN.out).mono ?_
      rintro e w2 ⟨rfl, hb2⟩
      have hb12 := hb1.trans (hb2.mono hb1.size)
      go_wp2_with fail
      refine (ints_same A1 none 0 c1 0 [] _ (rdI_nilS _ _) (rdI_nilS _ _) rfl (Nat.zero_le _)).mono ?_
      rintro e w4 ⟨rfl, hb4⟩
      go_wp2
      go_ret
      exact ⟨ret_bool (by simp), hb12.trans (hb4.mono hb12.size)⟩

set_option maxRecDepth 100000 in
theorem lawSingleRuns_lifted (os : Os) (started : os.Started) (H : Type) (enc : TypeId × Value → H) :
    ReturnsInHanded {} Try.checked os 4 .any (Rows.singleRunsSpec.pre6 enc Try.prog Try.f4 Rows.singleRunsRow.domain false) (Rows.singleRunsSpec.post enc Try.prog Try.f4 false true false false) := by
  refine returnsInHanded_of_change_sized (C := Try.checked) Try.own started (by kernel_rfl) Try.func4
    (ChangeSpec.witness6 (enc := enc) (C := Try.checked) false ⟨#[], #[.int .i64 0, .slice none 0 0, .slice none 0 0], []⟩ 8 (by kernel_rfl) (by kernel_rfl) (by kernel_rfl) (by kernel_rfl)) ?_
  intro W base args ds gs before hval0 hW hcnd hsz _
  have hval : ∀ (j : Nat) t v, Try.f4.params[j]? = some t → args[j]? = some v → Value.okWide Try.prog W .any base t v := hval0
  have hW' := hW
  obtain ⟨p, q, hA0, hV, rfl, hfz, hnd⟩ := hW
  have hA : DataW.TrodAll enc Try.prog W 0 (fun _ => true) true Try.f4.params.toList args.toList ds p := hA0
  obtain ⟨hgs, _⟩ := trodVars_none hV
  rw [Try.params4] at hA hval
  obtain ⟨v0, vs0, d0, ds0, p0, q0, hargs, rfl, rfl, h0, r0⟩ := trodAll_cons hA
  obtain ⟨v1, vs1, d1, ds1, p1, q1, rfl, rfl, rfl, h1, r1⟩ := trodAll_cons r0
  obtain ⟨v2, vs2, d2, ds2, p2, q2, rfl, rfl, rfl, h2, r2⟩ := trodAll_cons r1
  obtain ⟨rfl, rfl, rfl⟩ := trodAll_nil r2
  have hargs2 : args = #[v0, v1, v2] := Array.toList_inj.1 hargs
  subst hargs2
  obtain ⟨a0, rfl, _, _, w0⟩ := open_int Try.underlying3 (hval 0 3 v0 rfl rfl) h0
  obtain ⟨A1, c1, l1, rfl, lc1, cm1, x1, g1⟩ := open_singlesA (reach_at hsz (j := 1) (t := 22) (by rw [Try.params4]; rfl) rfl) (hval 1 22 v1 rfl rfl) h1
  have b1 := len_reach Try.underlying22 (hval 1 22 _ rfl rfl) h1 hsz (j := 1) (by rw [Try.params4]; rfl) rfl
  rw [show Try.prog.bytesOf (Try.prog.elem 22) = 96 from by kernel_rfl] at b1
  obtain ⟨A2, c2, l2, rfl, lc2, cm2, x2, r2⟩ := open_intsA (hval 2 26 v2 rfl rfl) h2
  have b2 := len_reach Try.underlying26 (hval 2 26 _ rfl rfl) h2 hsz (j := 2) (by rw [Try.params4]; rfl) rfl
  rw [show Try.prog.bytesOf (Try.prog.elem 26) = 8 from by kernel_rfl] at b2
  refine (lawSingleRuns_any a0 A1 A2 c1 c2 l1 l2 _ x1 x2 (by omega) g1 (by omega)).mono fun e W' ⟨he, hb⟩ => ?_
  subst he
  exact ⟨_, rfl, law_post Try.laidOut rfl (by kernel_rfl) Try.underlying4 ⟨rfl, rfl, rfl⟩ (by kernel_rfl) hW' hb⟩

theorem singleRuns_holds : Rows.SingleRunsSaid :=
  OpenClaim.holds_of_wide 4 Try.f4 rfl rfl rfl rfl rfl rfl rfl ⟨rfl, rfl, rfl, rfl, rfl⟩ rfl rfl rfl rfl rfl (by kernel_rfl) Try.func4 (show joinedFacts Try.prog 4 Try.f4 Rows.singleRunsSpec Rows.singleRunsRow = true from (by unfold joinedFacts; (repeat' (with_reducible refine and_both ?_ ?_)) <;> first | (with_reducible exact may_enter) | ((with_reducible refine make_ok ?_); rfl) | ((with_reducible refine lifts_ok ?_); rfl) | kernel_rfl))
    (of_decide_eq_true (by kernel_rfl)) (by unfold Func.isWrapper; rw [if_neg (of_decide_eq_false (by kernel_rfl))]; exact ⟨rfl, rfl⟩)
    (fun os started H enc _ => lawSingleRuns_lifted os started H enc)

end Go.Proofs.Ytgcjknibelfjbaa
