/-
  What must be so ahead of two lists of steps, one behind the other, is what must be so ahead of the first one, that what must be so ahead of the second one is so behind it (Hoare; S1): codemasonkeep.WeakTwo returns true and leaves its arguments alone. Condition: the input is of bulk at most 1048576 (the two lists appended would else pass what a slice may take).
-/
import Derived.Test.YtfhnhbkdhdocjaaMWeak
import Derived.Test.YtfhnhbkdhdocjaaTermed
import Derived.Test.YtfhnhbkdhdocjaaBlockDo
import Derived.Test.YtfhnhbkdhdocjaaBlockOpen
import Derived.Test.YtfhnhbkdhdocjaaUpto
import Derived.BigQuiet
namespace Go.Proofs.Ytfhnhbkdhdocjaa
open Go.RowKit Go.ChangeShapes Go.WideShapes Go.ChangeAt Go.Deep
set_option linter.unusedSimpArgs false
set_option linter.unusedVariables false
set_option maxRecDepth 100000

theorem ahead_some (vars : Int) (A PA : Option Addr) (len cap pl pc : Nat) (code : List St) (post : List Tm) (w : World) (hx : RdS w w.heap.size A code) (hl : code.length = len) (hcap : len ≤ cap) (hm : len * 40 ≤ 140737488351232) (hp : RdT w w.heap.size PA post) (hpl : post.length = pl) :
    Calls Try.prog 30 #[.int .i64 vars, .slice A len cap, .slice PA pl pc] w fun e w' => ∃ (A' : Option Addr) (k c' : Nat), e = .returned (.tuple #[.slice A' k c', .int .i64 (ckW vars code [post])]) ∧ Below w.heap.size w w' := by
  by_cases hz : ckW vars code [post] = 0
  · have h1 : ckProg vars [bkS code] = 0 := by unfold ckW at hz; split at hz <;> assumption
    have h3 : ckTerms vars post = 0 := by
      have hz2 := hz
      unfold ckW at hz2
      rw [if_pos h1] at hz2
      unfold ckLs at hz2
      split at hz2 <;> assumption
    obtain ⟨n, rfl, _, _⟩ := ckProg_nat h1
    refine (ahead_any n A PA len cap pl pc code post w hx hl hcap hm hp hpl h1 h3).mono ?_
    rintro e w' ⟨T, A', c', rfl, _, _, hb⟩
    exact ⟨A', T.length, c', by rw [hz], hb⟩
  · refine (ahead_bad vars A PA len cap pl pc code post w hx hl hcap hm hp hpl hz).mono ?_
    rintro e w' ⟨rfl, hb⟩
    exact ⟨none, 0, 0, rfl, hb⟩

theorem ckProg_parts {n : Nat} {a b : List St} (h : ckProg n [bkS (a ++ b)] = 0) : ckStepsF n n a = 0 ∧ ckProg n [bkS b] = 0 ∧ a.length + b.length ≤ 20 := by
  obtain ⟨h1, h2, _, _, h5, _⟩ := ckProg_bd h
  have hs : ckStepsF n n (a ++ b) = 0 := (ckProg_at h (k := 0) (b := bkS (a ++ b)) rfl).code
  have hlen : a.length + b.length ≤ 20 := by
    have : manyS [bkS (a ++ b)] = (a ++ b).length := by simp [manyS, bkS]
    rw [this, List.length_append] at h5
    exact h5
  refine ⟨ckStepsF_of fun s hs' => ckStepsF_mem hs (List.mem_append_left _ hs'), ckProg_of h1 h2 (by simp) (by simp) (by simp [manyS, bkS]; omega) (ckBks_of fun x hx => ?_), hlen⟩
  rw [List.mem_singleton.1 hx]
  exact ckBk_of (n := 1) ⟨ckStepsF_of fun s hs' => ckStepsF_mem hs (List.mem_append_right _ hs'), .inl rfl, .inr ⟨rfl, rfl⟩, fun h0 => by have h1 : (bkS b).test = -1 := rfl; omega⟩

set_option maxHeartbeats 16000000 in
theorem lawWeakTwo_any (vars : Int) (A B QA HA : Option Addr) (ca cb qc hc : Nat) (a b : List St) (post : List Tm) (hv : List Int) (w : World) (hxa : RdS w w.heap.size A a) (hma : a.length ≤ 1048576) (hxb : RdS w w.heap.size B b) (hcb : b.length ≤ cb) (hmb : b.length ≤ 1048576)
    (hq : RdT w w.heap.size QA post) (hh : RdI w w.heap.size HA hv) (hhm : hv.length ≤ maxLen) :
    Calls Try.prog 10 #[.int .i64 vars, .slice A a.length ca, .slice B b.length cb, .slice QA post.length qc, .slice HA hv.length hc] w fun e w' => e = .returned (.bool true) ∧ Below w.heap.size w w' := by
  obtain ⟨la, hla⟩ : ∃ n, a.length = n := ⟨_, rfl⟩
  obtain ⟨lb, hlb⟩ : ∃ n, b.length = n := ⟨_, rfl⟩
  obtain ⟨ql, hql⟩ : ∃ n, post.length = n := ⟨_, rfl⟩
  obtain ⟨hl, hhl⟩ : ∃ n, hv.length = n := ⟨_, rfl⟩
  rw [hla] at hma
  rw [hlb] at hcb hmb
  rw [hhl] at hhm
  rw [hla, hlb, hql, hhl]
  have HGV := Lib.hid (fun (Z : World) (hZ : Below w.heap.size w Z) => given_any vars HA hl hc hv Z.heap.size Z ((hh.below hZ (Nat.le_refl _)).more hZ.size) hhl hhm)
  have HRH := Lib.hid (fun (Z : World) (hZ : Below w.heap.size w Z) => (hh.below hZ (Nat.le_refl _)).more hZ.size)
  have HRQ := Lib.hid (fun (Z : World) (hZ : Below w.heap.size w Z) => (hq.below hZ (Nat.le_refl _)).more hZ.size)
  have HRA := Lib.hid (fun (Z : World) (hZ : Below w.heap.size w Z) => (RdS.below hxa hZ (Nat.le_refl _)).more hZ.size)
  have HRB := Lib.hid (fun (Z : World) (hZ : Below w.heap.size w Z) => (RdS.below hxb hZ (Nat.le_refl _)).more hZ.size)
  have HLA := Lib.hid hla
  have HLB := Lib.hid hlb
  have HQL := Lib.hid hql
  have HHL := Lib.hid hhl
  have HL1 : Hid ((rv cSt a).length = la * 5) := Lib.hid (by rw [rv_len cSt_len, hla])
  have HL2 : Hid ((rv cSt b).length = lb * 5) := Lib.hid (by rw [rv_len cSt_len, hlb])
  have HN1 : Hid (A = none → la = 0) := Lib.hid fun h => by have := RdR.nil (by omega) hxa h; omega
  have HN2 : Hid (B = none → lb = 0) := Lib.hid fun h => by have := RdR.nil (by omega) hxb h; omega
  have hbig1 : (0 + la) * 40 ≤ 140737488355328 := by omega
  have hmx1 : 0 + la ≤ maxLen := by unfold maxLen; omega
  have hbig2 : (la + lb) * 40 ≤ 140737488355328 := by omega
  have hmx2 : la + lb ≤ maxLen := by unfold maxLen; omega
  have hsw : w.heap.size ≤ (w.alloc (.cells #[] 87)).heap.size := by simp
  have HBW : Hid (Below w.heap.size w (w.alloc (.cells #[] 87))) := Lib.hid (by go_grown)
  have HLL : Hid ((a ++ b).length = la + lb) := Lib.hid (by rw [List.length_append, hla, hlb])
  clear hxa hxb hq hh hla hlb hql hhl
  by_cases hz : ckW vars (a ++ b) [post] = 0
  · have h1 : ckProg vars [bkS (a ++ b)] = 0 := by unfold ckW at hz; split at hz <;> assumption
    have h3 : ckTerms vars post = 0 := by
      unfold ckW at hz
      rw [if_pos h1] at hz
      unfold ckLs at hz
      split at hz <;> assumption
    clear hz
    obtain ⟨n, rfl, hn1, hn6⟩ := ckProg_nat h1
    obtain ⟨hsa, h2, hab⟩ := ckProg_parts h1
    rw [HLA.out, HLB.out] at hab
    have H1 := Lib.hid h1
    have H2 := Lib.hid h2
    have H3 := Lib.hid h3
    have HSA := Lib.hid hsa
    have hgt : decide (20 < la + lb) = false := by simp; omega
    have hgt2 : decide ((20 : Int) < (la : Int) + (lb : Int)) = false := by simp; omega
    clear h1 h2 h3 hsa
    by_cases h4 : ckHave n hv = 0
    · have H4 := Lib.hid h4
      have HGB : Hid ((ckHave n hv == 0) = true) := Lib.hid (by simp [h4])
      clear h4
      go_enter Try.func10, Try.ntmps10
      go_upto_region 3 with (first
        | (at_builtin; refine wpList_app rfl (.tmp 17) (.tmp 18) 49 rfl w.heap.size 87 5 40 stepl_app [] rfl (World.ownsRow_made w #[] 0 (Nat.le_refl _) (Nat.zero_le _) rfl) (rv cSt a) rfl HL1.out HN1.out (RdR.news cSt_len (HRA.out _ HBW.out)) (cSt_oneL a) hmx1 hbig1 hsw ?_; intro A1 c1 w1 hown1 hg1 hb1; rw [Nat.zero_add, List.nil_append] at hown1; have HO1 := Lib.hid hown1; have HB1 := Lib.hid (HBW.out.trans hb1); have hsw1 : w.heap.size ≤ w1.heap.size := HB1.out.size; clear hown1 hg1 hb1)
        | (at_builtin; refine wpList_app rfl (.tmp 19) (.tmp 20) 49 rfl w.heap.size 87 5 40 stepl_app (rv cSt a) (by first | rfl | simp) HO1.out (rv cSt b) rfl HL2.out HN2.out (RdR.news cSt_len (HRB.out _ HB1.out)) (cSt_oneL b) hmx2 hbig2 hsw1 ?_; intro A2 c2 w2 hown2 hg2 hb2; rw [← rv_append] at hown2; have HB2 := Lib.hid (HB1.out.trans hb2); have HCP := Lib.hid (own_capB hown2); have HAH := Lib.hid (ahead_any n A2 QA (la + lb) c2 ql qc (a ++ b) post w2 (own_rdR hown2 HLL.out) HLL.out (own_capB hown2) (by omega) (HRQ.out _ HB2.out) HQL.out H1.out H3.out); clear hown2 hg2 hb2 HO1)
        | (go_at_call 30; (with_reducible refine HAH.out.mono ?_); rintro e w3 ⟨T, TA, tc', rfl, hah, hrt, hb3⟩; have HD := Lib.hid hah; have HRT := Lib.hid hrt; have HB3 := Lib.hid (HB2.out.trans (hb3.mono HB2.out.size)); obtain ⟨tl, htl⟩ : ∃ tl, T.length = tl := ⟨_, rfl⟩; have HTL := Lib.hid htl; have htp : 0 < tl := (by rw [← htl]; exact hah.pos); have htf : tl ≤ 64 := (by rw [← htl]; exact hah.few); have htz : (tl == 0) = false := (by simp; omega); have htz2 : ((tl : Int) == 0) = false := (by simp; omega); rw [htl]; have HAB := Lib.hid (ahead_any n B QA lb cb ql qc b post w3 (HRB.out _ HB3.out) HLB.out hcb (by omega) (HRQ.out _ HB3.out) HQL.out H2.out H3.out); clear hah hrt hb3 htl HAH)
        | (go_at_call 30; (with_reducible refine HAB.out.mono ?_); rintro e w4 ⟨M, MA, mc', rfl, hbh, hrm, hb4⟩; have HE := Lib.hid hbh; have HRM := Lib.hid hrm; have HRT4 := Lib.hid ((HRT.out.below hb4 (Nat.le_refl _)).more hb4.size); have HB4 := Lib.hid (below_via HB3.out hb4); obtain ⟨ml, hml⟩ : ∃ ml, M.length = ml := ⟨_, rfl⟩; have HML := Lib.hid hml; have hmp : 0 < ml := (by rw [← hml]; exact hbh.pos); have hmf : ml ≤ 64 := (by rw [← hml]; exact hbh.few); have hmz : (ml == 0) = false := (by simp; omega); have hmz2 : ((ml : Int) == 0) = false := (by simp; omega); rw [hml]; clear hbh hrm hb4 hml HAB))
      have hvo := valsOk_of H4.out
      have hln : hl = n := by rw [← HHL.out]; exact hvo.1
      subst hln
      have hda := doS_ok HSA.out hvo
      have HVAL : Hid (valT T hv = valT post (doS b (doS a hv))) := Lib.hid (by rw [HD.out.val hv hvo, doS_append])
      have HVAM : Hid (valT M (doS a hv) = valT post (doS b (doS a hv))) := Lib.hid (HE.out.val _ hda)
      obtain ⟨x2, hx2⟩ : ∃ x2, valT post (doS b (doS a hv)) = x2 := ⟨_, rfl⟩
      rw [hx2] at HVAL HVAM
      have HTM := Lib.hid (refTermT_any hl TA HA tl tc' hc T hv w4 HRT4.out (HRH.out _ HB4.out) HTL.out HD.out.ok htp (by omega) H4.out)
      have HDL : Hid ((doS a hv).length = hl) := Lib.hid hda.1
      have HDO := Lib.hid (fun (Z : World) (hZ : Below w.heap.size w Z) => refDoing_any hl A HA la ca hc a hv Z (HRA.out Z hZ) (HRH.out Z hZ) HLA.out (by omega) HSA.out hvo (by omega) (by omega))
      have HMM := Lib.hid (fun (Z : World) (g c' : Nat) (hZ : Below w4.heap.size w4 Z) (hr : RdI Z Z.heap.size (some ⟨g, 0, none⟩) (doS a hv)) => refTermT_any hl MA (some ⟨g, 0, none⟩) ml mc' c' M (doS a hv) Z ((HRM.out.below hZ (Nat.le_refl _)).more hZ.size) hr HML.out HE.out.ok hmp (by omega) (ckHave_vals hda))
      rw [HHL.out, HVAL.out] at HTM
      simp only [HDL.out, HVAM.out] at HMM
      clear hvo hda hx2
      go_wp2_with (first
        | (go_at_call 26; (refine (HGV.out _ HB4.out).mono ?_); rw [HGB.out]; rintro e w5 ⟨rfl, rfl⟩; obtain ⟨w5, rfl⟩ : ∃ Z : World, Z = w4 := ⟨_, rfl⟩)
        | (go_at_call 36; (with_reducible refine HTM.out.mono ?_); rintro e w6 ⟨rfl, hb6⟩; have HB6 := Lib.hid (below_via HB4.out hb6); have HBQ := Lib.hid hb6; clear hb6 HTM)
        | (go_at_call 37; (refine (HDO.out _ HB6.out).mono ?_); rintro e w7 ⟨g, c', rfl, hown, hb7⟩; have HB7 := Lib.hid (below_via HB6.out hb7); have HBR := Lib.hid (below_via HBQ.out hb7); have HOW := Lib.hid (own_rdI hown HDL.out); clear hb7 hown)
        | (go_at_call 36; (refine (HMM.out _ _ _ HBR.out HOW.out).mono ?_); rintro e w8 ⟨rfl, hb8⟩; have HB8 := Lib.hid (below_via HB7.out hb8); clear hb8))
      go_ret
      exact ⟨ret_bool (by simp), HB8.out⟩
    · have HGB : Hid ((ckHave n hv == 0) = false) := Lib.hid (by simp [h4])
      clear h4
      go_enter Try.func10, Try.ntmps10
      go_upto_region 3 with (first
        | (at_builtin; refine wpList_app rfl (.tmp 17) (.tmp 18) 49 rfl w.heap.size 87 5 40 stepl_app [] rfl (World.ownsRow_made w #[] 0 (Nat.le_refl _) (Nat.zero_le _) rfl) (rv cSt a) rfl HL1.out HN1.out (RdR.news cSt_len (HRA.out _ HBW.out)) (cSt_oneL a) hmx1 hbig1 hsw ?_; intro A1 c1 w1 hown1 hg1 hb1; rw [Nat.zero_add, List.nil_append] at hown1; have HO1 := Lib.hid hown1; have HB1 := Lib.hid (HBW.out.trans hb1); have hsw1 : w.heap.size ≤ w1.heap.size := HB1.out.size; clear hown1 hg1 hb1)
        | (at_builtin; refine wpList_app rfl (.tmp 19) (.tmp 20) 49 rfl w.heap.size 87 5 40 stepl_app (rv cSt a) (by first | rfl | simp) HO1.out (rv cSt b) rfl HL2.out HN2.out (RdR.news cSt_len (HRB.out _ HB1.out)) (cSt_oneL b) hmx2 hbig2 hsw1 ?_; intro A2 c2 w2 hown2 hg2 hb2; rw [← rv_append] at hown2; have HB2 := Lib.hid (HB1.out.trans hb2); have HCP := Lib.hid (own_capB hown2); have HAH := Lib.hid (ahead_any n A2 QA (la + lb) c2 ql qc (a ++ b) post w2 (own_rdR hown2 HLL.out) HLL.out (own_capB hown2) (by omega) (HRQ.out _ HB2.out) HQL.out H1.out H3.out); clear hown2 hg2 hb2 HO1)
        | (go_at_call 30; (with_reducible refine HAH.out.mono ?_); rintro e w3 ⟨T, TA, tc', rfl, hah, hrt, hb3⟩; have HD := Lib.hid hah; have HRT := Lib.hid hrt; have HB3 := Lib.hid (HB2.out.trans (hb3.mono HB2.out.size)); obtain ⟨tl, htl⟩ : ∃ tl, T.length = tl := ⟨_, rfl⟩; have HTL := Lib.hid htl; have htp : 0 < tl := (by rw [← htl]; exact hah.pos); have htf : tl ≤ 64 := (by rw [← htl]; exact hah.few); have htz : (tl == 0) = false := (by simp; omega); have htz2 : ((tl : Int) == 0) = false := (by simp; omega); rw [htl]; have HAB := Lib.hid (ahead_any n B QA lb cb ql qc b post w3 (HRB.out _ HB3.out) HLB.out hcb (by omega) (HRQ.out _ HB3.out) HQL.out H2.out H3.out); clear hah hrt hb3 htl HAH)
        | (go_at_call 30; (with_reducible refine HAB.out.mono ?_); rintro e w4 ⟨M, MA, mc', rfl, hbh, hrm, hb4⟩; have HE := Lib.hid hbh; have HRM := Lib.hid hrm; have HRT4 := Lib.hid ((HRT.out.below hb4 (Nat.le_refl _)).more hb4.size); have HB4 := Lib.hid (below_via HB3.out hb4); obtain ⟨ml, hml⟩ : ∃ ml, M.length = ml := ⟨_, rfl⟩; have HML := Lib.hid hml; have hmp : 0 < ml := (by rw [← hml]; exact hbh.pos); have hmf : ml ≤ 64 := (by rw [← hml]; exact hbh.few); have hmz : (ml == 0) = false := (by simp; omega); have hmz2 : ((ml : Int) == 0) = false := (by simp; omega); rw [hml]; clear hbh hrm hb4 hml HAB))
      go_wp2_with (go_at_call 26; (refine (HGV.out _ HB4.out).mono ?_); rw [HGB.out]; rintro e w5 ⟨rfl, rfl⟩)
      go_ret
      exact ⟨ret_bool (by simp), HB4.out⟩
  · have e1 : (ckW vars (a ++ b) [post] != 0) = true := by simp [hz]
    have HZ := Lib.hid hz
    clear hz
    go_enter Try.func10, Try.ntmps10
    go_wp2_with (first
      | (at_builtin; refine wpList_app rfl (.tmp 17) (.tmp 18) 49 rfl w.heap.size 87 5 40 stepl_app [] rfl (World.ownsRow_made w #[] 0 (Nat.le_refl _) (Nat.zero_le _) rfl) (rv cSt a) rfl HL1.out HN1.out (RdR.news cSt_len (HRA.out _ HBW.out)) (cSt_oneL a) hmx1 hbig1 hsw ?_; intro A1 c1 w1 hown1 hg1 hb1; rw [Nat.zero_add, List.nil_append] at hown1; have HO1 := Lib.hid hown1; have HB1 := Lib.hid (HBW.out.trans hb1); have hsw1 : w.heap.size ≤ w1.heap.size := HB1.out.size; clear hown1 hg1 hb1)
      | (at_builtin; refine wpList_app rfl (.tmp 19) (.tmp 20) 49 rfl w.heap.size 87 5 40 stepl_app (rv cSt a) (by first | rfl | simp) HO1.out (rv cSt b) rfl HL2.out HN2.out (RdR.news cSt_len (HRB.out _ HB1.out)) (cSt_oneL b) hmx2 hbig2 hsw1 ?_; intro A2 c2 w2 hown2 hg2 hb2; rw [← rv_append] at hown2; have HB2 := Lib.hid (HB1.out.trans hb2); have HCP := Lib.hid (own_capB hown2); have HAH := Lib.hid (ahead_bad vars A2 QA (la + lb) c2 ql qc (a ++ b) post w2 (own_rdR hown2 HLL.out) HLL.out (own_capB hown2) (by omega) (HRQ.out _ HB2.out) HQL.out HZ.out); clear hown2 hg2 hb2 HO1)
      | (go_at_call 30; (with_reducible refine HAH.out.mono ?_); rintro e w3 ⟨rfl, hb3⟩; have HB3 := Lib.hid (HB2.out.trans (hb3.mono HB2.out.size)); have HAB := Lib.hid (ahead_some vars B QA lb cb ql qc b post w3 (HRB.out _ HB3.out) HLB.out hcb (by omega) (HRQ.out _ HB3.out) HQL.out); clear hb3 HAH)
      | (go_at_call 30; (with_reducible refine HAB.out.mono ?_); rintro e w4 ⟨MA, mk, mc', rfl, hb4⟩; have HB4 := Lib.hid (below_via HB3.out hb4); clear hb4 HAB))
    go_ret
    exact ⟨ret_bool (by simp), HB4.out⟩

set_option maxRecDepth 100000 in
theorem lawWeakTwo_lifted (os : Os) (started : os.Started) (H : Type) (enc : TypeId × Value → H) (F : Stop.Interp) :
    ReturnsInHanded {} Try.checked os 10 .any ((Rows.OpenSpec.upto Rows.weakTwoSpec).pre6 enc Try.prog Try.f10 Rows.weakTwoUptoRow.domain false) (((Rows.OpenSpec.upto Rows.weakTwoSpec).at F).post enc Try.prog Try.f10 false true false false) := by
  refine returnsInHanded_of_cond_sized (C := Try.checked) (s := Rows.OpenSpec.upto Rows.weakTwoSpec) (k := Rows.uptoSmall) rfl Try.own started (by kernel_rfl) Try.func10
    (OpenSpec.witness (enc := enc) (C := Try.checked) (s := Rows.OpenSpec.upto Rows.weakTwoSpec) (k := Rows.uptoSmall) rfl false ⟨#[], #[.int .i64 0, .slice none 0 0, .slice none 0 0, .slice none 0 0, .slice none 0 0], []⟩ 8 (by kernel_rfl) (by kernel_rfl) (by kernel_rfl)
      (x := ([.lit (.int .i64 0), .nil, .nil, .nil, .nil], [], [])) (by kernel_rfl) rfl (by kernel_rfl)) ?_
  intro W base args ds gs before hval0 hW hcnd hk hsz _
  have hval : ∀ (j : Nat) t v, Try.f10.params[j]? = some t → args[j]? = some v → Value.okWide Try.prog W .any base t v := hval0
  have hW' := hW
  obtain ⟨p, q, hA0, hV, rfl, hfz, hnd⟩ := hW
  have hA : DataW.TrodAll enc Try.prog W 0 (fun _ => true) true Try.f10.params.toList args.toList ds p := hA0
  obtain ⟨hgs, _⟩ := trodVars_none hV
  rw [Try.params10] at hA hval
  obtain ⟨v0, vs0, d0, ds0, p0, q0, hargs, rfl, rfl, h0, r0⟩ := trodAll_cons hA
  obtain ⟨v1, vs1, d1, ds1, p1, q1, rfl, rfl, rfl, h1, r1⟩ := trodAll_cons r0
  obtain ⟨v2, vs2, d2, ds2, p2, q2, rfl, rfl, rfl, h2, r2⟩ := trodAll_cons r1
  obtain ⟨v3, vs3, d3, ds3, p3, q3, rfl, rfl, rfl, h3, r3⟩ := trodAll_cons r2
  obtain ⟨v4, vs4, d4, ds4, p4, q4, rfl, rfl, rfl, h4, r4⟩ := trodAll_cons r3
  obtain ⟨rfl, rfl, rfl⟩ := trodAll_nil r4
  have hargs2 : args = #[v0, v1, v2, v3, v4] := Array.toList_inj.1 hargs
  subst hargs2
  obtain ⟨a0, rfl, _, _, w0⟩ := open_int Try.underlying3 (hval 0 3 v0 rfl rfl) h0
  obtain ⟨A1, c1, l1, rfl, lc1, cm1, x1, r1⟩ := open_stepsB (hval 1 49 v1 rfl rfl) h1
  have b1 := len_reach Try.underlying49 (hval 1 49 _ rfl rfl) h1 hsz (j := 1) (by rw [Try.params10]; rfl) rfl
  rw [show Try.prog.bytesOf (Try.prog.elem 49) = 40 from by kernel_rfl] at b1
  obtain ⟨A2, c2, l2, rfl, lc2, cm2, x2, r2⟩ := open_stepsB (hval 2 49 v2 rfl rfl) h2
  have b2 := len_reach Try.underlying49 (hval 2 49 _ rfl rfl) h2 hsz (j := 2) (by rw [Try.params10]; rfl) rfl
  rw [show Try.prog.bytesOf (Try.prog.elem 49) = 40 from by kernel_rfl] at b2
  obtain ⟨A3, c3, l3, rfl, lc3, cm3, x3, r3⟩ := open_termsA (hval 3 50 v3 rfl rfl) h3
  have b3 := len_reach Try.underlying50 (hval 3 50 _ rfl rfl) h3 hsz (j := 3) (by rw [Try.params10]; rfl) rfl
  rw [show Try.prog.bytesOf (Try.prog.elem 50) = 32 from by kernel_rfl] at b3
  obtain ⟨A4, c4, l4, rfl, lc4, cm4, x4, r4⟩ := open_intsA (hval 4 39 v4 rfl rfl) h4
  have b4 := len_reach Try.underlying39 (hval 4 39 _ rfl rfl) h4 hsz (j := 4) (by rw [Try.params10]; rfl) rfl
  rw [show Try.prog.bytesOf (Try.prog.elem 39) = 8 from by kernel_rfl] at b4
  have t1 := len_bulk Try.underlying49 (hval 1 49 _ rfl rfl) h1 (Nat.le_trans (bulk_part (l := [d0, d1, d2, d3, d4] ++ gs) (by simp)) (of_decide_eq_true hk))
  have t2 := len_bulk Try.underlying49 (hval 2 49 _ rfl rfl) h2 (Nat.le_trans (bulk_part (l := [d0, d1, d2, d3, d4] ++ gs) (by simp)) (of_decide_eq_true hk))
  have t3 := len_bulk Try.underlying50 (hval 3 50 _ rfl rfl) h3 (Nat.le_trans (bulk_part (l := [d0, d1, d2, d3, d4] ++ gs) (by simp)) (of_decide_eq_true hk))
  have t4 := len_bulk Try.underlying39 (hval 4 39 _ rfl rfl) h4 (Nat.le_trans (bulk_part (l := [d0, d1, d2, d3, d4] ++ gs) (by simp)) (of_decide_eq_true hk))
  refine (lawWeakTwo_any a0 A1 A2 A3 A4 c1 c2 c3 c4 l1 l2 l3 l4 _ x1 t1 x2 lc2 t2 x3 x4 (by omega)).mono fun e W' ⟨he, hb⟩ => ?_
  subst he
  exact ⟨_, rfl, law_post Try.laidOut rfl (by kernel_rfl) Try.underlying4 ⟨rfl, rfl, rfl⟩ (by kernel_rfl) hW' hb⟩

theorem weakTwo_holds : Rows.WeakTwoUptoSaid :=
  OpenClaim.holds_of_cond 10 Try.f10 rfl rfl rfl rfl rfl rfl rfl ⟨rfl, rfl, rfl, rfl, rfl⟩ rfl rfl rfl rfl rfl (by kernel_rfl) Try.func10 (show joinedFacts Try.prog 10 Try.f10 (Rows.OpenSpec.upto Rows.weakTwoSpec).bare Rows.weakTwoUptoRow = true from (by unfold joinedFacts; (repeat' (with_reducible refine and_both ?_ ?_)) <;> first | (with_reducible exact may_enter) | ((with_reducible refine make_ok ?_); rfl) | ((with_reducible refine lifts_ok ?_); rfl) | kernel_rfl))
    (of_decide_eq_true (by kernel_rfl)) (by unfold Func.isWrapper; rw [if_neg (of_decide_eq_false (by kernel_rfl))]; exact ⟨rfl, rfl⟩)
    (fun os started H enc _ F => lawWeakTwo_lifted os started H enc F)

end Go.Proofs.Ytfhnhbkdhdocjaa
