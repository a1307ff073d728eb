/-
  weak.Holds (S1): its contract.
-/
import Derived.Test.YtggekjccblblpaaWeakAhead
import Derived.Test.YtggekjccblblpaaTermValue
namespace Go.Proofs.Ytggekjccblblpaa
open Go.RowKit
set_option linter.unusedSimpArgs false
set_option linter.unusedVariables false
set_option maxRecDepth 100000

/-- S1: Holds' code -/
def ckH (vars : Int) (pre : List Tm) (code : List St) (post : List Tm) (hv : List Int) : Int := if ckW vars code [pre, post] = 0 then ckHave vars hv else ckW vars code [pre, post]

/-- S1: what Holds tells -/
def hdB (pre : List Tm) (code : List St) (post : List Tm) (hv : List Int) : Bool := valT pre hv == 0 || valT post (doS code hv) != 0

/-- what Holds hands back beside the code -/
def hdR (vars : Int) (pre : List Tm) (code : List St) (post : List Tm) (hv : List Int) : Bool := if ckH vars pre code post hv = 0 then hdB pre code post hv else false

theorem ckW_parts {vars : Int} {code : List St} {pre post : List Tm} (h : ckW vars code [pre, post] = 0) : ckProg vars [bkS code] = 0 ∧ ckTerms vars pre = 0 ∧ ckTerms vars post = 0 := by
  unfold ckW at h
  split at h
  · rename_i h1
    unfold ckLs at h
    split at h
    · rename_i h2
      unfold ckLs at h
      split at h
      · rename_i h3; exact ⟨h1, h2, h3⟩
      · rename_i h3; exact absurd h h3
    · rename_i h2; exact absurd h h2
  · rename_i h1; exact absurd h h1

set_option maxHeartbeats 8000000 in
theorem holds_any (vars : Int) (A PA QA HA : Option Addr) (len cap pl pc ql qc hl hc : Nat) (code : List St) (pre post : List Tm) (hv : List Int) (w : World) (hx : RdS w w.heap.size A code) (hlen : code.length = len) (hcap : len ≤ cap) (hm : len * 40 ≤ 140737488351232)
    (hp : RdT w w.heap.size PA pre) (hpl : pre.length = pl) (hq : RdT w w.heap.size QA post) (hql : post.length = ql) (hh : RdI w w.heap.size HA hv) (hhl : hv.length = hl) (hhm : hl ≤ maxLen) :
    Calls Try.prog 15 #[.int .i64 vars, .slice PA pl pc, .slice A len cap, .slice QA ql qc, .slice HA hl hc] w fun e w' => e = .returned (.tuple #[.bool (hdR vars pre code post hv), .int .i64 (ckH vars pre code post hv)]) ∧ Below w.heap.size w w' := by
  have HB0 : Hid (Below w.heap.size w (w.alloc (.cells #[.slice PA pl pc, .slice QA ql qc] 23))) := Lib.hid (by go_grown)
  have HCK := Lib.hid (weakCheck_any vars A (some ⟨w.heap.size, 0, none⟩) len cap 2 2 code [(pre, PA, pc), (post, QA, qc)] (w.alloc (.cells #[.slice PA pl pc, .slice QA ql qc] 23)) ((RdS.below hx HB0.out (Nat.le_refl _)).more HB0.out.size) hlen hcap hm
    (rdLs_own (t := 23) (by rw [← hpl, ← hql]; exact Own.new w _ _) (fun x hx => by
      simp at hx
      rcases hx with rfl | rfl
      · exact (hp.below HB0.out (Nat.le_refl _)).more HB0.out.size
      · exact (hq.below HB0.out (Nat.le_refl _)).more HB0.out.size)) rfl (by omega))
  by_cases h1 : ckW vars code [pre, post] = 0
  · obtain ⟨hcp, hc1, hc2⟩ := ckW_parts h1
    have HW0 := Lib.hid h1
    have HCP := Lib.hid hcp
    have HC1 := Lib.hid hc1
    have HC2 := Lib.hid hc2
    have HRP := Lib.hid (fun (Z : World) (hZ : Below w.heap.size w Z) => value_any vars PA HA pl pc hl hc pre hv Z ((hp.below hZ (Nat.le_refl _)).more hZ.size) ((hh.below hZ (Nat.le_refl _)).more hZ.size) hpl hhl hhm)
    have HCV : Hid (ckVal vars pre hv = ckHave vars hv) := Lib.hid (by unfold ckVal; rw [if_pos hc1])
    have HH : Hid (ckH vars pre code post hv = ckHave vars hv) := Lib.hid (by unfold ckH; rw [if_pos h1])
    by_cases h2 : ckHave vars hv = 0
    · have HH0 := Lib.hid h2
      obtain ⟨n, rfl, hn1, hn6⟩ := ckProg_nat hcp
      have hvo := valsOk_of h2
      have hln : hl = n := by rw [← hhl]; exact hvo.1
      subst hln
      have HVO := Lib.hid hvo
      have HVR : Hid (valR hl pre hv = valT pre hv) := Lib.hid (by unfold valR; rw [if_pos (by rw [HCV.out]; exact h2)])
      have HPG := Lib.hid (fun (Z : World) (hZ : Below w.heap.size w Z) => program_any A len cap code Z ((RdS.below hx hZ (Nat.le_refl _)).more hZ.size) hlen hcap)
      have HRH := Lib.hid (fun (Z : World) (hZ : Below w.heap.size w Z) => (hh.below hZ (Nat.le_refl _)).more hZ.size)
      have HRQ := Lib.hid (fun (Z : World) (hZ : Below w.heap.size w Z) => (hq.below hZ (Nat.le_refl _)).more hZ.size)
      have HQL := Lib.hid hql
      have hdo := doS_ok (ckProg_at hcp (k := 0) (b := bkS code) rfl).code hvo
      have HDO := Lib.hid hdo
      have HDV : Hid (valR hl post (doS code hv) = valT post (doS code hv) ∧ ckVal hl post (doS code hv) = 0) := Lib.hid (by
        have : ckVal hl post (doS code hv) = 0 := ckVal_of hc2 (ckHave_vals hdo)
        exact ⟨by unfold valR; rw [if_pos this], this⟩)
      have HDL : Hid ((doS code hv).length = hl) := Lib.hid hdo.1
      have HRES : Hid (hdR hl pre code post hv = (valT pre hv == 0 || valT post (doS code hv) != 0)) := Lib.hid (by unfold hdR; rw [HH.out, if_pos h2]; rfl)
      rw [HH.out, h2, HRES.out]
      clear hx hlen hp hpl hq hql hh hhl h1 h2 hcp hc1 hc2 hvo hdo
      obtain ⟨x1, hx1⟩ : ∃ x1, valT pre hv = x1 := ⟨_, rfl⟩
      obtain ⟨x2, hx2⟩ : ∃ x2, valT post (doS code hv) = x2 := ⟨_, rfl⟩
      rw [hx1] at HVR ⊢
      rw [hx2] at HDV ⊢
      clear hx1 hx2
      rcases Decidable.em (x1 = 0) with hz | hz
      all_goals
        have HZ := Lib.hid hz
        first | subst hz | (have e2 : (x1 == 0) = false := (by simp [hz]); clear hz)
        go_enter Try.func15, Try.ntmps15
        go_wp2_with (first
          | (go_at_call 18; (with_reducible refine HCK.out.mono ?_); rintro e w1 ⟨rfl, hb1⟩; simp only [List.map_cons, List.map_nil]; rw [HW0.out]; have HB1 := Lib.hid (below_via HB0.out hb1); clear hb1)
          | (go_at_call 22; (refine (HPG.out _ HB2.out).mono ?_); rintro e w3 ⟨G, rfl, hp3, hb3⟩; have HP3 := Lib.hid hp3; have HB3 := Lib.hid (below_via HB2.out hb3); clear hp3 hb3)
          | (go_at_call 29; (refine (blockIs.run hl (some ⟨G, 0, none⟩) HA 1 1 hc [bkS code] hv _ HP3.out (HRH.out _ HB3.out) rfl HCP.out HVO.out).mono ?_); rw [goP_one rfl rfl hv]; rintro e w4 ⟨hr, hb4⟩; obtain ⟨hr0, _⟩ | ⟨xs, l4, A4, A5, c4, c5, hr0, rfl, hr4, _⟩ := hr <;> (first | (cases hr0; done) | (injection hr0 with hr0; injection hr0 with hr1 hr2; subst hr1 hr2; have HR4 := Lib.hid hr4; have HB4 := Lib.hid (below_via HB3.out hb4); have HDL4 : Hid ((doS (bkS code).code hv).length = hl) := HDL; rw [HDL4.out]; clear hr4 hb4)))
          | (go_at_call 28; (refine (HRP.out _ HB1.out).mono ?_); rw [HVR.out, HCV.out, HH0.out]; rintro e w2 ⟨rfl, hb2⟩; have HB2 := Lib.hid (below_via HB1.out hb2); clear hb2 HRP)
          | (go_at_call 28; (refine (value_any hl QA A4 ql qc hl c4 post (doS code hv) _ (HRQ.out _ HB4.out) HR4.out HQL.out HDL.out hhm).mono ?_); rw [HDV.out.1, HDV.out.2]; rintro e w5 ⟨rfl, hb5⟩; have HB5 := Lib.hid (below_via HB4.out hb5); clear hb5))
        go_returns
        exact ⟨by first | rfl | simp [HZ.out], HB5.out⟩
    · have e1 : (ckHave vars hv != 0) = true := by simp [h2]
      have HRES : Hid (hdR vars pre code post hv = false) := Lib.hid (by unfold hdR; rw [HH.out, if_neg h2])
      rw [HH.out, HRES.out]
      clear hx hlen hp hpl hq hql hh hhl h1 h2 hcp hc1 hc2
      go_enter Try.func15, Try.ntmps15
      go_wp2_with (first
        | (go_at_call 18; (with_reducible refine HCK.out.mono ?_); rintro e w1 ⟨rfl, hb1⟩; simp only [List.map_cons, List.map_nil]; rw [HW0.out]; have HB1 := Lib.hid (below_via HB0.out hb1); clear hb1)
        | (go_at_call 28; (refine (HRP.out _ HB1.out).mono ?_); rw [HCV.out]; rintro e w2 ⟨rfl, hb2⟩; have HB2 := Lib.hid (below_via HB1.out hb2); clear hb2))
      go_returns
      exact ⟨rfl, HB2.out⟩
  · have e1 : (ckW vars code [pre, post] != 0) = true := by simp [h1]
    have HH : Hid (ckH vars pre code post hv = ckW vars code [pre, post]) := Lib.hid (by unfold ckH; rw [if_neg h1])
    have HRES : Hid (hdR vars pre code post hv = false) := Lib.hid (by unfold hdR; rw [HH.out, if_neg h1])
    rw [HH.out, HRES.out]
    clear hx hlen hp hpl hq hql hh hhl h1
    go_enter Try.func15, Try.ntmps15
    go_wp2_with (go_at_call 18; (with_reducible refine HCK.out.mono ?_); rintro e w1 ⟨rfl, hb1⟩; simp only [List.map_cons, List.map_nil])
    go_returns
    exact ⟨rfl, below_via HB0.out hb1⟩

end Go.Proofs.Ytggekjccblblpaa
