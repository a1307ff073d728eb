/-
  For any tasks plan.Levels returns the level of each, or the first error (Q1).
-/
import Derived.Test.YthmcigdoaededaaLawColor
import Derived.Test.YthmcigdoaededaaPlanIs
import Derived.Test.YthmcigdoaededaaLevelRef
import Derived.Test.YthmcigdoaededaaPlanLev
import Derived.Test.YthmcigdoaededaaRegionSteps
namespace Go.Proofs.Ythmcigdoaededaa
open Go.RowKit Go.ChangeShapes Go.WideShapes Go.ChangeAt Go.Deep
set_option linter.unusedSimpArgs false
set_option linter.unusedVariables false
set_option maxRecDepth 100000

theorem lvs_at {n i : Nat} {ps : List (Nat × Nat)} (h : i < n) : (ni ((List.range n).map (lvT n ps)))[i]? = some ((lvT n ps i : Nat) : Int) := ni_at (by rw [List.getElem?_map, List.getElem?_range h]; rfl)

set_option maxHeartbeats 8000000 in
theorem lawPlanLevels_any (V : LevelsIs) (n : Int) (A : Option Addr) (cap : Nat) (l : List (Int × Int)) (w : World) (hx : RdM w w.heap.size A l) (hm : l.length ≤ maxLen) :
    Calls Try.prog 3 #[.int .i64 n, .slice A l.length cap] w fun e w' => e = .returned (.bool true) ∧ Below w.heap.size w w' := by
  have HM := Lib.hid hm
  clear hm
  obtain ⟨z, hz⟩ := tk_ex n l
  obtain ⟨len, hlen⟩ : ∃ len, l.length = len := ⟨_, rfl⟩
  have HL := Lib.hid hlen
  have HZ := Lib.hid hz
  by_cases hc : z = 0
  · subst hc
    obtain ⟨m, ps, rfl, rfl, hok⟩ := hz.zero
    have HOK := Lib.hid hok
    have hm8 := hok.small
    have hpl : ps.length = len := by rw [← hlen, mvI_len]
    have HPL := Lib.hid hpl
    have hl28 : len ≤ 28 := by rw [← hpl]; exact hok.short
    rw [hlen] at HM ⊢
    clear hok hz hlen hpl
    go_enter Try.func3, Try.ntmps3
    go_wp2_with fail
    refine (V.ok m A len cap ps _ hx HPL.out HOK.out).mono ?_
    rintro e w1 ⟨⟨A1, c1, rfl, hrd⟩, hb1⟩
    have hx1 := (hx.below hb1 (Nat.le_refl _)).more hb1.size
    have HRD := Lib.hid hrd
    have hs1 := hb1.size
    clear hrd
    go_wp2_with fail
    refine (tasksCheck_any m A len cap (mvI ps) _ hx1 HL.out HM.out).mono ?_
    rintro e w2 ⟨⟨z2, hz2, rfl⟩, hb2⟩
    obtain rfl := HZ.out.same hz2
    have hb12 : Below w.heap.size w w2 := hb1.trans (hb2.mono hs1)
    have hs2 := hb12.size
    have HRD2 := Lib.hid ((HRD.out.below hb2 (Nat.le_refl _)).more hb2.size)
    clear hz2
    go_wp2
    go_loopw [8] (fun i wr => ∃ k : Nat, k ≤ m ∧ i = .int .i64 k ∧ Below w2.heap.size w2 wr) (fun i _ => m - (intOf i).toNat)
    case atStart => exact ⟨0, Nat.zero_le _, rfl, Below.refl _ _⟩
    case round =>
      obtain ⟨k, hk, rfl, hb3⟩ := hrel
      have hs3 := hb3.size
      have hb13 : Below w.heap.size w wr := hb12.trans (hb3.mono hs2)
      by_cases hkm : k < m
      · obtain ⟨ad, x, rfl, hbl, hxk, hcx⟩ := (HRD2.out.below hb3 (Nat.le_refl _)).at_ (k := k) (by simp [ni]; exact hkm)
        rw [lvs_at hkm] at hxk
        injection hxk with hxk
        subst hxk
        have HX := Lib.hid ((hx.below hb13 (Nat.le_refl _)).more hb13.size)
        have HBH : Hid (∀ w', Below wr.heap.size wr w' → w'.heap.size = wr.heap.size → Calls Try.prog 13 #[.int .i64 m, .slice A len cap] w' fun e w4 => ∃ cs, e = .returned (.slice (some ⟨wr.heap.size, 0, none⟩) m m) ∧ RowsO w4 wr.heap.size (bhG m ps) cs ∧ Below wr.heap.size w' w4) := Lib.hid fun w' hb' hsz' => by
          have := behinds_any m A len cap ps w' ((HX.out.below hb' (Nat.le_refl _)).more hb'.size) HPL.out hl28 HOK.out.pos hm8 HOK.out.ins
          rw [hsz'] at this
          exact this
        have HLV : Hid (∀ w4 cs, RowsO w4 wr.heap.size (bhG m ps) cs → Calls Try.prog 12 #[.slice (some ⟨wr.heap.size, 0, none⟩) m m, .int .i64 k] w4 fun e w5 => e = .returned (.int .i64 (lvT m ps k : Nat)) ∧ w4 = w5) := Lib.hid fun w4 cs hro => level_any m m _ _ ps HOK.out _ k w4 hkm (Nat.le_refl _) hro.rd
        obtain ⟨lv, hlv⟩ : ∃ lv, lvT m ps k = lv := ⟨_, rfl⟩
        rw [hlv] at HLV hcx
        have HCX := Lib.hid hcx
        have HAD := Lib.hid hbl
        clear hlv hcx hbl
        obtain ⟨G, hGe⟩ : ∃ G, wr.heap.size = G := ⟨_, rfl⟩
        have HGE := Lib.hid hGe
        obtain ⟨wo, rfl⟩ : ∃ wo : World, wo = wr := ⟨_, rfl⟩
        rw [hGe] at HBH HLV
        clear hGe
        go_wp2
        refine wp_region_steps (X := Nat × (Nat)) (fun x w' => Below wo.heap.size wo w' ∧ (x.1 = 0 → w'.heap.size = G) ∧ (1 ≤ x.1 → ∃ cs, RowsO w' G (bhG m ps) cs)) (fun x j => doneL [0, 0, 0, 0, 0, 0, 1, 0, 2, 0] x.1 j) (effL [0, 0, 0, 0, 0, 0, 1, 0, 2, 0]) (0, 0) (fun x => [.slice (some ad) m c1, .int .i64 (k : Nat), .pointer (some (ad.add k)), .int .i64 (lv : Nat), .int .i64 (m : Nat), .slice A len cap, .slice (some ⟨G, 0, none⟩) m m, .int .i64 (k : Nat), .int .i64 (lv : Nat), .bool false]) _ (by kernel_rfl) (by kernel_rfl) (by kernel_rfl) (fun x => by simp only [putsD, Act.put, List.setIfInBounds_toArray, List.set_cons_zero, List.set_cons_succ]; exact rfl) h0L ⟨Below.drew (Below.refl _ _), fun _ => HGE.out, fun h => absurd h (by decide)⟩ (fun x => ?_) (fun x wz hDz hSz => ?_)
        · refine AllS.val (by rfl) (by rfl) (fun w hSw hPw => by go_simp) ?_
          refine AllS.val (by rfl) (by rfl) (fun w hSw hPw => by go_simp) ?_
          refine AllS.val (by rfl) (by rfl) (fun w hSw hPw => by go_simp) ?_
          refine AllS.val (by rfl) (by rfl) (fun w hSw hPw => ?_) ?_
          · (try dsimp only at hSw)
            have hc := (hSw.1.cell (p := ad.add k) (by have := HAD.out; omega)).trans HCX.out
            go_simp
          refine AllS.val (by rfl) (by rfl) (fun w hSw hPw => by go_simp) ?_
          refine AllS.val (by rfl) (by rfl) (fun w hSw hPw => by go_simp) ?_
          refine AllS.turn (fun _ _ => rfl) (by rfl) (fun w hSw hPw K hK => ?_) ?_
          · (try dsimp only at hSw)
            have h0 := leL (hPw.me rfl)
            have hx0 : x.1 = 0 := Nat.le_zero.1 h0
            have hz0 := hSw.2.1 hx0
            go_simp
            go_at_call 13
            (with_reducible refine (HBH.out _ (by rw [← HGE.out]; exact hSw.1) hz0).mono ?_)
            rintro e w7 ⟨cs, rfl, hro, hb7⟩
            go_simp
            obtain ⟨p, y⟩ := x
            (try dsimp only at hx0)
            subst hx0
            exact hK (1, y) _ (nxtL rfl (by decide)) ⟨hSw.1.trans (by rw [HGE.out]; exact hb7), fun h => absurd h (by simp), fun _ => ⟨cs, hro⟩⟩
          refine AllS.val (by rfl) (by rfl) (fun w hSw hPw => by go_simp) ?_
          refine AllS.turn (fun _ _ => rfl) (by rfl) (fun w hSw hPw K hK => ?_) ?_
          · (try dsimp only at hSw)
            have h0 := leL (hPw.me rfl)
            have h1 := geL (hPw.need (k := 6) rfl (by kernel_rfl))
            have hx0 : x.1 = 1 := Nat.le_antisymm h0 h1
            obtain ⟨cs, hro⟩ := hSw.2.2 h1
            go_simp
            go_at_call 12
            (with_reducible refine (HLV.out _ cs hro).mono ?_)
            rintro e w7 ⟨rfl, rfl⟩
            go_simp
            obtain ⟨p, y⟩ := x
            (try dsimp only at hx0)
            subst hx0
            exact hK (2, y) _ (nxtL rfl (by decide)) ⟨hSw.1, fun h => absurd h (by simp), fun _ => ⟨cs, hro⟩⟩
          refine AllS.val (by rfl) (by rfl) (fun w hSw hPw => by go_simp) ?_
          exact AllS.nil
        have hbz := hSz.1
        clear hSz hDz
        go_wp2
        go_round
        case rel => exact ⟨k + 1, by omega, by go_num, hb3.trans (hbz.mono hs3)⟩
        case measure => (simp [intOf]; omega)
      · have hkm2 : k = m := by omega
        subst hkm2
        go_wp2
        go_ret
        exact ⟨ret_bool (by simp), hb13⟩
  · have hm := HM.out
    rw [hlen] at hm ⊢
    have hne : (z != 0) = true := by simpa using hc
    have HMM := Lib.hid hm
    have HCZ := Lib.hid hc
    clear hz hlen hm hc
    go_enter Try.func3, Try.ntmps3
    go_wp2_with fail
    refine (V.bad n A len cap l z _ hx HL.out HMM.out HZ.out HCZ.out).mono ?_
    rintro e w1 ⟨rfl, hb1⟩
    have hx1 := (hx.below hb1 (Nat.le_refl _)).more hb1.size
    go_wp2_with fail
    refine (tasksCheck_any n A len cap l _ hx1 HL.out HMM.out).mono ?_
    rintro e w2 ⟨⟨z2, hz2, rfl⟩, hb2⟩
    obtain rfl := HZ.out.same hz2
    clear hz2
    go_wp2
    go_ret
    exact ⟨ret_bool (by simp), hb1.trans (hb2.mono hb1.size)⟩

set_option maxRecDepth 100000 in
theorem lawPlanLevels_lifted (os : Os) (started : os.Started) (H : Type) (enc : TypeId × Value → H) :
    ReturnsInHanded {} Try.checked os 3 .any (Rows.planLevelsSpec.pre6 enc Try.prog Try.f3 Rows.planLevelsRow.domain false) (Rows.planLevelsSpec.post enc Try.prog Try.f3 false true false false) := by
  refine returnsInHanded_of_change_sized (C := Try.checked) Try.own started (by kernel_rfl) Try.func3
    (ChangeSpec.witness6 (enc := enc) (C := Try.checked) false ⟨#[], #[.int .i64 0, .slice none 0 0], []⟩ 8 (by kernel_rfl) (by kernel_rfl) (by kernel_rfl) (by kernel_rfl)) ?_
  intro W base args ds gs before hval0 hW hcnd hsz _
  have hval : ∀ (j : Nat) t v, Try.f3.params[j]? = some t → args[j]? = some v → Value.okWide Try.prog W .any base t v := hval0
  have hW' := hW
  obtain ⟨p, q, hA0, hV, rfl, hfz, hnd⟩ := hW
  have hA : DataW.TrodAll enc Try.prog W 0 (fun _ => true) true Try.f3.params.toList args.toList ds p := hA0
  obtain ⟨hgs, _⟩ := trodVars_none hV
  rw [Try.params3] at hA hval
  obtain ⟨v0, vs0, d0, ds0, p0, q0, hargs, rfl, rfl, h0, r0⟩ := trodAll_cons hA
  obtain ⟨v1, vs1, d1, ds1, p1, q1, rfl, rfl, rfl, h1, r1⟩ := trodAll_cons r0
  obtain ⟨rfl, rfl, rfl⟩ := trodAll_nil r1
  have hargs2 : args = #[v0, v1] := Array.toList_inj.1 hargs
  subst hargs2
  obtain ⟨a0, rfl, _, _, w0⟩ := open_int Try.underlying3 (hval 0 3 v0 rfl rfl) h0
  obtain ⟨A1, c1, l1, rfl, lc1, cm1, x1, r1⟩ := open_pairsA (hval 1 22 v1 rfl rfl) h1
  have b1 := len_reach Try.underlying22 (hval 1 22 _ rfl rfl) h1 hsz (j := 1) (by rw [Try.params3]; rfl) rfl
  rw [show Try.prog.bytesOf (Try.prog.elem 22) = 16 from by kernel_rfl] at b1
  refine (lawPlanLevels_any levelsIs a0 A1 c1 l1 _ x1 (by omega)).mono fun e W' ⟨he, hb⟩ => ?_
  subst he
  exact ⟨_, rfl, law_post Try.laidOut rfl (by kernel_rfl) Try.underlying4 ⟨rfl, rfl, rfl⟩ (by kernel_rfl) hW' hb⟩

theorem planLevels_holds : Rows.PlanLevelsSaid :=
  OpenClaim.holds_of_wide 3 Try.f3 rfl rfl rfl rfl rfl rfl rfl ⟨rfl, rfl, rfl, rfl, rfl⟩ rfl rfl rfl rfl rfl (by kernel_rfl) Try.func3 (show joinedFacts Try.prog 3 Try.f3 Rows.planLevelsSpec Rows.planLevelsRow = true from (by unfold joinedFacts; (repeat' (with_reducible refine and_both ?_ ?_)) <;> first | (with_reducible exact may_enter) | ((with_reducible refine make_ok ?_); rfl) | ((with_reducible refine lifts_ok ?_); rfl) | kernel_rfl))
    (of_decide_eq_true (by kernel_rfl)) (by unfold Func.isWrapper; rw [if_neg (of_decide_eq_false (by kernel_rfl))]; exact ⟨rfl, rfl⟩)
    (fun os started H enc _ => lawPlanLevels_lifted os started H enc)

end Go.Proofs.Ythmcigdoaededaa
