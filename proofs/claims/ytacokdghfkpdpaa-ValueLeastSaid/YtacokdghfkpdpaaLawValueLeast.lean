/-
  The least terms stand for the same, no two of them are congruent, and least again they are as they were, for all arguments: codemasonkeep.ValueLeast returns true and leaves its arguments alone. No condition.
-/
import Derived.Test.YtacokdghfkpdpaaValue
import Derived.Test.YtacokdghfkpdpaaTermValue
import Derived.Test.YtacokdghfkpdpaaTermsSame
import Derived.Test.YtacokdghfkpdpaaTermed
import Derived.Test.YtacokdghfkpdpaaLaw
namespace Go.Proofs.Ytacokdghfkpdpaa
open Go.RowKit Go.ChangeShapes Go.WideShapes Go.ChangeAt Go.Deep
set_option linter.unusedSimpArgs false
set_option linter.unusedVariables false
set_option maxRecDepth 100000

set_option maxHeartbeats 8000000 in
theorem lawValueLeast_any (vars : Int) (A XA : Option Addr) (cap xc : Nat) (l : List Tm) (xs : List Int) (w : World) (hx : RdT w w.heap.size A l) (hh : RdI w w.heap.size XA xs) (hxm : xs.length * 8 ≤ 140737488351232) :
    Calls Try.prog 7 #[.int .i64 vars, .slice A l.length cap, .slice XA xs.length xc] w fun e w' => e = .returned (.bool true) ∧ Below w.heap.size w w' := by
  generalize hl : l.length = len at *
  generalize hnx : xs.length = nx at *
  have HL := Lib.hid hl
  have HX := Lib.hid hnx
  have hm : nx ≤ maxLen := by unfold maxLen; omega
  by_cases hc : ckTerms vars l = 0
  · have HC := Lib.hid hc
    have e0 : (ckTerms vars l == 0) = true := by simp [hc]
    have hbd := ckTerms_bd hc
    have hla := ls_len hc
    have HA := Lib.hid (ls_ck hc)
    have HT := Lib.hid (ls_twice hc)
    have HVL := Lib.hid (ls_val hc xs)
    have HNO : Hid (∀ i j : Nat, i < (lsL l).length → j < i → sameR vars (lsL l) i j = false ∧ ckSame vars (lsL l) i j = 0) := Lib.hid fun i j hi hj => by
      have h0 : ckSame vars (lsL l) i j = 0 := ckSame_of (ls_ck hc) ⟨by omega, by omega⟩ ⟨by omega, by omega⟩
      refine ⟨?_, h0⟩
      rw [sameR_of h0]
      simp only [Int.toNat_natCast, decide_eq_false_iff_not]
      exact ls_no hc hi hj
    obtain ⟨a, ha⟩ : ∃ a, lsL l = a := ⟨_, rfl⟩
    have HEA := Lib.hid ha
    rw [ha] at hla HA HT HVL HNO
    obtain ⟨n, hn⟩ : ∃ n, a.length = n := ⟨_, rfl⟩
    have HN := Lib.hid hn
    rw [hl] at hla
    rw [hn] at hla HNO
    have hmn : n ≤ maxLen := by unfold maxLen; omega
    have hn16 : n ≤ 16 := by omega
    clear hc hl hnx ha hn hbd
    go_enter Try.func7, Try.ntmps7
    go_wp2_with fail
    refine (vleast_ok vars A len cap l _ hx HL.out HC.out).mono ?_
    rw [HEA.out, HN.out]
    rintro e w1 ⟨A1, c1, rfl, hr1, hb1⟩
    go_wp2_with fail
    refine (termed_any vars A len cap l _ ((hx.below hb1 (Nat.le_refl _)).more hb1.size) HL.out).mono ?_
    rintro e w2 ⟨rfl, hb2⟩
    rw [e0]
    have hB2 := hb1.trans (hb2.mono hb1.size)
    have hr2 := (hr1.below hb2 (Nat.le_refl _)).more hb2.size
    go_wp2_with fail
    refine (vleast_ok vars A1 n c1 a _ hr2 HN.out HA.out).mono ?_
    rw [HT.out, HN.out]
    rintro e w3 ⟨A3, c3, rfl, hr3, hb3⟩
    have hB3 := hB2.trans (hb3.mono hB2.size)
    have hr13 := (hr2.below hb3 (Nat.le_refl _)).more hb3.size
    have hnl : ¬ (len : Int) < (n : Int) := by omega
    have hnl2 : ¬ len < n := by omega
    have hnl3 : decide (len < n) = false := by simp; omega
    go_wp2_with fail
    refine (terms_same A1 A3 n c1 c3 a _ hr13 hr3 HN.out hmn).mono ?_
    rintro e w4 ⟨rfl, hb4⟩
    have hB4 := hB3.trans (hb4.mono hB3.size)
    have hr14 := (hr13.below hb4 (Nat.le_refl _)).more hb4.size
    clear hb1 hb2 hb3 hb4 hr1 hr2 hr13 hr3
    go_wp2_with fail
    go_loopw [11] (fun z wr => ∃ i : Nat, i ≤ n ∧ z = .int .i64 i ∧ Below w4.heap.size w4 wr) (fun z _ => n - (intOf z).toNat)
    case atStart => exact ⟨0, Nat.zero_le _, rfl, Below.refl _ _⟩
    case round =>
      obtain ⟨i, hi, rfl, hb⟩ := hrel
      have hsz := hb.size
      by_cases hlt : i < n
      · obtain ⟨wo, rfl⟩ : ∃ wo : World, wo = wr := ⟨_, rfl⟩
        go_wp2
        go_loopw [12] (fun z wi => ∃ j : Nat, j ≤ i ∧ z = .int .i64 j ∧ Below wo.heap.size wo wi) (fun z _ => i - (intOf z).toNat)
        case atStart => exact ⟨0, Nat.zero_le _, rfl, Below.refl _ _⟩
        case round =>
          obtain ⟨j, hj, rfl, hbi⟩ := hrel
          obtain ⟨wi, rfl⟩ : ∃ wi : World, wi = wr := ⟨_, rfl⟩
          have hbw := hb.trans (hbi.mono hsz)
          by_cases hjl : j < i
          · have HQ := Lib.hid (HNO.out i j hlt hjl)
            go_wp2_with fail
            refine (vsame_any vars i j A1 n c1 a _ ((hr14.below hbw (Nat.le_refl _)).more hbw.size) HN.out).mono ?_
            rintro e w6 ⟨rfl, hb6⟩
            rw [HQ.out.1, HQ.out.2]
            go_wp2_with fail
            go_round
            case rel =>
              exact ⟨j + 1, by omega, by go_num, hbi.trans (hb6.mono hbi.size)⟩
            case measure => (simp [intOf]; omega)
          · go_wp2
            go_round
            case rel => exact ⟨i + 1, by omega, by go_num, hbw⟩
            case measure => (simp [intOf]; omega)
      · have hB5 := hB4.trans (hb.mono hB4.size)
        have hh5 := (hh.below hB5 (Nat.le_refl _)).more hB5.size
        have hx5 := (hx.below hB5 (Nat.le_refl _)).more hB5.size
        have hr5 := (hr14.below hb (Nat.le_refl _)).more hsz
        by_cases hv : ckHave vars xs = 0
        · have HH := Lib.hid hv
          have e1 : (ckHave vars xs == 0) = true := by simp [hv]
          have HV1 : Hid (ckVal vars l xs = 0 ∧ valR vars l xs = valT l xs) := Lib.hid (by
            have h := ckVal_of HC.out hv
            refine ⟨h, ?_⟩
            unfold valR
            rw [if_pos h])
          have HV2 : Hid (ckVal vars a xs = 0 ∧ valR vars a xs = valT l xs) := Lib.hid (by
            have h := ckVal_of HA.out hv
            refine ⟨h, ?_⟩
            unfold valR
            rw [if_pos h, HVL.out])
          clear hv
          go_wp2_with fail
          refine (given_any vars XA nx xc xs _ _ hh5 HX.out hm).mono ?_
          rintro e w6 ⟨rfl, rfl⟩
          rw [e1]
          go_wp2_with fail
          refine (value_any vars A XA len cap nx xc l xs _ hx5 hh5 HL.out HX.out hm).mono ?_
          rintro e w7 ⟨rfl, hb7⟩
          rw [HV1.out.1, HV1.out.2]
          go_wp2_with fail
          refine (value_any vars A1 XA n c1 nx xc a xs _ ((hr5.below hb7 (Nat.le_refl _)).more hb7.size) ((hh5.below hb7 (Nat.le_refl _)).more hb7.size) HN.out HX.out hm).mono ?_
          rintro e w8 ⟨rfl, hb8⟩
          rw [HV2.out.1, HV2.out.2]
          go_wp2_with fail
          go_ret
          exact ⟨ret_bool (by simp), hB5.trans ((hb7.trans (hb8.mono hb7.size)).mono hB5.size)⟩
        · have e1 : (ckHave vars xs == 0) = false := by simp [hv]
          clear hv
          go_wp2_with fail
          refine (given_any vars XA nx xc xs _ _ hh5 HX.out hm).mono ?_
          rintro e w6 ⟨rfl, rfl⟩
          rw [e1]
          go_wp2_with fail
          go_ret
          exact ⟨ret_bool (by simp), hB5⟩
  · have HC := Lib.hid hc
    have e0 : (ckTerms vars l == 0) = false := by simp [hc]
    have e3 : (ckTerms vars l != 0) = true := by simp [hc]
    clear hc hl hnx
    go_enter Try.func7, Try.ntmps7
    go_wp2_with fail
    refine (vleast_bad vars A len cap l _ hx HL.out HC.out).mono ?_
    rintro e w1 ⟨rfl, hb1⟩
    go_wp2_with fail
    refine (termed_any vars A len cap l _ ((hx.below hb1 (Nat.le_refl _)).more hb1.size) HL.out).mono ?_
    rintro e w2 ⟨rfl, hb2⟩
    rw [e0]
    go_wp2_with fail
    go_ret
    exact ⟨ret_bool (by simp), hb1.trans (hb2.mono hb1.size)⟩

set_option maxRecDepth 100000 in
theorem lawValueLeast_lifted (os : Os) (started : os.Started) (H : Type) (enc : TypeId × Value → H) :
    ReturnsInHanded {} Try.checked os 7 .any (Rows.valueLeastSpec.pre6 enc Try.prog Try.f7 Rows.valueLeastRow.domain false) (Rows.valueLeastSpec.post enc Try.prog Try.f7 false true false false) := by
  refine returnsInHanded_of_change_sized (C := Try.checked) Try.own started (by kernel_rfl) Try.func7
    (ChangeSpec.witness6 (enc := enc) (C := Try.checked) false ⟨#[], #[.int .i64 0, .slice none 0 0, .slice none 0 0], []⟩ 8 (by kernel_rfl) (by kernel_rfl) (by kernel_rfl) (by kernel_rfl)) ?_
  intro W base args ds gs before hval0 hW hcnd hsz _
  have hval : ∀ (j : Nat) t v, Try.f7.params[j]? = some t → args[j]? = some v → Value.okWide Try.prog W .any base t v := hval0
  have hW' := hW
  obtain ⟨p, q, hA0, hV, rfl, hfz, hnd⟩ := hW
  have hA : DataW.TrodAll enc Try.prog W 0 (fun _ => true) true Try.f7.params.toList args.toList ds p := hA0
  obtain ⟨hgs, _⟩ := trodVars_none hV
  rw [Try.params7] at hA hval
  obtain ⟨v0, vs0, d0, ds0, p0, q0, hargs, rfl, rfl, h0, r0⟩ := trodAll_cons hA
  obtain ⟨v1, vs1, d1, ds1, p1, q1, rfl, rfl, rfl, h1, r1⟩ := trodAll_cons r0
  obtain ⟨v2, vs2, d2, ds2, p2, q2, rfl, rfl, rfl, h2, r2⟩ := trodAll_cons r1
  obtain ⟨rfl, rfl, rfl⟩ := trodAll_nil r2
  have hargs2 : args = #[v0, v1, v2] := Array.toList_inj.1 hargs
  subst hargs2
  obtain ⟨a0, rfl, _, _, w0⟩ := open_int Try.underlying3 (hval 0 3 v0 rfl rfl) h0
  obtain ⟨A1, c1, l1, rfl, lc1, cm1, x1, r1⟩ := open_termsA (hval 1 22 v1 rfl rfl) h1
  have b1 := len_reach Try.underlying22 (hval 1 22 _ rfl rfl) h1 hsz (j := 1) (by rw [Try.params7]; rfl) rfl
  rw [show Try.prog.bytesOf (Try.prog.elem 22) = 32 from by kernel_rfl] at b1
  obtain ⟨A2, c2, l2, rfl, lc2, cm2, x2, r2⟩ := open_intsA (hval 2 23 v2 rfl rfl) h2
  have b2 := len_reach Try.underlying23 (hval 2 23 _ rfl rfl) h2 hsz (j := 2) (by rw [Try.params7]; rfl) rfl
  rw [show Try.prog.bytesOf (Try.prog.elem 23) = 8 from by kernel_rfl] at b2
  refine (lawValueLeast_any a0 A1 A2 c1 c2 l1 l2 W x1 x2 b2).mono fun e W' ⟨he, hb⟩ => ?_
  subst he
  exact ⟨_, rfl, law_post Try.laidOut rfl (by kernel_rfl) Try.underlying4 ⟨rfl, rfl, rfl⟩ (by kernel_rfl) hW' hb⟩

theorem valueLeast_holds : Rows.ValueLeastSaid :=
  OpenClaim.holds_of_wide 7 Try.f7 rfl rfl rfl rfl rfl rfl rfl ⟨rfl, rfl, rfl, rfl, rfl⟩ rfl rfl rfl rfl rfl (by kernel_rfl) Try.func7 (show joinedFacts Try.prog 7 Try.f7 Rows.valueLeastSpec Rows.valueLeastRow = true from (by unfold joinedFacts; (repeat' (with_reducible refine and_both ?_ ?_)) <;> first | (with_reducible exact may_enter) | ((with_reducible refine make_ok ?_); rfl) | ((with_reducible refine lifts_ok ?_); rfl) | kernel_rfl))
    (of_decide_eq_true (by kernel_rfl)) (by unfold Func.isWrapper; rw [if_neg (of_decide_eq_false (by kernel_rfl))]; exact ⟨rfl, rfl⟩)
    (fun os started H enc _ => lawValueLeast_lifted os started H enc)

end Go.Proofs.Ytacokdghfkpdpaa
