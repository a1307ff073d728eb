/-
  term.Fold returns what A2 asks, for all arguments: codemasonlaw.TermFolds returns true and leaves its arguments alone. No condition.
-/
import Derived.Test.YtacokdghfkpdpaaPrunePure
import Derived.Test.YtacokdghfkpdpaaComes
import Derived.Test.YtacokdghfkpdpaaTermsRef
import Derived.Test.YtacokdghfkpdpaaLaw
namespace Go.Proofs.Ytacokdghfkpdpaa
open Go.RowKit Go.ChangeShapes Go.WideShapes Go.ChangeAt Go.Deep
set_option linter.unusedSimpArgs false
set_option linter.unusedVariables false
set_option maxRecDepth 100000

set_option maxHeartbeats 1000000 in
theorem fold_bad (vars : Int) (A : Option Addr) (len cap : Nat) (l : List Tm) (w : World) (hx : RdT w w.heap.size A l) (hl : l.length = len) (hc : ckTerms vars l ≠ 0) :
    Calls Try.prog 9 #[.int .i64 vars, .slice A len cap] w fun e w' => e = .returned (.tuple #[.slice none 0 0, .int .i64 (ckTerms vars l)]) ∧ Below w.heap.size w w' := by
  have e1 : (ckTerms vars l != 0) = true := by simp [hc]
  have HL := Lib.hid hl
  clear hl hc
  go_enter Try.func9, Try.ntmps9
  go_wp2_with fail
  refine (check_any vars A len cap l _ hx HL.out).mono ?_
  rintro e w1 ⟨rfl, hb1⟩
  go_wp2_with fail
  go_returns
  exact ⟨rfl, hb1⟩

set_option maxHeartbeats 4000000 in
theorem lawTermFolds_any (vars : Int) (A HA : Option Addr) (cap hcap : Nat) (l : List Tm) (xs : List Int) (w : World) (hx : RdT w w.heap.size A l) (hh : RdI w w.heap.size HA xs) (hhm : xs.length ≤ maxLen) :
    Calls Try.prog 3 #[.int .i64 vars, .slice A l.length cap, .slice HA xs.length hcap] w fun e w' => e = .returned (.bool true) ∧ Below w.heap.size w w' := by
  generalize hl : l.length = len at *
  have HL := Lib.hid hl
  clear hl
  by_cases h1 : ckTerms vars l = 0
  · have HC := Lib.hid h1
    have hck := combL_ck h1
    have HK1 : Hid (ckTerms vars (foldL l) = 0) := Lib.hid (pr_ck hck)
    have hk2 : (foldL l).length ≤ len := by
      have := (prS_len (combL l) (combL l).length).1
      rw [combL_len, HL.out] at this
      unfold foldL prL
      rw [combL_len, HL.out]
      exact this
    have HK3 : Hid ((comesL (foldL l)).length = (foldL l).length) := Lib.hid (comesL_pr hck)
    have HK4 : Hid (∀ (r : Nat) (u : Tm), (foldL l)[r]? = some u → 3 ≤ u.op → ¬ (((foldL l).getD u.a.toNat tz).op = 1 ∧ ((foldL l).getD u.b.toNat tz).op = 1)) :=
      Lib.hid fun r u hu ho => pr_no hck (fun i u hu ho => comb_no HC.out hu ho) hu ho
    have HK5 : Hid (valT (foldL l) xs = valT l xs) := Lib.hid ((valT_pr hck).trans (valT_comb HC.out))
    have hbd := ckTerms_bd HK1.out
    clear h1 hck
    go_enter Try.func3, Try.ntmps3
    go_wp2_with fail
    refine (fold_any vars A len cap l _ hx HL.out HC.out).mono ?_
    rintro e w1 ⟨A1, c1, rfl, hr1, hb1⟩
    generalize foldL l = K at *
    generalize hkn : K.length = kn at *
    have HKN := Lib.hid hkn
    clear hkn
    go_wp2_with fail
    refine (termsCheck_any vars A len cap l _ ((hx.below hb1 (Nat.le_refl _)).more hb1.size) HL.out).mono ?_
    rintro e w2 ⟨rfl, hb2⟩
    rw [HC.out]
    have hr2 := (hr1.below hb2 (Nat.le_refl _)).more hb2.size
    have hbw2 := hb1.trans (hb2.mono hb1.size)
    go_wp2_with fail
    refine (termsCheck_any vars A1 kn c1 K _ hr2 HKN.out).mono ?_
    rintro e w3 ⟨rfl, hb3⟩
    rw [HK1.out]
    have hr3 := (hr2.below hb3 (Nat.le_refl _)).more hb3.size
    have hbw3 := hbw2.trans (hb3.mono hbw2.size)
    clear hr1 hr2 hb1 hb2 hb3 hbw2
    go_wp2_with fail
    refine (comes_any vars A1 kn c1 K _ _ hr3 HKN.out HK1.out rfl).mono ?_
    rintro e wo ⟨A3, c3, rfl, _, hb4⟩
    rw [HK3.out]
    have hr4 := (hr3.below hb4 (Nat.le_refl _)).more hb4.size
    have hbw4 := hbw3.trans (hb4.mono hbw3.size)
    clear hr3 hb4 hbw3
    go_wp2_with fail
    go_loopw [59] (fun i wr => ∃ k : Nat, k ≤ kn ∧ i = .int .i64 k ∧ Below wo.heap.size wo wr) (fun i _ => kn - (intOf i).toNat)
    case atStart => exact ⟨0, Nat.zero_le _, rfl, Below.refl _ _⟩
    case round =>
      obtain ⟨k, hk, rfl, hb⟩ := hrel
      have hsz := hb.size
      by_cases hlt : k < kn
      · have hrr := hr4.below hb (Nat.le_refl _)
        obtain ⟨ad, o, a, b, v, rfl, hbl, hd, hc0, hc1, hc2, hc3⟩ := hrr.at_ (k := k) (by rw [HKN.out]; exact hlt)
        have hcase := ckTerms_cases HK1.out hd
        by_cases ho : 3 ≤ o
        · obtain ⟨g1, g2, g3, g4⟩ : 0 ≤ a ∧ a < k ∧ 0 ≤ b ∧ b < k := by omega
          have hno := HK4.out k _ hd ho
          obtain ⟨an, rfl⟩ := Int.eq_ofNat_of_zero_le g1
          obtain ⟨bn, rfl⟩ := Int.eq_ofNat_of_zero_le g3
          have han : an < kn := by omega
          have hbn : bn < kn := by omega
          obtain ⟨ad', o1, a1, b1, v1, hadd, hbl1, hd1, p0, p1, p2, p3⟩ := hrr.at_ (k := an) (by rw [HKN.out]; exact han)
          injection hadd with hadd
          subst hadd
          obtain ⟨ad', o2, a2, b2, v2, hadd, hbl2, hd2, q0, q1, q2, q3⟩ := hrr.at_ (k := bn) (by rw [HKN.out]; exact hbn)
          injection hadd with hadd
          subst hadd
          rw [Int.toNat_natCast, Int.toNat_natCast, List.getD_eq_getElem?_getD, List.getD_eq_getElem?_getD, hd1, hd2] at hno
          simp only [Option.getD_some] at hno
          clear hd hd1 hd2 hcase
          have s1 : (ad.add (k * 4)).block < wr.heap.size := by omega
          have s2 : (ad.add (an * 4)).block < wr.heap.size := by omega
          have s3 : (ad.add (bn * 4)).block < wr.heap.size := by omega
          by_cases ho1 : o1 = 1
          · have ho2 : (o2 == 1) = false := by simp; omega
            subst ho1
            clear hno
            go_wp2
            go_round
            case rel => exact ⟨k + 1, by omega, by go_num, by go_grown⟩
            case measure => (simp [intOf]; omega)
          · have ho1' : (o1 == 1) = false := by simp [ho1]
            clear hno ho1
            go_wp2
            go_round
            case rel => exact ⟨k + 1, by omega, by go_num, by go_grown⟩
            case measure => (simp [intOf]; omega)
        · have s1 : (ad.add (k * 4)).block < wr.heap.size := by omega
          clear hd hcase
          go_wp2
          go_round
          case rel => exact ⟨k + 1, by omega, by go_num, by go_grown⟩
          case measure => (simp [intOf]; omega)
      · have hbw5 := hbw4.trans (hb.mono hbw4.size)
        have hr5 := (hr4.below hb (Nat.le_refl _)).more hb.size
        clear hr4 hbw4
        by_cases hv : ckHave vars xs = 0
        · have HV := Lib.hid hv
          clear hv
          go_wp2_with fail
          refine (haveCheck_any vars HA _ hcap xs _ _ (hh.below hbw5 (Nat.le_refl _)) rfl hhm).mono ?_
          rintro e w6 ⟨rfl, rfl⟩
          rw [HV.out]
          go_wp2_with fail
          refine (refTerm_any vars A1 HA kn c1 hcap K xs _ hr5 ((hh.below hbw5 (Nat.le_refl _)).more hbw5.size) HKN.out HK1.out HV.out).mono ?_
          rintro e w7 ⟨rfl, hb7⟩
          have hbw7 := hbw5.trans (hb7.mono hbw5.size)
          go_wp2_with fail
          refine (refTerm_any vars A HA len cap hcap l xs _ ((hx.below hbw7 (Nat.le_refl _)).more hbw7.size) ((hh.below hbw7 (Nat.le_refl _)).more hbw7.size) HL.out HC.out HV.out).mono ?_
          rintro e w8 ⟨rfl, hb8⟩
          rw [HK5.out]
          go_wp2_with fail
          go_ret
          exact ⟨ret_bool (by simp), hbw7.trans (hb8.mono hbw7.size)⟩
        · have e1 : (ckHave vars xs != 0) = true := by simp [hv]
          clear hv
          go_wp2_with fail
          refine (haveCheck_any vars HA _ hcap xs _ _ (hh.below hbw5 (Nat.le_refl _)) rfl hhm).mono ?_
          rintro e w6 ⟨rfl, rfl⟩
          go_wp2_with fail
          go_ret
          exact ⟨ret_bool (by simp), hbw5⟩
  · have e1 : (ckTerms vars l != 0) = true := by simp [h1]
    have HB := Lib.hid h1
    clear h1
    go_enter Try.func3, Try.ntmps3
    go_wp2_with fail
    refine (fold_bad vars A len cap l _ hx HL.out HB.out).mono ?_
    rintro e w1 ⟨rfl, hb1⟩
    go_wp2_with fail
    refine (termsCheck_any vars A len cap l _ ((hx.below hb1 (Nat.le_refl _)).more hb1.size) HL.out).mono ?_
    rintro e w2 ⟨rfl, hb2⟩
    go_wp2_with fail
    go_ret
    exact ⟨ret_bool (by simp), hb1.trans (hb2.mono hb1.size)⟩

set_option maxRecDepth 100000 in
theorem lawTermFolds_lifted (os : Os) (started : os.Started) (H : Type) (enc : TypeId × Value → H) :
    ReturnsInHanded {} Try.checked os 3 .any (Rows.termFoldsSpec.pre6 enc Try.prog Try.f3 Rows.termFoldsRow.domain false) (Rows.termFoldsSpec.post enc Try.prog Try.f3 false true false false) := by
  refine returnsInHanded_of_change_sized (C := Try.checked) Try.own started (by kernel_rfl) Try.func3
    (ChangeSpec.witness6 (enc := enc) (C := Try.checked) false ⟨#[], #[.int .i64 0, .slice none 0 0, .slice none 0 0], []⟩ 8 (by kernel_rfl) (by kernel_rfl) (by kernel_rfl) (by kernel_rfl)) ?_
  intro W base args ds gs before hval0 hW hcnd hsz _
  have hval : ∀ (j : Nat) t v, Try.f3.params[j]? = some t → args[j]? = some v → Value.okWide Try.prog W .any base t v := hval0
  have hW' := hW
  obtain ⟨p, q, hA0, hV, rfl, hfz, hnd⟩ := hW
  have hA : DataW.TrodAll enc Try.prog W 0 (fun _ => true) true Try.f3.params.toList args.toList ds p := hA0
  obtain ⟨hgs, _⟩ := trodVars_none hV
  rw [Try.params3] at hA hval
  obtain ⟨v0, vs0, d0, ds0, p0, q0, hargs, rfl, rfl, h0, r0⟩ := trodAll_cons hA
  obtain ⟨v1, vs1, d1, ds1, p1, q1, rfl, rfl, rfl, h1, r1⟩ := trodAll_cons r0
  obtain ⟨v2, vs2, d2, ds2, p2, q2, rfl, rfl, rfl, h2, r2⟩ := trodAll_cons r1
  obtain ⟨rfl, rfl, rfl⟩ := trodAll_nil r2
  have hargs2 : args = #[v0, v1, v2] := Array.toList_inj.1 hargs
  subst hargs2
  obtain ⟨a0, rfl, _, _, w0⟩ := open_int Try.underlying3 (hval 0 3 v0 rfl rfl) h0
  obtain ⟨A1, c1, l1, rfl, lc1, cm1, x1, r1⟩ := open_termsA (hval 1 22 v1 rfl rfl) h1
  have b1 := len_reach Try.underlying22 (hval 1 22 _ rfl rfl) h1 hsz (j := 1) (by rw [Try.params3]; rfl) rfl
  rw [show Try.prog.bytesOf (Try.prog.elem 22) = 32 from by kernel_rfl] at b1
  obtain ⟨A2, c2, l2, rfl, lc2, cm2, x2, r2⟩ := open_intsA (hval 2 23 v2 rfl rfl) h2
  have b2 := len_reach Try.underlying23 (hval 2 23 _ rfl rfl) h2 hsz (j := 2) (by rw [Try.params3]; rfl) rfl
  rw [show Try.prog.bytesOf (Try.prog.elem 23) = 8 from by kernel_rfl] at b2
  refine (lawTermFolds_any a0 A1 A2 c1 c2 l1 l2 W x1 x2 (by omega)).mono fun e W' ⟨he, hb⟩ => ?_
  subst he
  exact ⟨_, rfl, law_post Try.laidOut rfl (by kernel_rfl) Try.underlying4 ⟨rfl, rfl, rfl⟩ (by kernel_rfl) hW' hb⟩

theorem termFolds_holds : Rows.TermFoldsSaid :=
  OpenClaim.holds_of_wide 3 Try.f3 rfl rfl rfl rfl rfl rfl rfl ⟨rfl, rfl, rfl, rfl, rfl⟩ rfl rfl rfl rfl rfl (by kernel_rfl) Try.func3 (show joinedFacts Try.prog 3 Try.f3 Rows.termFoldsSpec Rows.termFoldsRow = true from (by unfold joinedFacts; (repeat' (with_reducible refine and_both ?_ ?_)) <;> first | (with_reducible exact may_enter) | ((with_reducible refine make_ok ?_); rfl) | ((with_reducible refine lifts_ok ?_); rfl) | kernel_rfl))
    (of_decide_eq_true (by kernel_rfl)) (by unfold Func.isWrapper; rw [if_neg (of_decide_eq_false (by kernel_rfl))]; exact ⟨rfl, rfl⟩)
    (fun os started H enc _ => lawTermFolds_lifted os started H enc)

end Go.Proofs.Ytacokdghfkpdpaa
