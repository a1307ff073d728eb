/-
  term.Uses returns what A2 asks, for all arguments: codemasonlaw.TermUses returns true and leaves its arguments alone. No condition.
-/
import Derived.Test.YtppnckiedcbleaaUses
import Derived.Test.YtppnckiedcbleaaComes
import Derived.Test.YtppnckiedcbleaaTermsRef
import Derived.Test.YtppnckiedcbleaaLaw
namespace Go.Proofs.Ytppnckiedcbleaa
open Go.RowKit Go.ChangeShapes Go.WideShapes Go.ChangeAt Go.Deep
set_option linter.unusedSimpArgs false
set_option linter.unusedVariables false
set_option maxRecDepth 100000

set_option maxHeartbeats 4000000 in
theorem lawTermUses_any (vars : Int) (A : Option Addr) (cap : Nat) (l : List Tm) (w : World) (hx : RdT w w.heap.size A l) :
    Calls Try.prog 5 #[.int .i64 vars, .slice A l.length cap] w fun e w' => e = .returned (.bool true) ∧ Below w.heap.size w w' := by
  generalize hl : l.length = len at *
  have HL := Lib.hid hl
  clear hl
  by_cases h1 : ckTerms vars l = 0
  · have HC := Lib.hid h1
    have hR : usesR vars l = usesW l := by unfold usesR; rw [if_pos h1]
    have HR := Lib.hid hR
    have hbd := ckTerms_bd h1
    rw [HL.out] at hbd
    clear h1 hR
    go_enter Try.func5, Try.ntmps5
    go_wp2_with fail
    refine (uses_any vars A len cap l _ hx HL.out).mono ?_
    rintro e w1 ⟨rfl, hb1⟩
    rw [HC.out, HR.out]
    go_wp2_with fail
    refine (termsCheck_any vars A len cap l _ ((hx.below hb1 (Nat.le_refl _)).more hb1.size) HL.out).mono ?_
    rintro e w2 ⟨rfl, hb2⟩
    rw [HC.out]
    have hbw := hb1.trans (hb2.mono hb1.size)
    go_wp2_with fail
    refine (comes_any vars A len cap l _ _ ((hx.below hbw (Nat.le_refl _)).more hbw.size) HL.out HC.out rfl).mono ?_
    rintro e w3 ⟨A3, c3, rfl, hrd, hb3⟩
    have hbw3 := hbw.trans (hb3.mono hbw.size)
    have hx3 := (hx.below hbw3 (Nat.le_refl _)).more hbw3.size
    have hcl : (comesL l).length ≤ len := by have := outL_len (l := l) (j := l.length); rw [HL.out] at this; unfold comesL; rw [HL.out]; exact this
    have HW := Lib.hid (wfold_uses l)
    clear hb1 hb2 hb3 hbw hx
    go_wp2_with fail
    go_loop [8, 35] (fun s i => ∃ k acc : Nat, k ≤ (comesL l).length ∧ acc < 64 ∧ i = .int .i64 k ∧ s = .int .u32 acc ∧ (comesL l).foldl (wStep l) 0 = ((comesL l).drop k).foldl (wStep l) acc) (fun _ i => (comesL l).length - (intOf i).toNat)
    case atStart => exact ⟨0, 0, Nat.zero_le _, by omega, rfl, rfl, rfl⟩
    case round =>
      obtain ⟨k, acc, hk, hacc, rfl, rfl, hr⟩ := hrel
      have HS := Lib.hid hr
      clear hr
      by_cases hlt : k < (comesL l).length
      · obtain ⟨j, hj⟩ : ∃ j, (comesL l)[k]? = some j := ⟨_, List.getElem?_eq_getElem hlt⟩
        have hjl := comesL_lt (List.mem_of_getElem? hj)
        rw [HL.out] at hjl
        obtain ⟨ad2, z, rfl, hbl2, hz, hcz⟩ := hrd.at_ (k := k) (by simpa [ni] using hlt)
        obtain rfl : z = (j : Int) := by rw [ni_at hj] at hz; injection hz with hz; exact hz.symm
        obtain ⟨ad, o, a, b, v, rfl, hbl, hd, hc0, hc1, hc2, hc3⟩ := hx3.at_ (k := j) (by rw [HL.out]; exact hjl)
        have hcase := ckTerms_cases HC.out hd
        have hst : ((comesL l).drop k).foldl (wStep l) acc = ((comesL l).drop (k + 1)).foldl (wStep l) (if o = 2 then acc ||| 2 ^ v.toNat else acc) := by
          rw [drop_at hj, List.foldl_cons]
          congr 1
          simp only [wStep, hd]
        by_cases ho : o = 2
        · rw [if_pos ho] at hst
          subst ho
          obtain ⟨vn, rfl⟩ : ∃ vn : Nat, v = vn := ⟨v.toNat, by omega⟩
          have hv6 : vn < 6 := by omega
          have HT := Lib.hid hst
          have hp := pow_lt_64 hv6
          have hor : bits .or .u32 (acc : Int) ((2 ^ vn : Nat) : Int) = ((acc ||| 2 ^ vn : Nat) : Int) := u32_or_nat _ _ (by omega) (by omega)
          clear hst hd hj hz hcase
          go_wp2
          go_round
          case rel =>
            refine ⟨k + 1, acc ||| 2 ^ vn, by omega, or_lt hacc hp, by go_num, ?_, by rw [HS.out, HT.out]; rfl⟩
            rw [← hor, pow_u32 hv6]
          case measure => (simp [intOf]; omega)
        · rw [if_neg ho] at hst
          have hob : (o == 2) = false := by simp [ho]
          have HT := Lib.hid hst
          clear hst hd hj hz hcase ho
          go_wp2
          go_round
          case rel => exact ⟨k + 1, acc, by omega, hacc, by go_num, rfl, by rw [HS.out, HT.out]⟩
          case measure => (simp [intOf]; omega)
      · have hkl : k = (comesL l).length := by omega
        have hfin : usesW l = acc := by
          have h := HS.out
          rw [HW.out, hkl, List.drop_length] at h
          exact h
        subst hfin
        go_wp2
        go_ret
        exact ⟨ret_bool (by simp), hbw3⟩
  · have e1 : (ckTerms vars l != 0) = true := by simp [h1]
    have hR : usesR vars l = 0 := by unfold usesR; rw [if_neg h1]
    have HR := Lib.hid hR
    clear h1 hR
    go_enter Try.func5, Try.ntmps5
    go_wp2_with fail
    refine (uses_any vars A len cap l _ hx HL.out).mono ?_
    rintro e w1 ⟨rfl, hb1⟩
    rw [HR.out]
    go_wp2_with fail
    refine (termsCheck_any vars A len cap l _ ((hx.below hb1 (Nat.le_refl _)).more hb1.size) HL.out).mono ?_
    rintro e w2 ⟨rfl, hb2⟩
    go_wp2_with fail
    go_ret
    exact ⟨ret_bool (by simp), hb1.trans (hb2.mono hb1.size)⟩

set_option maxRecDepth 100000 in
theorem lawTermUses_lifted (os : Os) (started : os.Started) (H : Type) (enc : TypeId × Value → H) :
    ReturnsInHanded {} Try.checked os 5 .any (Rows.termUsesSpec.pre6 enc Try.prog Try.f5 Rows.termUsesRow.domain false) (Rows.termUsesSpec.post enc Try.prog Try.f5 false true false false) := by
  refine returnsInHanded_of_change_sized (C := Try.checked) Try.own started (by kernel_rfl) Try.func5
    (ChangeSpec.witness6 (enc := enc) (C := Try.checked) false ⟨#[], #[.int .i64 0, .slice none 0 0], []⟩ 8 (by kernel_rfl) (by kernel_rfl) (by kernel_rfl) (by kernel_rfl)) ?_
  intro W base args ds gs before hval0 hW hcnd hsz _
  have hval : ∀ (j : Nat) t v, Try.f5.params[j]? = some t → args[j]? = some v → Value.okWide Try.prog W .any base t v := hval0
  have hW' := hW
  obtain ⟨p, q, hA0, hV, rfl, hfz, hnd⟩ := hW
  have hA : DataW.TrodAll enc Try.prog W 0 (fun _ => true) true Try.f5.params.toList args.toList ds p := hA0
  obtain ⟨hgs, _⟩ := trodVars_none hV
  rw [Try.params5] at hA hval
  obtain ⟨v0, vs0, d0, ds0, p0, q0, hargs, rfl, rfl, h0, r0⟩ := trodAll_cons hA
  obtain ⟨v1, vs1, d1, ds1, p1, q1, rfl, rfl, rfl, h1, r1⟩ := trodAll_cons r0
  obtain ⟨rfl, rfl, rfl⟩ := trodAll_nil r1
  have hargs2 : args = #[v0, v1] := Array.toList_inj.1 hargs
  subst hargs2
  obtain ⟨a0, rfl, _, _, w0⟩ := open_int Try.underlying3 (hval 0 3 v0 rfl rfl) h0
  obtain ⟨A1, c1, l1, rfl, lc1, cm1, x1, r1⟩ := open_termsA (hval 1 22 v1 rfl rfl) h1
  have b1 := len_reach Try.underlying22 (hval 1 22 _ rfl rfl) h1 hsz (j := 1) (by rw [Try.params5]; rfl) rfl
  rw [show Try.prog.bytesOf (Try.prog.elem 22) = 32 from by kernel_rfl] at b1
  refine (lawTermUses_any a0 A1 c1 l1 W x1).mono fun e W' ⟨he, hb⟩ => ?_
  subst he
  exact ⟨_, rfl, law_post Try.laidOut rfl (by kernel_rfl) Try.underlying4 ⟨rfl, rfl, rfl⟩ (by kernel_rfl) hW' hb⟩

theorem termUses_holds : Rows.TermUsesSaid :=
  OpenClaim.holds_of_wide 5 Try.f5 rfl rfl rfl rfl rfl rfl rfl ⟨rfl, rfl, rfl, rfl, rfl⟩ rfl rfl rfl rfl rfl (by kernel_rfl) Try.func5 (show joinedFacts Try.prog 5 Try.f5 Rows.termUsesSpec Rows.termUsesRow = true from (by unfold joinedFacts; (repeat' (with_reducible refine and_both ?_ ?_)) <;> first | (with_reducible exact may_enter) | ((with_reducible refine make_ok ?_); rfl) | ((with_reducible refine lifts_ok ?_); rfl) | kernel_rfl))
    (of_decide_eq_true (by kernel_rfl)) (by unfold Func.isWrapper; rw [if_neg (of_decide_eq_false (by kernel_rfl))]; exact ⟨rfl, rfl⟩)
    (fun os started H enc _ => lawTermUses_lifted os started H enc)

end Go.Proofs.Ytppnckiedcbleaa
