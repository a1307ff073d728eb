/-
  rule.Table returns the dominators of F1, or the first error, for all arguments: codemasonlaw.RuleTables returns true and leaves its arguments alone. No condition.
-/
import Derived.Test.YtikbblbehopcdaaLawRule
namespace Go.Proofs.Ytikbblbehopcdaa
open Go.RowKit Go.ChangeShapes Go.WideShapes Go.ChangeAt Go.Deep
set_option linter.unusedSimpArgs false
set_option linter.unusedVariables false
set_option maxRecDepth 100000

/-- those below k that are in a set -/
def PreW (P : Nat → Prop) (k W : Nat) : Prop := ∀ j, W.testBit j = true ↔ j < k ∧ P j

theorem PreW.lt {P : Nat → Prop} {k W : Nat} (h : PreW P k W) : W < 2 ^ k := Nat.lt_pow_two_of_testBit W fun i hi => by
  cases hb : W.testBit i with
  | false => rfl
  | true => have := ((h i).1 hb).1; omega

theorem PreW.or {P : Nat → Prop} {k W : Nat} (h : PreW P k W) (hp : P k) : PreW P (k + 1) (W ||| 2 ^ k) := fun j => by
  rw [Nat.testBit_or, Bool.or_eq_true, h, Nat.testBit_two_pow, decide_eq_true_eq]
  constructor
  · rintro (⟨h1, h2⟩ | h1)
    · exact ⟨by omega, h2⟩
    · subst h1; exact ⟨by omega, hp⟩
  · rintro ⟨h1, h2⟩
    by_cases e : j < k
    · exact .inl ⟨e, h2⟩
    · exact .inr (by omega)

theorem PreW.skip {P : Nat → Prop} {k W : Nat} (h : PreW P k W) (hp : ¬ P k) : PreW P (k + 1) W := fun j => by
  rw [h]
  constructor
  · rintro ⟨h1, h2⟩; exact ⟨by omega, h2⟩
  · rintro ⟨h1, h2⟩
    by_cases e : j = k
    · subst e; exact absurd h2 hp
    · exact ⟨by omega, h2⟩

theorem add_or {k W : Nat} (h : W < 2 ^ k) : W + 2 ^ k = W ||| 2 ^ k := by
  have h1 := Nat.two_pow_add_eq_or_of_lt h 1
  rw [Nat.mul_one] at h1
  rw [Nat.add_comm, h1, Nat.or_comm]

theorem PreW.add {P : Nat → Prop} {k W : Nat} (h : PreW P k W) (hp : P k) : PreW P (k + 1) (W + 2 ^ k) := by rw [add_or h.lt]; exact h.or hp

set_option maxHeartbeats 4000000 in
theorem lawRuleTables_any (K : RuleIs) (A : Option Addr) (cap : Nat) (nx : List (List Int)) (w : World) (hx : RdG w w.heap.size A nx) (hm : nx.length ≤ maxLen) :
    Calls Try.prog 11 #[.slice A nx.length cap] w fun e w' => e = .returned (.bool true) ∧ Below w.heap.size w w' := by
  have HM := Lib.hid hm
  unfold maxLen at hm
  by_cases hc : ckWay nx = 0
  · have HC := Lib.hid hc
    obtain ⟨hb1', hb2', _⟩ := ckWay_bd hc
    obtain ⟨f, hf⟩ := dom_bool nx
    have HF := Lib.hid hf
    have HDL := Lib.hid (fun a b (h : Dom nx a b) => (h.lt hc).1)
    obtain ⟨len, hlen⟩ : ∃ len, nx.length = len := ⟨_, rfl⟩
    have HLEN := Lib.hid hlen
    rw [hlen] at hb1' hb2' hm ⊢
    clear hc hlen hf
    go_enter Try.func11, Try.ntmps11
    go_wp2_with fail
    refine (K.table A _ cap nx _ hx HLEN.out HC.out).mono ?_
    rintro e w1 ⟨ws, A1, c1, hpt, rfl, hr1, hb1⟩
    have hx1 := (hx.below hb1 (Nat.le_refl _)).more hb1.size
    have HPT := Lib.hid hpt
    have HWL := Lib.hid (hpt.len.trans HLEN.out)
    clear hpt
    go_wp2_with fail
    refine (refWayCheck_any A _ cap nx _ hx1 HLEN.out).mono ?_
    rintro e w2 ⟨rfl, rfl⟩
    rw [HC.out]
    go_wp2
    go_loopw [6] (fun z wr => ∃ i : Nat, i ≤ len ∧ z = .int .i64 i ∧ Below w1.heap.size w1 wr) (fun z _ => len - (intOf z).toNat)
    case atStart => exact ⟨0, Nat.zero_le _, rfl, Below.refl _ _⟩
    case round =>
      obtain ⟨i, hi, rfl, hbr⟩ := hrel
      have hszr := hbr.size
      by_cases hlt : i < len
      · obtain ⟨wo, rfl⟩ : ∃ wo : World, wo = wr := ⟨_, rfl⟩
        obtain ⟨W, hW⟩ : ∃ W, ws[i]? = some W := ⟨_, List.getElem?_eq_getElem (by rw [HWL.out]; exact hlt)⟩
        have HMEM := Lib.hid (HPT.out.mem i W hW)
        have HW := Lib.hid hW
        clear hW
        go_wp2
        go_loopw [7, 8] (fun y z wi => ∃ j V : Nat, j ≤ len ∧ z = .int .i64 j ∧ y = .int .u32 (V : Nat) ∧ V < 256 ∧ Hid (PreW (fun j => Dom nx j i) j V) ∧ Below w1.heap.size w1 wi) (fun _ z _ => len - (intOf z).toNat)
        case atStart => exact ⟨0, 0, Nat.zero_le _, rfl, rfl, by omega, Lib.hid (fun j => by simp), hbr⟩
        case round =>
          obtain ⟨j, V, hj, rfl, rfl, hV, HV, hbi⟩ := hrel
          have hszi := hbi.size
          by_cases hjt : j < len
          · have hxi := (hx1.below hbi (Nat.le_refl _)).more hbi.size
            obtain ⟨v, hv⟩ : ∃ v, f j i = v := ⟨_, rfl⟩
            have hvd := HF.out j i
            rw [hv] at hvd
            have HFV := Lib.hid hv
            cases v with
            | false =>
              have HN := Lib.hid (HV.out.skip (fun h => by have := hvd.2 h; cases this))
              clear hv hvd
              go_wp2_with fail
              refine (refRules_any f A _ cap nx j i _ HF.out hxi HLEN.out HC.out hjt hlt).mono ?_
              rw [HFV.out]
              rintro e w3 ⟨rfl, hb3⟩
              go_wp2
              go_round
              case rel => exact ⟨j + 1, V, by omega, by go_num, rfl, hV, HN, hbi.trans (hb3.mono hszi)⟩
              case measure => (simp [intOf]; omega)
            | true =>
              have hlt2 := HV.out.lt
              have HY := Lib.hid (HV.out.add (hvd.1 rfl))
              have hpw : 2 ^ j ≤ 2 ^ 7 := Nat.pow_le_pow_right (by omega) (by omega)
              have hbd : V + 2 ^ j < 256 := by omega
              have hpe := pow_u32' (v := j) (by omega)
              have HPE := Lib.hid hpe
              have HBD := Lib.hid hbd
              have hsum : IntKind.u32.wrap ((V : Int) + (2 : Int) ^ j % 4294967296) = ((V + 2 ^ j : Nat) : Int) := by
                rw [hpe]
                show ((V : Int) + ((2 ^ j : Nat) : Int)) % 4294967296 = _
                omega
              have HSUM := Lib.hid hsum
              clear hv hvd hpw hbd hpe hsum hlt2
              go_wp2_with fail
              refine (refRules_any f A _ cap nx j i _ HF.out hxi HLEN.out HC.out hjt hlt).mono ?_
              rw [HFV.out]
              rintro e w3 ⟨rfl, hb3⟩
              go_wp2
              go_round
              case rel => exact ⟨j + 1, V + 2 ^ j, by omega, by go_num, by first | rw [HSUM.out] | (rw [← HSUM.out]; rfl), HBD.out, HY, hbi.trans (hb3.mono hszi)⟩
              case measure => (simp [intOf]; omega)
          · have hjl : j = len := by omega
            obtain ⟨a1, x', rfl, hbl1, hd1, hcx⟩ := (hr1.below hbi (Nat.le_refl _)).at_ (k := i) (by rw [HWL.out]; exact hlt)
            rw [HW.out] at hd1
            injection hd1 with hd1
            subst hd1
            have hWV : W = V := word_ext fun q => by
              rw [HMEM.out, HV.out]
              exact ⟨fun h => ⟨by have := HDL.out _ _ h; rw [HLEN.out] at this; omega, h⟩, fun h => h.2⟩
            subst hWV
            subst hjl
            go_wp2
            go_round
            case rel => exact ⟨i + 1, by omega, by go_num, hbi⟩
            case measure => (simp [intOf]; omega)
      · have hil : i = len := by omega
        subst hil
        go_wp2
        go_ret
        exact ⟨ret_bool (by simp), hb1.trans (hbr.mono hb1.size)⟩
  · have hne : (ckWay nx != 0) = true := by simp [hc]
    have HC := Lib.hid hc
    clear hc
    go_enter Try.func11, Try.ntmps11
    go_wp2_with fail
    refine (K.tableBad A _ cap nx _ hx rfl HM.out HC.out).mono ?_
    rintro e w1 ⟨A1, c1, rfl, hb1⟩
    have hx1 := (hx.below hb1 (Nat.le_refl _)).more hb1.size
    go_wp2_with fail
    refine (refWayCheck_any A _ cap nx _ hx1 rfl).mono ?_
    rintro e w2 ⟨rfl, rfl⟩
    go_wp2
    go_ret
    exact ⟨ret_bool (by simp), hb1⟩

set_option maxRecDepth 100000 in
theorem lawRuleTables_lifted (os : Os) (started : os.Started) (H : Type) (enc : TypeId × Value → H) :
    ReturnsInHanded {} Try.checked os 11 .any (Rows.ruleTablesSpec.pre6 enc Try.prog Try.f11 Rows.ruleTablesRow.domain false) (Rows.ruleTablesSpec.post enc Try.prog Try.f11 false true false false) := by
  refine returnsInHanded_of_change_sized (C := Try.checked) Try.own started (by kernel_rfl) Try.func11
    (ChangeSpec.witness6 (enc := enc) (C := Try.checked) false ⟨#[], #[.slice none 0 0], []⟩ 8 (by kernel_rfl) (by kernel_rfl) (by kernel_rfl) (by kernel_rfl)) ?_
  intro W base args ds gs before hval0 hW hcnd hsz _
  have hval : ∀ (j : Nat) t v, Try.f11.params[j]? = some t → args[j]? = some v → Value.okWide Try.prog W .any base t v := hval0
  have hW' := hW
  obtain ⟨p, q, hA0, hV, rfl, hfz, hnd⟩ := hW
  have hA : DataW.TrodAll enc Try.prog W 0 (fun _ => true) true Try.f11.params.toList args.toList ds p := hA0
  obtain ⟨hgs, _⟩ := trodVars_none hV
  rw [Try.params11] at hA hval
  obtain ⟨v0, vs0, d0, ds0, p0, q0, hargs, rfl, rfl, h0, r0⟩ := trodAll_cons hA
  obtain ⟨rfl, rfl, rfl⟩ := trodAll_nil r0
  have hargs2 : args = #[v0] := Array.toList_inj.1 hargs
  subst hargs2
  obtain ⟨A0, c0, l0, rfl, lc0, cm0, x0, r0⟩ := open_graphA (hval 0 22 v0 rfl rfl) h0
  have b0 := len_reach Try.underlying22 (hval 0 22 _ rfl rfl) h0 hsz (j := 0) (by rw [Try.params11]; rfl) rfl
  rw [show Try.prog.bytesOf (Try.prog.elem 22) = 24 from by kernel_rfl] at b0
  refine (lawRuleTables_any ruleIs A0 c0 l0 _ x0 (by omega)).mono fun e W' ⟨he, hb⟩ => ?_
  subst he
  exact ⟨_, rfl, law_post Try.laidOut rfl (by kernel_rfl) Try.underlying4 ⟨rfl, rfl, rfl⟩ (by kernel_rfl) hW' hb⟩

theorem ruleTables_holds : Rows.RuleTablesSaid :=
  OpenClaim.holds_of_wide 11 Try.f11 rfl rfl rfl rfl rfl rfl rfl ⟨rfl, rfl, rfl, rfl, rfl⟩ rfl rfl rfl rfl rfl (by kernel_rfl) Try.func11 (show joinedFacts Try.prog 11 Try.f11 Rows.ruleTablesSpec Rows.ruleTablesRow = true from (by unfold joinedFacts; (repeat' (with_reducible refine and_both ?_ ?_)) <;> first | (with_reducible exact may_enter) | ((with_reducible refine make_ok ?_); rfl) | ((with_reducible refine lifts_ok ?_); rfl) | kernel_rfl))
    (of_decide_eq_true (by kernel_rfl)) (by unfold Func.isWrapper; rw [if_neg (of_decide_eq_false (by kernel_rfl))]; exact ⟨rfl, rfl⟩)
    (fun os started H enc _ => lawRuleTables_lifted os started H enc)

end Go.Proofs.Ytikbblbehopcdaa
