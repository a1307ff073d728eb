/-
  rule.Tree returns the immediate dominators of F1, or the first error, for all arguments: codemasonlaw.RuleTrees returns true and leaves its arguments alone. No condition.
-/
import Derived.Test.YtikbblbehopcdaaLawRule
namespace Go.Proofs.Ytikbblbehopcdaa
open Go.RowKit Go.ChangeShapes Go.WideShapes Go.ChangeAt Go.Deep
set_option linter.unusedSimpArgs false
set_option linter.unusedVariables false
set_option maxRecDepth 100000

/-- what the reference has found among those below k -/
def Fnd (nx : List (List Int)) (i k : Nat) (t : Int) : Prop := (∃ j : Nat, j < k ∧ t = j ∧ Idom nx j i) ∨ (t = -1 ∧ ∀ j, j < k → ¬ Idom nx j i)

theorem Fnd.yes {nx : List (List Int)} {i k : Nat} (h : Idom nx k i) : Fnd nx i (k + 1) k := .inl ⟨k, by omega, rfl, h⟩

theorem Fnd.no {nx : List (List Int)} {i k : Nat} {t : Int} (h : Fnd nx i k t) (hn : ¬ Idom nx k i) : Fnd nx i (k + 1) t := by
  rcases h with ⟨j, h1, h2, h3⟩ | ⟨h1, h2⟩
  · exact .inl ⟨j, by omega, h2, h3⟩
  · refine .inr ⟨h1, fun j hj => ?_⟩
    by_cases e : j = k
    · subst e; exact hn
    · exact h2 j (by omega)

theorem Fnd.done {nx : List (List Int)} (hc : ckWay nx = 0) {i : Nat} {t : Int} (h : Fnd nx i nx.length t) : TreeAt nx i t := by
  rcases h with ⟨j, h1, h2, h3⟩ | ⟨h1, h2⟩
  · exact .inl ⟨j, h2, h3⟩
  · exact .inr ⟨h1, fun j hj => h2 j (hj.2.1.lt hc).1 hj⟩

/-- is j the last one, as far as those below k say? -/
def Lst (nx : List (List Int)) (i j k : Nat) : Prop := j ≠ i ∧ Dom nx j i ∧ ∀ q, q < k → q ≠ i → Dom nx q i → Dom nx q j

theorem Lst.done {nx : List (List Int)} (hc : ckWay nx = 0) {i j : Nat} : Lst nx i j nx.length ↔ Idom nx j i :=
  ⟨fun h => ⟨h.1, h.2.1, fun q h1 h2 => h.2.2 q (h2.lt hc).1 h1 h2⟩, fun h => ⟨h.1, h.2.1, fun q _ h1 h2 => h.2.2 q h1 h2⟩⟩

theorem Lst.next {nx : List (List Int)} {i j k : Nat} : Lst nx i j (k + 1) ↔ Lst nx i j k ∧ (k = i ∨ ¬ Dom nx k i ∨ Dom nx k j) := by
  constructor
  · rintro ⟨h1, h2, h3⟩
    refine ⟨⟨h1, h2, fun q hq => h3 q (by omega)⟩, ?_⟩
    by_cases e : k = i
    · exact .inl e
    · by_cases d : Dom nx k i
      · exact .inr (.inr (h3 k (by omega) e d))
      · exact .inr (.inl d)
  · rintro ⟨⟨h1, h2, h3⟩, h4⟩
    refine ⟨h1, h2, fun q hq hqi hqd => ?_⟩
    by_cases e : q = k
    · subst e
      rcases h4 with h4 | h4 | h4
      · exact absurd h4 hqi
      · exact absurd hqd h4
      · exact h4
    · exact h3 q (by omega) hqi hqd

set_option maxHeartbeats 4000000 in
theorem lawRuleTrees_any (K : RuleIs) (A : Option Addr) (cap : Nat) (nx : List (List Int)) (w : World) (hx : RdG w w.heap.size A nx) (hm : nx.length ≤ maxLen) :
    Calls Try.prog 12 #[.slice A nx.length cap] w fun e w' => e = .returned (.bool true) ∧ Below w.heap.size w w' := by
  have HM := Lib.hid hm
  unfold maxLen at hm
  by_cases hc : ckWay nx = 0
  · have HC := Lib.hid hc
    obtain ⟨hb1', hb2', _⟩ := ckWay_bd hc
    obtain ⟨f, hf⟩ := dom_bool nx
    have HF := Lib.hid hf
    have HLD := Lib.hid (fun i j => Lst.done hc (i := i) (j := j))
    have HFD := Lib.hid (fun i t => Fnd.done hc (i := i) (t := t))
    obtain ⟨len, hlen⟩ : ∃ len, nx.length = len := ⟨_, rfl⟩
    have HLEN := Lib.hid hlen
    rw [hlen] at hb1' hb2' hm ⊢
    clear hc hlen hf
    go_enter Try.func12, Try.ntmps12
    go_wp2_with fail
    refine (K.tree A _ cap nx _ hx HLEN.out HC.out).mono ?_
    rintro e w1 ⟨ts, A1, c1, hpt, rfl, hr1, hb1⟩
    have hx1 := (hx.below hb1 (Nat.le_refl _)).more hb1.size
    have HPT := Lib.hid hpt
    have HWL := Lib.hid (hpt.len.trans HLEN.out)
    clear hpt
    go_wp2_with fail
    refine (refWayCheck_any A _ cap nx _ hx1 HLEN.out).mono ?_
    rintro e w2 ⟨rfl, rfl⟩
    rw [HC.out]
    go_wp2
    go_loopw [6] (fun z wr => ∃ i : Nat, i ≤ len ∧ z = .int .i64 i ∧ Below w1.heap.size w1 wr) (fun z _ => len - (intOf z).toNat)
    case atStart => exact ⟨0, Nat.zero_le _, rfl, Below.refl _ _⟩
    case round =>
      obtain ⟨i, hi, rfl, hbr⟩ := hrel
      have hszr := hbr.size
      by_cases hlt : i < len
      · obtain ⟨wo, rfl⟩ : ∃ wo : World, wo = wr := ⟨_, rfl⟩
        obtain ⟨T, hT⟩ : ∃ T, ts[i]? = some T := ⟨_, List.getElem?_eq_getElem (by rw [HWL.out]; exact hlt)⟩
        have HAT := Lib.hid (HPT.out.at_ i T hT)
        have HT := Lib.hid hT
        clear hT
        go_wp2
        go_loopw [7, 8] (fun y z wi => ∃ (j : Nat) (t : Int), j ≤ len ∧ z = .int .i64 j ∧ y = .int .i64 t ∧ Hid (Fnd nx i j t) ∧ Below w1.heap.size w1 wi) (fun _ z _ => len - (intOf z).toNat)
        case atStart => exact ⟨0, -1, Nat.zero_le _, rfl, rfl, Lib.hid (.inr ⟨rfl, fun j h => by omega⟩), hbr⟩
        case round =>
          obtain ⟨j, t, hj, rfl, rfl, HV, hbi⟩ := hrel
          have hszi := hbi.size
          by_cases hjt : j < len
          · have hxi := (hx1.below hbi (Nat.le_refl _)).more hbi.size
            obtain ⟨wu, rfl⟩ : ∃ wu : World, wu = wr := ⟨_, rfl⟩
            obtain ⟨v, hv⟩ : ∃ v, f j i = v := ⟨_, rfl⟩
            have hvd := HF.out j i
            rw [hv] at hvd
            have HFV := Lib.hid hv
            have HVD := Lib.hid hvd
            clear hv hvd
            by_cases hji : j = i
            have e1 : ((j : Int) != (i : Int)) = false := by simp; omega
            have HB0 : Hid (false = true ↔ Lst nx i j 0) := Lib.hid ⟨fun h => (by cases h), fun h => absurd hji h.1⟩
            have hb3 : Below w1.heap.size w1 wu := hbi
            clear HFV HVD hji
            focus go_wp2
            rotate_left
            have e1 : ((j : Int) != (i : Int)) = true := by simp; omega
            have HB0 : Hid (v = true ↔ Lst nx i j 0) := Lib.hid (by rw [HVD.out]; exact ⟨fun h => ⟨hji, h, fun q hq => by omega⟩, fun h => h.2.1⟩)
            clear hji HVD
            focus (go_wp2_with fail)
            refine (refRules_any f A _ cap nx j i _ HF.out hxi HLEN.out HC.out hjt hlt).mono ?_
            rw [HFV.out]
            rintro e w3 ⟨rfl, hb3'⟩
            have hb3 : Below w1.heap.size w1 w3 := hbi.trans (hb3'.mono hszi)
            focus go_wp2
            all_goals
              have hs3 := hb3.size
              go_loopw [9, 10] (fun y z wi => ∃ (k : Nat) (b : Bool), k ≤ len ∧ z = .int .i64 k ∧ y = .bool b ∧ Hid (b = true ↔ Lst nx i j k) ∧ Below w1.heap.size w1 wi) (fun _ z _ => len - (intOf z).toNat)
              case atStart => exact ⟨0, _, Nat.zero_le _, rfl, rfl, HB0, hb3⟩
              case round =>
                obtain ⟨k, b, hk, rfl, rfl, HB, hbk⟩ := hrel
                have hszk := hbk.size
                by_cases hkt : k < len
                · have hxk := (hx1.below hbk (Nat.le_refl _)).more hbk.size
                  cases b with
                  | false =>
                    have HN : Hid (false = true ↔ Lst nx i j (k + 1)) := Lib.hid ⟨fun h => (by cases h), fun h => by have := HB.out.2 (Lst.next.1 h).1; cases this⟩
                    go_wp2
                    go_round
                    case rel => exact ⟨k + 1, false, by omega, by go_num, rfl, HN, hbk⟩
                    case measure => (simp [intOf]; omega)
                  | true =>
                    have HLK := Lib.hid (HB.out.1 rfl)
                    have hnx : ∀ c : Bool, (c = true ↔ (k = i ∨ ¬ Dom nx k i ∨ Dom nx k j)) → (c = true ↔ Lst nx i j (k + 1)) := fun c hcc => by rw [hcc, Lst.next]; exact ⟨fun h => ⟨HLK.out, h⟩, fun h => h.2⟩
                    have HNX := Lib.hid hnx
                    clear hnx
                    by_cases hki : k = i
                    · have e2 : ((k : Int) == (i : Int)) = true := by simp; omega
                      have HN := Lib.hid (HNX.out true ⟨fun _ => .inl hki, fun _ => rfl⟩)
                      clear hki
                      go_wp2
                      go_round
                      case rel => exact ⟨k + 1, true, by omega, by go_num, rfl, Lib.hid ⟨fun _ => HN.out.1 (by trivial), fun _ => rfl⟩, hbk⟩
                      case measure => (simp [intOf]; omega)
                    · have e2 : ((k : Int) == (i : Int)) = false := by simp; omega
                      have HKI := Lib.hid hki
                      clear hki
                      obtain ⟨v1, hv1⟩ : ∃ v, f k i = v := ⟨_, rfl⟩
                      have hvd1 := HF.out k i
                      rw [hv1] at hvd1
                      have HFV1 := Lib.hid hv1
                      cases v1 with
                      | false =>
                        have HN := Lib.hid (HNX.out true ⟨fun _ => .inr (.inl (fun h => by have := hvd1.2 h; cases this)), fun _ => rfl⟩)
                        clear hv1 hvd1
                        go_wp2_with fail
                        refine (refRules_any f A _ cap nx k i _ HF.out hxk HLEN.out HC.out hkt hlt).mono ?_
                        rw [HFV1.out]
                        rintro e w4 ⟨rfl, hb4⟩
                        go_wp2
                        go_round
                        case rel => exact ⟨k + 1, true, by omega, by go_num, rfl, Lib.hid ⟨fun _ => HN.out.1 (by trivial), fun _ => rfl⟩, hbk.trans (hb4.mono hszk)⟩
                        case measure => (simp [intOf]; omega)
                      | true =>
                        have hdki := hvd1.1 rfl
                        obtain ⟨v2, hv2⟩ : ∃ v, f k j = v := ⟨_, rfl⟩
                        have hvd2 := HF.out k j
                        rw [hv2] at hvd2
                        have HFV2 := Lib.hid hv2
                        have HN := Lib.hid (HNX.out v2 (by rw [hvd2]; exact ⟨fun h => .inr (.inr h), fun h => h.elim (fun h => absurd h HKI.out) fun h => h.elim (fun h => absurd hdki h) id⟩))
                        clear hv1 hvd1 hdki hv2 hvd2
                        go_wp2_with fail
                        refine (refRules_any f A _ cap nx k i _ HF.out hxk HLEN.out HC.out hkt hlt).mono ?_
                        rw [HFV1.out]
                        rintro e w4 ⟨rfl, hb4⟩
                        have hb14 := hbk.trans (hb4.mono hszk)
                        have hs14 := hb14.size
                        go_wp2_with fail
                        refine (refRules_any f A _ cap nx k j _ HF.out ((hx1.below hb14 (Nat.le_refl _)).more hs14) HLEN.out HC.out hkt hjt).mono ?_
                        rw [HFV2.out]
                        rintro e w5 ⟨rfl, hb5⟩
                        go_wp2
                        go_round
                        case rel => exact ⟨k + 1, v2, by omega, by go_num, rfl, HN, hb14.trans (hb5.mono hs14)⟩
                        case measure => (simp [intOf]; omega)
                · have hkl : k = len := by omega
                  have HI : Hid (b = true ↔ Idom nx j i) := Lib.hid (by rw [HB.out, hkl, ← HLEN.out]; exact HLD.out i j)
                  cases b with
                  | true =>
                    have HN := Lib.hid (Fnd.yes (HI.out.1 rfl))
                    go_wp2
                    go_round
                    case rel => exact ⟨j + 1, j, by omega, by go_num, rfl, HN, hbk⟩
                    case measure => (simp [intOf]; omega)
                  | false =>
                    have HN := Lib.hid (HV.out.no (fun h => by have := HI.out.2 h; cases this))
                    go_wp2
                    go_round
                    case rel => exact ⟨j + 1, t, by omega, by go_num, rfl, HN, hbk⟩
                    case measure => (simp [intOf]; omega)
          · have hjl : j = len := by omega
            obtain ⟨a1, x', rfl, hbl1, hd1, hcx⟩ := (hr1.below hbi (Nat.le_refl _)).at_ (k := i) (by rw [HWL.out]; exact hlt)
            rw [HT.out] at hd1
            injection hd1 with hd1
            subst hd1
            have hTt : T = t := HAT.out.one (HFD.out i t (by rw [HLEN.out, ← hjl]; exact HV.out))
            subst hTt
            go_wp2
            go_round
            case rel => exact ⟨i + 1, by omega, by go_num, hbi⟩
            case measure => (simp [intOf]; omega)
      · have hil : i = len := by omega
        subst hil
        go_wp2
        go_ret
        exact ⟨ret_bool (by simp), hb1.trans (hbr.mono hb1.size)⟩
  · have hne : (ckWay nx != 0) = true := by simp [hc]
    have HC := Lib.hid hc
    clear hc
    go_enter Try.func12, Try.ntmps12
    go_wp2_with fail
    refine (K.treeBad A _ cap nx _ hx rfl HM.out HC.out).mono ?_
    rintro e w1 ⟨A1, c1, rfl, hb1⟩
    have hx1 := (hx.below hb1 (Nat.le_refl _)).more hb1.size
    go_wp2_with fail
    refine (refWayCheck_any A _ cap nx _ hx1 rfl).mono ?_
    rintro e w2 ⟨rfl, rfl⟩
    go_wp2
    go_ret
    exact ⟨ret_bool (by simp), hb1⟩

set_option maxRecDepth 100000 in
theorem lawRuleTrees_lifted (os : Os) (started : os.Started) (H : Type) (enc : TypeId × Value → H) :
    ReturnsInHanded {} Try.checked os 12 .any (Rows.ruleTreesSpec.pre6 enc Try.prog Try.f12 Rows.ruleTreesRow.domain false) (Rows.ruleTreesSpec.post enc Try.prog Try.f12 false true false false) := by
  refine returnsInHanded_of_change_sized (C := Try.checked) Try.own started (by kernel_rfl) Try.func12
    (ChangeSpec.witness6 (enc := enc) (C := Try.checked) false ⟨#[], #[.slice none 0 0], []⟩ 8 (by kernel_rfl) (by kernel_rfl) (by kernel_rfl) (by kernel_rfl)) ?_
  intro W base args ds gs before hval0 hW hcnd hsz _
  have hval : ∀ (j : Nat) t v, Try.f12.params[j]? = some t → args[j]? = some v → Value.okWide Try.prog W .any base t v := hval0
  have hW' := hW
  obtain ⟨p, q, hA0, hV, rfl, hfz, hnd⟩ := hW
  have hA : DataW.TrodAll enc Try.prog W 0 (fun _ => true) true Try.f12.params.toList args.toList ds p := hA0
  obtain ⟨hgs, _⟩ := trodVars_none hV
  rw [Try.params12] at hA hval
  obtain ⟨v0, vs0, d0, ds0, p0, q0, hargs, rfl, rfl, h0, r0⟩ := trodAll_cons hA
  obtain ⟨rfl, rfl, rfl⟩ := trodAll_nil r0
  have hargs2 : args = #[v0] := Array.toList_inj.1 hargs
  subst hargs2
  obtain ⟨A0, c0, l0, rfl, lc0, cm0, x0, r0⟩ := open_graphA (hval 0 22 v0 rfl rfl) h0
  have b0 := len_reach Try.underlying22 (hval 0 22 _ rfl rfl) h0 hsz (j := 0) (by rw [Try.params12]; rfl) rfl
  rw [show Try.prog.bytesOf (Try.prog.elem 22) = 24 from by kernel_rfl] at b0
  refine (lawRuleTrees_any ruleIs A0 c0 l0 _ x0 (by omega)).mono fun e W' ⟨he, hb⟩ => ?_
  subst he
  exact ⟨_, rfl, law_post Try.laidOut rfl (by kernel_rfl) Try.underlying4 ⟨rfl, rfl, rfl⟩ (by kernel_rfl) hW' hb⟩

theorem ruleTrees_holds : Rows.RuleTreesSaid :=
  OpenClaim.holds_of_wide 12 Try.f12 rfl rfl rfl rfl rfl rfl rfl ⟨rfl, rfl, rfl, rfl, rfl⟩ rfl rfl rfl rfl rfl (by kernel_rfl) Try.func12 (show joinedFacts Try.prog 12 Try.f12 Rows.ruleTreesSpec Rows.ruleTreesRow = true from (by unfold joinedFacts; (repeat' (with_reducible refine and_both ?_ ?_)) <;> first | (with_reducible exact may_enter) | ((with_reducible refine make_ok ?_); rfl) | ((with_reducible refine lifts_ok ?_); rfl) | kernel_rfl))
    (of_decide_eq_true (by kernel_rfl)) (by unfold Func.isWrapper; rw [if_neg (of_decide_eq_false (by kernel_rfl))]; exact ⟨rfl, rfl⟩)
    (fun os started H enc _ => lawRuleTrees_lifted os started H enc)

end Go.Proofs.Ytikbblbehopcdaa
