/-
  Two loops are nested or disjoint, and a header dominates its loop (Allen; Cocke): codemasonkeep.LoopNest returns true and leaves its arguments alone. No condition.
-/
import Derived.Test.YtpbajalecfaibaaLawLoop
import Derived.Test.YtpbajalecfaibaaLoopFold
import Derived.Test.YtpbajalecfaibaaRuleIs
namespace Go.Proofs.Ytpbajalecfaibaa
open Go.RowKit Go.ChangeShapes Go.WideShapes Go.ChangeAt Go.Deep
set_option linter.unusedSimpArgs false
set_option linter.unusedVariables false
set_option maxRecDepth 100000

theorem or_in {a b : Nat} : a ||| b = b ↔ ∀ j, a.testBit j = true → b.testBit j = true := by
  constructor
  · intro h j hj
    rw [← h, Nat.testBit_or, hj, Bool.true_or]
  · intro h
    refine word_ext fun j => ?_
    rw [Nat.testBit_or, Bool.or_eq_true]
    exact ⟨fun h1 => h1.elim (h j) id, .inr⟩

set_option maxHeartbeats 1000000 in
theorem in_any (a b : Nat) (q : Bool) (w : World) (ha : a < 256) (hb : b < 256) (hq : q = true ↔ ∀ j, a.testBit j = true → b.testBit j = true) :
    Calls Try.prog 26 #[.int .u32 (a : Nat), .int .u32 (b : Nat)] w fun e w' => e = .returned (.bool q) ∧ w = w' := by
  have hor : bits .or .u32 (a : Int) (b : Int) = ((a ||| b : Nat) : Int) := u32_or_nat _ _ (by omega) (by omega)
  have hr : q = (bits .or .u32 (a : Int) (b : Int) == (b : Int)) := by
    rw [hor, Bool.eq_iff_iff, hq, ← or_in, beq_iff_eq, Int.ofNat_inj]
  have HR := Lib.hid hr
  clear hor hr hq
  go_enter Try.func26, Try.ntmps26
  go_wp2
  go_ret
  exact ⟨ret_bool (by rw [HR.out]), rfl⟩

theorem nest_bits {nx : List (List Int)} (hc : ckWay nx = 0) {ws : List Nat} (hp : Lps nx ws) {i j W V : Nat} (hW : ws[i]? = some W) (hV : ws[j]? = some V) (hij : i ≠ j) (hn : W &&& V ≠ 0) :
    (∀ x, W.testBit x = true → V.testBit x = true) ∨ ∀ x, V.testBit x = true → W.testBit x = true := by
  obtain ⟨x, hx⟩ : ∃ x, (W &&& V).testBit x = true := Classical.byContradiction fun hno => hn (word_ext fun j => ⟨fun h => absurd ⟨j, h⟩ hno, fun h => by simp at h⟩)
  rw [Nat.testBit_and, Bool.and_eq_true] at hx
  have h1 := hp.mem i W hW
  have h2 := hp.mem j V hV
  rcases loop_nest hc hij ((h1 x).1 hx.1) ((h2 x).1 hx.2) with h | h
  · exact .inl fun y hy => (h2 y).2 (h y ((h1 y).1 hy))
  · exact .inr fun y hy => (h1 y).2 (h y ((h2 y).1 hy))

set_option maxHeartbeats 8000000 in
theorem lawLoopNest_ok (K : LoopIs) (R : TableIs) (A : Option Addr) (cap : Nat) (nx : List (List Int)) (w : World) (hx : RdG w w.heap.size A nx) (hm : nx.length ≤ maxLen) (hc : ckWay nx = 0) :
    Calls Try.prog 9 #[.slice A nx.length cap] w fun e w' => e = .returned (.bool true) ∧ Below w.heap.size w w' := by
  have HM := Lib.hid hm
  unfold maxLen at hm
  have HC := Lib.hid hc
  obtain ⟨hb1', hb2', _⟩ := ckWay_bd hc
  obtain ⟨len, hlen⟩ : ∃ len, nx.length = len := ⟨_, rfl⟩
  have HLEN := Lib.hid hlen
  have HML : Hid (len ≤ maxLen) := Lib.hid (by rw [← hlen]; exact HM.out)
  rw [hlen] at hb1' hb2' hm ⊢
  clear hc hlen
  go_enter Try.func9, Try.ntmps9
  go_wp2_with fail
  refine (K.loops A _ cap nx _ hx HLEN.out HC.out).mono ?_
  rintro e w0 ⟨ws, A0, c0, hpl, rfl, hr0, hb0⟩
  have hx0 := (hx.below hb0 (Nat.le_refl _)).more hb0.size
  have HPL := Lib.hid hpl
  have HWL := Lib.hid (hpl.len.trans HLEN.out)
  clear hpl
  go_wp2_with fail
  refine (R.table A _ cap nx _ hx0 HLEN.out HC.out).mono ?_
  rintro e w1 ⟨ts, A1, c1, hpt, rfl, hr1, hb1⟩
  have HPT := Lib.hid hpt
  have HTL := Lib.hid (hpt.len.trans HLEN.out)
  have hb01 := hb0.trans (hb1.mono hb0.size)
  have hx1 := (hx.below hb01 (Nat.le_refl _)).more hb01.size
  have hrl := (hr0.below hb1 (Nat.le_refl _)).more hb1.size
  clear hpt
  go_wp2_with fail
  refine (may_any A _ cap nx _ hx1 HLEN.out HML.out).mono ?_
  rw [decide_eq_true HC.out]
  rintro e w2 ⟨rfl, rfl⟩
  go_wp2
  go_loop [49] (fun z => ∃ i : Nat, i ≤ len ∧ z = .int .i64 i) (fun z => len - (intOf z).toNat)
  case atStart => exact ⟨0, Nat.zero_le _, rfl⟩
  case round =>
    obtain ⟨i, hi, rfl⟩ := hrel
    by_cases hlt : i < len
    · obtain ⟨la, W, rfl, hblw, hW, hcw⟩ := hrl.at_ (k := i) (by rw [HWL.out]; exact hlt)
      have hW8 := HPL.out.lt i W hW
      have HWI := Lib.hid hW
      clear hW
      go_wp2
      go_loop [56] (fun z => ∃ a : Nat, a ≤ len ∧ z = .int .i64 a) (fun z => len - (intOf z).toNat)
      case atStart => exact ⟨0, Nat.zero_le _, rfl⟩
      case round =>
        obtain ⟨a, ha, rfl⟩ := hrel
        by_cases hat : a < len
        · obtain ⟨la', V, hA, hblx, hV, hcx⟩ := hrl.at_ (k := a) (by rw [HWL.out]; exact hat)
          injection hA with hA
          subst hA
          have hV8 := HPL.out.lt a V hV
          have HV := Lib.hid hV
          clear hV
          by_cases hia : i = a
          · have e0 : ((i : Int) != (a : Int)) = false := by simp; omega
            clear hia
            go_wp2
            go_round
            case rel => exact ⟨a + 1, by omega, by go_num⟩
            case measure => (simp [intOf]; omega)
          · have e0 : ((i : Int) != (a : Int)) = true := by simp; omega
            have hand : bits .and .u32 (W : Int) (V : Int) = ((W &&& V : Nat) : Int) := u32_and_nat _ _ (by omega) (by omega)
            by_cases hz : W &&& V = 0
            · have e1 : (bits .and .u32 (W : Int) (V : Int) != 0) = false := by rw [hand, hz]; rfl
              clear hand hz hia
              go_wp2
              go_round
              case rel => exact ⟨a + 1, by omega, by go_num⟩
              case measure => (simp [intOf]; omega)
            · have e1 : (bits .and .u32 (W : Int) (V : Int) != 0) = true := by rw [hand]; simp; omega
              have hnb := nest_bits HC.out HPL.out HWI.out HV.out hia hz
              obtain ⟨q1, hq1⟩ := bool_of (∀ x, W.testBit x = true → V.testBit x = true)
              obtain ⟨q2, hq2⟩ := bool_of (∀ x, V.testBit x = true → W.testBit x = true)
              have hqq : q1 = true ∨ q2 = true := hnb.imp hq1.2 hq2.2
              have HI1 := Lib.hid fun w => in_any W V q1 w hW8 hV8 hq1
              have HI2 := Lib.hid fun w => in_any V W q2 w hV8 hW8 hq2
              clear hand hz hia hnb hq1 hq2
              cases q1 with
              | true =>
                clear hqq
                go_wp2_with fail
                refine (HI1.out _).mono ?_
                rintro e w3 ⟨rfl, rfl⟩
                go_wp2
                go_round
                case rel => exact ⟨a + 1, by omega, by go_num⟩
                case measure => (simp [intOf]; omega)
              | false =>
                have hq : q2 = true := hqq.resolve_left (by simp)
                subst hq
                clear hqq
                go_wp2_with fail
                refine (HI1.out _).mono ?_
                rintro e w3 ⟨rfl, rfl⟩
                go_wp2_with fail
                refine (HI2.out _).mono ?_
                rintro e w3 ⟨rfl, rfl⟩
                go_wp2
                go_round
                case rel => exact ⟨a + 1, by omega, by go_num⟩
                case measure => (simp [intOf]; omega)
        · go_wp2
          go_loop [11] (fun z => ∃ h : Nat, h ≤ len ∧ z = .int .i64 h) (fun z => len - (intOf z).toNat)
          case atStart => exact ⟨0, Nat.zero_le _, rfl⟩
          case round =>
            obtain ⟨h, hh, rfl⟩ := hrel
            by_cases hht : h < len
            · obtain ⟨lt, X, rfl, hblt, hX, hct⟩ := hr1.at_ (k := h) (by rw [HTL.out]; exact hht)
              have hX8 := HPT.out.lt h X hX
              have hdm : W.testBit h = true → X.testBit i = true := fun hb => (HPT.out.mem h X hX i).2 (loop_dom ((HPL.out.mem i W HWI.out h).1 hb))
              obtain ⟨q1, hq1⟩ : ∃ q, W.testBit h = q := ⟨_, rfl⟩
              obtain ⟨q2, hq2⟩ : ∃ q, X.testBit i = q := ⟨_, rfl⟩
              rw [hq1, hq2] at hdm
              have HQ1 : Hid (bitB W (h : Int) = q1) := Lib.hid (by rw [bitB_nat (show W < 2 ^ 8 from hW8), hq1])
              have HQ2 : Hid (bitB X (i : Int) = q2) := Lib.hid (by rw [bitB_nat (show X < 2 ^ 8 from hX8), hq2])
              clear hq1 hq2 hX
              go_wp2_with fail
              refine (bit_any W _ _ (by omega)).mono ?_
              rw [HQ1.out]
              rintro e w3 ⟨rfl, rfl⟩
              cases q1 with
              | false =>
                clear hdm
                go_wp2
                go_round
                case rel => exact ⟨h + 1, by omega, by go_num⟩
                case measure => (simp [intOf]; omega)
              | true =>
                have hq : q2 = true := hdm rfl
                subst hq
                clear hdm
                go_wp2_with fail
                refine (bit_any X _ _ (by omega)).mono ?_
                rw [HQ2.out]
                rintro e w3 ⟨rfl, rfl⟩
                go_wp2
                go_round
                case rel => exact ⟨h + 1, by omega, by go_num⟩
                case measure => (simp [intOf]; omega)
            · go_wp2
              go_round
              case rel => exact ⟨i + 1, by omega, by go_num⟩
              case measure => (simp [intOf]; omega)
    · go_wp2
      go_ret
      exact ⟨ret_bool (by simp), hb01⟩

set_option maxHeartbeats 4000000 in
theorem lawLoopNest_bad (K : LoopIs) (R : TableIs) (A : Option Addr) (cap : Nat) (nx : List (List Int)) (w : World) (hx : RdG w w.heap.size A nx) (hm : nx.length ≤ maxLen) (hc : ckWay nx ≠ 0) :
    Calls Try.prog 9 #[.slice A nx.length cap] w fun e w' => e = .returned (.bool true) ∧ Below w.heap.size w w' := by
  have HM := Lib.hid hm
  unfold maxLen at hm
  have hne : (ckWay nx != 0) = true := by simp [hc]
  have HC := Lib.hid hc
  clear hc
  go_enter Try.func9, Try.ntmps9
  go_wp2_with fail
  refine (K.loopsBad A _ cap nx _ hx rfl HM.out HC.out).mono ?_
  rintro e w0 ⟨A0, c0, rfl, hb0⟩
  have hx0 := (hx.below hb0 (Nat.le_refl _)).more hb0.size
  go_wp2_with fail
  refine (R.tableBad A _ cap nx _ hx0 rfl HM.out HC.out).mono ?_
  rintro e w1 ⟨A1, c1, rfl, hb1⟩
  have hb01 := hb0.trans (hb1.mono hb0.size)
  have hx1 := (hx.below hb01 (Nat.le_refl _)).more hb01.size
  go_wp2_with fail
  refine (may_any A _ cap nx _ hx1 rfl HM.out).mono ?_
  rw [decide_eq_false HC.out]
  rintro e w3 ⟨rfl, rfl⟩
  go_wp2
  go_ret
  exact ⟨ret_bool (by simp), hb01⟩

theorem lawLoopNest_any (K : LoopIs) (R : TableIs) (A : Option Addr) (cap : Nat) (nx : List (List Int)) (w : World) (hx : RdG w w.heap.size A nx) (hm : nx.length ≤ maxLen) :
    Calls Try.prog 9 #[.slice A nx.length cap] w fun e w' => e = .returned (.bool true) ∧ Below w.heap.size w w' := by
  by_cases hc : ckWay nx = 0
  · exact lawLoopNest_ok K R A cap nx w hx hm hc
  · exact lawLoopNest_bad K R A cap nx w hx hm hc

set_option maxRecDepth 100000 in
theorem lawLoopNest_lifted (os : Os) (started : os.Started) (H : Type) (enc : TypeId × Value → H) :
    ReturnsInHanded {} Try.checked os 9 .any (Rows.loopNestSpec.pre6 enc Try.prog Try.f9 Rows.loopNestRow.domain false) (Rows.loopNestSpec.post enc Try.prog Try.f9 false true false false) := by
  refine returnsInHanded_of_change_sized (C := Try.checked) Try.own started (by kernel_rfl) Try.func9
    (ChangeSpec.witness6 (enc := enc) (C := Try.checked) false ⟨#[], #[.slice none 0 0], []⟩ 8 (by kernel_rfl) (by kernel_rfl) (by kernel_rfl) (by kernel_rfl)) ?_
  intro W base args ds gs before hval0 hW hcnd hsz _
  have hval : ∀ (j : Nat) t v, Try.f9.params[j]? = some t → args[j]? = some v → Value.okWide Try.prog W .any base t v := hval0
  have hW' := hW
  obtain ⟨p, q, hA0, hV, rfl, hfz, hnd⟩ := hW
  have hA : DataW.TrodAll enc Try.prog W 0 (fun _ => true) true Try.f9.params.toList args.toList ds p := hA0
  obtain ⟨hgs, _⟩ := trodVars_none hV
  rw [Try.params9] at hA hval
  obtain ⟨v0, vs0, d0, ds0, p0, q0, hargs, rfl, rfl, h0, r0⟩ := trodAll_cons hA
  obtain ⟨rfl, rfl, rfl⟩ := trodAll_nil r0
  have hargs2 : args = #[v0] := Array.toList_inj.1 hargs
  subst hargs2
  obtain ⟨A0, c0, l0, rfl, lc0, cm0, x0, r0⟩ := open_graphA (hval 0 22 v0 rfl rfl) h0
  have b0 := len_reach Try.underlying22 (hval 0 22 _ rfl rfl) h0 hsz (j := 0) (by rw [Try.params9]; rfl) rfl
  rw [show Try.prog.bytesOf (Try.prog.elem 22) = 24 from by kernel_rfl] at b0
  refine (lawLoopNest_any loopIs tableIs A0 c0 l0 _ x0 (by omega)).mono fun e W' ⟨he, hb⟩ => ?_
  subst he
  exact ⟨_, rfl, law_post Try.laidOut rfl (by kernel_rfl) Try.underlying4 ⟨rfl, rfl, rfl⟩ (by kernel_rfl) hW' hb⟩

theorem loopNest_holds : Rows.LoopNestSaid :=
  OpenClaim.holds_of_wide 9 Try.f9 rfl rfl rfl rfl rfl rfl rfl ⟨rfl, rfl, rfl, rfl, rfl⟩ rfl rfl rfl rfl rfl (by kernel_rfl) Try.func9 (show joinedFacts Try.prog 9 Try.f9 Rows.loopNestSpec Rows.loopNestRow = true from (by unfold joinedFacts; (repeat' (with_reducible refine and_both ?_ ?_)) <;> first | (with_reducible exact may_enter) | ((with_reducible refine make_ok ?_); rfl) | ((with_reducible refine lifts_ok ?_); rfl) | kernel_rfl))
    (of_decide_eq_true (by kernel_rfl)) (by unfold Func.isWrapper; rw [if_neg (of_decide_eq_false (by kernel_rfl))]; exact ⟨rfl, rfl⟩)
    (fun os started H enc _ => lawLoopNest_lifted os started H enc)

end Go.Proofs.Ytpbajalecfaibaa
