/-
  rule.Meet returns the iterated dominance frontier of F2, or the first error, for all arguments: codemasonlaw.RuleMeets returns true and leaves its arguments alone. No condition.
-/
import Derived.Test.YtpbajalecfaibaaLawRule
import Derived.Test.YtpbajalecfaibaaRule
namespace Go.Proofs.Ytpbajalecfaibaa
open Go.RowKit Go.ChangeShapes Go.WideShapes Go.ChangeAt Go.Deep
set_option linter.unusedSimpArgs false
set_option linter.unusedVariables false
set_option maxRecDepth 100000

/-- what the reference has: sound, and whole but for what only the nodes from k on bring -/
structure Met (nx : List (List Int)) (s V : Nat) : Prop where
  ok : ∀ j, V.testBit j = true → Mt nx s j

/-- the edges of those below k that were there at the beginning of the turn (V0) are in -/
def MetK (nx : List (List Int)) (s V0 k V : Nat) : Prop := (∀ j, V0.testBit j = true → V.testBit j = true) ∧ ∀ i j, i < k → (s ||| V0).testBit i = true → EdgeP nx i j → V.testBit j = true

theorem Met.step {nx : List (List Int)} {s V i G : Nat} (h : Met nx s V) (hb : (s ||| V).testBit i = true) (hG : ∀ j, G.testBit j = true ↔ EdgeP nx i j) : Met nx s (V ||| G) := ⟨fun j hj => by
  rw [Nat.testBit_or, Bool.or_eq_true] at hj
  rcases hj with hj | hj
  · exact h.ok j hj
  · rw [Nat.testBit_or, Bool.or_eq_true] at hb
    rcases hb with hb | hb
    · exact .one hb ((hG j).1 hj)
    · exact .more (h.ok i hb) ((hG j).1 hj)⟩

theorem MetK.yes {nx : List (List Int)} {s V0 k V G : Nat} (h : MetK nx s V0 k V) (hG : ∀ j, G.testBit j = true ↔ EdgeP nx k j) : MetK nx s V0 (k + 1) (V ||| G) := by
  refine ⟨fun j hj => by rw [Nat.testBit_or, h.1 j hj, Bool.true_or], fun i j hi hb he => ?_⟩
  rw [Nat.testBit_or, Bool.or_eq_true]
  by_cases e : i = k
  · subst e; exact .inr ((hG j).2 he)
  · exact .inl (h.2 i j (by omega) hb he)

theorem MetK.no {nx : List (List Int)} {s V0 k V : Nat} (h : MetK nx s V0 k V) (hn : ¬ (s ||| V).testBit k = true) : MetK nx s V0 (k + 1) V := by
  refine ⟨h.1, fun i j hi hb he => ?_⟩
  by_cases e : i = k
  · subst e
    refine absurd ?_ hn
    rw [Nat.testBit_or, Bool.or_eq_true] at hb ⊢
    exact hb.imp id (h.1 i)
  · exact h.2 i j (by omega) hb he

/-- all edges of what is there are in -/
def Shut (nx : List (List Int)) (s V : Nat) : Prop := ∀ i j, (s ||| V).testBit i = true → EdgeP nx i j → V.testBit j = true

theorem szW_grow {a b x : Nat} (h : ∀ j, a.testBit j = true → b.testBit j = true) (hx : b.testBit x = true) (hn : ¬ a.testBit x = true) : ∀ n, szW a n ≤ szW b n ∧ (x < n → szW a n < szW b n)
  | 0 => ⟨Nat.le_refl _, fun h => by omega⟩
  | n + 1 => by
    obtain ⟨h1, h2⟩ := szW_grow h hx hn n
    rw [szW, szW]
    by_cases ha : a.testBit n = true
    · rw [if_pos ha, if_pos (h n ha)]
      refine ⟨by omega, fun hlt => ?_⟩
      have : x ≠ n := fun e => hn (e ▸ ha)
      have := h2 (by omega)
      omega
    · rw [if_neg ha]
      by_cases hb : b.testBit n = true
      · rw [if_pos hb]; exact ⟨by omega, fun _ => by omega⟩
      · rw [if_neg hb]
        refine ⟨by omega, fun hlt => ?_⟩
        have : x ≠ n := fun e => hb (e ▸ hx)
        have := h2 (by omega)
        omega

theorem Shut.all {nx : List (List Int)} {s V : Nat} (h : Shut nx s V) {j : Nat} (hj : Mt nx s j) : V.testBit j = true :=
  hj.least (S := fun j => V.testBit j = true) (fun i j hi he => h i j (by rw [Nat.testBit_or, hi]; rfl) he) (fun i j hi he => h i j (by rw [Nat.testBit_or, hi, Bool.or_true]) he)

/-- behind a turn: shut, or one more at the least -/
theorem MetK.turn {nx : List (List Int)} (hc : ckWay nx = 0) {s V0 V r : Nat} (h : MetK nx s V0 nx.length V) (hm : Met nx s V) (hr : Shut nx s V0 ∨ r ≤ szW V0 nx.length) : Shut nx s V ∨ r + 1 ≤ szW V nx.length := by
  rcases hr with hr | hr
  · left
    intro i j hb he
    refine h.1 j (hr i j ?_ he)
    rw [Nat.testBit_or, Bool.or_eq_true] at hb ⊢
    exact hb.imp id fun hb => hr.all (hm.ok i hb)
  · by_cases hs : Shut nx s V
    · exact .inl hs
    · right
      obtain ⟨x, hx, hn⟩ : ∃ x, V.testBit x = true ∧ ¬ V0.testBit x = true := by
        refine Classical.byContradiction fun hno => hs fun i j hb he => ?_
        refine h.2 i j (he.lt hc).1 ?_ he
        rw [Nat.testBit_or, Bool.or_eq_true] at hb ⊢
        exact hb.imp id fun hb => Classical.byContradiction fun h2 => hno ⟨i, hb, h2⟩
      have := (szW_grow h.1 hx hn nx.length).2 ((hm.ok x hx).lt hc)
      omega

theorem Met.done {nx : List (List Int)} {s V m : Nat} (hm : Met nx s V) (hr : Shut nx s V ∨ nx.length + 1 ≤ szW V nx.length) (hM : ∀ j, m.testBit j = true ↔ Mt nx s j) : m = V := by
  have hs : Shut nx s V := by
    rcases hr with hr | hr
    · exact hr
    · have := szW_le V nx.length; omega
  exact word_ext fun j => by rw [hM]; exact ⟨fun h => hs.all h, fun h => hm.ok j h⟩

theorem or_256 {a b : Nat} (ha : a < 256) (hb : b < 256) : a ||| b < 256 := Nat.or_lt_two_pow (n := 8) ha hb

set_option maxHeartbeats 4000000 in
theorem lawRuleMeets_any (K : MeetIs) (A : Option Addr) (cap : Nat) (nx : List (List Int)) (s : Nat) (w : World) (hx : RdG w w.heap.size A nx) (hm : nx.length ≤ maxLen) (hs : s < 4294967296) :
    Calls Try.prog 3 #[.slice A nx.length cap, .int .u32 (s : Nat)] w fun e w' => e = .returned (.bool true) ∧ Below w.heap.size w w' := by
  have HM := Lib.hid hm
  unfold maxLen at hm
  by_cases hc : ckWay nx = 0
  · have HC := Lib.hid hc
    obtain ⟨hb1', hb2', _⟩ := ckWay_bd hc
    have hfit : ∀ b, decide (s < 2 ^ nx.length) = b → ckMeet nx s = if b = true then 0 else 4 := fun b hb => by
      unfold ckMeet
      rw [if_pos hc]
      by_cases h : s < 2 ^ nx.length
      · rw [decide_eq_true h] at hb; subst hb; rw [if_pos h, if_pos rfl]
      · rw [decide_eq_false h] at hb; subst hb; rw [if_neg h, if_neg (by simp)]
    obtain ⟨b, hb⟩ : ∃ b, decide (s < 2 ^ nx.length) = b := ⟨_, rfl⟩
    have hck := hfit b hb
    have hfb := hb
    obtain ⟨len, hlen⟩ : ∃ len, nx.length = len := ⟨_, rfl⟩
    rw [hlen] at hb1' hb2' hm hb ⊢
    have HLEN := Lib.hid hlen
    have HB := Lib.hid hb
    have HTU := Lib.hid (fun V0 V r => MetK.turn hc (s := s) (V0 := V0) (V := V) (r := r))
    cases b with
    | true =>
      have hs8 : s < 256 := by
        have := of_decide_eq_true hb
        have h8 : 2 ^ len ≤ 2 ^ 8 := Nat.pow_le_pow_right (by omega) hb2'
        omega
      obtain ⟨f, hf⟩ := dom_bool nx
      have HF := Lib.hid hf
      obtain ⟨g, hg⟩ := edge_words hc
      have HG := Lib.hid hg
      rw [if_pos rfl] at hck
      have HCK := Lib.hid hck
      clear hc hlen hf hg hck hb hfb hfit
      go_enter Try.func3, Try.ntmps3
      go_wp2_with fail
      refine (K.meet A _ cap nx s _ hx HLEN.out hs HCK.out).mono ?_
      rintro e w1 ⟨m, hm8, hmm, rfl, hb1⟩
      have HMM := Lib.hid hmm
      have hx1 := (hx.below hb1 (Nat.le_refl _)).more hb1.size
      clear hmm
      go_wp2_with fail
      refine (refWayCheck_any A _ cap nx _ hx1 HLEN.out).mono ?_
      rintro e w2 ⟨rfl, rfl⟩
      rw [HC.out]
      go_wp2_with fail
      refine (refFits_is len s _ (by omega) hs).mono ?_
      rw [HB.out]
      rintro e w2 ⟨rfl, rfl⟩
      go_wp2
      go_loopw [8, 9] (fun y z wr => ∃ k V : Nat, k ≤ len + 1 ∧ z = .int .i64 k ∧ y = .int .u32 (V : Nat) ∧ V < 256 ∧ Hid (Met nx s V) ∧ Hid (Shut nx s V ∨ k ≤ szW V nx.length) ∧ Below w1.heap.size w1 wr) (fun _ z _ => len + 1 - (intOf z).toNat)
      case atStart => exact ⟨0, 0, Nat.zero_le _, rfl, rfl, by omega, Lib.hid ⟨fun j h => by simp at h⟩, Lib.hid (.inr (Nat.zero_le _)), Below.refl _ _⟩
      case round =>
        obtain ⟨k, V0, hk, rfl, rfl, hV0, HMT, HSH, hbr⟩ := hrel
        have hszr := hbr.size
        by_cases hkt : k ≤ len
        · obtain ⟨wo, rfl⟩ : ∃ wo : World, wo = wr := ⟨_, rfl⟩
          go_wp2
          go_loopw [8, 10] (fun y z wr => ∃ i V : Nat, i ≤ len ∧ z = .int .i64 i ∧ y = .int .u32 (V : Nat) ∧ V < 256 ∧ Hid (Met nx s V) ∧ Hid (MetK nx s V0 i V) ∧ Below w1.heap.size w1 wr) (fun _ z _ => len - (intOf z).toNat)
          case atStart => exact ⟨0, V0, Nat.zero_le _, rfl, rfl, hV0, HMT, Lib.hid ⟨fun j h => h, fun i j h => by omega⟩, hbr⟩
          case round =>
            obtain ⟨i, V, hi, rfl, rfl, hV, HMV, HMK, hbi⟩ := hrel
            have hszi := hbi.size
            by_cases hit : i < len
            · have hxi := (hx1.below hbi (Nat.le_refl _)).more hszi
              have hor1 : bits .or .u32 (s : Int) (V : Int) = ((s ||| V : Nat) : Int) := u32_or_nat _ _ (by omega) (by omega)
              have hsv := or_256 hs8 hV
              have hbn : bitB (s ||| V) (i : Int) = (s ||| V).testBit i := bitB_nat hsv
              obtain ⟨q, hq⟩ : ∃ q, (s ||| V).testBit i = q := ⟨_, rfl⟩
              rw [hq] at hbn
              have HBN := Lib.hid hbn
              cases q with
              | false =>
                have HN := Lib.hid (HMK.out.no (by rw [hq]; simp))
                clear hq hbn
                generalize s ||| V = sv at *
                go_wp2_with fail
                refine (bit_any sv _ _ (by omega)).mono ?_
                rw [HBN.out]
                rintro e w3 ⟨rfl, rfl⟩
                go_wp2
                go_round
                case rel => exact ⟨i + 1, V, by omega, by go_num, rfl, hV, HMV, HN, hbi⟩
                case measure => (simp [intOf]; omega)
              | true =>
                obtain ⟨hg1, hg2⟩ := HG.out i
                have HG2 := Lib.hid hg2
                have HNV := Lib.hid (HMV.out.step hq hg2)
                have HN := Lib.hid (HMK.out.yes hg2)
                have hvg := or_256 hV hg1
                have hor2 : bits .or .u32 (V : Int) ((g i : Nat) : Int) = ((V ||| g i : Nat) : Int) := u32_or_nat _ _ (by omega) (by omega)
                clear hq hbn hg2
                generalize s ||| V = sv at *
                generalize g i = G at *
                go_wp2_with fail
                refine (bit_any sv _ _ (by omega)).mono ?_
                rw [HBN.out]
                rintro e w3 ⟨rfl, rfl⟩
                go_wp2_with fail
                refine (refEdge_any f A _ cap nx i G _ HF.out HG2.out hxi HLEN.out HC.out hit).mono ?_
                rintro e w3 ⟨rfl, hb3⟩
                go_wp2
                go_round
                case rel => exact ⟨i + 1, V ||| G, by omega, by go_num, by first | rfl | (rw [← hor2]), hvg, HNV, HN, hbi.trans (hb3.mono hszi)⟩
                case measure => (simp [intOf]; omega)
            · have hil : i = len := by omega
              have HT := Lib.hid (HTU.out V0 V k (by rw [HLEN.out, ← hil]; exact HMK.out) HMV.out HSH.out)
              go_wp2
              go_round
              case rel => exact ⟨k + 1, V, by omega, by go_num, rfl, hV, HMV, HT, hbi⟩
              case measure => (simp [intOf]; omega)
        · have hkl : k = len + 1 := by omega
          have hmv : m = V0 := Met.done HMT.out (by rw [HLEN.out, ← hkl, ← HLEN.out]; exact HSH.out) HMM.out
          subst hmv
          subst hkl
          go_wp2
          go_ret
          exact ⟨ret_bool (by simp), hb1.trans (hbr.mono hb1.size)⟩
    | false =>
      rw [if_neg (by simp)] at hck
      have HCK := Lib.hid hck
      have HNE : Hid (ckMeet nx s ≠ 0) := Lib.hid (by rw [hck]; omega)
      clear hc hlen hck hb hfb hfit HTU
      go_enter Try.func3, Try.ntmps3
      go_wp2_with fail
      refine (K.meetBad A _ cap nx s _ hx HLEN.out (by unfold maxLen; omega) hs HNE.out).mono ?_
      rw [HCK.out]
      rintro e w1 ⟨rfl, hb1⟩
      have hx1 := (hx.below hb1 (Nat.le_refl _)).more hb1.size
      go_wp2_with fail
      refine (refWayCheck_any A _ cap nx _ hx1 HLEN.out).mono ?_
      rintro e w2 ⟨rfl, rfl⟩
      rw [HC.out]
      go_wp2_with fail
      refine (refFits_is len s _ (by omega) hs).mono ?_
      rw [HB.out]
      rintro e w2 ⟨rfl, rfl⟩
      go_wp2
      go_ret
      exact ⟨ret_bool (by simp), hb1⟩
  · have hck : ckMeet nx s = ckWay nx := by unfold ckMeet; rw [if_neg hc]
    have hne : (ckWay nx == 0) = false := by simp [hc]
    have hne2 : (ckWay nx != 0) = true := by simp [hc]
    have HNE : Hid (ckMeet nx s ≠ 0) := Lib.hid (by rw [hck]; exact hc)
    have HCK := Lib.hid hck
    clear hc hck
    go_enter Try.func3, Try.ntmps3
    go_wp2_with fail
    refine (K.meetBad A _ cap nx s _ hx rfl HM.out hs HNE.out).mono ?_
    rw [HCK.out]
    rintro e w1 ⟨rfl, hb1⟩
    have hx1 := (hx.below hb1 (Nat.le_refl _)).more hb1.size
    go_wp2_with fail
    refine (refWayCheck_any A _ cap nx _ hx1 rfl).mono ?_
    rintro e w2 ⟨rfl, rfl⟩
    go_wp2
    go_ret
    exact ⟨ret_bool (by simp), hb1⟩

/-- at a row's word -/
theorem lawRuleMeets_int (K : MeetIs) (A : Option Addr) (cap : Nat) (nx : List (List Int)) (s : Int) (w : World) (hx : RdG w w.heap.size A nx) (hm : nx.length ≤ maxLen) (hs : (Lit.int .u32 s).wf = true) :
    Calls Try.prog 3 #[.slice A nx.length cap, .int .u32 s] w fun e w' => e = .returned (.bool true) ∧ Below w.heap.size w w' := by
  obtain ⟨h0, h1⟩ := u32_of hs
  obtain ⟨n, rfl⟩ := Int.eq_ofNat_of_zero_le h0
  exact lawRuleMeets_any K A cap nx n w hx hm (by omega)

set_option maxRecDepth 100000 in
theorem lawRuleMeets_lifted (os : Os) (started : os.Started) (H : Type) (enc : TypeId × Value → H) :
    ReturnsInHanded {} Try.checked os 3 .any (Rows.ruleMeetsSpec.pre6 enc Try.prog Try.f3 Rows.ruleMeetsRow.domain false) (Rows.ruleMeetsSpec.post enc Try.prog Try.f3 false true false false) := by
  refine returnsInHanded_of_change_sized (C := Try.checked) Try.own started (by kernel_rfl) Try.func3
    (ChangeSpec.witness6 (enc := enc) (C := Try.checked) false ⟨#[], #[.slice none 0 0, .int .u32 0], []⟩ 8 (by kernel_rfl) (by kernel_rfl) (by kernel_rfl) (by kernel_rfl)) ?_
  intro W base args ds gs before hval0 hW hcnd hsz _
  have hval : ∀ (j : Nat) t v, Try.f3.params[j]? = some t → args[j]? = some v → Value.okWide Try.prog W .any base t v := hval0
  have hW' := hW
  obtain ⟨p, q, hA0, hV, rfl, hfz, hnd⟩ := hW
  have hA : DataW.TrodAll enc Try.prog W 0 (fun _ => true) true Try.f3.params.toList args.toList ds p := hA0
  obtain ⟨hgs, _⟩ := trodVars_none hV
  rw [Try.params3] at hA hval
  obtain ⟨v0, vs0, d0, ds0, p0, q0, hargs, rfl, rfl, h0, r0⟩ := trodAll_cons hA
  obtain ⟨v1, vs1, d1, ds1, p1, q1, rfl, rfl, rfl, h1, r1⟩ := trodAll_cons r0
  obtain ⟨rfl, rfl, rfl⟩ := trodAll_nil r1
  have hargs2 : args = #[v0, v1] := Array.toList_inj.1 hargs
  subst hargs2
  obtain ⟨A0, c0, l0, rfl, lc0, cm0, x0, r0⟩ := open_graphA (hval 0 22 v0 rfl rfl) h0
  have b0 := len_reach Try.underlying22 (hval 0 22 _ rfl rfl) h0 hsz (j := 0) (by rw [Try.params3]; rfl) rfl
  rw [show Try.prog.bytesOf (Try.prog.elem 22) = 24 from by kernel_rfl] at b0
  obtain ⟨a1, rfl, _, _, w1⟩ := open_int Try.underlying23 (hval 1 23 v1 rfl rfl) h1
  refine (lawRuleMeets_int meetIs A0 c0 l0 a1 _ x0 (by omega) w1).mono fun e W' ⟨he, hb⟩ => ?_
  subst he
  exact ⟨_, rfl, law_post Try.laidOut rfl (by kernel_rfl) Try.underlying4 ⟨rfl, rfl, rfl⟩ (by kernel_rfl) hW' hb⟩

theorem ruleMeets_holds : Rows.RuleMeetsSaid :=
  OpenClaim.holds_of_wide 3 Try.f3 rfl rfl rfl rfl rfl rfl rfl ⟨rfl, rfl, rfl, rfl, rfl⟩ rfl rfl rfl rfl rfl (by kernel_rfl) Try.func3 (show joinedFacts Try.prog 3 Try.f3 Rows.ruleMeetsSpec Rows.ruleMeetsRow = true from (by unfold joinedFacts; (repeat' (with_reducible refine and_both ?_ ?_)) <;> first | (with_reducible exact may_enter) | ((with_reducible refine make_ok ?_); rfl) | ((with_reducible refine lifts_ok ?_); rfl) | kernel_rfl))
    (of_decide_eq_true (by kernel_rfl)) (by unfold Func.isWrapper; rw [if_neg (of_decide_eq_false (by kernel_rfl))]; exact ⟨rfl, rfl⟩)
    (fun os started H enc _ => lawRuleMeets_lifted os started H enc)

end Go.Proofs.Ytpbajalecfaibaa
