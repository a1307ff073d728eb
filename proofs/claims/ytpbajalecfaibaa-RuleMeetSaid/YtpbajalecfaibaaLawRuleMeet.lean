/-
  Where ways from two sets meet is where those from either meet, and meeting twice adds nothing: codemasonkeep.RuleMeet returns true and leaves its arguments alone. No condition.
-/
import Derived.Test.YtpbajalecfaibaaLawRule
import Derived.Test.YtpbajalecfaibaaRule
namespace Go.Proofs.Ytpbajalecfaibaa
open Go.RowKit Go.ChangeShapes Go.WideShapes Go.ChangeAt Go.Deep
set_option linter.unusedSimpArgs false
set_option linter.unusedVariables false
set_option maxRecDepth 100000

theorem meet_code (K : MeetIs) (A : Option Addr) (len cap : Nat) (nx : List (List Int)) (s : Nat) (w : World) (hx : RdG w w.heap.size A nx) (hl : nx.length = len) (hm : len ≤ maxLen) (hs : s < 4294967296) :
    Calls Try.prog 12 #[.slice A len cap, .int .u32 (s : Nat)] w fun e w' => ∃ m : Nat, e = .returned (.tuple #[.int .u32 (m : Nat), .int .i64 (ckMeet nx s)]) ∧ Below w.heap.size w w' := by
  by_cases h : ckMeet nx s = 0
  · exact (K.meet A len cap nx s w hx hl hs h).mono fun e w' ⟨m, _, _, h1, h2⟩ => ⟨m, by rw [h1, h], h2⟩
  · exact (K.meetBad A len cap nx s w hx hl hm hs h).mono fun e w' ⟨h1, h2⟩ => ⟨0, h1, h2⟩

theorem mt_lt {nx : List (List Int)} (hc : ckWay nx = 0) {s m : Nat} (h : ∀ j, m.testBit j = true ↔ Mt nx s j) : m < 2 ^ nx.length := Nat.lt_pow_two_of_testBit m fun i hi => by
  cases hb : m.testBit i with
  | false => rfl
  | true => have := ((h i).1 hb).lt hc; omega

theorem fit_or {a b n : Nat} (h : ¬ a ||| b < 2 ^ n) : ¬ a < 2 ^ n ∨ ¬ b < 2 ^ n := by
  refine Classical.byContradiction fun h2 => h ?_
  rw [not_or, Classical.not_not, Classical.not_not] at h2
  exact Nat.or_lt_two_pow h2.1 h2.2

theorem fit_parts {a b n : Nat} (h : a ||| b < 2 ^ n) : a < 2 ^ n ∧ b < 2 ^ n :=
  ⟨Nat.lt_of_le_of_lt Nat.left_le_or h, Nat.lt_of_le_of_lt Nat.right_le_or h⟩

set_option maxHeartbeats 4000000 in
theorem lawRuleMeet_any (K : MeetIs) (A : Option Addr) (cap : Nat) (nx : List (List Int)) (a b : Nat) (w : World) (hx : RdG w w.heap.size A nx) (hm : nx.length ≤ maxLen) (ha : a < 4294967296) (hb : b < 4294967296) :
    Calls Try.prog 4 #[.slice A nx.length cap, .int .u32 (a : Nat), .int .u32 (b : Nat)] w fun e w' => e = .returned (.bool true) ∧ Below w.heap.size w w' := by
  have HM := Lib.hid hm
  unfold maxLen at hm
  have hab : a ||| b < 4294967296 := Nat.or_lt_two_pow (n := 32) ha hb
  have hor : bits .or .u32 (a : Int) (b : Int) = ((a ||| b : Nat) : Int) := u32_or_nat _ _ ha hb
  by_cases hc : ckWay nx = 0
  · obtain ⟨hb1', hb2', _⟩ := ckWay_bd hc
    have HC := Lib.hid hc
    by_cases hfit : a ||| b < 2 ^ nx.length
    · obtain ⟨hfa, hfb⟩ := fit_parts hfit
      have HCA := Lib.hid (ckMeet_of hc hfa)
      have HCB := Lib.hid (ckMeet_of hc hfb)
      have HCAB := Lib.hid (ckMeet_of hc hfit)
      have HD := Lib.hid (decide_eq_true hfit)
      have HAX := Lib.hid (fun (m : Nat) (h : ∀ j, m.testBit j = true ↔ Mt nx a j) => ckMeet_of hc (Nat.or_lt_two_pow hfa (mt_lt hc h)))
      clear hc hfit hfa hfb
      generalize hq : a ||| b = ab at *
      have HQ := Lib.hid hq
      clear hq
      go_enter Try.func4, Try.ntmps4
      go_wp2_with fail
      refine (K.meet A _ cap nx a _ hx rfl ha HCA.out).mono ?_
      rintro e w1 ⟨x, hx8, hxm, rfl, hb1⟩
      have HXM := Lib.hid hxm
      have hx1 := (hx.below hb1 (Nat.le_refl _)).more hb1.size
      go_wp2_with fail
      refine (K.meet A _ cap nx b _ hx1 rfl hb HCB.out).mono ?_
      rintro e w2 ⟨y, hy8, hym, rfl, hb2⟩
      have HYM := Lib.hid hym
      have hb02 := hb1.trans (hb2.mono hb1.size)
      have hx2 := (hx.below hb02 (Nat.le_refl _)).more hb02.size
      clear hxm hym
      go_wp2_with fail
      refine (K.meet A _ cap nx ab _ hx2 rfl hab HCAB.out).mono ?_
      rintro e w3 ⟨z, hz8, hzm, rfl, hb3⟩
      have HZM := Lib.hid hzm
      have hb03 := hb02.trans (hb3.mono hb02.size)
      have hx3 := (hx.below hb03 (Nat.le_refl _)).more hb03.size
      have hzxy : z = x ||| y := word_ext fun j => by
        rw [HZM.out, ← HQ.out, Mt.or, Nat.testBit_or, Bool.or_eq_true, HXM.out, HYM.out]
      have hor2 : bits .or .u32 (x : Int) (y : Int) = ((x ||| y : Nat) : Int) := u32_or_nat _ _ (by omega) (by omega)
      have hor3 : bits .or .u32 (a : Int) (x : Int) = ((a ||| x : Nat) : Int) := u32_or_nat _ _ (by omega) (by omega)
      rw [← hzxy] at hor2
      have hax : a ||| x < 4294967296 := Nat.or_lt_two_pow (n := 32) ha (by omega)
      clear hzm hzxy hb1 hb2 hb3
      go_wp2_with fail
      refine (may_any A _ cap nx _ hx3 rfl HM.out).mono ?_
      rw [decide_eq_true HC.out]
      rintro e w4 ⟨rfl, rfl⟩
      go_wp2_with fail
      refine (refFits_is nx.length ab _ (by omega) hab).mono ?_
      rw [HD.out]
      rintro e w4 ⟨rfl, rfl⟩
      have HCAX := Lib.hid (HAX.out x HXM.out)
      have HTW := Lib.hid (fun j => Mt.twice (nx := nx) (a := a) (x := x) (j := j) HXM.out)
      generalize a ||| x = ax at *
      go_wp2_with fail
      refine (K.meet A _ cap nx ax _ hx3 rfl hax HCAX.out).mono ?_
      rintro e w5 ⟨v, hv8, hvm, rfl, hb5⟩
      have hvx : v = x := word_ext fun j => by rw [hvm, HTW.out, HXM.out]
      subst hvx
      clear hvm
      go_wp2
      go_ret
      exact ⟨ret_bool (by simp), hb03.trans (hb5.mono hb03.size)⟩
    · have HD := Lib.hid (decide_eq_false hfit)
      have hbad : ckMeet nx a ≠ 0 ∨ ckMeet nx b ≠ 0 := (fit_or hfit).imp (fun h h2 => h (ckMeet_ok h2).2) (fun h h2 => h (ckMeet_ok h2).2)
      clear hc hfit
      generalize a ||| b = ab at *
      obtain ⟨ca, hca⟩ : ∃ ca, ckMeet nx a = ca := ⟨_, rfl⟩
      obtain ⟨cb, hcb⟩ : ∃ cb, ckMeet nx b = cb := ⟨_, rfl⟩
      rw [hca, hcb] at hbad
      have HCA := Lib.hid hca
      have HCB := Lib.hid hcb
      have HBAD := Lib.hid hbad
      clear hca hcb hbad
      go_enter Try.func4, Try.ntmps4
      go_wp2_with fail
      refine (meet_code K A _ cap nx a _ hx rfl HM.out ha).mono ?_
      rw [HCA.out]
      rintro e w1 ⟨x, rfl, hb1⟩
      have hx1 := (hx.below hb1 (Nat.le_refl _)).more hb1.size
      go_wp2_with fail
      refine (meet_code K A _ cap nx b _ hx1 rfl HM.out hb).mono ?_
      rw [HCB.out]
      rintro e w2 ⟨y, rfl, hb2⟩
      have hb02 := hb1.trans (hb2.mono hb1.size)
      have hx2 := (hx.below hb02 (Nat.le_refl _)).more hb02.size
      go_wp2_with fail
      refine (meet_code K A _ cap nx ab _ hx2 rfl HM.out hab).mono ?_
      rintro e w3 ⟨z, rfl, hb3⟩
      have hb03 := hb02.trans (hb3.mono hb02.size)
      have hx3 := (hx.below hb03 (Nat.le_refl _)).more hb03.size
      clear hb1 hb2 hb3
      go_wp2_with fail
      refine (may_any A _ cap nx _ hx3 rfl HM.out).mono ?_
      rw [decide_eq_true HC.out]
      rintro e w4 ⟨rfl, rfl⟩
      go_wp2_with fail
      refine (refFits_is nx.length ab _ (by omega) hab).mono ?_
      rw [HD.out]
      rintro e w4 ⟨rfl, rfl⟩
      rcases HBAD.out with h | h
      · have hne : (ca != 0) = true := by simp [h]
        clear h
        go_wp2
        go_ret
        exact ⟨rfl, hb03⟩
      · have hne : (cb != 0) = true := by simp [h]
        clear h
        by_cases h2 : ca = 0
        · subst h2
          go_wp2
          go_ret
          exact ⟨ret_bool (by simp), hb03⟩
        · have hne2 : (ca != 0) = true := by simp [h2]
          clear h2
          go_wp2
          go_ret
          exact ⟨ret_bool (by simp), hb03⟩
  · have HC := Lib.hid hc
    have hne : (ckWay nx != 0) = true := by simp [hc]
    have HCK : Hid (∀ s, ckMeet nx s = ckWay nx) := Lib.hid fun s => by unfold ckMeet; rw [if_neg hc]
    clear hc
    generalize a ||| b = ab at *
    go_enter Try.func4, Try.ntmps4
    go_wp2_with fail
    refine (meet_code K A _ cap nx a _ hx rfl HM.out ha).mono ?_
    rw [HCK.out]
    rintro e w1 ⟨x, rfl, hb1⟩
    have hx1 := (hx.below hb1 (Nat.le_refl _)).more hb1.size
    go_wp2_with fail
    refine (meet_code K A _ cap nx b _ hx1 rfl HM.out hb).mono ?_
    rw [HCK.out]
    rintro e w2 ⟨y, rfl, hb2⟩
    have hb02 := hb1.trans (hb2.mono hb1.size)
    have hx2 := (hx.below hb02 (Nat.le_refl _)).more hb02.size
    go_wp2_with fail
    refine (meet_code K A _ cap nx ab _ hx2 rfl HM.out hab).mono ?_
    rintro e w3 ⟨z, rfl, hb3⟩
    have hb03 := hb02.trans (hb3.mono hb02.size)
    have hx3 := (hx.below hb03 (Nat.le_refl _)).more hb03.size
    clear hb1 hb2 hb3
    go_wp2_with fail
    refine (may_any A _ cap nx _ hx3 rfl HM.out).mono ?_
    rw [decide_eq_false HC.out]
    rintro e w4 ⟨rfl, rfl⟩
    go_wp2
    go_ret
    exact ⟨ret_bool (by simp), hb03⟩

theorem lawRuleMeet_int (K : MeetIs) (A : Option Addr) (cap : Nat) (nx : List (List Int)) (a b : Int) (w : World) (hx : RdG w w.heap.size A nx) (hm : nx.length ≤ maxLen) (ha : (Lit.int .u32 a).wf = true) (hb : (Lit.int .u32 b).wf = true) :
    Calls Try.prog 4 #[.slice A nx.length cap, .int .u32 a, .int .u32 b] w fun e w' => e = .returned (.bool true) ∧ Below w.heap.size w w' := by
  obtain ⟨h0, h1⟩ := u32_of ha
  obtain ⟨g0, g1⟩ := u32_of hb
  obtain ⟨n, rfl⟩ := Int.eq_ofNat_of_zero_le h0
  obtain ⟨m, rfl⟩ := Int.eq_ofNat_of_zero_le g0
  exact lawRuleMeet_any K A cap nx n m w hx hm (by omega) (by omega)

set_option maxRecDepth 100000 in
theorem lawRuleMeet_lifted (os : Os) (started : os.Started) (H : Type) (enc : TypeId × Value → H) :
    ReturnsInHanded {} Try.checked os 4 .any (Rows.ruleMeetSpec.pre6 enc Try.prog Try.f4 Rows.ruleMeetRow.domain false) (Rows.ruleMeetSpec.post enc Try.prog Try.f4 false true false false) := by
  refine returnsInHanded_of_change_sized (C := Try.checked) Try.own started (by kernel_rfl) Try.func4
    (ChangeSpec.witness6 (enc := enc) (C := Try.checked) false ⟨#[], #[.slice none 0 0, .int .u32 0, .int .u32 0], []⟩ 8 (by kernel_rfl) (by kernel_rfl) (by kernel_rfl) (by kernel_rfl)) ?_
  intro W base args ds gs before hval0 hW hcnd hsz _
  have hval : ∀ (j : Nat) t v, Try.f4.params[j]? = some t → args[j]? = some v → Value.okWide Try.prog W .any base t v := hval0
  have hW' := hW
  obtain ⟨p, q, hA0, hV, rfl, hfz, hnd⟩ := hW
  have hA : DataW.TrodAll enc Try.prog W 0 (fun _ => true) true Try.f4.params.toList args.toList ds p := hA0
  obtain ⟨hgs, _⟩ := trodVars_none hV
  rw [Try.params4] at hA hval
  obtain ⟨v0, vs0, d0, ds0, p0, q0, hargs, rfl, rfl, h0, r0⟩ := trodAll_cons hA
  obtain ⟨v1, vs1, d1, ds1, p1, q1, rfl, rfl, rfl, h1, r1⟩ := trodAll_cons r0
  obtain ⟨v2, vs2, d2, ds2, p2, q2, rfl, rfl, rfl, h2, r2⟩ := trodAll_cons r1
  obtain ⟨rfl, rfl, rfl⟩ := trodAll_nil r2
  have hargs2 : args = #[v0, v1, v2] := Array.toList_inj.1 hargs
  subst hargs2
  obtain ⟨A0, c0, l0, rfl, lc0, cm0, x0, r0⟩ := open_graphA (hval 0 22 v0 rfl rfl) h0
  have b0 := len_reach Try.underlying22 (hval 0 22 _ rfl rfl) h0 hsz (j := 0) (by rw [Try.params4]; rfl) rfl
  rw [show Try.prog.bytesOf (Try.prog.elem 22) = 24 from by kernel_rfl] at b0
  obtain ⟨a1, rfl, _, _, w1⟩ := open_int Try.underlying23 (hval 1 23 v1 rfl rfl) h1
  obtain ⟨a2, rfl, _, _, w2⟩ := open_int Try.underlying23 (hval 2 23 v2 rfl rfl) h2
  refine (lawRuleMeet_int meetIs A0 c0 l0 a1 a2 _ x0 (by omega) w1 w2).mono fun e W' ⟨he, hb⟩ => ?_
  subst he
  exact ⟨_, rfl, law_post Try.laidOut rfl (by kernel_rfl) Try.underlying4 ⟨rfl, rfl, rfl⟩ (by kernel_rfl) hW' hb⟩

theorem ruleMeet_holds : Rows.RuleMeetSaid :=
  OpenClaim.holds_of_wide 4 Try.f4 rfl rfl rfl rfl rfl rfl rfl ⟨rfl, rfl, rfl, rfl, rfl⟩ rfl rfl rfl rfl rfl (by kernel_rfl) Try.func4 (show joinedFacts Try.prog 4 Try.f4 Rows.ruleMeetSpec Rows.ruleMeetRow = true from (by unfold joinedFacts; (repeat' (with_reducible refine and_both ?_ ?_)) <;> first | (with_reducible exact may_enter) | ((with_reducible refine make_ok ?_); rfl) | ((with_reducible refine lifts_ok ?_); rfl) | kernel_rfl))
    (of_decide_eq_true (by kernel_rfl)) (by unfold Func.isWrapper; rw [if_neg (of_decide_eq_false (by kernel_rfl))]; exact ⟨rfl, rfl⟩)
    (fun os started H enc _ => lawRuleMeet_lifted os started H enc)

end Go.Proofs.Ytpbajalecfaibaa
