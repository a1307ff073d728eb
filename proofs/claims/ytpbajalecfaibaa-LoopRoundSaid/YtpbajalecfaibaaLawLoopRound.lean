/-
  In a reducible graph every node of a reached cycle belongs to a loop, and no other node does (Hecht and Ullman): codemasonkeep.LoopRound returns true and leaves its arguments alone. No condition.
-/
import Derived.Test.YtpbajalecfaibaaLawLoop
import Derived.Test.YtpbajalecfaibaaLoopFold
namespace Go.Proofs.Ytpbajalecfaibaa
open Go.RowKit Go.ChangeShapes Go.WideShapes Go.ChangeAt Go.Deep
set_option linter.unusedSimpArgs false
set_option linter.unusedVariables false
set_option maxRecDepth 100000

theorem szW_mono {s m : Nat} : ∀ {n : Nat}, m ≤ n → szW s m ≤ szW s n
  | 0, h => by have : m = 0 := by omega
               subst this; exact Nat.le_refl _
  | n + 1, h => by
    by_cases e : m = n + 1
    · subst e; exact Nat.le_refl _
    · have := szW_mono (s := s) (show m ≤ n by omega)
      rw [szW]
      omega

theorem szW_two {s i j n : Nat} (hi : s.testBit i = true) (hj : s.testBit j = true) (hij : i < j) (hn : j < n) : 1 < szW s n := by
  have h1 : szW s (i + 1) = szW s i + 1 := by rw [szW, if_pos hi]
  have h2 : szW s (j + 1) = szW s j + 1 := by rw [szW, if_pos hj]
  have h3 := szW_mono (s := s) (show i + 1 ≤ j by omega)
  have h4 := szW_mono (s := s) (show j + 1 ≤ n by omega)
  omega

theorem szW_one {s i : Nat} (h : ∀ j, s.testBit j = true → j = i) : ∀ n, szW s n ≤ 1 ∧ (n ≤ i → szW s n = 0)
  | 0 => ⟨by simp [szW], fun _ => rfl⟩
  | n + 1 => by
    obtain ⟨h1, h2⟩ := szW_one h n
    rw [szW]
    by_cases hb : s.testBit n = true
    · have := h n hb
      rw [if_pos hb]
      exact ⟨by have := h2 (by omega); omega, fun hn => by omega⟩
    · rw [if_neg hb]
      exact ⟨by omega, fun hn => by have := h2 (by omega); omega⟩

theorem szW_more {s i : Nat} (hs : s < 2 ^ 8) (hi : s.testBit i = true) : 1 < szW s 32 ↔ ∃ j, j ≠ i ∧ s.testBit j = true := by
  have hlt : ∀ j, s.testBit j = true → j < 8 := fun j hj => by
    rcases Nat.lt_or_ge j 8 with h | h
    · exact h
    · rw [Nat.testBit_lt_two_pow (Nat.lt_of_lt_of_le hs (Nat.pow_le_pow_right (by omega) h))] at hj; cases hj
  constructor
  · intro h
    refine Classical.byContradiction fun hn => ?_
    have := (szW_one (s := s) (i := i) (fun j hj => Classical.byContradiction fun e => hn ⟨j, e, hj⟩) 32).1
    omega
  · rintro ⟨j, hne, hj⟩
    have h1 := hlt i hi
    have h2 := hlt j hj
    rcases Nat.lt_or_ge i j with h | h
    · exact szW_two hi hj h (by omega)
    · exact szW_two hj hi (by omega) (by omega)

/-- a node to which one comes that lies on a round -/
def Rnd (nx : List (List Int)) (i : Nat) : Prop := Rea nx (-1) 0 i ∧ (i ∈ sc nx i ∨ ∃ j, j ≠ i ∧ Both nx i j)

set_option maxHeartbeats 8000000 in
theorem lawLoopRound_ok (K : LoopIs) (P : PartIs) (A : Option Addr) (cap : Nat) (nx : List (List Int)) (w : World) (hx : RdG w w.heap.size A nx) (hm : nx.length ≤ maxLen) (hc : ckWay nx = 0) :
    Calls Try.prog 11 #[.slice A nx.length cap] w fun e w' => e = .returned (.bool true) ∧ Below w.heap.size w w' := by
  have HM := Lib.hid hm
  unfold maxLen at hm
  have HC := Lib.hid hc
  obtain ⟨hb1', hb2', _⟩ := ckWay_bd hc
  obtain ⟨len, hlen⟩ : ∃ len, nx.length = len := ⟨_, rfl⟩
  have HLEN := Lib.hid hlen
  have HP2 : Hid (2 ^ nx.length ≤ 2 ^ 8) := Lib.hid (Nat.pow_le_pow_right (by omega) hb2')
  rw [hlen] at hb1' hb2' hm ⊢
  have HML : Hid (len ≤ maxLen) := Lib.hid (by unfold maxLen; omega)
  have hrw := reachW_lt nx
  have hrb : ∀ i : Nat, (bitB (reachW nx) (i : Int) = true ↔ Rea nx (-1) 0 i) := fun i => by
    rw [bitB_nat hrw]
    unfold reachW
    rw [if_pos hc, setW_bit, fin_mem hc]
  obtain ⟨R, hR⟩ : ∃ R, reachW nx = R := ⟨_, rfl⟩
  rw [hR] at hrw hrb
  have HRE := Lib.hid hR
  have HRB := Lib.hid hrb
  have hR32 : R < 4294967296 := by omega
  clear hc hlen hrb hR
  go_enter Try.func11, Try.ntmps11
  go_wp2_with fail
  refine (K.tame A _ cap nx _ hx HLEN.out HC.out).mono ?_
  rintro e w0 ⟨T, hT, rfl, hb0⟩
  have HT := Lib.hid hT
  clear hT
  have hx0 := (hx.below hb0 (Nat.le_refl _)).more hb0.size
  go_wp2_with fail
  refine (K.deep A _ cap nx _ hx0 HLEN.out HC.out).mono ?_
  rintro e w1 ⟨ds, A1, c1, hpt, rfl, hr1, hb1⟩
  have hb01 := hb0.trans (hb1.mono hb0.size)
  have hx1 := (hx.below hb01 (Nat.le_refl _)).more hb01.size
  have HDP := Lib.hid hpt
  have HDL := Lib.hid (hpt.len.trans HLEN.out)
  clear hpt
  go_wp2_with fail
  refine (P.parts A _ cap nx _ hx1 HLEN.out HC.out).mono ?_
  rintro e w2 ⟨ws, A2, c2, hpt, rfl, hr2, hb2⟩
  have HPT := Lib.hid hpt
  have HWL := Lib.hid (hpt.len.trans HLEN.out)
  clear hpt
  have hb02 := hb01.trans (hb2.mono hb01.size)
  have hx2 := (hx.below hb02 (Nat.le_refl _)).more hb02.size
  have hd2 := (hr1.below hb2 (Nat.le_refl _)).more hb2.size
  go_wp2_with fail
  refine (P.reach A _ cap nx _ hx2 HLEN.out HML.out).mono ?_
  rw [HRE.out, HC.out]
  rintro e w3 ⟨rfl, hb3⟩
  have hbw := hb02.trans (hb3.mono hb02.size)
  have hp3 := (hr2.below hb3 (Nat.le_refl _)).more hb3.size
  have hd3 := (hd2.below hb3 (Nat.le_refl _)).more hb3.size
  have hx3 := (hx2.below hb3 (Nat.le_refl _)).more hb3.size
  clear hr1 hr2 hd2 hb0 hb1 hb2 hb3 hb01 hb02 hx0 hx1 hx2
  go_wp2_with fail
  refine (may_any A _ cap nx _ hx3 HLEN.out HML.out).mono ?_
  rw [decide_eq_true HC.out]
  rintro e w4 ⟨rfl, rfl⟩
  go_wp2
  go_loop [11] (fun z => ∃ i : Nat, i ≤ len ∧ z = .int .i64 i) (fun z => len - (intOf z).toNat)
  case atStart => exact ⟨0, Nat.zero_le _, rfl⟩
  case round =>
    obtain ⟨i, hi, rfl⟩ := hrel
    by_cases hlt : i < len
    · obtain ⟨a1, W, rfl, hbl1, hW, hcx⟩ := hp3.at_ (k := i) (by rw [HWL.out]; exact hlt)
      obtain ⟨a2, d, rfl, hbl4, hdd, hcd⟩ := hd3.at_ (k := i) (by rw [HDL.out]; exact hlt)
      obtain ⟨ad, row, Ar, cr, rfl, hbl2, hd, hcell, hrow⟩ := hx3.at_ (k := i) (by rw [HLEN.out]; exact hlt)
      have hrs := row_sc HC.out hd
      subst hrs
      obtain ⟨sl, hsl2⟩ : ∃ sl, (ni (sc nx i)).length = sl := ⟨_, rfl⟩
      have hsl3 : sl ≤ 3 := by have := sc_len HC.out i; rw [← hsl2]; simpa [ni] using this
      rw [hsl2] at hcell
      have HSL := Lib.hid hsl2
      have hslm : sl ≤ maxLen := by unfold maxLen; omega
      have hW8 : W < 2 ^ 8 := Nat.lt_of_lt_of_le (HPT.out.lt i W hW) HP2.out
      have hme := HPT.out.me hW
      have hmore : 1 < szW W 32 ↔ ∃ j, j ≠ i ∧ Both nx i j := by
        rw [szW_more hW8 hme]
        constructor
        · rintro ⟨j, h1, h2⟩; exact ⟨j, h1, (HPT.out.mem i W hW j).1 h2⟩
        · rintro ⟨j, h1, h2⟩; exact ⟨j, h1, (HPT.out.mem i W hW j).2 h2⟩
      have hW32 : W < 4294967296 := by omega
      have hsz32 := szW_le W 32
      obtain ⟨m, hm2⟩ : ∃ m, szW W 32 = m := ⟨_, rfl⟩
      rw [hm2] at hmore hsz32
      have HM2 := Lib.hid hm2
      obtain ⟨r, hr⟩ : ∃ r, bitB R (i : Int) = r := ⟨_, rfl⟩
      have hrr := HRB.out i
      rw [hr] at hrr
      have HR := Lib.hid hr
      obtain ⟨h, hh⟩ : ∃ h, hasB (ni (sc nx i)) (i : Int) = h := ⟨_, rfl⟩
      have hhm : h = true ↔ i ∈ sc nx i := by rw [← hh, hasB_iff, ni_mem]
      have HH := Lib.hid hh
      have HRR := Lib.hid hrr
      have HHM := Lib.hid hhm
      have HMORE := Lib.hid hmore
      have hz := dps_zero HC.out HDP.out hdd
      have HYES : Hid (Rnd nx i → T = true → (d == 0) = false) := Lib.hid fun h1 h2 => by
        have h3 := hz.2 (round_loop HC.out (HT.out.1 h2) h1.1 h1.2)
        simpa using h3
      have HNO : Hid (¬ Rnd nx i → (d != 0) = false) := Lib.hid fun h1 => by
        have h3 : d = 0 := Classical.byContradiction fun h4 => h1 (by
          obtain ⟨k, hk⟩ := hz.1 h4
          exact loop_round HC.out hk)
        simpa using h3
      clear hW hme hm2 hr hh hrr hhm hmore hd hsl2 hW8 hz hdd
      cases r with
      | false =>
        have e1 := HNO.out (fun h => absurd (HRR.out.2 h.1) (by simp))
        go_wp2_with fail
        refine (bit_any R _ _ hR32).mono ?_
        rw [HR.out]
        rintro e w5 ⟨rfl, rfl⟩
        cases T <;>
          (go_wp2
           go_round
           case rel => exact ⟨i + 1, by omega, by go_num⟩
           case measure => (simp [intOf]; omega))
      | true =>
        have HREA := Lib.hid (HRR.out.1 rfl)
        by_cases hgt : 1 < m
        · have HY := Lib.hid (HYES.out ⟨HREA.out, .inr (HMORE.out.1 hgt)⟩)
          go_wp2_with fail
          refine (bit_any R _ _ hR32).mono ?_
          rw [HR.out]
          rintro e w5 ⟨rfl, rfl⟩
          go_wp2_with fail
          refine (refSize_any W _ hW32).mono ?_
          rw [HM2.out]
          rintro e w5 ⟨rfl, rfl⟩
          cases T with
          | true =>
            have e1 := HY.out rfl
            go_wp2
            go_round
            case rel => exact ⟨i + 1, by omega, by go_num⟩
            case measure => (simp [intOf]; omega)
          | false =>
            go_wp2
            go_round
            case rel => exact ⟨i + 1, by omega, by go_num⟩
            case measure => (simp [intOf]; omega)
        · have hgf : decide ((1 : Int) < (m : Int)) = false := by simp; omega
          go_wp2_with fail
          refine (bit_any R _ _ hR32).mono ?_
          rw [HR.out]
          rintro e w5 ⟨rfl, rfl⟩
          go_wp2_with fail
          refine (refSize_any W _ hW32).mono ?_
          rw [HM2.out]
          rintro e w5 ⟨rfl, rfl⟩
          go_wp2_with fail
          refine (has_any _ Ar sl cr (ni (sc nx i)) _ _ hrow HSL.out hslm).mono ?_
          rw [HH.out]
          rintro e w5 ⟨rfl, rfl⟩
          cases h with
          | true =>
            have HY := Lib.hid (HYES.out ⟨HREA.out, .inl (HHM.out.1 rfl)⟩)
            cases T with
            | true =>
              have e1 := HY.out rfl
              go_wp2
              go_round
              case rel => exact ⟨i + 1, by omega, by go_num⟩
              case measure => (simp [intOf]; omega)
            | false =>
              go_wp2
              go_round
              case rel => exact ⟨i + 1, by omega, by go_num⟩
              case measure => (simp [intOf]; omega)
          | false =>
            have e1 := HNO.out (fun q => q.2.elim (fun q => absurd (HHM.out.2 q) (by simp)) fun q => absurd (HMORE.out.2 q) hgt)
            cases T <;>
              (go_wp2
               go_round
               case rel => exact ⟨i + 1, by omega, by go_num⟩
               case measure => (simp [intOf]; omega))
    · go_wp2
      go_ret
      exact ⟨ret_bool (by simp), hbw⟩

set_option maxHeartbeats 4000000 in
theorem lawLoopRound_bad (K : LoopIs) (P : PartIs) (A : Option Addr) (cap : Nat) (nx : List (List Int)) (w : World) (hx : RdG w w.heap.size A nx) (hm : nx.length ≤ maxLen) (hc : ckWay nx ≠ 0) :
    Calls Try.prog 11 #[.slice A nx.length cap] w fun e w' => e = .returned (.bool true) ∧ Below w.heap.size w w' := by
  have HM := Lib.hid hm
  unfold maxLen at hm
  have hne : (ckWay nx != 0) = true := by simp [hc]
  have HC := Lib.hid hc
  clear hc
  go_enter Try.func11, Try.ntmps11
  go_wp2_with fail
  refine (K.tameBad A _ cap nx _ hx rfl HM.out HC.out).mono ?_
  rintro e w0 ⟨rfl, hb0⟩
  have hx0 := (hx.below hb0 (Nat.le_refl _)).more hb0.size
  go_wp2_with fail
  refine (K.deepBad A _ cap nx _ hx0 rfl HM.out HC.out).mono ?_
  rintro e w1 ⟨A1, c1, rfl, hb1⟩
  have hb01 := hb0.trans (hb1.mono hb0.size)
  have hx1 := (hx.below hb01 (Nat.le_refl _)).more hb01.size
  go_wp2_with fail
  refine (P.partsBad A _ cap nx _ hx1 rfl HM.out HC.out).mono ?_
  rintro e w2 ⟨A2, c2, rfl, hb2⟩
  have hb02 := hb01.trans (hb2.mono hb01.size)
  have hx2 := (hx.below hb02 (Nat.le_refl _)).more hb02.size
  go_wp2_with fail
  refine (P.reach A _ cap nx _ hx2 rfl HM.out).mono ?_
  rintro e w3 ⟨rfl, hb3⟩
  have hb03 := hb02.trans (hb3.mono hb02.size)
  have hx3 := (hx.below hb03 (Nat.le_refl _)).more hb03.size
  go_wp2_with fail
  refine (may_any A _ cap nx _ hx3 rfl HM.out).mono ?_
  rw [decide_eq_false HC.out]
  rintro e w4 ⟨rfl, rfl⟩
  go_wp2
  go_ret
  exact ⟨ret_bool (by simp), hb03⟩

theorem lawLoopRound_any (K : LoopIs) (P : PartIs) (A : Option Addr) (cap : Nat) (nx : List (List Int)) (w : World) (hx : RdG w w.heap.size A nx) (hm : nx.length ≤ maxLen) :
    Calls Try.prog 11 #[.slice A nx.length cap] w fun e w' => e = .returned (.bool true) ∧ Below w.heap.size w w' := by
  by_cases hc : ckWay nx = 0
  · exact lawLoopRound_ok K P A cap nx w hx hm hc
  · exact lawLoopRound_bad K P A cap nx w hx hm hc

set_option maxRecDepth 100000 in
theorem lawLoopRound_lifted (os : Os) (started : os.Started) (H : Type) (enc : TypeId × Value → H) :
    ReturnsInHanded {} Try.checked os 11 .any (Rows.loopRoundSpec.pre6 enc Try.prog Try.f11 Rows.loopRoundRow.domain false) (Rows.loopRoundSpec.post enc Try.prog Try.f11 false true false false) := by
  refine returnsInHanded_of_change_sized (C := Try.checked) Try.own started (by kernel_rfl) Try.func11
    (ChangeSpec.witness6 (enc := enc) (C := Try.checked) false ⟨#[], #[.slice none 0 0], []⟩ 8 (by kernel_rfl) (by kernel_rfl) (by kernel_rfl) (by kernel_rfl)) ?_
  intro W base args ds gs before hval0 hW hcnd hsz _
  have hval : ∀ (j : Nat) t v, Try.f11.params[j]? = some t → args[j]? = some v → Value.okWide Try.prog W .any base t v := hval0
  have hW' := hW
  obtain ⟨p, q, hA0, hV, rfl, hfz, hnd⟩ := hW
  have hA : DataW.TrodAll enc Try.prog W 0 (fun _ => true) true Try.f11.params.toList args.toList ds p := hA0
  obtain ⟨hgs, _⟩ := trodVars_none hV
  rw [Try.params11] at hA hval
  obtain ⟨v0, vs0, d0, ds0, p0, q0, hargs, rfl, rfl, h0, r0⟩ := trodAll_cons hA
  obtain ⟨rfl, rfl, rfl⟩ := trodAll_nil r0
  have hargs2 : args = #[v0] := Array.toList_inj.1 hargs
  subst hargs2
  obtain ⟨A0, c0, l0, rfl, lc0, cm0, x0, r0⟩ := open_graphA (hval 0 22 v0 rfl rfl) h0
  have b0 := len_reach Try.underlying22 (hval 0 22 _ rfl rfl) h0 hsz (j := 0) (by rw [Try.params11]; rfl) rfl
  rw [show Try.prog.bytesOf (Try.prog.elem 22) = 24 from by kernel_rfl] at b0
  refine (lawLoopRound_any loopIs partIs A0 c0 l0 _ x0 (by omega)).mono fun e W' ⟨he, hb⟩ => ?_
  subst he
  exact ⟨_, rfl, law_post Try.laidOut rfl (by kernel_rfl) Try.underlying4 ⟨rfl, rfl, rfl⟩ (by kernel_rfl) hW' hb⟩

theorem loopRound_holds : Rows.LoopRoundSaid :=
  OpenClaim.holds_of_wide 11 Try.f11 rfl rfl rfl rfl rfl rfl rfl ⟨rfl, rfl, rfl, rfl, rfl⟩ rfl rfl rfl rfl rfl (by kernel_rfl) Try.func11 (show joinedFacts Try.prog 11 Try.f11 Rows.loopRoundSpec Rows.loopRoundRow = true from (by unfold joinedFacts; (repeat' (with_reducible refine and_both ?_ ?_)) <;> first | (with_reducible exact may_enter) | ((with_reducible refine make_ok ?_); rfl) | ((with_reducible refine lifts_ok ?_); rfl) | kernel_rfl))
    (of_decide_eq_true (by kernel_rfl)) (by unfold Func.isWrapper; rw [if_neg (of_decide_eq_false (by kernel_rfl))]; exact ⟨rfl, rfl⟩)
    (fun os started H enc _ => lawLoopRound_lifted os started H enc)

end Go.Proofs.Ytpbajalecfaibaa
