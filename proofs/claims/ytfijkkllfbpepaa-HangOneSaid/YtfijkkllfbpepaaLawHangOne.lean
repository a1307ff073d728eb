/-
  FERRANTE, OTTENSTEIN, WARREN: on a node with one other successor nothing hangs; what hangs on a node does not postdominate it, or is it itself: codemasonkeep.HangOne returns true for all arguments and leaves them alone. No condition.
-/
import Derived.Test.YtfijkkllfbpepaaHang
import Derived.Test.YtfijkkllfbpepaaLawLoop
namespace Go.Proofs.Ytfijkkllfbpepaa
open Go.RowKit Go.ChangeShapes Go.WideShapes Go.ChangeAt Go.Deep
set_option linter.unusedSimpArgs false
set_option linter.unusedVariables false
set_option maxRecDepth 100000

theorem no_bits {W : Nat} (h : ∀ k, W.testBit k = true → False) : W = 0 := word_ext fun j => ⟨fun q => (h j q).elim, fun q => by simp at q⟩

theorem andNot_zero {O L i : Nat} (hi : i < 32) (h : ∀ k, O.testBit k = true → L.testBit k = true → k = i) : (O &&& L) &&& (4294967295 - 2 ^ i) = 0 := no_bits fun k hk => by
  rw [Nat.testBit_and, Nat.testBit_and, Bool.and_eq_true, Bool.and_eq_true] at hk
  obtain ⟨⟨h1, h2⟩, h3⟩ := hk
  have := h k h1 h2
  subst this
  have hp : 2 ^ k < 2 ^ 32 := Nat.pow_lt_pow_right (by omega) hi
  rw [show 4294967295 - 2 ^ k = 2 ^ 32 - (2 ^ k + 1) by omega, Nat.testBit_two_pow_sub_succ hp] at h3
  simp [Nat.testBit_two_pow] at h3

theorem one_bool {x y i : Nat} {t : Bool} {S : Prop} (h : t = true ↔ S) : (decide (x = y) && decide (x ≠ i) && !t) = true ↔ x = y ∧ x ≠ i ∧ ¬ S := by
  rw [← h]
  cases t <;> simp [and_assoc]

theorem one_bool2 {x y i : Nat} {t : Bool} {S : Prop} (hxy : x = y) (hxi : x ≠ i) (h : t = true ↔ S) : (!t) = true ↔ x = y ∧ x ≠ i ∧ ¬ S := by
  rw [← h]
  cases t
  · simp only [Bool.not_false, true_iff]
    exact ⟨hxy, hxi, by simp⟩
  · simp

set_option maxHeartbeats 4000000 in
theorem lawHangOne_any (K : LastIs) (K2 : OnIs) (A : Option Addr) (cap : Nat) (nx : List (List Int)) (w : World) (hx : RdG w w.heap.size A nx) (hm : nx.length ≤ maxLen) :
    Calls Try.prog 6 #[.slice A nx.length cap] w fun e w' => e = .returned (.bool true) ∧ Below w.heap.size w w' := by
  have HM := Lib.hid hm
  have hmm := hm
  unfold maxLen at hm
  by_cases hc : ckWay nx = 0
  · have HC := Lib.hid hc
    obtain ⟨hb1', hb2', _⟩ := ckWay_bd hc
    obtain ⟨len, hlen⟩ : ∃ len, nx.length = len := ⟨_, rfl⟩
    have HLEN := Lib.hid hlen
    rw [hlen] at hb1' hb2' hm hmm ⊢
    clear hc hlen
    go_enter Try.func6, Try.ntmps6
    go_wp2_with fail
    refine (K2.on A _ cap nx _ hx HLEN.out HC.out).mono ?_
    rintro e w1 ⟨os, A1, c1, hpo, rfl, hr1, hb1⟩
    have hx1 := (hx.below hb1 (Nat.le_refl _)).more hb1.size
    have HPO := Lib.hid hpo
    have HOL := Lib.hid (hpo.len.trans HLEN.out)
    clear hpo
    go_wp2_with fail
    refine (K.last A _ cap nx _ hx1 HLEN.out HC.out).mono ?_
    rintro e w2 ⟨ls, A2, c2, hpl, rfl, hr2, hb2⟩
    have hb12 := hb1.trans (hb2.mono hb1.size)
    have hx2 := (hx.below hb12 (Nat.le_refl _)).more hb12.size
    have hr1' := (hr1.below hb2 (Nat.le_refl _)).more hb2.size
    have HPL := Lib.hid hpl
    have HLL := Lib.hid (hpl.len.trans HLEN.out)
    clear hpl
    go_wp2_with fail
    refine (may_any A _ cap nx _ hx2 HLEN.out hmm).mono ?_
    rintro e w3 ⟨rfl, rfl⟩
    rw [decide_eq_true HC.out]
    go_wp2
    go_loopw [53] (fun z wr => ∃ i : Nat, i ≤ len ∧ z = .int .i64 i ∧ Below w2.heap.size w2 wr) (fun z _ => len - (intOf z).toNat)
    case atStart => exact ⟨0, Nat.zero_le _, rfl, Below.refl _ _⟩
    case round =>
      obtain ⟨i, hi, rfl, hbr⟩ := hrel
      have hszr := hbr.size
      by_cases hlt : i < len
      · obtain ⟨O, hO⟩ : ∃ O, os[i]? = some O := ⟨_, List.getElem?_eq_getElem (by rw [HOL.out]; exact hlt)⟩
        obtain ⟨L, hL⟩ : ∃ L, ls[i]? = some L := ⟨_, List.getElem?_eq_getElem (by rw [HLL.out]; exact hlt)⟩
        have HOM := Lib.hid (HPO.out.mem i O hO)
        have HLM := Lib.hid (HPL.out.mem i L hL)
        have hol := HPO.out.lt i O hO
        have hll := HPL.out.lt i L hL
        rw [HLEN.out] at hol hll
        have hpw : 2 ^ len ≤ 2 ^ 8 := Nat.pow_le_pow_right (by omega) hb2'
        have hO32 : O < 4294967296 := by omega
        have hL32 : L < 4294967296 := by omega
        obtain ⟨a1, O', rfl, hbl1, hd1, hco⟩ := (hr1'.below hbr (Nat.le_refl _)).at_ (k := i) (by rw [HOL.out]; exact hlt)
        rw [hO] at hd1
        injection hd1 with hd1
        subst hd1
        obtain ⟨a2, L', rfl, hbl2, hd2, hcl⟩ := (hr2.below hbr (Nat.le_refl _)).at_ (k := i) (by rw [HLL.out]; exact hlt)
        rw [hL] at hd2
        injection hd2 with hd2
        subst hd2
        obtain ⟨ad, row, Ar, cr, rfl, hbl, hd, hcell, hrow⟩ := (hx2.below hbr (Nat.le_refl _)).at_ (k := i) (by rw [HLEN.out]; exact hlt)
        have hrs := row_sc HC.out hd
        subst hrs
        have HSLT := Lib.hid (fun x => sc_lt HC.out (i := i) (x := x))
        have hsl3 := sc_len HC.out i
        have HZ := Lib.hid (fun k (h1 : O.testBit k = true) (h2 : L.testBit k = true) => (hang_sure ((HOM.out k).1 h1) ((HLM.out k).1 h2)).symm)
        have HAN := Lib.hid (andNot_zero (i := i) (by omega : i < 32) HZ.out)
        have HONE := Lib.hid (fun (j0 : Nat) h0 hall hne hns => no_bits fun k hk => hang_one (j0 := j0) (i := i) (nx := nx) h0 hall hne hns k ((HOM.out k).1 hk))
        have HNONE := Lib.hid (fun h0 => no_bits fun k hk => hang_none (nx := nx) (i := i) h0 k ((HOM.out k).1 hk))
        obtain ⟨ss, hss⟩ : ∃ ss, sc nx i = ss := ⟨_, rfl⟩
        have hnl : (ni ss).length = ss.length := by simp [ni]
        rw [hss] at hrow hcell hsl3
        rw [hnl] at hcell
        obtain ⟨sl, hsl⟩ : ∃ sl, ss.length = sl := ⟨_, rfl⟩
        rw [hsl] at hcell hnl hsl3
        have HSS := Lib.hid hss
        have HSL := Lib.hid hsl
        have HNL := Lib.hid hnl
        obtain ⟨wo, rfl⟩ : ∃ wo : World, wo = wr := ⟨_, rfl⟩
        clear hO hL hd hss hsl hnl hpw hol hll
        go_wp2
        go_loop [9, 63] (fun v z => ∃ (c : Nat) (al : Bool), c ≤ sl ∧ z = .int .i64 c ∧ v = .bool al ∧ (al = true ↔ 0 < sl ∧ ∀ j ∈ ss.take c, j = ss.getD 0 0 ∧ j ≠ i ∧ ¬ SureP nx j i)) (fun _ z => sl - (intOf z).toNat)
        case atStart => exact ⟨0, decide (0 < sl), Nat.zero_le _, rfl, by simp, by simp⟩
        case round =>
          obtain ⟨c, al, hc', rfl, rfl, hal⟩ := hrel
          have HAL := Lib.hid hal
          clear hal
          by_cases hct : c < sl
          · obtain ⟨ar, x', rfl, hbr2, hxr2, hcx⟩ := hrow.at_ (k := c) (by rw [HNL.out]; exact hct)
            obtain ⟨x, hxx⟩ : ∃ x, ss[c]? = some x := ⟨_, List.getElem?_eq_getElem (by rw [HSL.out]; exact hct)⟩
            rw [ni_at hxx] at hxr2
            injection hxr2 with hxr2
            subst hxr2
            obtain ⟨ar0, y', har, hbr0, hyr0, hcy⟩ := hrow.at_ (k := 0) (by rw [HNL.out]; omega)
            injection har with har
            subst har
            obtain ⟨y, hyy⟩ : ∃ y, ss[0]? = some y := ⟨_, List.getElem?_eq_getElem (by rw [HSL.out]; omega)⟩
            rw [ni_at hyy] at hyr0
            injection hyr0 with hyr0
            subst hyr0
            have hcy' : wo.cell? ar = some (.int .i64 (y : Int)) := by simpa [Addr.add] using hcy
            have hy0 : ss.getD 0 0 = y := by rw [List.getD_eq_getElem?_getD, hyy]; rfl
            rw [hy0] at HAL
            have hxl := HSLT.out x (by rw [HSS.out]; exact List.mem_of_getElem? hxx)
            rw [HLEN.out] at hxl
            obtain ⟨S, hS⟩ : ∃ S, ls[x]? = some S := ⟨_, List.getElem?_eq_getElem (by rw [HLL.out]; exact hxl)⟩
            obtain ⟨a3, S', ha3, hbl3, hd3, hcs⟩ := (hr2.below hbr (Nat.le_refl _)).at_ (k := x) (by rw [HLL.out]; exact hxl)
            injection ha3 with ha3
            subst ha3
            rw [hS] at hd3
            injection hd3 with hd3
            subst hd3
            have hSm := HPL.out.mem x S hS i
            have hsl2 := HPL.out.lt x S hS
            rw [HLEN.out] at hsl2
            have hpw : 2 ^ len ≤ 2 ^ 8 := Nat.pow_le_pow_right (by omega) hb2'
            have hS8 : S < 2 ^ 8 := by omega
            have hS32 : S < 4294967296 := by omega
            have hbit := bitB_nat (j := i) hS8
            obtain ⟨t, ht⟩ : ∃ t, S.testBit i = t := ⟨_, rfl⟩
            rw [ht] at hSm hbit
            have HBIT := Lib.hid hbit
            have HSM := Lib.hid hSm
            have HTK := Lib.hid (fun y => take_mem (f := y) hxx)
            have HNX : Hid (∀ b : Bool, (b = true ↔ x = y ∧ x ≠ i ∧ ¬ SureP nx x i) → ((al && b) = true ↔ 0 < sl ∧ ∀ j ∈ ss.take (c + 1), j = ss.getD 0 0 ∧ j ≠ i ∧ ¬ SureP nx j i)) := Lib.hid fun b hb => by
              rw [Bool.and_eq_true, HAL.out, hb, hy0]
              constructor
              · rintro ⟨⟨h1, h2⟩, h3⟩
                refine ⟨h1, fun j hj => ?_⟩
                rcases (HTK.out j).1 hj with hj | rfl
                · exact h2 j hj
                · exact h3
              · rintro ⟨h1, h2⟩
                exact ⟨⟨h1, fun j hj => h2 j ((HTK.out j).2 (.inl hj))⟩, h2 x ((HTK.out x).2 (.inr rfl))⟩
            clear hxx hyy hS hSm hbit ht hsl2 hpw hy0
            cases al with
            | false =>
              have HN := Lib.hid (HNX.out (decide (x = y) && decide (x ≠ i) && !t))
              have HB : Hid ((decide (x = y) && decide (x ≠ i) && !t) = true ↔ x = y ∧ x ≠ i ∧ ¬ SureP nx x i) := Lib.hid (one_bool HSM.out)
              go_wp2
              go_round
              case rel => exact ⟨c + 1, false, by omega, by go_num, rfl, HN.out HB.out⟩
              case measure => (simp [intOf]; omega)
            | true =>
              by_cases hxy : x = y
              · have e1 : ((x : Int) == (y : Int)) = true := by simp; omega
                by_cases hxi : x = i
                · have e2 : ((x : Int) != (i : Int)) = false := by simp; omega
                  have HN := Lib.hid (HNX.out false (by simp; exact fun _ h => absurd hxi h))
                  clear hxy hxi
                  go_wp2
                  go_round
                  case rel => exact ⟨c + 1, false, by omega, by go_num, rfl, HN.out⟩
                  case measure => (simp [intOf]; omega)
                · have e2 : ((x : Int) != (i : Int)) = true := by simp; omega
                  have HN := Lib.hid (HNX.out (!t) (one_bool2 hxy hxi HSM.out))
                  clear hxy hxi
                  go_wp2_with (go_at_call 9; (with_reducible refine (bit_any S _ _ hS32).mono ?_); rw [HBIT.out]; rintro e w5 ⟨rfl, rfl⟩)
                  go_round
                  case rel => exact ⟨c + 1, !t, by omega, by go_num, rfl, by have := HN.out; simpa using this⟩
                  case measure => (simp [intOf]; omega)
              · have e1 : ((x : Int) == (y : Int)) = false := by simp; omega
                have HN := Lib.hid (HNX.out false (by simp; exact fun h => absurd h hxy))
                clear hxy
                go_wp2
                go_round
                case rel => exact ⟨c + 1, false, by omega, by go_num, rfl, HN.out⟩
                case measure => (simp [intOf]; omega)
          · have hcs : c = sl := by omega
            have htk : ss.take c = ss := List.take_of_length_le (by rw [HSL.out]; omega)
            rw [htk] at HAL
            have hp32 := pow_lt_32 (v := i) (by omega)
            have hpe := pow_u32' (v := i) (by omega)
            have hOLlt : O &&& L < 4294967296 := by
              have := Nat.and_lt_two_pow O (n := 32) (y := L) (by simpa using hL32)
              simpa using this
            have hand : bits .and .u32 (O : Int) (L : Int) = ((O &&& L : Nat) : Int) := u32_and_nat _ _ hO32 hL32
            have hnot : bits .andNot .u32 ((O &&& L : Nat) : Int) ((2 : Int) ^ i % 4294967296) = 0 := by
              rw [hpe, u32_andNot_nat _ _ hOLlt hp32, HAN.out]
              rfl
            have hcc : (bits .andNot .u32 (bits .and .u32 (O : Int) (L : Int)) ((2 : Int) ^ i % 4294967296) != 0) = false := by rw [hand, hnot]; rfl
            have hi32 : i < 32 := by omega
            have hO0 : al = true ∨ sl = 0 → O = 0 := fun h => by
              rcases h with h | h
              · obtain ⟨h1, h2⟩ := HAL.out.1 h
                have h0m : ss.getD 0 0 ∈ ss := by
                  rw [List.getD_eq_getElem?_getD, List.getElem?_eq_getElem (by rw [HSL.out]; exact h1)]
                  exact List.getElem_mem _
                exact HONE.out (ss.getD 0 0) (by rw [HSS.out]; exact h0m) (fun j hj => (h2 j (by rw [← HSS.out]; exact hj)).1) (h2 _ h0m).2.1 (h2 _ h0m).2.2
              · exact HNONE.out (by rw [HSS.out]; exact List.eq_nil_of_length_eq_zero (by rw [HSL.out, h]))
            clear hpe hOLlt hcs htk hand hnot
            show Code.wp _ _ _ _ _
            cases al with
            | true =>
              have e0 : ((O : Int) != 0) = false := by rw [hO0 (.inl rfl)]; rfl
              clear hO0
              go_wp2
              go_region
              go_wp2
              go_round
              case rel => exact ⟨i + 1, by omega, by go_num, hbr.drew⟩
              case measure => (simp [intOf]; omega)
            | false =>
              by_cases hs0 : sl = 0
              · have e0 : ((O : Int) != 0) = false := by rw [hO0 (.inr hs0)]; rfl
                have e1 : ((sl : Int) == 0) = true := by simp; omega
                clear hO0 hs0
                go_wp2
                go_region
                go_wp2
                go_round
                case rel => exact ⟨i + 1, by omega, by go_num, hbr.drew⟩
                case measure => (simp [intOf]; omega)
              · have e1 : ((sl : Int) == 0) = false := by simp; omega
                clear hO0 hs0
                go_wp2
                go_region
                go_wp2
                go_round
                case rel => exact ⟨i + 1, by omega, by go_num, hbr.drew⟩
                case measure => (simp [intOf]; omega)
      · have hil : i = len := by omega
        subst hil
        go_wp2
        go_ret
        exact ⟨ret_bool (by simp), hb12.trans (hbr.mono hb12.size)⟩
  · have hne : (ckWay nx != 0) = true := by simp [hc]
    have HC := Lib.hid hc
    clear hc
    go_enter Try.func6, Try.ntmps6
    go_wp2_with fail
    refine (K2.onBad A _ cap nx _ hx rfl HM.out HC.out).mono ?_
    rintro e w1 ⟨A1, c1, rfl, hb1⟩
    have hx1 := (hx.below hb1 (Nat.le_refl _)).more hb1.size
    go_wp2_with fail
    refine (K.lastBad A _ cap nx _ hx1 rfl HM.out HC.out).mono ?_
    rintro e w2 ⟨A2, c2, rfl, hb2⟩
    have hb12 := hb1.trans (hb2.mono hb1.size)
    have hx2 := (hx.below hb12 (Nat.le_refl _)).more hb12.size
    go_wp2_with fail
    refine (may_any A _ cap nx _ hx2 rfl hmm).mono ?_
    rintro e w3 ⟨rfl, rfl⟩
    rw [decide_eq_false HC.out]
    go_wp2
    go_ret
    exact ⟨ret_bool (by simp), hb12⟩

set_option maxRecDepth 100000 in
theorem lawHangOne_lifted (os : Os) (started : os.Started) (H : Type) (enc : TypeId × Value → H) :
    ReturnsInHanded {} Try.checked os 6 .any (Rows.hangOneSpec.pre6 enc Try.prog Try.f6 Rows.hangOneRow.domain false) (Rows.hangOneSpec.post enc Try.prog Try.f6 false true false false) := by
  refine returnsInHanded_of_change_sized (C := Try.checked) Try.own started (by kernel_rfl) Try.func6
    (ChangeSpec.witness6 (enc := enc) (C := Try.checked) false ⟨#[], #[.slice none 0 0], []⟩ 8 (by kernel_rfl) (by kernel_rfl) (by kernel_rfl) (by kernel_rfl)) ?_
  intro W base args ds gs before hval0 hW hcnd hsz _
  have hval : ∀ (j : Nat) t v, Try.f6.params[j]? = some t → args[j]? = some v → Value.okWide Try.prog W .any base t v := hval0
  have hW' := hW
  obtain ⟨p, q, hA0, hV, rfl, hfz, hnd⟩ := hW
  have hA : DataW.TrodAll enc Try.prog W 0 (fun _ => true) true Try.f6.params.toList args.toList ds p := hA0
  obtain ⟨hgs, _⟩ := trodVars_none hV
  rw [Try.params6] at hA hval
  obtain ⟨v0, vs0, d0, ds0, p0, q0, hargs, rfl, rfl, h0, r0⟩ := trodAll_cons hA
  obtain ⟨rfl, rfl, rfl⟩ := trodAll_nil r0
  have hargs2 : args = #[v0] := Array.toList_inj.1 hargs
  subst hargs2
  obtain ⟨A0, c0, l0, rfl, lc0, cm0, x0, r0⟩ := open_graphA (hval 0 22 v0 rfl rfl) h0
  have b0 := len_reach Try.underlying22 (hval 0 22 _ rfl rfl) h0 hsz (j := 0) (by rw [Try.params6]; rfl) rfl
  rw [show Try.prog.bytesOf (Try.prog.elem 22) = 24 from by kernel_rfl] at b0
  refine (lawHangOne_any lastIs onIs A0 c0 l0 _ x0 (by omega)).mono fun e W' ⟨he, hb⟩ => ?_
  subst he
  exact ⟨_, rfl, law_post Try.laidOut rfl (by kernel_rfl) Try.underlying4 ⟨rfl, rfl, rfl⟩ (by kernel_rfl) hW' hb⟩

theorem hangOne_holds : Rows.HangOneSaid :=
  OpenClaim.holds_of_wide 6 Try.f6 rfl rfl rfl rfl rfl rfl rfl ⟨rfl, rfl, rfl, rfl, rfl⟩ rfl rfl rfl rfl rfl (by kernel_rfl) Try.func6 (show joinedFacts Try.prog 6 Try.f6 Rows.hangOneSpec Rows.hangOneRow = true from (by unfold joinedFacts; (repeat' (with_reducible refine and_both ?_ ?_)) <;> first | (with_reducible exact may_enter) | ((with_reducible refine make_ok ?_); rfl) | ((with_reducible refine lifts_ok ?_); rfl) | kernel_rfl))
    (of_decide_eq_true (by kernel_rfl)) (by unfold Func.isWrapper; rw [if_neg (of_decide_eq_false (by kernel_rfl))]; exact ⟨rfl, rfl⟩)
    (fun os started H enc _ => lawHangOne_lifted os started H enc)

end Go.Proofs.Ytfijkkllfbpepaa
