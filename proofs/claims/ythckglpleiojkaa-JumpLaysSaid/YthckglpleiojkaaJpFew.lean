/-
  codemasonref.FewLong: the word of the fewest long jumps is the one that lengthening ends with (X1).
-/
import Derived.Test.YthckglpleiojkaaJpLays
namespace Go.Proofs.Ythckglpleiojkaa
open Go.RowKit
set_option linter.unusedSimpArgs false
set_option linter.unusedVariables false
set_option maxRecDepth 100000

set_option maxHeartbeats 1000000 in
theorem inJ_any (a b : Nat) (w : World) (ha : a < 4294967296) (hb : b < 4294967296) :
    Calls Try.prog 16 #[.int .u32 (a : Nat), .int .u32 (b : Nat)] w fun e w' => e = .returned (.bool (decide (a ||| b = b))) ∧ w = w' := by
  have hor : bits .or .u32 (a : Int) (b : Int) = ((a ||| b : Nat) : Int) := u32_or_nat _ _ ha hb
  obtain ⟨c, hc⟩ : ∃ c, a ||| b = c := ⟨_, rfl⟩
  rw [hc] at hor ⊢
  clear hc
  go_enter Try.func16, Try.ntmps16
  go_wp2
  go_ret
  refine ⟨ret_bool ?_, rfl⟩
  by_cases h : c = b
  · simp [h]
  · have : ¬ (c : Int) = (b : Int) := by omega
    simp [h, this]

theorem subJ_or {a b : Nat} (h : SubJ a b) : a ||| b = b := by
  refine Nat.eq_of_testBit_eq fun i => ?_
  rw [Nat.testBit_or]
  cases ha : a.testBit i with
  | true => rw [h i ha]; rfl
  | false => rfl

set_option maxHeartbeats 16000000 in
theorem few_any (A : Option Addr) (len cap : Nat) (l : List Pc) (L : Nat) (w : World) (hx : RdPc w w.heap.size A l) (hl : l.length = len) (hk : PcOk l) (hL : FinW l L) :
    Calls Try.prog 8 #[.slice A len cap] w fun e w' => e = .returned (.int .u32 (L : Nat)) ∧ Below w.heap.size w w' := by
  have HL := Lib.hid hl
  have HK := Lib.hid hk
  have HFIN := Lib.hid hL
  have hlen : len ≤ 10 := by rw [← hl]; exact hk.len
  have HX := Lib.hid (fun (Z : World) (hZ : Below w.heap.size w Z) => (hx.below hZ (Nat.le_refl _)).more hZ.size)
  have HX0 := Lib.hid hx
  have HSUB : Hid (L ||| jmW l len = jmW l len) := Lib.hid (by rw [← hl]; exact subJ_or hL.sub_jm)
  have hpe := pow_u32' (v := len) (by omega)
  have hJ := jmW_lt l len
  have hp1024 : 2 ^ len ≤ 1024 := Nat.le_trans (Nat.pow_le_pow_right (by omega) hlen) (by omega)
  obtain ⟨P, hP⟩ : ∃ P, 2 ^ len = P := ⟨_, rfl⟩
  have HP := Lib.hid hP
  rw [hP] at hpe hJ hp1024
  clear hx hl hk hL hP
  go_enter Try.func8, Try.ntmps8
  go_wp2
  go_loopw [3, 13] (fun j i wr => ∃ k : Nat, k ≤ len ∧ i = .int .i64 k ∧ j = .int .u32 (jmW l k : Nat) ∧ Below w.heap.size w wr) (fun _ i _ => len - (intOf i).toNat)
  case atStart => exact ⟨0, Nat.zero_le _, rfl, rfl, Below.refl _ _⟩
  case round =>
    obtain ⟨k, hk, rfl, rfl, hb⟩ := hrel
    have hsz := hb.size
    by_cases hlt : k < len
    · obtain ⟨ad, b, j, t, rfl, hbl, hd, hc0, hc1, hc2⟩ := (HX0.out.below hb (Nat.le_refl _)).at_ (k := k) (by rw [HL.out]; exact hlt)
      have hk32 : k < 32 := by omega
      have hn := jmW_next hd
      simp only at hn
      have hj1 := jmW_lt l k
      have hj2 : jmW l k < 4294967296 := Nat.lt_of_lt_of_le hj1 (Nat.le_of_lt (pow_lt_32 hk32))
      have hor : bits .or .u32 (jmW l k : Int) ((2 : Int) ^ k % 4294967296) = ((jmW l k ||| 2 ^ k : Nat) : Int) := by rw [pow_u32' hk32]; exact u32_or_nat _ _ hj2 (pow_lt_32 hk32)
      obtain ⟨J, hJe⟩ : ∃ J, jmW l k = J := ⟨_, rfl⟩
      obtain ⟨J2, hJ2⟩ : ∃ J2, J ||| 2 ^ k = J2 := ⟨_, rfl⟩
      rw [hJe, hJ2] at hn hor
      rw [hJe]
      cases j with
      | false =>
        rw [if_neg (by simp)] at hn
        have HN := Lib.hid hn
        clear hn hd hj1 hj2 hor hJe hJ2
        go_wp2
        go_round
        case rel => exact ⟨k + 1, by omega, by go_num, by rw [HN.out], by go_grown⟩
        case measure => (simp [intOf]; omega)
      | true =>
        rw [if_pos rfl] at hn
        have HN := Lib.hid hn
        clear hn hd hj1 hj2 hJe hJ2
        go_wp2
        go_round
        case rel => exact ⟨k + 1, by omega, by go_num, by rw [HN.out], by go_grown⟩
        case measure => (simp [intOf]; omega)
    · have hkn : k = len := by omega
      subst hkn
      obtain ⟨w1, rfl⟩ : ∃ w1 : World, w1 = wr := ⟨_, rfl⟩
      have HFE : Hid (FewJ l L 0 (jmW l k)) := Lib.hid (by have := FewJ.zero (l := l) L; rwa [HL.out] at this)
      obtain ⟨J, hJe⟩ : ∃ J, jmW l k = J := ⟨_, rfl⟩
      rw [hJe] at hJ HSUB HFE ⊢
      clear hJe
      have hJ32 : J < 4294967296 := by omega
      go_wp2
      go_loopw [6, 7] (fun b s wr => ∃ sn bn : Nat, s = .int .u32 (sn : Nat) ∧ b = .int .u32 (bn : Nat) ∧ sn ≤ P ∧ bn < P ∧ Hid (FewJ l L sn bn) ∧ Below w.heap.size w wr) (fun _ s _ => P - (intOf s).toNat)
      case atStart => exact ⟨0, J, rfl, rfl, Nat.zero_le _, hJ, HFE, hb⟩
      case round =>
        obtain ⟨sn, bn, rfl, rfl, hsn, hbn, HFW, hb2⟩ := hrel
        have hs2 := hb2.size
        by_cases hlt2 : sn < P
        · have hs32 : sn < 4294967296 := by omega
          have hb32 : bn < 4294967296 := by omega
          have HIN := Lib.hid (fun w1 => inJ_any sn J w1 hs32 hJ32)
          have HSS := Lib.hid (fun w1 => sizeF_any sn w1 hs32)
          have HSB := Lib.hid (fun w1 => sizeF_any bn w1 hb32)
          have HLAY := Lib.hid (lays_any A k cap l sn wr (HX.out wr hb2) HL.out HK.out hs32)
          by_cases hin : sn ||| J = J
          · have hdi : decide (sn ||| J = J) = true := decide_eq_true hin
            have hszs := szW_leF sn 32
            have hszb := szW_leF bn 32
            have hbig := fun h => HFW.out.big HFIN.out (n := 32) (by rw [HL.out]; omega) h
            have htake := fun h h2 => HFW.out.take HFIN.out (n := 32) (by rw [HL.out, HP.out]; exact hlt2) h h2
            obtain ⟨x, hxe⟩ : ∃ x, szW sn 32 = x := ⟨_, rfl⟩
            obtain ⟨y, hye⟩ : ∃ y, szW bn 32 = y := ⟨_, rfl⟩
            rw [hxe] at HSS hszs hbig htake
            rw [hye] at HSB hszb hbig htake
            rw [hdi] at HIN
            by_cases hge : y ≤ x
            · have HF2 := Lib.hid (hbig hge)
              clear hbig htake hxe hye hin hdi
              go_wp2_with (first
                | (go_at_call 16; (with_reducible refine (HIN.out _).mono ?_); rintro e w5 ⟨rfl, rfl⟩)
                | (go_at_call 17; (with_reducible refine (HSS.out _).mono ?_); rintro e w5 ⟨rfl, rfl⟩)
                | (go_at_call 17; (with_reducible refine (HSB.out _).mono ?_); rintro e w5 ⟨rfl, rfl⟩))
              go_round
              case rel => exact ⟨sn + 1, bn, by go_num, rfl, by omega, hbn, HF2, hb2⟩
              case measure => (simp [intOf]; omega)
            · have HTK := Lib.hid (fun h => htake (by omega) h)
              have HSK : Hid (¬ OkW l sn → FewJ l L (sn + 1) bn) := Lib.hid fun h => HFW.out.skip fun e => h (by rw [e]; exact HFIN.out.ok)
              clear hbig htake hxe hye hin hdi
              go_wp2_with (first
                | (go_at_call 16; (with_reducible refine (HIN.out _).mono ?_); rintro e w5 ⟨rfl, rfl⟩)
                | (go_at_call 17; (with_reducible refine (HSS.out _).mono ?_); rintro e w5 ⟨rfl, rfl⟩)
                | (go_at_call 17; (with_reducible refine (HSB.out _).mono ?_); rintro e w5 ⟨rfl, rfl⟩))
              refine HLAY.out.mono ?_
              rintro e w5 ⟨(⟨hok, A1, c1, A2, c2, rfl, _, _⟩ | ⟨hno, rfl⟩), hb5⟩
              · have HF2 := Lib.hid (HTK.out hok)
                have HB5 := Lib.hid (hb2.trans (hb5.mono hs2))
                clear hok hb5
                go_wp2
                go_round
                case rel => exact ⟨sn + 1, sn, by go_num, rfl, by omega, hlt2, HF2, HB5.out⟩
                case measure => (simp [intOf]; omega)
              · have HF2 := Lib.hid (HSK.out hno)
                have HB5 := Lib.hid (hb2.trans (hb5.mono hs2))
                clear hno hb5
                go_wp2
                go_round
                case rel => exact ⟨sn + 1, bn, by go_num, rfl, by omega, hbn, HF2, HB5.out⟩
                case measure => (simp [intOf]; omega)
          · have hdi : decide (sn ||| J = J) = false := decide_eq_false hin
            rw [hdi] at HIN
            have HF2 : Hid (FewJ l L (sn + 1) bn) := Lib.hid (HFW.out.skip fun e => hin (by rw [e]; exact HSUB.out))
            clear hin hdi
            go_wp2_with (go_at_call 16; (with_reducible refine (HIN.out _).mono ?_); rintro e w5 ⟨rfl, rfl⟩)
            go_round
            case rel => exact ⟨sn + 1, bn, by go_num, rfl, by omega, hbn, HF2, hb2⟩
            case measure => (simp [intOf]; omega)
        · have hsp : sn = P := by omega
          have HE : Hid (bn = L) := Lib.hid (FewJ.done HFIN.out (by rw [HL.out, HP.out, ← hsp]; exact HFW.out))
          clear hsp
          go_wp2
          go_ret
          exact ⟨ret_int (by rw [HE.out]), hb2⟩

end Go.Proofs.Ythckglpleiojkaa
