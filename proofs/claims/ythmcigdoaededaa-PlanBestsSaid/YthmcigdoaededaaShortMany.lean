/-
  codemasonref.Shortest, where no fewer may be done than there are hands (Q1).
-/
import Derived.Test.YthmcigdoaededaaChoices
namespace Go.Proofs.Ythmcigdoaededaa
open Go.RowKit
set_option linter.unusedSimpArgs false
set_option linter.unusedVariables false
set_option maxRecDepth 100000

set_option maxHeartbeats 16000000 in
theorem short_many (n m len cap : Nat) (A : Option Addr) (ps : List (Nat × Nat)) (hk : TkOk n ps) (hl : ps.length = len) (h1 : 1 ≤ m) (h8 : m ≤ 8) (t D : Nat) (w : World) (hx : RdM w w.heap.size A (mvI ps)) (ht : t ≤ 8) (hD : D < 2 ^ n) (hdn : DnC ps D)
    (hih : ∀ t', t' + 1 = t → ∀ (D : Nat) (w : World), RdM w w.heap.size A (mvI ps) → D < 2 ^ n → DnC ps D → Calls Try.prog 20 #[.int .i64 n, .slice A len cap, .int .i64 m, .int .u32 (D : Nat), .int .i64 t'] w fun e w' => (∃ b, e = .returned (.bool b) ∧ (b = true ↔ Can n m (fun a b => (a, b) ∈ ps) D t')) ∧ Below w.heap.size w w') (hLm0 : ¬ (mayLs ps D n).length < m) :
    Calls Try.prog 20 #[.int .i64 n, .slice A len cap, .int .i64 m, .int .u32 (D : Nat), .int .i64 t] w fun e w' => (∃ b, e = .returned (.bool b) ∧ (b = true ↔ Can n m (fun a b => (a, b) ∈ ps) D t)) ∧ Below w.heap.size w w' := by
  have HLM := Lib.hid hLm0
  clear hLm0
  have hn8 := hk.small
  have HK := Lib.hid hk
  have HL := Lib.hid hl
  have hlen : len ≤ 28 := by rw [← hl]; exact hk.short
  have HDN := Lib.hid hdn
  have hp256 : 2 ^ n ≤ 256 := Nat.le_trans (Nat.pow_le_pow_right (by omega) hn8) (by omega)
  have hpe := pow_u32' (v := n) (by omega)
  have hD32 : D < 4294967296 := by omega
  have HU := Lib.hid (unL_size n D)
  have HSZ := Lib.hid (fun w => sizeF_any D w hD32)
  rw [szW_32F hD (by omega)] at HSZ
  have hpos : 1 ≤ 2 ^ n := Nat.two_pow_pos n
  by_cases hall : D = 2 ^ n - 1
  · have HC : Hid (Can n m (fun a b => (a, b) ∈ ps) D t) := Lib.hid (can_done fun i hi => by rw [hall, Nat.testBit_two_pow_sub_one]; simpa using hi)
    obtain ⟨P, hP⟩ : ∃ P, 2 ^ n = P := ⟨_, rfl⟩
    rw [hP] at hpe hall hp256 hpos
    have hsub : (P : Int) - 1 = (D : Int) := by omega
    clear hP hall hk hl hdn hD hih
    go_enter Try.func20, Try.ntmps20
    go_wp2
    go_ret
    exact ⟨⟨true, rfl, ⟨fun _ => HC.out, fun _ => rfl⟩⟩, Below.refl _ _⟩
  · have hun : ∃ i, i < n ∧ D.testBit i = false := by
      refine Classical.byContradiction fun hno => hall ?_
      refine Nat.eq_of_testBit_eq fun i => ?_
      rw [Nat.testBit_two_pow_sub_one]
      by_cases hi : i < n
      · rw [decide_eq_true hi]
        cases hb : D.testBit i with
        | true => rfl
        | false => exact absurd ⟨i, hi, hb⟩ hno
      · rw [decide_eq_false hi]
        exact Nat.testBit_lt_two_pow (Nat.lt_of_lt_of_le hD (Nat.pow_le_pow_right (by omega) (by omega)))
    have HUN := Lib.hid hun
    have hDlt := hD
    obtain ⟨P, hP⟩ : ∃ P, 2 ^ n = P := ⟨_, rfl⟩
    have HP := Lib.hid hP
    rw [hP] at hpe hall hp256 hpos hDlt
    obtain ⟨P1, hP1⟩ : ∃ P1, P - 1 = P1 := ⟨_, rfl⟩
    have hsub : (P : Int) - 1 = (P1 : Int) := by omega
    have hne : ((D : Int) == (P1 : Int)) = false := by simp; omega
    cases t with
    | zero =>
      have HN : Hid (¬ Can n m (fun a b => (a, b) ∈ ps) D 0) := Lib.hid fun h => by
        obtain ⟨i, hi, hb⟩ := HUN.out
        rw [can_zero h i hi] at hb
        cases hb
      clear hP hP1 hall hk hl hdn hD hun hih
      go_enter Try.func20, Try.ntmps20
      go_wp2
      go_ret
      exact ⟨⟨false, rfl, ⟨fun h => (by cases h), fun h => absurd h HN.out⟩⟩, Below.refl _ _⟩
    | succ t =>
      obtain ⟨T, hT⟩ : ∃ T, t + 1 = T := ⟨_, rfl⟩
      have hT1 : (T : Int) - 1 = (t : Int) := by omega
      have hT0 : ((T : Int) == 0) = false := by simp; omega
      have HT := Lib.hid hT
      have HIH := Lib.hid (fun D w hx hD hdn => hih t rfl D w hx hD hdn)
      have hmT : m * T ≤ 64 := Nat.mul_le_mul h8 (by omega : T ≤ 8)
      have hwm : IntKind.i64.wrap ((m : Int) * (T : Int)) = ((m * T : Nat) : Int) := by
        rw [← Int.natCast_mul]
        exact IntWalk.i64_in _ ⟨by omega, by omega⟩
      have hsle : szW D n ≤ n := by have := HU.out; omega
      have HFEW : Hid (Can n m (fun a b => (a, b) ∈ ps) D T → n ≤ m * T + szW D n) := Lib.hid fun h => by have := can_few h; have := HU.out; omega
      obtain ⟨sz, hsz⟩ : ∃ sz, szW D n = sz := ⟨_, rfl⟩
      rw [hsz] at HSZ hsle HFEW
      obtain ⟨mT, hmTe⟩ : ∃ x, m * T = x := ⟨_, rfl⟩
      rw [hmTe] at hwm hmT HFEW
      rw [hT]
      by_cases hbig : n - sz > mT
      · have HN : Hid (¬ Can n m (fun a b => (a, b) ∈ ps) D T) := Lib.hid fun h => by have := HFEW.out h; omega
        clear hP hP1 hall hk hl hdn hD hun hT hsz hmTe HFEW hih
        go_enter Try.func20, Try.ntmps20
        go_wp2_with (go_at_call 33; (with_reducible refine (HSZ.out _).mono ?_); rintro e w5 ⟨rfl, rfl⟩)
        go_ret
        exact ⟨⟨false, rfl, ⟨fun h => (by cases h), fun h => absurd h HN.out⟩⟩, Below.refl _ _⟩
      · have HGOOD := Lib.hid (can_good (t := t) HK.out h1 HUN.out)
        rw [hT] at HGOOD
        clear hP hP1 hall hk hl hdn hD hun hT hsz hmTe HFEW hih
        go_enter Try.func20, Try.ntmps20
        go_wp2_with (go_at_call 33; (with_reducible refine (HSZ.out _).mono ?_); rintro e w5 ⟨rfl, rfl⟩)
        go_loopw [11, 12] (fun mw i wr => ∃ k : Nat, k ≤ n ∧ i = .int .i64 k ∧ mw = .int .u32 (setW (mayLs ps D k) : Nat) ∧ Below w.heap.size w wr) (fun _ i _ => n - (intOf i).toNat)
        case atStart => exact ⟨0, Nat.zero_le _, rfl, rfl, Below.refl _ _⟩
        case round =>
          obtain ⟨k, hk, rfl, rfl, hb⟩ := hrel
          have hszb := hb.size
          by_cases hkn : k < n
          · have hk32 : k < 32 := by omega
            have HB1 := Lib.hid (bit_any D (k : Int) wr hD32)
            rw [bitB_32F D hk32] at HB1
            have HMN : Hid (setW (mayLs ps D (k + 1)) = if mayT ps D k = true then setW (mayLs ps D k) + 2 ^ k else setW (mayLs ps D k)) := Lib.hid (by
              cases hm : mayT ps D k with
              | true => rw [mayLs_yes hm]; rfl
              | false => rw [mayLs_no hm]; rfl)
            have hMk := mayLs_word ps D k
            have hpk := pow_u32' (v := k) hk32
            have hk8 : 2 ^ k ≤ 128 := Nat.le_trans (Nat.pow_le_pow_right (by omega) (by omega : k ≤ 7)) (by omega)
            obtain ⟨M, hM⟩ : ∃ M, setW (mayLs ps D k) = M := ⟨_, rfl⟩
            obtain ⟨q, hq⟩ : ∃ q, 2 ^ k = q := ⟨_, rfl⟩
            rw [hM] at hMk HMN ⊢
            rw [hq] at hMk HMN hpk hk8
            obtain ⟨b0, hb0⟩ : ∃ b, D.testBit k = b := ⟨_, rfl⟩
            have HB0 := Lib.hid hb0
            rw [hb0] at HB1
            clear hM hq hb0
            obtain ⟨wo, rfl⟩ : ∃ wo : World, wo = wr := ⟨_, rfl⟩
            go_wp2_with (go_at_call 34; (with_reducible refine HB1.out.mono ?_); rintro e w5 ⟨rfl, rfl⟩)
            go_loopw [13, 47] (fun o z wr => ∃ (c : Nat) (ok : Bool), c ≤ len ∧ z = .int .i64 c ∧ o = .bool ok ∧ Hid (ok = (!b0 && (ps.take c).all fun p => decide (p.2 ≠ k) || D.testBit p.1)) ∧ Below wo.heap.size wo wr) (fun _ z _ => len - (intOf z).toNat)
            case atStart => exact ⟨0, !b0, Nat.zero_le _, rfl, rfl, Lib.hid (by simp), Below.refl _ _⟩
            case round =>
              obtain ⟨c, ok, hc, rfl, rfl, HOK, hb3⟩ := hrel
              have hsz3 := hb3.size
              by_cases hcl : c < len
              · obtain ⟨ad, a, b, rfl, hbl, hd, hc0, hc1⟩ := RdN.at_ ((hx.below hb (Nat.le_refl _)).below (hb3.mono hszb) (Nat.le_refl _)) (k := c) (by rw [HL.out]; exact hcl)
                have ha8 : a < n := (HK.out.ins _ (List.mem_of_getElem? hd)).1
                have HSTEP : Hid ((!b0 && (ps.take (c + 1)).all fun p => decide (p.2 ≠ k) || D.testBit p.1) = (ok && (decide (b ≠ k) || D.testBit a))) := Lib.hid (by
                  rw [List.take_add_one, hd, Option.toList_some, List.all_append, HOK.out, Bool.and_assoc]
                  simp)
                clear hd
                cases ok with
                | false =>
                  go_wp2
                  go_round
                  case rel => exact ⟨c + 1, false, by omega, by go_num, rfl, Lib.hid (by rw [HSTEP.out]; rfl), hb3.trans (by go_grown)⟩
                  case measure => (simp [intOf]; omega)
                | true =>
                  by_cases hbk : b = k
                  · have hbe : ((b : Int) == (k : Int)) = true := by simp [hbk]
                    have HB2 : Hid (∀ w, Calls Try.prog 34 #[.int .u32 (D : Nat), .int .i64 (a : Nat)] w fun e w' => e = .returned (.bool (D.testBit a)) ∧ w = w') := Lib.hid fun w => by
                      have := bit_any D (a : Int) w hD32
                      rwa [bitB_32F D (by omega)] at this
                    obtain ⟨ba, hba⟩ : ∃ x, D.testBit a = x := ⟨_, rfl⟩
                    have HST2 : Hid ((!b0 && (ps.take (c + 1)).all fun p => decide (p.2 ≠ k) || D.testBit p.1) = ba) := Lib.hid (by rw [HSTEP.out, hba]; simp [hbk])
                    rw [hba] at HB2
                    clear hba
                    subst hbk
                    cases ba with
                    | true =>
                      go_wp2_with (go_at_call 34; (with_reducible refine (HB2.out _).mono ?_); rintro e w5 ⟨rfl, rfl⟩)
                      go_round
                      case rel => exact ⟨c + 1, true, by omega, by go_num, rfl, Lib.hid HST2.out.symm, hb3.trans (by go_grown)⟩
                      case measure => (simp [intOf]; omega)
                    | false =>
                      go_wp2_with (go_at_call 34; (with_reducible refine (HB2.out _).mono ?_); rintro e w5 ⟨rfl, rfl⟩)
                      go_round
                      case rel => exact ⟨c + 1, false, by omega, by go_num, rfl, Lib.hid HST2.out.symm, hb3.trans (by go_grown)⟩
                      case measure => (simp [intOf]; omega)
                  · have hbe : ((b : Int) == (k : Int)) = false := by simp; omega
                    have hbe2 : ((b : Int) != (k : Int)) = true := by simp; omega
                    have HST2 : Hid ((!b0 && (ps.take (c + 1)).all fun p => decide (p.2 ≠ k) || D.testBit p.1) = true) := Lib.hid (by rw [HSTEP.out]; simp [hbk])
                    clear hbk
                    go_wp2
                    go_round
                    case rel => exact ⟨c + 1, true, by omega, by go_num, rfl, Lib.hid HST2.out.symm, hb3.trans (by go_grown)⟩
                    case measure => (simp [intOf]; omega)
              · have hcl2 : c = len := by omega
                have HMT : Hid (mayT ps D k = ok) := Lib.hid (by rw [HOK.out, List.take_of_length_le (by rw [HL.out]; omega)]; unfold mayT; rw [HB0.out])
                clear hcl2
                cases ok with
                | true =>
                  have HM2 : Hid (setW (mayLs ps D (k + 1)) = M + q) := Lib.hid (by rw [HMN.out, HMT.out]; rfl)
                  go_wp2
                  go_round
                  case rel => exact ⟨k + 1, by omega, by go_num, by rw [HM2.out]; go_num, hb.trans (hb3.mono hszb)⟩
                  case measure => (simp [intOf]; omega)
                | false =>
                  have HM2 : Hid (setW (mayLs ps D (k + 1)) = M) := Lib.hid (by rw [HMN.out, HMT.out]; rfl)
                  go_wp2
                  go_round
                  case rel => exact ⟨k + 1, by omega, by go_num, by rw [HM2.out], hb.trans (hb3.mono hszb)⟩
                  case measure => (simp [intOf]; omega)
          · have hkn2 : n = k := by omega
            subst hkn2
            have hMw := mayLs_word ps D n
            rw [HP.out] at hMw
            have HML := mayLs_size ps D n
            obtain ⟨M, hM⟩ : ∃ M, setW (mayLs ps D n) = M := ⟨_, rfl⟩
            have HME := Lib.hid hM
            rw [hM] at hMw HML ⊢
            have hM32 : M < 4294967296 := by omega
            have HSM := Lib.hid (fun w => sizeF_any M w hM32)
            rw [szW_32F (n := n) (by rw [HP.out]; exact hMw) (by omega), HML] at HSM
            obtain ⟨L, hLe⟩ : ∃ L, (mayLs ps D n).length = L := ⟨_, rfl⟩
            have HLE := Lib.hid hLe
            rw [hLe] at HSM
            clear hM HML hLe
            obtain ⟨wo, rfl⟩ : ∃ wo : World, wo = wr := ⟨_, rfl⟩
            by_cases hLm : L < m
            · exact absurd hLm (by have := HLM.out; rw [HLE.out] at this; exact this)
            · have HMO : Hid (m = min m (mayLs ps D n).length) := Lib.hid (by rw [HLE.out]; omega)
              go_wp2_with (go_at_call 33; (with_reducible refine (HSM.out _).mono ?_); rintro e w5 ⟨rfl, rfl⟩)
              go_loopw [17] (fun sv wr => ∃ s : Nat, 1 ≤ s ∧ s ≤ P ∧ sv = .int .u32 (s : Nat) ∧ Hid (∀ S, 1 ≤ S → S < s → ¬ GoodS n m ps D t S) ∧ Below w.heap.size w wr) (fun sv _ => P - (intOf sv).toNat)
              case atStart => exact ⟨1, Nat.le_refl _, hpos, rfl, Lib.hid (fun S h1 h2 => by omega), hb⟩
              case round =>
                obtain ⟨s, hs1, hsP, rfl, HNG, hb2⟩ := hrel
                have hsz2 := hb2.size
                by_cases hsl : s < P
                · have hs32 : s < 4294967296 := by omega
                  have HIN := Lib.hid (in_any s M wr hs32 hM32)
                  by_cases hsub : s ||| M = M
                  · rw [decide_eq_true hsub] at HIN
                    have HSS := Lib.hid (sizeF_any s wr hs32)
                    rw [szW_32F (n := n) (by rw [HP.out]; exact hsl) (by omega)] at HSS
                    have HSUB := Lib.hid hsub
                    obtain ⟨ss, hss⟩ : ∃ ss, szW s n = ss := ⟨_, rfl⟩
                    have HSE := Lib.hid hss
                    rw [hss] at HSS
                    clear hss hsub
                    by_cases hse : ss = m
                    · have hor : bits .or .u32 (D : Int) (s : Int) = ((D ||| s : Nat) : Int) := u32_or_nat _ _ hD32 hs32
                      have hlt2 : D ||| s < 2 ^ n := Nat.or_lt_two_pow (by rw [HP.out]; exact hDlt) (by rw [HP.out]; exact hsl)
                      have HREC := Lib.hid (HIH.out (D ||| s) wr ((hx.below hb2 (Nat.le_refl _)).more hb2.size) hlt2 (good_down HK.out.ins HDN.out (by rw [HME.out]; exact HSUB.out)))
                      have HGS : Hid (GoodS n m ps D t s ↔ Can n m (fun a b => (a, b) ∈ ps) (D ||| s) t) := Lib.hid ⟨fun h => h.2.2, fun h => ⟨by rw [HME.out]; exact HSUB.out, by rw [HSE.out, hse]; exact HMO.out, h⟩⟩
                      have hbe : ((ss : Int) == (m : Int)) = true := by simp [hse]
                      obtain ⟨V, hV⟩ : ∃ V, D ||| s = V := ⟨_, rfl⟩
                      rw [hV] at hor HREC HGS
                      clear hV hlt2
                      rw [hse] at HSS hbe
                      go_wp2_with (first
                        | (go_at_call 35; (with_reducible refine HIN.out.mono ?_); rintro e w5 ⟨rfl, rfl⟩)
                        | (go_at_call 33; (with_reducible refine HSS.out.mono ?_); rintro e w5 ⟨rfl, rfl⟩))
                      refine HREC.out.mono ?_
                      rintro e w6 ⟨⟨bv, rfl, hbv⟩, hb6⟩
                      have HBV := Lib.hid hbv
                      clear hbv
                      cases bv with
                      | true =>
                        have HCAN := Lib.hid (HBV.out.1 rfl)
                        clear HBV
                        go_wp2
                        go_ret
                        exact ⟨⟨true, rfl, ⟨fun _ => HGOOD.out.2 ⟨s, hs1, by rw [HP.out]; exact hsl, HGS.out.2 HCAN.out⟩, fun _ => rfl⟩⟩, hb2.trans (hb6.mono hsz2)⟩
                      | false =>
                        have HNG2 : Hid (∀ S, 1 ≤ S → S < s + 1 → ¬ GoodS n m ps D t S) := Lib.hid fun S g1 g2 hg => by
                          by_cases e : S = s
                          · subst e
                            have := HBV.out.2 (HGS.out.1 hg)
                            cases this
                          · exact HNG.out S g1 (by omega) hg
                        go_wp2
                        go_round
                        case rel => exact ⟨s + 1, by omega, by omega, by go_num, HNG2, hb2.trans (hb6.mono hsz2)⟩
                        case measure => (simp [intOf]; omega)
                    · have hbe : ((ss : Int) == (m : Int)) = false := by simp; omega
                      have HNG2 : Hid (∀ S, 1 ≤ S → S < s + 1 → ¬ GoodS n m ps D t S) := Lib.hid fun S g1 g2 hg => by
                        by_cases e : S = s
                        · subst e
                          exact hse (HSE.out.symm.trans (hg.2.1.trans HMO.out.symm))
                        · exact HNG.out S g1 (by omega) hg
                      clear hse
                      go_wp2_with (first
                        | (go_at_call 35; (with_reducible refine HIN.out.mono ?_); rintro e w5 ⟨rfl, rfl⟩)
                        | (go_at_call 33; (with_reducible refine HSS.out.mono ?_); rintro e w5 ⟨rfl, rfl⟩))
                      go_round
                      case rel => exact ⟨s + 1, by omega, by omega, by go_num, HNG2, hb2⟩
                      case measure => (simp [intOf]; omega)
                  · rw [decide_eq_false hsub] at HIN
                    have HNG2 : Hid (∀ S, 1 ≤ S → S < s + 1 → ¬ GoodS n m ps D t S) := Lib.hid fun S g1 g2 hg => by
                      by_cases e : S = s
                      · subst e
                        have := hg.1
                        rw [HME.out] at this
                        exact hsub this
                      · exact HNG.out S g1 (by omega) hg
                    clear hsub
                    go_wp2_with (go_at_call 35; (with_reducible refine HIN.out.mono ?_); rintro e w5 ⟨rfl, rfl⟩)
                    go_round
                    case rel => exact ⟨s + 1, by omega, by omega, by go_num, HNG2, hb2⟩
                    case measure => (simp [intOf]; omega)
                · have hsP2 : s = P := by omega
                  subst hsP2
                  have HN : Hid (¬ Can n m (fun a b => (a, b) ∈ ps) D T) := Lib.hid fun h => by
                    obtain ⟨S, g1, g2, g3⟩ := HGOOD.out.1 h
                    rw [HP.out] at g2
                    exact HNG.out S g1 g2 g3
                  go_wp2
                  go_ret
                  exact ⟨⟨false, rfl, ⟨fun h => (by cases h), fun h => absurd h HN.out⟩⟩, hb2⟩

end Go.Proofs.Ythmcigdoaededaa
