/-
  rule.frontier, rule.Meet (F2).
-/
import Derived.Test.YtmbabbdcijgnoaaRuleEdge
namespace Go.Proofs.Ytmbabbdcijgnoaa
open Go.RowKit
set_option linter.unusedSimpArgs false
set_option linter.unusedVariables false
set_option maxRecDepth 100000

set_option maxHeartbeats 1000000 in
theorem frontier_any (A : Option Addr) (n c : Nat) (eg : List Nat) (s B : Nat) (w : World) (hx : RdU w B A eg) (hl : eg.length = n) (hlt : ∀ (i W : Nat), eg[i]? = some W → W < 256) (hs : s < 4294967296) (hm : n ≤ 8) :
    Calls Try.prog 40 #[.slice A n c, .int .u32 (s : Nat)] w fun e w' => e = .returned (.int .u32 (frW eg s n : Nat)) ∧ w = w' := by
  have HL := Lib.hid hl
  have HLT := Lib.hid hlt
  have HFL := Lib.hid (fun k => frW_lt (n := 8) (s := s) hlt k)
  clear hl hlt
  go_enter Try.func40, Try.ntmps40
  go_wp2
  go_loop [5, 10] (fun z i => ∃ k m : Nat, k ≤ n ∧ i = .int .i64 k ∧ z = .int .u32 (m : Nat) ∧ m = frW eg s k) (fun _ i => n - (intOf i).toNat)
  case atStart => exact ⟨0, 0, Nat.zero_le _, rfl, rfl, rfl⟩
  case round =>
    obtain ⟨k, m, hk, rfl, rfl, hm0⟩ := hrel
    have hml := HFL.out k
    rw [← hm0] at hml
    have HM := Lib.hid hm0
    clear hm0
    by_cases hlt : k < n
    · obtain ⟨ad, W, rfl, hbl, hd, hcell⟩ := hx.at_ (k := k) (by rw [HL.out]; exact hlt)
      have hW := HLT.out k W hd
      have hk32 : k < 32 := by omega
      have hg : eg.getD k 0 = W := by rw [List.getD_eq_getElem?_getD, hd]; rfl
      have hor : bits .or .u32 ((m : Nat) : Int) ((W : Nat) : Int) = ((m ||| W : Nat) : Int) := u32_or_nat _ _ (by omega) (by omega)
      have hnx := frW_succ eg s k
      rw [hg, ← HM.out] at hnx
      obtain ⟨b, hb⟩ : ∃ b, s.testBit k = b := ⟨_, rfl⟩
      rw [hb] at hnx
      have HB := Lib.hid hb
      have HOR := Lib.hid hor
      clear hd hg hor hb
      cases b with
      | true =>
        rw [if_pos rfl] at hnx
        have HNX := Lib.hid hnx
        clear hnx
        go_wp2_with (go_at_call 35; (with_reducible refine (wayHas_any s k _ hs hk32).mono ?_); rw [HB.out]; rintro e w5 ⟨rfl, rfl⟩)
        go_round
        case rel => exact ⟨k + 1, m ||| W, by omega, by go_num, by rw [HOR.out], HNX.out.symm⟩
        case measure => (simp [intOf]; omega)
      | false =>
        rw [if_neg (by simp)] at hnx
        have HNX := Lib.hid hnx
        clear hnx
        go_wp2_with (go_at_call 35; (with_reducible refine (wayHas_any s k _ hs hk32).mono ?_); rw [HB.out]; rintro e w5 ⟨rfl, rfl⟩)
        go_round
        case rel => exact ⟨k + 1, m, by omega, by go_num, rfl, HNX.out.symm⟩
        case measure => (simp [intOf]; omega)
    · have hkn : k = n := by omega
      have hmn : m = frW eg s n := by rw [HM.out, hkn]
      have HMN := Lib.hid hmn
      clear hkn hmn
      go_wp2
      go_ret
      exact ⟨ret_int (congrArg _ HMN.out), rfl⟩

theorem shr_zero {s n : Nat} (h : s < 2 ^ n) : ((s : Nat) : Int) / 2 ^ n = 0 := by
  have h2 : ((s : Nat) : Int) / 2 ^ n = ((s / 2 ^ n : Nat) : Int) := by simp
  rw [h2, Nat.div_eq_of_lt h]
  rfl

theorem shr_not {s n : Nat} (h : ¬ s < 2 ^ n) : (((s : Nat) : Int) / 2 ^ n != 0) = true := by
  have h2 : ((s : Nat) : Int) / 2 ^ n = ((s / 2 ^ n : Nat) : Int) := by simp
  have h3 : 0 < s / 2 ^ n := Nat.div_pos (by omega) (Nat.two_pow_pos n)
  rw [h2]
  simp only [bne_iff_ne, ne_eq]
  omega

end Go.Proofs.Ytmbabbdcijgnoaa
