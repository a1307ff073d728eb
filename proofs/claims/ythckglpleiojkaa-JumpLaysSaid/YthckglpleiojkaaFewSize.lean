/-
  codemasonref.Size: how many bits (P1).
-/
import Derived.Test.YthckglpleiojkaaMBase
import Derived.Test.YthckglpleiojkaaMPure
namespace Go.Proofs.Ythckglpleiojkaa
open Go.RowKit
set_option linter.unusedSimpArgs false
set_option linter.unusedVariables false
set_option maxRecDepth 100000

theorem szW_leF (s : Nat) : ∀ n, szW s n ≤ n
  | 0 => Nat.le_refl _
  | n + 1 => by
    have := szW_leF s n
    unfold szW
    split <;> omega

set_option maxHeartbeats 1000000 in
theorem sizeF_any (W : Nat) (w : World) (hW : W < 4294967296) :
    Calls Try.prog 17 #[.int .u32 (W : Nat)] w fun e w' => e = .returned (.int .i64 (szW W 32 : Nat)) ∧ w = w' := by
  go_enter Try.func17, Try.ntmps17
  go_wp2
  go_loop [3, 4] (fun s i => ∃ k m : Nat, k ≤ 32 ∧ m ≤ k ∧ i = .int .i64 k ∧ s = .int .i64 m ∧ m = szW W k) (fun _ i => 32 - (intOf i).toNat)
  case atStart => exact ⟨0, 0, by omega, by omega, rfl, rfl, rfl⟩
  case round =>
    obtain ⟨k, m, hk, hmk, rfl, rfl, hr⟩ := hrel
    have HR := Lib.hid hr
    clear hr
    by_cases hlt : k < 32
    · have hb : bitB W (k : Int) = W.testBit k := by unfold bitB; rw [decide_eq_true (by omega)]; simp
      have hs : szW W (k + 1) = m + (if W.testBit k = true then 1 else 0) := by rw [szW, ← HR.out]
      cases ht : W.testBit k with
      | true =>
        rw [ht] at hb hs
        rw [if_pos rfl] at hs
        have HS := Lib.hid hs
        clear hs ht
        go_wp2_with (go_at_call 15; (with_reducible refine (bit_any W _ _ hW).mono ?_); rw [hb]; rintro e w5 ⟨rfl, rfl⟩)
        go_round
        case rel => exact ⟨k + 1, m + 1, by omega, by omega, by go_num, by go_num, HS.out.symm⟩
        case measure => (simp [intOf]; omega)
      | false =>
        rw [ht] at hb hs
        rw [if_neg (by simp)] at hs
        have HS := Lib.hid hs
        clear hs ht
        go_wp2_with (go_at_call 15; (with_reducible refine (bit_any W _ _ hW).mono ?_); rw [hb]; rintro e w5 ⟨rfl, rfl⟩)
        go_round
        case rel => exact ⟨k + 1, m, by omega, by omega, by go_num, rfl, by rw [HS.out]; simp⟩
        case measure => (simp [intOf]; omega)
    · have hk32 : k = 32 := by omega
      subst hk32
      go_wp2
      go_ret
      exact ⟨ret_int (by rw [HR.out]), rfl⟩

theorem bitB_32F (W : Nat) {j : Nat} (h : j < 32) : bitB W (j : Int) = W.testBit j := by
  unfold bitB
  rw [decide_eq_true (by omega)]
  simp

theorem szW_moreF {W n : Nat} (hW : W < 2 ^ n) : ∀ d, szW W (n + d) = szW W n
  | 0 => rfl
  | d + 1 => by
    show szW W (n + d) + (if W.testBit (n + d) = true then 1 else 0) = _
    rw [szW_moreF hW d, Nat.testBit_lt_two_pow (Nat.lt_of_lt_of_le hW (Nat.pow_le_pow_right (by omega) (by omega)))]
    rfl

theorem szW_32F {W n : Nat} (hW : W < 2 ^ n) (hn : n ≤ 32) : szW W 32 = szW W n := by
  have := szW_moreF hW (32 - n)
  rwa [show n + (32 - n) = 32 by omega] at this

end Go.Proofs.Ythckglpleiojkaa
