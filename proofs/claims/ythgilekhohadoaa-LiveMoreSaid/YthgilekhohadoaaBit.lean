/-
  codemasonref.Bit, In: words as sets.
-/
import Derived.Test.YthgilekhohadoaaBase
import Derived.Laws.BitsAllLaws
namespace Go.Proofs.Ythgilekhohadoaa
open Go.RowKit
set_option linter.unusedSimpArgs false
set_option linter.unusedVariables false
set_option maxRecDepth 100000

/-- is number i in the word W? -/
def bitB (W : Nat) (i : Int) : Bool := decide (0 ≤ i ∧ i < 32) && W.testBit i.toNat

theorem pow_lt_32 {v : Nat} (h : v < 32) : 2 ^ v < 4294967296 := by
  have : 2 ^ v ≤ 2 ^ 31 := Nat.pow_le_pow_right (by omega) (by omega)
  omega

theorem pow_u32' {v : Nat} (h : v < 32) : (2 : Int) ^ v % 4294967296 = ((2 ^ v : Nat) : Int) := by
  have h1 := pow_lt_32 h
  have h2 : (2 : Int) ^ v = ((2 ^ v : Nat) : Int) := by simp
  rw [h2]
  exact Int.emod_eq_of_lt (Int.natCast_nonneg _) (Int.ofNat_lt.2 h1)

set_option maxHeartbeats 1000000 in
theorem bit_any (W : Nat) (i : Int) (w : World) (hW : W < 4294967296) :
    Calls Try.prog 10 #[.int .u32 (W : Nat), .int .i64 i] w fun e w' => e = .returned (.bool (bitB W i)) ∧ w = w' := by
  by_cases h : 0 ≤ i ∧ i < 32
  · obtain ⟨n, rfl⟩ := Int.eq_ofNat_of_zero_le h.1
    have hn : n < 32 := by omega
    have hr : bitB W (n : Int) = (((W &&& 2 ^ n : Nat) : Int) != 0) := by rw [bit_and]; unfold bitB; rw [decide_eq_true h]; rfl
    rw [hr]
    have hand : bits .and .u32 (W : Int) ((2 : Int) ^ n % 4294967296) = ((W &&& 2 ^ n : Nat) : Int) := by rw [pow_u32' hn]; exact u32_and_nat _ _ hW (pow_lt_32 hn)
    clear hr h
    go_enter Try.func10, Try.ntmps10
    go_wp2
    go_ret
    exact ⟨ret_bool (by first | rfl | (rw [← hand]; rfl) | (simp only [hand])), rfl⟩
  · have hr : bitB W i = false := by unfold bitB; simp; omega
    rw [hr]
    clear hr
    by_cases h0 : 0 ≤ i
    · have h32 : 32 ≤ i := by omega
      clear h
      go_enter Try.func10, Try.ntmps10
      go_wp2
      go_ret
      exact ⟨rfl, rfl⟩
    · have h1 : i < 0 := by omega
      clear h h0
      go_enter Try.func10, Try.ntmps10
      go_wp2
      go_ret
      exact ⟨rfl, rfl⟩

end Go.Proofs.Ythgilekhohadoaa
