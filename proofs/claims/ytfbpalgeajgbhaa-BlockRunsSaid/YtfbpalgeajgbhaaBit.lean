/-
  codemasonref.Bit, In: words as sets.
-/
import Derived.Test.YtfbpalgeajgbhaaBase
import Derived.Laws.BitsAllLaws
namespace Go.Proofs.Ytfbpalgeajgbhaa
open Go.RowKit
set_option linter.unusedSimpArgs false
set_option linter.unusedVariables false
set_option maxRecDepth 100000

/-- is number i in the word W? -/
def bitB (W : Nat) (i : Int) : Bool := decide (0 ≤ i ∧ i < 32) && W.testBit i.toNat

theorem pow_lt_32 {v : Nat} (h : v < 32) : 2 ^ v < 4294967296 := by
  have : 2 ^ v ≤ 2 ^ 31 := Nat.pow_le_pow_right (by omega) (by omega)
  omega

theorem pow_u32' {v : Nat} (h : v < 32) : (2 : Int) ^ v % 4294967296 = ((2 ^ v : Nat) : Int) := by
  have h1 := pow_lt_32 h
  have h2 : (2 : Int) ^ v = ((2 ^ v : Nat) : Int) := by simp
  rw [h2]
  exact Int.emod_eq_of_lt (Int.natCast_nonneg _) (Int.ofNat_lt.2 h1)

end Go.Proofs.Ytfbpalgeajgbhaa
