/-
  What package live's functions do (K1, K2): their contracts in one word.
-/
import Derived.Test.YtfhnhbkdhdocjaaMOpen
import Derived.Test.YtfhnhbkdhdocjaaMPure
import Derived.Test.YtfhnhbkdhdocjaaWords
namespace Go.Proofs.Ytfhnhbkdhdocjaa
open Go.RowKit
set_option linter.unusedSimpArgs false
set_option linter.unusedVariables false
set_option maxRecDepth 100000

/-- K1, K2: the code -/
def ckWant (vars : Int) (p : List Bk) (want : Nat) : Int := if ckProg vars p = 0 then (if want < 2 ^ vars.toNat then 0 else 4) else ckProg vars p

theorem ckWant_ok {vars : Int} {p : List Bk} {want : Nat} (h : ckWant vars p want = 0) : ∃ n : Nat, vars = (n : Int) ∧ 1 ≤ n ∧ n ≤ 6 ∧ ckProg n p = 0 ∧ want < 2 ^ n := by
  unfold ckWant at h
  split at h
  · rename_i h1
    obtain ⟨b1, b2, _⟩ := ckProg_bd h1
    split at h
    · rename_i h2
      exact ⟨vars.toNat, by omega, by omega, by omega, by rw [Int.toNat_of_nonneg (by omega)]; exact h1, h2⟩
    · cases h
  · rename_i h1; exact absurd h h1

theorem ckWant_of {n : Nat} {p : List Bk} {want : Nat} (h : ckProg n p = 0) (hw : want < 2 ^ n) : ckWant n p want = 0 := by
  unfold ckWant
  rw [if_pos h, Int.toNat_natCast, if_pos hw]

theorem want_small {n want : Nat} (h : want < 2 ^ n) (hn : n ≤ 6) : want < 4294967296 := by
  have : 2 ^ n ≤ 2 ^ 6 := Nat.pow_le_pow_right (by omega) hn
  omega

/-- K1: the words that tell what is live ahead of each block -/
structure LvW (n : Nat) (p : List Bk) (want : Nat) (L : List Nat) : Prop where
  len : L.length = p.length
  lt : ∀ (i W : Nat), L[i]? = some W → W < 2 ^ n
  bit : ∀ (i W : Nat), L[i]? = some W → ∀ v, v < n → (W.testBit v = true ↔ Lv p want v (i, 0))

structure LiveIs : Prop where
  in_ : ∀ (n want : Nat) (A : Option Addr) (len cap : Nat) (p : List Bk) (w : World), RdP w w.heap.size A p → p.length = len → ckProg n p = 0 → want < 2 ^ n →
    Calls Try.prog 17 #[.int .i64 n, .slice A len cap, .int .u32 (want : Nat)] w fun e w' => ∃ A' c' L, e = .returned (.tuple #[.slice A' len c', .int .i64 0]) ∧ RdU w' w'.heap.size A' L ∧ LvW n p want L ∧ Below w.heap.size w w'
  inBad : ∀ (vars : Int) (want : Nat) (A : Option Addr) (len cap : Nat) (p : List Bk) (w : World), RdP w w.heap.size A p → p.length = len → len ≤ maxLen → (∀ b ∈ p, InBk b) → want < 4294967296 → ckWant vars p want ≠ 0 →
    Calls Try.prog 17 #[.int .i64 vars, .slice A len cap, .int .u32 (want : Nat)] w fun e w' => ∃ A' c', e = .returned (.tuple #[.slice A' 0 c', .int .i64 (ckWant vars p want)]) ∧ Below w.heap.size w w'

/-- of package live: what Trim does -/
structure TrimIs : Prop where
  trim : ∀ (n want : Nat) (A : Option Addr) (len cap : Nat) (p : List Bk) (w : World), RdP w w.heap.size A p → p.length = len → ckProg n p = 0 → want < 2 ^ n →
    Calls Try.prog 22 #[.int .i64 n, .slice A len cap, .int .u32 (want : Nat)] w fun e w' => ∃ A' c' q, e = .returned (.tuple #[.slice A' len c', .int .i64 0]) ∧ RdP w' w'.heap.size A' q ∧ Cuts want p q ∧ Nf want q ∧ Below w.heap.size w w'
  trimBad : ∀ (vars : Int) (want : Nat) (A : Option Addr) (len cap : Nat) (p : List Bk) (w : World), RdP w w.heap.size A p → p.length = len → len ≤ maxLen → (∀ b ∈ p, InBk b) → want < 4294967296 → ckWant vars p want ≠ 0 →
    Calls Try.prog 22 #[.int .i64 vars, .slice A len cap, .int .u32 (want : Nat)] w fun e w' => ∃ A' c', e = .returned (.tuple #[.slice A' 0 c', .int .i64 (ckWant vars p want)]) ∧ Below w.heap.size w w'

/-- more asked for: more live, word by word -/
theorem lvW_or {n : Nat} {p : List Bk} {a b : Nat} {X Y Z : List Nat} (hx : LvW n p a X) (hy : LvW n p b Y) (hz : LvW n p (a ||| b) Z) {i x y z : Nat} (h1 : X[i]? = some x) (h2 : Y[i]? = some y) (h3 : Z[i]? = some z) : z = x ||| y := by
  apply Nat.eq_of_testBit_eq
  intro v
  by_cases hv : v < n
  · rw [Bool.eq_iff_iff, Nat.testBit_or, Bool.or_eq_true, hz.bit i z h3 v hv, hx.bit i x h1 v hv, hy.bit i y h2 v hv]
    exact lv_more
  · have big : ∀ W, W < 2 ^ n → W.testBit v = false := fun W hW => Nat.testBit_lt_two_pow (Nat.lt_of_lt_of_le hW (Nat.pow_le_pow_right (by omega) (by omega)))
    rw [Nat.testBit_or, big z (hz.lt i z h3), big x (hx.lt i x h1), big y (hy.lt i y h2)]
    rfl

end Go.Proofs.Ytfhnhbkdhdocjaa
