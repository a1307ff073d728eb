/-
  What package rule's functions do (F1, F2): their contracts in one word; codemasonref.Fits.
-/
import Derived.Test.YtmbabbdcijgnoaaWaySets
import Derived.Test.YtmbabbdcijgnoaaRuleRef
namespace Go.Proofs.Ytmbabbdcijgnoaa
open Go.RowKit
set_option linter.unusedSimpArgs false
set_option linter.unusedVariables false
set_option maxRecDepth 100000

/-- F1: who dominates whom, as words -/
structure Tbl (nx : List (List Int)) (ws : List Nat) : Prop where
  len : ws.length = nx.length
  lt : ∀ (i W : Nat), ws[i]? = some W → W < 256
  mem : ∀ (i W : Nat), ws[i]? = some W → ∀ j, W.testBit j = true ↔ Dom nx j i

/-- F1: the tree -/
structure Tre (nx : List (List Int)) (ts : List Int) : Prop where
  len : ts.length = nx.length
  at_ : ∀ (i : Nat) (t : Int), ts[i]? = some t → TreeAt nx i t

/-- F2: the edges, as words -/
structure Edg (nx : List (List Int)) (ws : List Nat) : Prop where
  len : ws.length = nx.length
  lt : ∀ (i W : Nat), ws[i]? = some W → W < 256
  mem : ∀ (i W : Nat), ws[i]? = some W → ∀ j, W.testBit j = true ↔ EdgeP nx i j

/-- F2: the code of Meet -/
def ckMeet (nx : List (List Int)) (s : Nat) : Int := if ckWay nx = 0 then (if s < 2 ^ nx.length then 0 else 4) else ckWay nx

theorem ckMeet_ok {nx : List (List Int)} {s : Nat} (h : ckMeet nx s = 0) : ckWay nx = 0 ∧ s < 2 ^ nx.length := by
  unfold ckMeet at h
  split at h
  · split at h
    · rename_i h1 h2; exact ⟨h1, h2⟩
    · omega
  · rename_i h1; exact absurd h h1

theorem ckMeet_of {nx : List (List Int)} {s : Nat} (h : ckWay nx = 0) (h2 : s < 2 ^ nx.length) : ckMeet nx s = 0 := by
  unfold ckMeet
  rw [if_pos h, if_pos h2]

set_option maxHeartbeats 1000000 in
theorem refFits_is (n W : Nat) (w : World) (hn : n < 32) (hW : W < 4294967296) :
    Calls Try.prog 24 #[.int .i64 n, .int .u32 (W : Nat)] w fun e w' => e = .returned (.bool (decide (W < 2 ^ n))) ∧ w = w' := by
  by_cases h : W < 2 ^ n
  · rw [decide_eq_true h]
    exact refFits_any n W w hn h
  · rw [decide_eq_false h]
    have hpe := pow_u32' hn
    have hlt : decide (((W : Nat) : Int) < (2 : Int) ^ n % 4294967296) = false := by rw [hpe]; simp only [decide_eq_false_iff_not]; intro h2; exact h (Int.ofNat_lt.1 h2)
    have h32 : ¬ (32 : Int) ≤ (n : Int) := by omega
    clear hpe h
    go_enter Try.func24, Try.ntmps24
    go_wp2
    go_ret
    exact ⟨ret_bool (by simp), rfl⟩

end Go.Proofs.Ytmbabbdcijgnoaa
