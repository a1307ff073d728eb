/-
  What package known's functions do (L1, L2): their contracts in one word.
-/
import Derived.Test.YtdckagledddkdaaBlockOpen
import Derived.Test.YtdckagledddkdaaMPure
import Derived.Test.YtdckagledddkdaaKnownGo
import Derived.Test.YtdckagledddkdaaMBase
namespace Go.Proofs.Ytdckagledddkdaa
open Go.RowKit
set_option linter.unusedSimpArgs false
set_option linter.unusedVariables false
set_option maxRecDepth 100000

/-- L1, L2: the code -/
def ckKnow (vars : Int) (p : List Bk) (hv : List Int) : Int := if ckProg vars p = 0 then ckStart vars hv else ckProg vars p

theorem ckKnow_ok {vars : Int} {p : List Bk} {hv : List Int} (h : ckKnow vars p hv = 0) : ∃ n : Nat, vars = (n : Int) ∧ 1 ≤ n ∧ n ≤ 6 ∧ ckProg n p = 0 ∧ KOk n hv := by
  unfold ckKnow at h
  split at h
  · rename_i h1
    obtain ⟨b1, b2, _⟩ := ckProg_bd h1
    obtain ⟨n, rfl⟩ := Int.eq_ofNat_of_zero_le (show 0 ≤ vars by omega)
    exact ⟨n, rfl, by omega, by omega, h1, ckStart_ok.1 h⟩
  · rename_i h1; exact absurd h h1

theorem ckKnow_of {n : Nat} {p : List Bk} {hv : List Int} (h : ckProg n p = 0) (hk : KOk n hv) : ckKnow n p hv = 0 := by
  unfold ckKnow
  rw [if_pos h]
  exact ckStart_ok.2 hk

structure KnownIs : Prop where
  in_ : ∀ (n : Nat) (A VA : Option Addr) (len cap vcap : Nat) (p : List Bk) (hv : List Int) (w : World), RdP w w.heap.size A p → RdI w w.heap.size VA hv → p.length = len → ckProg n p = 0 → KOk n hv →
    Calls Try.prog 8 #[.int .i64 n, .slice A len cap, .slice VA n vcap] w fun e w' => ∃ A' c' L, e = .returned (.tuple #[.slice A' len c', .int .i64 0]) ∧ RdG w' w'.heap.size A' L ∧ Least n p hv L ∧ Below w.heap.size w w'
  inBad : ∀ (vars : Int) (A VA : Option Addr) (len cap vl vcap : Nat) (p : List Bk) (hv : List Int) (w : World), RdP w w.heap.size A p → RdI w w.heap.size VA hv → p.length = len → len ≤ maxLen → (∀ b ∈ p, InBk b) → hv.length = vl → vl ≤ maxLen → ckKnow vars p hv ≠ 0 →
    Calls Try.prog 8 #[.int .i64 vars, .slice A len cap, .slice VA vl vcap] w fun e w' => ∃ A' c', e = .returned (.tuple #[.slice A' 0 c', .int .i64 (ckKnow vars p hv)]) ∧ Below w.heap.size w w'

theorem Least.row {n : Nat} {p : List Bk} {hv : List Int} {L : List (List Int)} (h : Least n p hv L) (hn : n ≤ 6) : ∀ r ∈ L, r.length ≤ maxLen := fun r hr => by
  obtain ⟨j, hj, rfl⟩ := List.getElem_of_mem hr
  rcases h.sol.ok j _ (List.getElem?_eq_getElem hj) with h | h
  · rw [h]; exact Nat.zero_le _
  · rw [h.1]; unfold maxLen; omega

end Go.Proofs.Ytdckagledddkdaa
