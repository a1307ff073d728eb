/-
  What package block's functions do (J1, J2): their contracts in one word.
-/
import Derived.Test.YtfhnhbkdhdocjaaBlockGo
import Derived.Test.YtfhnhbkdhdocjaaBlockNx
namespace Go.Proofs.Ytfhnhbkdhdocjaa
open Go.RowKit
set_option linter.unusedSimpArgs false
set_option linter.unusedVariables false
set_option maxRecDepth 100000

/-- what block.Run answers -/
def RunsTo (r : Option (List Int × List Nat)) (e : Ending) (w w' : World) : Prop :=
  (r = none ∧ ∃ (A1 A2 : Option Addr) (c1 c2 : Nat), e = .returned (.tuple #[.slice A1 0 c1, .slice A2 0 c2, .int .i64 7])) ∨
  ∃ (x : List Int) (l : List Nat) (A1 A2 : Option Addr) (c1 c2 : Nat), r = some (x, l) ∧ e = .returned (.tuple #[.slice A1 x.length c1, .slice A2 l.length c2, .int .i64 0]) ∧ RdI w' w'.heap.size A1 x ∧ RdI w' w'.heap.size A2 (ni l)

structure BlockIs : Prop where
  check : ∀ (vars : Int) (A : Option Addr) (len cap : Nat) (p : List Bk) (w : World), RdP w w.heap.size A p → p.length = len → len ≤ maxLen → (∀ b ∈ p, InBk b) →
    Calls Try.prog 56 #[.int .i64 vars, .slice A len cap] w fun e w' => e = .returned (.int .i64 (ckProg vars p)) ∧ Below w.heap.size w w'
  way : ∀ (n : Nat) (A : Option Addr) (len cap : Nat) (p : List Bk) (w : World), RdP w w.heap.size A p → p.length = len → ckProg n p = 0 →
    Calls Try.prog 79 #[.int .i64 n, .slice A len cap] w fun e w' => ∃ A' c', e = .returned (.tuple #[.slice A' len c', .int .i64 0]) ∧ RdG w' w'.heap.size A' (nxP p) ∧ Below w.heap.size w w'
  wayBad : ∀ (vars : Int) (A : Option Addr) (len cap : Nat) (p : List Bk) (w : World), RdP w w.heap.size A p → p.length = len → len ≤ maxLen → (∀ b ∈ p, InBk b) → ckProg vars p ≠ 0 →
    Calls Try.prog 79 #[.int .i64 vars, .slice A len cap] w fun e w' => ∃ A' c', e = .returned (.tuple #[.slice A' 0 c', .int .i64 (ckProg vars p)]) ∧ Below w.heap.size w w'
  run : ∀ (n : Nat) (A HA : Option Addr) (len cap hcap : Nat) (p : List Bk) (hv : List Int) (w : World), RdP w w.heap.size A p → RdI w w.heap.size HA hv → p.length = len → ckProg n p = 0 → ValsOk n hv →
    Calls Try.prog 27 #[.int .i64 n, .slice A len cap, .slice HA n hcap] w fun e w' => RunsTo (goP p 200 0 hv) e w w' ∧ Below w.heap.size w w'
  runBad : ∀ (vars : Int) (A HA : Option Addr) (len cap hl hcap : Nat) (p : List Bk) (hv : List Int) (w : World), RdP w w.heap.size A p → RdI w w.heap.size HA hv → p.length = len → len ≤ maxLen → (∀ b ∈ p, InBk b) → hv.length = hl → hl ≤ maxLen → ckGo vars p hv ≠ 0 →
    Calls Try.prog 27 #[.int .i64 vars, .slice A len cap, .slice HA hl hcap] w fun e w' => ∃ A1 A2 c1 c2, e = .returned (.tuple #[.slice A1 0 c1, .slice A2 0 c2, .int .i64 (ckGo vars p hv)]) ∧ Below w.heap.size w w'

/-- of package block: what Run does, where it may be called -/
structure GoIs : Prop where
  run : ∀ (n : Nat) (A HA : Option Addr) (len cap hcap : Nat) (p : List Bk) (hv : List Int) (w : World), RdP w w.heap.size A p → RdI w w.heap.size HA hv → p.length = len → ckProg n p = 0 → ValsOk n hv →
    Calls Try.prog 27 #[.int .i64 n, .slice A len cap, .slice HA n hcap] w fun e w' => RunsTo (goP p 200 0 hv) e w w' ∧ Below w.heap.size w w'

theorem ckGo_ok {vars : Int} {p : List Bk} {hv : List Int} (h : ckGo vars p hv = 0) : ckProg vars p = 0 ∧ ckHave vars hv = 0 := by
  unfold ckGo at h
  split at h
  · rename_i h1; exact ⟨h1, h⟩
  · rename_i h1; exact absurd h h1

theorem ckGo_of {vars : Int} {p : List Bk} {hv : List Int} (h1 : ckProg vars p = 0) (h2 : ckHave vars hv = 0) : ckGo vars p hv = 0 := by
  unfold ckGo
  rw [if_pos h1, h2]

/-- of variables that may be: their number -/
theorem ckProg_nat {vars : Int} {p : List Bk} (h : ckProg vars p = 0) : ∃ n : Nat, vars = (n : Int) ∧ 1 ≤ n ∧ n ≤ 6 := by
  obtain ⟨h1, h2, _⟩ := ckProg_bd h
  exact ⟨vars.toNat, by omega, by omega, by omega⟩

end Go.Proofs.Ytfhnhbkdhdocjaa
