/-
  What package rule's functions do (F1, F2): their contracts in one word; codemasonref.Fits.
-/
import Derived.Test.YtgcjknibelfjbaaWaySets
import Derived.Test.YtgcjknibelfjbaaRuleRef
namespace Go.Proofs.Ytgcjknibelfjbaa
open Go.RowKit
set_option linter.unusedSimpArgs false
set_option linter.unusedVariables false
set_option maxRecDepth 100000

/-- F1: who dominates whom, as words -/
structure Tbl (nx : List (List Int)) (ws : List Nat) : Prop where
  len : ws.length = nx.length
  lt : ∀ (i W : Nat), ws[i]? = some W → W < 256
  mem : ∀ (i W : Nat), ws[i]? = some W → ∀ j, W.testBit j = true ↔ Dom nx j i

/-- F1: the tree -/
structure Tre (nx : List (List Int)) (ts : List Int) : Prop where
  len : ts.length = nx.length
  at_ : ∀ (i : Nat) (t : Int), ts[i]? = some t → TreeAt nx i t

/-- F2: the edges, as words -/
structure Edg (nx : List (List Int)) (ws : List Nat) : Prop where
  len : ws.length = nx.length
  lt : ∀ (i W : Nat), ws[i]? = some W → W < 256
  mem : ∀ (i W : Nat), ws[i]? = some W → ∀ j, W.testBit j = true ↔ EdgeP nx i j

/-- F2: the code of Meet -/
def ckMeet (nx : List (List Int)) (s : Nat) : Int := if ckWay nx = 0 then (if s < 2 ^ nx.length then 0 else 4) else ckWay nx

theorem ckMeet_ok {nx : List (List Int)} {s : Nat} (h : ckMeet nx s = 0) : ckWay nx = 0 ∧ s < 2 ^ nx.length := by
  unfold ckMeet at h
  split at h
  · split at h
    · rename_i h1 h2; exact ⟨h1, h2⟩
    · omega
  · rename_i h1; exact absurd h h1

theorem ckMeet_of {nx : List (List Int)} {s : Nat} (h : ckWay nx = 0) (h2 : s < 2 ^ nx.length) : ckMeet nx s = 0 := by
  unfold ckMeet
  rw [if_pos h, if_pos h2]

structure RuleIs : Prop where
  table : ∀ (A : Option Addr) (len cap : Nat) (nx : List (List Int)) (w : World), RdG w w.heap.size A nx → nx.length = len → ckWay nx = 0 →
    Calls Try.prog 34 #[.slice A len cap] w fun e w' => ∃ ws A' c', Tbl nx ws ∧ e = .returned (.tuple #[.slice A' len c', .int .i64 0]) ∧ RdU w' w'.heap.size A' ws ∧ Below w.heap.size w w'
  tableBad : ∀ (A : Option Addr) (len cap : Nat) (nx : List (List Int)) (w : World), RdG w w.heap.size A nx → nx.length = len → len ≤ maxLen → ckWay nx ≠ 0 →
    Calls Try.prog 34 #[.slice A len cap] w fun e w' => ∃ A' c', e = .returned (.tuple #[.slice A' 0 c', .int .i64 (ckWay nx)]) ∧ Below w.heap.size w w'
  tree : ∀ (A : Option Addr) (len cap : Nat) (nx : List (List Int)) (w : World), RdG w w.heap.size A nx → nx.length = len → ckWay nx = 0 →
    Calls Try.prog 43 #[.slice A len cap] w fun e w' => ∃ ts A' c', Tre nx ts ∧ e = .returned (.tuple #[.slice A' len c', .int .i64 0]) ∧ RdI w' w'.heap.size A' ts ∧ Below w.heap.size w w'
  treeBad : ∀ (A : Option Addr) (len cap : Nat) (nx : List (List Int)) (w : World), RdG w w.heap.size A nx → nx.length = len → len ≤ maxLen → ckWay nx ≠ 0 →
    Calls Try.prog 43 #[.slice A len cap] w fun e w' => ∃ A' c', e = .returned (.tuple #[.slice A' 0 c', .int .i64 (ckWay nx)]) ∧ Below w.heap.size w w'
  edge : ∀ (A : Option Addr) (len cap : Nat) (nx : List (List Int)) (w : World), RdG w w.heap.size A nx → nx.length = len → ckWay nx = 0 →
    Calls Try.prog 86 #[.slice A len cap] w fun e w' => ∃ ws A' c', Edg nx ws ∧ e = .returned (.tuple #[.slice A' len c', .int .i64 0]) ∧ RdU w' w'.heap.size A' ws ∧ Below w.heap.size w w'
  edgeBad : ∀ (A : Option Addr) (len cap : Nat) (nx : List (List Int)) (w : World), RdG w w.heap.size A nx → nx.length = len → len ≤ maxLen → ckWay nx ≠ 0 →
    Calls Try.prog 86 #[.slice A len cap] w fun e w' => ∃ A' c', e = .returned (.tuple #[.slice A' 0 c', .int .i64 (ckWay nx)]) ∧ Below w.heap.size w w'
  meet : ∀ (A : Option Addr) (len cap : Nat) (nx : List (List Int)) (s : Nat) (w : World), RdG w w.heap.size A nx → nx.length = len → s < 4294967296 → ckMeet nx s = 0 →
    Calls Try.prog 68 #[.slice A len cap, .int .u32 (s : Nat)] w fun e w' => ∃ m : Nat, m < 256 ∧ (∀ j, m.testBit j = true ↔ Mt nx s j) ∧ e = .returned (.tuple #[.int .u32 (m : Nat), .int .i64 0]) ∧ Below w.heap.size w w'
  meetBad : ∀ (A : Option Addr) (len cap : Nat) (nx : List (List Int)) (s : Nat) (w : World), RdG w w.heap.size A nx → nx.length = len → len ≤ maxLen → s < 4294967296 → ckMeet nx s ≠ 0 →
    Calls Try.prog 68 #[.slice A len cap, .int .u32 (s : Nat)] w fun e w' => e = .returned (.tuple #[.int .u32 0, .int .i64 (ckMeet nx s)]) ∧ Below w.heap.size w w'

/-- of package rule: what Meet does -/
structure MeetIs : Prop where
  meet : ∀ (A : Option Addr) (len cap : Nat) (nx : List (List Int)) (s : Nat) (w : World), RdG w w.heap.size A nx → nx.length = len → s < 4294967296 → ckMeet nx s = 0 →
    Calls Try.prog 68 #[.slice A len cap, .int .u32 (s : Nat)] w fun e w' => ∃ m : Nat, m < 256 ∧ (∀ j, m.testBit j = true ↔ Mt nx s j) ∧ e = .returned (.tuple #[.int .u32 (m : Nat), .int .i64 0]) ∧ Below w.heap.size w w'
  meetBad : ∀ (A : Option Addr) (len cap : Nat) (nx : List (List Int)) (s : Nat) (w : World), RdG w w.heap.size A nx → nx.length = len → len ≤ maxLen → s < 4294967296 → ckMeet nx s ≠ 0 →
    Calls Try.prog 68 #[.slice A len cap, .int .u32 (s : Nat)] w fun e w' => e = .returned (.tuple #[.int .u32 0, .int .i64 (ckMeet nx s)]) ∧ Below w.heap.size w w'

end Go.Proofs.Ytgcjknibelfjbaa
