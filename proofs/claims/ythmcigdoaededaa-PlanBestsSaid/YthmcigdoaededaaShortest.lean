/-
  codemasonref.Shortest: can all be done in so many turns, by all choices? (Q1).
-/
import Derived.Test.YthmcigdoaededaaShortFew
import Derived.Test.YthmcigdoaededaaShortMany
namespace Go.Proofs.Ythmcigdoaededaa
open Go.RowKit
set_option linter.unusedSimpArgs false
set_option linter.unusedVariables false
set_option maxRecDepth 100000

theorem shortest_any (n m len cap : Nat) (A : Option Addr) (ps : List (Nat × Nat)) (hk : TkOk n ps) (hl : ps.length = len) (h1 : 1 ≤ m) (h8 : m ≤ 8) : ∀ (q t D : Nat) (w : World), t ≤ q → RdM w w.heap.size A (mvI ps) → t ≤ 8 → D < 2 ^ n → DnC ps D →
    Calls Try.prog 20 #[.int .i64 n, .slice A len cap, .int .i64 m, .int .u32 (D : Nat), .int .i64 t] w fun e w' => (∃ b, e = .returned (.bool b) ∧ (b = true ↔ Can n m (fun a b => (a, b) ∈ ps) D t)) ∧ Below w.heap.size w w' := by
  intro q
  induction q with
  | zero =>
    intro t D w hq hx ht hD hdn
    have hih : ∀ t', t' + 1 = t → ∀ (D : Nat) (w : World), RdM w w.heap.size A (mvI ps) → D < 2 ^ n → DnC ps D → Calls Try.prog 20 #[.int .i64 n, .slice A len cap, .int .i64 m, .int .u32 (D : Nat), .int .i64 t'] w fun e w' => (∃ b, e = .returned (.bool b) ∧ (b = true ↔ Can n m (fun a b => (a, b) ∈ ps) D t')) ∧ Below w.heap.size w w' := fun t' e => by omega
    by_cases hLm : (mayLs ps D n).length < m
    · exact short_few n m len cap A ps hk hl h1 h8 t D w hx ht hD hdn hih hLm
    · exact short_many n m len cap A ps hk hl h1 h8 t D w hx ht hD hdn hih hLm
  | succ q ih =>
    intro t D w hq hx ht hD hdn
    have hih : ∀ t', t' + 1 = t → ∀ (D : Nat) (w : World), RdM w w.heap.size A (mvI ps) → D < 2 ^ n → DnC ps D → Calls Try.prog 20 #[.int .i64 n, .slice A len cap, .int .i64 m, .int .u32 (D : Nat), .int .i64 t'] w fun e w' => (∃ b, e = .returned (.bool b) ∧ (b = true ↔ Can n m (fun a b => (a, b) ∈ ps) D t')) ∧ Below w.heap.size w w' := fun t' e D w hx hD hdn => ih t' D w (by omega) hx (by omega) hD hdn
    by_cases hLm : (mayLs ps D n).length < m
    · exact short_few n m len cap A ps hk hl h1 h8 t D w hx ht hD hdn hih hLm
    · exact short_many n m len cap A ps hk hl h1 h8 t D w hx ht hD hdn hih hLm

end Go.Proofs.Ythmcigdoaededaa
