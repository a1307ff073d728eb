/-
  What package color does (O1, O2), as the laws take it.
-/
import Derived.Test.YtkgahblengjkfaaPureColor
import Derived.Test.YtkgahblengjkfaaPurePerfect
import Derived.Test.YtkgahblengjkfaaColorRef
namespace Go.Proofs.Ytkgahblengjkfaa
open Go.RowKit

/-- a slice of the call's own reads as naturals -/
def Tells (w' : World) (n : Nat) (l : List Nat) (e : Ending) : Prop := ∃ A' c', e = .returned (.tuple #[.slice A' n c', .int .i64 0]) ∧ RdI w' w'.heap.size A' (ni l)

structure LeastIs : Prop where
  ok : ∀ (n : Nat) (A : Option Addr) (len cap : Nat) (ps : List (Nat × Nat)) (w : World), RdM w w.heap.size A (mvI ps) → ps.length = len → ClOk n ps →
    Calls Try.prog 10 #[.int .i64 n, .slice A len cap] w fun e w' => (∃ k l, LeastC n (clP ps) k l ∧ Tells w' n l e) ∧ Below w.heap.size w w'
  bad : ∀ (n : Int) (A : Option Addr) (len cap : Nat) (l : List (Int × Int)) (w : World), RdM w w.heap.size A l → l.length = len → len ≤ maxLen → ckCl n l ≠ 0 →
    Calls Try.prog 10 #[.int .i64 n, .slice A len cap] w fun e w' => e = .returned (.tuple #[.slice none 0 0, .int .i64 (ckCl n l)]) ∧ Below w.heap.size w w'

structure PeelIs : Prop where
  ok : ∀ (n : Nat) (A : Option Addr) (len cap : Nat) (ps : List (Nat × Nat)) (k : Nat) (w : World), RdM w w.heap.size A (mvI ps) → ps.length = len → ClOk n ps →
    Calls Try.prog 14 #[.int .i64 n, .slice A len cap, .int .i64 k] w fun e w' => (∃ W : Nat, PeelC n (clP ps) k W ∧ e = .returned (.tuple #[.int .u32 (W : Nat), .int .i64 0])) ∧ Below w.heap.size w w'
  bad : ∀ (n : Int) (A : Option Addr) (len cap : Nat) (l : List (Int × Int)) (k : Int) (w : World), RdM w w.heap.size A l → l.length = len → len ≤ maxLen → ckCl n l ≠ 0 →
    Calls Try.prog 14 #[.int .i64 n, .slice A len cap, .int .i64 k] w fun e w' => e = .returned (.tuple #[.int .u32 0, .int .i64 (ckCl n l)]) ∧ Below w.heap.size w w'
  range : ∀ (n : Nat) (A : Option Addr) (len cap : Nat) (ps : List (Nat × Nat)) (k : Int) (w : World), RdM w w.heap.size A (mvI ps) → ps.length = len → ClOk n ps → k < 0 →
    Calls Try.prog 14 #[.int .i64 n, .slice A len cap, .int .i64 k] w fun e w' => e = .returned (.tuple #[.int .u32 0, .int .i64 4]) ∧ Below w.heap.size w w'

structure PerfectIs : Prop where
  ok : ∀ (n : Nat) (A : Option Addr) (len cap : Nat) (ps : List (Nat × Nat)) (l : List Nat) (w : World), RdM w w.heap.size A (mvI ps) → ps.length = len → ClOk n ps → pfL n (clP ps) n [] = some l →
    Calls Try.prog 17 #[.int .i64 n, .slice A len cap] w fun e w' => Tells w' n l e ∧ Below w.heap.size w w'
  stuck : ∀ (n : Nat) (A : Option Addr) (len cap : Nat) (ps : List (Nat × Nat)) (w : World), RdM w w.heap.size A (mvI ps) → ps.length = len → ClOk n ps → pfL n (clP ps) n [] = none →
    Calls Try.prog 17 #[.int .i64 n, .slice A len cap] w fun e w' => e = .returned (.tuple #[.slice none 0 0, .int .i64 5]) ∧ Below w.heap.size w w'
  bad : ∀ (n : Int) (A : Option Addr) (len cap : Nat) (l : List (Int × Int)) (w : World), RdM w w.heap.size A l → l.length = len → len ≤ maxLen → ckCl n l ≠ 0 →
    Calls Try.prog 17 #[.int .i64 n, .slice A len cap] w fun e w' => e = .returned (.tuple #[.slice none 0 0, .int .i64 (ckCl n l)]) ∧ Below w.heap.size w w'

structure CliqueIs : Prop where
  ok : ∀ (n : Nat) (A : Option Addr) (len cap : Nat) (ps : List (Nat × Nat)) (w : World), RdM w w.heap.size A (mvI ps) → ps.length = len → ClOk n ps →
    Calls Try.prog 20 #[.int .i64 n, .slice A len cap] w fun e w' => (∃ W : Nat, CliqueC n (clP ps) W ∧ e = .returned (.tuple #[.int .u32 (W : Nat), .int .i64 0])) ∧ Below w.heap.size w w'
  bad : ∀ (n : Int) (A : Option Addr) (len cap : Nat) (l : List (Int × Int)) (w : World), RdM w w.heap.size A l → l.length = len → len ≤ maxLen → ckCl n l ≠ 0 →
    Calls Try.prog 20 #[.int .i64 n, .slice A len cap] w fun e w' => e = .returned (.tuple #[.int .u32 0, .int .i64 (ckCl n l)]) ∧ Below w.heap.size w w'

end Go.Proofs.Ytkgahblengjkfaa
