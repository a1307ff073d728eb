/-
  What package color does (O1, O2), as the laws take it.
-/
import Derived.Test.YthmcigdoaededaaDoorPureColor
import Derived.Test.YthmcigdoaededaaDoorPurePerfect
import Derived.Test.YthmcigdoaededaaDoorColorRef
namespace Go.Proofs.YthmcigdoaededaaDoor
open Go.RowKit

/-- a slice of the call's own reads as naturals -/
def Tells (w' : World) (n : Nat) (l : List Nat) (e : Ending) : Prop := ∃ A' c', e = .returned (.tuple #[.slice A' n c', .int .i64 0]) ∧ RdI w' w'.heap.size A' (ni l)

structure LeastIs : Prop where
  ok : ∀ (n : Nat) (A : Option Addr) (len cap : Nat) (ps : List (Nat × Nat)) (w : World), RdM w w.heap.size A (mvI ps) → ps.length = len → ClOk n ps →
    Calls Tryd.prog 11 #[.int .i64 n, .slice A len cap] w fun e w' => (∃ k l, LeastC n (clP ps) k l ∧ Tells w' n l e) ∧ Below w.heap.size w w'
  bad : ∀ (n : Int) (A : Option Addr) (len cap : Nat) (l : List (Int × Int)) (w : World), RdM w w.heap.size A l → l.length = len → len ≤ maxLen → ckCl n l ≠ 0 →
    Calls Tryd.prog 11 #[.int .i64 n, .slice A len cap] w fun e w' => e = .returned (.tuple #[.slice none 0 0, .int .i64 (ckCl n l)]) ∧ Below w.heap.size w w'

structure PerfectIs : Prop where
  ok : ∀ (n : Nat) (A : Option Addr) (len cap : Nat) (ps : List (Nat × Nat)) (l : List Nat) (w : World), RdM w w.heap.size A (mvI ps) → ps.length = len → ClOk n ps → pfL n (clP ps) n [] = some l →
    Calls Tryd.prog 14 #[.int .i64 n, .slice A len cap] w fun e w' => Tells w' n l e ∧ Below w.heap.size w w'
  stuck : ∀ (n : Nat) (A : Option Addr) (len cap : Nat) (ps : List (Nat × Nat)) (w : World), RdM w w.heap.size A (mvI ps) → ps.length = len → ClOk n ps → pfL n (clP ps) n [] = none →
    Calls Tryd.prog 14 #[.int .i64 n, .slice A len cap] w fun e w' => e = .returned (.tuple #[.slice none 0 0, .int .i64 5]) ∧ Below w.heap.size w w'
  bad : ∀ (n : Int) (A : Option Addr) (len cap : Nat) (l : List (Int × Int)) (w : World), RdM w w.heap.size A l → l.length = len → len ≤ maxLen → ckCl n l ≠ 0 →
    Calls Tryd.prog 14 #[.int .i64 n, .slice A len cap] w fun e w' => e = .returned (.tuple #[.slice none 0 0, .int .i64 (ckCl n l)]) ∧ Below w.heap.size w w'

structure CliqueIs : Prop where
  ok : ∀ (n : Nat) (A : Option Addr) (len cap : Nat) (ps : List (Nat × Nat)) (w : World), RdM w w.heap.size A (mvI ps) → ps.length = len → ClOk n ps →
    Calls Tryd.prog 15 #[.int .i64 n, .slice A len cap] w fun e w' => (∃ W : Nat, CliqueC n (clP ps) W ∧ e = .returned (.tuple #[.int .u32 (W : Nat), .int .i64 0])) ∧ Below w.heap.size w w'
  bad : ∀ (n : Int) (A : Option Addr) (len cap : Nat) (l : List (Int × Int)) (w : World), RdM w w.heap.size A l → l.length = len → len ≤ maxLen → ckCl n l ≠ 0 →
    Calls Tryd.prog 15 #[.int .i64 n, .slice A len cap] w fun e w' => e = .returned (.tuple #[.int .u32 0, .int .i64 (ckCl n l)]) ∧ Below w.heap.size w w'

end Go.Proofs.YthmcigdoaededaaDoor
