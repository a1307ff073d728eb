/-
  What color.Greedy does (O1), as the laws take it: where the table of trailing zeros lies as the program lays it.
-/
import Derived.Test.YthmcigdoaededaaDoorColorIs
import Derived.Test.YthmcigdoaededaaDoorTz
namespace Go.Proofs.YthmcigdoaededaaDoor
open Go.RowKit

structure GreedyIs : Prop where
  ok : ∀ (n : Nat) (A : Option Addr) (len cap : Nat) (ps : List (Nat × Nat)) (Ao : Option Addr) (lo co : Nat) (o : List Nat) (w : World), TzT w → RdM w w.heap.size A (mvI ps) → ps.length = len → ClOk n ps → RdI w w.heap.size Ao (ni o) → o.length = lo → OrdK n o →
    Calls Tryd.prog 6 #[.int .i64 n, .slice A len cap, .slice Ao lo co] w fun e w' => (∃ l, GrdC n (clP ps) o l ∧ Tells w' n l e) ∧ Below w.heap.size w w'
  bad : ∀ (n : Int) (A : Option Addr) (len cap : Nat) (l : List (Int × Int)) (Ao : Option Addr) (lo co : Nat) (o : List Int) (w : World), RdM w w.heap.size A l → l.length = len → len ≤ maxLen → RdI w w.heap.size Ao o → o.length = lo → lo ≤ maxLen → ckCl n l ≠ 0 →
    Calls Tryd.prog 6 #[.int .i64 n, .slice A len cap, .slice Ao lo co] w fun e w' => e = .returned (.tuple #[.slice none 0 0, .int .i64 (ckCl n l)]) ∧ Below w.heap.size w w'
  form : ∀ (n : Nat) (A : Option Addr) (len cap : Nat) (ps : List (Nat × Nat)) (Ao : Option Addr) (lo co : Nat) (o : List Int) (w : World), RdM w w.heap.size A (mvI ps) → ps.length = len → ClOk n ps → RdI w w.heap.size Ao o → o.length = lo → lo ≤ maxLen → ¬ OnceI n o →
    Calls Tryd.prog 6 #[.int .i64 n, .slice A len cap, .slice Ao lo co] w fun e w' => e = .returned (.tuple #[.slice none 0 0, .int .i64 3]) ∧ Below w.heap.size w w'

end Go.Proofs.YthmcigdoaededaaDoor
