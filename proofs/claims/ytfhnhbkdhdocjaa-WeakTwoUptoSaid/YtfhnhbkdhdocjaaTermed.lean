/-
  codemasonkeep.termed, given: may terms be, may values be.
-/
import Derived.Test.YtfhnhbkdhdocjaaTermsRef
import Derived.Test.YtfhnhbkdhdocjaaMTerm
namespace Go.Proofs.Ytfhnhbkdhdocjaa
open Go.RowKit
set_option linter.unusedSimpArgs false
set_option linter.unusedVariables false
set_option maxRecDepth 100000

set_option maxHeartbeats 400000 in
theorem given_any (vars : Int) (A : Option Addr) (len cap : Nat) (xs : List Int) (B : Nat) (w : World) (hx : RdI w B A xs) (hl : xs.length = len) (hm : len ≤ maxLen) :
    Calls Try.prog 26 #[.int .i64 vars, .slice A len cap] w fun e w' => e = .returned (.bool (ckHave vars xs == 0)) ∧ w = w' := by
  have HL := Lib.hid hl
  clear hl
  go_enter Try.func26, Try.ntmps26
  go_wp2_with fail
  refine (haveCheck_any vars A len cap xs B _ hx HL.out hm).mono ?_
  rintro e w1 ⟨rfl, rfl⟩
  go_wp2_with fail
  go_ret
  exact ⟨rfl, rfl⟩

end Go.Proofs.Ytfhnhbkdhdocjaa
