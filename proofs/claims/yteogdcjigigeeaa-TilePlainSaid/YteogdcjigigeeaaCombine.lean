/-
  term.combineTerm: a term of a list whose terms ahead of it are combined already.
-/
import Derived.Test.YteogdcjigigeeaaMTerm
import Derived.Test.YteogdcjigigeeaaMOpen
import Derived.BigRegion
namespace Go.Proofs.Yteogdcjigigeeaa
open Go.RowKit
set_option linter.unusedSimpArgs false
set_option linter.unusedVariables false
set_option maxRecDepth 100000

def leafB' (o : Int) : Bool := o == 1 || o == 2

set_option maxHeartbeats 400000 in
theorem isLeaf_any (o : Int) (w : World) : Calls Try.prog 27 #[.int .i64 o] w fun e w' => e = .returned (.bool (leafB' o)) ∧ w = w' := by
  go_enter Try.func27, Try.ntmps27
  go_wp2
  all_goals
    go_ret
    refine ⟨ret_bool ?_, rfl⟩
    unfold leafB'
    first | rfl | ((go_light; (try simp only [Bool.not_eq_true', Bool.not_eq_false', decide_eq_true_eq, decide_eq_false_iff_not, beq_iff_eq, beq_eq_false_iff_ne, bne_iff_ne, bne_eq_false_iff_eq, ne_eq, Bool.and_eq_true, Bool.or_eq_true, Bool.and_eq_false_iff, Bool.or_eq_false_iff, Decidable.not_not] at *)); simp [*])

/-- what term.combineTerm makes of a term -/
def combT (t : Tm) (bf : List Tm) : Tm :=
  if t.op = 1 ∨ t.op = 2 then ⟨t.op, 0, 0, t.v⟩
  else if (bf.getD t.a.toNat tz).op = 1 ∧ (bf.getD t.b.toNat tz).op = 1 then ⟨1, 0, 0, opv t.op (bf.getD t.a.toNat tz).v (bf.getD t.b.toNat tz).v⟩
  else ⟨t.op, t.a, t.b, 0⟩

end Go.Proofs.Yteogdcjigigeeaa
