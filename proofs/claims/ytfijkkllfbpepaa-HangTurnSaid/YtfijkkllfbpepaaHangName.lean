/-
  codemasonkeep.HangTurn's closure 'name': 0 and the exit change places.
-/
import Derived.Test.YtfijkkllfbpepaaHangSwap
import Derived.Test.YtfijkkllfbpepaaHangIs
import Derived.Test.YtfijkkllfbpepaaLawLoop
namespace Go.Proofs.Ytfijkkllfbpepaa
open Go.RowKit Go.ChangeShapes Go.WideShapes Go.ChangeAt Go.Deep
set_option linter.unusedSimpArgs false
set_option linter.unusedVariables false
set_option maxRecDepth 100000

set_option maxHeartbeats 400000 in
theorem name_any (p : Addr) (e i : Nat) (w : World) (hp : w.cell? p = some (.int .i64 (e : Nat))) :
    Calls Try.prog 15 #[.int .i64 (i : Nat), .pointer (some p)] w fun r w' => r = .returned (.int .i64 (sw e i : Nat)) ∧ w' = w := by
  have hpb := World.block_lt_of_cell? w p hp
  by_cases h0 : i = 0
  · subst h0
    rw [show sw e 0 = e from rfl]
    go_enter Try.func15, Try.ntmps15
    go_wp2
    go_returns
    exact ⟨rfl, rfl⟩
  · by_cases he : i = e
    · subst he
      rw [sw_end]
      have hi0 : ((i : Int) = 0) = False := by simp; omega
      go_enter Try.func15, Try.ntmps15
      go_wp2
      go_returns
      exact ⟨rfl, rfl⟩
    · rw [show sw e i = i by unfold sw; rw [if_neg h0, if_neg he]]
      have hi0 : ((i : Int) = 0) = False := by simp; omega
      have hie : ((i : Int) = (e : Int)) = False := by simp; omega
      go_enter Try.func15, Try.ntmps15
      go_wp2
      go_returns
      exact ⟨rfl, rfl⟩

end Go.Proofs.Ytfijkkllfbpepaa
