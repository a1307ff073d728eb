/-
  Words of the laws about package known: codemasonlaw.startCode, codemasonkeep.started.
-/
import Derived.Test.YtdckagledddkdaaKnownIs
import Derived.Test.YtdckagledddkdaaBlockRef
import Derived.Test.YtdckagledddkdaaTermed
namespace Go.Proofs.Ytdckagledddkdaa
open Go.RowKit
set_option linter.unusedSimpArgs false
set_option linter.unusedVariables false
set_option maxRecDepth 100000

set_option maxHeartbeats 2000000 in
theorem startCode_any (vars : Int) (A VA : Option Addr) (len cap vl vcap : Nat) (p : List Bk) (hv : List Int) (w : World) (hx : RdP w w.heap.size A p) (hh : RdI w w.heap.size VA hv) (hl : p.length = len) (hm : len ≤ maxLen) (hin : ∀ b ∈ p, InBk b) (hhl : hv.length = vl) (hvm : vl ≤ maxLen) :
    Calls Try.prog 9 #[.int .i64 vars, .slice A len cap, .slice VA vl vcap] w fun e w' => e = .returned (.int .i64 (ckKnow vars p hv)) ∧ Below w.heap.size w w' := by
  have HP := Lib.hid (refProgCheck_any vars A len cap p w hx hl hm hin)
  unfold ckKnow
  by_cases h1 : ckProg vars p = 0
  · rw [if_pos h1]
    rw [h1] at HP
    clear h1 hx hin hl
    go_enter Try.func9, Try.ntmps9
    go_wp2_with fail
    refine HP.out.mono ?_
    rintro e w1 ⟨rfl, hb1⟩
    go_wp2_with fail
    refine (startCheck_any vars VA vl vcap hv _ _ (hh.below hb1 (Nat.le_refl _)) hhl hvm).mono ?_
    rintro e w2 ⟨rfl, rfl⟩
    go_wp2_with fail
    go_ret
    exact ⟨rfl, hb1⟩
  · rw [if_neg h1]
    have e1 : (ckProg vars p == 0) = false := by simp [h1]
    clear h1 hx hin hl
    go_enter Try.func9, Try.ntmps9
    go_wp2_with (go_at_call 15; (with_reducible refine HP.out.mono ?_); rintro e w1 ⟨rfl, hb1⟩)
    go_ret
    exact ⟨rfl, hb1⟩


end Go.Proofs.Ytdckagledddkdaa
