/-
  No cell of these rows narrows 'for every input' (looked for: loops, veiled, ifaces, maps, wideKeys, modest, calm, conditions, laid).
  DERIVED. THE GIVEN ROWS OF THIS SEAT. 4 by the template 'for every input the law returns true; each argument reads behind the call as it read before'; 0 by the template 'total and deterministic' (their statements: YtggekjccblblpaaTotals.lean).
  GIVEN WITH THE SEED: the statements are not yours to turn. If you find one false, say at which input.
  Laid BY PROGRAM, IN A SANDBOX (cutbox-rows.mjs): the forced cells as the released guide's own fill.sh prints them over the translation d0a45a0ed42fc3b6… (all of the seat's roots in one cut). By AI agents, Wed Nov 11 2026. No macro, syntax, notation, axiom, sorry.
-/
import Derived.Test.YtggekjccblblpaaChecked
import GoSem.Claim
import GoSem.ClaimJoined
import GoSem.ClaimMapViews
import Derived.JoinedTies
import Derived.KernelRfl
namespace Go.Proofs.Ytggekjccblblpaa
/- THE CELL 'sum', in the pinned program and in every row, IS THE sha256 OF THE DUMP (.gsa) THAT YtggekjccblblpaaProg.lean LOADS. Nothing in Lean hashes anything: it is a label: what it is worth is what the hold of that sum in a sandbox is worth. -/
noncomputable def Try.pinned : Pinned := { name := "ytggekjccblblpaa", sum := "d0a45a0ed42fc3b6d7584aaa0d78ac19917c097fcd56b969d2d3b06aac3ca67a", checked := Try.checked }
namespace Rows
def none {H : Type} : Left H := { results := [], args := [] }

/-- 'codemasonlaw.WeakAheads': WHATEVER THE INPUT: true; the input reads as it did. -/
def weakAheadsSpec : ChangeSpec := { name := "weakAheads", fn := fun _ => fun
  | [d1, d2, d3, d4] => { results := [.lit (.bool true)], args := [d1, d2, d3, d4] }
  | _ => none }
def weakAheadsRow : OpenClaim := { program := "ytggekjccblblpaa", sum := "d0a45a0ed42fc3b6d7584aaa0d78ac19917c097fcd56b969d2d3b06aac3ca67a", func := "codemason/codemasonlaw.WeakAheads", spec := "weakAheads", unfollowed := true, recurses := true, plainKeys := false, apart := false }
def WeakAheadsSaid : Prop := weakAheadsRow.holds Try.pinned (OpenSpec.ofChange weakAheadsSpec)

/-- ITS FALSE NEIGHBOUR: 'it returns false'. Refute it at one input. -/
def weakAheadsWrong : ChangeSpec := { name := "weakAheads", fn := fun _ => fun
  | [d1, d2, d3, d4] => { results := [.lit (.bool false)], args := [d1, d2, d3, d4] }
  | _ => none }
def WeakAheadsWrongFalsely : Prop := weakAheadsRow.holds Try.pinned (OpenSpec.ofChange weakAheadsWrong)

/-- 'codemasonlaw.WeakHolds': WHATEVER THE INPUT: true; the input reads as it did. -/
def weakHoldsSpec : ChangeSpec := { name := "weakHolds", fn := fun _ => fun
  | [d1, d2, d3, d4, d5] => { results := [.lit (.bool true)], args := [d1, d2, d3, d4, d5] }
  | _ => none }
def weakHoldsRow : OpenClaim := { program := "ytggekjccblblpaa", sum := "d0a45a0ed42fc3b6d7584aaa0d78ac19917c097fcd56b969d2d3b06aac3ca67a", func := "codemason/codemasonlaw.WeakHolds", spec := "weakHolds", unfollowed := true, recurses := true, plainKeys := false, apart := false }
def WeakHoldsSaid : Prop := weakHoldsRow.holds Try.pinned (OpenSpec.ofChange weakHoldsSpec)

/-- ITS FALSE NEIGHBOUR: 'it returns false'. Refute it at one input. -/
def weakHoldsWrong : ChangeSpec := { name := "weakHolds", fn := fun _ => fun
  | [d1, d2, d3, d4, d5] => { results := [.lit (.bool false)], args := [d1, d2, d3, d4, d5] }
  | _ => none }
def WeakHoldsWrongFalsely : Prop := weakHoldsRow.holds Try.pinned (OpenSpec.ofChange weakHoldsWrong)

/-- 'codemasonkeep.WeakTwo': WHATEVER THE INPUT: true; the input reads as it did. -/
def weakTwoSpec : ChangeSpec := { name := "weakTwo", fn := fun _ => fun
  | [d1, d2, d3, d4, d5] => { results := [.lit (.bool true)], args := [d1, d2, d3, d4, d5] }
  | _ => none }
def weakTwoRow : OpenClaim := { program := "ytggekjccblblpaa", sum := "d0a45a0ed42fc3b6d7584aaa0d78ac19917c097fcd56b969d2d3b06aac3ca67a", func := "codemason/codemasonkeep.WeakTwo", spec := "weakTwo", unfollowed := true, recurses := true, plainKeys := false, apart := false }
def WeakTwoSaid : Prop := weakTwoRow.holds Try.pinned (OpenSpec.ofChange weakTwoSpec)

/-- ITS FALSE NEIGHBOUR: 'it returns false'. Refute it at one input. -/
def weakTwoWrong : ChangeSpec := { name := "weakTwo", fn := fun _ => fun
  | [d1, d2, d3, d4, d5] => { results := [.lit (.bool false)], args := [d1, d2, d3, d4, d5] }
  | _ => none }
def WeakTwoWrongFalsely : Prop := weakTwoRow.holds Try.pinned (OpenSpec.ofChange weakTwoWrong)

/-- 'codemasonkeep.WeakRule': WHATEVER THE INPUT: true; the input reads as it did. -/
def weakRuleSpec : ChangeSpec := { name := "weakRule", fn := fun _ => fun
  | [d1, d2, d3, d4] => { results := [.lit (.bool true)], args := [d1, d2, d3, d4] }
  | _ => none }
def weakRuleRow : OpenClaim := { program := "ytggekjccblblpaa", sum := "d0a45a0ed42fc3b6d7584aaa0d78ac19917c097fcd56b969d2d3b06aac3ca67a", func := "codemason/codemasonkeep.WeakRule", spec := "weakRule", unfollowed := true, recurses := true, plainKeys := false, apart := false }
def WeakRuleSaid : Prop := weakRuleRow.holds Try.pinned (OpenSpec.ofChange weakRuleSpec)

/-- ITS FALSE NEIGHBOUR: 'it returns false'. Refute it at one input. -/
def weakRuleWrong : ChangeSpec := { name := "weakRule", fn := fun _ => fun
  | [d1, d2, d3, d4] => { results := [.lit (.bool false)], args := [d1, d2, d3, d4] }
  | _ => none }
def WeakRuleWrongFalsely : Prop := weakRuleRow.holds Try.pinned (OpenSpec.ofChange weakRuleWrong)

/- THE SECOND FORM. 'bulk': how many values and letters a reading holds, each counted each time it is reached (what is shared counts as often as it is met; a slice's spare places count too). A statement '..UptoSaid' is the law's where the arguments, and the package variables that the reading takes, are together of bulk at most 1048576: NARROWER than '..Said'. Prove '..Said' where nothing that the law and all that it calls make is longer than what came in: it says more and counts as full. Else prove '..UptoSaid'. A law counts once. -/
mutual
def uptoBulk {H : Type} : DataW H → Nat
  | .lit (.string bytes) => bytes.length + 1
  | .lit _ => 1
  | .nil => 1
  | .ptr d => uptoBulk d + 1
  | .slice elems spare => uptoBulkAll elems + uptoBulkAll spare + 1
  | .agg parts => uptoBulkAll parts + 1
  | .iface _ d => uptoBulk d + 1
  | .map entries => uptoBulkEntries entries + 1
  | .held _ => 1
def uptoBulkAll {H : Type} : List (DataW H) → Nat
  | [] => 0
  | d :: r => uptoBulk d + uptoBulkAll r
def uptoBulkEntries {H : Type} : List (Lit × DataW H) → Nat
  | [] => 0
  | x :: r => uptoBulkEntry x + uptoBulkEntries r
def uptoBulkEntry {H : Type} : Lit × DataW H → Nat
  | (.string bytes, d) => bytes.length + uptoBulk d + 1
  | (_, d) => uptoBulk d + 1
 end
def uptoSmall : (H : Type) → List (DataW H) → Bool := fun _ ds => decide (uptoBulkAll ds ≤ 1048576)
def OpenSpec.upto (s : _root_.Go.ChangeSpec) : _root_.Go.OpenSpec := { _root_.Go.OpenSpec.ofChange s with cond := some uptoSmall }

/-- 'codemasonlaw.WeakAheads', WHERE WHAT IT READS IS OF BULK AT MOST 1048576: true; the input reads as it did. -/
def weakAheadsUptoRow : OpenClaim := { program := "ytggekjccblblpaa", sum := "d0a45a0ed42fc3b6d7584aaa0d78ac19917c097fcd56b969d2d3b06aac3ca67a", func := "codemason/codemasonlaw.WeakAheads", spec := "weakAheads", unfollowed := true, recurses := true, plainKeys := false, apart := false, narrowed := true }
def WeakAheadsUptoSaid : Prop := weakAheadsUptoRow.holds Try.pinned (OpenSpec.upto weakAheadsSpec)

/-- 'codemasonlaw.WeakHolds', WHERE WHAT IT READS IS OF BULK AT MOST 1048576: true; the input reads as it did. -/
def weakHoldsUptoRow : OpenClaim := { program := "ytggekjccblblpaa", sum := "d0a45a0ed42fc3b6d7584aaa0d78ac19917c097fcd56b969d2d3b06aac3ca67a", func := "codemason/codemasonlaw.WeakHolds", spec := "weakHolds", unfollowed := true, recurses := true, plainKeys := false, apart := false, narrowed := true }
def WeakHoldsUptoSaid : Prop := weakHoldsUptoRow.holds Try.pinned (OpenSpec.upto weakHoldsSpec)

/-- 'codemasonkeep.WeakTwo', WHERE WHAT IT READS IS OF BULK AT MOST 1048576: true; the input reads as it did. -/
def weakTwoUptoRow : OpenClaim := { program := "ytggekjccblblpaa", sum := "d0a45a0ed42fc3b6d7584aaa0d78ac19917c097fcd56b969d2d3b06aac3ca67a", func := "codemason/codemasonkeep.WeakTwo", spec := "weakTwo", unfollowed := true, recurses := true, plainKeys := false, apart := false, narrowed := true }
def WeakTwoUptoSaid : Prop := weakTwoUptoRow.holds Try.pinned (OpenSpec.upto weakTwoSpec)

/-- 'codemasonkeep.WeakRule', WHERE WHAT IT READS IS OF BULK AT MOST 1048576: true; the input reads as it did. -/
def weakRuleUptoRow : OpenClaim := { program := "ytggekjccblblpaa", sum := "d0a45a0ed42fc3b6d7584aaa0d78ac19917c097fcd56b969d2d3b06aac3ca67a", func := "codemason/codemasonkeep.WeakRule", spec := "weakRule", unfollowed := true, recurses := true, plainKeys := false, apart := false, narrowed := true }
def WeakRuleUptoSaid : Prop := weakRuleUptoRow.holds Try.pinned (OpenSpec.upto weakRuleSpec)

end Rows
end Go.Proofs.Ytggekjccblblpaa
