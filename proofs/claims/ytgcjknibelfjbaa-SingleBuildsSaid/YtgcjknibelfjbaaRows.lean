/-
  No cell of these rows narrows 'for every input' (looked for: loops, veiled, ifaces, maps, wideKeys, modest, calm, conditions, laid).
  DERIVED. THE GIVEN ROWS OF THIS SEAT. 5 by the template 'for every input the law returns true; each argument reads behind the call as it read before'; 0 by the template 'total and deterministic' (their statements: YtgcjknibelfjbaaTotals.lean).
  GIVEN WITH THE SEED: the statements are not yours to turn. If you find one false, say at which input.
  Laid BY PROGRAM, IN A SANDBOX (cutbox-rows.mjs): the forced cells as the released guide's own fill.sh prints them over the translation 2206cfa147fa98f3… (all of the seat's roots in one cut). By AI agents, Wed Nov 11 2026. No macro, syntax, notation, axiom, sorry.
-/
import Derived.Test.YtgcjknibelfjbaaChecked
import GoSem.Claim
import GoSem.ClaimJoined
import GoSem.ClaimMapViews
import Derived.JoinedTies
import Derived.KernelRfl
namespace Go.Proofs.Ytgcjknibelfjbaa
/- THE CELL 'sum', in the pinned program and in every row, IS THE sha256 OF THE DUMP (.gsa) THAT YtgcjknibelfjbaaProg.lean LOADS. Nothing in Lean hashes anything: it is a label: what it is worth is what the hold of that sum in a sandbox is worth. -/
noncomputable def Try.pinned : Pinned := { name := "ytgcjknibelfjbaa", sum := "2206cfa147fa98f370492aa6fefca864143b2f3ded7274f71292039e04102319", checked := Try.checked }
namespace Rows
def none {H : Type} : Left H := { results := [], args := [] }

/-- 'codemasonlaw.SingleChecks': WHATEVER THE INPUT: true; the input reads as it did. -/
def singleChecksSpec : ChangeSpec := { name := "singleChecks", fn := fun _ => fun
  | [d1, d2] => { results := [.lit (.bool true)], args := [d1, d2] }
  | _ => none }
def singleChecksRow : OpenClaim := { program := "ytgcjknibelfjbaa", sum := "2206cfa147fa98f370492aa6fefca864143b2f3ded7274f71292039e04102319", func := "codemason/codemasonlaw.SingleChecks", spec := "singleChecks", unfollowed := true, recurses := true, apart := false }
def SingleChecksSaid : Prop := singleChecksRow.holds Try.pinned (OpenSpec.ofChange singleChecksSpec)

/-- ITS FALSE NEIGHBOUR: 'it returns false'. Refute it at one input. -/
def singleChecksWrong : ChangeSpec := { name := "singleChecks", fn := fun _ => fun
  | [d1, d2] => { results := [.lit (.bool false)], args := [d1, d2] }
  | _ => none }
def SingleChecksWrongFalsely : Prop := singleChecksRow.holds Try.pinned (OpenSpec.ofChange singleChecksWrong)

/-- 'codemasonlaw.SingleRuns': WHATEVER THE INPUT: true; the input reads as it did. -/
def singleRunsSpec : ChangeSpec := { name := "singleRuns", fn := fun _ => fun
  | [d1, d2, d3] => { results := [.lit (.bool true)], args := [d1, d2, d3] }
  | _ => none }
def singleRunsRow : OpenClaim := { program := "ytgcjknibelfjbaa", sum := "2206cfa147fa98f370492aa6fefca864143b2f3ded7274f71292039e04102319", func := "codemason/codemasonlaw.SingleRuns", spec := "singleRuns", unfollowed := true, recurses := true, apart := false }
def SingleRunsSaid : Prop := singleRunsRow.holds Try.pinned (OpenSpec.ofChange singleRunsSpec)

/-- ITS FALSE NEIGHBOUR: 'it returns false'. Refute it at one input. -/
def singleRunsWrong : ChangeSpec := { name := "singleRuns", fn := fun _ => fun
  | [d1, d2, d3] => { results := [.lit (.bool false)], args := [d1, d2, d3] }
  | _ => none }
def SingleRunsWrongFalsely : Prop := singleRunsRow.holds Try.pinned (OpenSpec.ofChange singleRunsWrong)

/-- 'codemasonlaw.SingleOnces': WHATEVER THE INPUT: true; the input reads as it did. -/
def singleOncesSpec : ChangeSpec := { name := "singleOnces", fn := fun _ => fun
  | [d1, d2] => { results := [.lit (.bool true)], args := [d1, d2] }
  | _ => none }
def singleOncesRow : OpenClaim := { program := "ytgcjknibelfjbaa", sum := "2206cfa147fa98f370492aa6fefca864143b2f3ded7274f71292039e04102319", func := "codemason/codemasonlaw.SingleOnces", spec := "singleOnces", unfollowed := true, recurses := true, apart := false }
def SingleOncesSaid : Prop := singleOncesRow.holds Try.pinned (OpenSpec.ofChange singleOncesSpec)

/-- ITS FALSE NEIGHBOUR: 'it returns false'. Refute it at one input. -/
def singleOncesWrong : ChangeSpec := { name := "singleOnces", fn := fun _ => fun
  | [d1, d2] => { results := [.lit (.bool false)], args := [d1, d2] }
  | _ => none }
def SingleOncesWrongFalsely : Prop := singleOncesRow.holds Try.pinned (OpenSpec.ofChange singleOncesWrong)

/-- 'codemasonlaw.SingleBuilds': WHATEVER THE INPUT: true; the input reads as it did. -/
def singleBuildsSpec : ChangeSpec := { name := "singleBuilds", fn := fun _ => fun
  | [d1, d2, d3] => { results := [.lit (.bool true)], args := [d1, d2, d3] }
  | _ => none }
def singleBuildsRow : OpenClaim := { program := "ytgcjknibelfjbaa", sum := "2206cfa147fa98f370492aa6fefca864143b2f3ded7274f71292039e04102319", func := "codemason/codemasonlaw.SingleBuilds", spec := "singleBuilds", unfollowed := true, recurses := true, apart := false }
def SingleBuildsSaid : Prop := singleBuildsRow.holds Try.pinned (OpenSpec.ofChange singleBuildsSpec)

/-- ITS FALSE NEIGHBOUR: 'it returns false'. Refute it at one input. -/
def singleBuildsWrong : ChangeSpec := { name := "singleBuilds", fn := fun _ => fun
  | [d1, d2, d3] => { results := [.lit (.bool false)], args := [d1, d2, d3] }
  | _ => none }
def SingleBuildsWrongFalsely : Prop := singleBuildsRow.holds Try.pinned (OpenSpec.ofChange singleBuildsWrong)

/-- 'codemasonkeep.SingleSame': WHATEVER THE INPUT: true; the input reads as it did. -/
def singleSameSpec : ChangeSpec := { name := "singleSame", fn := fun _ => fun
  | [d1, d2, d3] => { results := [.lit (.bool true)], args := [d1, d2, d3] }
  | _ => none }
def singleSameRow : OpenClaim := { program := "ytgcjknibelfjbaa", sum := "2206cfa147fa98f370492aa6fefca864143b2f3ded7274f71292039e04102319", func := "codemason/codemasonkeep.SingleSame", spec := "singleSame", unfollowed := true, recurses := true, apart := false }
def SingleSameSaid : Prop := singleSameRow.holds Try.pinned (OpenSpec.ofChange singleSameSpec)

/-- ITS FALSE NEIGHBOUR: 'it returns false'. Refute it at one input. -/
def singleSameWrong : ChangeSpec := { name := "singleSame", fn := fun _ => fun
  | [d1, d2, d3] => { results := [.lit (.bool false)], args := [d1, d2, d3] }
  | _ => none }
def SingleSameWrongFalsely : Prop := singleSameRow.holds Try.pinned (OpenSpec.ofChange singleSameWrong)

/- THE SECOND FORM. 'bulk': how many values and letters a reading holds, each counted each time it is reached (what is shared counts as often as it is met; a slice's spare places count too). A statement '..UptoSaid' is the law's where the arguments, and the package variables that the reading takes, are together of bulk at most 1048576: NARROWER than '..Said'. Prove '..Said' where nothing that the law and all that it calls make is longer than what came in: it says more and counts as full. Else prove '..UptoSaid'. A law counts once. -/
mutual
def uptoBulk {H : Type} : DataW H → Nat
  | .lit (.string bytes) => bytes.length + 1
  | .lit _ => 1
  | .nil => 1
  | .ptr d => uptoBulk d + 1
  | .slice elems spare => uptoBulkAll elems + uptoBulkAll spare + 1
  | .agg parts => uptoBulkAll parts + 1
  | .iface _ d => uptoBulk d + 1
  | .map entries => uptoBulkEntries entries + 1
  | .held _ => 1
def uptoBulkAll {H : Type} : List (DataW H) → Nat
  | [] => 0
  | d :: r => uptoBulk d + uptoBulkAll r
def uptoBulkEntries {H : Type} : List (Lit × DataW H) → Nat
  | [] => 0
  | x :: r => uptoBulkEntry x + uptoBulkEntries r
def uptoBulkEntry {H : Type} : Lit × DataW H → Nat
  | (.string bytes, d) => bytes.length + uptoBulk d + 1
  | (_, d) => uptoBulk d + 1
 end
def uptoSmall : (H : Type) → List (DataW H) → Bool := fun _ ds => decide (uptoBulkAll ds ≤ 1048576)
def OpenSpec.upto (s : _root_.Go.ChangeSpec) : _root_.Go.OpenSpec := { _root_.Go.OpenSpec.ofChange s with cond := some uptoSmall }

/-- 'codemasonlaw.SingleChecks', WHERE WHAT IT READS IS OF BULK AT MOST 1048576: true; the input reads as it did. -/
def singleChecksUptoRow : OpenClaim := { program := "ytgcjknibelfjbaa", sum := "2206cfa147fa98f370492aa6fefca864143b2f3ded7274f71292039e04102319", func := "codemason/codemasonlaw.SingleChecks", spec := "singleChecks", unfollowed := true, recurses := true, apart := false, narrowed := true }
def SingleChecksUptoSaid : Prop := singleChecksUptoRow.holds Try.pinned (OpenSpec.upto singleChecksSpec)

/-- 'codemasonlaw.SingleRuns', WHERE WHAT IT READS IS OF BULK AT MOST 1048576: true; the input reads as it did. -/
def singleRunsUptoRow : OpenClaim := { program := "ytgcjknibelfjbaa", sum := "2206cfa147fa98f370492aa6fefca864143b2f3ded7274f71292039e04102319", func := "codemason/codemasonlaw.SingleRuns", spec := "singleRuns", unfollowed := true, recurses := true, apart := false, narrowed := true }
def SingleRunsUptoSaid : Prop := singleRunsUptoRow.holds Try.pinned (OpenSpec.upto singleRunsSpec)

/-- 'codemasonlaw.SingleOnces', WHERE WHAT IT READS IS OF BULK AT MOST 1048576: true; the input reads as it did. -/
def singleOncesUptoRow : OpenClaim := { program := "ytgcjknibelfjbaa", sum := "2206cfa147fa98f370492aa6fefca864143b2f3ded7274f71292039e04102319", func := "codemason/codemasonlaw.SingleOnces", spec := "singleOnces", unfollowed := true, recurses := true, apart := false, narrowed := true }
def SingleOncesUptoSaid : Prop := singleOncesUptoRow.holds Try.pinned (OpenSpec.upto singleOncesSpec)

/-- 'codemasonlaw.SingleBuilds', WHERE WHAT IT READS IS OF BULK AT MOST 1048576: true; the input reads as it did. -/
def singleBuildsUptoRow : OpenClaim := { program := "ytgcjknibelfjbaa", sum := "2206cfa147fa98f370492aa6fefca864143b2f3ded7274f71292039e04102319", func := "codemason/codemasonlaw.SingleBuilds", spec := "singleBuilds", unfollowed := true, recurses := true, apart := false, narrowed := true }
def SingleBuildsUptoSaid : Prop := singleBuildsUptoRow.holds Try.pinned (OpenSpec.upto singleBuildsSpec)

/-- 'codemasonkeep.SingleSame', WHERE WHAT IT READS IS OF BULK AT MOST 1048576: true; the input reads as it did. -/
def singleSameUptoRow : OpenClaim := { program := "ytgcjknibelfjbaa", sum := "2206cfa147fa98f370492aa6fefca864143b2f3ded7274f71292039e04102319", func := "codemason/codemasonkeep.SingleSame", spec := "singleSame", unfollowed := true, recurses := true, apart := false, narrowed := true }
def SingleSameUptoSaid : Prop := singleSameUptoRow.holds Try.pinned (OpenSpec.upto singleSameSpec)

end Rows
end Go.Proofs.Ytgcjknibelfjbaa
