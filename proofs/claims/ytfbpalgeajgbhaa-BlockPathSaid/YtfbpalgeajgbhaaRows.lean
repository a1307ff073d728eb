/-
  No cell of these rows narrows 'for every input' (looked for: loops, veiled, ifaces, maps, wideKeys, modest, calm, conditions, laid).
  DERIVED. THE GIVEN ROWS OF THIS SEAT. 7 by the template 'for every input the law returns true; each argument reads behind the call as it read before'; 0 by the template 'total and deterministic' (their statements: YtfbpalgeajgbhaaTotals.lean).
  GIVEN WITH THE SEED: the statements are not yours to turn. If you find one false, say at which input.
  Laid BY PROGRAM, IN A SANDBOX (cutbox-rows.mjs): the forced cells as the released guide's own fill.sh prints them over the translation f6ab5264867e2b5f… (all of the seat's roots in one cut). By AI agents, Wed Nov 11 2026. No macro, syntax, notation, axiom, sorry.
-/
import Derived.Test.YtfbpalgeajgbhaaChecked
import GoSem.Claim
import GoSem.ClaimJoined
import GoSem.ClaimMapViews
import Derived.JoinedTies
import Derived.KernelRfl
namespace Go.Proofs.Ytfbpalgeajgbhaa
/- THE CELL 'sum', in the pinned program and in every row, IS THE sha256 OF THE DUMP (.gsa) THAT YtfbpalgeajgbhaaProg.lean LOADS. Nothing in Lean hashes anything: it is a label: what it is worth is what the hold of that sum in a sandbox is worth. -/
noncomputable def Try.pinned : Pinned := { name := "ytfbpalgeajgbhaa", sum := "f6ab5264867e2b5f7f9effe27662652f1b40c47476f7a8776be8e256c726e3ea", checked := Try.checked }
namespace Rows
def none {H : Type} : Left H := { results := [], args := [] }

/-- 'codemasonlaw.NeedRuns': WHATEVER THE INPUT: true; the input reads as it did. -/
def needRunsSpec : ChangeSpec := { name := "needRuns", fn := fun _ => fun
  | [d1, d2, d3, d4] => { results := [.lit (.bool true)], args := [d1, d2, d3, d4] }
  | _ => none }
def needRunsRow : OpenClaim := { program := "ytfbpalgeajgbhaa", sum := "f6ab5264867e2b5f7f9effe27662652f1b40c47476f7a8776be8e256c726e3ea", func := "codemason/codemasonlaw.NeedRuns", spec := "needRuns", unfollowed := true, recurses := true, apart := false }
def NeedRunsSaid : Prop := needRunsRow.holds Try.pinned (OpenSpec.ofChange needRunsSpec)

/-- ITS FALSE NEIGHBOUR: 'it returns false'. Refute it at one input. -/
def needRunsWrong : ChangeSpec := { name := "needRuns", fn := fun _ => fun
  | [d1, d2, d3, d4] => { results := [.lit (.bool false)], args := [d1, d2, d3, d4] }
  | _ => none }
def NeedRunsWrongFalsely : Prop := needRunsRow.holds Try.pinned (OpenSpec.ofChange needRunsWrong)

/-- 'codemasonkeep.NeedSame': WHATEVER THE INPUT: true; the input reads as it did. -/
def needSameSpec : ChangeSpec := { name := "needSame", fn := fun _ => fun
  | [d1, d2, d3] => { results := [.lit (.bool true)], args := [d1, d2, d3] }
  | _ => none }
def needSameRow : OpenClaim := { program := "ytfbpalgeajgbhaa", sum := "f6ab5264867e2b5f7f9effe27662652f1b40c47476f7a8776be8e256c726e3ea", func := "codemason/codemasonkeep.NeedSame", spec := "needSame", unfollowed := true, recurses := true, apart := false }
def NeedSameSaid : Prop := needSameRow.holds Try.pinned (OpenSpec.ofChange needSameSpec)

/-- ITS FALSE NEIGHBOUR: 'it returns false'. Refute it at one input. -/
def needSameWrong : ChangeSpec := { name := "needSame", fn := fun _ => fun
  | [d1, d2, d3] => { results := [.lit (.bool false)], args := [d1, d2, d3] }
  | _ => none }
def NeedSameWrongFalsely : Prop := needSameRow.holds Try.pinned (OpenSpec.ofChange needSameWrong)

/-- 'codemasonlaw.BlockChecks': WHATEVER THE INPUT: true; the input reads as it did. -/
def blockChecksSpec : ChangeSpec := { name := "blockChecks", fn := fun _ => fun
  | [d1, d2] => { results := [.lit (.bool true)], args := [d1, d2] }
  | _ => none }
def blockChecksRow : OpenClaim := { program := "ytfbpalgeajgbhaa", sum := "f6ab5264867e2b5f7f9effe27662652f1b40c47476f7a8776be8e256c726e3ea", func := "codemason/codemasonlaw.BlockChecks", spec := "blockChecks", unfollowed := true, recurses := true, apart := false }
def BlockChecksSaid : Prop := blockChecksRow.holds Try.pinned (OpenSpec.ofChange blockChecksSpec)

/-- ITS FALSE NEIGHBOUR: 'it returns false'. Refute it at one input. -/
def blockChecksWrong : ChangeSpec := { name := "blockChecks", fn := fun _ => fun
  | [d1, d2] => { results := [.lit (.bool false)], args := [d1, d2] }
  | _ => none }
def BlockChecksWrongFalsely : Prop := blockChecksRow.holds Try.pinned (OpenSpec.ofChange blockChecksWrong)

/-- 'codemasonlaw.BlockWays': WHATEVER THE INPUT: true; the input reads as it did. -/
def blockWaysSpec : ChangeSpec := { name := "blockWays", fn := fun _ => fun
  | [d1, d2] => { results := [.lit (.bool true)], args := [d1, d2] }
  | _ => none }
def blockWaysRow : OpenClaim := { program := "ytfbpalgeajgbhaa", sum := "f6ab5264867e2b5f7f9effe27662652f1b40c47476f7a8776be8e256c726e3ea", func := "codemason/codemasonlaw.BlockWays", spec := "blockWays", unfollowed := true, recurses := true, apart := false }
def BlockWaysSaid : Prop := blockWaysRow.holds Try.pinned (OpenSpec.ofChange blockWaysSpec)

/-- ITS FALSE NEIGHBOUR: 'it returns false'. Refute it at one input. -/
def blockWaysWrong : ChangeSpec := { name := "blockWays", fn := fun _ => fun
  | [d1, d2] => { results := [.lit (.bool false)], args := [d1, d2] }
  | _ => none }
def BlockWaysWrongFalsely : Prop := blockWaysRow.holds Try.pinned (OpenSpec.ofChange blockWaysWrong)

/-- 'codemasonlaw.BlockRuns': WHATEVER THE INPUT: true; the input reads as it did. -/
def blockRunsSpec : ChangeSpec := { name := "blockRuns", fn := fun _ => fun
  | [d1, d2, d3] => { results := [.lit (.bool true)], args := [d1, d2, d3] }
  | _ => none }
def blockRunsRow : OpenClaim := { program := "ytfbpalgeajgbhaa", sum := "f6ab5264867e2b5f7f9effe27662652f1b40c47476f7a8776be8e256c726e3ea", func := "codemason/codemasonlaw.BlockRuns", spec := "blockRuns", unfollowed := true, recurses := true, apart := false }
def BlockRunsSaid : Prop := blockRunsRow.holds Try.pinned (OpenSpec.ofChange blockRunsSpec)

/-- ITS FALSE NEIGHBOUR: 'it returns false'. Refute it at one input. -/
def blockRunsWrong : ChangeSpec := { name := "blockRuns", fn := fun _ => fun
  | [d1, d2, d3] => { results := [.lit (.bool false)], args := [d1, d2, d3] }
  | _ => none }
def BlockRunsWrongFalsely : Prop := blockRunsRow.holds Try.pinned (OpenSpec.ofChange blockRunsWrong)

/-- 'codemasonkeep.BlockPath': WHATEVER THE INPUT: true; the input reads as it did. -/
def blockPathSpec : ChangeSpec := { name := "blockPath", fn := fun _ => fun
  | [d1, d2, d3] => { results := [.lit (.bool true)], args := [d1, d2, d3] }
  | _ => none }
def blockPathRow : OpenClaim := { program := "ytfbpalgeajgbhaa", sum := "f6ab5264867e2b5f7f9effe27662652f1b40c47476f7a8776be8e256c726e3ea", func := "codemason/codemasonkeep.BlockPath", spec := "blockPath", unfollowed := true, recurses := true, apart := false }
def BlockPathSaid : Prop := blockPathRow.holds Try.pinned (OpenSpec.ofChange blockPathSpec)

/-- ITS FALSE NEIGHBOUR: 'it returns false'. Refute it at one input. -/
def blockPathWrong : ChangeSpec := { name := "blockPath", fn := fun _ => fun
  | [d1, d2, d3] => { results := [.lit (.bool false)], args := [d1, d2, d3] }
  | _ => none }
def BlockPathWrongFalsely : Prop := blockPathRow.holds Try.pinned (OpenSpec.ofChange blockPathWrong)

/-- 'codemasonkeep.BlockSplit': WHATEVER THE INPUT: true; the input reads as it did. -/
def blockSplitSpec : ChangeSpec := { name := "blockSplit", fn := fun _ => fun
  | [d1, d2, d3, d4] => { results := [.lit (.bool true)], args := [d1, d2, d3, d4] }
  | _ => none }
def blockSplitRow : OpenClaim := { program := "ytfbpalgeajgbhaa", sum := "f6ab5264867e2b5f7f9effe27662652f1b40c47476f7a8776be8e256c726e3ea", func := "codemason/codemasonkeep.BlockSplit", spec := "blockSplit", unfollowed := true, recurses := true, apart := false }
def BlockSplitSaid : Prop := blockSplitRow.holds Try.pinned (OpenSpec.ofChange blockSplitSpec)

/-- ITS FALSE NEIGHBOUR: 'it returns false'. Refute it at one input. -/
def blockSplitWrong : ChangeSpec := { name := "blockSplit", fn := fun _ => fun
  | [d1, d2, d3, d4] => { results := [.lit (.bool false)], args := [d1, d2, d3, d4] }
  | _ => none }
def BlockSplitWrongFalsely : Prop := blockSplitRow.holds Try.pinned (OpenSpec.ofChange blockSplitWrong)

/- THE SECOND FORM. 'bulk': how many values and letters a reading holds, each counted each time it is reached (what is shared counts as often as it is met; a slice's spare places count too). A statement '..UptoSaid' is the law's where the arguments, and the package variables that the reading takes, are together of bulk at most 1048576: NARROWER than '..Said'. Prove '..Said' where nothing that the law and all that it calls make is longer than what came in: it says more and counts as full. Else prove '..UptoSaid'. A law counts once. -/
mutual
def uptoBulk {H : Type} : DataW H → Nat
  | .lit (.string bytes) => bytes.length + 1
  | .lit _ => 1
  | .nil => 1
  | .ptr d => uptoBulk d + 1
  | .slice elems spare => uptoBulkAll elems + uptoBulkAll spare + 1
  | .agg parts => uptoBulkAll parts + 1
  | .iface _ d => uptoBulk d + 1
  | .map entries => uptoBulkEntries entries + 1
  | .held _ => 1
def uptoBulkAll {H : Type} : List (DataW H) → Nat
  | [] => 0
  | d :: r => uptoBulk d + uptoBulkAll r
def uptoBulkEntries {H : Type} : List (Lit × DataW H) → Nat
  | [] => 0
  | x :: r => uptoBulkEntry x + uptoBulkEntries r
def uptoBulkEntry {H : Type} : Lit × DataW H → Nat
  | (.string bytes, d) => bytes.length + uptoBulk d + 1
  | (_, d) => uptoBulk d + 1
 end
def uptoSmall : (H : Type) → List (DataW H) → Bool := fun _ ds => decide (uptoBulkAll ds ≤ 1048576)
def OpenSpec.upto (s : _root_.Go.ChangeSpec) : _root_.Go.OpenSpec := { _root_.Go.OpenSpec.ofChange s with cond := some uptoSmall }

/-- 'codemasonlaw.NeedRuns', WHERE WHAT IT READS IS OF BULK AT MOST 1048576: true; the input reads as it did. -/
def needRunsUptoRow : OpenClaim := { program := "ytfbpalgeajgbhaa", sum := "f6ab5264867e2b5f7f9effe27662652f1b40c47476f7a8776be8e256c726e3ea", func := "codemason/codemasonlaw.NeedRuns", spec := "needRuns", unfollowed := true, recurses := true, apart := false, narrowed := true }
def NeedRunsUptoSaid : Prop := needRunsUptoRow.holds Try.pinned (OpenSpec.upto needRunsSpec)

/-- 'codemasonkeep.NeedSame', WHERE WHAT IT READS IS OF BULK AT MOST 1048576: true; the input reads as it did. -/
def needSameUptoRow : OpenClaim := { program := "ytfbpalgeajgbhaa", sum := "f6ab5264867e2b5f7f9effe27662652f1b40c47476f7a8776be8e256c726e3ea", func := "codemason/codemasonkeep.NeedSame", spec := "needSame", unfollowed := true, recurses := true, apart := false, narrowed := true }
def NeedSameUptoSaid : Prop := needSameUptoRow.holds Try.pinned (OpenSpec.upto needSameSpec)

/-- 'codemasonlaw.BlockChecks', WHERE WHAT IT READS IS OF BULK AT MOST 1048576: true; the input reads as it did. -/
def blockChecksUptoRow : OpenClaim := { program := "ytfbpalgeajgbhaa", sum := "f6ab5264867e2b5f7f9effe27662652f1b40c47476f7a8776be8e256c726e3ea", func := "codemason/codemasonlaw.BlockChecks", spec := "blockChecks", unfollowed := true, recurses := true, apart := false, narrowed := true }
def BlockChecksUptoSaid : Prop := blockChecksUptoRow.holds Try.pinned (OpenSpec.upto blockChecksSpec)

/-- 'codemasonlaw.BlockWays', WHERE WHAT IT READS IS OF BULK AT MOST 1048576: true; the input reads as it did. -/
def blockWaysUptoRow : OpenClaim := { program := "ytfbpalgeajgbhaa", sum := "f6ab5264867e2b5f7f9effe27662652f1b40c47476f7a8776be8e256c726e3ea", func := "codemason/codemasonlaw.BlockWays", spec := "blockWays", unfollowed := true, recurses := true, apart := false, narrowed := true }
def BlockWaysUptoSaid : Prop := blockWaysUptoRow.holds Try.pinned (OpenSpec.upto blockWaysSpec)

/-- 'codemasonlaw.BlockRuns', WHERE WHAT IT READS IS OF BULK AT MOST 1048576: true; the input reads as it did. -/
def blockRunsUptoRow : OpenClaim := { program := "ytfbpalgeajgbhaa", sum := "f6ab5264867e2b5f7f9effe27662652f1b40c47476f7a8776be8e256c726e3ea", func := "codemason/codemasonlaw.BlockRuns", spec := "blockRuns", unfollowed := true, recurses := true, apart := false, narrowed := true }
def BlockRunsUptoSaid : Prop := blockRunsUptoRow.holds Try.pinned (OpenSpec.upto blockRunsSpec)

/-- 'codemasonkeep.BlockPath', WHERE WHAT IT READS IS OF BULK AT MOST 1048576: true; the input reads as it did. -/
def blockPathUptoRow : OpenClaim := { program := "ytfbpalgeajgbhaa", sum := "f6ab5264867e2b5f7f9effe27662652f1b40c47476f7a8776be8e256c726e3ea", func := "codemason/codemasonkeep.BlockPath", spec := "blockPath", unfollowed := true, recurses := true, apart := false, narrowed := true }
def BlockPathUptoSaid : Prop := blockPathUptoRow.holds Try.pinned (OpenSpec.upto blockPathSpec)

/-- 'codemasonkeep.BlockSplit', WHERE WHAT IT READS IS OF BULK AT MOST 1048576: true; the input reads as it did. -/
def blockSplitUptoRow : OpenClaim := { program := "ytfbpalgeajgbhaa", sum := "f6ab5264867e2b5f7f9effe27662652f1b40c47476f7a8776be8e256c726e3ea", func := "codemason/codemasonkeep.BlockSplit", spec := "blockSplit", unfollowed := true, recurses := true, apart := false, narrowed := true }
def BlockSplitUptoSaid : Prop := blockSplitUptoRow.holds Try.pinned (OpenSpec.upto blockSplitSpec)

end Rows
end Go.Proofs.Ytfbpalgeajgbhaa
