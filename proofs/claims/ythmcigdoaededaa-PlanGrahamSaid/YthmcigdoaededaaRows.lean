/-
  No cell of these rows narrows 'for every input' (looked for: loops, veiled, ifaces, maps, wideKeys, modest, calm, conditions, laid).
  DERIVED. THE GIVEN ROWS OF THIS SEAT. 7 by the template 'for every input the law returns true; each argument reads behind the call as it read before'; 0 by the template 'total and deterministic' (their statements: YthmcigdoaededaaTotals.lean).
  GIVEN WITH THE SEED: the statements are not yours to turn. If you find one false, say at which input.
  Laid BY PROGRAM, IN A SANDBOX (cutbox-rows.mjs): the forced cells as the released guide's own fill.sh prints them over the translation ee3fd68d0da31dac… (all of the seat's roots in one cut). By AI agents, Wed Nov 11 2026. No macro, syntax, notation, axiom, sorry.
-/
import Derived.Test.YthmcigdoaededaaChecked
import GoSem.Claim
import GoSem.ClaimJoined
import GoSem.ClaimMapViews
import Derived.JoinedTies
import Derived.KernelRfl
namespace Go.Proofs.Ythmcigdoaededaa
/- THE CELL 'sum', in the pinned program and in every row, IS THE sha256 OF THE DUMP (.gsa) THAT YthmcigdoaededaaProg.lean LOADS. Nothing in Lean hashes anything: it is a label: what it is worth is what the hold of that sum in a sandbox is worth. -/
noncomputable def Try.pinned : Pinned := { name := "ythmcigdoaededaa", sum := "ee3fd68d0da31dac393f4fa67c4ed2f1a28e9d7e1b969ac54dbce53cf800b997", checked := Try.checked }
namespace Rows
def none {H : Type} : Left H := { results := [], args := [] }

/-- 'codemasonlaw.PlanLevels': WHATEVER THE INPUT: true; the input reads as it did. -/
def planLevelsSpec : ChangeSpec := { name := "planLevels", fn := fun _ => fun
  | [d1, d2] => { results := [.lit (.bool true)], args := [d1, d2] }
  | _ => none }
def planLevelsRow : OpenClaim := { program := "ythmcigdoaededaa", sum := "ee3fd68d0da31dac393f4fa67c4ed2f1a28e9d7e1b969ac54dbce53cf800b997", func := "codemason/codemasonlaw.PlanLevels", spec := "planLevels", recurses := true, apart := false }
def PlanLevelsSaid : Prop := planLevelsRow.holds Try.pinned (OpenSpec.ofChange planLevelsSpec)

/-- ITS FALSE NEIGHBOUR: 'it returns false'. Refute it at one input. -/
def planLevelsWrong : ChangeSpec := { name := "planLevels", fn := fun _ => fun
  | [d1, d2] => { results := [.lit (.bool false)], args := [d1, d2] }
  | _ => none }
def PlanLevelsWrongFalsely : Prop := planLevelsRow.holds Try.pinned (OpenSpec.ofChange planLevelsWrong)

/-- 'codemasonlaw.PlanLists': WHATEVER THE INPUT: true; the input reads as it did. -/
def planListsSpec : ChangeSpec := { name := "planLists", fn := fun _ => fun
  | [d1, d2, d3, d4] => { results := [.lit (.bool true)], args := [d1, d2, d3, d4] }
  | _ => none }
def planListsRow : OpenClaim := { program := "ythmcigdoaededaa", sum := "ee3fd68d0da31dac393f4fa67c4ed2f1a28e9d7e1b969ac54dbce53cf800b997", func := "codemason/codemasonlaw.PlanLists", spec := "planLists", apart := false }
def PlanListsSaid : Prop := planListsRow.holds Try.pinned (OpenSpec.ofChange planListsSpec)

/-- ITS FALSE NEIGHBOUR: 'it returns false'. Refute it at one input. -/
def planListsWrong : ChangeSpec := { name := "planLists", fn := fun _ => fun
  | [d1, d2, d3, d4] => { results := [.lit (.bool false)], args := [d1, d2, d3, d4] }
  | _ => none }
def PlanListsWrongFalsely : Prop := planListsRow.holds Try.pinned (OpenSpec.ofChange planListsWrong)

/-- 'codemasonlaw.PlanBests': WHATEVER THE INPUT: true; the input reads as it did. -/
def planBestsSpec : ChangeSpec := { name := "planBests", fn := fun _ => fun
  | [d1, d2, d3] => { results := [.lit (.bool true)], args := [d1, d2, d3] }
  | _ => none }
def planBestsRow : OpenClaim := { program := "ythmcigdoaededaa", sum := "ee3fd68d0da31dac393f4fa67c4ed2f1a28e9d7e1b969ac54dbce53cf800b997", func := "codemason/codemasonlaw.PlanBests", spec := "planBests", recurses := true, apart := false }
def PlanBestsSaid : Prop := planBestsRow.holds Try.pinned (OpenSpec.ofChange planBestsSpec)

/-- ITS FALSE NEIGHBOUR: 'it returns false'. Refute it at one input. -/
def planBestsWrong : ChangeSpec := { name := "planBests", fn := fun _ => fun
  | [d1, d2, d3] => { results := [.lit (.bool false)], args := [d1, d2, d3] }
  | _ => none }
def PlanBestsWrongFalsely : Prop := planBestsRow.holds Try.pinned (OpenSpec.ofChange planBestsWrong)

/-- 'codemasonkeep.PlanGraham': WHATEVER THE INPUT: true; the input reads as it did. -/
def planGrahamSpec : ChangeSpec := { name := "planGraham", fn := fun _ => fun
  | [d1, d2, d3, d4] => { results := [.lit (.bool true)], args := [d1, d2, d3, d4] }
  | _ => none }
def planGrahamRow : OpenClaim := { program := "ythmcigdoaededaa", sum := "ee3fd68d0da31dac393f4fa67c4ed2f1a28e9d7e1b969ac54dbce53cf800b997", func := "codemason/codemasonkeep.PlanGraham", spec := "planGraham", apart := false }
def PlanGrahamSaid : Prop := planGrahamRow.holds Try.pinned (OpenSpec.ofChange planGrahamSpec)

/-- ITS FALSE NEIGHBOUR: 'it returns false'. Refute it at one input. -/
def planGrahamWrong : ChangeSpec := { name := "planGraham", fn := fun _ => fun
  | [d1, d2, d3, d4] => { results := [.lit (.bool false)], args := [d1, d2, d3, d4] }
  | _ => none }
def PlanGrahamWrongFalsely : Prop := planGrahamRow.holds Try.pinned (OpenSpec.ofChange planGrahamWrong)

/-- 'codemasonkeep.PlanLevel': WHATEVER THE INPUT: true; the input reads as it did. -/
def planLevelSpec : ChangeSpec := { name := "planLevel", fn := fun _ => fun
  | [d1, d2, d3] => { results := [.lit (.bool true)], args := [d1, d2, d3] }
  | _ => none }
def planLevelRow : OpenClaim := { program := "ythmcigdoaededaa", sum := "ee3fd68d0da31dac393f4fa67c4ed2f1a28e9d7e1b969ac54dbce53cf800b997", func := "codemason/codemasonkeep.PlanLevel", spec := "planLevel", apart := false }
def PlanLevelSaid : Prop := planLevelRow.holds Try.pinned (OpenSpec.ofChange planLevelSpec)

/-- ITS FALSE NEIGHBOUR: 'it returns false'. Refute it at one input. -/
def planLevelWrong : ChangeSpec := { name := "planLevel", fn := fun _ => fun
  | [d1, d2, d3] => { results := [.lit (.bool false)], args := [d1, d2, d3] }
  | _ => none }
def PlanLevelWrongFalsely : Prop := planLevelRow.holds Try.pinned (OpenSpec.ofChange planLevelWrong)

/-- 'codemasonkeep.PlanHu': WHATEVER THE INPUT: true; the input reads as it did. -/
def planHuSpec : ChangeSpec := { name := "planHu", fn := fun _ => fun
  | [d1, d2, d3] => { results := [.lit (.bool true)], args := [d1, d2, d3] }
  | _ => none }
def planHuRow : OpenClaim := { program := "ythmcigdoaededaa", sum := "ee3fd68d0da31dac393f4fa67c4ed2f1a28e9d7e1b969ac54dbce53cf800b997", func := "codemason/codemasonkeep.PlanHu", spec := "planHu", apart := false }
def PlanHuSaid : Prop := planHuRow.holds Try.pinned (OpenSpec.ofChange planHuSpec)

/-- ITS FALSE NEIGHBOUR: 'it returns false'. Refute it at one input. -/
def planHuWrong : ChangeSpec := { name := "planHu", fn := fun _ => fun
  | [d1, d2, d3] => { results := [.lit (.bool false)], args := [d1, d2, d3] }
  | _ => none }
def PlanHuWrongFalsely : Prop := planHuRow.holds Try.pinned (OpenSpec.ofChange planHuWrong)

/-- 'codemasonkeep.PlanOne': WHATEVER THE INPUT: true; the input reads as it did. -/
def planOneSpec : ChangeSpec := { name := "planOne", fn := fun _ => fun
  | [d1, d2, d3] => { results := [.lit (.bool true)], args := [d1, d2, d3] }
  | _ => none }
def planOneRow : OpenClaim := { program := "ythmcigdoaededaa", sum := "ee3fd68d0da31dac393f4fa67c4ed2f1a28e9d7e1b969ac54dbce53cf800b997", func := "codemason/codemasonkeep.PlanOne", spec := "planOne", apart := false }
def PlanOneSaid : Prop := planOneRow.holds Try.pinned (OpenSpec.ofChange planOneSpec)

/-- ITS FALSE NEIGHBOUR: 'it returns false'. Refute it at one input. -/
def planOneWrong : ChangeSpec := { name := "planOne", fn := fun _ => fun
  | [d1, d2, d3] => { results := [.lit (.bool false)], args := [d1, d2, d3] }
  | _ => none }
def PlanOneWrongFalsely : Prop := planOneRow.holds Try.pinned (OpenSpec.ofChange planOneWrong)

/- THE SECOND FORM. 'bulk': how many values and letters a reading holds, each counted each time it is reached (what is shared counts as often as it is met; a slice's spare places count too). A statement '..UptoSaid' is the law's where the arguments, and the package variables that the reading takes, are together of bulk at most 1048576: NARROWER than '..Said'. Prove '..Said' where nothing that the law and all that it calls make is longer than what came in: it says more and counts as full. Else prove '..UptoSaid'. A law counts once. -/
mutual
def uptoBulk {H : Type} : DataW H → Nat
  | .lit (.string bytes) => bytes.length + 1
  | .lit _ => 1
  | .nil => 1
  | .ptr d => uptoBulk d + 1
  | .slice elems spare => uptoBulkAll elems + uptoBulkAll spare + 1
  | .agg parts => uptoBulkAll parts + 1
  | .iface _ d => uptoBulk d + 1
  | .map entries => uptoBulkEntries entries + 1
  | .held _ => 1
def uptoBulkAll {H : Type} : List (DataW H) → Nat
  | [] => 0
  | d :: r => uptoBulk d + uptoBulkAll r
def uptoBulkEntries {H : Type} : List (Lit × DataW H) → Nat
  | [] => 0
  | x :: r => uptoBulkEntry x + uptoBulkEntries r
def uptoBulkEntry {H : Type} : Lit × DataW H → Nat
  | (.string bytes, d) => bytes.length + uptoBulk d + 1
  | (_, d) => uptoBulk d + 1
 end
def uptoSmall : (H : Type) → List (DataW H) → Bool := fun _ ds => decide (uptoBulkAll ds ≤ 1048576)
def OpenSpec.upto (s : _root_.Go.ChangeSpec) : _root_.Go.OpenSpec := { _root_.Go.OpenSpec.ofChange s with cond := some uptoSmall }

/-- 'codemasonlaw.PlanLevels', WHERE WHAT IT READS IS OF BULK AT MOST 1048576: true; the input reads as it did. -/
def planLevelsUptoRow : OpenClaim := { program := "ythmcigdoaededaa", sum := "ee3fd68d0da31dac393f4fa67c4ed2f1a28e9d7e1b969ac54dbce53cf800b997", func := "codemason/codemasonlaw.PlanLevels", spec := "planLevels", recurses := true, apart := false, narrowed := true }
def PlanLevelsUptoSaid : Prop := planLevelsUptoRow.holds Try.pinned (OpenSpec.upto planLevelsSpec)

/-- 'codemasonlaw.PlanLists', WHERE WHAT IT READS IS OF BULK AT MOST 1048576: true; the input reads as it did. -/
def planListsUptoRow : OpenClaim := { program := "ythmcigdoaededaa", sum := "ee3fd68d0da31dac393f4fa67c4ed2f1a28e9d7e1b969ac54dbce53cf800b997", func := "codemason/codemasonlaw.PlanLists", spec := "planLists", apart := false, narrowed := true }
def PlanListsUptoSaid : Prop := planListsUptoRow.holds Try.pinned (OpenSpec.upto planListsSpec)

/-- 'codemasonlaw.PlanBests', WHERE WHAT IT READS IS OF BULK AT MOST 1048576: true; the input reads as it did. -/
def planBestsUptoRow : OpenClaim := { program := "ythmcigdoaededaa", sum := "ee3fd68d0da31dac393f4fa67c4ed2f1a28e9d7e1b969ac54dbce53cf800b997", func := "codemason/codemasonlaw.PlanBests", spec := "planBests", recurses := true, apart := false, narrowed := true }
def PlanBestsUptoSaid : Prop := planBestsUptoRow.holds Try.pinned (OpenSpec.upto planBestsSpec)

/-- 'codemasonkeep.PlanGraham', WHERE WHAT IT READS IS OF BULK AT MOST 1048576: true; the input reads as it did. -/
def planGrahamUptoRow : OpenClaim := { program := "ythmcigdoaededaa", sum := "ee3fd68d0da31dac393f4fa67c4ed2f1a28e9d7e1b969ac54dbce53cf800b997", func := "codemason/codemasonkeep.PlanGraham", spec := "planGraham", apart := false, narrowed := true }
def PlanGrahamUptoSaid : Prop := planGrahamUptoRow.holds Try.pinned (OpenSpec.upto planGrahamSpec)

/-- 'codemasonkeep.PlanLevel', WHERE WHAT IT READS IS OF BULK AT MOST 1048576: true; the input reads as it did. -/
def planLevelUptoRow : OpenClaim := { program := "ythmcigdoaededaa", sum := "ee3fd68d0da31dac393f4fa67c4ed2f1a28e9d7e1b969ac54dbce53cf800b997", func := "codemason/codemasonkeep.PlanLevel", spec := "planLevel", apart := false, narrowed := true }
def PlanLevelUptoSaid : Prop := planLevelUptoRow.holds Try.pinned (OpenSpec.upto planLevelSpec)

/-- 'codemasonkeep.PlanHu', WHERE WHAT IT READS IS OF BULK AT MOST 1048576: true; the input reads as it did. -/
def planHuUptoRow : OpenClaim := { program := "ythmcigdoaededaa", sum := "ee3fd68d0da31dac393f4fa67c4ed2f1a28e9d7e1b969ac54dbce53cf800b997", func := "codemason/codemasonkeep.PlanHu", spec := "planHu", apart := false, narrowed := true }
def PlanHuUptoSaid : Prop := planHuUptoRow.holds Try.pinned (OpenSpec.upto planHuSpec)

/-- 'codemasonkeep.PlanOne', WHERE WHAT IT READS IS OF BULK AT MOST 1048576: true; the input reads as it did. -/
def planOneUptoRow : OpenClaim := { program := "ythmcigdoaededaa", sum := "ee3fd68d0da31dac393f4fa67c4ed2f1a28e9d7e1b969ac54dbce53cf800b997", func := "codemason/codemasonkeep.PlanOne", spec := "planOne", apart := false, narrowed := true }
def PlanOneUptoSaid : Prop := planOneUptoRow.holds Try.pinned (OpenSpec.upto planOneSpec)

end Rows
end Go.Proofs.Ythmcigdoaededaa
