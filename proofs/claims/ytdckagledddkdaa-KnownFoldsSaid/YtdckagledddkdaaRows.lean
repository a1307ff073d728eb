/-
  No cell of these rows narrows 'for every input' (looked for: loops, veiled, ifaces, maps, wideKeys, modest, calm, conditions, laid).
  DERIVED. THE GIVEN ROWS OF THIS SEAT. 5 by the template 'for every input the law returns true; each argument reads behind the call as it read before'; 0 by the template 'total and deterministic' (their statements: YtdckagledddkdaaTotals.lean).
  GIVEN WITH THE SEED: the statements are not yours to turn. If you find one false, say at which input.
  Laid BY PROGRAM, IN A SANDBOX (cutbox-rows.mjs): the forced cells as the released guide's own fill.sh prints them over the translation b03524bead3a7328… (all of the seat's roots in one cut). By AI agents, Wed Nov 11 2026. No macro, syntax, notation, axiom, sorry.
-/
import Derived.Test.YtdckagledddkdaaChecked
import GoSem.Claim
import GoSem.ClaimJoined
import GoSem.ClaimMapViews
import Derived.JoinedTies
import Derived.KernelRfl
namespace Go.Proofs.Ytdckagledddkdaa
/- THE CELL 'sum', in the pinned program and in every row, IS THE sha256 OF THE DUMP (.gsa) THAT YtdckagledddkdaaProg.lean LOADS. Nothing in Lean hashes anything: it is a label: what it is worth is what the hold of that sum in a sandbox is worth. -/
noncomputable def Try.pinned : Pinned := { name := "ytdckagledddkdaa", sum := "b03524bead3a7328465afce0e8d4c896d96aff887cebaf2600f651ab34f52515", checked := Try.checked }
namespace Rows
def none {H : Type} : Left H := { results := [], args := [] }

/-- 'codemasonlaw.KnownTells': WHATEVER THE INPUT: true; the input reads as it did. -/
def knownTellsSpec : ChangeSpec := { name := "knownTells", fn := fun _ => fun
  | [d1, d2, d3] => { results := [.lit (.bool true)], args := [d1, d2, d3] }
  | _ => none }
def knownTellsRow : OpenClaim := { program := "ytdckagledddkdaa", sum := "b03524bead3a7328465afce0e8d4c896d96aff887cebaf2600f651ab34f52515", func := "codemason/codemasonlaw.KnownTells", spec := "knownTells", unfollowed := true, recurses := true, apart := false }
def KnownTellsSaid : Prop := knownTellsRow.holds Try.pinned (OpenSpec.ofChange knownTellsSpec)

/-- ITS FALSE NEIGHBOUR: 'it returns false'. Refute it at one input. -/
def knownTellsWrong : ChangeSpec := { name := "knownTells", fn := fun _ => fun
  | [d1, d2, d3] => { results := [.lit (.bool false)], args := [d1, d2, d3] }
  | _ => none }
def KnownTellsWrongFalsely : Prop := knownTellsRow.holds Try.pinned (OpenSpec.ofChange knownTellsWrong)

/-- 'codemasonlaw.KnownFolds': WHATEVER THE INPUT: true; the input reads as it did. -/
def knownFoldsSpec : ChangeSpec := { name := "knownFolds", fn := fun _ => fun
  | [d1, d2, d3] => { results := [.lit (.bool true)], args := [d1, d2, d3] }
  | _ => none }
def knownFoldsRow : OpenClaim := { program := "ytdckagledddkdaa", sum := "b03524bead3a7328465afce0e8d4c896d96aff887cebaf2600f651ab34f52515", func := "codemason/codemasonlaw.KnownFolds", spec := "knownFolds", unfollowed := true, recurses := true, apart := false }
def KnownFoldsSaid : Prop := knownFoldsRow.holds Try.pinned (OpenSpec.ofChange knownFoldsSpec)

/-- ITS FALSE NEIGHBOUR: 'it returns false'. Refute it at one input. -/
def knownFoldsWrong : ChangeSpec := { name := "knownFolds", fn := fun _ => fun
  | [d1, d2, d3] => { results := [.lit (.bool false)], args := [d1, d2, d3] }
  | _ => none }
def KnownFoldsWrongFalsely : Prop := knownFoldsRow.holds Try.pinned (OpenSpec.ofChange knownFoldsWrong)

/-- 'codemasonkeep.KnownRight': WHATEVER THE INPUT: true; the input reads as it did. -/
def knownRightSpec : ChangeSpec := { name := "knownRight", fn := fun _ => fun
  | [d1, d2, d3, d4] => { results := [.lit (.bool true)], args := [d1, d2, d3, d4] }
  | _ => none }
def knownRightRow : OpenClaim := { program := "ytdckagledddkdaa", sum := "b03524bead3a7328465afce0e8d4c896d96aff887cebaf2600f651ab34f52515", func := "codemason/codemasonkeep.KnownRight", spec := "knownRight", unfollowed := true, recurses := true, apart := false }
def KnownRightSaid : Prop := knownRightRow.holds Try.pinned (OpenSpec.ofChange knownRightSpec)

/-- ITS FALSE NEIGHBOUR: 'it returns false'. Refute it at one input. -/
def knownRightWrong : ChangeSpec := { name := "knownRight", fn := fun _ => fun
  | [d1, d2, d3, d4] => { results := [.lit (.bool false)], args := [d1, d2, d3, d4] }
  | _ => none }
def KnownRightWrongFalsely : Prop := knownRightRow.holds Try.pinned (OpenSpec.ofChange knownRightWrong)

/-- 'codemasonkeep.KnownFold': WHATEVER THE INPUT: true; the input reads as it did. -/
def knownFoldSpec : ChangeSpec := { name := "knownFold", fn := fun _ => fun
  | [d1, d2, d3, d4] => { results := [.lit (.bool true)], args := [d1, d2, d3, d4] }
  | _ => none }
def knownFoldRow : OpenClaim := { program := "ytdckagledddkdaa", sum := "b03524bead3a7328465afce0e8d4c896d96aff887cebaf2600f651ab34f52515", func := "codemason/codemasonkeep.KnownFold", spec := "knownFold", unfollowed := true, recurses := true, apart := false }
def KnownFoldSaid : Prop := knownFoldRow.holds Try.pinned (OpenSpec.ofChange knownFoldSpec)

/-- ITS FALSE NEIGHBOUR: 'it returns false'. Refute it at one input. -/
def knownFoldWrong : ChangeSpec := { name := "knownFold", fn := fun _ => fun
  | [d1, d2, d3, d4] => { results := [.lit (.bool false)], args := [d1, d2, d3, d4] }
  | _ => none }
def KnownFoldWrongFalsely : Prop := knownFoldRow.holds Try.pinned (OpenSpec.ofChange knownFoldWrong)

/-- 'codemasonkeep.KnownMore': WHATEVER THE INPUT: true; the input reads as it did. -/
def knownMoreSpec : ChangeSpec := { name := "knownMore", fn := fun _ => fun
  | [d1, d2, d3, d4] => { results := [.lit (.bool true)], args := [d1, d2, d3, d4] }
  | _ => none }
def knownMoreRow : OpenClaim := { program := "ytdckagledddkdaa", sum := "b03524bead3a7328465afce0e8d4c896d96aff887cebaf2600f651ab34f52515", func := "codemason/codemasonkeep.KnownMore", spec := "knownMore", unfollowed := true, recurses := true, apart := false }
def KnownMoreSaid : Prop := knownMoreRow.holds Try.pinned (OpenSpec.ofChange knownMoreSpec)

/-- ITS FALSE NEIGHBOUR: 'it returns false'. Refute it at one input. -/
def knownMoreWrong : ChangeSpec := { name := "knownMore", fn := fun _ => fun
  | [d1, d2, d3, d4] => { results := [.lit (.bool false)], args := [d1, d2, d3, d4] }
  | _ => none }
def KnownMoreWrongFalsely : Prop := knownMoreRow.holds Try.pinned (OpenSpec.ofChange knownMoreWrong)

/- THE SECOND FORM. 'bulk': how many values and letters a reading holds, each counted each time it is reached (what is shared counts as often as it is met; a slice's spare places count too). A statement '..UptoSaid' is the law's where the arguments, and the package variables that the reading takes, are together of bulk at most 1048576: NARROWER than '..Said'. Prove '..Said' where nothing that the law and all that it calls make is longer than what came in: it says more and counts as full. Else prove '..UptoSaid'. A law counts once. -/
mutual
def uptoBulk {H : Type} : DataW H → Nat
  | .lit (.string bytes) => bytes.length + 1
  | .lit _ => 1
  | .nil => 1
  | .ptr d => uptoBulk d + 1
  | .slice elems spare => uptoBulkAll elems + uptoBulkAll spare + 1
  | .agg parts => uptoBulkAll parts + 1
  | .iface _ d => uptoBulk d + 1
  | .map entries => uptoBulkEntries entries + 1
  | .held _ => 1
def uptoBulkAll {H : Type} : List (DataW H) → Nat
  | [] => 0
  | d :: r => uptoBulk d + uptoBulkAll r
def uptoBulkEntries {H : Type} : List (Lit × DataW H) → Nat
  | [] => 0
  | x :: r => uptoBulkEntry x + uptoBulkEntries r
def uptoBulkEntry {H : Type} : Lit × DataW H → Nat
  | (.string bytes, d) => bytes.length + uptoBulk d + 1
  | (_, d) => uptoBulk d + 1
 end
def uptoSmall : (H : Type) → List (DataW H) → Bool := fun _ ds => decide (uptoBulkAll ds ≤ 1048576)
def OpenSpec.upto (s : _root_.Go.ChangeSpec) : _root_.Go.OpenSpec := { _root_.Go.OpenSpec.ofChange s with cond := some uptoSmall }

/-- 'codemasonlaw.KnownTells', WHERE WHAT IT READS IS OF BULK AT MOST 1048576: true; the input reads as it did. -/
def knownTellsUptoRow : OpenClaim := { program := "ytdckagledddkdaa", sum := "b03524bead3a7328465afce0e8d4c896d96aff887cebaf2600f651ab34f52515", func := "codemason/codemasonlaw.KnownTells", spec := "knownTells", unfollowed := true, recurses := true, apart := false, narrowed := true }
def KnownTellsUptoSaid : Prop := knownTellsUptoRow.holds Try.pinned (OpenSpec.upto knownTellsSpec)

/-- 'codemasonlaw.KnownFolds', WHERE WHAT IT READS IS OF BULK AT MOST 1048576: true; the input reads as it did. -/
def knownFoldsUptoRow : OpenClaim := { program := "ytdckagledddkdaa", sum := "b03524bead3a7328465afce0e8d4c896d96aff887cebaf2600f651ab34f52515", func := "codemason/codemasonlaw.KnownFolds", spec := "knownFolds", unfollowed := true, recurses := true, apart := false, narrowed := true }
def KnownFoldsUptoSaid : Prop := knownFoldsUptoRow.holds Try.pinned (OpenSpec.upto knownFoldsSpec)

/-- 'codemasonkeep.KnownRight', WHERE WHAT IT READS IS OF BULK AT MOST 1048576: true; the input reads as it did. -/
def knownRightUptoRow : OpenClaim := { program := "ytdckagledddkdaa", sum := "b03524bead3a7328465afce0e8d4c896d96aff887cebaf2600f651ab34f52515", func := "codemason/codemasonkeep.KnownRight", spec := "knownRight", unfollowed := true, recurses := true, apart := false, narrowed := true }
def KnownRightUptoSaid : Prop := knownRightUptoRow.holds Try.pinned (OpenSpec.upto knownRightSpec)

/-- 'codemasonkeep.KnownFold', WHERE WHAT IT READS IS OF BULK AT MOST 1048576: true; the input reads as it did. -/
def knownFoldUptoRow : OpenClaim := { program := "ytdckagledddkdaa", sum := "b03524bead3a7328465afce0e8d4c896d96aff887cebaf2600f651ab34f52515", func := "codemason/codemasonkeep.KnownFold", spec := "knownFold", unfollowed := true, recurses := true, apart := false, narrowed := true }
def KnownFoldUptoSaid : Prop := knownFoldUptoRow.holds Try.pinned (OpenSpec.upto knownFoldSpec)

/-- 'codemasonkeep.KnownMore', WHERE WHAT IT READS IS OF BULK AT MOST 1048576: true; the input reads as it did. -/
def knownMoreUptoRow : OpenClaim := { program := "ytdckagledddkdaa", sum := "b03524bead3a7328465afce0e8d4c896d96aff887cebaf2600f651ab34f52515", func := "codemason/codemasonkeep.KnownMore", spec := "knownMore", unfollowed := true, recurses := true, apart := false, narrowed := true }
def KnownMoreUptoSaid : Prop := knownMoreUptoRow.holds Try.pinned (OpenSpec.upto knownMoreSpec)

end Rows
end Go.Proofs.Ytdckagledddkdaa
