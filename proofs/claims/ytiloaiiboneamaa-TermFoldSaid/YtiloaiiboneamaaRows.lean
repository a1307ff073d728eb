/-
  No cell of these rows narrows 'for every input' (looked for: loops, veiled, ifaces, maps, wideKeys, modest, calm, conditions, laid).
  DERIVED. THE GIVEN ROWS OF THIS SEAT. 6 by the template 'for every input the law returns true; each argument reads behind the call as it read before'; 0 by the template 'total and deterministic' (their statements: YtiloaiiboneamaaTotals.lean).
  GIVEN WITH THE SEED: the statements are not yours to turn. If you find one false, say at which input.
  Laid BY PROGRAM, IN A SANDBOX (cutbox-rows.mjs): the forced cells as the released guide's own fill.sh prints them over the translation 9a813267b241edf2… (all of the seat's roots in one cut). By AI agents, Wed Nov 11 2026. No macro, syntax, notation, axiom, sorry.
-/
import Derived.Test.YtiloaiiboneamaaChecked
import GoSem.Claim
import GoSem.ClaimJoined
import GoSem.ClaimMapViews
import Derived.JoinedTies
import Derived.KernelRfl
namespace Go.Proofs.Ytiloaiiboneamaa
/- THE CELL 'sum', in the pinned program and in every row, IS THE sha256 OF THE DUMP (.gsa) THAT YtiloaiiboneamaaProg.lean LOADS. Nothing in Lean hashes anything: it is a label: what it is worth is what the hold of that sum in a sandbox is worth. -/
noncomputable def Try.pinned : Pinned := { name := "ytiloaiiboneamaa", sum := "9a813267b241edf214fa53f0c1cff98a2eccbdd5dc6ab2f32253db92ad5952d7", checked := Try.checked }
namespace Rows
def none {H : Type} : Left H := { results := [], args := [] }

/-- 'codemasonlaw.TermChecks': WHATEVER THE INPUT: true; the input reads as it did. -/
def termChecksSpec : ChangeSpec := { name := "termChecks", fn := fun _ => fun
  | [d1, d2] => { results := [.lit (.bool true)], args := [d1, d2] }
  | _ => none }
def termChecksRow : OpenClaim := { program := "ytiloaiiboneamaa", sum := "9a813267b241edf214fa53f0c1cff98a2eccbdd5dc6ab2f32253db92ad5952d7", func := "codemason/codemasonlaw.TermChecks", spec := "termChecks", unfollowed := true, recurses := true, apart := false }
def TermChecksSaid : Prop := termChecksRow.holds Try.pinned (OpenSpec.ofChange termChecksSpec)

/-- ITS FALSE NEIGHBOUR: 'it returns false'. Refute it at one input. -/
def termChecksWrong : ChangeSpec := { name := "termChecks", fn := fun _ => fun
  | [d1, d2] => { results := [.lit (.bool false)], args := [d1, d2] }
  | _ => none }
def TermChecksWrongFalsely : Prop := termChecksRow.holds Try.pinned (OpenSpec.ofChange termChecksWrong)

/-- 'codemasonlaw.TermValues': WHATEVER THE INPUT: true; the input reads as it did. -/
def termValuesSpec : ChangeSpec := { name := "termValues", fn := fun _ => fun
  | [d1, d2, d3] => { results := [.lit (.bool true)], args := [d1, d2, d3] }
  | _ => none }
def termValuesRow : OpenClaim := { program := "ytiloaiiboneamaa", sum := "9a813267b241edf214fa53f0c1cff98a2eccbdd5dc6ab2f32253db92ad5952d7", func := "codemason/codemasonlaw.TermValues", spec := "termValues", unfollowed := true, recurses := true, apart := false }
def TermValuesSaid : Prop := termValuesRow.holds Try.pinned (OpenSpec.ofChange termValuesSpec)

/-- ITS FALSE NEIGHBOUR: 'it returns false'. Refute it at one input. -/
def termValuesWrong : ChangeSpec := { name := "termValues", fn := fun _ => fun
  | [d1, d2, d3] => { results := [.lit (.bool false)], args := [d1, d2, d3] }
  | _ => none }
def TermValuesWrongFalsely : Prop := termValuesRow.holds Try.pinned (OpenSpec.ofChange termValuesWrong)

/-- 'codemasonlaw.TermUses': WHATEVER THE INPUT: true; the input reads as it did. -/
def termUsesSpec : ChangeSpec := { name := "termUses", fn := fun _ => fun
  | [d1, d2] => { results := [.lit (.bool true)], args := [d1, d2] }
  | _ => none }
def termUsesRow : OpenClaim := { program := "ytiloaiiboneamaa", sum := "9a813267b241edf214fa53f0c1cff98a2eccbdd5dc6ab2f32253db92ad5952d7", func := "codemason/codemasonlaw.TermUses", spec := "termUses", unfollowed := true, recurses := true, apart := false }
def TermUsesSaid : Prop := termUsesRow.holds Try.pinned (OpenSpec.ofChange termUsesSpec)

/-- ITS FALSE NEIGHBOUR: 'it returns false'. Refute it at one input. -/
def termUsesWrong : ChangeSpec := { name := "termUses", fn := fun _ => fun
  | [d1, d2] => { results := [.lit (.bool false)], args := [d1, d2] }
  | _ => none }
def TermUsesWrongFalsely : Prop := termUsesRow.holds Try.pinned (OpenSpec.ofChange termUsesWrong)

/-- 'codemasonlaw.TermFolds': WHATEVER THE INPUT: true; the input reads as it did. -/
def termFoldsSpec : ChangeSpec := { name := "termFolds", fn := fun _ => fun
  | [d1, d2, d3] => { results := [.lit (.bool true)], args := [d1, d2, d3] }
  | _ => none }
def termFoldsRow : OpenClaim := { program := "ytiloaiiboneamaa", sum := "9a813267b241edf214fa53f0c1cff98a2eccbdd5dc6ab2f32253db92ad5952d7", func := "codemason/codemasonlaw.TermFolds", spec := "termFolds", unfollowed := true, recurses := true, apart := false }
def TermFoldsSaid : Prop := termFoldsRow.holds Try.pinned (OpenSpec.ofChange termFoldsSpec)

/-- ITS FALSE NEIGHBOUR: 'it returns false'. Refute it at one input. -/
def termFoldsWrong : ChangeSpec := { name := "termFolds", fn := fun _ => fun
  | [d1, d2, d3] => { results := [.lit (.bool false)], args := [d1, d2, d3] }
  | _ => none }
def TermFoldsWrongFalsely : Prop := termFoldsRow.holds Try.pinned (OpenSpec.ofChange termFoldsWrong)

/-- 'codemasonkeep.TermUse': WHATEVER THE INPUT: true; the input reads as it did. -/
def termUseSpec : ChangeSpec := { name := "termUse", fn := fun _ => fun
  | [d1, d2, d3, d4] => { results := [.lit (.bool true)], args := [d1, d2, d3, d4] }
  | _ => none }
def termUseRow : OpenClaim := { program := "ytiloaiiboneamaa", sum := "9a813267b241edf214fa53f0c1cff98a2eccbdd5dc6ab2f32253db92ad5952d7", func := "codemason/codemasonkeep.TermUse", spec := "termUse", unfollowed := true, recurses := true, apart := false }
def TermUseSaid : Prop := termUseRow.holds Try.pinned (OpenSpec.ofChange termUseSpec)

/-- ITS FALSE NEIGHBOUR: 'it returns false'. Refute it at one input. -/
def termUseWrong : ChangeSpec := { name := "termUse", fn := fun _ => fun
  | [d1, d2, d3, d4] => { results := [.lit (.bool false)], args := [d1, d2, d3, d4] }
  | _ => none }
def TermUseWrongFalsely : Prop := termUseRow.holds Try.pinned (OpenSpec.ofChange termUseWrong)

/-- 'codemasonkeep.TermFold': WHATEVER THE INPUT: true; the input reads as it did. -/
def termFoldSpec : ChangeSpec := { name := "termFold", fn := fun _ => fun
  | [d1, d2] => { results := [.lit (.bool true)], args := [d1, d2] }
  | _ => none }
def termFoldRow : OpenClaim := { program := "ytiloaiiboneamaa", sum := "9a813267b241edf214fa53f0c1cff98a2eccbdd5dc6ab2f32253db92ad5952d7", func := "codemason/codemasonkeep.TermFold", spec := "termFold", unfollowed := true, recurses := true, apart := false }
def TermFoldSaid : Prop := termFoldRow.holds Try.pinned (OpenSpec.ofChange termFoldSpec)

/-- ITS FALSE NEIGHBOUR: 'it returns false'. Refute it at one input. -/
def termFoldWrong : ChangeSpec := { name := "termFold", fn := fun _ => fun
  | [d1, d2] => { results := [.lit (.bool false)], args := [d1, d2] }
  | _ => none }
def TermFoldWrongFalsely : Prop := termFoldRow.holds Try.pinned (OpenSpec.ofChange termFoldWrong)

/- THE SECOND FORM. 'bulk': how many values and letters a reading holds, each counted each time it is reached (what is shared counts as often as it is met; a slice's spare places count too). A statement '..UptoSaid' is the law's where the arguments, and the package variables that the reading takes, are together of bulk at most 1048576: NARROWER than '..Said'. Prove '..Said' where nothing that the law and all that it calls make is longer than what came in: it says more and counts as full. Else prove '..UptoSaid'. A law counts once. -/
mutual
def uptoBulk {H : Type} : DataW H → Nat
  | .lit (.string bytes) => bytes.length + 1
  | .lit _ => 1
  | .nil => 1
  | .ptr d => uptoBulk d + 1
  | .slice elems spare => uptoBulkAll elems + uptoBulkAll spare + 1
  | .agg parts => uptoBulkAll parts + 1
  | .iface _ d => uptoBulk d + 1
  | .map entries => uptoBulkEntries entries + 1
  | .held _ => 1
def uptoBulkAll {H : Type} : List (DataW H) → Nat
  | [] => 0
  | d :: r => uptoBulk d + uptoBulkAll r
def uptoBulkEntries {H : Type} : List (Lit × DataW H) → Nat
  | [] => 0
  | x :: r => uptoBulkEntry x + uptoBulkEntries r
def uptoBulkEntry {H : Type} : Lit × DataW H → Nat
  | (.string bytes, d) => bytes.length + uptoBulk d + 1
  | (_, d) => uptoBulk d + 1
 end
def uptoSmall : (H : Type) → List (DataW H) → Bool := fun _ ds => decide (uptoBulkAll ds ≤ 1048576)
def OpenSpec.upto (s : _root_.Go.ChangeSpec) : _root_.Go.OpenSpec := { _root_.Go.OpenSpec.ofChange s with cond := some uptoSmall }

/-- 'codemasonlaw.TermChecks', WHERE WHAT IT READS IS OF BULK AT MOST 1048576: true; the input reads as it did. -/
def termChecksUptoRow : OpenClaim := { program := "ytiloaiiboneamaa", sum := "9a813267b241edf214fa53f0c1cff98a2eccbdd5dc6ab2f32253db92ad5952d7", func := "codemason/codemasonlaw.TermChecks", spec := "termChecks", unfollowed := true, recurses := true, apart := false, narrowed := true }
def TermChecksUptoSaid : Prop := termChecksUptoRow.holds Try.pinned (OpenSpec.upto termChecksSpec)

/-- 'codemasonlaw.TermValues', WHERE WHAT IT READS IS OF BULK AT MOST 1048576: true; the input reads as it did. -/
def termValuesUptoRow : OpenClaim := { program := "ytiloaiiboneamaa", sum := "9a813267b241edf214fa53f0c1cff98a2eccbdd5dc6ab2f32253db92ad5952d7", func := "codemason/codemasonlaw.TermValues", spec := "termValues", unfollowed := true, recurses := true, apart := false, narrowed := true }
def TermValuesUptoSaid : Prop := termValuesUptoRow.holds Try.pinned (OpenSpec.upto termValuesSpec)

/-- 'codemasonlaw.TermUses', WHERE WHAT IT READS IS OF BULK AT MOST 1048576: true; the input reads as it did. -/
def termUsesUptoRow : OpenClaim := { program := "ytiloaiiboneamaa", sum := "9a813267b241edf214fa53f0c1cff98a2eccbdd5dc6ab2f32253db92ad5952d7", func := "codemason/codemasonlaw.TermUses", spec := "termUses", unfollowed := true, recurses := true, apart := false, narrowed := true }
def TermUsesUptoSaid : Prop := termUsesUptoRow.holds Try.pinned (OpenSpec.upto termUsesSpec)

/-- 'codemasonlaw.TermFolds', WHERE WHAT IT READS IS OF BULK AT MOST 1048576: true; the input reads as it did. -/
def termFoldsUptoRow : OpenClaim := { program := "ytiloaiiboneamaa", sum := "9a813267b241edf214fa53f0c1cff98a2eccbdd5dc6ab2f32253db92ad5952d7", func := "codemason/codemasonlaw.TermFolds", spec := "termFolds", unfollowed := true, recurses := true, apart := false, narrowed := true }
def TermFoldsUptoSaid : Prop := termFoldsUptoRow.holds Try.pinned (OpenSpec.upto termFoldsSpec)

/-- 'codemasonkeep.TermUse', WHERE WHAT IT READS IS OF BULK AT MOST 1048576: true; the input reads as it did. -/
def termUseUptoRow : OpenClaim := { program := "ytiloaiiboneamaa", sum := "9a813267b241edf214fa53f0c1cff98a2eccbdd5dc6ab2f32253db92ad5952d7", func := "codemason/codemasonkeep.TermUse", spec := "termUse", unfollowed := true, recurses := true, apart := false, narrowed := true }
def TermUseUptoSaid : Prop := termUseUptoRow.holds Try.pinned (OpenSpec.upto termUseSpec)

/-- 'codemasonkeep.TermFold', WHERE WHAT IT READS IS OF BULK AT MOST 1048576: true; the input reads as it did. -/
def termFoldUptoRow : OpenClaim := { program := "ytiloaiiboneamaa", sum := "9a813267b241edf214fa53f0c1cff98a2eccbdd5dc6ab2f32253db92ad5952d7", func := "codemason/codemasonkeep.TermFold", spec := "termFold", unfollowed := true, recurses := true, apart := false, narrowed := true }
def TermFoldUptoSaid : Prop := termFoldUptoRow.holds Try.pinned (OpenSpec.upto termFoldSpec)

end Rows
end Go.Proofs.Ytiloaiiboneamaa
