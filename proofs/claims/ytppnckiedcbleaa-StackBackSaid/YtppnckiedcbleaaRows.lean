/-
  No cell of these rows narrows 'for every input' (looked for: loops, veiled, ifaces, maps, wideKeys, modest, calm, conditions, laid).
  DERIVED. THE GIVEN ROWS OF THIS SEAT. 20 by the template 'for every input the law returns true; each argument reads behind the call as it read before'; 0 by the template 'total and deterministic' (their statements: YtppnckiedcbleaaTotals.lean).
  GIVEN WITH THE SEED: the statements are not yours to turn. If you find one false, say at which input.
  Laid BY PROGRAM, IN A SANDBOX (cutbox-rows.mjs): the forced cells as the released guide's own fill.sh prints them over the translation 67796cf0f8a4aa19… (all of the seat's roots in one cut). By AI agents, Wed Nov 11 2026. No macro, syntax, notation, axiom, sorry.
-/
import Derived.Test.YtppnckiedcbleaaChecked
import GoSem.Claim
import GoSem.ClaimJoined
import GoSem.ClaimMapViews
import Derived.JoinedTies
import Derived.KernelRfl
namespace Go.Proofs.Ytppnckiedcbleaa
/- THE CELL 'sum', in the pinned program and in every row, IS THE sha256 OF THE DUMP (.gsa) THAT YtppnckiedcbleaaProg.lean LOADS. Nothing in Lean hashes anything: it is a label: what it is worth is what the hold of that sum in a sandbox is worth. -/
noncomputable def Try.pinned : Pinned := { name := "ytppnckiedcbleaa", sum := "67796cf0f8a4aa193599aaaed7b19abf0a985a52fdfbd1b9e6aaac673fe63b93", checked := Try.checked }
namespace Rows
def none {H : Type} : Left H := { results := [], args := [] }

/-- 'codemasonlaw.TermChecks': WHATEVER THE INPUT: true; the input reads as it did. -/
def termChecksSpec : ChangeSpec := { name := "termChecks", fn := fun _ => fun
  | [d1, d2] => { results := [.lit (.bool true)], args := [d1, d2] }
  | _ => none }
def termChecksRow : OpenClaim := { program := "ytppnckiedcbleaa", sum := "67796cf0f8a4aa193599aaaed7b19abf0a985a52fdfbd1b9e6aaac673fe63b93", func := "codemason/codemasonlaw.TermChecks", spec := "termChecks", unfollowed := true, recurses := true, apart := false }
def TermChecksSaid : Prop := termChecksRow.holds Try.pinned (OpenSpec.ofChange termChecksSpec)

/-- ITS FALSE NEIGHBOUR: 'it returns false'. Refute it at one input. -/
def termChecksWrong : ChangeSpec := { name := "termChecks", fn := fun _ => fun
  | [d1, d2] => { results := [.lit (.bool false)], args := [d1, d2] }
  | _ => none }
def TermChecksWrongFalsely : Prop := termChecksRow.holds Try.pinned (OpenSpec.ofChange termChecksWrong)

/-- 'codemasonlaw.TermValues': WHATEVER THE INPUT: true; the input reads as it did. -/
def termValuesSpec : ChangeSpec := { name := "termValues", fn := fun _ => fun
  | [d1, d2, d3] => { results := [.lit (.bool true)], args := [d1, d2, d3] }
  | _ => none }
def termValuesRow : OpenClaim := { program := "ytppnckiedcbleaa", sum := "67796cf0f8a4aa193599aaaed7b19abf0a985a52fdfbd1b9e6aaac673fe63b93", func := "codemason/codemasonlaw.TermValues", spec := "termValues", unfollowed := true, recurses := true, apart := false }
def TermValuesSaid : Prop := termValuesRow.holds Try.pinned (OpenSpec.ofChange termValuesSpec)

/-- ITS FALSE NEIGHBOUR: 'it returns false'. Refute it at one input. -/
def termValuesWrong : ChangeSpec := { name := "termValues", fn := fun _ => fun
  | [d1, d2, d3] => { results := [.lit (.bool false)], args := [d1, d2, d3] }
  | _ => none }
def TermValuesWrongFalsely : Prop := termValuesRow.holds Try.pinned (OpenSpec.ofChange termValuesWrong)

/-- 'codemasonlaw.TermUses': WHATEVER THE INPUT: true; the input reads as it did. -/
def termUsesSpec : ChangeSpec := { name := "termUses", fn := fun _ => fun
  | [d1, d2] => { results := [.lit (.bool true)], args := [d1, d2] }
  | _ => none }
def termUsesRow : OpenClaim := { program := "ytppnckiedcbleaa", sum := "67796cf0f8a4aa193599aaaed7b19abf0a985a52fdfbd1b9e6aaac673fe63b93", func := "codemason/codemasonlaw.TermUses", spec := "termUses", unfollowed := true, recurses := true, apart := false }
def TermUsesSaid : Prop := termUsesRow.holds Try.pinned (OpenSpec.ofChange termUsesSpec)

/-- ITS FALSE NEIGHBOUR: 'it returns false'. Refute it at one input. -/
def termUsesWrong : ChangeSpec := { name := "termUses", fn := fun _ => fun
  | [d1, d2] => { results := [.lit (.bool false)], args := [d1, d2] }
  | _ => none }
def TermUsesWrongFalsely : Prop := termUsesRow.holds Try.pinned (OpenSpec.ofChange termUsesWrong)

/-- 'codemasonlaw.TermFolds': WHATEVER THE INPUT: true; the input reads as it did. -/
def termFoldsSpec : ChangeSpec := { name := "termFolds", fn := fun _ => fun
  | [d1, d2, d3] => { results := [.lit (.bool true)], args := [d1, d2, d3] }
  | _ => none }
def termFoldsRow : OpenClaim := { program := "ytppnckiedcbleaa", sum := "67796cf0f8a4aa193599aaaed7b19abf0a985a52fdfbd1b9e6aaac673fe63b93", func := "codemason/codemasonlaw.TermFolds", spec := "termFolds", unfollowed := true, recurses := true, apart := false }
def TermFoldsSaid : Prop := termFoldsRow.holds Try.pinned (OpenSpec.ofChange termFoldsSpec)

/-- ITS FALSE NEIGHBOUR: 'it returns false'. Refute it at one input. -/
def termFoldsWrong : ChangeSpec := { name := "termFolds", fn := fun _ => fun
  | [d1, d2, d3] => { results := [.lit (.bool false)], args := [d1, d2, d3] }
  | _ => none }
def TermFoldsWrongFalsely : Prop := termFoldsRow.holds Try.pinned (OpenSpec.ofChange termFoldsWrong)

/-- 'codemasonkeep.TermUse': WHATEVER THE INPUT: true; the input reads as it did. -/
def termUseSpec : ChangeSpec := { name := "termUse", fn := fun _ => fun
  | [d1, d2, d3, d4] => { results := [.lit (.bool true)], args := [d1, d2, d3, d4] }
  | _ => none }
def termUseRow : OpenClaim := { program := "ytppnckiedcbleaa", sum := "67796cf0f8a4aa193599aaaed7b19abf0a985a52fdfbd1b9e6aaac673fe63b93", func := "codemason/codemasonkeep.TermUse", spec := "termUse", unfollowed := true, recurses := true, apart := false }
def TermUseSaid : Prop := termUseRow.holds Try.pinned (OpenSpec.ofChange termUseSpec)

/-- ITS FALSE NEIGHBOUR: 'it returns false'. Refute it at one input. -/
def termUseWrong : ChangeSpec := { name := "termUse", fn := fun _ => fun
  | [d1, d2, d3, d4] => { results := [.lit (.bool false)], args := [d1, d2, d3, d4] }
  | _ => none }
def TermUseWrongFalsely : Prop := termUseRow.holds Try.pinned (OpenSpec.ofChange termUseWrong)

/-- 'codemasonkeep.TermFold': WHATEVER THE INPUT: true; the input reads as it did. -/
def termFoldSpec : ChangeSpec := { name := "termFold", fn := fun _ => fun
  | [d1, d2] => { results := [.lit (.bool true)], args := [d1, d2] }
  | _ => none }
def termFoldRow : OpenClaim := { program := "ytppnckiedcbleaa", sum := "67796cf0f8a4aa193599aaaed7b19abf0a985a52fdfbd1b9e6aaac673fe63b93", func := "codemason/codemasonkeep.TermFold", spec := "termFold", unfollowed := true, recurses := true, apart := false }
def TermFoldSaid : Prop := termFoldRow.holds Try.pinned (OpenSpec.ofChange termFoldSpec)

/-- ITS FALSE NEIGHBOUR: 'it returns false'. Refute it at one input. -/
def termFoldWrong : ChangeSpec := { name := "termFold", fn := fun _ => fun
  | [d1, d2] => { results := [.lit (.bool false)], args := [d1, d2] }
  | _ => none }
def TermFoldWrongFalsely : Prop := termFoldRow.holds Try.pinned (OpenSpec.ofChange termFoldWrong)

/-- 'codemasonkeep.TermTwo': WHATEVER THE INPUT: true; the input reads as it did. -/
def termTwoSpec : ChangeSpec := { name := "termTwo", fn := fun _ => fun
  | [d1, d2, d3, d4, d5] => { results := [.lit (.bool true)], args := [d1, d2, d3, d4, d5] }
  | _ => none }
def termTwoRow : OpenClaim := { program := "ytppnckiedcbleaa", sum := "67796cf0f8a4aa193599aaaed7b19abf0a985a52fdfbd1b9e6aaac673fe63b93", func := "codemason/codemasonkeep.TermTwo", spec := "termTwo", unfollowed := true, recurses := true, apart := false }
def TermTwoSaid : Prop := termTwoRow.holds Try.pinned (OpenSpec.ofChange termTwoSpec)

/-- ITS FALSE NEIGHBOUR: 'it returns false'. Refute it at one input. -/
def termTwoWrong : ChangeSpec := { name := "termTwo", fn := fun _ => fun
  | [d1, d2, d3, d4, d5] => { results := [.lit (.bool false)], args := [d1, d2, d3, d4, d5] }
  | _ => none }
def TermTwoWrongFalsely : Prop := termTwoRow.holds Try.pinned (OpenSpec.ofChange termTwoWrong)

/-- 'codemasonlaw.NeedTells': WHATEVER THE INPUT: true; the input reads as it did. -/
def needTellsSpec : ChangeSpec := { name := "needTells", fn := fun _ => fun
  | [d1, d2] => { results := [.lit (.bool true)], args := [d1, d2] }
  | _ => none }
def needTellsRow : OpenClaim := { program := "ytppnckiedcbleaa", sum := "67796cf0f8a4aa193599aaaed7b19abf0a985a52fdfbd1b9e6aaac673fe63b93", func := "codemason/codemasonlaw.NeedTells", spec := "needTells", unfollowed := true, recurses := true, apart := false }
def NeedTellsSaid : Prop := needTellsRow.holds Try.pinned (OpenSpec.ofChange needTellsSpec)

/-- ITS FALSE NEIGHBOUR: 'it returns false'. Refute it at one input. -/
def needTellsWrong : ChangeSpec := { name := "needTells", fn := fun _ => fun
  | [d1, d2] => { results := [.lit (.bool false)], args := [d1, d2] }
  | _ => none }
def NeedTellsWrongFalsely : Prop := needTellsRow.holds Try.pinned (OpenSpec.ofChange needTellsWrong)

/-- 'codemasonlaw.NeedCodes': WHATEVER THE INPUT: true; the input reads as it did. -/
def needCodesSpec : ChangeSpec := { name := "needCodes", fn := fun _ => fun
  | [d1, d2, d3, d4] => { results := [.lit (.bool true)], args := [d1, d2, d3, d4] }
  | _ => none }
def needCodesRow : OpenClaim := { program := "ytppnckiedcbleaa", sum := "67796cf0f8a4aa193599aaaed7b19abf0a985a52fdfbd1b9e6aaac673fe63b93", func := "codemason/codemasonlaw.NeedCodes", spec := "needCodes", unfollowed := true, recurses := true, apart := false }
def NeedCodesSaid : Prop := needCodesRow.holds Try.pinned (OpenSpec.ofChange needCodesSpec)

/-- ITS FALSE NEIGHBOUR: 'it returns false'. Refute it at one input. -/
def needCodesWrong : ChangeSpec := { name := "needCodes", fn := fun _ => fun
  | [d1, d2, d3, d4] => { results := [.lit (.bool false)], args := [d1, d2, d3, d4] }
  | _ => none }
def NeedCodesWrongFalsely : Prop := needCodesRow.holds Try.pinned (OpenSpec.ofChange needCodesWrong)

/-- 'codemasonlaw.NeedRuns': WHATEVER THE INPUT: true; the input reads as it did. -/
def needRunsSpec : ChangeSpec := { name := "needRuns", fn := fun _ => fun
  | [d1, d2, d3, d4] => { results := [.lit (.bool true)], args := [d1, d2, d3, d4] }
  | _ => none }
def needRunsRow : OpenClaim := { program := "ytppnckiedcbleaa", sum := "67796cf0f8a4aa193599aaaed7b19abf0a985a52fdfbd1b9e6aaac673fe63b93", func := "codemason/codemasonlaw.NeedRuns", spec := "needRuns", unfollowed := true, recurses := true, apart := false }
def NeedRunsSaid : Prop := needRunsRow.holds Try.pinned (OpenSpec.ofChange needRunsSpec)

/-- ITS FALSE NEIGHBOUR: 'it returns false'. Refute it at one input. -/
def needRunsWrong : ChangeSpec := { name := "needRuns", fn := fun _ => fun
  | [d1, d2, d3, d4] => { results := [.lit (.bool false)], args := [d1, d2, d3, d4] }
  | _ => none }
def NeedRunsWrongFalsely : Prop := needRunsRow.holds Try.pinned (OpenSpec.ofChange needRunsWrong)

/-- 'codemasonkeep.NeedErshov': WHATEVER THE INPUT: true; the input reads as it did. -/
def needErshovSpec : ChangeSpec := { name := "needErshov", fn := fun _ => fun
  | [d1, d2] => { results := [.lit (.bool true)], args := [d1, d2] }
  | _ => none }
def needErshovRow : OpenClaim := { program := "ytppnckiedcbleaa", sum := "67796cf0f8a4aa193599aaaed7b19abf0a985a52fdfbd1b9e6aaac673fe63b93", func := "codemason/codemasonkeep.NeedErshov", spec := "needErshov", unfollowed := true, recurses := true, apart := false }
def NeedErshovSaid : Prop := needErshovRow.holds Try.pinned (OpenSpec.ofChange needErshovSpec)

/-- ITS FALSE NEIGHBOUR: 'it returns false'. Refute it at one input. -/
def needErshovWrong : ChangeSpec := { name := "needErshov", fn := fun _ => fun
  | [d1, d2] => { results := [.lit (.bool false)], args := [d1, d2] }
  | _ => none }
def NeedErshovWrongFalsely : Prop := needErshovRow.holds Try.pinned (OpenSpec.ofChange needErshovWrong)

/-- 'codemasonkeep.NeedJust': WHATEVER THE INPUT: true; the input reads as it did. -/
def needJustSpec : ChangeSpec := { name := "needJust", fn := fun _ => fun
  | [d1, d2] => { results := [.lit (.bool true)], args := [d1, d2] }
  | _ => none }
def needJustRow : OpenClaim := { program := "ytppnckiedcbleaa", sum := "67796cf0f8a4aa193599aaaed7b19abf0a985a52fdfbd1b9e6aaac673fe63b93", func := "codemason/codemasonkeep.NeedJust", spec := "needJust", unfollowed := true, recurses := true, apart := false }
def NeedJustSaid : Prop := needJustRow.holds Try.pinned (OpenSpec.ofChange needJustSpec)

/-- ITS FALSE NEIGHBOUR: 'it returns false'. Refute it at one input. -/
def needJustWrong : ChangeSpec := { name := "needJust", fn := fun _ => fun
  | [d1, d2] => { results := [.lit (.bool false)], args := [d1, d2] }
  | _ => none }
def NeedJustWrongFalsely : Prop := needJustRow.holds Try.pinned (OpenSpec.ofChange needJustWrong)

/-- 'codemasonkeep.NeedSame': WHATEVER THE INPUT: true; the input reads as it did. -/
def needSameSpec : ChangeSpec := { name := "needSame", fn := fun _ => fun
  | [d1, d2, d3] => { results := [.lit (.bool true)], args := [d1, d2, d3] }
  | _ => none }
def needSameRow : OpenClaim := { program := "ytppnckiedcbleaa", sum := "67796cf0f8a4aa193599aaaed7b19abf0a985a52fdfbd1b9e6aaac673fe63b93", func := "codemason/codemasonkeep.NeedSame", spec := "needSame", unfollowed := true, recurses := true, apart := false }
def NeedSameSaid : Prop := needSameRow.holds Try.pinned (OpenSpec.ofChange needSameSpec)

/-- ITS FALSE NEIGHBOUR: 'it returns false'. Refute it at one input. -/
def needSameWrong : ChangeSpec := { name := "needSame", fn := fun _ => fun
  | [d1, d2, d3] => { results := [.lit (.bool false)], args := [d1, d2, d3] }
  | _ => none }
def NeedSameWrongFalsely : Prop := needSameRow.holds Try.pinned (OpenSpec.ofChange needSameWrong)

/-- 'codemasonlaw.StackCodes': WHATEVER THE INPUT: true; the input reads as it did. -/
def stackCodesSpec : ChangeSpec := { name := "stackCodes", fn := fun _ => fun
  | [d1, d2] => { results := [.lit (.bool true)], args := [d1, d2] }
  | _ => none }
def stackCodesRow : OpenClaim := { program := "ytppnckiedcbleaa", sum := "67796cf0f8a4aa193599aaaed7b19abf0a985a52fdfbd1b9e6aaac673fe63b93", func := "codemason/codemasonlaw.StackCodes", spec := "stackCodes", unfollowed := true, recurses := true, apart := false }
def StackCodesSaid : Prop := stackCodesRow.holds Try.pinned (OpenSpec.ofChange stackCodesSpec)

/-- ITS FALSE NEIGHBOUR: 'it returns false'. Refute it at one input. -/
def stackCodesWrong : ChangeSpec := { name := "stackCodes", fn := fun _ => fun
  | [d1, d2] => { results := [.lit (.bool false)], args := [d1, d2] }
  | _ => none }
def StackCodesWrongFalsely : Prop := stackCodesRow.holds Try.pinned (OpenSpec.ofChange stackCodesWrong)

/-- 'codemasonlaw.StackRuns': WHATEVER THE INPUT: true; the input reads as it did. -/
def stackRunsSpec : ChangeSpec := { name := "stackRuns", fn := fun _ => fun
  | [d1, d2, d3] => { results := [.lit (.bool true)], args := [d1, d2, d3] }
  | _ => none }
def stackRunsRow : OpenClaim := { program := "ytppnckiedcbleaa", sum := "67796cf0f8a4aa193599aaaed7b19abf0a985a52fdfbd1b9e6aaac673fe63b93", func := "codemason/codemasonlaw.StackRuns", spec := "stackRuns", unfollowed := true, recurses := true, apart := false }
def StackRunsSaid : Prop := stackRunsRow.holds Try.pinned (OpenSpec.ofChange stackRunsSpec)

/-- ITS FALSE NEIGHBOUR: 'it returns false'. Refute it at one input. -/
def stackRunsWrong : ChangeSpec := { name := "stackRuns", fn := fun _ => fun
  | [d1, d2, d3] => { results := [.lit (.bool false)], args := [d1, d2, d3] }
  | _ => none }
def StackRunsWrongFalsely : Prop := stackRunsRow.holds Try.pinned (OpenSpec.ofChange stackRunsWrong)

/-- 'codemasonlaw.StackDeeps': WHATEVER THE INPUT: true; the input reads as it did. -/
def stackDeepsSpec : ChangeSpec := { name := "stackDeeps", fn := fun _ => fun
  | [d] => { results := [.lit (.bool true)], args := [d] }
  | _ => none }
def stackDeepsRow : OpenClaim := { program := "ytppnckiedcbleaa", sum := "67796cf0f8a4aa193599aaaed7b19abf0a985a52fdfbd1b9e6aaac673fe63b93", func := "codemason/codemasonlaw.StackDeeps", spec := "stackDeeps", unfollowed := true, recurses := true, apart := false }
def StackDeepsSaid : Prop := stackDeepsRow.holds Try.pinned (OpenSpec.ofChange stackDeepsSpec)

/-- ITS FALSE NEIGHBOUR: 'it returns false'. Refute it at one input. -/
def stackDeepsWrong : ChangeSpec := { name := "stackDeeps", fn := fun _ => fun
  | [d] => { results := [.lit (.bool false)], args := [d] }
  | _ => none }
def StackDeepsWrongFalsely : Prop := stackDeepsRow.holds Try.pinned (OpenSpec.ofChange stackDeepsWrong)

/-- 'codemasonlaw.StackBacks': WHATEVER THE INPUT: true; the input reads as it did. -/
def stackBacksSpec : ChangeSpec := { name := "stackBacks", fn := fun _ => fun
  | [d1, d2] => { results := [.lit (.bool true)], args := [d1, d2] }
  | _ => none }
def stackBacksRow : OpenClaim := { program := "ytppnckiedcbleaa", sum := "67796cf0f8a4aa193599aaaed7b19abf0a985a52fdfbd1b9e6aaac673fe63b93", func := "codemason/codemasonlaw.StackBacks", spec := "stackBacks", unfollowed := true, recurses := true, apart := false }
def StackBacksSaid : Prop := stackBacksRow.holds Try.pinned (OpenSpec.ofChange stackBacksSpec)

/-- ITS FALSE NEIGHBOUR: 'it returns false'. Refute it at one input. -/
def stackBacksWrong : ChangeSpec := { name := "stackBacks", fn := fun _ => fun
  | [d1, d2] => { results := [.lit (.bool false)], args := [d1, d2] }
  | _ => none }
def StackBacksWrongFalsely : Prop := stackBacksRow.holds Try.pinned (OpenSpec.ofChange stackBacksWrong)

/-- 'codemasonkeep.StackSame': WHATEVER THE INPUT: true; the input reads as it did. -/
def stackSameSpec : ChangeSpec := { name := "stackSame", fn := fun _ => fun
  | [d1, d2, d3] => { results := [.lit (.bool true)], args := [d1, d2, d3] }
  | _ => none }
def stackSameRow : OpenClaim := { program := "ytppnckiedcbleaa", sum := "67796cf0f8a4aa193599aaaed7b19abf0a985a52fdfbd1b9e6aaac673fe63b93", func := "codemason/codemasonkeep.StackSame", spec := "stackSame", unfollowed := true, recurses := true, apart := false }
def StackSameSaid : Prop := stackSameRow.holds Try.pinned (OpenSpec.ofChange stackSameSpec)

/-- ITS FALSE NEIGHBOUR: 'it returns false'. Refute it at one input. -/
def stackSameWrong : ChangeSpec := { name := "stackSame", fn := fun _ => fun
  | [d1, d2, d3] => { results := [.lit (.bool false)], args := [d1, d2, d3] }
  | _ => none }
def StackSameWrongFalsely : Prop := stackSameRow.holds Try.pinned (OpenSpec.ofChange stackSameWrong)

/-- 'codemasonkeep.StackBack': WHATEVER THE INPUT: true; the input reads as it did. -/
def stackBackSpec : ChangeSpec := { name := "stackBack", fn := fun _ => fun
  | [d1, d2] => { results := [.lit (.bool true)], args := [d1, d2] }
  | _ => none }
def stackBackRow : OpenClaim := { program := "ytppnckiedcbleaa", sum := "67796cf0f8a4aa193599aaaed7b19abf0a985a52fdfbd1b9e6aaac673fe63b93", func := "codemason/codemasonkeep.StackBack", spec := "stackBack", unfollowed := true, recurses := true, apart := false }
def StackBackSaid : Prop := stackBackRow.holds Try.pinned (OpenSpec.ofChange stackBackSpec)

/-- ITS FALSE NEIGHBOUR: 'it returns false'. Refute it at one input. -/
def stackBackWrong : ChangeSpec := { name := "stackBack", fn := fun _ => fun
  | [d1, d2] => { results := [.lit (.bool false)], args := [d1, d2] }
  | _ => none }
def StackBackWrongFalsely : Prop := stackBackRow.holds Try.pinned (OpenSpec.ofChange stackBackWrong)

/-- 'codemasonkeep.StackNeed': WHATEVER THE INPUT: true; the input reads as it did. -/
def stackNeedSpec : ChangeSpec := { name := "stackNeed", fn := fun _ => fun
  | [d1, d2] => { results := [.lit (.bool true)], args := [d1, d2] }
  | _ => none }
def stackNeedRow : OpenClaim := { program := "ytppnckiedcbleaa", sum := "67796cf0f8a4aa193599aaaed7b19abf0a985a52fdfbd1b9e6aaac673fe63b93", func := "codemason/codemasonkeep.StackNeed", spec := "stackNeed", unfollowed := true, recurses := true, apart := false }
def StackNeedSaid : Prop := stackNeedRow.holds Try.pinned (OpenSpec.ofChange stackNeedSpec)

/-- ITS FALSE NEIGHBOUR: 'it returns false'. Refute it at one input. -/
def stackNeedWrong : ChangeSpec := { name := "stackNeed", fn := fun _ => fun
  | [d1, d2] => { results := [.lit (.bool false)], args := [d1, d2] }
  | _ => none }
def StackNeedWrongFalsely : Prop := stackNeedRow.holds Try.pinned (OpenSpec.ofChange stackNeedWrong)

/- THE SECOND FORM. 'bulk': how many values and letters a reading holds, each counted each time it is reached (what is shared counts as often as it is met; a slice's spare places count too). A statement '..UptoSaid' is the law's where the arguments, and the package variables that the reading takes, are together of bulk at most 1048576: NARROWER than '..Said'. Prove '..Said' where nothing that the law and all that it calls make is longer than what came in: it says more and counts as full. Else prove '..UptoSaid'. A law counts once. -/
mutual
def uptoBulk {H : Type} : DataW H → Nat
  | .lit (.string bytes) => bytes.length + 1
  | .lit _ => 1
  | .nil => 1
  | .ptr d => uptoBulk d + 1
  | .slice elems spare => uptoBulkAll elems + uptoBulkAll spare + 1
  | .agg parts => uptoBulkAll parts + 1
  | .iface _ d => uptoBulk d + 1
  | .map entries => uptoBulkEntries entries + 1
  | .held _ => 1
def uptoBulkAll {H : Type} : List (DataW H) → Nat
  | [] => 0
  | d :: r => uptoBulk d + uptoBulkAll r
def uptoBulkEntries {H : Type} : List (Lit × DataW H) → Nat
  | [] => 0
  | x :: r => uptoBulkEntry x + uptoBulkEntries r
def uptoBulkEntry {H : Type} : Lit × DataW H → Nat
  | (.string bytes, d) => bytes.length + uptoBulk d + 1
  | (_, d) => uptoBulk d + 1
 end
def uptoSmall : (H : Type) → List (DataW H) → Bool := fun _ ds => decide (uptoBulkAll ds ≤ 1048576)
def OpenSpec.upto (s : _root_.Go.ChangeSpec) : _root_.Go.OpenSpec := { _root_.Go.OpenSpec.ofChange s with cond := some uptoSmall }

/-- 'codemasonlaw.TermChecks', WHERE WHAT IT READS IS OF BULK AT MOST 1048576: true; the input reads as it did. -/
def termChecksUptoRow : OpenClaim := { program := "ytppnckiedcbleaa", sum := "67796cf0f8a4aa193599aaaed7b19abf0a985a52fdfbd1b9e6aaac673fe63b93", func := "codemason/codemasonlaw.TermChecks", spec := "termChecks", unfollowed := true, recurses := true, apart := false, narrowed := true }
def TermChecksUptoSaid : Prop := termChecksUptoRow.holds Try.pinned (OpenSpec.upto termChecksSpec)

/-- 'codemasonlaw.TermValues', WHERE WHAT IT READS IS OF BULK AT MOST 1048576: true; the input reads as it did. -/
def termValuesUptoRow : OpenClaim := { program := "ytppnckiedcbleaa", sum := "67796cf0f8a4aa193599aaaed7b19abf0a985a52fdfbd1b9e6aaac673fe63b93", func := "codemason/codemasonlaw.TermValues", spec := "termValues", unfollowed := true, recurses := true, apart := false, narrowed := true }
def TermValuesUptoSaid : Prop := termValuesUptoRow.holds Try.pinned (OpenSpec.upto termValuesSpec)

/-- 'codemasonlaw.TermUses', WHERE WHAT IT READS IS OF BULK AT MOST 1048576: true; the input reads as it did. -/
def termUsesUptoRow : OpenClaim := { program := "ytppnckiedcbleaa", sum := "67796cf0f8a4aa193599aaaed7b19abf0a985a52fdfbd1b9e6aaac673fe63b93", func := "codemason/codemasonlaw.TermUses", spec := "termUses", unfollowed := true, recurses := true, apart := false, narrowed := true }
def TermUsesUptoSaid : Prop := termUsesUptoRow.holds Try.pinned (OpenSpec.upto termUsesSpec)

/-- 'codemasonlaw.TermFolds', WHERE WHAT IT READS IS OF BULK AT MOST 1048576: true; the input reads as it did. -/
def termFoldsUptoRow : OpenClaim := { program := "ytppnckiedcbleaa", sum := "67796cf0f8a4aa193599aaaed7b19abf0a985a52fdfbd1b9e6aaac673fe63b93", func := "codemason/codemasonlaw.TermFolds", spec := "termFolds", unfollowed := true, recurses := true, apart := false, narrowed := true }
def TermFoldsUptoSaid : Prop := termFoldsUptoRow.holds Try.pinned (OpenSpec.upto termFoldsSpec)

/-- 'codemasonkeep.TermUse', WHERE WHAT IT READS IS OF BULK AT MOST 1048576: true; the input reads as it did. -/
def termUseUptoRow : OpenClaim := { program := "ytppnckiedcbleaa", sum := "67796cf0f8a4aa193599aaaed7b19abf0a985a52fdfbd1b9e6aaac673fe63b93", func := "codemason/codemasonkeep.TermUse", spec := "termUse", unfollowed := true, recurses := true, apart := false, narrowed := true }
def TermUseUptoSaid : Prop := termUseUptoRow.holds Try.pinned (OpenSpec.upto termUseSpec)

/-- 'codemasonkeep.TermFold', WHERE WHAT IT READS IS OF BULK AT MOST 1048576: true; the input reads as it did. -/
def termFoldUptoRow : OpenClaim := { program := "ytppnckiedcbleaa", sum := "67796cf0f8a4aa193599aaaed7b19abf0a985a52fdfbd1b9e6aaac673fe63b93", func := "codemason/codemasonkeep.TermFold", spec := "termFold", unfollowed := true, recurses := true, apart := false, narrowed := true }
def TermFoldUptoSaid : Prop := termFoldUptoRow.holds Try.pinned (OpenSpec.upto termFoldSpec)

/-- 'codemasonkeep.TermTwo', WHERE WHAT IT READS IS OF BULK AT MOST 1048576: true; the input reads as it did. -/
def termTwoUptoRow : OpenClaim := { program := "ytppnckiedcbleaa", sum := "67796cf0f8a4aa193599aaaed7b19abf0a985a52fdfbd1b9e6aaac673fe63b93", func := "codemason/codemasonkeep.TermTwo", spec := "termTwo", unfollowed := true, recurses := true, apart := false, narrowed := true }
def TermTwoUptoSaid : Prop := termTwoUptoRow.holds Try.pinned (OpenSpec.upto termTwoSpec)

/-- 'codemasonlaw.NeedTells', WHERE WHAT IT READS IS OF BULK AT MOST 1048576: true; the input reads as it did. -/
def needTellsUptoRow : OpenClaim := { program := "ytppnckiedcbleaa", sum := "67796cf0f8a4aa193599aaaed7b19abf0a985a52fdfbd1b9e6aaac673fe63b93", func := "codemason/codemasonlaw.NeedTells", spec := "needTells", unfollowed := true, recurses := true, apart := false, narrowed := true }
def NeedTellsUptoSaid : Prop := needTellsUptoRow.holds Try.pinned (OpenSpec.upto needTellsSpec)

/-- 'codemasonlaw.NeedCodes', WHERE WHAT IT READS IS OF BULK AT MOST 1048576: true; the input reads as it did. -/
def needCodesUptoRow : OpenClaim := { program := "ytppnckiedcbleaa", sum := "67796cf0f8a4aa193599aaaed7b19abf0a985a52fdfbd1b9e6aaac673fe63b93", func := "codemason/codemasonlaw.NeedCodes", spec := "needCodes", unfollowed := true, recurses := true, apart := false, narrowed := true }
def NeedCodesUptoSaid : Prop := needCodesUptoRow.holds Try.pinned (OpenSpec.upto needCodesSpec)

/-- 'codemasonlaw.NeedRuns', WHERE WHAT IT READS IS OF BULK AT MOST 1048576: true; the input reads as it did. -/
def needRunsUptoRow : OpenClaim := { program := "ytppnckiedcbleaa", sum := "67796cf0f8a4aa193599aaaed7b19abf0a985a52fdfbd1b9e6aaac673fe63b93", func := "codemason/codemasonlaw.NeedRuns", spec := "needRuns", unfollowed := true, recurses := true, apart := false, narrowed := true }
def NeedRunsUptoSaid : Prop := needRunsUptoRow.holds Try.pinned (OpenSpec.upto needRunsSpec)

/-- 'codemasonkeep.NeedErshov', WHERE WHAT IT READS IS OF BULK AT MOST 1048576: true; the input reads as it did. -/
def needErshovUptoRow : OpenClaim := { program := "ytppnckiedcbleaa", sum := "67796cf0f8a4aa193599aaaed7b19abf0a985a52fdfbd1b9e6aaac673fe63b93", func := "codemason/codemasonkeep.NeedErshov", spec := "needErshov", unfollowed := true, recurses := true, apart := false, narrowed := true }
def NeedErshovUptoSaid : Prop := needErshovUptoRow.holds Try.pinned (OpenSpec.upto needErshovSpec)

/-- 'codemasonkeep.NeedJust', WHERE WHAT IT READS IS OF BULK AT MOST 1048576: true; the input reads as it did. -/
def needJustUptoRow : OpenClaim := { program := "ytppnckiedcbleaa", sum := "67796cf0f8a4aa193599aaaed7b19abf0a985a52fdfbd1b9e6aaac673fe63b93", func := "codemason/codemasonkeep.NeedJust", spec := "needJust", unfollowed := true, recurses := true, apart := false, narrowed := true }
def NeedJustUptoSaid : Prop := needJustUptoRow.holds Try.pinned (OpenSpec.upto needJustSpec)

/-- 'codemasonkeep.NeedSame', WHERE WHAT IT READS IS OF BULK AT MOST 1048576: true; the input reads as it did. -/
def needSameUptoRow : OpenClaim := { program := "ytppnckiedcbleaa", sum := "67796cf0f8a4aa193599aaaed7b19abf0a985a52fdfbd1b9e6aaac673fe63b93", func := "codemason/codemasonkeep.NeedSame", spec := "needSame", unfollowed := true, recurses := true, apart := false, narrowed := true }
def NeedSameUptoSaid : Prop := needSameUptoRow.holds Try.pinned (OpenSpec.upto needSameSpec)

/-- 'codemasonlaw.StackCodes', WHERE WHAT IT READS IS OF BULK AT MOST 1048576: true; the input reads as it did. -/
def stackCodesUptoRow : OpenClaim := { program := "ytppnckiedcbleaa", sum := "67796cf0f8a4aa193599aaaed7b19abf0a985a52fdfbd1b9e6aaac673fe63b93", func := "codemason/codemasonlaw.StackCodes", spec := "stackCodes", unfollowed := true, recurses := true, apart := false, narrowed := true }
def StackCodesUptoSaid : Prop := stackCodesUptoRow.holds Try.pinned (OpenSpec.upto stackCodesSpec)

/-- 'codemasonlaw.StackRuns', WHERE WHAT IT READS IS OF BULK AT MOST 1048576: true; the input reads as it did. -/
def stackRunsUptoRow : OpenClaim := { program := "ytppnckiedcbleaa", sum := "67796cf0f8a4aa193599aaaed7b19abf0a985a52fdfbd1b9e6aaac673fe63b93", func := "codemason/codemasonlaw.StackRuns", spec := "stackRuns", unfollowed := true, recurses := true, apart := false, narrowed := true }
def StackRunsUptoSaid : Prop := stackRunsUptoRow.holds Try.pinned (OpenSpec.upto stackRunsSpec)

/-- 'codemasonlaw.StackDeeps', WHERE WHAT IT READS IS OF BULK AT MOST 1048576: true; the input reads as it did. -/
def stackDeepsUptoRow : OpenClaim := { program := "ytppnckiedcbleaa", sum := "67796cf0f8a4aa193599aaaed7b19abf0a985a52fdfbd1b9e6aaac673fe63b93", func := "codemason/codemasonlaw.StackDeeps", spec := "stackDeeps", unfollowed := true, recurses := true, apart := false, narrowed := true }
def StackDeepsUptoSaid : Prop := stackDeepsUptoRow.holds Try.pinned (OpenSpec.upto stackDeepsSpec)

/-- 'codemasonlaw.StackBacks', WHERE WHAT IT READS IS OF BULK AT MOST 1048576: true; the input reads as it did. -/
def stackBacksUptoRow : OpenClaim := { program := "ytppnckiedcbleaa", sum := "67796cf0f8a4aa193599aaaed7b19abf0a985a52fdfbd1b9e6aaac673fe63b93", func := "codemason/codemasonlaw.StackBacks", spec := "stackBacks", unfollowed := true, recurses := true, apart := false, narrowed := true }
def StackBacksUptoSaid : Prop := stackBacksUptoRow.holds Try.pinned (OpenSpec.upto stackBacksSpec)

/-- 'codemasonkeep.StackSame', WHERE WHAT IT READS IS OF BULK AT MOST 1048576: true; the input reads as it did. -/
def stackSameUptoRow : OpenClaim := { program := "ytppnckiedcbleaa", sum := "67796cf0f8a4aa193599aaaed7b19abf0a985a52fdfbd1b9e6aaac673fe63b93", func := "codemason/codemasonkeep.StackSame", spec := "stackSame", unfollowed := true, recurses := true, apart := false, narrowed := true }
def StackSameUptoSaid : Prop := stackSameUptoRow.holds Try.pinned (OpenSpec.upto stackSameSpec)

/-- 'codemasonkeep.StackBack', WHERE WHAT IT READS IS OF BULK AT MOST 1048576: true; the input reads as it did. -/
def stackBackUptoRow : OpenClaim := { program := "ytppnckiedcbleaa", sum := "67796cf0f8a4aa193599aaaed7b19abf0a985a52fdfbd1b9e6aaac673fe63b93", func := "codemason/codemasonkeep.StackBack", spec := "stackBack", unfollowed := true, recurses := true, apart := false, narrowed := true }
def StackBackUptoSaid : Prop := stackBackUptoRow.holds Try.pinned (OpenSpec.upto stackBackSpec)

/-- 'codemasonkeep.StackNeed', WHERE WHAT IT READS IS OF BULK AT MOST 1048576: true; the input reads as it did. -/
def stackNeedUptoRow : OpenClaim := { program := "ytppnckiedcbleaa", sum := "67796cf0f8a4aa193599aaaed7b19abf0a985a52fdfbd1b9e6aaac673fe63b93", func := "codemason/codemasonkeep.StackNeed", spec := "stackNeed", unfollowed := true, recurses := true, apart := false, narrowed := true }
def StackNeedUptoSaid : Prop := stackNeedUptoRow.holds Try.pinned (OpenSpec.upto stackNeedSpec)

end Rows
end Go.Proofs.Ytppnckiedcbleaa
