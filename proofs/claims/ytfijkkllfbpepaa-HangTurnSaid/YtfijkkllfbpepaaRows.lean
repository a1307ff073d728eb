/-
  No cell of these rows narrows 'for every input' (looked for: loops, veiled, ifaces, maps, wideKeys, modest, calm, conditions, laid).
  DERIVED. THE GIVEN ROWS OF THIS SEAT. 4 by the template 'for every input the law returns true; each argument reads behind the call as it read before'; 0 by the template 'total and deterministic' (their statements: YtfijkkllfbpepaaTotals.lean).
  GIVEN WITH THE SEED: the statements are not yours to turn. If you find one false, say at which input.
  Laid BY PROGRAM, IN A SANDBOX (cutbox-rows.mjs): the forced cells as the released guide's own fill.sh prints them over the translation f2c7f2e1851f9fdb… (all of the seat's roots in one cut). By AI agents, Wed Nov 11 2026. No macro, syntax, notation, axiom, sorry.
-/
import Derived.Test.YtfijkkllfbpepaaChecked
import GoSem.Claim
import GoSem.ClaimJoined
import GoSem.ClaimMapViews
import Derived.JoinedTies
import Derived.KernelRfl
namespace Go.Proofs.Ytfijkkllfbpepaa
/- THE CELL 'sum', in the pinned program and in every row, IS THE sha256 OF THE DUMP (.gsa) THAT YtfijkkllfbpepaaProg.lean LOADS. Nothing in Lean hashes anything: it is a label: what it is worth is what the hold of that sum in a sandbox is worth. -/
noncomputable def Try.pinned : Pinned := { name := "ytfijkkllfbpepaa", sum := "f2c7f2e1851f9fdb0722af0d764a743d4082cde9d7070d485b4d48fe21953c8b", checked := Try.checked }
namespace Rows
def none {H : Type} : Left H := { results := [], args := [] }

/-- 'codemasonlaw.HangLasts': WHATEVER THE INPUT: true; the input reads as it did. -/
def hangLastsSpec : ChangeSpec := { name := "hangLasts", fn := fun _ => fun
  | [d] => { results := [.lit (.bool true)], args := [d] }
  | _ => none }
def hangLastsRow : OpenClaim := { program := "ytfijkkllfbpepaa", sum := "f2c7f2e1851f9fdb0722af0d764a743d4082cde9d7070d485b4d48fe21953c8b", func := "codemason/codemasonlaw.HangLasts", spec := "hangLasts", unfollowed := true, recurses := true, apart := false }
def HangLastsSaid : Prop := hangLastsRow.holds Try.pinned (OpenSpec.ofChange hangLastsSpec)

/-- ITS FALSE NEIGHBOUR: 'it returns false'. Refute it at one input. -/
def hangLastsWrong : ChangeSpec := { name := "hangLasts", fn := fun _ => fun
  | [d] => { results := [.lit (.bool false)], args := [d] }
  | _ => none }
def HangLastsWrongFalsely : Prop := hangLastsRow.holds Try.pinned (OpenSpec.ofChange hangLastsWrong)

/-- 'codemasonlaw.HangTells': WHATEVER THE INPUT: true; the input reads as it did. -/
def hangTellsSpec : ChangeSpec := { name := "hangTells", fn := fun _ => fun
  | [d] => { results := [.lit (.bool true)], args := [d] }
  | _ => none }
def hangTellsRow : OpenClaim := { program := "ytfijkkllfbpepaa", sum := "f2c7f2e1851f9fdb0722af0d764a743d4082cde9d7070d485b4d48fe21953c8b", func := "codemason/codemasonlaw.HangTells", spec := "hangTells", unfollowed := true, recurses := true, apart := false }
def HangTellsSaid : Prop := hangTellsRow.holds Try.pinned (OpenSpec.ofChange hangTellsSpec)

/-- ITS FALSE NEIGHBOUR: 'it returns false'. Refute it at one input. -/
def hangTellsWrong : ChangeSpec := { name := "hangTells", fn := fun _ => fun
  | [d] => { results := [.lit (.bool false)], args := [d] }
  | _ => none }
def HangTellsWrongFalsely : Prop := hangTellsRow.holds Try.pinned (OpenSpec.ofChange hangTellsWrong)

/-- 'codemasonkeep.HangTurn': WHATEVER THE INPUT: true; the input reads as it did. -/
def hangTurnSpec : ChangeSpec := { name := "hangTurn", fn := fun _ => fun
  | [d] => { results := [.lit (.bool true)], args := [d] }
  | _ => none }
def hangTurnRow : OpenClaim := { program := "ytfijkkllfbpepaa", sum := "f2c7f2e1851f9fdb0722af0d764a743d4082cde9d7070d485b4d48fe21953c8b", func := "codemason/codemasonkeep.HangTurn", spec := "hangTurn", unfollowed := true, recurses := true, apart := false }
def HangTurnSaid : Prop := hangTurnRow.holds Try.pinned (OpenSpec.ofChange hangTurnSpec)

/-- ITS FALSE NEIGHBOUR: 'it returns false'. Refute it at one input. -/
def hangTurnWrong : ChangeSpec := { name := "hangTurn", fn := fun _ => fun
  | [d] => { results := [.lit (.bool false)], args := [d] }
  | _ => none }
def HangTurnWrongFalsely : Prop := hangTurnRow.holds Try.pinned (OpenSpec.ofChange hangTurnWrong)

/-- 'codemasonkeep.HangOne': WHATEVER THE INPUT: true; the input reads as it did. -/
def hangOneSpec : ChangeSpec := { name := "hangOne", fn := fun _ => fun
  | [d] => { results := [.lit (.bool true)], args := [d] }
  | _ => none }
def hangOneRow : OpenClaim := { program := "ytfijkkllfbpepaa", sum := "f2c7f2e1851f9fdb0722af0d764a743d4082cde9d7070d485b4d48fe21953c8b", func := "codemason/codemasonkeep.HangOne", spec := "hangOne", unfollowed := true, recurses := true, apart := false }
def HangOneSaid : Prop := hangOneRow.holds Try.pinned (OpenSpec.ofChange hangOneSpec)

/-- ITS FALSE NEIGHBOUR: 'it returns false'. Refute it at one input. -/
def hangOneWrong : ChangeSpec := { name := "hangOne", fn := fun _ => fun
  | [d] => { results := [.lit (.bool false)], args := [d] }
  | _ => none }
def HangOneWrongFalsely : Prop := hangOneRow.holds Try.pinned (OpenSpec.ofChange hangOneWrong)

/- THE SECOND FORM. 'bulk': how many values and letters a reading holds, each counted each time it is reached (what is shared counts as often as it is met; a slice's spare places count too). A statement '..UptoSaid' is the law's where the arguments, and the package variables that the reading takes, are together of bulk at most 1048576: NARROWER than '..Said'. Prove '..Said' where nothing that the law and all that it calls make is longer than what came in: it says more and counts as full. Else prove '..UptoSaid'. A law counts once. -/
mutual
def uptoBulk {H : Type} : DataW H → Nat
  | .lit (.string bytes) => bytes.length + 1
  | .lit _ => 1
  | .nil => 1
  | .ptr d => uptoBulk d + 1
  | .slice elems spare => uptoBulkAll elems + uptoBulkAll spare + 1
  | .agg parts => uptoBulkAll parts + 1
  | .iface _ d => uptoBulk d + 1
  | .map entries => uptoBulkEntries entries + 1
  | .held _ => 1
def uptoBulkAll {H : Type} : List (DataW H) → Nat
  | [] => 0
  | d :: r => uptoBulk d + uptoBulkAll r
def uptoBulkEntries {H : Type} : List (Lit × DataW H) → Nat
  | [] => 0
  | x :: r => uptoBulkEntry x + uptoBulkEntries r
def uptoBulkEntry {H : Type} : Lit × DataW H → Nat
  | (.string bytes, d) => bytes.length + uptoBulk d + 1
  | (_, d) => uptoBulk d + 1
 end
def uptoSmall : (H : Type) → List (DataW H) → Bool := fun _ ds => decide (uptoBulkAll ds ≤ 1048576)
def OpenSpec.upto (s : _root_.Go.ChangeSpec) : _root_.Go.OpenSpec := { _root_.Go.OpenSpec.ofChange s with cond := some uptoSmall }

/-- 'codemasonlaw.HangLasts', WHERE WHAT IT READS IS OF BULK AT MOST 1048576: true; the input reads as it did. -/
def hangLastsUptoRow : OpenClaim := { program := "ytfijkkllfbpepaa", sum := "f2c7f2e1851f9fdb0722af0d764a743d4082cde9d7070d485b4d48fe21953c8b", func := "codemason/codemasonlaw.HangLasts", spec := "hangLasts", unfollowed := true, recurses := true, apart := false, narrowed := true }
def HangLastsUptoSaid : Prop := hangLastsUptoRow.holds Try.pinned (OpenSpec.upto hangLastsSpec)

/-- 'codemasonlaw.HangTells', WHERE WHAT IT READS IS OF BULK AT MOST 1048576: true; the input reads as it did. -/
def hangTellsUptoRow : OpenClaim := { program := "ytfijkkllfbpepaa", sum := "f2c7f2e1851f9fdb0722af0d764a743d4082cde9d7070d485b4d48fe21953c8b", func := "codemason/codemasonlaw.HangTells", spec := "hangTells", unfollowed := true, recurses := true, apart := false, narrowed := true }
def HangTellsUptoSaid : Prop := hangTellsUptoRow.holds Try.pinned (OpenSpec.upto hangTellsSpec)

/-- 'codemasonkeep.HangTurn', WHERE WHAT IT READS IS OF BULK AT MOST 1048576: true; the input reads as it did. -/
def hangTurnUptoRow : OpenClaim := { program := "ytfijkkllfbpepaa", sum := "f2c7f2e1851f9fdb0722af0d764a743d4082cde9d7070d485b4d48fe21953c8b", func := "codemason/codemasonkeep.HangTurn", spec := "hangTurn", unfollowed := true, recurses := true, apart := false, narrowed := true }
def HangTurnUptoSaid : Prop := hangTurnUptoRow.holds Try.pinned (OpenSpec.upto hangTurnSpec)

/-- 'codemasonkeep.HangOne', WHERE WHAT IT READS IS OF BULK AT MOST 1048576: true; the input reads as it did. -/
def hangOneUptoRow : OpenClaim := { program := "ytfijkkllfbpepaa", sum := "f2c7f2e1851f9fdb0722af0d764a743d4082cde9d7070d485b4d48fe21953c8b", func := "codemason/codemasonkeep.HangOne", spec := "hangOne", unfollowed := true, recurses := true, apart := false, narrowed := true }
def HangOneUptoSaid : Prop := hangOneUptoRow.holds Try.pinned (OpenSpec.upto hangOneSpec)

end Rows
end Go.Proofs.Ytfijkkllfbpepaa
