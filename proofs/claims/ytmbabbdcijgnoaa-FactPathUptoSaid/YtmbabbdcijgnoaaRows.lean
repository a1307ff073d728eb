/-
  No cell of these rows narrows 'for every input' (looked for: loops, veiled, ifaces, maps, wideKeys, modest, calm, conditions, laid).
  DERIVED. THE GIVEN ROWS OF THIS SEAT. 5 by the template 'for every input the law returns true; each argument reads behind the call as it read before'; 0 by the template 'total and deterministic' (their statements: YtmbabbdcijgnoaaTotals.lean).
  GIVEN WITH THE SEED: the statements are not yours to turn. If you find one false, say at which input.
  Laid BY PROGRAM, IN A SANDBOX (cutbox-rows.mjs): the forced cells as the released guide's own fill.sh prints them over the translation 12b65aedbe9c0c74… (all of the seat's roots in one cut). By AI agents, Wed Nov 11 2026. No macro, syntax, notation, axiom, sorry.
-/
import Derived.Test.YtmbabbdcijgnoaaChecked
import GoSem.Claim
import GoSem.ClaimJoined
import GoSem.ClaimMapViews
import Derived.JoinedTies
import Derived.KernelRfl
namespace Go.Proofs.Ytmbabbdcijgnoaa
/- THE CELL 'sum', in the pinned program and in every row, IS THE sha256 OF THE DUMP (.gsa) THAT YtmbabbdcijgnoaaProg.lean LOADS. Nothing in Lean hashes anything: it is a label: what it is worth is what the hold of that sum in a sandbox is worth. -/
noncomputable def Try.pinned : Pinned := { name := "ytmbabbdcijgnoaa", sum := "12b65aedbe9c0c74f6a6ddb39f412c34a7c548bcd49783884e257ed508a1183e", checked := Try.checked }
namespace Rows
def none {H : Type} : Left H := { results := [], args := [] }

/-- 'codemasonlaw.FactSolves': WHATEVER THE INPUT: true; the input reads as it did. -/
def factSolvesSpec : ChangeSpec := { name := "factSolves", fn := fun _ => fun
  | [d1, d2] => { results := [.lit (.bool true)], args := [d1, d2] }
  | _ => none }
def factSolvesRow : OpenClaim := { program := "ytmbabbdcijgnoaa", sum := "12b65aedbe9c0c74f6a6ddb39f412c34a7c548bcd49783884e257ed508a1183e", func := "codemason/codemasonlaw.FactSolves", spec := "factSolves", unfollowed := true, recurses := true, apart := false }
def FactSolvesSaid : Prop := factSolvesRow.holds Try.pinned (OpenSpec.ofChange factSolvesSpec)

/-- ITS FALSE NEIGHBOUR: 'it returns false'. Refute it at one input. -/
def factSolvesWrong : ChangeSpec := { name := "factSolves", fn := fun _ => fun
  | [d1, d2] => { results := [.lit (.bool false)], args := [d1, d2] }
  | _ => none }
def FactSolvesWrongFalsely : Prop := factSolvesRow.holds Try.pinned (OpenSpec.ofChange factSolvesWrong)

/-- 'codemasonlaw.FactAlongs': WHATEVER THE INPUT: true; the input reads as it did. -/
def factAlongsSpec : ChangeSpec := { name := "factAlongs", fn := fun _ => fun
  | [d1, d2, d3] => { results := [.lit (.bool true)], args := [d1, d2, d3] }
  | _ => none }
def factAlongsRow : OpenClaim := { program := "ytmbabbdcijgnoaa", sum := "12b65aedbe9c0c74f6a6ddb39f412c34a7c548bcd49783884e257ed508a1183e", func := "codemason/codemasonlaw.FactAlongs", spec := "factAlongs", unfollowed := true, recurses := true, apart := false }
def FactAlongsSaid : Prop := factAlongsRow.holds Try.pinned (OpenSpec.ofChange factAlongsSpec)

/-- ITS FALSE NEIGHBOUR: 'it returns false'. Refute it at one input. -/
def factAlongsWrong : ChangeSpec := { name := "factAlongs", fn := fun _ => fun
  | [d1, d2, d3] => { results := [.lit (.bool false)], args := [d1, d2, d3] }
  | _ => none }
def FactAlongsWrongFalsely : Prop := factAlongsRow.holds Try.pinned (OpenSpec.ofChange factAlongsWrong)

/-- 'codemasonkeep.FactPath': WHATEVER THE INPUT: true; the input reads as it did. -/
def factPathSpec : ChangeSpec := { name := "factPath", fn := fun _ => fun
  | [d1, d2, d3, d4] => { results := [.lit (.bool true)], args := [d1, d2, d3, d4] }
  | _ => none }
def factPathRow : OpenClaim := { program := "ytmbabbdcijgnoaa", sum := "12b65aedbe9c0c74f6a6ddb39f412c34a7c548bcd49783884e257ed508a1183e", func := "codemason/codemasonkeep.FactPath", spec := "factPath", unfollowed := true, recurses := true, apart := false }
def FactPathSaid : Prop := factPathRow.holds Try.pinned (OpenSpec.ofChange factPathSpec)

/-- ITS FALSE NEIGHBOUR: 'it returns false'. Refute it at one input. -/
def factPathWrong : ChangeSpec := { name := "factPath", fn := fun _ => fun
  | [d1, d2, d3, d4] => { results := [.lit (.bool false)], args := [d1, d2, d3, d4] }
  | _ => none }
def FactPathWrongFalsely : Prop := factPathRow.holds Try.pinned (OpenSpec.ofChange factPathWrong)

/-- 'codemasonkeep.FactMore': WHATEVER THE INPUT: true; the input reads as it did. -/
def factMoreSpec : ChangeSpec := { name := "factMore", fn := fun _ => fun
  | [d1, d2, d3] => { results := [.lit (.bool true)], args := [d1, d2, d3] }
  | _ => none }
def factMoreRow : OpenClaim := { program := "ytmbabbdcijgnoaa", sum := "12b65aedbe9c0c74f6a6ddb39f412c34a7c548bcd49783884e257ed508a1183e", func := "codemason/codemasonkeep.FactMore", spec := "factMore", unfollowed := true, recurses := true, apart := false }
def FactMoreSaid : Prop := factMoreRow.holds Try.pinned (OpenSpec.ofChange factMoreSpec)

/-- ITS FALSE NEIGHBOUR: 'it returns false'. Refute it at one input. -/
def factMoreWrong : ChangeSpec := { name := "factMore", fn := fun _ => fun
  | [d1, d2, d3] => { results := [.lit (.bool false)], args := [d1, d2, d3] }
  | _ => none }
def FactMoreWrongFalsely : Prop := factMoreRow.holds Try.pinned (OpenSpec.ofChange factMoreWrong)

/-- 'codemasonkeep.FactTwo': WHATEVER THE INPUT: true; the input reads as it did. -/
def factTwoSpec : ChangeSpec := { name := "factTwo", fn := fun _ => fun
  | [d1, d2] => { results := [.lit (.bool true)], args := [d1, d2] }
  | _ => none }
def factTwoRow : OpenClaim := { program := "ytmbabbdcijgnoaa", sum := "12b65aedbe9c0c74f6a6ddb39f412c34a7c548bcd49783884e257ed508a1183e", func := "codemason/codemasonkeep.FactTwo", spec := "factTwo", unfollowed := true, recurses := true, apart := false }
def FactTwoSaid : Prop := factTwoRow.holds Try.pinned (OpenSpec.ofChange factTwoSpec)

/-- ITS FALSE NEIGHBOUR: 'it returns false'. Refute it at one input. -/
def factTwoWrong : ChangeSpec := { name := "factTwo", fn := fun _ => fun
  | [d1, d2] => { results := [.lit (.bool false)], args := [d1, d2] }
  | _ => none }
def FactTwoWrongFalsely : Prop := factTwoRow.holds Try.pinned (OpenSpec.ofChange factTwoWrong)

/- THE SECOND FORM. 'bulk': how many values and letters a reading holds, each counted each time it is reached (what is shared counts as often as it is met; a slice's spare places count too). A statement '..UptoSaid' is the law's where the arguments, and the package variables that the reading takes, are together of bulk at most 1048576: NARROWER than '..Said'. Prove '..Said' where nothing that the law and all that it calls make is longer than what came in: it says more and counts as full. Else prove '..UptoSaid'. A law counts once. -/
mutual
def uptoBulk {H : Type} : DataW H → Nat
  | .lit (.string bytes) => bytes.length + 1
  | .lit _ => 1
  | .nil => 1
  | .ptr d => uptoBulk d + 1
  | .slice elems spare => uptoBulkAll elems + uptoBulkAll spare + 1
  | .agg parts => uptoBulkAll parts + 1
  | .iface _ d => uptoBulk d + 1
  | .map entries => uptoBulkEntries entries + 1
  | .held _ => 1
def uptoBulkAll {H : Type} : List (DataW H) → Nat
  | [] => 0
  | d :: r => uptoBulk d + uptoBulkAll r
def uptoBulkEntries {H : Type} : List (Lit × DataW H) → Nat
  | [] => 0
  | x :: r => uptoBulkEntry x + uptoBulkEntries r
def uptoBulkEntry {H : Type} : Lit × DataW H → Nat
  | (.string bytes, d) => bytes.length + uptoBulk d + 1
  | (_, d) => uptoBulk d + 1
 end
def uptoSmall : (H : Type) → List (DataW H) → Bool := fun _ ds => decide (uptoBulkAll ds ≤ 1048576)
def OpenSpec.upto (s : _root_.Go.ChangeSpec) : _root_.Go.OpenSpec := { _root_.Go.OpenSpec.ofChange s with cond := some uptoSmall }

/-- 'codemasonlaw.FactSolves', WHERE WHAT IT READS IS OF BULK AT MOST 1048576: true; the input reads as it did. -/
def factSolvesUptoRow : OpenClaim := { program := "ytmbabbdcijgnoaa", sum := "12b65aedbe9c0c74f6a6ddb39f412c34a7c548bcd49783884e257ed508a1183e", func := "codemason/codemasonlaw.FactSolves", spec := "factSolves", unfollowed := true, recurses := true, apart := false, narrowed := true }
def FactSolvesUptoSaid : Prop := factSolvesUptoRow.holds Try.pinned (OpenSpec.upto factSolvesSpec)

/-- 'codemasonlaw.FactAlongs', WHERE WHAT IT READS IS OF BULK AT MOST 1048576: true; the input reads as it did. -/
def factAlongsUptoRow : OpenClaim := { program := "ytmbabbdcijgnoaa", sum := "12b65aedbe9c0c74f6a6ddb39f412c34a7c548bcd49783884e257ed508a1183e", func := "codemason/codemasonlaw.FactAlongs", spec := "factAlongs", unfollowed := true, recurses := true, apart := false, narrowed := true }
def FactAlongsUptoSaid : Prop := factAlongsUptoRow.holds Try.pinned (OpenSpec.upto factAlongsSpec)

/-- 'codemasonkeep.FactPath', WHERE WHAT IT READS IS OF BULK AT MOST 1048576: true; the input reads as it did. -/
def factPathUptoRow : OpenClaim := { program := "ytmbabbdcijgnoaa", sum := "12b65aedbe9c0c74f6a6ddb39f412c34a7c548bcd49783884e257ed508a1183e", func := "codemason/codemasonkeep.FactPath", spec := "factPath", unfollowed := true, recurses := true, apart := false, narrowed := true }
def FactPathUptoSaid : Prop := factPathUptoRow.holds Try.pinned (OpenSpec.upto factPathSpec)

/-- 'codemasonkeep.FactMore', WHERE WHAT IT READS IS OF BULK AT MOST 1048576: true; the input reads as it did. -/
def factMoreUptoRow : OpenClaim := { program := "ytmbabbdcijgnoaa", sum := "12b65aedbe9c0c74f6a6ddb39f412c34a7c548bcd49783884e257ed508a1183e", func := "codemason/codemasonkeep.FactMore", spec := "factMore", unfollowed := true, recurses := true, apart := false, narrowed := true }
def FactMoreUptoSaid : Prop := factMoreUptoRow.holds Try.pinned (OpenSpec.upto factMoreSpec)

/-- 'codemasonkeep.FactTwo', WHERE WHAT IT READS IS OF BULK AT MOST 1048576: true; the input reads as it did. -/
def factTwoUptoRow : OpenClaim := { program := "ytmbabbdcijgnoaa", sum := "12b65aedbe9c0c74f6a6ddb39f412c34a7c548bcd49783884e257ed508a1183e", func := "codemason/codemasonkeep.FactTwo", spec := "factTwo", unfollowed := true, recurses := true, apart := false, narrowed := true }
def FactTwoUptoSaid : Prop := factTwoUptoRow.holds Try.pinned (OpenSpec.upto factTwoSpec)

end Rows
end Go.Proofs.Ytmbabbdcijgnoaa
