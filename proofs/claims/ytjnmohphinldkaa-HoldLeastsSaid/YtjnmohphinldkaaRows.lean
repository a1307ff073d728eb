/-
  No cell of these rows narrows 'for every input' (looked for: loops, veiled, ifaces, maps, wideKeys, modest, calm, conditions, laid).
  DERIVED. THE GIVEN ROWS OF THIS SEAT. 8 by the template 'for every input the law returns true; each argument reads behind the call as it read before'; 0 by the template 'total and deterministic' (their statements: YtjnmohphinldkaaTotals.lean).
  GIVEN WITH THE SEED: the statements are not yours to turn. If you find one false, say at which input.
  Laid BY PROGRAM, IN A SANDBOX (cutbox-rows.mjs): the forced cells as the released guide's own fill.sh prints them over the translation d82301fa3bcbffe7… (all of the seat's roots in one cut). By AI agents, Wed Nov 11 2026. No macro, syntax, notation, axiom, sorry.
-/
import Derived.Test.YtjnmohphinldkaaChecked
import GoSem.Claim
import GoSem.ClaimJoined
import GoSem.ClaimMapViews
import Derived.JoinedTies
import Derived.KernelRfl
namespace Go.Proofs.Ytjnmohphinldkaa
/- THE CELL 'sum', in the pinned program and in every row, IS THE sha256 OF THE DUMP (.gsa) THAT YtjnmohphinldkaaProg.lean LOADS. Nothing in Lean hashes anything: it is a label: what it is worth is what the hold of that sum in a sandbox is worth. -/
noncomputable def Try.pinned : Pinned := { name := "ytjnmohphinldkaa", sum := "d82301fa3bcbffe7e43af72b9dddb9da6b6da5637b0d15e430bfc320f2bdbfcf", checked := Try.checked }
namespace Rows
def none {H : Type} : Left H := { results := [], args := [] }

/-- 'codemasonlaw.HoldLeasts': WHATEVER THE INPUT: true; the input reads as it did. -/
def holdLeastsSpec : ChangeSpec := { name := "holdLeasts", fn := fun _ => fun
  | [d1, d2] => { results := [.lit (.bool true)], args := [d1, d2] }
  | _ => none }
def holdLeastsRow : OpenClaim := { program := "ytjnmohphinldkaa", sum := "d82301fa3bcbffe7e43af72b9dddb9da6b6da5637b0d15e430bfc320f2bdbfcf", func := "codemason/codemasonlaw.HoldLeasts", spec := "holdLeasts", unfollowed := true, recurses := true, apart := false }
def HoldLeastsSaid : Prop := holdLeastsRow.holds Try.pinned (OpenSpec.ofChange holdLeastsSpec)

/-- ITS FALSE NEIGHBOUR: 'it returns false'. Refute it at one input. -/
def holdLeastsWrong : ChangeSpec := { name := "holdLeasts", fn := fun _ => fun
  | [d1, d2] => { results := [.lit (.bool false)], args := [d1, d2] }
  | _ => none }
def HoldLeastsWrongFalsely : Prop := holdLeastsRow.holds Try.pinned (OpenSpec.ofChange holdLeastsWrong)

/-- 'codemasonlaw.HoldLrus': WHATEVER THE INPUT: true; the input reads as it did. -/
def holdLrusSpec : ChangeSpec := { name := "holdLrus", fn := fun _ => fun
  | [d1, d2] => { results := [.lit (.bool true)], args := [d1, d2] }
  | _ => none }
def holdLrusRow : OpenClaim := { program := "ytjnmohphinldkaa", sum := "d82301fa3bcbffe7e43af72b9dddb9da6b6da5637b0d15e430bfc320f2bdbfcf", func := "codemason/codemasonlaw.HoldLrus", spec := "holdLrus", unfollowed := true, recurses := true, apart := false }
def HoldLrusSaid : Prop := holdLrusRow.holds Try.pinned (OpenSpec.ofChange holdLrusSpec)

/-- ITS FALSE NEIGHBOUR: 'it returns false'. Refute it at one input. -/
def holdLrusWrong : ChangeSpec := { name := "holdLrus", fn := fun _ => fun
  | [d1, d2] => { results := [.lit (.bool false)], args := [d1, d2] }
  | _ => none }
def HoldLrusWrongFalsely : Prop := holdLrusRow.holds Try.pinned (OpenSpec.ofChange holdLrusWrong)

/-- 'codemasonlaw.HoldFifos': WHATEVER THE INPUT: true; the input reads as it did. -/
def holdFifosSpec : ChangeSpec := { name := "holdFifos", fn := fun _ => fun
  | [d1, d2] => { results := [.lit (.bool true)], args := [d1, d2] }
  | _ => none }
def holdFifosRow : OpenClaim := { program := "ytjnmohphinldkaa", sum := "d82301fa3bcbffe7e43af72b9dddb9da6b6da5637b0d15e430bfc320f2bdbfcf", func := "codemason/codemasonlaw.HoldFifos", spec := "holdFifos", unfollowed := true, recurses := true, apart := false }
def HoldFifosSaid : Prop := holdFifosRow.holds Try.pinned (OpenSpec.ofChange holdFifosSpec)

/-- ITS FALSE NEIGHBOUR: 'it returns false'. Refute it at one input. -/
def holdFifosWrong : ChangeSpec := { name := "holdFifos", fn := fun _ => fun
  | [d1, d2] => { results := [.lit (.bool false)], args := [d1, d2] }
  | _ => none }
def HoldFifosWrongFalsely : Prop := holdFifosRow.holds Try.pinned (OpenSpec.ofChange holdFifosWrong)

/-- 'codemasonlaw.HoldPlays': WHATEVER THE INPUT: true; the input reads as it did. -/
def holdPlaysSpec : ChangeSpec := { name := "holdPlays", fn := fun _ => fun
  | [d1, d2, d3] => { results := [.lit (.bool true)], args := [d1, d2, d3] }
  | _ => none }
def holdPlaysRow : OpenClaim := { program := "ytjnmohphinldkaa", sum := "d82301fa3bcbffe7e43af72b9dddb9da6b6da5637b0d15e430bfc320f2bdbfcf", func := "codemason/codemasonlaw.HoldPlays", spec := "holdPlays", unfollowed := true, recurses := true, apart := false }
def HoldPlaysSaid : Prop := holdPlaysRow.holds Try.pinned (OpenSpec.ofChange holdPlaysSpec)

/-- ITS FALSE NEIGHBOUR: 'it returns false'. Refute it at one input. -/
def holdPlaysWrong : ChangeSpec := { name := "holdPlays", fn := fun _ => fun
  | [d1, d2, d3] => { results := [.lit (.bool false)], args := [d1, d2, d3] }
  | _ => none }
def HoldPlaysWrongFalsely : Prop := holdPlaysRow.holds Try.pinned (OpenSpec.ofChange holdPlaysWrong)

/-- 'codemasonkeep.HoldBelady': WHATEVER THE INPUT: true; the input reads as it did. -/
def holdBeladySpec : ChangeSpec := { name := "holdBelady", fn := fun _ => fun
  | [d1, d2, d3] => { results := [.lit (.bool true)], args := [d1, d2, d3] }
  | _ => none }
def holdBeladyRow : OpenClaim := { program := "ytjnmohphinldkaa", sum := "d82301fa3bcbffe7e43af72b9dddb9da6b6da5637b0d15e430bfc320f2bdbfcf", func := "codemason/codemasonkeep.HoldBelady", spec := "holdBelady", unfollowed := true, recurses := true, apart := false }
def HoldBeladySaid : Prop := holdBeladyRow.holds Try.pinned (OpenSpec.ofChange holdBeladySpec)

/-- ITS FALSE NEIGHBOUR: 'it returns false'. Refute it at one input. -/
def holdBeladyWrong : ChangeSpec := { name := "holdBelady", fn := fun _ => fun
  | [d1, d2, d3] => { results := [.lit (.bool false)], args := [d1, d2, d3] }
  | _ => none }
def HoldBeladyWrongFalsely : Prop := holdBeladyRow.holds Try.pinned (OpenSpec.ofChange holdBeladyWrong)

/-- 'codemasonkeep.HoldMore': WHATEVER THE INPUT: true; the input reads as it did. -/
def holdMoreSpec : ChangeSpec := { name := "holdMore", fn := fun _ => fun
  | [d1, d2] => { results := [.lit (.bool true)], args := [d1, d2] }
  | _ => none }
def holdMoreRow : OpenClaim := { program := "ytjnmohphinldkaa", sum := "d82301fa3bcbffe7e43af72b9dddb9da6b6da5637b0d15e430bfc320f2bdbfcf", func := "codemason/codemasonkeep.HoldMore", spec := "holdMore", unfollowed := true, recurses := true, apart := false }
def HoldMoreSaid : Prop := holdMoreRow.holds Try.pinned (OpenSpec.ofChange holdMoreSpec)

/-- ITS FALSE NEIGHBOUR: 'it returns false'. Refute it at one input. -/
def holdMoreWrong : ChangeSpec := { name := "holdMore", fn := fun _ => fun
  | [d1, d2] => { results := [.lit (.bool false)], args := [d1, d2] }
  | _ => none }
def HoldMoreWrongFalsely : Prop := holdMoreRow.holds Try.pinned (OpenSpec.ofChange holdMoreWrong)

/-- 'codemasonkeep.HoldSleator': WHATEVER THE INPUT: true; the input reads as it did. -/
def holdSleatorSpec : ChangeSpec := { name := "holdSleator", fn := fun _ => fun
  | [d1, d2, d3] => { results := [.lit (.bool true)], args := [d1, d2, d3] }
  | _ => none }
def holdSleatorRow : OpenClaim := { program := "ytjnmohphinldkaa", sum := "d82301fa3bcbffe7e43af72b9dddb9da6b6da5637b0d15e430bfc320f2bdbfcf", func := "codemason/codemasonkeep.HoldSleator", spec := "holdSleator", unfollowed := true, recurses := true, apart := false }
def HoldSleatorSaid : Prop := holdSleatorRow.holds Try.pinned (OpenSpec.ofChange holdSleatorSpec)

/-- ITS FALSE NEIGHBOUR: 'it returns false'. Refute it at one input. -/
def holdSleatorWrong : ChangeSpec := { name := "holdSleator", fn := fun _ => fun
  | [d1, d2, d3] => { results := [.lit (.bool false)], args := [d1, d2, d3] }
  | _ => none }
def HoldSleatorWrongFalsely : Prop := holdSleatorRow.holds Try.pinned (OpenSpec.ofChange holdSleatorWrong)

/-- 'codemasonkeep.HoldAll': WHATEVER THE INPUT: true; the input reads as it did. -/
def holdAllSpec : ChangeSpec := { name := "holdAll", fn := fun _ => fun
  | [d1, d2] => { results := [.lit (.bool true)], args := [d1, d2] }
  | _ => none }
def holdAllRow : OpenClaim := { program := "ytjnmohphinldkaa", sum := "d82301fa3bcbffe7e43af72b9dddb9da6b6da5637b0d15e430bfc320f2bdbfcf", func := "codemason/codemasonkeep.HoldAll", spec := "holdAll", unfollowed := true, recurses := true, apart := false }
def HoldAllSaid : Prop := holdAllRow.holds Try.pinned (OpenSpec.ofChange holdAllSpec)

/-- ITS FALSE NEIGHBOUR: 'it returns false'. Refute it at one input. -/
def holdAllWrong : ChangeSpec := { name := "holdAll", fn := fun _ => fun
  | [d1, d2] => { results := [.lit (.bool false)], args := [d1, d2] }
  | _ => none }
def HoldAllWrongFalsely : Prop := holdAllRow.holds Try.pinned (OpenSpec.ofChange holdAllWrong)

/- THE SECOND FORM. 'bulk': how many values and letters a reading holds, each counted each time it is reached (what is shared counts as often as it is met; a slice's spare places count too). A statement '..UptoSaid' is the law's where the arguments, and the package variables that the reading takes, are together of bulk at most 1048576: NARROWER than '..Said'. Prove '..Said' where nothing that the law and all that it calls make is longer than what came in: it says more and counts as full. Else prove '..UptoSaid'. A law counts once. -/
mutual
def uptoBulk {H : Type} : DataW H → Nat
  | .lit (.string bytes) => bytes.length + 1
  | .lit _ => 1
  | .nil => 1
  | .ptr d => uptoBulk d + 1
  | .slice elems spare => uptoBulkAll elems + uptoBulkAll spare + 1
  | .agg parts => uptoBulkAll parts + 1
  | .iface _ d => uptoBulk d + 1
  | .map entries => uptoBulkEntries entries + 1
  | .held _ => 1
def uptoBulkAll {H : Type} : List (DataW H) → Nat
  | [] => 0
  | d :: r => uptoBulk d + uptoBulkAll r
def uptoBulkEntries {H : Type} : List (Lit × DataW H) → Nat
  | [] => 0
  | x :: r => uptoBulkEntry x + uptoBulkEntries r
def uptoBulkEntry {H : Type} : Lit × DataW H → Nat
  | (.string bytes, d) => bytes.length + uptoBulk d + 1
  | (_, d) => uptoBulk d + 1
 end
def uptoSmall : (H : Type) → List (DataW H) → Bool := fun _ ds => decide (uptoBulkAll ds ≤ 1048576)
def OpenSpec.upto (s : _root_.Go.ChangeSpec) : _root_.Go.OpenSpec := { _root_.Go.OpenSpec.ofChange s with cond := some uptoSmall }

/-- 'codemasonlaw.HoldLeasts', WHERE WHAT IT READS IS OF BULK AT MOST 1048576: true; the input reads as it did. -/
def holdLeastsUptoRow : OpenClaim := { program := "ytjnmohphinldkaa", sum := "d82301fa3bcbffe7e43af72b9dddb9da6b6da5637b0d15e430bfc320f2bdbfcf", func := "codemason/codemasonlaw.HoldLeasts", spec := "holdLeasts", unfollowed := true, recurses := true, apart := false, narrowed := true }
def HoldLeastsUptoSaid : Prop := holdLeastsUptoRow.holds Try.pinned (OpenSpec.upto holdLeastsSpec)

/-- 'codemasonlaw.HoldLrus', WHERE WHAT IT READS IS OF BULK AT MOST 1048576: true; the input reads as it did. -/
def holdLrusUptoRow : OpenClaim := { program := "ytjnmohphinldkaa", sum := "d82301fa3bcbffe7e43af72b9dddb9da6b6da5637b0d15e430bfc320f2bdbfcf", func := "codemason/codemasonlaw.HoldLrus", spec := "holdLrus", unfollowed := true, recurses := true, apart := false, narrowed := true }
def HoldLrusUptoSaid : Prop := holdLrusUptoRow.holds Try.pinned (OpenSpec.upto holdLrusSpec)

/-- 'codemasonlaw.HoldFifos', WHERE WHAT IT READS IS OF BULK AT MOST 1048576: true; the input reads as it did. -/
def holdFifosUptoRow : OpenClaim := { program := "ytjnmohphinldkaa", sum := "d82301fa3bcbffe7e43af72b9dddb9da6b6da5637b0d15e430bfc320f2bdbfcf", func := "codemason/codemasonlaw.HoldFifos", spec := "holdFifos", unfollowed := true, recurses := true, apart := false, narrowed := true }
def HoldFifosUptoSaid : Prop := holdFifosUptoRow.holds Try.pinned (OpenSpec.upto holdFifosSpec)

/-- 'codemasonlaw.HoldPlays', WHERE WHAT IT READS IS OF BULK AT MOST 1048576: true; the input reads as it did. -/
def holdPlaysUptoRow : OpenClaim := { program := "ytjnmohphinldkaa", sum := "d82301fa3bcbffe7e43af72b9dddb9da6b6da5637b0d15e430bfc320f2bdbfcf", func := "codemason/codemasonlaw.HoldPlays", spec := "holdPlays", unfollowed := true, recurses := true, apart := false, narrowed := true }
def HoldPlaysUptoSaid : Prop := holdPlaysUptoRow.holds Try.pinned (OpenSpec.upto holdPlaysSpec)

/-- 'codemasonkeep.HoldBelady', WHERE WHAT IT READS IS OF BULK AT MOST 1048576: true; the input reads as it did. -/
def holdBeladyUptoRow : OpenClaim := { program := "ytjnmohphinldkaa", sum := "d82301fa3bcbffe7e43af72b9dddb9da6b6da5637b0d15e430bfc320f2bdbfcf", func := "codemason/codemasonkeep.HoldBelady", spec := "holdBelady", unfollowed := true, recurses := true, apart := false, narrowed := true }
def HoldBeladyUptoSaid : Prop := holdBeladyUptoRow.holds Try.pinned (OpenSpec.upto holdBeladySpec)

/-- 'codemasonkeep.HoldMore', WHERE WHAT IT READS IS OF BULK AT MOST 1048576: true; the input reads as it did. -/
def holdMoreUptoRow : OpenClaim := { program := "ytjnmohphinldkaa", sum := "d82301fa3bcbffe7e43af72b9dddb9da6b6da5637b0d15e430bfc320f2bdbfcf", func := "codemason/codemasonkeep.HoldMore", spec := "holdMore", unfollowed := true, recurses := true, apart := false, narrowed := true }
def HoldMoreUptoSaid : Prop := holdMoreUptoRow.holds Try.pinned (OpenSpec.upto holdMoreSpec)

/-- 'codemasonkeep.HoldSleator', WHERE WHAT IT READS IS OF BULK AT MOST 1048576: true; the input reads as it did. -/
def holdSleatorUptoRow : OpenClaim := { program := "ytjnmohphinldkaa", sum := "d82301fa3bcbffe7e43af72b9dddb9da6b6da5637b0d15e430bfc320f2bdbfcf", func := "codemason/codemasonkeep.HoldSleator", spec := "holdSleator", unfollowed := true, recurses := true, apart := false, narrowed := true }
def HoldSleatorUptoSaid : Prop := holdSleatorUptoRow.holds Try.pinned (OpenSpec.upto holdSleatorSpec)

/-- 'codemasonkeep.HoldAll', WHERE WHAT IT READS IS OF BULK AT MOST 1048576: true; the input reads as it did. -/
def holdAllUptoRow : OpenClaim := { program := "ytjnmohphinldkaa", sum := "d82301fa3bcbffe7e43af72b9dddb9da6b6da5637b0d15e430bfc320f2bdbfcf", func := "codemason/codemasonkeep.HoldAll", spec := "holdAll", unfollowed := true, recurses := true, apart := false, narrowed := true }
def HoldAllUptoSaid : Prop := holdAllUptoRow.holds Try.pinned (OpenSpec.upto holdAllSpec)

end Rows
end Go.Proofs.Ytjnmohphinldkaa
