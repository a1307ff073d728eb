/-
  No cell of these rows narrows 'for every input' (looked for: loops, veiled, ifaces, maps, wideKeys, modest, calm, conditions, laid).
  DERIVED. THE GIVEN ROWS OF THIS SEAT. 6 by the template 'for every input the law returns true; each argument reads behind the call as it read before'; 0 by the template 'total and deterministic' (their statements: YtfbnmgnkigfgpaaTotals.lean).
  GIVEN WITH THE SEED: the statements are not yours to turn. If you find one false, say at which input.
  Laid BY PROGRAM, IN A SANDBOX (cutbox-rows.mjs): the forced cells as the released guide's own fill.sh prints them over the translation 98bfb3237a69d2c9… (all of the seat's roots in one cut). By AI agents, Wed Nov 11 2026. No macro, syntax, notation, axiom, sorry.
-/
import Derived.Test.YtfbnmgnkigfgpaaChecked
import GoSem.Claim
import GoSem.ClaimJoined
import GoSem.ClaimMapViews
import Derived.JoinedTies
import Derived.KernelRfl
namespace Go.Proofs.Ytfbnmgnkigfgpaa
/- THE CELL 'sum', in the pinned program and in every row, IS THE sha256 OF THE DUMP (.gsa) THAT YtfbnmgnkigfgpaaProg.lean LOADS. Nothing in Lean hashes anything: it is a label: what it is worth is what the hold of that sum in a sandbox is worth. -/
noncomputable def Try.pinned : Pinned := { name := "ytfbnmgnkigfgpaa", sum := "98bfb3237a69d2c939036c0f23d49597721aacbbaf8bae42a231ec8761542e37", checked := Try.checked }
namespace Rows
def none {H : Type} : Left H := { results := [], args := [] }

/-- 'codemasonlaw.PointWithins': WHATEVER THE INPUT: true; the input reads as it did. -/
def pointWithinsSpec : ChangeSpec := { name := "pointWithins", fn := fun _ => fun
  | [d1, d2] => { results := [.lit (.bool true)], args := [d1, d2] }
  | _ => none }
def pointWithinsRow : OpenClaim := { program := "ytfbnmgnkigfgpaa", sum := "98bfb3237a69d2c939036c0f23d49597721aacbbaf8bae42a231ec8761542e37", func := "codemason/codemasonlaw.PointWithins", spec := "pointWithins", unfollowed := true, recurses := true, plainKeys := false, apart := false }
def PointWithinsSaid : Prop := pointWithinsRow.holds Try.pinned (OpenSpec.ofChange pointWithinsSpec)

/-- ITS FALSE NEIGHBOUR: 'it returns false'. Refute it at one input. -/
def pointWithinsWrong : ChangeSpec := { name := "pointWithins", fn := fun _ => fun
  | [d1, d2] => { results := [.lit (.bool false)], args := [d1, d2] }
  | _ => none }
def PointWithinsWrongFalsely : Prop := pointWithinsRow.holds Try.pinned (OpenSpec.ofChange pointWithinsWrong)

/-- 'codemasonlaw.PointJoins': WHATEVER THE INPUT: true; the input reads as it did. -/
def pointJoinsSpec : ChangeSpec := { name := "pointJoins", fn := fun _ => fun
  | [d1, d2] => { results := [.lit (.bool true)], args := [d1, d2] }
  | _ => none }
def pointJoinsRow : OpenClaim := { program := "ytfbnmgnkigfgpaa", sum := "98bfb3237a69d2c939036c0f23d49597721aacbbaf8bae42a231ec8761542e37", func := "codemason/codemasonlaw.PointJoins", spec := "pointJoins", unfollowed := true, recurses := true, plainKeys := false, apart := false }
def PointJoinsSaid : Prop := pointJoinsRow.holds Try.pinned (OpenSpec.ofChange pointJoinsSpec)

/-- ITS FALSE NEIGHBOUR: 'it returns false'. Refute it at one input. -/
def pointJoinsWrong : ChangeSpec := { name := "pointJoins", fn := fun _ => fun
  | [d1, d2] => { results := [.lit (.bool false)], args := [d1, d2] }
  | _ => none }
def PointJoinsWrongFalsely : Prop := pointJoinsRow.holds Try.pinned (OpenSpec.ofChange pointJoinsWrong)

/-- 'codemasonlaw.PointRuns': WHATEVER THE INPUT: true; the input reads as it did. -/
def pointRunsSpec : ChangeSpec := { name := "pointRuns", fn := fun _ => fun
  | [d1, d2, d3] => { results := [.lit (.bool true)], args := [d1, d2, d3] }
  | _ => none }
def pointRunsRow : OpenClaim := { program := "ytfbnmgnkigfgpaa", sum := "98bfb3237a69d2c939036c0f23d49597721aacbbaf8bae42a231ec8761542e37", func := "codemason/codemasonlaw.PointRuns", spec := "pointRuns", unfollowed := true, recurses := true, plainKeys := false, apart := false }
def PointRunsSaid : Prop := pointRunsRow.holds Try.pinned (OpenSpec.ofChange pointRunsSpec)

/-- ITS FALSE NEIGHBOUR: 'it returns false'. Refute it at one input. -/
def pointRunsWrong : ChangeSpec := { name := "pointRuns", fn := fun _ => fun
  | [d1, d2, d3] => { results := [.lit (.bool false)], args := [d1, d2, d3] }
  | _ => none }
def PointRunsWrongFalsely : Prop := pointRunsRow.holds Try.pinned (OpenSpec.ofChange pointRunsWrong)

/-- 'codemasonkeep.PointSafe': WHATEVER THE INPUT: true; the input reads as it did. -/
def pointSafeSpec : ChangeSpec := { name := "pointSafe", fn := fun _ => fun
  | [d1, d2, d3] => { results := [.lit (.bool true)], args := [d1, d2, d3] }
  | _ => none }
def pointSafeRow : OpenClaim := { program := "ytfbnmgnkigfgpaa", sum := "98bfb3237a69d2c939036c0f23d49597721aacbbaf8bae42a231ec8761542e37", func := "codemason/codemasonkeep.PointSafe", spec := "pointSafe", unfollowed := true, recurses := true, plainKeys := false, apart := false }
def PointSafeSaid : Prop := pointSafeRow.holds Try.pinned (OpenSpec.ofChange pointSafeSpec)

/-- ITS FALSE NEIGHBOUR: 'it returns false'. Refute it at one input. -/
def pointSafeWrong : ChangeSpec := { name := "pointSafe", fn := fun _ => fun
  | [d1, d2, d3] => { results := [.lit (.bool false)], args := [d1, d2, d3] }
  | _ => none }
def PointSafeWrongFalsely : Prop := pointSafeRow.holds Try.pinned (OpenSpec.ofChange pointSafeWrong)

/-- 'codemasonkeep.PointWider': WHATEVER THE INPUT: true; the input reads as it did. -/
def pointWiderSpec : ChangeSpec := { name := "pointWider", fn := fun _ => fun
  | [d1, d2] => { results := [.lit (.bool true)], args := [d1, d2] }
  | _ => none }
def pointWiderRow : OpenClaim := { program := "ytfbnmgnkigfgpaa", sum := "98bfb3237a69d2c939036c0f23d49597721aacbbaf8bae42a231ec8761542e37", func := "codemason/codemasonkeep.PointWider", spec := "pointWider", unfollowed := true, recurses := true, plainKeys := false, apart := false }
def PointWiderSaid : Prop := pointWiderRow.holds Try.pinned (OpenSpec.ofChange pointWiderSpec)

/-- ITS FALSE NEIGHBOUR: 'it returns false'. Refute it at one input. -/
def pointWiderWrong : ChangeSpec := { name := "pointWider", fn := fun _ => fun
  | [d1, d2] => { results := [.lit (.bool false)], args := [d1, d2] }
  | _ => none }
def PointWiderWrongFalsely : Prop := pointWiderRow.holds Try.pinned (OpenSpec.ofChange pointWiderWrong)

/-- 'codemasonkeep.PointMore': WHATEVER THE INPUT: true; the input reads as it did. -/
def pointMoreSpec : ChangeSpec := { name := "pointMore", fn := fun _ => fun
  | [d1, d2, d3] => { results := [.lit (.bool true)], args := [d1, d2, d3] }
  | _ => none }
def pointMoreRow : OpenClaim := { program := "ytfbnmgnkigfgpaa", sum := "98bfb3237a69d2c939036c0f23d49597721aacbbaf8bae42a231ec8761542e37", func := "codemason/codemasonkeep.PointMore", spec := "pointMore", unfollowed := true, recurses := true, plainKeys := false, apart := false }
def PointMoreSaid : Prop := pointMoreRow.holds Try.pinned (OpenSpec.ofChange pointMoreSpec)

/-- ITS FALSE NEIGHBOUR: 'it returns false'. Refute it at one input. -/
def pointMoreWrong : ChangeSpec := { name := "pointMore", fn := fun _ => fun
  | [d1, d2, d3] => { results := [.lit (.bool false)], args := [d1, d2, d3] }
  | _ => none }
def PointMoreWrongFalsely : Prop := pointMoreRow.holds Try.pinned (OpenSpec.ofChange pointMoreWrong)

/- THE SECOND FORM. 'bulk': how many values and letters a reading holds, each counted each time it is reached (what is shared counts as often as it is met; a slice's spare places count too). A statement '..UptoSaid' is the law's where the arguments, and the package variables that the reading takes, are together of bulk at most 1048576: NARROWER than '..Said'. Prove '..Said' where nothing that the law and all that it calls make is longer than what came in: it says more and counts as full. Else prove '..UptoSaid'. A law counts once. -/
mutual
def uptoBulk {H : Type} : DataW H → Nat
  | .lit (.string bytes) => bytes.length + 1
  | .lit _ => 1
  | .nil => 1
  | .ptr d => uptoBulk d + 1
  | .slice elems spare => uptoBulkAll elems + uptoBulkAll spare + 1
  | .agg parts => uptoBulkAll parts + 1
  | .iface _ d => uptoBulk d + 1
  | .map entries => uptoBulkEntries entries + 1
  | .held _ => 1
def uptoBulkAll {H : Type} : List (DataW H) → Nat
  | [] => 0
  | d :: r => uptoBulk d + uptoBulkAll r
def uptoBulkEntries {H : Type} : List (Lit × DataW H) → Nat
  | [] => 0
  | x :: r => uptoBulkEntry x + uptoBulkEntries r
def uptoBulkEntry {H : Type} : Lit × DataW H → Nat
  | (.string bytes, d) => bytes.length + uptoBulk d + 1
  | (_, d) => uptoBulk d + 1
 end
def uptoSmall : (H : Type) → List (DataW H) → Bool := fun _ ds => decide (uptoBulkAll ds ≤ 1048576)
def OpenSpec.upto (s : _root_.Go.ChangeSpec) : _root_.Go.OpenSpec := { _root_.Go.OpenSpec.ofChange s with cond := some uptoSmall }

/-- 'codemasonlaw.PointWithins', WHERE WHAT IT READS IS OF BULK AT MOST 1048576: true; the input reads as it did. -/
def pointWithinsUptoRow : OpenClaim := { program := "ytfbnmgnkigfgpaa", sum := "98bfb3237a69d2c939036c0f23d49597721aacbbaf8bae42a231ec8761542e37", func := "codemason/codemasonlaw.PointWithins", spec := "pointWithins", unfollowed := true, recurses := true, plainKeys := false, apart := false, narrowed := true }
def PointWithinsUptoSaid : Prop := pointWithinsUptoRow.holds Try.pinned (OpenSpec.upto pointWithinsSpec)

/-- 'codemasonlaw.PointJoins', WHERE WHAT IT READS IS OF BULK AT MOST 1048576: true; the input reads as it did. -/
def pointJoinsUptoRow : OpenClaim := { program := "ytfbnmgnkigfgpaa", sum := "98bfb3237a69d2c939036c0f23d49597721aacbbaf8bae42a231ec8761542e37", func := "codemason/codemasonlaw.PointJoins", spec := "pointJoins", unfollowed := true, recurses := true, plainKeys := false, apart := false, narrowed := true }
def PointJoinsUptoSaid : Prop := pointJoinsUptoRow.holds Try.pinned (OpenSpec.upto pointJoinsSpec)

/-- 'codemasonlaw.PointRuns', WHERE WHAT IT READS IS OF BULK AT MOST 1048576: true; the input reads as it did. -/
def pointRunsUptoRow : OpenClaim := { program := "ytfbnmgnkigfgpaa", sum := "98bfb3237a69d2c939036c0f23d49597721aacbbaf8bae42a231ec8761542e37", func := "codemason/codemasonlaw.PointRuns", spec := "pointRuns", unfollowed := true, recurses := true, plainKeys := false, apart := false, narrowed := true }
def PointRunsUptoSaid : Prop := pointRunsUptoRow.holds Try.pinned (OpenSpec.upto pointRunsSpec)

/-- 'codemasonkeep.PointSafe', WHERE WHAT IT READS IS OF BULK AT MOST 1048576: true; the input reads as it did. -/
def pointSafeUptoRow : OpenClaim := { program := "ytfbnmgnkigfgpaa", sum := "98bfb3237a69d2c939036c0f23d49597721aacbbaf8bae42a231ec8761542e37", func := "codemason/codemasonkeep.PointSafe", spec := "pointSafe", unfollowed := true, recurses := true, plainKeys := false, apart := false, narrowed := true }
def PointSafeUptoSaid : Prop := pointSafeUptoRow.holds Try.pinned (OpenSpec.upto pointSafeSpec)

/-- 'codemasonkeep.PointWider', WHERE WHAT IT READS IS OF BULK AT MOST 1048576: true; the input reads as it did. -/
def pointWiderUptoRow : OpenClaim := { program := "ytfbnmgnkigfgpaa", sum := "98bfb3237a69d2c939036c0f23d49597721aacbbaf8bae42a231ec8761542e37", func := "codemason/codemasonkeep.PointWider", spec := "pointWider", unfollowed := true, recurses := true, plainKeys := false, apart := false, narrowed := true }
def PointWiderUptoSaid : Prop := pointWiderUptoRow.holds Try.pinned (OpenSpec.upto pointWiderSpec)

/-- 'codemasonkeep.PointMore', WHERE WHAT IT READS IS OF BULK AT MOST 1048576: true; the input reads as it did. -/
def pointMoreUptoRow : OpenClaim := { program := "ytfbnmgnkigfgpaa", sum := "98bfb3237a69d2c939036c0f23d49597721aacbbaf8bae42a231ec8761542e37", func := "codemason/codemasonkeep.PointMore", spec := "pointMore", unfollowed := true, recurses := true, plainKeys := false, apart := false, narrowed := true }
def PointMoreUptoSaid : Prop := pointMoreUptoRow.holds Try.pinned (OpenSpec.upto pointMoreSpec)

end Rows
end Go.Proofs.Ytfbnmgnkigfgpaa
