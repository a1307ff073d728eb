/-
  No cell of these rows narrows 'for every input' (looked for: loops, veiled, ifaces, maps, wideKeys, modest, calm, conditions, laid).
  DERIVED. THE GIVEN ROWS OF THIS SEAT. 6 by the template 'for every input the law returns true; each argument reads behind the call as it read before'; 0 by the template 'total and deterministic' (their statements: YtacokdghfkpdpaaTotals.lean).
  GIVEN WITH THE SEED: the statements are not yours to turn. If you find one false, say at which input.
  Laid BY PROGRAM, IN A SANDBOX (cutbox-rows.mjs): the forced cells as the released guide's own fill.sh prints them over the translation 966955ca538803b9… (all of the seat's roots in one cut). By AI agents, Wed Nov 11 2026. No macro, syntax, notation, axiom, sorry.
-/
import Derived.Test.YtacokdghfkpdpaaChecked
import GoSem.Claim
import GoSem.ClaimJoined
import GoSem.ClaimMapViews
import Derived.JoinedTies
import Derived.KernelRfl
namespace Go.Proofs.Ytacokdghfkpdpaa
/- THE CELL 'sum', in the pinned program and in every row, IS THE sha256 OF THE DUMP (.gsa) THAT YtacokdghfkpdpaaProg.lean LOADS. Nothing in Lean hashes anything: it is a label: what it is worth is what the hold of that sum in a sandbox is worth. -/
noncomputable def Try.pinned : Pinned := { name := "ytacokdghfkpdpaa", sum := "966955ca538803b991453fecc9e10d921e487db6374d7e7f3fe7d8842bfe30e5", checked := Try.checked }
namespace Rows
def none {H : Type} : Left H := { results := [], args := [] }

/-- 'codemasonlaw.TermFolds': WHATEVER THE INPUT: true; the input reads as it did. -/
def termFoldsSpec : ChangeSpec := { name := "termFolds", fn := fun _ => fun
  | [d1, d2, d3] => { results := [.lit (.bool true)], args := [d1, d2, d3] }
  | _ => none }
def termFoldsRow : OpenClaim := { program := "ytacokdghfkpdpaa", sum := "966955ca538803b991453fecc9e10d921e487db6374d7e7f3fe7d8842bfe30e5", func := "codemason/codemasonlaw.TermFolds", spec := "termFolds", unfollowed := true, recurses := true, plainKeys := false, apart := false }
def TermFoldsSaid : Prop := termFoldsRow.holds Try.pinned (OpenSpec.ofChange termFoldsSpec)

/-- ITS FALSE NEIGHBOUR: 'it returns false'. Refute it at one input. -/
def termFoldsWrong : ChangeSpec := { name := "termFolds", fn := fun _ => fun
  | [d1, d2, d3] => { results := [.lit (.bool false)], args := [d1, d2, d3] }
  | _ => none }
def TermFoldsWrongFalsely : Prop := termFoldsRow.holds Try.pinned (OpenSpec.ofChange termFoldsWrong)

/-- 'codemasonkeep.TermFold': WHATEVER THE INPUT: true; the input reads as it did. -/
def termFoldSpec : ChangeSpec := { name := "termFold", fn := fun _ => fun
  | [d1, d2] => { results := [.lit (.bool true)], args := [d1, d2] }
  | _ => none }
def termFoldRow : OpenClaim := { program := "ytacokdghfkpdpaa", sum := "966955ca538803b991453fecc9e10d921e487db6374d7e7f3fe7d8842bfe30e5", func := "codemason/codemasonkeep.TermFold", spec := "termFold", unfollowed := true, recurses := true, plainKeys := false, apart := false }
def TermFoldSaid : Prop := termFoldRow.holds Try.pinned (OpenSpec.ofChange termFoldSpec)

/-- ITS FALSE NEIGHBOUR: 'it returns false'. Refute it at one input. -/
def termFoldWrong : ChangeSpec := { name := "termFold", fn := fun _ => fun
  | [d1, d2] => { results := [.lit (.bool false)], args := [d1, d2] }
  | _ => none }
def TermFoldWrongFalsely : Prop := termFoldRow.holds Try.pinned (OpenSpec.ofChange termFoldWrong)

/-- 'codemasonlaw.ValueLeasts': WHATEVER THE INPUT: true; the input reads as it did. -/
def valueLeastsSpec : ChangeSpec := { name := "valueLeasts", fn := fun _ => fun
  | [d1, d2] => { results := [.lit (.bool true)], args := [d1, d2] }
  | _ => none }
def valueLeastsRow : OpenClaim := { program := "ytacokdghfkpdpaa", sum := "966955ca538803b991453fecc9e10d921e487db6374d7e7f3fe7d8842bfe30e5", func := "codemason/codemasonlaw.ValueLeasts", spec := "valueLeasts", unfollowed := true, recurses := true, plainKeys := false, apart := false }
def ValueLeastsSaid : Prop := valueLeastsRow.holds Try.pinned (OpenSpec.ofChange valueLeastsSpec)

/-- ITS FALSE NEIGHBOUR: 'it returns false'. Refute it at one input. -/
def valueLeastsWrong : ChangeSpec := { name := "valueLeasts", fn := fun _ => fun
  | [d1, d2] => { results := [.lit (.bool false)], args := [d1, d2] }
  | _ => none }
def ValueLeastsWrongFalsely : Prop := valueLeastsRow.holds Try.pinned (OpenSpec.ofChange valueLeastsWrong)

/-- 'codemasonlaw.ValueSames': WHATEVER THE INPUT: true; the input reads as it did. -/
def valueSamesSpec : ChangeSpec := { name := "valueSames", fn := fun _ => fun
  | [d1, d2, d3, d4] => { results := [.lit (.bool true)], args := [d1, d2, d3, d4] }
  | _ => none }
def valueSamesRow : OpenClaim := { program := "ytacokdghfkpdpaa", sum := "966955ca538803b991453fecc9e10d921e487db6374d7e7f3fe7d8842bfe30e5", func := "codemason/codemasonlaw.ValueSames", spec := "valueSames", unfollowed := true, recurses := true, plainKeys := false, apart := false }
def ValueSamesSaid : Prop := valueSamesRow.holds Try.pinned (OpenSpec.ofChange valueSamesSpec)

/-- ITS FALSE NEIGHBOUR: 'it returns false'. Refute it at one input. -/
def valueSamesWrong : ChangeSpec := { name := "valueSames", fn := fun _ => fun
  | [d1, d2, d3, d4] => { results := [.lit (.bool false)], args := [d1, d2, d3, d4] }
  | _ => none }
def ValueSamesWrongFalsely : Prop := valueSamesRow.holds Try.pinned (OpenSpec.ofChange valueSamesWrong)

/-- 'codemasonkeep.ValueLeast': WHATEVER THE INPUT: true; the input reads as it did. -/
def valueLeastSpec : ChangeSpec := { name := "valueLeast", fn := fun _ => fun
  | [d1, d2, d3] => { results := [.lit (.bool true)], args := [d1, d2, d3] }
  | _ => none }
def valueLeastRow : OpenClaim := { program := "ytacokdghfkpdpaa", sum := "966955ca538803b991453fecc9e10d921e487db6374d7e7f3fe7d8842bfe30e5", func := "codemason/codemasonkeep.ValueLeast", spec := "valueLeast", unfollowed := true, recurses := true, plainKeys := false, apart := false }
def ValueLeastSaid : Prop := valueLeastRow.holds Try.pinned (OpenSpec.ofChange valueLeastSpec)

/-- ITS FALSE NEIGHBOUR: 'it returns false'. Refute it at one input. -/
def valueLeastWrong : ChangeSpec := { name := "valueLeast", fn := fun _ => fun
  | [d1, d2, d3] => { results := [.lit (.bool false)], args := [d1, d2, d3] }
  | _ => none }
def ValueLeastWrongFalsely : Prop := valueLeastRow.holds Try.pinned (OpenSpec.ofChange valueLeastWrong)

/-- 'codemasonkeep.ValueSame': WHATEVER THE INPUT: true; the input reads as it did. -/
def valueSameSpec : ChangeSpec := { name := "valueSame", fn := fun _ => fun
  | [d1, d2, d3, d4, d5, d6] => { results := [.lit (.bool true)], args := [d1, d2, d3, d4, d5, d6] }
  | _ => none }
def valueSameRow : OpenClaim := { program := "ytacokdghfkpdpaa", sum := "966955ca538803b991453fecc9e10d921e487db6374d7e7f3fe7d8842bfe30e5", func := "codemason/codemasonkeep.ValueSame", spec := "valueSame", unfollowed := true, recurses := true, plainKeys := false, apart := false }
def ValueSameSaid : Prop := valueSameRow.holds Try.pinned (OpenSpec.ofChange valueSameSpec)

/-- ITS FALSE NEIGHBOUR: 'it returns false'. Refute it at one input. -/
def valueSameWrong : ChangeSpec := { name := "valueSame", fn := fun _ => fun
  | [d1, d2, d3, d4, d5, d6] => { results := [.lit (.bool false)], args := [d1, d2, d3, d4, d5, d6] }
  | _ => none }
def ValueSameWrongFalsely : Prop := valueSameRow.holds Try.pinned (OpenSpec.ofChange valueSameWrong)

/- THE SECOND FORM. 'bulk': how many values and letters a reading holds, each counted each time it is reached (what is shared counts as often as it is met; a slice's spare places count too). A statement '..UptoSaid' is the law's where the arguments, and the package variables that the reading takes, are together of bulk at most 1048576: NARROWER than '..Said'. Prove '..Said' where nothing that the law and all that it calls make is longer than what came in: it says more and counts as full. Else prove '..UptoSaid'. A law counts once. -/
mutual
def uptoBulk {H : Type} : DataW H → Nat
  | .lit (.string bytes) => bytes.length + 1
  | .lit _ => 1
  | .nil => 1
  | .ptr d => uptoBulk d + 1
  | .slice elems spare => uptoBulkAll elems + uptoBulkAll spare + 1
  | .agg parts => uptoBulkAll parts + 1
  | .iface _ d => uptoBulk d + 1
  | .map entries => uptoBulkEntries entries + 1
  | .held _ => 1
def uptoBulkAll {H : Type} : List (DataW H) → Nat
  | [] => 0
  | d :: r => uptoBulk d + uptoBulkAll r
def uptoBulkEntries {H : Type} : List (Lit × DataW H) → Nat
  | [] => 0
  | x :: r => uptoBulkEntry x + uptoBulkEntries r
def uptoBulkEntry {H : Type} : Lit × DataW H → Nat
  | (.string bytes, d) => bytes.length + uptoBulk d + 1
  | (_, d) => uptoBulk d + 1
 end
def uptoSmall : (H : Type) → List (DataW H) → Bool := fun _ ds => decide (uptoBulkAll ds ≤ 1048576)
def OpenSpec.upto (s : _root_.Go.ChangeSpec) : _root_.Go.OpenSpec := { _root_.Go.OpenSpec.ofChange s with cond := some uptoSmall }

/-- 'codemasonlaw.TermFolds', WHERE WHAT IT READS IS OF BULK AT MOST 1048576: true; the input reads as it did. -/
def termFoldsUptoRow : OpenClaim := { program := "ytacokdghfkpdpaa", sum := "966955ca538803b991453fecc9e10d921e487db6374d7e7f3fe7d8842bfe30e5", func := "codemason/codemasonlaw.TermFolds", spec := "termFolds", unfollowed := true, recurses := true, plainKeys := false, apart := false, narrowed := true }
def TermFoldsUptoSaid : Prop := termFoldsUptoRow.holds Try.pinned (OpenSpec.upto termFoldsSpec)

/-- 'codemasonkeep.TermFold', WHERE WHAT IT READS IS OF BULK AT MOST 1048576: true; the input reads as it did. -/
def termFoldUptoRow : OpenClaim := { program := "ytacokdghfkpdpaa", sum := "966955ca538803b991453fecc9e10d921e487db6374d7e7f3fe7d8842bfe30e5", func := "codemason/codemasonkeep.TermFold", spec := "termFold", unfollowed := true, recurses := true, plainKeys := false, apart := false, narrowed := true }
def TermFoldUptoSaid : Prop := termFoldUptoRow.holds Try.pinned (OpenSpec.upto termFoldSpec)

/-- 'codemasonlaw.ValueLeasts', WHERE WHAT IT READS IS OF BULK AT MOST 1048576: true; the input reads as it did. -/
def valueLeastsUptoRow : OpenClaim := { program := "ytacokdghfkpdpaa", sum := "966955ca538803b991453fecc9e10d921e487db6374d7e7f3fe7d8842bfe30e5", func := "codemason/codemasonlaw.ValueLeasts", spec := "valueLeasts", unfollowed := true, recurses := true, plainKeys := false, apart := false, narrowed := true }
def ValueLeastsUptoSaid : Prop := valueLeastsUptoRow.holds Try.pinned (OpenSpec.upto valueLeastsSpec)

/-- 'codemasonlaw.ValueSames', WHERE WHAT IT READS IS OF BULK AT MOST 1048576: true; the input reads as it did. -/
def valueSamesUptoRow : OpenClaim := { program := "ytacokdghfkpdpaa", sum := "966955ca538803b991453fecc9e10d921e487db6374d7e7f3fe7d8842bfe30e5", func := "codemason/codemasonlaw.ValueSames", spec := "valueSames", unfollowed := true, recurses := true, plainKeys := false, apart := false, narrowed := true }
def ValueSamesUptoSaid : Prop := valueSamesUptoRow.holds Try.pinned (OpenSpec.upto valueSamesSpec)

/-- 'codemasonkeep.ValueLeast', WHERE WHAT IT READS IS OF BULK AT MOST 1048576: true; the input reads as it did. -/
def valueLeastUptoRow : OpenClaim := { program := "ytacokdghfkpdpaa", sum := "966955ca538803b991453fecc9e10d921e487db6374d7e7f3fe7d8842bfe30e5", func := "codemason/codemasonkeep.ValueLeast", spec := "valueLeast", unfollowed := true, recurses := true, plainKeys := false, apart := false, narrowed := true }
def ValueLeastUptoSaid : Prop := valueLeastUptoRow.holds Try.pinned (OpenSpec.upto valueLeastSpec)

/-- 'codemasonkeep.ValueSame', WHERE WHAT IT READS IS OF BULK AT MOST 1048576: true; the input reads as it did. -/
def valueSameUptoRow : OpenClaim := { program := "ytacokdghfkpdpaa", sum := "966955ca538803b991453fecc9e10d921e487db6374d7e7f3fe7d8842bfe30e5", func := "codemason/codemasonkeep.ValueSame", spec := "valueSame", unfollowed := true, recurses := true, plainKeys := false, apart := false, narrowed := true }
def ValueSameUptoSaid : Prop := valueSameUptoRow.holds Try.pinned (OpenSpec.upto valueSameSpec)

end Rows
end Go.Proofs.Ytacokdghfkpdpaa
