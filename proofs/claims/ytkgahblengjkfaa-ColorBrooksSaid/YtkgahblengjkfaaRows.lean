/-
  No cell of these rows narrows 'for every input' (looked for: loops, veiled, ifaces, maps, wideKeys, modest, calm, conditions, laid).
  DERIVED. THE GIVEN ROWS OF THIS SEAT. 7 by the template 'for every input the law returns true; each argument reads behind the call as it read before'; 0 by the template 'total and deterministic' (their statements: YtkgahblengjkfaaTotals.lean).
  GIVEN WITH THE SEED: the statements are not yours to turn. If you find one false, say at which input.
  Laid BY PROGRAM, IN A SANDBOX (cutbox-rows.mjs): the forced cells as the released guide's own fill.sh prints them over the translation 8a7d0427948e966d… (all of the seat's roots in one cut). By AI agents, Wed Nov 11 2026. No macro, syntax, notation, axiom, sorry.
-/
import Derived.Test.YtkgahblengjkfaaChecked
import GoSem.Claim
import GoSem.ClaimJoined
import GoSem.ClaimMapViews
import Derived.JoinedTies
import Derived.KernelRfl
namespace Go.Proofs.Ytkgahblengjkfaa
/- THE CELL 'sum', in the pinned program and in every row, IS THE sha256 OF THE DUMP (.gsa) THAT YtkgahblengjkfaaProg.lean LOADS. Nothing in Lean hashes anything: it is a label: what it is worth is what the hold of that sum in a sandbox is worth. -/
noncomputable def Try.pinned : Pinned := { name := "ytkgahblengjkfaa", sum := "8a7d0427948e966dafb33f28f16be4cfa576a0e077cb6e925557f167895924a7", checked := Try.checked }
namespace Rows
def none {H : Type} : Left H := { results := [], args := [] }

/-- 'codemasonlaw.ColorLeasts': WHATEVER THE INPUT: true; the input reads as it did. -/
def colorLeastsSpec : ChangeSpec := { name := "colorLeasts", fn := fun _ => fun
  | [d1, d2] => { results := [.lit (.bool true)], args := [d1, d2] }
  | _ => none }
def colorLeastsRow : OpenClaim := { program := "ytkgahblengjkfaa", sum := "8a7d0427948e966dafb33f28f16be4cfa576a0e077cb6e925557f167895924a7", func := "codemason/codemasonlaw.ColorLeasts", spec := "colorLeasts", recurses := true, apart := false }
def ColorLeastsSaid : Prop := colorLeastsRow.holds Try.pinned (OpenSpec.ofChange colorLeastsSpec)

/-- ITS FALSE NEIGHBOUR: 'it returns false'. Refute it at one input. -/
def colorLeastsWrong : ChangeSpec := { name := "colorLeasts", fn := fun _ => fun
  | [d1, d2] => { results := [.lit (.bool false)], args := [d1, d2] }
  | _ => none }
def ColorLeastsWrongFalsely : Prop := colorLeastsRow.holds Try.pinned (OpenSpec.ofChange colorLeastsWrong)

/-- 'codemasonlaw.ColorPeels': WHATEVER THE INPUT: true; the input reads as it did. -/
def colorPeelsSpec : ChangeSpec := { name := "colorPeels", fn := fun _ => fun
  | [d1, d2, d3] => { results := [.lit (.bool true)], args := [d1, d2, d3] }
  | _ => none }
def colorPeelsRow : OpenClaim := { program := "ytkgahblengjkfaa", sum := "8a7d0427948e966dafb33f28f16be4cfa576a0e077cb6e925557f167895924a7", func := "codemason/codemasonlaw.ColorPeels", spec := "colorPeels", unfollowed := true, recurses := true, apart := false }
def ColorPeelsSaid : Prop := colorPeelsRow.holds Try.pinned (OpenSpec.ofChange colorPeelsSpec)

/-- ITS FALSE NEIGHBOUR: 'it returns false'. Refute it at one input. -/
def colorPeelsWrong : ChangeSpec := { name := "colorPeels", fn := fun _ => fun
  | [d1, d2, d3] => { results := [.lit (.bool false)], args := [d1, d2, d3] }
  | _ => none }
def ColorPeelsWrongFalsely : Prop := colorPeelsRow.holds Try.pinned (OpenSpec.ofChange colorPeelsWrong)

/-- 'codemasonlaw.ColorPerfects': WHATEVER THE INPUT: true; the input reads as it did. -/
def colorPerfectsSpec : ChangeSpec := { name := "colorPerfects", fn := fun _ => fun
  | [d1, d2] => { results := [.lit (.bool true)], args := [d1, d2] }
  | _ => none }
def colorPerfectsRow : OpenClaim := { program := "ytkgahblengjkfaa", sum := "8a7d0427948e966dafb33f28f16be4cfa576a0e077cb6e925557f167895924a7", func := "codemason/codemasonlaw.ColorPerfects", spec := "colorPerfects", unfollowed := true, recurses := true, apart := false }
def ColorPerfectsSaid : Prop := colorPerfectsRow.holds Try.pinned (OpenSpec.ofChange colorPerfectsSpec)

/-- ITS FALSE NEIGHBOUR: 'it returns false'. Refute it at one input. -/
def colorPerfectsWrong : ChangeSpec := { name := "colorPerfects", fn := fun _ => fun
  | [d1, d2] => { results := [.lit (.bool false)], args := [d1, d2] }
  | _ => none }
def ColorPerfectsWrongFalsely : Prop := colorPerfectsRow.holds Try.pinned (OpenSpec.ofChange colorPerfectsWrong)

/-- 'codemasonlaw.ColorCliques': WHATEVER THE INPUT: true; the input reads as it did. -/
def colorCliquesSpec : ChangeSpec := { name := "colorCliques", fn := fun _ => fun
  | [d1, d2] => { results := [.lit (.bool true)], args := [d1, d2] }
  | _ => none }
def colorCliquesRow : OpenClaim := { program := "ytkgahblengjkfaa", sum := "8a7d0427948e966dafb33f28f16be4cfa576a0e077cb6e925557f167895924a7", func := "codemason/codemasonlaw.ColorCliques", spec := "colorCliques", apart := false }
def ColorCliquesSaid : Prop := colorCliquesRow.holds Try.pinned (OpenSpec.ofChange colorCliquesSpec)

/-- ITS FALSE NEIGHBOUR: 'it returns false'. Refute it at one input. -/
def colorCliquesWrong : ChangeSpec := { name := "colorCliques", fn := fun _ => fun
  | [d1, d2] => { results := [.lit (.bool false)], args := [d1, d2] }
  | _ => none }
def ColorCliquesWrongFalsely : Prop := colorCliquesRow.holds Try.pinned (OpenSpec.ofChange colorCliquesWrong)

/-- 'codemasonkeep.ColorKempe': WHATEVER THE INPUT: true; the input reads as it did. -/
def colorKempeSpec : ChangeSpec := { name := "colorKempe", fn := fun _ => fun
  | [d1, d2, d3] => { results := [.lit (.bool true)], args := [d1, d2, d3] }
  | _ => none }
def colorKempeRow : OpenClaim := { program := "ytkgahblengjkfaa", sum := "8a7d0427948e966dafb33f28f16be4cfa576a0e077cb6e925557f167895924a7", func := "codemason/codemasonkeep.ColorKempe", spec := "colorKempe", unfollowed := true, recurses := true, apart := false }
def ColorKempeSaid : Prop := colorKempeRow.holds Try.pinned (OpenSpec.ofChange colorKempeSpec)

/-- ITS FALSE NEIGHBOUR: 'it returns false'. Refute it at one input. -/
def colorKempeWrong : ChangeSpec := { name := "colorKempe", fn := fun _ => fun
  | [d1, d2, d3] => { results := [.lit (.bool false)], args := [d1, d2, d3] }
  | _ => none }
def ColorKempeWrongFalsely : Prop := colorKempeRow.holds Try.pinned (OpenSpec.ofChange colorKempeWrong)

/-- 'codemasonkeep.ColorLeast': WHATEVER THE INPUT: true; the input reads as it did. -/
def colorLeastSpec : ChangeSpec := { name := "colorLeast", fn := fun _ => fun
  | [d1, d2] => { results := [.lit (.bool true)], args := [d1, d2] }
  | _ => none }
def colorLeastRow : OpenClaim := { program := "ytkgahblengjkfaa", sum := "8a7d0427948e966dafb33f28f16be4cfa576a0e077cb6e925557f167895924a7", func := "codemason/codemasonkeep.ColorLeast", spec := "colorLeast", recurses := true, apart := false }
def ColorLeastSaid : Prop := colorLeastRow.holds Try.pinned (OpenSpec.ofChange colorLeastSpec)

/-- ITS FALSE NEIGHBOUR: 'it returns false'. Refute it at one input. -/
def colorLeastWrong : ChangeSpec := { name := "colorLeast", fn := fun _ => fun
  | [d1, d2] => { results := [.lit (.bool false)], args := [d1, d2] }
  | _ => none }
def ColorLeastWrongFalsely : Prop := colorLeastRow.holds Try.pinned (OpenSpec.ofChange colorLeastWrong)

/-- 'codemasonkeep.ColorBrooks': WHATEVER THE INPUT: true; the input reads as it did. -/
def colorBrooksSpec : ChangeSpec := { name := "colorBrooks", fn := fun _ => fun
  | [d1, d2] => { results := [.lit (.bool true)], args := [d1, d2] }
  | _ => none }
def colorBrooksRow : OpenClaim := { program := "ytkgahblengjkfaa", sum := "8a7d0427948e966dafb33f28f16be4cfa576a0e077cb6e925557f167895924a7", func := "codemason/codemasonkeep.ColorBrooks", spec := "colorBrooks", recurses := true, apart := false }
def ColorBrooksSaid : Prop := colorBrooksRow.holds Try.pinned (OpenSpec.ofChange colorBrooksSpec)

/-- ITS FALSE NEIGHBOUR: 'it returns false'. Refute it at one input. -/
def colorBrooksWrong : ChangeSpec := { name := "colorBrooks", fn := fun _ => fun
  | [d1, d2] => { results := [.lit (.bool false)], args := [d1, d2] }
  | _ => none }
def ColorBrooksWrongFalsely : Prop := colorBrooksRow.holds Try.pinned (OpenSpec.ofChange colorBrooksWrong)

/- THE SECOND FORM. 'bulk': how many values and letters a reading holds, each counted each time it is reached (what is shared counts as often as it is met; a slice's spare places count too). A statement '..UptoSaid' is the law's where the arguments, and the package variables that the reading takes, are together of bulk at most 1048576: NARROWER than '..Said'. Prove '..Said' where nothing that the law and all that it calls make is longer than what came in: it says more and counts as full. Else prove '..UptoSaid'. A law counts once. -/
mutual
def uptoBulk {H : Type} : DataW H → Nat
  | .lit (.string bytes) => bytes.length + 1
  | .lit _ => 1
  | .nil => 1
  | .ptr d => uptoBulk d + 1
  | .slice elems spare => uptoBulkAll elems + uptoBulkAll spare + 1
  | .agg parts => uptoBulkAll parts + 1
  | .iface _ d => uptoBulk d + 1
  | .map entries => uptoBulkEntries entries + 1
  | .held _ => 1
def uptoBulkAll {H : Type} : List (DataW H) → Nat
  | [] => 0
  | d :: r => uptoBulk d + uptoBulkAll r
def uptoBulkEntries {H : Type} : List (Lit × DataW H) → Nat
  | [] => 0
  | x :: r => uptoBulkEntry x + uptoBulkEntries r
def uptoBulkEntry {H : Type} : Lit × DataW H → Nat
  | (.string bytes, d) => bytes.length + uptoBulk d + 1
  | (_, d) => uptoBulk d + 1
 end
def uptoSmall : (H : Type) → List (DataW H) → Bool := fun _ ds => decide (uptoBulkAll ds ≤ 1048576)
def OpenSpec.upto (s : _root_.Go.ChangeSpec) : _root_.Go.OpenSpec := { _root_.Go.OpenSpec.ofChange s with cond := some uptoSmall }

/-- 'codemasonlaw.ColorLeasts', WHERE WHAT IT READS IS OF BULK AT MOST 1048576: true; the input reads as it did. -/
def colorLeastsUptoRow : OpenClaim := { program := "ytkgahblengjkfaa", sum := "8a7d0427948e966dafb33f28f16be4cfa576a0e077cb6e925557f167895924a7", func := "codemason/codemasonlaw.ColorLeasts", spec := "colorLeasts", recurses := true, apart := false, narrowed := true }
def ColorLeastsUptoSaid : Prop := colorLeastsUptoRow.holds Try.pinned (OpenSpec.upto colorLeastsSpec)

/-- 'codemasonlaw.ColorPeels', WHERE WHAT IT READS IS OF BULK AT MOST 1048576: true; the input reads as it did. -/
def colorPeelsUptoRow : OpenClaim := { program := "ytkgahblengjkfaa", sum := "8a7d0427948e966dafb33f28f16be4cfa576a0e077cb6e925557f167895924a7", func := "codemason/codemasonlaw.ColorPeels", spec := "colorPeels", unfollowed := true, recurses := true, apart := false, narrowed := true }
def ColorPeelsUptoSaid : Prop := colorPeelsUptoRow.holds Try.pinned (OpenSpec.upto colorPeelsSpec)

/-- 'codemasonlaw.ColorPerfects', WHERE WHAT IT READS IS OF BULK AT MOST 1048576: true; the input reads as it did. -/
def colorPerfectsUptoRow : OpenClaim := { program := "ytkgahblengjkfaa", sum := "8a7d0427948e966dafb33f28f16be4cfa576a0e077cb6e925557f167895924a7", func := "codemason/codemasonlaw.ColorPerfects", spec := "colorPerfects", unfollowed := true, recurses := true, apart := false, narrowed := true }
def ColorPerfectsUptoSaid : Prop := colorPerfectsUptoRow.holds Try.pinned (OpenSpec.upto colorPerfectsSpec)

/-- 'codemasonlaw.ColorCliques', WHERE WHAT IT READS IS OF BULK AT MOST 1048576: true; the input reads as it did. -/
def colorCliquesUptoRow : OpenClaim := { program := "ytkgahblengjkfaa", sum := "8a7d0427948e966dafb33f28f16be4cfa576a0e077cb6e925557f167895924a7", func := "codemason/codemasonlaw.ColorCliques", spec := "colorCliques", apart := false, narrowed := true }
def ColorCliquesUptoSaid : Prop := colorCliquesUptoRow.holds Try.pinned (OpenSpec.upto colorCliquesSpec)

/-- 'codemasonkeep.ColorKempe', WHERE WHAT IT READS IS OF BULK AT MOST 1048576: true; the input reads as it did. -/
def colorKempeUptoRow : OpenClaim := { program := "ytkgahblengjkfaa", sum := "8a7d0427948e966dafb33f28f16be4cfa576a0e077cb6e925557f167895924a7", func := "codemason/codemasonkeep.ColorKempe", spec := "colorKempe", unfollowed := true, recurses := true, apart := false, narrowed := true }
def ColorKempeUptoSaid : Prop := colorKempeUptoRow.holds Try.pinned (OpenSpec.upto colorKempeSpec)

/-- 'codemasonkeep.ColorLeast', WHERE WHAT IT READS IS OF BULK AT MOST 1048576: true; the input reads as it did. -/
def colorLeastUptoRow : OpenClaim := { program := "ytkgahblengjkfaa", sum := "8a7d0427948e966dafb33f28f16be4cfa576a0e077cb6e925557f167895924a7", func := "codemason/codemasonkeep.ColorLeast", spec := "colorLeast", recurses := true, apart := false, narrowed := true }
def ColorLeastUptoSaid : Prop := colorLeastUptoRow.holds Try.pinned (OpenSpec.upto colorLeastSpec)

/-- 'codemasonkeep.ColorBrooks', WHERE WHAT IT READS IS OF BULK AT MOST 1048576: true; the input reads as it did. -/
def colorBrooksUptoRow : OpenClaim := { program := "ytkgahblengjkfaa", sum := "8a7d0427948e966dafb33f28f16be4cfa576a0e077cb6e925557f167895924a7", func := "codemason/codemasonkeep.ColorBrooks", spec := "colorBrooks", recurses := true, apart := false, narrowed := true }
def ColorBrooksUptoSaid : Prop := colorBrooksUptoRow.holds Try.pinned (OpenSpec.upto colorBrooksSpec)

end Rows
end Go.Proofs.Ytkgahblengjkfaa
