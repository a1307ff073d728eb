/-
  No cell of these rows narrows 'for every input' (looked for: loops, veiled, ifaces, maps, wideKeys, modest, calm, conditions, laid).
  DERIVED. THE GIVEN ROWS OF THIS SEAT. 4 by the template 'for every input the law returns true; each argument reads behind the call as it read before'; 0 by the template 'total and deterministic' (their statements: YteogdcjigigeeaaTotals.lean).
  GIVEN WITH THE SEED: the statements are not yours to turn. If you find one false, say at which input.
  Laid BY PROGRAM, IN A SANDBOX (cutbox-rows.mjs): the forced cells as the released guide's own fill.sh prints them over the translation c0dcf065686ba316… (all of the seat's roots in one cut). By AI agents, Wed Nov 11 2026. No macro, syntax, notation, axiom, sorry.
-/
import Derived.Test.YteogdcjigigeeaaChecked
import GoSem.Claim
import GoSem.ClaimJoined
import GoSem.ClaimMapViews
import Derived.JoinedTies
import Derived.KernelRfl
namespace Go.Proofs.Yteogdcjigigeeaa
/- THE CELL 'sum', in the pinned program and in every row, IS THE sha256 OF THE DUMP (.gsa) THAT YteogdcjigigeeaaProg.lean LOADS. Nothing in Lean hashes anything: it is a label: what it is worth is what the hold of that sum in a sandbox is worth. -/
noncomputable def Try.pinned : Pinned := { name := "yteogdcjigigeeaa", sum := "c0dcf065686ba316a12135db79a7c665c053a905bbbebdde1be9f15706c59bb5", checked := Try.checked }
namespace Rows
def none {H : Type} : Left H := { results := [], args := [] }

/-- 'codemasonlaw.TileCosts': WHATEVER THE INPUT: true; the input reads as it did. -/
def tileCostsSpec : ChangeSpec := { name := "tileCosts", fn := fun _ => fun
  | [d1, d2, d3] => { results := [.lit (.bool true)], args := [d1, d2, d3] }
  | _ => none }
def tileCostsRow : OpenClaim := { program := "yteogdcjigigeeaa", sum := "c0dcf065686ba316a12135db79a7c665c053a905bbbebdde1be9f15706c59bb5", func := "codemason/codemasonlaw.TileCosts", spec := "tileCosts", unfollowed := true, recurses := true, apart := false }
def TileCostsSaid : Prop := tileCostsRow.holds Try.pinned (OpenSpec.ofChange tileCostsSpec)

/-- ITS FALSE NEIGHBOUR: 'it returns false'. Refute it at one input. -/
def tileCostsWrong : ChangeSpec := { name := "tileCosts", fn := fun _ => fun
  | [d1, d2, d3] => { results := [.lit (.bool false)], args := [d1, d2, d3] }
  | _ => none }
def TileCostsWrongFalsely : Prop := tileCostsRow.holds Try.pinned (OpenSpec.ofChange tileCostsWrong)

/-- 'codemasonlaw.TileCovers': WHATEVER THE INPUT: true; the input reads as it did. -/
def tileCoversSpec : ChangeSpec := { name := "tileCovers", fn := fun _ => fun
  | [d1, d2, d3] => { results := [.lit (.bool true)], args := [d1, d2, d3] }
  | _ => none }
def tileCoversRow : OpenClaim := { program := "yteogdcjigigeeaa", sum := "c0dcf065686ba316a12135db79a7c665c053a905bbbebdde1be9f15706c59bb5", func := "codemason/codemasonlaw.TileCovers", spec := "tileCovers", unfollowed := true, recurses := true, apart := false }
def TileCoversSaid : Prop := tileCoversRow.holds Try.pinned (OpenSpec.ofChange tileCoversSpec)

/-- ITS FALSE NEIGHBOUR: 'it returns false'. Refute it at one input. -/
def tileCoversWrong : ChangeSpec := { name := "tileCovers", fn := fun _ => fun
  | [d1, d2, d3] => { results := [.lit (.bool false)], args := [d1, d2, d3] }
  | _ => none }
def TileCoversWrongFalsely : Prop := tileCoversRow.holds Try.pinned (OpenSpec.ofChange tileCoversWrong)

/-- 'codemasonkeep.TileMore': WHATEVER THE INPUT: true; the input reads as it did. -/
def tileMoreSpec : ChangeSpec := { name := "tileMore", fn := fun _ => fun
  | [d1, d2, d3, d4] => { results := [.lit (.bool true)], args := [d1, d2, d3, d4] }
  | _ => none }
def tileMoreRow : OpenClaim := { program := "yteogdcjigigeeaa", sum := "c0dcf065686ba316a12135db79a7c665c053a905bbbebdde1be9f15706c59bb5", func := "codemason/codemasonkeep.TileMore", spec := "tileMore", unfollowed := true, recurses := true, apart := false }
def TileMoreSaid : Prop := tileMoreRow.holds Try.pinned (OpenSpec.ofChange tileMoreSpec)

/-- ITS FALSE NEIGHBOUR: 'it returns false'. Refute it at one input. -/
def tileMoreWrong : ChangeSpec := { name := "tileMore", fn := fun _ => fun
  | [d1, d2, d3, d4] => { results := [.lit (.bool false)], args := [d1, d2, d3, d4] }
  | _ => none }
def TileMoreWrongFalsely : Prop := tileMoreRow.holds Try.pinned (OpenSpec.ofChange tileMoreWrong)

/-- 'codemasonkeep.TilePlain': WHATEVER THE INPUT: true; the input reads as it did. -/
def tilePlainSpec : ChangeSpec := { name := "tilePlain", fn := fun _ => fun
  | [d1, d2] => { results := [.lit (.bool true)], args := [d1, d2] }
  | _ => none }
def tilePlainRow : OpenClaim := { program := "yteogdcjigigeeaa", sum := "c0dcf065686ba316a12135db79a7c665c053a905bbbebdde1be9f15706c59bb5", func := "codemason/codemasonkeep.TilePlain", spec := "tilePlain", unfollowed := true, recurses := true, apart := false }
def TilePlainSaid : Prop := tilePlainRow.holds Try.pinned (OpenSpec.ofChange tilePlainSpec)

/-- ITS FALSE NEIGHBOUR: 'it returns false'. Refute it at one input. -/
def tilePlainWrong : ChangeSpec := { name := "tilePlain", fn := fun _ => fun
  | [d1, d2] => { results := [.lit (.bool false)], args := [d1, d2] }
  | _ => none }
def TilePlainWrongFalsely : Prop := tilePlainRow.holds Try.pinned (OpenSpec.ofChange tilePlainWrong)

/- THE SECOND FORM. 'bulk': how many values and letters a reading holds, each counted each time it is reached (what is shared counts as often as it is met; a slice's spare places count too). A statement '..UptoSaid' is the law's where the arguments, and the package variables that the reading takes, are together of bulk at most 1048576: NARROWER than '..Said'. Prove '..Said' where nothing that the law and all that it calls make is longer than what came in: it says more and counts as full. Else prove '..UptoSaid'. A law counts once. -/
mutual
def uptoBulk {H : Type} : DataW H → Nat
  | .lit (.string bytes) => bytes.length + 1
  | .lit _ => 1
  | .nil => 1
  | .ptr d => uptoBulk d + 1
  | .slice elems spare => uptoBulkAll elems + uptoBulkAll spare + 1
  | .agg parts => uptoBulkAll parts + 1
  | .iface _ d => uptoBulk d + 1
  | .map entries => uptoBulkEntries entries + 1
  | .held _ => 1
def uptoBulkAll {H : Type} : List (DataW H) → Nat
  | [] => 0
  | d :: r => uptoBulk d + uptoBulkAll r
def uptoBulkEntries {H : Type} : List (Lit × DataW H) → Nat
  | [] => 0
  | x :: r => uptoBulkEntry x + uptoBulkEntries r
def uptoBulkEntry {H : Type} : Lit × DataW H → Nat
  | (.string bytes, d) => bytes.length + uptoBulk d + 1
  | (_, d) => uptoBulk d + 1
 end
def uptoSmall : (H : Type) → List (DataW H) → Bool := fun _ ds => decide (uptoBulkAll ds ≤ 1048576)
def OpenSpec.upto (s : _root_.Go.ChangeSpec) : _root_.Go.OpenSpec := { _root_.Go.OpenSpec.ofChange s with cond := some uptoSmall }

/-- 'codemasonlaw.TileCosts', WHERE WHAT IT READS IS OF BULK AT MOST 1048576: true; the input reads as it did. -/
def tileCostsUptoRow : OpenClaim := { program := "yteogdcjigigeeaa", sum := "c0dcf065686ba316a12135db79a7c665c053a905bbbebdde1be9f15706c59bb5", func := "codemason/codemasonlaw.TileCosts", spec := "tileCosts", unfollowed := true, recurses := true, apart := false, narrowed := true }
def TileCostsUptoSaid : Prop := tileCostsUptoRow.holds Try.pinned (OpenSpec.upto tileCostsSpec)

/-- 'codemasonlaw.TileCovers', WHERE WHAT IT READS IS OF BULK AT MOST 1048576: true; the input reads as it did. -/
def tileCoversUptoRow : OpenClaim := { program := "yteogdcjigigeeaa", sum := "c0dcf065686ba316a12135db79a7c665c053a905bbbebdde1be9f15706c59bb5", func := "codemason/codemasonlaw.TileCovers", spec := "tileCovers", unfollowed := true, recurses := true, apart := false, narrowed := true }
def TileCoversUptoSaid : Prop := tileCoversUptoRow.holds Try.pinned (OpenSpec.upto tileCoversSpec)

/-- 'codemasonkeep.TileMore', WHERE WHAT IT READS IS OF BULK AT MOST 1048576: true; the input reads as it did. -/
def tileMoreUptoRow : OpenClaim := { program := "yteogdcjigigeeaa", sum := "c0dcf065686ba316a12135db79a7c665c053a905bbbebdde1be9f15706c59bb5", func := "codemason/codemasonkeep.TileMore", spec := "tileMore", unfollowed := true, recurses := true, apart := false, narrowed := true }
def TileMoreUptoSaid : Prop := tileMoreUptoRow.holds Try.pinned (OpenSpec.upto tileMoreSpec)

/-- 'codemasonkeep.TilePlain', WHERE WHAT IT READS IS OF BULK AT MOST 1048576: true; the input reads as it did. -/
def tilePlainUptoRow : OpenClaim := { program := "yteogdcjigigeeaa", sum := "c0dcf065686ba316a12135db79a7c665c053a905bbbebdde1be9f15706c59bb5", func := "codemason/codemasonkeep.TilePlain", spec := "tilePlain", unfollowed := true, recurses := true, apart := false, narrowed := true }
def TilePlainUptoSaid : Prop := tilePlainUptoRow.holds Try.pinned (OpenSpec.upto tilePlainSpec)

end Rows
end Go.Proofs.Yteogdcjigigeeaa
