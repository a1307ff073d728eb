/-
  No cell of these rows narrows 'for every input' (looked for: loops, veiled, ifaces, maps, wideKeys, modest, calm, conditions, laid).
  DERIVED. THE GIVEN ROWS OF THIS SEAT. 15 by the template 'for every input the law returns true; each argument reads behind the call as it read before'; 0 by the template 'total and deterministic' (their statements: YtikbblbehopcdaaTotals.lean).
  GIVEN WITH THE SEED: the statements are not yours to turn. If you find one false, say at which input.
  Laid BY PROGRAM, IN A SANDBOX (cutbox-rows.mjs): the forced cells as the released guide's own fill.sh prints them over the translation 2c1499beafadc3f8… (all of the seat's roots in one cut). By AI agents, Wed Nov 11 2026. No macro, syntax, notation, axiom, sorry.
-/
import Derived.Test.YtikbblbehopcdaaChecked
import GoSem.Claim
import GoSem.ClaimJoined
import GoSem.ClaimMapViews
import Derived.JoinedTies
import Derived.KernelRfl
namespace Go.Proofs.Ytikbblbehopcdaa
/- THE CELL 'sum', in the pinned program and in every row, IS THE sha256 OF THE DUMP (.gsa) THAT YtikbblbehopcdaaProg.lean LOADS. Nothing in Lean hashes anything: it is a label: what it is worth is what the hold of that sum in a sandbox is worth. -/
noncomputable def Try.pinned : Pinned := { name := "ytikbblbehopcdaa", sum := "2c1499beafadc3f8db4f4e6090a42812363a3882a066a17cc3c0a1402e3180fa", checked := Try.checked }
namespace Rows
def none {H : Type} : Left H := { results := [], args := [] }

/-- 'codemasonlaw.WayChecks': WHATEVER THE INPUT: true; the input reads as it did. -/
def wayChecksSpec : ChangeSpec := { name := "wayChecks", fn := fun _ => fun
  | [d] => { results := [.lit (.bool true)], args := [d] }
  | _ => none }
def wayChecksRow : OpenClaim := { program := "ytikbblbehopcdaa", sum := "2c1499beafadc3f8db4f4e6090a42812363a3882a066a17cc3c0a1402e3180fa", func := "codemason/codemasonlaw.WayChecks", spec := "wayChecks", unfollowed := true, recurses := true, apart := false }
def WayChecksSaid : Prop := wayChecksRow.holds Try.pinned (OpenSpec.ofChange wayChecksSpec)

/-- ITS FALSE NEIGHBOUR: 'it returns false'. Refute it at one input. -/
def wayChecksWrong : ChangeSpec := { name := "wayChecks", fn := fun _ => fun
  | [d] => { results := [.lit (.bool false)], args := [d] }
  | _ => none }
def WayChecksWrongFalsely : Prop := wayChecksRow.holds Try.pinned (OpenSpec.ofChange wayChecksWrong)

/-- 'codemasonlaw.WayReaches': WHATEVER THE INPUT: true; the input reads as it did. -/
def wayReachesSpec : ChangeSpec := { name := "wayReaches", fn := fun _ => fun
  | [d] => { results := [.lit (.bool true)], args := [d] }
  | _ => none }
def wayReachesRow : OpenClaim := { program := "ytikbblbehopcdaa", sum := "2c1499beafadc3f8db4f4e6090a42812363a3882a066a17cc3c0a1402e3180fa", func := "codemason/codemasonlaw.WayReaches", spec := "wayReaches", unfollowed := true, recurses := true, apart := false }
def WayReachesSaid : Prop := wayReachesRow.holds Try.pinned (OpenSpec.ofChange wayReachesSpec)

/-- ITS FALSE NEIGHBOUR: 'it returns false'. Refute it at one input. -/
def wayReachesWrong : ChangeSpec := { name := "wayReaches", fn := fun _ => fun
  | [d] => { results := [.lit (.bool false)], args := [d] }
  | _ => none }
def WayReachesWrongFalsely : Prop := wayReachesRow.holds Try.pinned (OpenSpec.ofChange wayReachesWrong)

/-- 'codemasonlaw.WayOrders': WHATEVER THE INPUT: true; the input reads as it did. -/
def wayOrdersSpec : ChangeSpec := { name := "wayOrders", fn := fun _ => fun
  | [d] => { results := [.lit (.bool true)], args := [d] }
  | _ => none }
def wayOrdersRow : OpenClaim := { program := "ytikbblbehopcdaa", sum := "2c1499beafadc3f8db4f4e6090a42812363a3882a066a17cc3c0a1402e3180fa", func := "codemason/codemasonlaw.WayOrders", spec := "wayOrders", unfollowed := true, recurses := true, apart := false }
def WayOrdersSaid : Prop := wayOrdersRow.holds Try.pinned (OpenSpec.ofChange wayOrdersSpec)

/-- ITS FALSE NEIGHBOUR: 'it returns false'. Refute it at one input. -/
def wayOrdersWrong : ChangeSpec := { name := "wayOrders", fn := fun _ => fun
  | [d] => { results := [.lit (.bool false)], args := [d] }
  | _ => none }
def WayOrdersWrongFalsely : Prop := wayOrdersRow.holds Try.pinned (OpenSpec.ofChange wayOrdersWrong)

/-- 'codemasonlaw.WayBacks': WHATEVER THE INPUT: true; the input reads as it did. -/
def wayBacksSpec : ChangeSpec := { name := "wayBacks", fn := fun _ => fun
  | [d] => { results := [.lit (.bool true)], args := [d] }
  | _ => none }
def wayBacksRow : OpenClaim := { program := "ytikbblbehopcdaa", sum := "2c1499beafadc3f8db4f4e6090a42812363a3882a066a17cc3c0a1402e3180fa", func := "codemason/codemasonlaw.WayBacks", spec := "wayBacks", unfollowed := true, recurses := true, apart := false }
def WayBacksSaid : Prop := wayBacksRow.holds Try.pinned (OpenSpec.ofChange wayBacksSpec)

/-- ITS FALSE NEIGHBOUR: 'it returns false'. Refute it at one input. -/
def wayBacksWrong : ChangeSpec := { name := "wayBacks", fn := fun _ => fun
  | [d] => { results := [.lit (.bool false)], args := [d] }
  | _ => none }
def WayBacksWrongFalsely : Prop := wayBacksRow.holds Try.pinned (OpenSpec.ofChange wayBacksWrong)

/-- 'codemasonlaw.WayParts': WHATEVER THE INPUT: true; the input reads as it did. -/
def wayPartsSpec : ChangeSpec := { name := "wayParts", fn := fun _ => fun
  | [d] => { results := [.lit (.bool true)], args := [d] }
  | _ => none }
def wayPartsRow : OpenClaim := { program := "ytikbblbehopcdaa", sum := "2c1499beafadc3f8db4f4e6090a42812363a3882a066a17cc3c0a1402e3180fa", func := "codemason/codemasonlaw.WayParts", spec := "wayParts", unfollowed := true, recurses := true, apart := false }
def WayPartsSaid : Prop := wayPartsRow.holds Try.pinned (OpenSpec.ofChange wayPartsSpec)

/-- ITS FALSE NEIGHBOUR: 'it returns false'. Refute it at one input. -/
def wayPartsWrong : ChangeSpec := { name := "wayParts", fn := fun _ => fun
  | [d] => { results := [.lit (.bool false)], args := [d] }
  | _ => none }
def WayPartsWrongFalsely : Prop := wayPartsRow.holds Try.pinned (OpenSpec.ofChange wayPartsWrong)

/-- 'codemasonkeep.WayOrder': WHATEVER THE INPUT: true; the input reads as it did. -/
def wayOrderSpec : ChangeSpec := { name := "wayOrder", fn := fun _ => fun
  | [d] => { results := [.lit (.bool true)], args := [d] }
  | _ => none }
def wayOrderRow : OpenClaim := { program := "ytikbblbehopcdaa", sum := "2c1499beafadc3f8db4f4e6090a42812363a3882a066a17cc3c0a1402e3180fa", func := "codemason/codemasonkeep.WayOrder", spec := "wayOrder", unfollowed := true, recurses := true, apart := false }
def WayOrderSaid : Prop := wayOrderRow.holds Try.pinned (OpenSpec.ofChange wayOrderSpec)

/-- ITS FALSE NEIGHBOUR: 'it returns false'. Refute it at one input. -/
def wayOrderWrong : ChangeSpec := { name := "wayOrder", fn := fun _ => fun
  | [d] => { results := [.lit (.bool false)], args := [d] }
  | _ => none }
def WayOrderWrongFalsely : Prop := wayOrderRow.holds Try.pinned (OpenSpec.ofChange wayOrderWrong)

/-- 'codemasonkeep.WayPart': WHATEVER THE INPUT: true; the input reads as it did. -/
def wayPartSpec : ChangeSpec := { name := "wayPart", fn := fun _ => fun
  | [d] => { results := [.lit (.bool true)], args := [d] }
  | _ => none }
def wayPartRow : OpenClaim := { program := "ytikbblbehopcdaa", sum := "2c1499beafadc3f8db4f4e6090a42812363a3882a066a17cc3c0a1402e3180fa", func := "codemason/codemasonkeep.WayPart", spec := "wayPart", unfollowed := true, recurses := true, apart := false }
def WayPartSaid : Prop := wayPartRow.holds Try.pinned (OpenSpec.ofChange wayPartSpec)

/-- ITS FALSE NEIGHBOUR: 'it returns false'. Refute it at one input. -/
def wayPartWrong : ChangeSpec := { name := "wayPart", fn := fun _ => fun
  | [d] => { results := [.lit (.bool false)], args := [d] }
  | _ => none }
def WayPartWrongFalsely : Prop := wayPartRow.holds Try.pinned (OpenSpec.ofChange wayPartWrong)

/-- 'codemasonkeep.WayRound': WHATEVER THE INPUT: true; the input reads as it did. -/
def wayRoundSpec : ChangeSpec := { name := "wayRound", fn := fun _ => fun
  | [d] => { results := [.lit (.bool true)], args := [d] }
  | _ => none }
def wayRoundRow : OpenClaim := { program := "ytikbblbehopcdaa", sum := "2c1499beafadc3f8db4f4e6090a42812363a3882a066a17cc3c0a1402e3180fa", func := "codemason/codemasonkeep.WayRound", spec := "wayRound", unfollowed := true, recurses := true, apart := false }
def WayRoundSaid : Prop := wayRoundRow.holds Try.pinned (OpenSpec.ofChange wayRoundSpec)

/-- ITS FALSE NEIGHBOUR: 'it returns false'. Refute it at one input. -/
def wayRoundWrong : ChangeSpec := { name := "wayRound", fn := fun _ => fun
  | [d] => { results := [.lit (.bool false)], args := [d] }
  | _ => none }
def WayRoundWrongFalsely : Prop := wayRoundRow.holds Try.pinned (OpenSpec.ofChange wayRoundWrong)

/-- 'codemasonlaw.RuleTables': WHATEVER THE INPUT: true; the input reads as it did. -/
def ruleTablesSpec : ChangeSpec := { name := "ruleTables", fn := fun _ => fun
  | [d] => { results := [.lit (.bool true)], args := [d] }
  | _ => none }
def ruleTablesRow : OpenClaim := { program := "ytikbblbehopcdaa", sum := "2c1499beafadc3f8db4f4e6090a42812363a3882a066a17cc3c0a1402e3180fa", func := "codemason/codemasonlaw.RuleTables", spec := "ruleTables", unfollowed := true, recurses := true, apart := false }
def RuleTablesSaid : Prop := ruleTablesRow.holds Try.pinned (OpenSpec.ofChange ruleTablesSpec)

/-- ITS FALSE NEIGHBOUR: 'it returns false'. Refute it at one input. -/
def ruleTablesWrong : ChangeSpec := { name := "ruleTables", fn := fun _ => fun
  | [d] => { results := [.lit (.bool false)], args := [d] }
  | _ => none }
def RuleTablesWrongFalsely : Prop := ruleTablesRow.holds Try.pinned (OpenSpec.ofChange ruleTablesWrong)

/-- 'codemasonlaw.RuleTrees': WHATEVER THE INPUT: true; the input reads as it did. -/
def ruleTreesSpec : ChangeSpec := { name := "ruleTrees", fn := fun _ => fun
  | [d] => { results := [.lit (.bool true)], args := [d] }
  | _ => none }
def ruleTreesRow : OpenClaim := { program := "ytikbblbehopcdaa", sum := "2c1499beafadc3f8db4f4e6090a42812363a3882a066a17cc3c0a1402e3180fa", func := "codemason/codemasonlaw.RuleTrees", spec := "ruleTrees", unfollowed := true, recurses := true, apart := false }
def RuleTreesSaid : Prop := ruleTreesRow.holds Try.pinned (OpenSpec.ofChange ruleTreesSpec)

/-- ITS FALSE NEIGHBOUR: 'it returns false'. Refute it at one input. -/
def ruleTreesWrong : ChangeSpec := { name := "ruleTrees", fn := fun _ => fun
  | [d] => { results := [.lit (.bool false)], args := [d] }
  | _ => none }
def RuleTreesWrongFalsely : Prop := ruleTreesRow.holds Try.pinned (OpenSpec.ofChange ruleTreesWrong)

/-- 'codemasonlaw.RuleEdges': WHATEVER THE INPUT: true; the input reads as it did. -/
def ruleEdgesSpec : ChangeSpec := { name := "ruleEdges", fn := fun _ => fun
  | [d] => { results := [.lit (.bool true)], args := [d] }
  | _ => none }
def ruleEdgesRow : OpenClaim := { program := "ytikbblbehopcdaa", sum := "2c1499beafadc3f8db4f4e6090a42812363a3882a066a17cc3c0a1402e3180fa", func := "codemason/codemasonlaw.RuleEdges", spec := "ruleEdges", unfollowed := true, recurses := true, apart := false }
def RuleEdgesSaid : Prop := ruleEdgesRow.holds Try.pinned (OpenSpec.ofChange ruleEdgesSpec)

/-- ITS FALSE NEIGHBOUR: 'it returns false'. Refute it at one input. -/
def ruleEdgesWrong : ChangeSpec := { name := "ruleEdges", fn := fun _ => fun
  | [d] => { results := [.lit (.bool false)], args := [d] }
  | _ => none }
def RuleEdgesWrongFalsely : Prop := ruleEdgesRow.holds Try.pinned (OpenSpec.ofChange ruleEdgesWrong)

/-- 'codemasonlaw.RuleMeets': WHATEVER THE INPUT: true; the input reads as it did. -/
def ruleMeetsSpec : ChangeSpec := { name := "ruleMeets", fn := fun _ => fun
  | [d1, d2] => { results := [.lit (.bool true)], args := [d1, d2] }
  | _ => none }
def ruleMeetsRow : OpenClaim := { program := "ytikbblbehopcdaa", sum := "2c1499beafadc3f8db4f4e6090a42812363a3882a066a17cc3c0a1402e3180fa", func := "codemason/codemasonlaw.RuleMeets", spec := "ruleMeets", unfollowed := true, recurses := true, apart := false }
def RuleMeetsSaid : Prop := ruleMeetsRow.holds Try.pinned (OpenSpec.ofChange ruleMeetsSpec)

/-- ITS FALSE NEIGHBOUR: 'it returns false'. Refute it at one input. -/
def ruleMeetsWrong : ChangeSpec := { name := "ruleMeets", fn := fun _ => fun
  | [d1, d2] => { results := [.lit (.bool false)], args := [d1, d2] }
  | _ => none }
def RuleMeetsWrongFalsely : Prop := ruleMeetsRow.holds Try.pinned (OpenSpec.ofChange ruleMeetsWrong)

/-- 'codemasonkeep.RuleChain': WHATEVER THE INPUT: true; the input reads as it did. -/
def ruleChainSpec : ChangeSpec := { name := "ruleChain", fn := fun _ => fun
  | [d] => { results := [.lit (.bool true)], args := [d] }
  | _ => none }
def ruleChainRow : OpenClaim := { program := "ytikbblbehopcdaa", sum := "2c1499beafadc3f8db4f4e6090a42812363a3882a066a17cc3c0a1402e3180fa", func := "codemason/codemasonkeep.RuleChain", spec := "ruleChain", unfollowed := true, recurses := true, apart := false }
def RuleChainSaid : Prop := ruleChainRow.holds Try.pinned (OpenSpec.ofChange ruleChainSpec)

/-- ITS FALSE NEIGHBOUR: 'it returns false'. Refute it at one input. -/
def ruleChainWrong : ChangeSpec := { name := "ruleChain", fn := fun _ => fun
  | [d] => { results := [.lit (.bool false)], args := [d] }
  | _ => none }
def RuleChainWrongFalsely : Prop := ruleChainRow.holds Try.pinned (OpenSpec.ofChange ruleChainWrong)

/-- 'codemasonkeep.RulePath': WHATEVER THE INPUT: true; the input reads as it did. -/
def rulePathSpec : ChangeSpec := { name := "rulePath", fn := fun _ => fun
  | [d1, d2] => { results := [.lit (.bool true)], args := [d1, d2] }
  | _ => none }
def rulePathRow : OpenClaim := { program := "ytikbblbehopcdaa", sum := "2c1499beafadc3f8db4f4e6090a42812363a3882a066a17cc3c0a1402e3180fa", func := "codemason/codemasonkeep.RulePath", spec := "rulePath", unfollowed := true, recurses := true, apart := false }
def RulePathSaid : Prop := rulePathRow.holds Try.pinned (OpenSpec.ofChange rulePathSpec)

/-- ITS FALSE NEIGHBOUR: 'it returns false'. Refute it at one input. -/
def rulePathWrong : ChangeSpec := { name := "rulePath", fn := fun _ => fun
  | [d1, d2] => { results := [.lit (.bool false)], args := [d1, d2] }
  | _ => none }
def RulePathWrongFalsely : Prop := rulePathRow.holds Try.pinned (OpenSpec.ofChange rulePathWrong)

/-- 'codemasonkeep.RuleMeet': WHATEVER THE INPUT: true; the input reads as it did. -/
def ruleMeetSpec : ChangeSpec := { name := "ruleMeet", fn := fun _ => fun
  | [d1, d2, d3] => { results := [.lit (.bool true)], args := [d1, d2, d3] }
  | _ => none }
def ruleMeetRow : OpenClaim := { program := "ytikbblbehopcdaa", sum := "2c1499beafadc3f8db4f4e6090a42812363a3882a066a17cc3c0a1402e3180fa", func := "codemason/codemasonkeep.RuleMeet", spec := "ruleMeet", unfollowed := true, recurses := true, apart := false }
def RuleMeetSaid : Prop := ruleMeetRow.holds Try.pinned (OpenSpec.ofChange ruleMeetSpec)

/-- ITS FALSE NEIGHBOUR: 'it returns false'. Refute it at one input. -/
def ruleMeetWrong : ChangeSpec := { name := "ruleMeet", fn := fun _ => fun
  | [d1, d2, d3] => { results := [.lit (.bool false)], args := [d1, d2, d3] }
  | _ => none }
def RuleMeetWrongFalsely : Prop := ruleMeetRow.holds Try.pinned (OpenSpec.ofChange ruleMeetWrong)

/- THE SECOND FORM. 'bulk': how many values and letters a reading holds, each counted each time it is reached (what is shared counts as often as it is met; a slice's spare places count too). A statement '..UptoSaid' is the law's where the arguments, and the package variables that the reading takes, are together of bulk at most 1048576: NARROWER than '..Said'. Prove '..Said' where nothing that the law and all that it calls make is longer than what came in: it says more and counts as full. Else prove '..UptoSaid'. A law counts once. -/
mutual
def uptoBulk {H : Type} : DataW H → Nat
  | .lit (.string bytes) => bytes.length + 1
  | .lit _ => 1
  | .nil => 1
  | .ptr d => uptoBulk d + 1
  | .slice elems spare => uptoBulkAll elems + uptoBulkAll spare + 1
  | .agg parts => uptoBulkAll parts + 1
  | .iface _ d => uptoBulk d + 1
  | .map entries => uptoBulkEntries entries + 1
  | .held _ => 1
def uptoBulkAll {H : Type} : List (DataW H) → Nat
  | [] => 0
  | d :: r => uptoBulk d + uptoBulkAll r
def uptoBulkEntries {H : Type} : List (Lit × DataW H) → Nat
  | [] => 0
  | x :: r => uptoBulkEntry x + uptoBulkEntries r
def uptoBulkEntry {H : Type} : Lit × DataW H → Nat
  | (.string bytes, d) => bytes.length + uptoBulk d + 1
  | (_, d) => uptoBulk d + 1
 end
def uptoSmall : (H : Type) → List (DataW H) → Bool := fun _ ds => decide (uptoBulkAll ds ≤ 1048576)
def OpenSpec.upto (s : _root_.Go.ChangeSpec) : _root_.Go.OpenSpec := { _root_.Go.OpenSpec.ofChange s with cond := some uptoSmall }

/-- 'codemasonlaw.WayChecks', WHERE WHAT IT READS IS OF BULK AT MOST 1048576: true; the input reads as it did. -/
def wayChecksUptoRow : OpenClaim := { program := "ytikbblbehopcdaa", sum := "2c1499beafadc3f8db4f4e6090a42812363a3882a066a17cc3c0a1402e3180fa", func := "codemason/codemasonlaw.WayChecks", spec := "wayChecks", unfollowed := true, recurses := true, apart := false, narrowed := true }
def WayChecksUptoSaid : Prop := wayChecksUptoRow.holds Try.pinned (OpenSpec.upto wayChecksSpec)

/-- 'codemasonlaw.WayReaches', WHERE WHAT IT READS IS OF BULK AT MOST 1048576: true; the input reads as it did. -/
def wayReachesUptoRow : OpenClaim := { program := "ytikbblbehopcdaa", sum := "2c1499beafadc3f8db4f4e6090a42812363a3882a066a17cc3c0a1402e3180fa", func := "codemason/codemasonlaw.WayReaches", spec := "wayReaches", unfollowed := true, recurses := true, apart := false, narrowed := true }
def WayReachesUptoSaid : Prop := wayReachesUptoRow.holds Try.pinned (OpenSpec.upto wayReachesSpec)

/-- 'codemasonlaw.WayOrders', WHERE WHAT IT READS IS OF BULK AT MOST 1048576: true; the input reads as it did. -/
def wayOrdersUptoRow : OpenClaim := { program := "ytikbblbehopcdaa", sum := "2c1499beafadc3f8db4f4e6090a42812363a3882a066a17cc3c0a1402e3180fa", func := "codemason/codemasonlaw.WayOrders", spec := "wayOrders", unfollowed := true, recurses := true, apart := false, narrowed := true }
def WayOrdersUptoSaid : Prop := wayOrdersUptoRow.holds Try.pinned (OpenSpec.upto wayOrdersSpec)

/-- 'codemasonlaw.WayBacks', WHERE WHAT IT READS IS OF BULK AT MOST 1048576: true; the input reads as it did. -/
def wayBacksUptoRow : OpenClaim := { program := "ytikbblbehopcdaa", sum := "2c1499beafadc3f8db4f4e6090a42812363a3882a066a17cc3c0a1402e3180fa", func := "codemason/codemasonlaw.WayBacks", spec := "wayBacks", unfollowed := true, recurses := true, apart := false, narrowed := true }
def WayBacksUptoSaid : Prop := wayBacksUptoRow.holds Try.pinned (OpenSpec.upto wayBacksSpec)

/-- 'codemasonlaw.WayParts', WHERE WHAT IT READS IS OF BULK AT MOST 1048576: true; the input reads as it did. -/
def wayPartsUptoRow : OpenClaim := { program := "ytikbblbehopcdaa", sum := "2c1499beafadc3f8db4f4e6090a42812363a3882a066a17cc3c0a1402e3180fa", func := "codemason/codemasonlaw.WayParts", spec := "wayParts", unfollowed := true, recurses := true, apart := false, narrowed := true }
def WayPartsUptoSaid : Prop := wayPartsUptoRow.holds Try.pinned (OpenSpec.upto wayPartsSpec)

/-- 'codemasonkeep.WayOrder', WHERE WHAT IT READS IS OF BULK AT MOST 1048576: true; the input reads as it did. -/
def wayOrderUptoRow : OpenClaim := { program := "ytikbblbehopcdaa", sum := "2c1499beafadc3f8db4f4e6090a42812363a3882a066a17cc3c0a1402e3180fa", func := "codemason/codemasonkeep.WayOrder", spec := "wayOrder", unfollowed := true, recurses := true, apart := false, narrowed := true }
def WayOrderUptoSaid : Prop := wayOrderUptoRow.holds Try.pinned (OpenSpec.upto wayOrderSpec)

/-- 'codemasonkeep.WayPart', WHERE WHAT IT READS IS OF BULK AT MOST 1048576: true; the input reads as it did. -/
def wayPartUptoRow : OpenClaim := { program := "ytikbblbehopcdaa", sum := "2c1499beafadc3f8db4f4e6090a42812363a3882a066a17cc3c0a1402e3180fa", func := "codemason/codemasonkeep.WayPart", spec := "wayPart", unfollowed := true, recurses := true, apart := false, narrowed := true }
def WayPartUptoSaid : Prop := wayPartUptoRow.holds Try.pinned (OpenSpec.upto wayPartSpec)

/-- 'codemasonkeep.WayRound', WHERE WHAT IT READS IS OF BULK AT MOST 1048576: true; the input reads as it did. -/
def wayRoundUptoRow : OpenClaim := { program := "ytikbblbehopcdaa", sum := "2c1499beafadc3f8db4f4e6090a42812363a3882a066a17cc3c0a1402e3180fa", func := "codemason/codemasonkeep.WayRound", spec := "wayRound", unfollowed := true, recurses := true, apart := false, narrowed := true }
def WayRoundUptoSaid : Prop := wayRoundUptoRow.holds Try.pinned (OpenSpec.upto wayRoundSpec)

/-- 'codemasonlaw.RuleTables', WHERE WHAT IT READS IS OF BULK AT MOST 1048576: true; the input reads as it did. -/
def ruleTablesUptoRow : OpenClaim := { program := "ytikbblbehopcdaa", sum := "2c1499beafadc3f8db4f4e6090a42812363a3882a066a17cc3c0a1402e3180fa", func := "codemason/codemasonlaw.RuleTables", spec := "ruleTables", unfollowed := true, recurses := true, apart := false, narrowed := true }
def RuleTablesUptoSaid : Prop := ruleTablesUptoRow.holds Try.pinned (OpenSpec.upto ruleTablesSpec)

/-- 'codemasonlaw.RuleTrees', WHERE WHAT IT READS IS OF BULK AT MOST 1048576: true; the input reads as it did. -/
def ruleTreesUptoRow : OpenClaim := { program := "ytikbblbehopcdaa", sum := "2c1499beafadc3f8db4f4e6090a42812363a3882a066a17cc3c0a1402e3180fa", func := "codemason/codemasonlaw.RuleTrees", spec := "ruleTrees", unfollowed := true, recurses := true, apart := false, narrowed := true }
def RuleTreesUptoSaid : Prop := ruleTreesUptoRow.holds Try.pinned (OpenSpec.upto ruleTreesSpec)

/-- 'codemasonlaw.RuleEdges', WHERE WHAT IT READS IS OF BULK AT MOST 1048576: true; the input reads as it did. -/
def ruleEdgesUptoRow : OpenClaim := { program := "ytikbblbehopcdaa", sum := "2c1499beafadc3f8db4f4e6090a42812363a3882a066a17cc3c0a1402e3180fa", func := "codemason/codemasonlaw.RuleEdges", spec := "ruleEdges", unfollowed := true, recurses := true, apart := false, narrowed := true }
def RuleEdgesUptoSaid : Prop := ruleEdgesUptoRow.holds Try.pinned (OpenSpec.upto ruleEdgesSpec)

/-- 'codemasonlaw.RuleMeets', WHERE WHAT IT READS IS OF BULK AT MOST 1048576: true; the input reads as it did. -/
def ruleMeetsUptoRow : OpenClaim := { program := "ytikbblbehopcdaa", sum := "2c1499beafadc3f8db4f4e6090a42812363a3882a066a17cc3c0a1402e3180fa", func := "codemason/codemasonlaw.RuleMeets", spec := "ruleMeets", unfollowed := true, recurses := true, apart := false, narrowed := true }
def RuleMeetsUptoSaid : Prop := ruleMeetsUptoRow.holds Try.pinned (OpenSpec.upto ruleMeetsSpec)

/-- 'codemasonkeep.RuleChain', WHERE WHAT IT READS IS OF BULK AT MOST 1048576: true; the input reads as it did. -/
def ruleChainUptoRow : OpenClaim := { program := "ytikbblbehopcdaa", sum := "2c1499beafadc3f8db4f4e6090a42812363a3882a066a17cc3c0a1402e3180fa", func := "codemason/codemasonkeep.RuleChain", spec := "ruleChain", unfollowed := true, recurses := true, apart := false, narrowed := true }
def RuleChainUptoSaid : Prop := ruleChainUptoRow.holds Try.pinned (OpenSpec.upto ruleChainSpec)

/-- 'codemasonkeep.RulePath', WHERE WHAT IT READS IS OF BULK AT MOST 1048576: true; the input reads as it did. -/
def rulePathUptoRow : OpenClaim := { program := "ytikbblbehopcdaa", sum := "2c1499beafadc3f8db4f4e6090a42812363a3882a066a17cc3c0a1402e3180fa", func := "codemason/codemasonkeep.RulePath", spec := "rulePath", unfollowed := true, recurses := true, apart := false, narrowed := true }
def RulePathUptoSaid : Prop := rulePathUptoRow.holds Try.pinned (OpenSpec.upto rulePathSpec)

/-- 'codemasonkeep.RuleMeet', WHERE WHAT IT READS IS OF BULK AT MOST 1048576: true; the input reads as it did. -/
def ruleMeetUptoRow : OpenClaim := { program := "ytikbblbehopcdaa", sum := "2c1499beafadc3f8db4f4e6090a42812363a3882a066a17cc3c0a1402e3180fa", func := "codemason/codemasonkeep.RuleMeet", spec := "ruleMeet", unfollowed := true, recurses := true, apart := false, narrowed := true }
def RuleMeetUptoSaid : Prop := ruleMeetUptoRow.holds Try.pinned (OpenSpec.upto ruleMeetSpec)

end Rows
end Go.Proofs.Ytikbblbehopcdaa
