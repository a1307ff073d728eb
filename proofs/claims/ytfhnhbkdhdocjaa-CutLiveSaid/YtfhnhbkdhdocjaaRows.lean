/-
  No cell of these rows narrows 'for every input' (looked for: loops, veiled, ifaces, maps, wideKeys, modest, calm, conditions, laid).
  DERIVED. THE GIVEN ROWS OF THIS SEAT. 14 by the template 'for every input the law returns true; each argument reads behind the call as it read before'; 0 by the template 'total and deterministic' (their statements: YtfhnhbkdhdocjaaTotals.lean).
  GIVEN WITH THE SEED: the statements are not yours to turn. If you find one false, say at which input.
  Laid BY PROGRAM, IN A SANDBOX (cutbox-rows.mjs): the forced cells as the released guide's own fill.sh prints them over the translation 71f34e494b3ee3b8… (all of the seat's roots in one cut). By AI agents, Wed Nov 11 2026. No macro, syntax, notation, axiom, sorry.
-/
import Derived.Test.YtfhnhbkdhdocjaaChecked
import GoSem.Claim
import GoSem.ClaimJoined
import GoSem.ClaimMapViews
import Derived.JoinedTies
import Derived.KernelRfl
namespace Go.Proofs.Ytfhnhbkdhdocjaa
/- THE CELL 'sum', in the pinned program and in every row, IS THE sha256 OF THE DUMP (.gsa) THAT YtfhnhbkdhdocjaaProg.lean LOADS. Nothing in Lean hashes anything: it is a label: what it is worth is what the hold of that sum in a sandbox is worth. -/
noncomputable def Try.pinned : Pinned := { name := "ytfhnhbkdhdocjaa", sum := "71f34e494b3ee3b872e6d3326cf0929ae50e3cf6daadc3023d5ba7714a419e87", checked := Try.checked }
namespace Rows
def none {H : Type} : Left H := { results := [], args := [] }

/-- 'codemasonlaw.LiveTells': WHATEVER THE INPUT: true; the input reads as it did. -/
def liveTellsSpec : ChangeSpec := { name := "liveTells", fn := fun _ => fun
  | [d1, d2, d3] => { results := [.lit (.bool true)], args := [d1, d2, d3] }
  | _ => none }
def liveTellsRow : OpenClaim := { program := "ytfhnhbkdhdocjaa", sum := "71f34e494b3ee3b872e6d3326cf0929ae50e3cf6daadc3023d5ba7714a419e87", func := "codemason/codemasonlaw.LiveTells", spec := "liveTells", unfollowed := true, recurses := true, plainKeys := false, apart := false }
def LiveTellsSaid : Prop := liveTellsRow.holds Try.pinned (OpenSpec.ofChange liveTellsSpec)

/-- ITS FALSE NEIGHBOUR: 'it returns false'. Refute it at one input. -/
def liveTellsWrong : ChangeSpec := { name := "liveTells", fn := fun _ => fun
  | [d1, d2, d3] => { results := [.lit (.bool false)], args := [d1, d2, d3] }
  | _ => none }
def LiveTellsWrongFalsely : Prop := liveTellsRow.holds Try.pinned (OpenSpec.ofChange liveTellsWrong)

/-- 'codemasonlaw.LiveTrims': WHATEVER THE INPUT: true; the input reads as it did. -/
def liveTrimsSpec : ChangeSpec := { name := "liveTrims", fn := fun _ => fun
  | [d1, d2, d3] => { results := [.lit (.bool true)], args := [d1, d2, d3] }
  | _ => none }
def liveTrimsRow : OpenClaim := { program := "ytfhnhbkdhdocjaa", sum := "71f34e494b3ee3b872e6d3326cf0929ae50e3cf6daadc3023d5ba7714a419e87", func := "codemason/codemasonlaw.LiveTrims", spec := "liveTrims", unfollowed := true, recurses := true, plainKeys := false, apart := false }
def LiveTrimsSaid : Prop := liveTrimsRow.holds Try.pinned (OpenSpec.ofChange liveTrimsSpec)

/-- ITS FALSE NEIGHBOUR: 'it returns false'. Refute it at one input. -/
def liveTrimsWrong : ChangeSpec := { name := "liveTrims", fn := fun _ => fun
  | [d1, d2, d3] => { results := [.lit (.bool false)], args := [d1, d2, d3] }
  | _ => none }
def LiveTrimsWrongFalsely : Prop := liveTrimsRow.holds Try.pinned (OpenSpec.ofChange liveTrimsWrong)

/-- 'codemasonkeep.LiveSafe': WHATEVER THE INPUT: true; the input reads as it did. -/
def liveSafeSpec : ChangeSpec := { name := "liveSafe", fn := fun _ => fun
  | [d1, d2, d3, d4, d5] => { results := [.lit (.bool true)], args := [d1, d2, d3, d4, d5] }
  | _ => none }
def liveSafeRow : OpenClaim := { program := "ytfhnhbkdhdocjaa", sum := "71f34e494b3ee3b872e6d3326cf0929ae50e3cf6daadc3023d5ba7714a419e87", func := "codemason/codemasonkeep.LiveSafe", spec := "liveSafe", unfollowed := true, recurses := true, plainKeys := false, apart := false }
def LiveSafeSaid : Prop := liveSafeRow.holds Try.pinned (OpenSpec.ofChange liveSafeSpec)

/-- ITS FALSE NEIGHBOUR: 'it returns false'. Refute it at one input. -/
def liveSafeWrong : ChangeSpec := { name := "liveSafe", fn := fun _ => fun
  | [d1, d2, d3, d4, d5] => { results := [.lit (.bool false)], args := [d1, d2, d3, d4, d5] }
  | _ => none }
def LiveSafeWrongFalsely : Prop := liveSafeRow.holds Try.pinned (OpenSpec.ofChange liveSafeWrong)

/-- 'codemasonkeep.LiveTrim': WHATEVER THE INPUT: true; the input reads as it did. -/
def liveTrimSpec : ChangeSpec := { name := "liveTrim", fn := fun _ => fun
  | [d1, d2, d3, d4] => { results := [.lit (.bool true)], args := [d1, d2, d3, d4] }
  | _ => none }
def liveTrimRow : OpenClaim := { program := "ytfhnhbkdhdocjaa", sum := "71f34e494b3ee3b872e6d3326cf0929ae50e3cf6daadc3023d5ba7714a419e87", func := "codemason/codemasonkeep.LiveTrim", spec := "liveTrim", unfollowed := true, recurses := true, plainKeys := false, apart := false }
def LiveTrimSaid : Prop := liveTrimRow.holds Try.pinned (OpenSpec.ofChange liveTrimSpec)

/-- ITS FALSE NEIGHBOUR: 'it returns false'. Refute it at one input. -/
def liveTrimWrong : ChangeSpec := { name := "liveTrim", fn := fun _ => fun
  | [d1, d2, d3, d4] => { results := [.lit (.bool false)], args := [d1, d2, d3, d4] }
  | _ => none }
def LiveTrimWrongFalsely : Prop := liveTrimRow.holds Try.pinned (OpenSpec.ofChange liveTrimWrong)

/-- 'codemasonkeep.LiveMore': WHATEVER THE INPUT: true; the input reads as it did. -/
def liveMoreSpec : ChangeSpec := { name := "liveMore", fn := fun _ => fun
  | [d1, d2, d3, d4] => { results := [.lit (.bool true)], args := [d1, d2, d3, d4] }
  | _ => none }
def liveMoreRow : OpenClaim := { program := "ytfhnhbkdhdocjaa", sum := "71f34e494b3ee3b872e6d3326cf0929ae50e3cf6daadc3023d5ba7714a419e87", func := "codemason/codemasonkeep.LiveMore", spec := "liveMore", unfollowed := true, recurses := true, plainKeys := false, apart := false }
def LiveMoreSaid : Prop := liveMoreRow.holds Try.pinned (OpenSpec.ofChange liveMoreSpec)

/-- ITS FALSE NEIGHBOUR: 'it returns false'. Refute it at one input. -/
def liveMoreWrong : ChangeSpec := { name := "liveMore", fn := fun _ => fun
  | [d1, d2, d3, d4] => { results := [.lit (.bool false)], args := [d1, d2, d3, d4] }
  | _ => none }
def LiveMoreWrongFalsely : Prop := liveMoreRow.holds Try.pinned (OpenSpec.ofChange liveMoreWrong)

/-- 'codemasonlaw.WeakAheads': WHATEVER THE INPUT: true; the input reads as it did. -/
def weakAheadsSpec : ChangeSpec := { name := "weakAheads", fn := fun _ => fun
  | [d1, d2, d3, d4] => { results := [.lit (.bool true)], args := [d1, d2, d3, d4] }
  | _ => none }
def weakAheadsRow : OpenClaim := { program := "ytfhnhbkdhdocjaa", sum := "71f34e494b3ee3b872e6d3326cf0929ae50e3cf6daadc3023d5ba7714a419e87", func := "codemason/codemasonlaw.WeakAheads", spec := "weakAheads", unfollowed := true, recurses := true, plainKeys := false, apart := false }
def WeakAheadsSaid : Prop := weakAheadsRow.holds Try.pinned (OpenSpec.ofChange weakAheadsSpec)

/-- ITS FALSE NEIGHBOUR: 'it returns false'. Refute it at one input. -/
def weakAheadsWrong : ChangeSpec := { name := "weakAheads", fn := fun _ => fun
  | [d1, d2, d3, d4] => { results := [.lit (.bool false)], args := [d1, d2, d3, d4] }
  | _ => none }
def WeakAheadsWrongFalsely : Prop := weakAheadsRow.holds Try.pinned (OpenSpec.ofChange weakAheadsWrong)

/-- 'codemasonlaw.WeakHolds': WHATEVER THE INPUT: true; the input reads as it did. -/
def weakHoldsSpec : ChangeSpec := { name := "weakHolds", fn := fun _ => fun
  | [d1, d2, d3, d4, d5] => { results := [.lit (.bool true)], args := [d1, d2, d3, d4, d5] }
  | _ => none }
def weakHoldsRow : OpenClaim := { program := "ytfhnhbkdhdocjaa", sum := "71f34e494b3ee3b872e6d3326cf0929ae50e3cf6daadc3023d5ba7714a419e87", func := "codemason/codemasonlaw.WeakHolds", spec := "weakHolds", unfollowed := true, recurses := true, plainKeys := false, apart := false }
def WeakHoldsSaid : Prop := weakHoldsRow.holds Try.pinned (OpenSpec.ofChange weakHoldsSpec)

/-- ITS FALSE NEIGHBOUR: 'it returns false'. Refute it at one input. -/
def weakHoldsWrong : ChangeSpec := { name := "weakHolds", fn := fun _ => fun
  | [d1, d2, d3, d4, d5] => { results := [.lit (.bool false)], args := [d1, d2, d3, d4, d5] }
  | _ => none }
def WeakHoldsWrongFalsely : Prop := weakHoldsRow.holds Try.pinned (OpenSpec.ofChange weakHoldsWrong)

/-- 'codemasonkeep.WeakTwo': WHATEVER THE INPUT: true; the input reads as it did. -/
def weakTwoSpec : ChangeSpec := { name := "weakTwo", fn := fun _ => fun
  | [d1, d2, d3, d4, d5] => { results := [.lit (.bool true)], args := [d1, d2, d3, d4, d5] }
  | _ => none }
def weakTwoRow : OpenClaim := { program := "ytfhnhbkdhdocjaa", sum := "71f34e494b3ee3b872e6d3326cf0929ae50e3cf6daadc3023d5ba7714a419e87", func := "codemason/codemasonkeep.WeakTwo", spec := "weakTwo", unfollowed := true, recurses := true, plainKeys := false, apart := false }
def WeakTwoSaid : Prop := weakTwoRow.holds Try.pinned (OpenSpec.ofChange weakTwoSpec)

/-- ITS FALSE NEIGHBOUR: 'it returns false'. Refute it at one input. -/
def weakTwoWrong : ChangeSpec := { name := "weakTwo", fn := fun _ => fun
  | [d1, d2, d3, d4, d5] => { results := [.lit (.bool false)], args := [d1, d2, d3, d4, d5] }
  | _ => none }
def WeakTwoWrongFalsely : Prop := weakTwoRow.holds Try.pinned (OpenSpec.ofChange weakTwoWrong)

/-- 'codemasonkeep.WeakRule': WHATEVER THE INPUT: true; the input reads as it did. -/
def weakRuleSpec : ChangeSpec := { name := "weakRule", fn := fun _ => fun
  | [d1, d2, d3, d4] => { results := [.lit (.bool true)], args := [d1, d2, d3, d4] }
  | _ => none }
def weakRuleRow : OpenClaim := { program := "ytfhnhbkdhdocjaa", sum := "71f34e494b3ee3b872e6d3326cf0929ae50e3cf6daadc3023d5ba7714a419e87", func := "codemason/codemasonkeep.WeakRule", spec := "weakRule", unfollowed := true, recurses := true, plainKeys := false, apart := false }
def WeakRuleSaid : Prop := weakRuleRow.holds Try.pinned (OpenSpec.ofChange weakRuleSpec)

/-- ITS FALSE NEIGHBOUR: 'it returns false'. Refute it at one input. -/
def weakRuleWrong : ChangeSpec := { name := "weakRule", fn := fun _ => fun
  | [d1, d2, d3, d4] => { results := [.lit (.bool false)], args := [d1, d2, d3, d4] }
  | _ => none }
def WeakRuleWrongFalsely : Prop := weakRuleRow.holds Try.pinned (OpenSpec.ofChange weakRuleWrong)

/-- 'codemasonlaw.CutNeeds': WHATEVER THE INPUT: true; the input reads as it did. -/
def cutNeedsSpec : ChangeSpec := { name := "cutNeeds", fn := fun _ => fun
  | [d1, d2, d3] => { results := [.lit (.bool true)], args := [d1, d2, d3] }
  | _ => none }
def cutNeedsRow : OpenClaim := { program := "ytfhnhbkdhdocjaa", sum := "71f34e494b3ee3b872e6d3326cf0929ae50e3cf6daadc3023d5ba7714a419e87", func := "codemason/codemasonlaw.CutNeeds", spec := "cutNeeds", unfollowed := true, recurses := true, plainKeys := false, apart := false }
def CutNeedsSaid : Prop := cutNeedsRow.holds Try.pinned (OpenSpec.ofChange cutNeedsSpec)

/-- ITS FALSE NEIGHBOUR: 'it returns false'. Refute it at one input. -/
def cutNeedsWrong : ChangeSpec := { name := "cutNeeds", fn := fun _ => fun
  | [d1, d2, d3] => { results := [.lit (.bool false)], args := [d1, d2, d3] }
  | _ => none }
def CutNeedsWrongFalsely : Prop := cutNeedsRow.holds Try.pinned (OpenSpec.ofChange cutNeedsWrong)

/-- 'codemasonlaw.CutSlices': WHATEVER THE INPUT: true; the input reads as it did. -/
def cutSlicesSpec : ChangeSpec := { name := "cutSlices", fn := fun _ => fun
  | [d1, d2, d3] => { results := [.lit (.bool true)], args := [d1, d2, d3] }
  | _ => none }
def cutSlicesRow : OpenClaim := { program := "ytfhnhbkdhdocjaa", sum := "71f34e494b3ee3b872e6d3326cf0929ae50e3cf6daadc3023d5ba7714a419e87", func := "codemason/codemasonlaw.CutSlices", spec := "cutSlices", unfollowed := true, recurses := true, plainKeys := false, apart := false }
def CutSlicesSaid : Prop := cutSlicesRow.holds Try.pinned (OpenSpec.ofChange cutSlicesSpec)

/-- ITS FALSE NEIGHBOUR: 'it returns false'. Refute it at one input. -/
def cutSlicesWrong : ChangeSpec := { name := "cutSlices", fn := fun _ => fun
  | [d1, d2, d3] => { results := [.lit (.bool false)], args := [d1, d2, d3] }
  | _ => none }
def CutSlicesWrongFalsely : Prop := cutSlicesRow.holds Try.pinned (OpenSpec.ofChange cutSlicesWrong)

/-- 'codemasonkeep.CutWeiser': WHATEVER THE INPUT: true; the input reads as it did. -/
def cutWeiserSpec : ChangeSpec := { name := "cutWeiser", fn := fun _ => fun
  | [d1, d2, d3, d4] => { results := [.lit (.bool true)], args := [d1, d2, d3, d4] }
  | _ => none }
def cutWeiserRow : OpenClaim := { program := "ytfhnhbkdhdocjaa", sum := "71f34e494b3ee3b872e6d3326cf0929ae50e3cf6daadc3023d5ba7714a419e87", func := "codemason/codemasonkeep.CutWeiser", spec := "cutWeiser", unfollowed := true, recurses := true, plainKeys := false, apart := false }
def CutWeiserSaid : Prop := cutWeiserRow.holds Try.pinned (OpenSpec.ofChange cutWeiserSpec)

/-- ITS FALSE NEIGHBOUR: 'it returns false'. Refute it at one input. -/
def cutWeiserWrong : ChangeSpec := { name := "cutWeiser", fn := fun _ => fun
  | [d1, d2, d3, d4] => { results := [.lit (.bool false)], args := [d1, d2, d3, d4] }
  | _ => none }
def CutWeiserWrongFalsely : Prop := cutWeiserRow.holds Try.pinned (OpenSpec.ofChange cutWeiserWrong)

/-- 'codemasonkeep.CutMore': WHATEVER THE INPUT: true; the input reads as it did. -/
def cutMoreSpec : ChangeSpec := { name := "cutMore", fn := fun _ => fun
  | [d1, d2, d3, d4] => { results := [.lit (.bool true)], args := [d1, d2, d3, d4] }
  | _ => none }
def cutMoreRow : OpenClaim := { program := "ytfhnhbkdhdocjaa", sum := "71f34e494b3ee3b872e6d3326cf0929ae50e3cf6daadc3023d5ba7714a419e87", func := "codemason/codemasonkeep.CutMore", spec := "cutMore", unfollowed := true, recurses := true, plainKeys := false, apart := false }
def CutMoreSaid : Prop := cutMoreRow.holds Try.pinned (OpenSpec.ofChange cutMoreSpec)

/-- ITS FALSE NEIGHBOUR: 'it returns false'. Refute it at one input. -/
def cutMoreWrong : ChangeSpec := { name := "cutMore", fn := fun _ => fun
  | [d1, d2, d3, d4] => { results := [.lit (.bool false)], args := [d1, d2, d3, d4] }
  | _ => none }
def CutMoreWrongFalsely : Prop := cutMoreRow.holds Try.pinned (OpenSpec.ofChange cutMoreWrong)

/-- 'codemasonkeep.CutLive': WHATEVER THE INPUT: true; the input reads as it did. -/
def cutLiveSpec : ChangeSpec := { name := "cutLive", fn := fun _ => fun
  | [d1, d2, d3] => { results := [.lit (.bool true)], args := [d1, d2, d3] }
  | _ => none }
def cutLiveRow : OpenClaim := { program := "ytfhnhbkdhdocjaa", sum := "71f34e494b3ee3b872e6d3326cf0929ae50e3cf6daadc3023d5ba7714a419e87", func := "codemason/codemasonkeep.CutLive", spec := "cutLive", unfollowed := true, recurses := true, plainKeys := false, apart := false }
def CutLiveSaid : Prop := cutLiveRow.holds Try.pinned (OpenSpec.ofChange cutLiveSpec)

/-- ITS FALSE NEIGHBOUR: 'it returns false'. Refute it at one input. -/
def cutLiveWrong : ChangeSpec := { name := "cutLive", fn := fun _ => fun
  | [d1, d2, d3] => { results := [.lit (.bool false)], args := [d1, d2, d3] }
  | _ => none }
def CutLiveWrongFalsely : Prop := cutLiveRow.holds Try.pinned (OpenSpec.ofChange cutLiveWrong)

/- THE SECOND FORM. 'bulk': how many values and letters a reading holds, each counted each time it is reached (what is shared counts as often as it is met; a slice's spare places count too). A statement '..UptoSaid' is the law's where the arguments, and the package variables that the reading takes, are together of bulk at most 1048576: NARROWER than '..Said'. Prove '..Said' where nothing that the law and all that it calls make is longer than what came in: it says more and counts as full. Else prove '..UptoSaid'. A law counts once. -/
mutual
def uptoBulk {H : Type} : DataW H → Nat
  | .lit (.string bytes) => bytes.length + 1
  | .lit _ => 1
  | .nil => 1
  | .ptr d => uptoBulk d + 1
  | .slice elems spare => uptoBulkAll elems + uptoBulkAll spare + 1
  | .agg parts => uptoBulkAll parts + 1
  | .iface _ d => uptoBulk d + 1
  | .map entries => uptoBulkEntries entries + 1
  | .held _ => 1
def uptoBulkAll {H : Type} : List (DataW H) → Nat
  | [] => 0
  | d :: r => uptoBulk d + uptoBulkAll r
def uptoBulkEntries {H : Type} : List (Lit × DataW H) → Nat
  | [] => 0
  | x :: r => uptoBulkEntry x + uptoBulkEntries r
def uptoBulkEntry {H : Type} : Lit × DataW H → Nat
  | (.string bytes, d) => bytes.length + uptoBulk d + 1
  | (_, d) => uptoBulk d + 1
 end
def uptoSmall : (H : Type) → List (DataW H) → Bool := fun _ ds => decide (uptoBulkAll ds ≤ 1048576)
def OpenSpec.upto (s : _root_.Go.ChangeSpec) : _root_.Go.OpenSpec := { _root_.Go.OpenSpec.ofChange s with cond := some uptoSmall }

/-- 'codemasonlaw.LiveTells', WHERE WHAT IT READS IS OF BULK AT MOST 1048576: true; the input reads as it did. -/
def liveTellsUptoRow : OpenClaim := { program := "ytfhnhbkdhdocjaa", sum := "71f34e494b3ee3b872e6d3326cf0929ae50e3cf6daadc3023d5ba7714a419e87", func := "codemason/codemasonlaw.LiveTells", spec := "liveTells", unfollowed := true, recurses := true, plainKeys := false, apart := false, narrowed := true }
def LiveTellsUptoSaid : Prop := liveTellsUptoRow.holds Try.pinned (OpenSpec.upto liveTellsSpec)

/-- 'codemasonlaw.LiveTrims', WHERE WHAT IT READS IS OF BULK AT MOST 1048576: true; the input reads as it did. -/
def liveTrimsUptoRow : OpenClaim := { program := "ytfhnhbkdhdocjaa", sum := "71f34e494b3ee3b872e6d3326cf0929ae50e3cf6daadc3023d5ba7714a419e87", func := "codemason/codemasonlaw.LiveTrims", spec := "liveTrims", unfollowed := true, recurses := true, plainKeys := false, apart := false, narrowed := true }
def LiveTrimsUptoSaid : Prop := liveTrimsUptoRow.holds Try.pinned (OpenSpec.upto liveTrimsSpec)

/-- 'codemasonkeep.LiveSafe', WHERE WHAT IT READS IS OF BULK AT MOST 1048576: true; the input reads as it did. -/
def liveSafeUptoRow : OpenClaim := { program := "ytfhnhbkdhdocjaa", sum := "71f34e494b3ee3b872e6d3326cf0929ae50e3cf6daadc3023d5ba7714a419e87", func := "codemason/codemasonkeep.LiveSafe", spec := "liveSafe", unfollowed := true, recurses := true, plainKeys := false, apart := false, narrowed := true }
def LiveSafeUptoSaid : Prop := liveSafeUptoRow.holds Try.pinned (OpenSpec.upto liveSafeSpec)

/-- 'codemasonkeep.LiveTrim', WHERE WHAT IT READS IS OF BULK AT MOST 1048576: true; the input reads as it did. -/
def liveTrimUptoRow : OpenClaim := { program := "ytfhnhbkdhdocjaa", sum := "71f34e494b3ee3b872e6d3326cf0929ae50e3cf6daadc3023d5ba7714a419e87", func := "codemason/codemasonkeep.LiveTrim", spec := "liveTrim", unfollowed := true, recurses := true, plainKeys := false, apart := false, narrowed := true }
def LiveTrimUptoSaid : Prop := liveTrimUptoRow.holds Try.pinned (OpenSpec.upto liveTrimSpec)

/-- 'codemasonkeep.LiveMore', WHERE WHAT IT READS IS OF BULK AT MOST 1048576: true; the input reads as it did. -/
def liveMoreUptoRow : OpenClaim := { program := "ytfhnhbkdhdocjaa", sum := "71f34e494b3ee3b872e6d3326cf0929ae50e3cf6daadc3023d5ba7714a419e87", func := "codemason/codemasonkeep.LiveMore", spec := "liveMore", unfollowed := true, recurses := true, plainKeys := false, apart := false, narrowed := true }
def LiveMoreUptoSaid : Prop := liveMoreUptoRow.holds Try.pinned (OpenSpec.upto liveMoreSpec)

/-- 'codemasonlaw.WeakAheads', WHERE WHAT IT READS IS OF BULK AT MOST 1048576: true; the input reads as it did. -/
def weakAheadsUptoRow : OpenClaim := { program := "ytfhnhbkdhdocjaa", sum := "71f34e494b3ee3b872e6d3326cf0929ae50e3cf6daadc3023d5ba7714a419e87", func := "codemason/codemasonlaw.WeakAheads", spec := "weakAheads", unfollowed := true, recurses := true, plainKeys := false, apart := false, narrowed := true }
def WeakAheadsUptoSaid : Prop := weakAheadsUptoRow.holds Try.pinned (OpenSpec.upto weakAheadsSpec)

/-- 'codemasonlaw.WeakHolds', WHERE WHAT IT READS IS OF BULK AT MOST 1048576: true; the input reads as it did. -/
def weakHoldsUptoRow : OpenClaim := { program := "ytfhnhbkdhdocjaa", sum := "71f34e494b3ee3b872e6d3326cf0929ae50e3cf6daadc3023d5ba7714a419e87", func := "codemason/codemasonlaw.WeakHolds", spec := "weakHolds", unfollowed := true, recurses := true, plainKeys := false, apart := false, narrowed := true }
def WeakHoldsUptoSaid : Prop := weakHoldsUptoRow.holds Try.pinned (OpenSpec.upto weakHoldsSpec)

/-- 'codemasonkeep.WeakTwo', WHERE WHAT IT READS IS OF BULK AT MOST 1048576: true; the input reads as it did. -/
def weakTwoUptoRow : OpenClaim := { program := "ytfhnhbkdhdocjaa", sum := "71f34e494b3ee3b872e6d3326cf0929ae50e3cf6daadc3023d5ba7714a419e87", func := "codemason/codemasonkeep.WeakTwo", spec := "weakTwo", unfollowed := true, recurses := true, plainKeys := false, apart := false, narrowed := true }
def WeakTwoUptoSaid : Prop := weakTwoUptoRow.holds Try.pinned (OpenSpec.upto weakTwoSpec)

/-- 'codemasonkeep.WeakRule', WHERE WHAT IT READS IS OF BULK AT MOST 1048576: true; the input reads as it did. -/
def weakRuleUptoRow : OpenClaim := { program := "ytfhnhbkdhdocjaa", sum := "71f34e494b3ee3b872e6d3326cf0929ae50e3cf6daadc3023d5ba7714a419e87", func := "codemason/codemasonkeep.WeakRule", spec := "weakRule", unfollowed := true, recurses := true, plainKeys := false, apart := false, narrowed := true }
def WeakRuleUptoSaid : Prop := weakRuleUptoRow.holds Try.pinned (OpenSpec.upto weakRuleSpec)

/-- 'codemasonlaw.CutNeeds', WHERE WHAT IT READS IS OF BULK AT MOST 1048576: true; the input reads as it did. -/
def cutNeedsUptoRow : OpenClaim := { program := "ytfhnhbkdhdocjaa", sum := "71f34e494b3ee3b872e6d3326cf0929ae50e3cf6daadc3023d5ba7714a419e87", func := "codemason/codemasonlaw.CutNeeds", spec := "cutNeeds", unfollowed := true, recurses := true, plainKeys := false, apart := false, narrowed := true }
def CutNeedsUptoSaid : Prop := cutNeedsUptoRow.holds Try.pinned (OpenSpec.upto cutNeedsSpec)

/-- 'codemasonlaw.CutSlices', WHERE WHAT IT READS IS OF BULK AT MOST 1048576: true; the input reads as it did. -/
def cutSlicesUptoRow : OpenClaim := { program := "ytfhnhbkdhdocjaa", sum := "71f34e494b3ee3b872e6d3326cf0929ae50e3cf6daadc3023d5ba7714a419e87", func := "codemason/codemasonlaw.CutSlices", spec := "cutSlices", unfollowed := true, recurses := true, plainKeys := false, apart := false, narrowed := true }
def CutSlicesUptoSaid : Prop := cutSlicesUptoRow.holds Try.pinned (OpenSpec.upto cutSlicesSpec)

/-- 'codemasonkeep.CutWeiser', WHERE WHAT IT READS IS OF BULK AT MOST 1048576: true; the input reads as it did. -/
def cutWeiserUptoRow : OpenClaim := { program := "ytfhnhbkdhdocjaa", sum := "71f34e494b3ee3b872e6d3326cf0929ae50e3cf6daadc3023d5ba7714a419e87", func := "codemason/codemasonkeep.CutWeiser", spec := "cutWeiser", unfollowed := true, recurses := true, plainKeys := false, apart := false, narrowed := true }
def CutWeiserUptoSaid : Prop := cutWeiserUptoRow.holds Try.pinned (OpenSpec.upto cutWeiserSpec)

/-- 'codemasonkeep.CutMore', WHERE WHAT IT READS IS OF BULK AT MOST 1048576: true; the input reads as it did. -/
def cutMoreUptoRow : OpenClaim := { program := "ytfhnhbkdhdocjaa", sum := "71f34e494b3ee3b872e6d3326cf0929ae50e3cf6daadc3023d5ba7714a419e87", func := "codemason/codemasonkeep.CutMore", spec := "cutMore", unfollowed := true, recurses := true, plainKeys := false, apart := false, narrowed := true }
def CutMoreUptoSaid : Prop := cutMoreUptoRow.holds Try.pinned (OpenSpec.upto cutMoreSpec)

/-- 'codemasonkeep.CutLive', WHERE WHAT IT READS IS OF BULK AT MOST 1048576: true; the input reads as it did. -/
def cutLiveUptoRow : OpenClaim := { program := "ytfhnhbkdhdocjaa", sum := "71f34e494b3ee3b872e6d3326cf0929ae50e3cf6daadc3023d5ba7714a419e87", func := "codemason/codemasonkeep.CutLive", spec := "cutLive", unfollowed := true, recurses := true, plainKeys := false, apart := false, narrowed := true }
def CutLiveUptoSaid : Prop := cutLiveUptoRow.holds Try.pinned (OpenSpec.upto cutLiveSpec)

end Rows
end Go.Proofs.Ytfhnhbkdhdocjaa
