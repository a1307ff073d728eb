/-
  No cell of these rows narrows 'for every input' (looked for: loops, veiled, ifaces, maps, wideKeys, modest, calm, conditions, laid).
  DERIVED. THE GIVEN ROWS OF THIS SEAT. 5 by the template 'for every input the law returns true; each argument reads behind the call as it read before'; 0 by the template 'total and deterministic' (their statements: YthgilekhohadoaaTotals.lean).
  GIVEN WITH THE SEED: the statements are not yours to turn. If you find one false, say at which input.
  Laid BY PROGRAM, IN A SANDBOX (cutbox-rows.mjs): the forced cells as the released guide's own fill.sh prints them over the translation 387f14258c8c75f2… (all of the seat's roots in one cut). By AI agents, Wed Nov 11 2026. No macro, syntax, notation, axiom, sorry.
-/
import Derived.Test.YthgilekhohadoaaChecked
import GoSem.Claim
import GoSem.ClaimJoined
import GoSem.ClaimMapViews
import Derived.JoinedTies
import Derived.KernelRfl
namespace Go.Proofs.Ythgilekhohadoaa
/- THE CELL 'sum', in the pinned program and in every row, IS THE sha256 OF THE DUMP (.gsa) THAT YthgilekhohadoaaProg.lean LOADS. Nothing in Lean hashes anything: it is a label: what it is worth is what the hold of that sum in a sandbox is worth. -/
noncomputable def Try.pinned : Pinned := { name := "ythgilekhohadoaa", sum := "387f14258c8c75f24171982fc81d31c4599463ce203347dfb32e7b64a2063d54", checked := Try.checked }
namespace Rows
def none {H : Type} : Left H := { results := [], args := [] }

/-- 'codemasonlaw.LiveTells': WHATEVER THE INPUT: true; the input reads as it did. -/
def liveTellsSpec : ChangeSpec := { name := "liveTells", fn := fun _ => fun
  | [d1, d2, d3] => { results := [.lit (.bool true)], args := [d1, d2, d3] }
  | _ => none }
def liveTellsRow : OpenClaim := { program := "ythgilekhohadoaa", sum := "387f14258c8c75f24171982fc81d31c4599463ce203347dfb32e7b64a2063d54", func := "codemason/codemasonlaw.LiveTells", spec := "liveTells", unfollowed := true, recurses := true, apart := false }
def LiveTellsSaid : Prop := liveTellsRow.holds Try.pinned (OpenSpec.ofChange liveTellsSpec)

/-- ITS FALSE NEIGHBOUR: 'it returns false'. Refute it at one input. -/
def liveTellsWrong : ChangeSpec := { name := "liveTells", fn := fun _ => fun
  | [d1, d2, d3] => { results := [.lit (.bool false)], args := [d1, d2, d3] }
  | _ => none }
def LiveTellsWrongFalsely : Prop := liveTellsRow.holds Try.pinned (OpenSpec.ofChange liveTellsWrong)

/-- 'codemasonlaw.LiveTrims': WHATEVER THE INPUT: true; the input reads as it did. -/
def liveTrimsSpec : ChangeSpec := { name := "liveTrims", fn := fun _ => fun
  | [d1, d2, d3] => { results := [.lit (.bool true)], args := [d1, d2, d3] }
  | _ => none }
def liveTrimsRow : OpenClaim := { program := "ythgilekhohadoaa", sum := "387f14258c8c75f24171982fc81d31c4599463ce203347dfb32e7b64a2063d54", func := "codemason/codemasonlaw.LiveTrims", spec := "liveTrims", unfollowed := true, recurses := true, apart := false }
def LiveTrimsSaid : Prop := liveTrimsRow.holds Try.pinned (OpenSpec.ofChange liveTrimsSpec)

/-- ITS FALSE NEIGHBOUR: 'it returns false'. Refute it at one input. -/
def liveTrimsWrong : ChangeSpec := { name := "liveTrims", fn := fun _ => fun
  | [d1, d2, d3] => { results := [.lit (.bool false)], args := [d1, d2, d3] }
  | _ => none }
def LiveTrimsWrongFalsely : Prop := liveTrimsRow.holds Try.pinned (OpenSpec.ofChange liveTrimsWrong)

/-- 'codemasonkeep.LiveSafe': WHATEVER THE INPUT: true; the input reads as it did. -/
def liveSafeSpec : ChangeSpec := { name := "liveSafe", fn := fun _ => fun
  | [d1, d2, d3, d4, d5] => { results := [.lit (.bool true)], args := [d1, d2, d3, d4, d5] }
  | _ => none }
def liveSafeRow : OpenClaim := { program := "ythgilekhohadoaa", sum := "387f14258c8c75f24171982fc81d31c4599463ce203347dfb32e7b64a2063d54", func := "codemason/codemasonkeep.LiveSafe", spec := "liveSafe", unfollowed := true, recurses := true, apart := false }
def LiveSafeSaid : Prop := liveSafeRow.holds Try.pinned (OpenSpec.ofChange liveSafeSpec)

/-- ITS FALSE NEIGHBOUR: 'it returns false'. Refute it at one input. -/
def liveSafeWrong : ChangeSpec := { name := "liveSafe", fn := fun _ => fun
  | [d1, d2, d3, d4, d5] => { results := [.lit (.bool false)], args := [d1, d2, d3, d4, d5] }
  | _ => none }
def LiveSafeWrongFalsely : Prop := liveSafeRow.holds Try.pinned (OpenSpec.ofChange liveSafeWrong)

/-- 'codemasonkeep.LiveTrim': WHATEVER THE INPUT: true; the input reads as it did. -/
def liveTrimSpec : ChangeSpec := { name := "liveTrim", fn := fun _ => fun
  | [d1, d2, d3, d4] => { results := [.lit (.bool true)], args := [d1, d2, d3, d4] }
  | _ => none }
def liveTrimRow : OpenClaim := { program := "ythgilekhohadoaa", sum := "387f14258c8c75f24171982fc81d31c4599463ce203347dfb32e7b64a2063d54", func := "codemason/codemasonkeep.LiveTrim", spec := "liveTrim", unfollowed := true, recurses := true, apart := false }
def LiveTrimSaid : Prop := liveTrimRow.holds Try.pinned (OpenSpec.ofChange liveTrimSpec)

/-- ITS FALSE NEIGHBOUR: 'it returns false'. Refute it at one input. -/
def liveTrimWrong : ChangeSpec := { name := "liveTrim", fn := fun _ => fun
  | [d1, d2, d3, d4] => { results := [.lit (.bool false)], args := [d1, d2, d3, d4] }
  | _ => none }
def LiveTrimWrongFalsely : Prop := liveTrimRow.holds Try.pinned (OpenSpec.ofChange liveTrimWrong)

/-- 'codemasonkeep.LiveMore': WHATEVER THE INPUT: true; the input reads as it did. -/
def liveMoreSpec : ChangeSpec := { name := "liveMore", fn := fun _ => fun
  | [d1, d2, d3, d4] => { results := [.lit (.bool true)], args := [d1, d2, d3, d4] }
  | _ => none }
def liveMoreRow : OpenClaim := { program := "ythgilekhohadoaa", sum := "387f14258c8c75f24171982fc81d31c4599463ce203347dfb32e7b64a2063d54", func := "codemason/codemasonkeep.LiveMore", spec := "liveMore", unfollowed := true, recurses := true, apart := false }
def LiveMoreSaid : Prop := liveMoreRow.holds Try.pinned (OpenSpec.ofChange liveMoreSpec)

/-- ITS FALSE NEIGHBOUR: 'it returns false'. Refute it at one input. -/
def liveMoreWrong : ChangeSpec := { name := "liveMore", fn := fun _ => fun
  | [d1, d2, d3, d4] => { results := [.lit (.bool false)], args := [d1, d2, d3, d4] }
  | _ => none }
def LiveMoreWrongFalsely : Prop := liveMoreRow.holds Try.pinned (OpenSpec.ofChange liveMoreWrong)

/- THE SECOND FORM. 'bulk': how many values and letters a reading holds, each counted each time it is reached (what is shared counts as often as it is met; a slice's spare places count too). A statement '..UptoSaid' is the law's where the arguments, and the package variables that the reading takes, are together of bulk at most 1048576: NARROWER than '..Said'. Prove '..Said' where nothing that the law and all that it calls make is longer than what came in: it says more and counts as full. Else prove '..UptoSaid'. A law counts once. -/
mutual
def uptoBulk {H : Type} : DataW H → Nat
  | .lit (.string bytes) => bytes.length + 1
  | .lit _ => 1
  | .nil => 1
  | .ptr d => uptoBulk d + 1
  | .slice elems spare => uptoBulkAll elems + uptoBulkAll spare + 1
  | .agg parts => uptoBulkAll parts + 1
  | .iface _ d => uptoBulk d + 1
  | .map entries => uptoBulkEntries entries + 1
  | .held _ => 1
def uptoBulkAll {H : Type} : List (DataW H) → Nat
  | [] => 0
  | d :: r => uptoBulk d + uptoBulkAll r
def uptoBulkEntries {H : Type} : List (Lit × DataW H) → Nat
  | [] => 0
  | x :: r => uptoBulkEntry x + uptoBulkEntries r
def uptoBulkEntry {H : Type} : Lit × DataW H → Nat
  | (.string bytes, d) => bytes.length + uptoBulk d + 1
  | (_, d) => uptoBulk d + 1
 end
def uptoSmall : (H : Type) → List (DataW H) → Bool := fun _ ds => decide (uptoBulkAll ds ≤ 1048576)
def OpenSpec.upto (s : _root_.Go.ChangeSpec) : _root_.Go.OpenSpec := { _root_.Go.OpenSpec.ofChange s with cond := some uptoSmall }

/-- 'codemasonlaw.LiveTells', WHERE WHAT IT READS IS OF BULK AT MOST 1048576: true; the input reads as it did. -/
def liveTellsUptoRow : OpenClaim := { program := "ythgilekhohadoaa", sum := "387f14258c8c75f24171982fc81d31c4599463ce203347dfb32e7b64a2063d54", func := "codemason/codemasonlaw.LiveTells", spec := "liveTells", unfollowed := true, recurses := true, apart := false, narrowed := true }
def LiveTellsUptoSaid : Prop := liveTellsUptoRow.holds Try.pinned (OpenSpec.upto liveTellsSpec)

/-- 'codemasonlaw.LiveTrims', WHERE WHAT IT READS IS OF BULK AT MOST 1048576: true; the input reads as it did. -/
def liveTrimsUptoRow : OpenClaim := { program := "ythgilekhohadoaa", sum := "387f14258c8c75f24171982fc81d31c4599463ce203347dfb32e7b64a2063d54", func := "codemason/codemasonlaw.LiveTrims", spec := "liveTrims", unfollowed := true, recurses := true, apart := false, narrowed := true }
def LiveTrimsUptoSaid : Prop := liveTrimsUptoRow.holds Try.pinned (OpenSpec.upto liveTrimsSpec)

/-- 'codemasonkeep.LiveSafe', WHERE WHAT IT READS IS OF BULK AT MOST 1048576: true; the input reads as it did. -/
def liveSafeUptoRow : OpenClaim := { program := "ythgilekhohadoaa", sum := "387f14258c8c75f24171982fc81d31c4599463ce203347dfb32e7b64a2063d54", func := "codemason/codemasonkeep.LiveSafe", spec := "liveSafe", unfollowed := true, recurses := true, apart := false, narrowed := true }
def LiveSafeUptoSaid : Prop := liveSafeUptoRow.holds Try.pinned (OpenSpec.upto liveSafeSpec)

/-- 'codemasonkeep.LiveTrim', WHERE WHAT IT READS IS OF BULK AT MOST 1048576: true; the input reads as it did. -/
def liveTrimUptoRow : OpenClaim := { program := "ythgilekhohadoaa", sum := "387f14258c8c75f24171982fc81d31c4599463ce203347dfb32e7b64a2063d54", func := "codemason/codemasonkeep.LiveTrim", spec := "liveTrim", unfollowed := true, recurses := true, apart := false, narrowed := true }
def LiveTrimUptoSaid : Prop := liveTrimUptoRow.holds Try.pinned (OpenSpec.upto liveTrimSpec)

/-- 'codemasonkeep.LiveMore', WHERE WHAT IT READS IS OF BULK AT MOST 1048576: true; the input reads as it did. -/
def liveMoreUptoRow : OpenClaim := { program := "ythgilekhohadoaa", sum := "387f14258c8c75f24171982fc81d31c4599463ce203347dfb32e7b64a2063d54", func := "codemason/codemasonkeep.LiveMore", spec := "liveMore", unfollowed := true, recurses := true, apart := false, narrowed := true }
def LiveMoreUptoSaid : Prop := liveMoreUptoRow.holds Try.pinned (OpenSpec.upto liveMoreSpec)

end Rows
end Go.Proofs.Ythgilekhohadoaa
