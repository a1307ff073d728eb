/-
  No cell of these rows narrows 'for every input' (looked for: loops, veiled, ifaces, maps, wideKeys, modest, calm, conditions, laid).
  DERIVED. THE GIVEN ROWS OF THIS SEAT. 9 by the template 'for every input the law returns true; each argument reads behind the call as it read before'; 0 by the template 'total and deterministic' (their statements: YtpbajalecfaibaaTotals.lean).
  GIVEN WITH THE SEED: the statements are not yours to turn. If you find one false, say at which input.
  Laid BY PROGRAM, IN A SANDBOX (cutbox-rows.mjs): the forced cells as the released guide's own fill.sh prints them over the translation 1cec17518111ee93… (all of the seat's roots in one cut). By AI agents, Wed Nov 11 2026. No macro, syntax, notation, axiom, sorry.
-/
import Derived.Test.YtpbajalecfaibaaChecked
import GoSem.Claim
import GoSem.ClaimJoined
import GoSem.ClaimMapViews
import Derived.JoinedTies
import Derived.KernelRfl
namespace Go.Proofs.Ytpbajalecfaibaa
/- THE CELL 'sum', in the pinned program and in every row, IS THE sha256 OF THE DUMP (.gsa) THAT YtpbajalecfaibaaProg.lean LOADS. Nothing in Lean hashes anything: it is a label: what it is worth is what the hold of that sum in a sandbox is worth. -/
noncomputable def Try.pinned : Pinned := { name := "ytpbajalecfaibaa", sum := "1cec17518111ee9380d5123c7f8d69e6e8992c553f513ff1b65298b6143e594e", checked := Try.checked }
namespace Rows
def none {H : Type} : Left H := { results := [], args := [] }

/-- 'codemasonlaw.RuleMeets': WHATEVER THE INPUT: true; the input reads as it did. -/
def ruleMeetsSpec : ChangeSpec := { name := "ruleMeets", fn := fun _ => fun
  | [d1, d2] => { results := [.lit (.bool true)], args := [d1, d2] }
  | _ => none }
def ruleMeetsRow : OpenClaim := { program := "ytpbajalecfaibaa", sum := "1cec17518111ee9380d5123c7f8d69e6e8992c553f513ff1b65298b6143e594e", func := "codemason/codemasonlaw.RuleMeets", spec := "ruleMeets", unfollowed := true, recurses := true, plainKeys := false, apart := false }
def RuleMeetsSaid : Prop := ruleMeetsRow.holds Try.pinned (OpenSpec.ofChange ruleMeetsSpec)

/-- ITS FALSE NEIGHBOUR: 'it returns false'. Refute it at one input. -/
def ruleMeetsWrong : ChangeSpec := { name := "ruleMeets", fn := fun _ => fun
  | [d1, d2] => { results := [.lit (.bool false)], args := [d1, d2] }
  | _ => none }
def RuleMeetsWrongFalsely : Prop := ruleMeetsRow.holds Try.pinned (OpenSpec.ofChange ruleMeetsWrong)

/-- 'codemasonkeep.RuleMeet': WHATEVER THE INPUT: true; the input reads as it did. -/
def ruleMeetSpec : ChangeSpec := { name := "ruleMeet", fn := fun _ => fun
  | [d1, d2, d3] => { results := [.lit (.bool true)], args := [d1, d2, d3] }
  | _ => none }
def ruleMeetRow : OpenClaim := { program := "ytpbajalecfaibaa", sum := "1cec17518111ee9380d5123c7f8d69e6e8992c553f513ff1b65298b6143e594e", func := "codemason/codemasonkeep.RuleMeet", spec := "ruleMeet", unfollowed := true, recurses := true, plainKeys := false, apart := false }
def RuleMeetSaid : Prop := ruleMeetRow.holds Try.pinned (OpenSpec.ofChange ruleMeetSpec)

/-- ITS FALSE NEIGHBOUR: 'it returns false'. Refute it at one input. -/
def ruleMeetWrong : ChangeSpec := { name := "ruleMeet", fn := fun _ => fun
  | [d1, d2, d3] => { results := [.lit (.bool false)], args := [d1, d2, d3] }
  | _ => none }
def RuleMeetWrongFalsely : Prop := ruleMeetRow.holds Try.pinned (OpenSpec.ofChange ruleMeetWrong)

/-- 'codemasonlaw.LoopTells': WHATEVER THE INPUT: true; the input reads as it did. -/
def loopTellsSpec : ChangeSpec := { name := "loopTells", fn := fun _ => fun
  | [d] => { results := [.lit (.bool true)], args := [d] }
  | _ => none }
def loopTellsRow : OpenClaim := { program := "ytpbajalecfaibaa", sum := "1cec17518111ee9380d5123c7f8d69e6e8992c553f513ff1b65298b6143e594e", func := "codemason/codemasonlaw.LoopTells", spec := "loopTells", unfollowed := true, recurses := true, plainKeys := false, apart := false }
def LoopTellsSaid : Prop := loopTellsRow.holds Try.pinned (OpenSpec.ofChange loopTellsSpec)

/-- ITS FALSE NEIGHBOUR: 'it returns false'. Refute it at one input. -/
def loopTellsWrong : ChangeSpec := { name := "loopTells", fn := fun _ => fun
  | [d] => { results := [.lit (.bool false)], args := [d] }
  | _ => none }
def LoopTellsWrongFalsely : Prop := loopTellsRow.holds Try.pinned (OpenSpec.ofChange loopTellsWrong)

/-- 'codemasonlaw.LoopDeeps': WHATEVER THE INPUT: true; the input reads as it did. -/
def loopDeepsSpec : ChangeSpec := { name := "loopDeeps", fn := fun _ => fun
  | [d] => { results := [.lit (.bool true)], args := [d] }
  | _ => none }
def loopDeepsRow : OpenClaim := { program := "ytpbajalecfaibaa", sum := "1cec17518111ee9380d5123c7f8d69e6e8992c553f513ff1b65298b6143e594e", func := "codemason/codemasonlaw.LoopDeeps", spec := "loopDeeps", unfollowed := true, recurses := true, plainKeys := false, apart := false }
def LoopDeepsSaid : Prop := loopDeepsRow.holds Try.pinned (OpenSpec.ofChange loopDeepsSpec)

/-- ITS FALSE NEIGHBOUR: 'it returns false'. Refute it at one input. -/
def loopDeepsWrong : ChangeSpec := { name := "loopDeeps", fn := fun _ => fun
  | [d] => { results := [.lit (.bool false)], args := [d] }
  | _ => none }
def LoopDeepsWrongFalsely : Prop := loopDeepsRow.holds Try.pinned (OpenSpec.ofChange loopDeepsWrong)

/-- 'codemasonlaw.LoopTames': WHATEVER THE INPUT: true; the input reads as it did. -/
def loopTamesSpec : ChangeSpec := { name := "loopTames", fn := fun _ => fun
  | [d] => { results := [.lit (.bool true)], args := [d] }
  | _ => none }
def loopTamesRow : OpenClaim := { program := "ytpbajalecfaibaa", sum := "1cec17518111ee9380d5123c7f8d69e6e8992c553f513ff1b65298b6143e594e", func := "codemason/codemasonlaw.LoopTames", spec := "loopTames", unfollowed := true, recurses := true, plainKeys := false, apart := false }
def LoopTamesSaid : Prop := loopTamesRow.holds Try.pinned (OpenSpec.ofChange loopTamesSpec)

/-- ITS FALSE NEIGHBOUR: 'it returns false'. Refute it at one input. -/
def loopTamesWrong : ChangeSpec := { name := "loopTames", fn := fun _ => fun
  | [d] => { results := [.lit (.bool false)], args := [d] }
  | _ => none }
def LoopTamesWrongFalsely : Prop := loopTamesRow.holds Try.pinned (OpenSpec.ofChange loopTamesWrong)

/-- 'codemasonlaw.LoopFolds': WHATEVER THE INPUT: true; the input reads as it did. -/
def loopFoldsSpec : ChangeSpec := { name := "loopFolds", fn := fun _ => fun
  | [d] => { results := [.lit (.bool true)], args := [d] }
  | _ => none }
def loopFoldsRow : OpenClaim := { program := "ytpbajalecfaibaa", sum := "1cec17518111ee9380d5123c7f8d69e6e8992c553f513ff1b65298b6143e594e", func := "codemason/codemasonlaw.LoopFolds", spec := "loopFolds", unfollowed := true, recurses := true, plainKeys := false, apart := false }
def LoopFoldsSaid : Prop := loopFoldsRow.holds Try.pinned (OpenSpec.ofChange loopFoldsSpec)

/-- ITS FALSE NEIGHBOUR: 'it returns false'. Refute it at one input. -/
def loopFoldsWrong : ChangeSpec := { name := "loopFolds", fn := fun _ => fun
  | [d] => { results := [.lit (.bool false)], args := [d] }
  | _ => none }
def LoopFoldsWrongFalsely : Prop := loopFoldsRow.holds Try.pinned (OpenSpec.ofChange loopFoldsWrong)

/-- 'codemasonkeep.LoopNest': WHATEVER THE INPUT: true; the input reads as it did. -/
def loopNestSpec : ChangeSpec := { name := "loopNest", fn := fun _ => fun
  | [d] => { results := [.lit (.bool true)], args := [d] }
  | _ => none }
def loopNestRow : OpenClaim := { program := "ytpbajalecfaibaa", sum := "1cec17518111ee9380d5123c7f8d69e6e8992c553f513ff1b65298b6143e594e", func := "codemason/codemasonkeep.LoopNest", spec := "loopNest", unfollowed := true, recurses := true, plainKeys := false, apart := false }
def LoopNestSaid : Prop := loopNestRow.holds Try.pinned (OpenSpec.ofChange loopNestSpec)

/-- ITS FALSE NEIGHBOUR: 'it returns false'. Refute it at one input. -/
def loopNestWrong : ChangeSpec := { name := "loopNest", fn := fun _ => fun
  | [d] => { results := [.lit (.bool false)], args := [d] }
  | _ => none }
def LoopNestWrongFalsely : Prop := loopNestRow.holds Try.pinned (OpenSpec.ofChange loopNestWrong)

/-- 'codemasonkeep.LoopFold': WHATEVER THE INPUT: true; the input reads as it did. -/
def loopFoldSpec : ChangeSpec := { name := "loopFold", fn := fun _ => fun
  | [d] => { results := [.lit (.bool true)], args := [d] }
  | _ => none }
def loopFoldRow : OpenClaim := { program := "ytpbajalecfaibaa", sum := "1cec17518111ee9380d5123c7f8d69e6e8992c553f513ff1b65298b6143e594e", func := "codemason/codemasonkeep.LoopFold", spec := "loopFold", unfollowed := true, recurses := true, plainKeys := false, apart := false }
def LoopFoldSaid : Prop := loopFoldRow.holds Try.pinned (OpenSpec.ofChange loopFoldSpec)

/-- ITS FALSE NEIGHBOUR: 'it returns false'. Refute it at one input. -/
def loopFoldWrong : ChangeSpec := { name := "loopFold", fn := fun _ => fun
  | [d] => { results := [.lit (.bool false)], args := [d] }
  | _ => none }
def LoopFoldWrongFalsely : Prop := loopFoldRow.holds Try.pinned (OpenSpec.ofChange loopFoldWrong)

/-- 'codemasonkeep.LoopRound': WHATEVER THE INPUT: true; the input reads as it did. -/
def loopRoundSpec : ChangeSpec := { name := "loopRound", fn := fun _ => fun
  | [d] => { results := [.lit (.bool true)], args := [d] }
  | _ => none }
def loopRoundRow : OpenClaim := { program := "ytpbajalecfaibaa", sum := "1cec17518111ee9380d5123c7f8d69e6e8992c553f513ff1b65298b6143e594e", func := "codemason/codemasonkeep.LoopRound", spec := "loopRound", unfollowed := true, recurses := true, plainKeys := false, apart := false }
def LoopRoundSaid : Prop := loopRoundRow.holds Try.pinned (OpenSpec.ofChange loopRoundSpec)

/-- ITS FALSE NEIGHBOUR: 'it returns false'. Refute it at one input. -/
def loopRoundWrong : ChangeSpec := { name := "loopRound", fn := fun _ => fun
  | [d] => { results := [.lit (.bool false)], args := [d] }
  | _ => none }
def LoopRoundWrongFalsely : Prop := loopRoundRow.holds Try.pinned (OpenSpec.ofChange loopRoundWrong)

/- THE SECOND FORM. 'bulk': how many values and letters a reading holds, each counted each time it is reached (what is shared counts as often as it is met; a slice's spare places count too). A statement '..UptoSaid' is the law's where the arguments, and the package variables that the reading takes, are together of bulk at most 1048576: NARROWER than '..Said'. Prove '..Said' where nothing that the law and all that it calls make is longer than what came in: it says more and counts as full. Else prove '..UptoSaid'. A law counts once. -/
mutual
def uptoBulk {H : Type} : DataW H → Nat
  | .lit (.string bytes) => bytes.length + 1
  | .lit _ => 1
  | .nil => 1
  | .ptr d => uptoBulk d + 1
  | .slice elems spare => uptoBulkAll elems + uptoBulkAll spare + 1
  | .agg parts => uptoBulkAll parts + 1
  | .iface _ d => uptoBulk d + 1
  | .map entries => uptoBulkEntries entries + 1
  | .held _ => 1
def uptoBulkAll {H : Type} : List (DataW H) → Nat
  | [] => 0
  | d :: r => uptoBulk d + uptoBulkAll r
def uptoBulkEntries {H : Type} : List (Lit × DataW H) → Nat
  | [] => 0
  | x :: r => uptoBulkEntry x + uptoBulkEntries r
def uptoBulkEntry {H : Type} : Lit × DataW H → Nat
  | (.string bytes, d) => bytes.length + uptoBulk d + 1
  | (_, d) => uptoBulk d + 1
 end
def uptoSmall : (H : Type) → List (DataW H) → Bool := fun _ ds => decide (uptoBulkAll ds ≤ 1048576)
def OpenSpec.upto (s : _root_.Go.ChangeSpec) : _root_.Go.OpenSpec := { _root_.Go.OpenSpec.ofChange s with cond := some uptoSmall }

/-- 'codemasonlaw.RuleMeets', WHERE WHAT IT READS IS OF BULK AT MOST 1048576: true; the input reads as it did. -/
def ruleMeetsUptoRow : OpenClaim := { program := "ytpbajalecfaibaa", sum := "1cec17518111ee9380d5123c7f8d69e6e8992c553f513ff1b65298b6143e594e", func := "codemason/codemasonlaw.RuleMeets", spec := "ruleMeets", unfollowed := true, recurses := true, plainKeys := false, apart := false, narrowed := true }
def RuleMeetsUptoSaid : Prop := ruleMeetsUptoRow.holds Try.pinned (OpenSpec.upto ruleMeetsSpec)

/-- 'codemasonkeep.RuleMeet', WHERE WHAT IT READS IS OF BULK AT MOST 1048576: true; the input reads as it did. -/
def ruleMeetUptoRow : OpenClaim := { program := "ytpbajalecfaibaa", sum := "1cec17518111ee9380d5123c7f8d69e6e8992c553f513ff1b65298b6143e594e", func := "codemason/codemasonkeep.RuleMeet", spec := "ruleMeet", unfollowed := true, recurses := true, plainKeys := false, apart := false, narrowed := true }
def RuleMeetUptoSaid : Prop := ruleMeetUptoRow.holds Try.pinned (OpenSpec.upto ruleMeetSpec)

/-- 'codemasonlaw.LoopTells', WHERE WHAT IT READS IS OF BULK AT MOST 1048576: true; the input reads as it did. -/
def loopTellsUptoRow : OpenClaim := { program := "ytpbajalecfaibaa", sum := "1cec17518111ee9380d5123c7f8d69e6e8992c553f513ff1b65298b6143e594e", func := "codemason/codemasonlaw.LoopTells", spec := "loopTells", unfollowed := true, recurses := true, plainKeys := false, apart := false, narrowed := true }
def LoopTellsUptoSaid : Prop := loopTellsUptoRow.holds Try.pinned (OpenSpec.upto loopTellsSpec)

/-- 'codemasonlaw.LoopDeeps', WHERE WHAT IT READS IS OF BULK AT MOST 1048576: true; the input reads as it did. -/
def loopDeepsUptoRow : OpenClaim := { program := "ytpbajalecfaibaa", sum := "1cec17518111ee9380d5123c7f8d69e6e8992c553f513ff1b65298b6143e594e", func := "codemason/codemasonlaw.LoopDeeps", spec := "loopDeeps", unfollowed := true, recurses := true, plainKeys := false, apart := false, narrowed := true }
def LoopDeepsUptoSaid : Prop := loopDeepsUptoRow.holds Try.pinned (OpenSpec.upto loopDeepsSpec)

/-- 'codemasonlaw.LoopTames', WHERE WHAT IT READS IS OF BULK AT MOST 1048576: true; the input reads as it did. -/
def loopTamesUptoRow : OpenClaim := { program := "ytpbajalecfaibaa", sum := "1cec17518111ee9380d5123c7f8d69e6e8992c553f513ff1b65298b6143e594e", func := "codemason/codemasonlaw.LoopTames", spec := "loopTames", unfollowed := true, recurses := true, plainKeys := false, apart := false, narrowed := true }
def LoopTamesUptoSaid : Prop := loopTamesUptoRow.holds Try.pinned (OpenSpec.upto loopTamesSpec)

/-- 'codemasonlaw.LoopFolds', WHERE WHAT IT READS IS OF BULK AT MOST 1048576: true; the input reads as it did. -/
def loopFoldsUptoRow : OpenClaim := { program := "ytpbajalecfaibaa", sum := "1cec17518111ee9380d5123c7f8d69e6e8992c553f513ff1b65298b6143e594e", func := "codemason/codemasonlaw.LoopFolds", spec := "loopFolds", unfollowed := true, recurses := true, plainKeys := false, apart := false, narrowed := true }
def LoopFoldsUptoSaid : Prop := loopFoldsUptoRow.holds Try.pinned (OpenSpec.upto loopFoldsSpec)

/-- 'codemasonkeep.LoopNest', WHERE WHAT IT READS IS OF BULK AT MOST 1048576: true; the input reads as it did. -/
def loopNestUptoRow : OpenClaim := { program := "ytpbajalecfaibaa", sum := "1cec17518111ee9380d5123c7f8d69e6e8992c553f513ff1b65298b6143e594e", func := "codemason/codemasonkeep.LoopNest", spec := "loopNest", unfollowed := true, recurses := true, plainKeys := false, apart := false, narrowed := true }
def LoopNestUptoSaid : Prop := loopNestUptoRow.holds Try.pinned (OpenSpec.upto loopNestSpec)

/-- 'codemasonkeep.LoopFold', WHERE WHAT IT READS IS OF BULK AT MOST 1048576: true; the input reads as it did. -/
def loopFoldUptoRow : OpenClaim := { program := "ytpbajalecfaibaa", sum := "1cec17518111ee9380d5123c7f8d69e6e8992c553f513ff1b65298b6143e594e", func := "codemason/codemasonkeep.LoopFold", spec := "loopFold", unfollowed := true, recurses := true, plainKeys := false, apart := false, narrowed := true }
def LoopFoldUptoSaid : Prop := loopFoldUptoRow.holds Try.pinned (OpenSpec.upto loopFoldSpec)

/-- 'codemasonkeep.LoopRound', WHERE WHAT IT READS IS OF BULK AT MOST 1048576: true; the input reads as it did. -/
def loopRoundUptoRow : OpenClaim := { program := "ytpbajalecfaibaa", sum := "1cec17518111ee9380d5123c7f8d69e6e8992c553f513ff1b65298b6143e594e", func := "codemason/codemasonkeep.LoopRound", spec := "loopRound", unfollowed := true, recurses := true, plainKeys := false, apart := false, narrowed := true }
def LoopRoundUptoSaid : Prop := loopRoundUptoRow.holds Try.pinned (OpenSpec.upto loopRoundSpec)

end Rows
end Go.Proofs.Ytpbajalecfaibaa
