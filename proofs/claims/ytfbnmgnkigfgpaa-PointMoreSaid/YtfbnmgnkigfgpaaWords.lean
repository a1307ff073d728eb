/-
  Words as cells; codemasonref.Fits.
-/
import Derived.Test.YtfbnmgnkigfgpaaMBase
namespace Go.Proofs.Ytfbnmgnkigfgpaa
open Go.RowKit
set_option linter.unusedSimpArgs false
set_option linter.unusedVariables false
set_option maxRecDepth 100000

/-- words as cells -/
def RdU (w : World) (B : Nat) (A : Option Addr) (ws : List Nat) : Prop := Rd w B A ws.length (fun j => .int .u32 ((ws.getD j 0 : Nat) : Int))

theorem RdU.below {w w' : World} {B B' : Nat} {A : Option Addr} {ws : List Nat} (h : RdU w B A ws) (hb : Below B' w w') (hB : B ≤ B') : RdU w' B A ws := Rd.below h hb hB

theorem RdU.more {w : World} {B B' : Nat} {A : Option Addr} {ws : List Nat} (h : RdU w B A ws) (hB : B ≤ B') : RdU w B' A ws := Rd.more h hB

theorem RdU.at_ {w : World} {B : Nat} {A : Option Addr} {ws : List Nat} {k : Nat} (h : RdU w B A ws) (hk : k < ws.length) :
    ∃ (ad : Addr) (x : Nat), A = some ad ∧ (ad.add k).block < B ∧ ws[k]? = some x ∧ w.cell? (ad.add k) = some (.int .u32 (x : Int)) := by
  obtain ⟨ad, e, hb, hc⟩ := h (by omega)
  refine ⟨ad, ws[k], e, by rw [addr_add_block]; exact hb, List.getElem?_eq_getElem hk, ?_⟩
  rw [hc k hk]
  simp [hk]

end Go.Proofs.Ytfbnmgnkigfgpaa
