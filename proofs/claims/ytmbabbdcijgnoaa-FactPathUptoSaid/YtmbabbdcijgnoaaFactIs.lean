/-
  What package fact's functions do (I1, I2): their contracts in one word.
-/
import Derived.Test.YtmbabbdcijgnoaaFactRef
import Derived.Test.YtmbabbdcijgnoaaWayIs
namespace Go.Proofs.Ytmbabbdcijgnoaa
open Go.RowKit
set_option linter.unusedSimpArgs false
set_option linter.unusedVariables false
set_option maxRecDepth 100000

/-- one edge of a path -/
def stB (nx : List (List Int)) (bw : Bool) (a b : Int) : Bool := if bw = true then hasB (nx.getD b.toNat []) a else hasB (nx.getD a.toNat []) b

/-- does every step of a path lead along an edge? -/
def pthB (nx : List (List Int)) (bw : Bool) : List Int → Bool
  | a :: b :: ps => stB nx bw a b && pthB nx bw (b :: ps)
  | _ => true

/-- I1: the code of a problem and a path -/
def ckAlong (nx : List (List Int)) (lw : Lw) (ps : List Int) : Int :=
  if ckLaw nx lw = 0 then (if ps ≠ [] ∧ rowOk nx.length ps = true ∧ pthB nx lw.bw ps = true then 0 else 5) else ckLaw nx lw

/-- facts behind a node -/
def behW (lw : Lw) (a : Int) (s : Nat) : Nat := (s &&& (4294967295 - lw.en.getD a.toNat 0)) ||| lw.ma.getD a.toNat 0

/-- I1: the facts ahead of the last node -/
def alW (lw : Lw) : List Int → Nat → Nat
  | a :: b :: ps, s => alW lw (b :: ps) (behW lw a s)
  | _, s => s

theorem Rd.but {w w' : World} {B G m : Nat} {A : Option Addr} {f : Nat → Value} (h : Rd w B A m f) (hg : ∀ ad, A = some ad → ad.block ≠ G) (hk : ∀ p : Addr, p.block ≠ G → w'.cell? p = w.cell? p) : Rd w' B A m f := fun hm => by
  obtain ⟨ad, e, hb, hc⟩ := h hm
  exact ⟨ad, e, hb, fun j hj => (hk _ (by rw [addr_add_block]; exact hg ad e)).trans (hc j hj)⟩

structure FactIs : Prop where
  solve : ∀ (A : Option Addr) (len cap : Nat) (nx : List (List Int)) (A1 : Option Addr) (c1 : Nat) (A2 : Option Addr) (c2 : Nat) (lw : Lw) (w : World), RdG w w.heap.size A nx → nx.length = len → RdL w w.heap.size A1 A2 lw → U32L lw → ckLaw nx lw = 0 →
    Calls Try.prog 8 #[.slice A len cap, .agg #[.bool lw.bw, .bool lw.al, .slice A1 lw.ma.length c1, .slice A2 lw.en.length c2, .int .u32 (lw.st : Nat)]] w fun e w' => ∃ ws A' c', Slv nx lw ws ∧ e = .returned (.tuple #[.slice A' len c', .int .i64 0]) ∧ RdU w' w'.heap.size A' ws ∧ (∀ ad, A' = some ad → w.heap.size ≤ ad.block) ∧ Below w.heap.size w w'
  solveBad : ∀ (A : Option Addr) (len cap : Nat) (nx : List (List Int)) (A1 : Option Addr) (c1 : Nat) (A2 : Option Addr) (c2 : Nat) (lw : Lw) (w : World), RdG w w.heap.size A nx → nx.length = len → len ≤ maxLen → RdL w w.heap.size A1 A2 lw → U32L lw → ckLaw nx lw ≠ 0 →
    Calls Try.prog 8 #[.slice A len cap, .agg #[.bool lw.bw, .bool lw.al, .slice A1 lw.ma.length c1, .slice A2 lw.en.length c2, .int .u32 (lw.st : Nat)]] w fun e w' => ∃ A' c', e = .returned (.tuple #[.slice A' 0 c', .int .i64 (ckLaw nx lw)]) ∧ Below w.heap.size w w'

/-- .. of its other function -/
structure AlongIs : Prop where
  along : ∀ (A : Option Addr) (len cap : Nat) (nx : List (List Int)) (A1 : Option Addr) (c1 : Nat) (A2 : Option Addr) (c2 : Nat) (lw : Lw) (Ap : Option Addr) (np cp : Nat) (ps : List Int) (w : World), RdG w w.heap.size A nx → nx.length = len → len ≤ maxLen → RdL w w.heap.size A1 A2 lw → U32L lw → RdI w w.heap.size Ap ps → ps.length = np → np ≤ maxLen → np ≤ cp → ckAlong nx lw ps = 0 →
    Calls Try.prog 12 #[.slice A len cap, .agg #[.bool lw.bw, .bool lw.al, .slice A1 lw.ma.length c1, .slice A2 lw.en.length c2, .int .u32 (lw.st : Nat)], .slice Ap np cp] w fun e w' => e = .returned (.tuple #[.int .u32 (alW lw ps lw.st : Nat), .int .i64 0]) ∧ Below w.heap.size w w'
  alongBad : ∀ (A : Option Addr) (len cap : Nat) (nx : List (List Int)) (A1 : Option Addr) (c1 : Nat) (A2 : Option Addr) (c2 : Nat) (lw : Lw) (Ap : Option Addr) (np cp : Nat) (ps : List Int) (w : World), RdG w w.heap.size A nx → nx.length = len → len ≤ maxLen → RdL w w.heap.size A1 A2 lw → U32L lw → RdI w w.heap.size Ap ps → ps.length = np → np ≤ maxLen → ckAlong nx lw ps ≠ 0 →
    Calls Try.prog 12 #[.slice A len cap, .agg #[.bool lw.bw, .bool lw.al, .slice A1 lw.ma.length c1, .slice A2 lw.en.length c2, .int .u32 (lw.st : Nat)], .slice Ap np cp] w fun e w' => e = .returned (.tuple #[.int .u32 0, .int .i64 (ckAlong nx lw ps)]) ∧ Below w.heap.size w w'

/-- of package way: what stage 9's laws call -/
structure ReachIs : Prop where
  reach : ∀ (A : Option Addr) (len cap : Nat) (nx : List (List Int)) (w : World), RdG w w.heap.size A nx → nx.length = len → len ≤ maxLen →
    Calls Try.prog 18 #[.slice A len cap] w fun e w' => e = .returned (.tuple #[.int .u32 (reachW nx : Nat), .int .i64 (ckWay nx)]) ∧ Below w.heap.size w w'

end Go.Proofs.Ytmbabbdcijgnoaa
