/-
  slices.Backward over terms: its closure hands over (len - 1, last), .., (0, first), whatever the loop's body does that keeps what lay below.
-/
import Derived.Test.YthgilekhohadoaaMBase
import Derived.RangeFuncNested
import Derived.RangeFuncBound
import Derived.RangeFuncCalls
import Derived.RangeFuncLeaves
import Derived.RangeFuncBox
import Derived.Shelf.Abstract
import Derived.Shelf.RegionOpen
import Derived.OwnWalkIn
import Derived.TacticsInMore
import Derived.LoopNIn
import Derived.LoopIn
namespace Go.Proofs.Ythgilekhohadoaa
open Go.RowKit Go.Shelf
set_option linter.unusedSimpArgs false
set_option linter.unusedVariables false
set_option maxRecDepth 100000
attribute [local go_sem] Oper.semAt_some

theorem Own.kept {W W' : World} {row : Option Nat} {g : Nat} {t : TypeId} {cs : List Value} (h : Own W g t cs) (hg : W.grownBy W' row) (hr : ∀ r, row = some r → ∃ o : Obj, W.heap[r]? = some o ∧ o.isCells = false) : Own W' g t cs :=
  (hg.block g h.lt (fun e => by
    obtain ⟨o, ho, hc⟩ := hr g e.symm
    unfold Own at h
    rw [h] at ho
    cases ho
    cases hc)).trans h

/-- what the closure hands to the body: the number of a term, and the term -/
def encT (l : List Tm) (x : Fin l.length) : Array Value := #[.int .i64 (x.1 : Int), .agg #[.int .i64 l[x.1].op, .int .i64 l[x.1].a, .int .i64 l[x.1].b, .int .i64 l[x.1].v]]

/-- what a round keeps: all below n₀, and the block Bs -/
def KpB (n₀ Bs : Nat) (W W' : World) : Prop := Below n₀ W W' ∧ W'.heap[Bs]? = W.heap[Bs]?

theorem KpB.t {n₀ Bs : Nat} {A B C : World} (h : KpB n₀ Bs A B) (k : KpB n₀ Bs B C) : KpB n₀ Bs A C := ⟨h.1.trans k.1, k.2.trans h.2⟩

theorem KpB.refl (n₀ Bs : Nat) (A : World) : KpB n₀ Bs A A := ⟨Below.refl _ _, rfl⟩

theorem KpB.b {n₀ Bs : Nat} {w : World} (hn : n₀ ≤ w.heap.size) (hB : Bs < w.heap.size) (W : World) (l : Nat) (o o' : Obj) (hl : w.heap.size ≤ l) (h : W.heap[l]? = some o) (h1 : o.isCells = false) (h2 : o.isWalk = false) : KpB n₀ Bs W (W.putObj l o') :=
  ⟨belowK_b hn W l o o' hl h h1 h2, World.putObj_heap_other (by omega)⟩

theorem KpB.setCell {n₀ Bs : Nat} (W : World) {p : Addr} (h : n₀ ≤ p.block) (hB : Bs ≠ p.block) (u : Value) : KpB n₀ Bs W (W.setCell p u) := ⟨(Below.refl _ _).setCell h u, Below.heap_setCell W p u Bs hB⟩

theorem KpB.alloc {n₀ Bs : Nat} (W : World) (h : n₀ ≤ W.heap.size) (hB : Bs < W.heap.size) (o : Obj) : KpB n₀ Bs W (W.alloc o) := ⟨(Below.refl _ _).alloc h o, Below.heap_alloc W o Bs hB⟩

theorem KpB.drew {n₀ Bs : Nat} {A B : World} (h : KpB n₀ Bs A B) : KpB n₀ Bs A B.drew := ⟨h.1.drew, h.2⟩

end Go.Proofs.Ythgilekhohadoaa
