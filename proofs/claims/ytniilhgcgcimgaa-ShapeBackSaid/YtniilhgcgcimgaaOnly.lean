/-
  Worlds in which one block alone may have changed.
-/
import Derived.Test.YtniilhgcgcimgaaMBase
namespace Go.Proofs.Ytniilhgcgcimgaa
open Go.RowKit
set_option linter.unusedSimpArgs false
set_option linter.unusedVariables false

/-- of what was there, block g alone may have changed -/
structure Only (g : Nat) (w w' : World) : Prop where
  os : w'.os = w.os
  tape : w'.tape = w.tape
  output : w'.output = w.output
  size : w.heap.size ≤ w'.heap.size
  block : ∀ b, b < w.heap.size → b ≠ g → w'.heap[b]? = w.heap[b]?

theorem Only.refl (g : Nat) (w : World) : Only g w w := ⟨rfl, rfl, rfl, Nat.le_refl _, fun _ _ _ => rfl⟩

theorem Only.trans {g : Nat} {w w1 w2 : World} (h : Only g w w1) (h2 : Only g w1 w2) : Only g w w2 :=
  ⟨h2.os.trans h.os, h2.tape.trans h.tape, h2.output.trans h.output, Nat.le_trans h.size h2.size, fun b hb hne => (h2.block b (Nat.lt_of_lt_of_le hb h.size) hne).trans (h.block b hb hne)⟩

theorem Only.of_below (g : Nat) {w w' : World} (h : Below w.heap.size w w') : Only g w w' := ⟨h.os, h.tape, h.output, h.size, fun b hb _ => h.block b hb⟩

theorem Only.via {g : Nat} {w w1 w2 : World} (h : Only g w w1) (h2 : Below w1.heap.size w1 w2) : Only g w w2 := h.trans (Only.of_below g h2)

theorem Only.set {g : Nat} {w w1 : World} (h : Only g w w1) (i : Nat) (v : Value) : Only g w (w1.setCell ⟨g, i, none⟩ v) :=
  h.trans ⟨rfl, rfl, rfl, by simp [World.setCell], fun b _ hne => Below.heap_setCell w1 ⟨g, i, none⟩ v b (fun e => hne e)⟩

theorem Only.below {g B : Nat} {w w' : World} (h : Only g w w') (hB : B ≤ g) (hs : B ≤ w.heap.size) : Below B w w' := ⟨h.os, h.tape, h.output, h.size, fun b hb => h.block b (by omega) (by omega)⟩

theorem Only.own {g g' : Nat} {w w' : World} {t : TypeId} {cs : List Value} (h : Only g w w') (ho : Own w g' t cs) (hne : g' ≠ g) : Own w' g' t cs := (h.block g' ho.lt hne).trans ho

end Go.Proofs.Ytniilhgcgcimgaa
