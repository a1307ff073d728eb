/-
  Graphs as slices of slices of ints: read, opened; codemasonref.WayCheck, Reach, Set (E1).
-/
import Derived.Test.YthgilekhohadoaaPureWay
import Derived.Test.YthgilekhohadoaaInside
import Derived.Test.YthgilekhohadoaaComes
import Derived.Test.YthgilekhohadoaaBit
namespace Go.Proofs.Ythgilekhohadoaa
open Go.RowKit
set_option linter.unusedSimpArgs false
set_option linter.unusedVariables false
set_option maxRecDepth 100000

/-- a slice of slices of ints -/
def RdG (w : World) (B : Nat) (A : Option Addr) (nx : List (List Int)) : Prop :=
  0 < nx.length → ∃ ad : Addr, A = some ad ∧ ad.block < B ∧ ∀ r row, nx[r]? = some row → ∃ Ar cr, w.cell? (ad.add r) = some (.slice Ar row.length cr) ∧ RdI w B Ar row

theorem RdG.below {w w' : World} {B B' : Nat} {A : Option Addr} {nx : List (List Int)} (h : RdG w B A nx) (hb : Below B' w w') (hB : B ≤ B') : RdG w' B A nx := fun hm => by
  obtain ⟨ad, e, h1, h2⟩ := h hm
  refine ⟨ad, e, h1, fun r row hr => ?_⟩
  obtain ⟨Ar, cr, h3, h4⟩ := h2 r row hr
  exact ⟨Ar, cr, (hb.cell (by rw [addr_add_block]; omega)).trans h3, h4.below hb hB⟩

theorem RdG.more {w : World} {B B' : Nat} {A : Option Addr} {nx : List (List Int)} (h : RdG w B A nx) (hB : B ≤ B') : RdG w B' A nx := fun hm => by
  obtain ⟨ad, e, h1, h2⟩ := h hm
  refine ⟨ad, e, by omega, fun r row hr => ?_⟩
  obtain ⟨Ar, cr, h3, h4⟩ := h2 r row hr
  exact ⟨Ar, cr, h3, h4.more hB⟩

theorem RdG.at_ {w : World} {B : Nat} {A : Option Addr} {nx : List (List Int)} {k : Nat} (h : RdG w B A nx) (hk : k < nx.length) :
    ∃ (ad : Addr) (row : List Int) (Ar : Option Addr) (cr : Nat), A = some ad ∧ (ad.add k).block < B ∧ nx[k]? = some row ∧ w.cell? (ad.add k) = some (.slice Ar row.length cr) ∧ RdI w B Ar row := by
  obtain ⟨ad, e, h1, h2⟩ := h (by omega)
  have hr := List.getElem?_eq_getElem hk
  obtain ⟨Ar, cr, h3, h4⟩ := h2 k _ hr
  exact ⟨ad, _, Ar, cr, e, by rw [addr_add_block]; exact h1, hr, h3, h4⟩

theorem insideB_row {n : Int} : ∀ (row : List Int), insideB n row = rowOk n row
  | [] => rfl
  | x :: r => by
    have ih := insideB_row (n := n) r
    unfold insideB
    split
    · rename_i h
      have : rowOk n (x :: r) = false := by
        unfold rowOk
        rw [List.all_cons, show decide (0 ≤ x ∧ x < n) = false from by simp; omega]
        rfl
      exact this.symm
    · rename_i h
      rw [ih]
      unfold rowOk
      rw [List.all_cons, show decide (0 ≤ x ∧ x < n) = true from by simp; omega]
      rfl

end Go.Proofs.Ythgilekhohadoaa
