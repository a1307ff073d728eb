/-
  What the laws of package way share: graphs opened; codemasonkeep.may.
-/
import Derived.Test.YtmbabbdcijgnoaaWay
import Derived.Test.YtmbabbdcijgnoaaLaw
import Derived.Deep.Matrix
namespace Go.Proofs.Ytmbabbdcijgnoaa
open Go.RowKit Go.ChangeShapes Go.WideShapes Go.ChangeAt Go.Deep
set_option linter.unusedSimpArgs false
set_option linter.unusedVariables false
set_option maxRecDepth 100000

section
variable {H : Type} {enc : TypeId × Value → H} {P : Program} {w : World} {base : Nat} {held : Bool}

/-- a slice of slices of ints that comes in -/
theorem open_graphR {t e q : TypeId} {r : Reach} {b0 : Nat} {v : Value} {d : DataW H} {ps : List MemPlace} (ht : P.underlying t = some (.slice e)) (he : P.underlying e = some (.slice q)) (hq : P.underlying q = some (.int .i64)) (ce : P.cellsOf e = 1) (cq : P.cellsOf q = 1)
    (hv : Value.okWide P w r b0 t v) (h : DataW.Trod enc P w base (fun _ => true) held t v d ps) :
    ∃ (A : Option Addr) (cap : Nat) (nx : List (List Int)), v = .slice A nx.length cap ∧ nx.length ≤ cap ∧ cap ≤ maxLen ∧ RdG w w.heap.size A nx ∧ ∀ row ∈ nx, row.length ≤ maxLen ∧ ∀ x ∈ row, inI x := by
  obtain ⟨A, len, cap, rfl⟩ := okWide_slice ht hv
  obtain ⟨fuel, hf⟩ := h
  rcases open_int_rows ht he hq ce cq hf with ⟨h0, _⟩ | ⟨a, len', cap', Ar, L, C, Z, hcs, hb, hl, hm, _, hrow⟩
  · simp only [Value.cells, List.cons.injEq, Value.slice.injEq, and_true] at h0
    obtain ⟨rfl, rfl, rfl⟩ := h0
    exact ⟨none, 0, [], rfl, Nat.le_refl _, by simp [maxLen], fun h => by simp at h, fun _ h => by simp at h⟩
  · simp only [Value.cells, List.cons.injEq, Value.slice.injEq, and_true] at hcs
    obtain ⟨rfl, rfl, rfl⟩ := hcs
    have hN : ((List.range len).map fun r => (Z r).take (L r)).length = len := by simp
    have hzl : ∀ r, r < len → ((Z r).take (L r)).length = L r := fun r hr => by
      obtain ⟨_, h1, _, h2, _⟩ := hrow r (by omega)
      rw [List.length_take]
      omega
    refine ⟨some a, cap, (List.range len).map fun r => (Z r).take (L r), by rw [hN], by rw [hN]; exact hl, hm, fun hp => ?_, fun row hr => ?_⟩
    · rw [hN] at hp
      have h0 := (hrow 0 (by omega)).1
      refine ⟨a, rfl, by have := block_lt h0; rw [addr_add_block] at this; exact this, fun r row hr => ?_⟩
      have hrl := (List.getElem?_eq_some_iff.1 hr).1
      rw [hN] at hrl
      rw [List.getElem?_map, List.getElem?_range hrl] at hr
      injection hr with hr
      subst hr
      obtain ⟨g1, g2, g3, g4, g5, g6, g7⟩ := hrow r (by omega)
      refine ⟨Ar r, C r, ?_, fun hm => ?_⟩
      · rw [g1]
        simp only [hzl r hrl]
      · rw [hzl r hrl] at hm
        cases hA : Ar r with
        | none => have := g6 hA; omega
        | some a' =>
          obtain ⟨k1, k2⟩ := g7 a' hA
          have k0 := k2 0 (by omega)
          refine ⟨a', rfl, by have := block_lt k0; rw [addr_add_block] at this; exact this, fun j hj => ?_⟩
          rw [hzl r hrl] at hj
          rw [k2 j (by omega)]
          simp [ic, List.getElem?_take, hj]
    · obtain ⟨r, hrr, rfl⟩ := List.mem_map.1 hr
      have hrl := List.mem_range.1 hrr
      obtain ⟨g1, g2, g3, g4, g5, g6, g7⟩ := hrow r (by omega)
      exact ⟨by rw [hzl r hrl]; omega, fun x hx => inI_of (g5 x (List.mem_of_mem_take hx))⟩

end

section
variable {H : Type} {enc : TypeId × Value → H} {w : World} {base : Nat} {held : Bool} {r : Reach} {b0 : Nat} {v : Value} {d : DataW H} {ps : List MemPlace}
theorem open_graphA (hv : Value.okWide Try.prog w r b0 22 v) (h : DataW.Trod enc Try.prog w base (fun _ => true) held 22 v d ps) :
    ∃ (A : Option Addr) (cap : Nat) (nx : List (List Int)), v = .slice A nx.length cap ∧ nx.length ≤ cap ∧ cap ≤ maxLen ∧ RdG w w.heap.size A nx ∧ ∀ row ∈ nx, row.length ≤ maxLen ∧ ∀ x ∈ row, inI x :=
  open_graphR Try.underlying22 Try.underlying34 Try.underlying3 (by kernel_rfl) (by kernel_rfl) hv h
end

end Go.Proofs.Ytmbabbdcijgnoaa
