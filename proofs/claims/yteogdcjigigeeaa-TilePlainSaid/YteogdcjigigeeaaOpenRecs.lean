/-
  An argument that is a slice of records of ints, opened, whatever the record.
-/
import Derived.Test.YteogdcjigigeeaaMOpen
import Derived.Test.YteogdcjigigeeaaMBase
namespace Go.Proofs.Yteogdcjigigeeaa
open Go.RowKit Go.ChangeShapes Go.WideShapes Go.ChangeAt Go.Deep
set_option linter.unusedSimpArgs false
set_option linter.unusedVariables false
set_option maxRecDepth 100000

section
variable {H : Type} {enc : TypeId × Value → H} {P : Program} {w : World} {base : Nat} {spare : Nat → Bool} {held : Bool}

/-- a slice of records of ints that comes in, whatever the record: mk makes it of its fields, c gives them back -/
theorem open_recsG {α : Type} {c : α → List Value} {m : Nat} (mk : (Nat → Int) → α) (hc : ∀ g i, i < m → (c (mk g))[i]? = some (.int .i64 (g i))) (hcl : ∀ x, (c x).length = m) (h0 : 0 < m)
    {t e : TypeId} {fs : Array Field} {r : Reach} {b0 : Nat} {v : Value} {d : DataW H} {ps : List MemPlace} (ht : P.underlying t = some (.slice e)) (he : P.underlying e = some (.struct fs)) (hn : fs.size = m)
    (hone : oneCellFields P fs = true) (hC : P.cellsOf e = fs.size) (hint : intFields P fs = true) (hv : Value.okWide P w r b0 t v) (h : DataW.Trod enc P w base spare held t v d ps) :
    ∃ (A : Option Addr) (cap : Nat) (l : List α), v = .slice A l.length cap ∧ l.length ≤ cap ∧ cap ≤ maxLen ∧ RdR c w w.heap.size A m l ∧ ∀ x ∈ l, ∃ g, x = mk g ∧ ∀ i, i < m → inI (g i) := by
  obtain ⟨A, len, cap, rfl⟩ := okWide_slice ht hv
  obtain ⟨fuel, hf⟩ := h
  rcases open_rows ht he hone hC hint hf with h1 | ⟨a, len', cap', g, hcs, hb, hl, hm, hg⟩
  · simp only [Value.cells, List.cons.injEq, Value.slice.injEq, and_true] at h1
    obtain ⟨rfl, rfl, rfl⟩ := h1
    exact ⟨none, 0, [], rfl, Nat.le_refl _, by simp [maxLen], fun h => by simp at h, fun _ h => by simp at h⟩
  · simp only [Value.cells, List.cons.injEq, Value.slice.injEq, and_true] at hcs
    obtain ⟨rfl, rfl, rfl⟩ := hcs
    have hL : ((List.range len).map fun i => mk (g i)).length = len := by simp
    refine ⟨some a, cap, (List.range len).map fun i => mk (g i), by rw [hL], by rw [hL]; exact hl, hm, fun hp => ?_, fun x hx => ?_⟩
    · rw [hL] at hp
      have hlen : 0 < len := by
        rcases Nat.eq_zero_or_pos len with h2 | h2
        · rw [h2] at hp; simp at hp
        · exact h2
      have h2 := (hg 0 hlen 0 (by omega)).1
      refine ⟨a, rfl, by have := block_lt h2; rw [addr_add_block] at this; exact this, fun j hj => ?_⟩
      rw [hL] at hj
      have hi : j / m < len := Nat.div_lt_of_lt_mul (by rw [Nat.mul_comm]; exact hj)
      have hr : j % m < m := Nat.mod_lt _ h0
      have hq := (hg (j / m) hi (j % m) (by omega)).1
      have hjm : j / m * m + j % m = j := by rw [Nat.mul_comm]; exact Nat.div_add_mod j m
      rw [hn, hjm] at hq
      rw [hq]
      have hx : ((List.range len).map fun i => mk (g i))[j / m]? = some (mk (g (j / m))) := by rw [List.getElem?_map, List.getElem?_range hi]; rfl
      have hat := rv_at hcl hx hr
      rw [hjm, hc _ _ hr] at hat
      show _ = some ((rv c ((List.range len).map fun i => mk (g i))).getD j undef)
      rw [List.getD_eq_getElem?_getD, hat]
      rfl
    · obtain ⟨i, hi, rfl⟩ := List.mem_map.1 hx
      have hi := List.mem_range.1 hi
      exact ⟨g i, rfl, fun j hj => (hg i hi j (by omega)).2⟩

end

end Go.Proofs.Yteogdcjigigeeaa
