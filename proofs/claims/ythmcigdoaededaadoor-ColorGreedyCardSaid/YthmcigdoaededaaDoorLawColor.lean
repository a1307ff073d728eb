/-
  An argument that is a slice of pairs of ints, opened (O1).
-/
import Derived.Test.YthmcigdoaededaaDoorLaw
import Derived.Test.YthmcigdoaededaaDoorSwapMv
import Derived.OpenShut
namespace Go.Proofs.YthmcigdoaededaaDoor
open Go.RowKit Go.ChangeShapes Go.WideShapes Go.ChangeAt Go.Deep
set_option linter.unusedSimpArgs false
set_option linter.unusedVariables false
set_option maxRecDepth 100000

section
variable {H : Type} {enc : TypeId × Value → H} {P : Program} {w : World} {base : Nat} {spare : Nat → Bool} {held : Bool}

theorem cMv_mkC (g : Nat → Int) (i : Nat) (h : i < 2) : (cMv (g 0, g 1))[i]? = some (.int .i64 (g i)) := by
  have : i = 0 ∨ i = 1 := by omega
  rcases this with rfl | rfl <;> rfl

/-- a slice of pairs of ints that comes in -/
theorem open_twos {t e f : TypeId} {r : Reach} {b0 : Nat} {v : Value} {d : DataW H} {ps : List MemPlace} (ht : P.underlying t = some (.slice e)) (he : P.underlying e = some (.array 2 f)) (hf : P.underlying f = some (.int .i64)) (hC : P.cellsOf e = 2) (hCf : P.cellsOf f = 1)
    (hv : Value.okWide P w r b0 t v) (h : DataW.Trod enc P w base spare held t v d ps) :
    ∃ (A : Option Addr) (cap : Nat) (l : List (Int × Int)), v = .slice A l.length cap ∧ l.length ≤ cap ∧ cap ≤ maxLen ∧ RdM w w.heap.size A l ∧ True := by
  obtain ⟨A, len, cap, rfl⟩ := okWide_slice ht hv
  obtain ⟨fuel, hfu⟩ := h
  rcases open_slice ht hfu with h0 | ⟨a, len', cap', m, n, D, Pl, hcs, hb, hl, hm, hmm, hx, hi⟩
  · obtain ⟨h0, _⟩ := h0
    simp only [Value.cells, List.cons.injEq, Value.slice.injEq, and_true] at h0
    obtain ⟨rfl, rfl, rfl⟩ := h0
    exact ⟨none, 0, [], rfl, Nat.le_refl _, by simp [maxLen], fun h => by simp at h, trivial⟩
  · simp only [Value.cells, List.cons.injEq, Value.slice.injEq, and_true] at hcs
    obtain ⟨rfl, rfl, rfl⟩ := hcs
    have hcell : ∀ i, i < len → ∀ j, j < 2 → ∃ q : Int, w.cell? (a.add (i * 2 + j)) = some (.int .i64 q) := fun i hil j hj => by
      have him : i < m := by rw [hmm]; split <;> omega
      obtain ⟨cs', hc, ht'⟩ := hi i him
      obtain ⟨xs, n', _, _, hlen, hxl, hel⟩ := DataW.trod_array he ht'
      rw [hC] at hc
      obtain ⟨_, hcl, hat⟩ := World.cells?_some hc
      have h1 := hel j hj
      rw [hCf, Nat.mul_one, List.drop_eq_getElem_cons (by omega)] at h1
      rw [List.take_succ_cons, List.take_zero] at h1
      rw [List.getElem?_eq_getElem (show j < xs.length by omega)] at h1
      obtain ⟨q, hq, _, hwf⟩ := DataW.trod_int hf h1
      have hc2 := hat j hj
      rw [addr_add_add, List.getElem?_eq_getElem (show j < cs'.length by omega)] at hc2
      have hvv : cs'[j]'(by omega) = .int .i64 q := by injection hq
      rw [hvv] at hc2
      exact ⟨q, hc2⟩
    obtain ⟨g, hg⟩ : ∃ g : Nat → Nat → Int, ∀ i, i < len → ∀ j, j < 2 → w.cell? (a.add (i * 2 + j)) = some (.int .i64 (g i j)) := by
      refine ⟨fun i j => (match w.cell? (a.add (i * 2 + j)) with | some (.int _ q) => q | _ => 0), fun i hil j hj => ?_⟩
      obtain ⟨q, hq⟩ := hcell i hil j hj
      simp only [hq]
    have hL : ((List.range len).map fun i => (g i 0, g i 1)).length = len := by simp
    refine ⟨some a, cap, (List.range len).map fun i => (g i 0, g i 1), by rw [hL], by rw [hL]; exact hl, hm, fun hp => ?_, trivial⟩
    rw [hL] at hp
    have h0 := hg 0 (by omega) 0 (by omega)
    refine ⟨a, rfl, by have := block_lt h0; rw [addr_add_block] at this; exact this, fun j hj => ?_⟩
    rw [hL] at hj
    have hq := hg (j / 2) (by omega) (j % 2) (by omega)
    rw [show j / 2 * 2 + j % 2 = j from by omega] at hq
    rw [hq]
    have hx : ((List.range len).map fun i => (g i 0, g i 1))[j / 2]? = some (g (j / 2) 0, g (j / 2) 1) := by rw [List.getElem?_map, List.getElem?_range (by omega)]; rfl
    have hat := rv_at cMv_len hx (i := j % 2) (by omega)
    rw [show j / 2 * 2 + j % 2 = j from by omega, cMv_mkC (fun k => g (j / 2) k) _ (by omega)] at hat
    show _ = some ((rv cMv ((List.range len).map fun i => (g i 0, g i 1))).getD j undef)
    rw [List.getD_eq_getElem?_getD, hat]
    rfl

end

section
variable {H : Type} {enc : TypeId × Value → H} {w : World} {base : Nat} {spare : Nat → Bool} {held : Bool}

theorem open_pairsA {r : Reach} {b0 : Nat} {v : Value} {d : DataW H} {ps : List MemPlace} (hv : Value.okWide Tryd.prog w r b0 22 v) (h : DataW.Trod enc Tryd.prog w base spare held 22 v d ps) :
    ∃ (A : Option Addr) (cap : Nat) (l : List (Int × Int)), v = .slice A l.length cap ∧ l.length ≤ cap ∧ cap ≤ maxLen ∧ RdM w w.heap.size A l ∧ True :=
  open_twos Tryd.underlying22 Tryd.underlying44 Tryd.underlying3 (by kernel_rfl) (by kernel_rfl) hv h

end

end Go.Proofs.YthmcigdoaededaaDoor
