/-
  way.Parts (E2): the strongly connected components.
-/
import Derived.Test.YtmbabbdcijgnoaaWayFin
import Derived.Test.YtmbabbdcijgnoaaWayCheck
namespace Go.Proofs.Ytmbabbdcijgnoaa
open Go.RowKit
set_option linter.unusedSimpArgs false
set_option linter.unusedVariables false
set_option maxRecDepth 100000

/-- words as values -/
def uv (ws : List Nat) : List Value := ws.map fun x => .int .u32 ((x : Nat) : Int)

theorem uv_at {ws : List Nat} {j x : Nat} (h : ws[j]? = some x) : (uv ws)[j]? = some (.int .u32 ((x : Nat) : Int)) := by simp [uv, h]

theorem uv_set (ws : List Nat) (i x : Nat) : (uv ws).set i (.int .u32 ((x : Nat) : Int)) = uv (ws.set i x) := by simp [uv, List.map_set]

theorem OwnU.rd {w : World} {g : Nat} {t : TypeId} {ws : List Nat} (h : Own w g t (uv ws)) : RdU w (g + 1) (some ⟨g, 0, none⟩) ws := fun _ =>
  ⟨⟨g, 0, none⟩, rfl, Nat.lt_succ_self _, fun j hj => by
    have hc := h.cell (j := j) (uv_at (List.getElem?_eq_getElem hj))
    have ha : (⟨g, 0, none⟩ : Addr).add j = ⟨g, j, none⟩ := by unfold Addr.add; split <;> simp_all
    rw [ha, hc]
    simp [hj]⟩

theorem make_words {P : Program} (t e : TypeId) (ht : P.underlying t = some (.slice e)) (hi : (P.info? e).map (fun i => (i.zero, i.size, i.bytes)) = some (some (.int .u32 0), 1, 4)) (n : Nat) (hn : n ≤ 65536) (w : World) :
    (Instr.makeSlice t (.int .i64 (n : Int)) (.int .i64 (n : Int))).run P w = .ok (.slice (some ⟨w.heap.size, 0, none⟩) n n) (w.alloc (.cells (uv (List.replicate n 0)).toArray e)) := by
  obtain ⟨i0, hi0, hz, hs, hb⟩ := info_parts hi
  have h := run_make (P := P) w t e i0 _ ht hi0 hz .i64 .i64 (n : Int) (n : Int) (by omega) (by omega) (by rw [hb]; omega) (by omega)
  simp only [Int.toNat_natCast, hs, Nat.mul_one] at h
  rw [h]
  have hm : madeCells (Value.int .u32 0).cells n = (uv (List.replicate n 0)).toArray := by
    apply Array.ext
    · simp [madeCells, uv]
    · intro j h1 h2
      simp [madeCells, uv, Value.cells, Nat.mod_one]
  rw [hm]

/-- there and back -/
def boB (nx : List (List Int)) (i j : Nat) : Bool := decide (j ∈ fiL nx i) && decide (i ∈ fiL nx j)

/-- of those below n -/
def boR (nx : List (List Int)) (i n : Nat) : List Nat := (List.range n).filter (boB nx i)

theorem boR_succ (nx : List (List Int)) (i n : Nat) : boR nx i (n + 1) = if boB nx i n = true then boR nx i n ++ [n] else boR nx i n := by
  unfold boR
  rw [List.range_succ, List.filter_append]
  by_cases h : boB nx i n = true
  · rw [if_pos h]; simp [h]
  · rw [if_neg h]; simp [h]

theorem boR_lt {nx : List (List Int)} {i n x : Nat} (h : x ∈ boR nx i n) : x < n := List.mem_range.1 (List.mem_filter.1 h).1

theorem boR_mem {nx : List (List Int)} (hc : ckWay nx = 0) {i j : Nat} (hi : i < nx.length) : j ∈ boR nx i nx.length ↔ Both nx i j := by
  unfold boR boB
  rw [List.mem_filter, List.mem_range, Bool.and_eq_true, decide_eq_true_eq, decide_eq_true_eq]
  constructor
  · rintro ⟨h1, h2, h3⟩
    exact ⟨(fi_mem hc hi).1 h2, (fi_mem hc h1).1 h3⟩
  · rintro ⟨h1, h2⟩
    have hj := h1.lt hc hi
    exact ⟨hj, (fi_mem hc hi).2 h1, (fi_mem hc hj).2 h2⟩

theorem Pts.of {nx : List (List Int)} (hc : ckWay nx = 0) {ps : List Nat} (hl : ps.length = nx.length) (h : ∀ r, r < nx.length → ps[r]? = some (setW (boR nx r nx.length))) : Pts nx ps := by
  refine ⟨hl, fun i W hW => ?_, fun i W hW j => ?_⟩
  · have hi : i < nx.length := by rw [← hl]; exact (List.getElem?_eq_some_iff.1 hW).1
    rw [h i hi] at hW
    injection hW with hW
    rw [← hW]
    exact setW_lt fun x hx => boR_lt hx
  · have hi : i < nx.length := by rw [← hl]; exact (List.getElem?_eq_some_iff.1 hW).1
    rw [h i hi] at hW
    injection hW with hW
    rw [← hW, setW_bit, boR_mem hc hi]

theorem setW_u32 {hs : List Nat} {n : Nat} (h : ∀ x ∈ hs, x < n) (hn : n ≤ 32) : setW hs < 4294967296 := by
  have := setW_lt (n := 32) (hs := hs) (fun x hx => by have := h x hx; omega)
  simpa using this

end Go.Proofs.Ytmbabbdcijgnoaa
