/-
  Words of the call's own: made, read, stored, added up.
-/
import Derived.Test.YtfbnmgnkigfgpaaWords
namespace Go.Proofs.Ytfbnmgnkigfgpaa
open Go.RowKit
set_option linter.unusedSimpArgs false
set_option linter.unusedVariables false
set_option maxRecDepth 100000

/-- words as values -/
def uv (ws : List Nat) : List Value := ws.map fun x => .int .u32 ((x : Nat) : Int)

theorem uv_at {ws : List Nat} {j x : Nat} (h : ws[j]? = some x) : (uv ws)[j]? = some (.int .u32 ((x : Nat) : Int)) := by simp [uv, h]

theorem uv_set (ws : List Nat) (i x : Nat) : (uv ws).set i (.int .u32 ((x : Nat) : Int)) = uv (ws.set i x) := by simp [uv, List.map_set]

theorem OwnU.rd {w : World} {g : Nat} {t : TypeId} {ws : List Nat} (h : Own w g t (uv ws)) : RdU w (g + 1) (some ⟨g, 0, none⟩) ws := fun _ =>
  ⟨⟨g, 0, none⟩, rfl, Nat.lt_succ_self _, fun j hj => by
    have hc := h.cell (j := j) (uv_at (List.getElem?_eq_getElem hj))
    have ha : (⟨g, 0, none⟩ : Addr).add j = ⟨g, j, none⟩ := by unfold Addr.add; split <;> simp_all
    rw [ha, hc]
    simp [hj]⟩

theorem make_words {P : Program} (t e : TypeId) (ht : P.underlying t = some (.slice e)) (hi : (P.info? e).map (fun i => (i.zero, i.size, i.bytes)) = some (some (.int .u32 0), 1, 4)) (n : Nat) (hn : n ≤ 65536) (w : World) :
    (Instr.makeSlice t (.int .i64 (n : Int)) (.int .i64 (n : Int))).run P w = .ok (.slice (some ⟨w.heap.size, 0, none⟩) n n) (w.alloc (.cells (uv (List.replicate n 0)).toArray e)) := by
  obtain ⟨i0, hi0, hz, hs, hb⟩ := info_parts hi
  have h := run_make (P := P) w t e i0 _ ht hi0 hz .i64 .i64 (n : Int) (n : Int) (by omega) (by omega) (by rw [hb]; omega) (by omega)
  simp only [Int.toNat_natCast, hs, Nat.mul_one] at h
  rw [h]
  have hm : madeCells (Value.int .u32 0).cells n = (uv (List.replicate n 0)).toArray := by
    apply Array.ext
    · simp [madeCells, uv]
    · intro j h1 h2
      simp [madeCells, uv, Value.cells, Nat.mod_one]
  rw [hm]

theorem OwnU.set {w : World} {g : Nat} {t : TypeId} {ws : List Nat} (h : Own w g t (uv ws)) (i x : Nat) : Own (w.setCell ⟨g, i, none⟩ (.int .u32 ((x : Nat) : Int))) g t (uv (ws.set i x)) := by
  rw [← uv_set]; exact h.set i _

/-- what a call's own words add up to -/
def cellSum (w : World) (g : Nat) : Nat :=
  match w.heap[g]? with
  | some (.cells a _ _) => (a.toList.map fun v => match v with | .int _ x => x.toNat | _ => 0).sum
  | _ => 0

theorem cellSum_own {w : World} {g : Nat} {t : TypeId} {tb : List Nat} (h : Own w g t (uv tb)) : cellSum w g = tb.sum := by
  unfold Own at h
  unfold cellSum
  rw [h]
  simp only [uv, List.map_map]
  congr 1
  conv => rhs; rw [← List.map_id tb]
  exact List.map_congr_left fun x _ => by simp

end Go.Proofs.Ytfbnmgnkigfgpaa
