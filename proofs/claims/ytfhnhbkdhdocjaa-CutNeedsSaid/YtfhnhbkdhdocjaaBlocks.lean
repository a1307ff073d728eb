/-
  Blocks in a block of the call's own, each stored whole: its steps lie elsewhere.
-/
import Derived.Test.YtfhnhbkdhdocjaaMBlock
import Derived.Test.YtfhnhbkdhdocjaaMOpen
namespace Go.Proofs.Ytfhnhbkdhdocjaa
open Go.RowKit
set_option linter.unusedSimpArgs false
set_option linter.unusedVariables false
set_option maxRecDepth 100000

theorem make_blocks {P : Program} (t e : TypeId) (ht : P.underlying t = some (.slice e)) (hi : (P.info? e).map (fun i => (i.zero, i.size, i.bytes)) = some (some (.agg #[.slice none 0 0, .int .i64 0, .int .i64 0, .int .i64 0]), 4, 48)) (n : Nat) (hn : n ≤ 65536) (w : World) :
    (Instr.makeSlice t (.int .i64 (n : Int)) (.int .i64 (n : Int))).run P w = .ok (.slice (some ⟨w.heap.size, 0, none⟩) n n) (w.alloc (.cells (rv cBk (List.replicate n ((⟨[], 0, 0, 0⟩ : Bk), (none : Option Addr), 0))).toArray e)) := by
  obtain ⟨i0, hi0, hz, hs, hb⟩ := info_parts hi
  have h := run_make (P := P) w t e i0 _ ht hi0 hz .i64 .i64 (n : Int) (n : Int) (by omega) (by omega) (by rw [hb]; omega) (by omega)
  simp only [Int.toNat_natCast, hs] at h
  rw [h]
  have hm : madeCells (Value.agg #[.slice none 0 0, .int .i64 0, .int .i64 0, .int .i64 0]).cells (n * 4) = (rv cBk (List.replicate n ((⟨[], 0, 0, 0⟩ : Bk), (none : Option Addr), 0))).toArray := by
    apply Array.ext
    · simp [madeCells, rv_len cBk_len]
    · intro j h1 h2
      have hj : j < n * 4 := by simpa [madeCells] using h1
      have h4 : j % 4 = 0 ∨ j % 4 = 1 ∨ j % 4 = 2 ∨ j % 4 = 3 := by omega
      have hg : (List.replicate n ((⟨[], 0, 0, 0⟩ : Bk), (none : Option Addr), 0))[j / 4]? = some ((⟨[], 0, 0, 0⟩ : Bk), (none : Option Addr), 0) := by
        rw [List.getElem?_replicate, if_pos (by omega)]
      have h3 := rv_at cBk_len hg (i := j % 4) (by omega)
      rw [show j / 4 * 4 + j % 4 = j by omega] at h3
      have h5 : (rv cBk (List.replicate n ((⟨[], 0, 0, 0⟩ : Bk), (none : Option Addr), 0))).toArray[j]? = (rv cBk (List.replicate n ((⟨[], 0, 0, 0⟩ : Bk), (none : Option Addr), 0)))[j]? := by simp
      have h6 := (Array.getElem?_eq_getElem h2).symm.trans (h5.trans h3)
      rw [← Option.some_inj, h6]
      simp only [madeCells, Array.getElem_map, Array.getElem_range]
      rcases h4 with h4 | h4 | h4 | h4 <;> simp [Value.cells, h4, cBk]
  rw [hm]

/-- a block written anew -/
theorem rv_set4 : ∀ {qs : List (Bk × Option Addr × Nat)} {i c : Nat} {A : Option Addr} {b : Bk}, i < qs.length →
    ((((rv cBk qs).set (i * 4) (.slice A b.code.length c)).set (i * 4 + 1) (.int .i64 b.test)).set (i * 4 + 2) (.int .i64 b.th)).set (i * 4 + 3) (.int .i64 b.el) = rv cBk (qs.set i (b, A, c))
  | [], _, _, _, _, h => by simp at h
  | q :: qs, 0, c, A, b, h => by
    show ((((([_, _, _, _] : List Value) ++ rv cBk qs).set 0 _).set 1 _).set 2 _).set 3 _ = cBk (b, A, c) ++ rv cBk qs
    simp [cBk]
  | q :: qs, i + 1, c, A, b, h => by
    have ih := rv_set4 (qs := qs) (i := i) (c := c) (A := A) (b := b) (by simpa using h)
    have e1 : rv cBk (q :: qs) = cBk q ++ rv cBk qs := rfl
    have e2 : rv cBk ((q :: qs).set (i + 1) (b, A, c)) = cBk q ++ rv cBk (qs.set i (b, A, c)) := rfl
    have far : ∀ (l : List Value) (k : Nat) (u : Value), (cBk q ++ l).set ((i + 1) * 4 + k) u = cBk q ++ l.set (i * 4 + k) u := fun l k u => by
      rw [List.set_append, if_neg (by rw [cBk_len]; omega), cBk_len, show (i + 1) * 4 + k - 4 = i * 4 + k by omega]
    rw [e1, e2, ← ih]
    have f0 := far (rv cBk qs) 0 (.slice A b.code.length c)
    rw [Nat.add_zero, Nat.add_zero] at f0
    rw [f0, far, far, far]
    simp only [Nat.add_zero]

theorem RdS.wrote {w w' : World} {h : Nat} {A : Option Addr} {l : List St} (hx : RdS w w.heap.size A l) (hw : Wrote h w w') (hp : ∀ ad, A = some ad → ad.block ≠ h) : RdS w' w'.heap.size A l := fun hm => by
  obtain ⟨ad, e, hb, hc⟩ := hx hm
  refine ⟨ad, e, Nat.lt_of_lt_of_le hb hw.size, fun j hj => ?_⟩
  rw [← hc j hj]
  exact hw.cell (by rw [addr_add_block]; exact hb) (by rw [addr_add_block]; exact hp ad e)

/-- folded blocks, in a block of the call's own; their steps lie from S on -/
structure FdG (w : World) (g S : Nat) (qs : List (Bk × Option Addr × Nat)) : Prop where
  own : Own w g 79 (rv cBk qs)
  rows : ∀ (r : Nat) (q : Bk × Option Addr × Nat), qs[r]? = some q → RdS w w.heap.size q.2.1 q.1.code ∧ q.1.code.length ≤ q.2.2 ∧ ∀ ad, q.2.1 = some ad → S ≤ ad.block

theorem FdG.wrote {w w' : World} {g S h : Nat} {qs : List (Bk × Option Addr × Nat)} (hf : FdG w g S qs) (hw : Wrote h w w') (hg : g ≠ h) (hS : h < S) : FdG w' g S qs := by
  refine ⟨(hw.block g hf.own.lt hg).trans hf.own, fun r q hq => ?_⟩
  obtain ⟨h1, h2, h3⟩ := hf.rows r q hq
  exact ⟨h1.wrote hw fun ad hA => by have := h3 ad hA; omega, h2, h3⟩

theorem FdG.put {w : World} {g S i c : Nat} {qs : List (Bk × Option Addr × Nat)} {A : Option Addr} {b : Bk} (hf : FdG w g S qs) (hi : i < qs.length) (hg : g < S) (h1 : RdS w w.heap.size A b.code) (h2 : b.code.length ≤ c) (h3 : ∀ ad, A = some ad → S ≤ ad.block) :
    FdG ((((w.setCell ⟨g, i * 4, none⟩ (.slice A b.code.length c)).setCell ⟨g, i * 4 + 1, none⟩ (.int .i64 b.test)).setCell ⟨g, i * 4 + 2, none⟩ (.int .i64 b.th)).setCell ⟨g, i * 4 + 3, none⟩ (.int .i64 b.el)) g S (qs.set i (b, A, c)) := by
  have hw : Wrote g w ((((w.setCell ⟨g, i * 4, none⟩ (.slice A b.code.length c)).setCell ⟨g, i * 4 + 1, none⟩ (.int .i64 b.test)).setCell ⟨g, i * 4 + 2, none⟩ (.int .i64 b.th)).setCell ⟨g, i * 4 + 3, none⟩ (.int .i64 b.el)) := ((((Wrote.of_below (Below.refl w.heap.size w)).set (p := ⟨g, i * 4, none⟩) rfl (.slice A b.code.length c)).set (p := ⟨g, i * 4 + 1, none⟩) rfl (.int .i64 b.test)).set (p := ⟨g, i * 4 + 2, none⟩) rfl (.int .i64 b.th)).set (p := ⟨g, i * 4 + 3, none⟩) rfl (.int .i64 b.el)
  refine ⟨by rw [← rv_set4 hi]; exact ((((hf.own.set (i * 4) (.slice A b.code.length c)).set (i * 4 + 1) (.int .i64 b.test)).set (i * 4 + 2) (.int .i64 b.th)).set (i * 4 + 3) (.int .i64 b.el)), fun r q hq => ?_⟩
  by_cases e : i = r
  · subst e
    rw [List.getElem?_set_self hi] at hq
    injection hq with hq
    subst hq
    exact ⟨h1.wrote hw fun ad hA => by have := h3 ad hA; omega, h2, h3⟩
  · rw [List.getElem?_set_ne e] at hq
    obtain ⟨h4, h5, h6⟩ := hf.rows r q hq
    exact ⟨h4.wrote hw fun ad hA => by have := h6 ad hA; omega, h5, h6⟩

theorem FdG.rd {w : World} {g S : Nat} {qs : List (Bk × Option Addr × Nat)} (hf : FdG w g S qs) : RdP w w.heap.size (some ⟨g, 0, none⟩) (qs.map (·.1)) := by
  refine rdP_of_raw (fun hm => ⟨⟨g, 0, none⟩, rfl, hf.own.lt, fun j hj => ?_⟩) fun k q hq => ⟨(hf.rows k q hq).1, (hf.rows k q hq).2.1⟩
  have hl : j < (rv cBk qs).length := by rw [rv_len cBk_len]; exact hj
  refine own_add hf.own ?_
  show (rv cBk qs)[j]? = some ((rv cBk qs).getD j undef)
  rw [List.getD_eq_getElem?_getD, List.getElem?_eq_getElem hl]
  rfl

end Go.Proofs.Ytfhnhbkdhdocjaa
