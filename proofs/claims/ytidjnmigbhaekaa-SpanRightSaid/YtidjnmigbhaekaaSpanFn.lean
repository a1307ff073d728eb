/-
  span.isValid, allValues, oneValue, wrap, hull (R1).
-/
import Derived.Test.YtidjnmigbhaekaaPureSpanDo
import Derived.Test.YtidjnmigbhaekaaSpanRef
namespace Go.Proofs.Ytidjnmigbhaekaa
open Go.RowKit
set_option linter.unusedSimpArgs false
set_option linter.unusedVariables false
set_option maxRecDepth 100000

set_option maxHeartbeats 1000000 in
theorem isValid_any (lo hi : Int) (w : World) :
    Calls Try.prog 18 #[.agg #[.int .i64 lo, .int .i64 hi]] w fun e w' => e = .returned (.bool (decide (SpOk (lo, hi)))) ∧ Below w.heap.size w w' := by
  by_cases h1 : 0 ≤ lo
  · have d1 : decide (0 ≤ lo) = true := decide_eq_true h1
    by_cases h2 : lo ≤ hi
    · have d2 : decide (lo ≤ hi) = true := decide_eq_true h2
      by_cases h3 : hi ≤ 255
      · have d3 : decide (hi ≤ 255) = true := decide_eq_true h3
        have HR : Hid (decide (SpOk (lo, hi)) = true) := Lib.hid (decide_eq_true ⟨h1, h2, h3⟩)
        go_enter Try.func18, Try.ntmps18
        go_wp2
        go_ret
        exact ⟨ret_bool HR.out.symm, by go_grown⟩
      · have d3 : decide (hi ≤ 255) = false := decide_eq_false h3
        have HR : Hid (decide (SpOk (lo, hi)) = false) := Lib.hid (decide_eq_false fun h => h3 h.2.2)
        go_enter Try.func18, Try.ntmps18
        go_wp2
        go_ret
        exact ⟨ret_bool HR.out.symm, by go_grown⟩
    · have d2 : decide (lo ≤ hi) = false := decide_eq_false h2
      have HR : Hid (decide (SpOk (lo, hi)) = false) := Lib.hid (decide_eq_false fun h => h2 h.2.1)
      go_enter Try.func18, Try.ntmps18
      go_wp2
      go_ret
      exact ⟨ret_bool HR.out.symm, by go_grown⟩
  · have d1 : decide (0 ≤ lo) = false := decide_eq_false h1
    have HR : Hid (decide (SpOk (lo, hi)) = false) := Lib.hid (decide_eq_false fun h => h1 h.1)
    go_enter Try.func18, Try.ntmps18
    go_wp2
    go_ret
    exact ⟨ret_bool HR.out.symm, by go_grown⟩

set_option maxHeartbeats 1000000 in
theorem allValues_any (w : World) : Calls Try.prog 44 #[] w fun e w' => e = .returned (.agg #[.int .i64 0, .int .i64 255]) ∧ Below w.heap.size w w' := by
  go_enter Try.func44, Try.ntmps44
  go_wp2
  (try simp only [Exit.inBlock, Exit.then])
  exact bodyPost_ret (v := .agg #[.int .i64 0, .int .i64 255]) (results_cell_row rfl _ _ w.heap.size 23 _ _ _ rfl (Own.new w _ [.int .i64 0, .int .i64 255]) Try.underlying23 rfl (by kernel_rfl)) rfl ⟨rfl, by go_grown⟩

set_option maxHeartbeats 1000000 in
theorem oneValue_any (v : Int) (w : World) : Calls Try.prog 45 #[.int .i64 v] w fun e w' => e = .returned (.agg #[.int .i64 v, .int .i64 v]) ∧ Below w.heap.size w w' := by
  go_enter Try.func45, Try.ntmps45
  go_wp2
  (try simp only [Exit.inBlock, Exit.then])
  exact bodyPost_ret (v := .agg #[.int .i64 v, .int .i64 v]) (results_cell_row rfl _ _ w.heap.size 23 _ _ _ rfl (Own.new w _ [.int .i64 v, .int .i64 v]) Try.underlying23 rfl (by kernel_rfl)) rfl ⟨rfl, by go_grown⟩

theorem new3 (w : World) (k1 k2 : Obj) (x y : Int) : Own (((w.alloc k1).alloc k2).alloc (.cells #[.int .i64 x, .int .i64 y] 23)) (w.heap.size + 1 + 1) 23 [.int .i64 x, .int .i64 y] := by
  simpa using Own.new ((w.alloc k1).alloc k2) 23 [.int .i64 x, .int .i64 y]

set_option maxHeartbeats 1000000 in
theorem hull_any (a b : Int × Int) (w : World) : Calls Try.prog 46 #[.agg #[.int .i64 a.1, .int .i64 a.2], .agg #[.int .i64 b.1, .int .i64 b.2]] w fun e w' => e = .returned (.agg #[.int .i64 (joSp a b).1, .int .i64 (joSp a b).2]) ∧ Below w.heap.size w w' := by
  obtain ⟨al, ah⟩ := a
  obtain ⟨bl, bh⟩ := b
  simp only
  by_cases h1 : bl < al
  · by_cases h2 : ah < bh
    · have HE : Hid (joSp (al, ah) (bl, bh) = (bl, bh)) := Lib.hid (Prod.ext (by show min al bl = bl; omega) (by show max ah bh = bh; omega))
      rw [HE.out]
      simp only
      go_enter Try.func46, Try.ntmps46
      go_wp2
      (try simp only [Exit.inBlock, Exit.then])
      exact bodyPost_ret (v := .agg #[.int .i64 bl, .int .i64 bh]) (results_cell_row rfl _ _ (w.heap.size + 1 + 1) 23 _ _ _ rfl (new3 w _ _ bl bh) Try.underlying23 rfl (by kernel_rfl)) rfl ⟨rfl, by go_grown⟩
    · have HE : Hid (joSp (al, ah) (bl, bh) = (bl, ah)) := Lib.hid (Prod.ext (by show min al bl = bl; omega) (by show max ah bh = ah; omega))
      rw [HE.out]
      simp only
      go_enter Try.func46, Try.ntmps46
      go_wp2
      (try simp only [Exit.inBlock, Exit.then])
      exact bodyPost_ret (v := .agg #[.int .i64 bl, .int .i64 ah]) (results_cell_row rfl _ _ (w.heap.size + 1 + 1) 23 _ _ _ rfl (new3 w _ _ bl ah) Try.underlying23 rfl (by kernel_rfl)) rfl ⟨rfl, by go_grown⟩
  · by_cases h2 : ah < bh
    · have HE : Hid (joSp (al, ah) (bl, bh) = (al, bh)) := Lib.hid (Prod.ext (by show min al bl = al; omega) (by show max ah bh = bh; omega))
      rw [HE.out]
      simp only
      go_enter Try.func46, Try.ntmps46
      go_wp2
      (try simp only [Exit.inBlock, Exit.then])
      exact bodyPost_ret (v := .agg #[.int .i64 al, .int .i64 bh]) (results_cell_row rfl _ _ (w.heap.size + 1 + 1) 23 _ _ _ rfl (new3 w _ _ al bh) Try.underlying23 rfl (by kernel_rfl)) rfl ⟨rfl, by go_grown⟩
    · have HE : Hid (joSp (al, ah) (bl, bh) = (al, ah)) := Lib.hid (Prod.ext (by show min al bl = al; omega) (by show max ah bh = ah; omega))
      rw [HE.out]
      simp only
      go_enter Try.func46, Try.ntmps46
      go_wp2
      (try simp only [Exit.inBlock, Exit.then])
      exact bodyPost_ret (v := .agg #[.int .i64 al, .int .i64 ah]) (results_cell_row rfl _ _ (w.heap.size + 1 + 1) 23 _ _ _ rfl (new3 w _ _ al ah) Try.underlying23 rfl (by kernel_rfl)) rfl ⟨rfl, by go_grown⟩

set_option maxHeartbeats 1000000 in
theorem wrap_any (l h : Int) (w : World) (h0 : 0 ≤ l) (h1 : l ≤ h) (h2 : h ≤ 1000) : Calls Try.prog 32 #[.int .i64 l, .int .i64 h] w fun e w' => e = .returned (.agg #[.int .i64 (wrapS l h).1, .int .i64 (wrapS l h).2]) ∧ Below w.heap.size w w' := by
  have t1 : l.tdiv 256 = l / 256 := Int.tdiv_eq_ediv_of_nonneg h0
  have t2 : h.tdiv 256 = h / 256 := Int.tdiv_eq_ediv_of_nonneg (by omega)
  have t3 : l.tmod 256 = l % 256 := Int.tmod_eq_emod_of_nonneg h0
  have t4 : h.tmod 256 = h % 256 := Int.tmod_eq_emod_of_nonneg (by omega)
  by_cases hd : l / 256 = h / 256
  · have HE : Hid (wrapS l h = (l % 256, h % 256)) := Lib.hid (by unfold wrapS; rw [if_pos hd])
    have hb : (l / 256 != h / 256) = false := by simp [hd]
    rw [HE.out]
    simp only
    clear hd
    go_enter Try.func32, Try.ntmps32
    go_wp2
    (try simp only [Exit.inBlock, Exit.then])
    exact bodyPost_ret (v := .agg #[.int .i64 (l % 256), .int .i64 (h % 256)]) (results_cell_row rfl _ _ w.heap.size 23 _ _ _ rfl (Own.new w _ [.int .i64 (l % 256), .int .i64 (h % 256)]) Try.underlying23 rfl (by kernel_rfl)) rfl ⟨rfl, by go_grown⟩
  · have HE : Hid (wrapS l h = (0, 255)) := Lib.hid (by unfold wrapS; rw [if_neg hd])
    have hb : (l / 256 != h / 256) = true := by simp [hd]
    have HO := Lib.hid (Own.new w 23 [.int .i64 0, .int .i64 0])
    rw [HE.out]
    simp only
    clear hd
    go_enter Try.func32, Try.ntmps32
    go_wp2_with (go_at_call 44; (with_reducible refine (allValues_any _).mono ?_); rintro e w1 ⟨rfl, hb1⟩; have hq := HO.out.below hb1 HO.out.lt; have k0 := hq.cell (j := 0) rfl; have k1 := hq.cell (j := 1) rfl; have f0 := hq.frozen 0; have f1 := hq.frozen 1; have hl := hq.lt)
    (try simp only [Exit.inBlock, Exit.then])
    have hbw : Below w.heap.size w w1 := Below.trans (by go_grown) (hb1.mono (by simp))
    exact bodyPost_ret (v := .agg #[.int .i64 0, .int .i64 255]) (results_cell_row rfl _ _ w.heap.size 23 _ _ _ rfl ((hq.set 0 (.int .i64 0)).set 1 (.int .i64 255)) Try.underlying23 rfl (by kernel_rfl)) rfl ⟨rfl, (hbw.setCell (Nat.le_refl _) _).setCell (Nat.le_refl _) _⟩

end Go.Proofs.Ytidjnmigbhaekaa
