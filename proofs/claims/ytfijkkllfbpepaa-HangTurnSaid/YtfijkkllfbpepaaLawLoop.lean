/-
  What the laws of package loop share.
-/
import Derived.Test.YtfijkkllfbpepaaLoopIs
import Derived.Test.YtfijkkllfbpepaaLawWay
namespace Go.Proofs.Ytfijkkllfbpepaa
open Go.RowKit Go.ChangeShapes Go.WideShapes Go.ChangeAt Go.Deep
set_option linter.unusedSimpArgs false
set_option linter.unusedVariables false
set_option maxRecDepth 100000

theorem iff_bool {T T' : Bool} {P : Prop} (h : T = true ↔ P) (h' : T' = true ↔ P) : T = T' := by
  rw [Bool.eq_iff_iff, h, h']

theorem loop_word {nx : List (List Int)} (hc : ckWay nx = 0) (h : Nat) : ∃ W : Nat, W < 256 ∧ ∀ j, W.testBit j = true ↔ LoopP nx h j := by
  obtain ⟨W, h1, h2⟩ := word_of nx.length (LoopP nx h)
  have hb := ckWay_bd hc
  have h8 : 2 ^ nx.length ≤ 2 ^ 8 := Nat.pow_le_pow_right (by omega) hb.2.1
  refine ⟨W, Nat.lt_of_lt_of_le h1 h8, fun j => ?_⟩
  rw [h2]
  exact ⟨fun h => h.2, fun hl => ⟨(LoopP.lt hc hl).2, hl⟩⟩

theorem lps_ex {nx : List (List Int)} (hc : ckWay nx = 0) : ∃ ws, Lps nx ws := by
  have key : ∀ m, ∃ ws : List Nat, ws.length = m ∧ ∀ (i W : Nat), ws[i]? = some W → W < 256 ∧ ∀ j, W.testBit j = true ↔ LoopP nx i j := fun m => by
    induction m with
    | zero => exact ⟨[], rfl, fun i W h => by simp at h⟩
    | succ m ih =>
      obtain ⟨ws, h1, h2⟩ := ih
      obtain ⟨V, h3, h4⟩ := loop_word hc m
      refine ⟨ws ++ [V], by simp [h1], fun i W h => ?_⟩
      rcases Nat.lt_trichotomy i m with h5 | h5 | h5
      · rw [List.getElem?_append_left (by omega)] at h; exact h2 i W h
      · subst h5
        rw [List.getElem?_append_right (by omega), h1, Nat.sub_self] at h
        injection h with h
        subst h
        exact ⟨h3, h4⟩
      · rw [List.getElem?_eq_none (by simp; omega)] at h; cases h
  obtain ⟨ws, h1, h2⟩ := key nx.length
  exact ⟨ws, h1, fun i W h => (h2 i W h).1, fun i W h => (h2 i W h).2⟩

theorem dpN_yes {ws : List Nat} {i m W : Nat} (h : ws[m]? = some W) (hb : W.testBit i = true) : dpN ws i (m + 1) = dpN ws i m + 1 := by
  unfold dpN
  rw [List.take_add_one, h, Option.toList_some, List.filter_append, List.length_append]
  simp [hb]

theorem dpN_no {ws : List Nat} {i m W : Nat} (h : ws[m]? = some W) (hb : W.testBit i = false) : dpN ws i (m + 1) = dpN ws i m := by
  unfold dpN
  rw [List.take_add_one, h, Option.toList_some, List.filter_append, List.length_append]
  simp [hb]

theorem dpN_le (ws : List Nat) (i m : Nat) : dpN ws i m ≤ m := by
  unfold dpN
  refine Nat.le_trans (List.length_filter_le _ _) ?_
  rw [List.length_take]
  omega

theorem dps_zero {nx : List (List Int)} (hc : ckWay nx = 0) {ds : List Int} (h : Dps nx ds) {i : Nat} {d : Int} (hd : ds[i]? = some d) : d ≠ 0 ↔ ∃ k, LoopP nx k i := by
  obtain ⟨ws, hws⟩ := lps_ex hc
  have hde := h.at_ i d hd ws hws
  unfold dpN at hde
  rw [List.take_length] at hde
  constructor
  · intro hne
    have hpos : 0 < (ws.filter fun W => W.testBit i).length := by omega
    obtain ⟨W, hW⟩ := List.exists_mem_of_length_pos hpos
    obtain ⟨h1, h2⟩ := List.mem_filter.1 hW
    obtain ⟨k, h3⟩ := List.mem_iff_getElem?.1 h1
    exact ⟨k, (hws.mem k W h3 i).1 h2⟩
  · rintro ⟨k, hk⟩
    have hkl := (LoopP.lt hc hk).1
    have h3 := List.getElem?_eq_getElem (show k < ws.length by rw [hws.len]; exact hkl)
    have h1 : ws[k]'(by rw [hws.len]; exact hkl) ∈ ws.filter fun W => W.testBit i := List.mem_filter.2 ⟨List.getElem_mem _, (hws.mem k _ h3 i).2 hk⟩
    have := List.length_pos_of_mem h1
    omega

end Go.Proofs.Ytfijkkllfbpepaa
