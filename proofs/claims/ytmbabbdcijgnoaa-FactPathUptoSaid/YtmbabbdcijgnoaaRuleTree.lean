/-
  slices.Index at words, rule.Tree (F1).
-/
import Derived.Test.YtmbabbdcijgnoaaRuleTab
namespace Go.Proofs.Ytmbabbdcijgnoaa
open Go.RowKit
set_option linter.unusedSimpArgs false
set_option linter.unusedVariables false
set_option maxRecDepth 100000

theorem without_bit {W i : Nat} (hW : W < 256) (hi : i < 32) (k : Nat) : (W &&& (4294967295 - 2 ^ i)).testBit k = true ↔ W.testBit k = true ∧ k ≠ i := by
  have hp := pow_lt_32 hi
  rw [Nat.testBit_and, Bool.and_eq_true, show 4294967295 - 2 ^ i = 2 ^ 32 - (2 ^ i + 1) by omega, Nat.testBit_two_pow_sub_succ (by omega), Bool.and_eq_true, decide_eq_true_eq, Bool.not_eq_true', Nat.testBit_two_pow]
  constructor
  · rintro ⟨h1, _, h2⟩
    exact ⟨h1, fun e => by simp [e] at h2⟩
  · rintro ⟨h1, h2⟩
    refine ⟨h1, ?_, by simp; omega⟩
    refine Classical.byContradiction fun hn => ?_
    rw [Nat.testBit_lt_two_pow (Nat.lt_of_lt_of_le hW (show 2 ^ 8 ≤ 2 ^ k from Nat.pow_le_pow_right (by omega) (by omega)))] at h1
    cases h1

section
variable {nx : List (List Int)} {ws : List Nat}

theorem Tbl.zero_iff (h : Tbl nx ws) {i W : Nat} (hW : ws[i]? = some W) : W = 0 ↔ ¬ Rea nx (-1) 0 i := by
  constructor
  · rintro rfl hr
    have := (h.mem i 0 hW i).2 (Dom.me hr)
    simp at this
  · intro hn
    apply Nat.eq_of_testBit_eq
    intro j
    cases hb : W.testBit j with
    | false => simp
    | true => exact absurd ((h.mem i W hW j).1 hb).2.1 hn

theorem Tbl.tree (hc : ckWay nx = 0) (h : Tbl nx ws) {i W : Nat} (hW : ws[i]? = some W) (h0 : W ≠ 0) (hi : 0 < i) : ∃ j : Nat, TreeAt nx i (j : Int) ∧ idxL ws (W &&& (4294967295 - 2 ^ i)) = (j : Int) := by
  have hb := ckWay_bd hc
  have hr : Rea nx (-1) 0 i := Classical.byContradiction fun hn => h0 ((h.zero_iff hW).2 hn)
  obtain ⟨j, hj⟩ := idom_is hc hr (by omega)
  have hil := hr.lt hc (by omega)
  have hjl := (hj.2.1.lt hc).1
  have hV : ws[j]? = some (ws[j]'(by rw [h.len]; exact hjl)) := List.getElem?_eq_getElem _
  generalize ws[j]'(by rw [h.len]; exact hjl) = V at hV
  have hX := idom_set h.mem hj hW hV (W &&& (4294967295 - 2 ^ i)) (without_bit (h.lt i W hW) (by omega))
  refine ⟨j, .inl ⟨j, rfl, hj⟩, ?_⟩
  rw [hX]
  unfold idxL
  rw [if_pos (List.mem_of_getElem? hV), posL_first (k := j) (fun hm => ?_) hV]
  obtain ⟨p, hp, e⟩ := List.getElem_of_mem hm
  have hpl : p < j := by rw [List.length_take] at hp; omega
  have hpe : ws[p]? = some V := by
    rw [List.getElem_take] at e
    rw [List.getElem?_eq_getElem (by rw [List.length_take] at hp; omega), e]
  have := set_one h.mem hj.2.1.1 hpe hV
  omega

theorem Tbl.none (h : Tbl nx ws) {i W : Nat} (hW : ws[i]? = some W) (hn : i = 0 ∨ W = 0) : TreeAt nx i (-1) := by
  refine .inr ⟨rfl, fun j hj => ?_⟩
  rcases hn with rfl | rfl
  · exact no_idom_zero j hj
  · exact (h.zero_iff hW).1 rfl hj.2.1.2.1

end

end Go.Proofs.Ytmbabbdcijgnoaa
