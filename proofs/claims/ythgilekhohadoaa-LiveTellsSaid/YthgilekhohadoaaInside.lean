/-
  codemasonref.Inside and codemasonref.Value return what they say.
-/
import Derived.Test.YthgilekhohadoaaBase
namespace Go.Proofs.Ythgilekhohadoaa
open Go.RowKit
set_option linter.unusedSimpArgs false
set_option linter.unusedVariables false
set_option maxRecDepth 100000

set_option maxHeartbeats 400000 in
theorem refValue_any (x : Int) (w : World) :
    Calls Try.prog 44 #[.int .i64 x] w fun e w' => e = .returned (.bool (decide (0 ≤ x ∧ x ≤ 255))) ∧ w = w' := by
  go_enter Try.func44, Try.ntmps44
  go_wp2
  all_goals (go_ret; refine ⟨ret_bool ?_, rfl⟩; simp; try omega)

def insideB (n : Int) : List Int → Bool
  | [] => true
  | x :: r => if x < 0 ∨ n ≤ x then false else insideB n r

set_option maxHeartbeats 1000000 in
theorem inside_any (n : Int) (A : Option Addr) (len cap : Nat) (xs : List Int) (B : Nat) (w : World) (hx : RdI w B A xs) (hl : xs.length = len) (hm : len ≤ 65536) :
    Calls Try.prog 31 #[.int .i64 n, .slice A len cap] w fun e w' => e = .returned (.bool (insideB n xs)) ∧ w = w' := by
  have HL := Lib.hid hl
  clear hl
  go_enter Try.func31, Try.ntmps31
  go_wp2
  go_loop [9] (fun i => ∃ k : Nat, k ≤ len ∧ i = .int .i64 k ∧ insideB n xs = insideB n (xs.drop k)) (fun i => len - (intOf i).toNat)
  case atStart => exact ⟨0, Nat.zero_le _, rfl, rfl⟩
  case round =>
    obtain ⟨k, hk, rfl, hr⟩ := hrel
    have HR := Lib.hid hr
    clear hr
    by_cases hlt : k < len
    · obtain ⟨ad, x, rfl, _, hd, hcell⟩ := hx.at_ (k := k) (by rw [HL.out]; exact hlt)
      have HD := Lib.hid (drop_at hd)
      clear hd
      go_wp2
      all_goals first
        | (go_ret; exact ⟨ret_bool (by rw [HR.out, HD.out]; unfold insideB; rw [if_pos (by omega)]), rfl⟩)
        | (go_round
           case rel => exact ⟨k + 1, by omega, by go_num, by rw [HR.out, HD.out]; conv => { lhs; unfold insideB; rw [if_neg (by omega)] }⟩
           case measure => simp [intOf]; omega)
    · go_wp2
      go_ret
      exact ⟨ret_bool (by rw [HR.out, List.drop_of_length_le (by rw [HL.out]; omega)]; rfl), rfl⟩

theorem rdI_one {w : World} {p : Addr} {x : Int} (h : w.cell? p = some (.int .i64 x)) : RdI w (p.block + 1) (some p) [x] := fun _ =>
  ⟨p, rfl, by omega, fun j hj => by
    have : j = 0 := by simp at hj; omega
    subst this
    exact h⟩

theorem rdI_two {w : World} {p : Addr} {x y : Int} (h : w.cell? p = some (.int .i64 x)) (h' : w.cell? ⟨p.block, p.off + 1, none⟩ = some (.int .i64 y)) : RdI w (p.block + 1) (some p) [x, y] := fun _ =>
  ⟨p, rfl, by omega, fun j hj => by
    have : j = 0 ∨ j = 1 := by simp at hj; omega
    rcases this with rfl | rfl
    · exact h
    · exact h'⟩

theorem inside1_any (n x : Int) (p : Addr) (c : Nat) (w : World) (h : w.cell? p = some (.int .i64 x)) :
    Calls Try.prog 31 #[.int .i64 n, .slice (some p) 1 c] w fun e w' => e = .returned (.bool (decide (0 ≤ x ∧ x < n))) ∧ w = w' :=
  (inside_any n (some p) 1 c [x] _ w (rdI_one h) rfl (by omega)).mono fun e w' ⟨he, hw⟩ => ⟨by
    rw [he]
    refine ret_bool ?_
    simp only [insideB]
    split <;> simp <;> omega, hw⟩

theorem inside2_any (n x y : Int) (p : Addr) (c : Nat) (w : World) (h : w.cell? p = some (.int .i64 x)) (h' : w.cell? ⟨p.block, p.off + 1, none⟩ = some (.int .i64 y)) :
    Calls Try.prog 31 #[.int .i64 n, .slice (some p) 2 c] w fun e w' => e = .returned (.bool (decide (0 ≤ x ∧ x < n ∧ 0 ≤ y ∧ y < n))) ∧ w = w' :=
  (inside_any n (some p) 2 c [x, y] _ w (rdI_two h h') rfl (by omega)).mono fun e w' ⟨he, hw⟩ => ⟨by
    rw [he]
    refine ret_bool ?_
    simp only [insideB]
    (repeat' split) <;> simp <;> omega, hw⟩

end Go.Proofs.Ythgilekhohadoaa
