/-
  term.Check and codemasonref.TermsCheck return the code that A1 gives.
-/
import Derived.Test.YtfbpalgeajgbhaaTermCk
namespace Go.Proofs.Ytfbpalgeajgbhaa
open Go.RowKit
set_option linter.unusedSimpArgs false
set_option linter.unusedVariables false
set_option maxRecDepth 100000

set_option maxHeartbeats 1000000 in
theorem check_any (vars : Int) (A : Option Addr) (len cap : Nat) (l : List Tm) (w : World) (hx : RdT w w.heap.size A l) (hl : l.length = len) :
    Calls Try.prog 39 #[.int .i64 vars, .slice A len cap] w fun e w' => e = .returned (.int .i64 (ckTerms vars l)) ∧ Below w.heap.size w w' := by
  by_cases hbad : vars < 0 ∨ 6 < vars ∨ len = 0 ∨ 16 < len
  · have hf : ckTerms vars l = 1 := by unfold ckTerms; rw [hl, if_pos hbad]
    rw [hf]
    clear hf hx hl
    go_enter Try.func39, Try.ntmps39
    go_wp2
    all_goals first
      | (go_ret; exact ⟨rfl, by go_grown⟩)
      | (exfalso; simp_all; omega)
  · have hf : ckTerms vars l = ckAll vars 0 l := by unfold ckTerms; rw [hl, if_neg hbad]
    rw [hf]
    clear hf
    have h1 : 0 ≤ vars := by omega
    have h2 : vars ≤ 6 := by omega
    have h3 : 0 < len := by omega
    have h4 : len ≤ 16 := by omega
    clear hbad
    have h5 : ((len : Int) == 0) = false := by simp; omega
    have HL := Lib.hid hl
    clear hl
    go_enter Try.func39, Try.ntmps39
    go_wp2
    go_loopw [26] (fun i wr => ∃ k : Nat, k ≤ len ∧ i = .int .i64 k ∧ ckAll vars 0 l = ckAll vars k (l.drop k) ∧ Below w.heap.size w wr) (fun i _ => len - (intOf i).toNat)
    case atStart => exact ⟨0, Nat.zero_le _, rfl, rfl, Below.refl _ _⟩
    case round =>
      obtain ⟨k, hk, rfl, hr, hb⟩ := hrel
      have HR := Lib.hid hr
      clear hr
      by_cases hlt : k < len
      · obtain ⟨ad, o, a, b, v, rfl, hbl, hd, hc0, hc1, hc2, hc3⟩ := (hx.below hb (Nat.le_refl _)).at_ (k := k) (by rw [HL.out]; exact hlt)
        have HD := Lib.hid (drop_at hd)
        clear hd
        have hsz := hb.size
        go_wp2_with (go_at_call 54; refine (checkTerm_any _ _ _ _ _ _ _).mono ?_; rintro e w1 ⟨rfl, hb1⟩)
        all_goals first
          | (go_ret; exact ⟨ret_int (by rw [HR.out, HD.out]; exact (ckAll_stop (by assumption)).symm), (by go_grown : Below w.heap.size w _).trans (hb1.mono (by go_size))⟩)
          | (go_round
             case rel => exact ⟨k + 1, by omega, by go_num, by rw [HR.out, HD.out]; exact ckAll_go (by assumption), (by go_grown : Below w.heap.size w _).trans (hb1.mono (by go_size))⟩
             case measure => simp [intOf]; omega)
      · go_wp2
        go_ret
        exact ⟨ret_int (by rw [HR.out, List.drop_of_length_le (by rw [HL.out]; omega)]; rfl), hb⟩

end Go.Proofs.Ytfbpalgeajgbhaa
