/-
  codemasonref.TermsCheck returns the code that A1 gives.
-/
import Derived.Test.YteogdcjigigeeaaMTerm
namespace Go.Proofs.Yteogdcjigigeeaa
open Go.RowKit
set_option linter.unusedSimpArgs false
set_option linter.unusedVariables false
set_option maxRecDepth 100000

set_option maxHeartbeats 1000000 in
theorem termsCheck_any (vars : Int) (A : Option Addr) (len cap : Nat) (l : List Tm) (w : World) (hx : RdT w w.heap.size A l) (hl : l.length = len) :
    Calls Try.prog 24 #[.int .i64 vars, .slice A len cap] w fun e w' => e = .returned (.int .i64 (ckTerms vars l)) ∧ Below w.heap.size w w' := by
  by_cases hbad : vars < 0 ∨ 6 < vars ∨ len = 0 ∨ 16 < len
  · have hf : ckTerms vars l = 1 := by unfold ckTerms; rw [hl, if_pos hbad]
    rw [hf]
    clear hf hx hl
    go_enter Try.func24, Try.ntmps24
    go_wp2
    all_goals first
      | (go_ret; exact ⟨rfl, by go_grown⟩)
      | (exfalso; simp_all; omega)
  · have hf : ckTerms vars l = ckAll vars 0 l := by unfold ckTerms; rw [hl, if_neg hbad]
    rw [hf]
    clear hf
    have h1 : 0 ≤ vars := by omega
    have h2 : vars ≤ 6 := by omega
    have h3 : 0 < len := by omega
    have h4 : len ≤ 16 := by omega
    clear hbad
    have h5 : ((len : Int) == 0) = false := by simp; omega
    have HL := Lib.hid hl
    clear hl
    go_enter Try.func24, Try.ntmps24
    go_wp2
    go_loopw [25] (fun i wr => ∃ k : Nat, k ≤ len ∧ i = .int .i64 k ∧ ckAll vars 0 l = ckAll vars k (l.drop k) ∧ Below w.heap.size w wr) (fun i _ => len - (intOf i).toNat)
    case atStart => exact ⟨0, Nat.zero_le _, rfl, rfl, Below.refl _ _⟩
    case round =>
      obtain ⟨k, hk, rfl, hr, hb⟩ := hrel
      have HR := Lib.hid hr
      clear hr
      by_cases hlt : k < len
      · obtain ⟨ad, o, a, b, v, rfl, hbl, hd, hc0, hc1, hc2, hc3⟩ := (hx.below hb (Nat.le_refl _)).at_ (k := k) (by rw [HL.out]; exact hlt)
        have HD := Lib.hid (drop_at hd)
        clear hd
        have hsz := hb.size
        go_wp2_with (first
          | (go_at_call 33; (with_reducible refine (refValue_any _ _).mono ?_); rintro e w1 ⟨rfl, rfl⟩)
          | (go_at_call 11; (with_reducible refine (inside1_any _ v _ _ _ ?_).mono ?_); (· (simp; done)); rintro e w1 ⟨rfl, rfl⟩)
          | (go_at_call 11; (with_reducible refine (inside2_any _ a b _ _ _ ?_ ?_).mono ?_); (· (simp; done)); (· (simp; done)); rintro e w1 ⟨rfl, rfl⟩))
        all_goals first
          | (go_ret
             refine ⟨ret_int ?_, by go_grown⟩
             rw [HR.out, HD.out]
             refine ckAll_stop' ?_ (by omega)
             go_light
             try simp only [Bool.not_eq_true', Bool.not_eq_false', decide_eq_true_eq, decide_eq_false_iff_not] at *
             unfold ckTerm
             (repeat' split) <;> omega)
          | (go_round
             case rel =>
               refine ⟨k + 1, by omega, by go_num, ?_, by go_grown⟩
               rw [HR.out, HD.out]
               refine ckAll_go' ?_
               go_light
               try simp only [Bool.not_eq_true', Bool.not_eq_false', decide_eq_true_eq, decide_eq_false_iff_not] at *
               unfold ckTerm
               (repeat' split) <;> omega
             case measure => simp [intOf]; omega)
      · go_wp2
        go_ret
        exact ⟨ret_int (by rw [HR.out, List.drop_of_length_le (by rw [HL.out]; omega)]; rfl), hb⟩

end Go.Proofs.Yteogdcjigigeeaa
