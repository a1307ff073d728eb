/-
  Words of the laws about package live: codemasonlaw.wantCode, codemasonkeep.alike.
-/
import Derived.Test.YtfhnhbkdhdocjaaLiveIs
import Derived.Test.YtfhnhbkdhdocjaaMBlkR
import Derived.BigQuiet
namespace Go.Proofs.Ytfhnhbkdhdocjaa
open Go.RowKit
set_option linter.unusedSimpArgs false
set_option linter.unusedVariables false
set_option maxRecDepth 100000

set_option maxHeartbeats 2000000 in
theorem wantCode_any (vars : Int) (want : Nat) (A : Option Addr) (len cap : Nat) (p : List Bk) (w : World) (hx : RdP w w.heap.size A p) (hl : p.length = len) (hm : len ≤ maxLen) (hin : ∀ b ∈ p, InBk b) (hw : want < 4294967296) :
    Calls Try.prog 18 #[.int .i64 vars, .slice A len cap, .int .u32 (want : Nat)] w fun e w' => e = .returned (.int .i64 (ckWant vars p want)) ∧ Below w.heap.size w w' := by
  have HP := Lib.hid (refProgCheck_any vars A len cap p w hx hl hm hin)
  unfold ckWant
  by_cases h1 : ckProg vars p = 0
  · rw [if_pos h1]
    rw [h1] at HP
    obtain ⟨b1, b2, _⟩ := ckProg_bd h1
    obtain ⟨n, rfl⟩ := Int.eq_ofNat_of_zero_le (show 0 ≤ vars by omega)
    have hn : n < 32 := by omega
    rw [Int.toNat_natCast]
    by_cases h2 : want < 2 ^ n
    · rw [if_pos h2]
      have HF := Lib.hid (decide_eq_true h2)
      clear h2 h1 hx hin
      go_enter Try.func18, Try.ntmps18
      go_wp2_with (first
        | (go_at_call 25; (with_reducible refine HP.out.mono ?_); rintro e w1 ⟨rfl, hb1⟩)
        | (go_at_call 21; (with_reducible refine (refFits_is n want _ hn hw).mono ?_); rw [HF.out]; rintro e w2 ⟨rfl, rfl⟩))
      go_ret
      exact ⟨rfl, hb1⟩
    · rw [if_neg h2]
      have HF := Lib.hid (decide_eq_false h2)
      clear h2 h1 hx hin
      go_enter Try.func18, Try.ntmps18
      go_wp2_with (first
        | (go_at_call 25; (with_reducible refine HP.out.mono ?_); rintro e w1 ⟨rfl, hb1⟩)
        | (go_at_call 21; (with_reducible refine (refFits_is n want _ hn hw).mono ?_); rw [HF.out]; rintro e w2 ⟨rfl, rfl⟩))
      go_ret
      exact ⟨rfl, hb1⟩
  · rw [if_neg h1]
    have e1 : (ckProg vars p == 0) = false := by simp [h1]
    clear h1 hx hin
    go_enter Try.func18, Try.ntmps18
    go_wp2_with (go_at_call 25; (with_reducible refine HP.out.mono ?_); rintro e w1 ⟨rfl, hb1⟩)
    go_ret
    exact ⟨rfl, hb1⟩

theorem u32_lit {x : Int} (h : (Lit.int .u32 x).wf = true) : ∃ n : Nat, x = (n : Int) ∧ n < 4294967296 := by
  simp only [Lit.wf, Bool.and_eq_true, decide_eq_true_eq] at h
  obtain ⟨h1, h2⟩ := h
  have g1 : (0 : Int) ≤ x := by simpa [IntKind.min, IntKind.bits, IntKind.signed] using h1
  have g2 : x ≤ 4294967295 := by simpa [IntKind.max, IntKind.bits, IntKind.signed] using h2
  obtain ⟨n, rfl⟩ := Int.eq_ofNat_of_zero_le g1
  exact ⟨n, rfl, by omega⟩

theorem bit_same {W : Nat} {i : Int} {b : Bool} (h : bitB W i = b) (w : World) (hW : W < 4294967296) :
    Calls Try.prog 19 #[.int .u32 (W : Nat), .int .i64 i] w fun e w' => e = .returned (.bool b) ∧ w' = w :=
  (bit_any W i w hW).mono fun e w' ⟨h1, h2⟩ => ⟨by rw [h1, h], h2.symm⟩

theorem bitB_of {W v : Nat} (hv : v < 32) : bitB W (v : Int) = W.testBit v := by unfold bitB; rw [decide_eq_true (by omega)]; rfl

theorem below_drewNL {B : Nat} {X Y : World} (h : Below B X Y) (q : Nat) : Below B X (Y.drewN q) := ⟨h.os, h.tape, h.output, h.size, h.block⟩

set_option maxHeartbeats 4000000 in
theorem alike_any (A B : Option Addr) (n ca cb want : Nat) (xs ys : List Int) (w : World) (hx : RdI w w.heap.size A xs) (hy : RdI w w.heap.size B ys) (hl : xs.length = n) (hl' : ys.length = n) (hn : n ≤ 6) (hw : want < 4294967296) (hag : Agr n (fun v => want.testBit v = true) xs ys) :
    Calls Try.prog 29 #[.slice A n ca, .slice B n cb, .int .u32 (want : Nat)] w fun e w' => e = .returned (.bool true) ∧ Below w.heap.size w w' := by
  have HL := Lib.hid hl
  have HL' := Lib.hid hl'
  have HAG := Lib.hid hag
  clear hl hl' hag
  go_enter Try.func29, Try.ntmps29
  go_wp2
  go_loopw [7] (fun z wr => ∃ k : Nat, k ≤ n ∧ z = .int .i64 k ∧ Below w.heap.size w wr) (fun z _ => n - (intOf z).toNat)
  case atStart => exact ⟨0, Nat.zero_le _, rfl, Below.refl _ _⟩
  case round =>
    obtain ⟨k, hk, rfl, hb⟩ := hrel
    have hsz := hb.size
    by_cases hlt : k < n
    · obtain ⟨ad, x, rfl, hbl, hd, hc0⟩ := (hx.below hb (Nat.le_refl _)).at_ (k := k) (by rw [HL.out]; exact hlt)
      obtain ⟨ad2, y, rfl, hbl2, hd2, hd0⟩ := (hy.below hb (Nat.le_refl _)).at_ (k := k) (by rw [HL'.out]; exact hlt)
      have hbb := bitB_of (W := want) (v := k) (by omega)
      obtain ⟨tb, htb⟩ : ∃ tb, want.testBit k = tb := ⟨_, rfl⟩
      rw [htb] at hbb
      have HBB := Lib.hid hbb
      cases tb with
      | true =>
        have hxy : x = y := by
          have := HAG.out k hlt htb
          rw [List.getD_eq_getElem?_getD, List.getD_eq_getElem?_getD, hd, hd2] at this
          exact this
        subst hxy
        clear hd hd2 hbb htb
        go_wp2
        go_quiet ((go_at_call 19; exact Calls.quiet_of_same (bit_same HBB.out _ hw)))
        go_wp2
        go_round
        case rel => exact ⟨k + 1, by omega, by go_num, below_drewNL hb _⟩
        case measure => (simp [intOf]; omega)
      | false =>
        clear hd hd2 hbb htb
        go_wp2
        go_quiet ((go_at_call 19; exact Calls.quiet_of_same (bit_same HBB.out _ hw)))
        go_wp2
        go_round
        case rel => exact ⟨k + 1, by omega, by go_num, below_drewNL hb _⟩
        case measure => (simp [intOf]; omega)
    · go_wp2
      go_ret
      exact ⟨rfl, hb⟩

end Go.Proofs.Ytfhnhbkdhdocjaa
