/-
  codemasonref.Twos, Words (equal lists are told equal), Size, Fits.
-/
import Derived.Test.YtpbajalecfaibaaBackRef
import Derived.BigRegion
import Derived.ChangeKeysEq
namespace Go.Proofs.Ytpbajalecfaibaa
open Go.RowKit
set_option linter.unusedSimpArgs false
set_option linter.unusedVariables false
set_option maxRecDepth 100000

theorem RdR.pair {w : World} {B : Nat} {A : Option Addr} {l : List (Nat × Nat)} {k : Nat} (h : RdR pv w B A 2 l) (hk : k < l.length) :
    ∃ (ad : Addr) (x y : Nat), A = some ad ∧ (ad.add (k * 2)).block < B ∧ l[k]? = some (x, y) ∧ w.cell? (ad.add (k * 2)) = some (.int .i64 (x : Int)) ∧ w.cell? ⟨(ad.add (k * 2)).block, (ad.add (k * 2)).off + 1, none⟩ = some (.int .i64 (y : Int)) := by
  obtain ⟨ad, p, e, hb, hd, hc⟩ := RdR.cell pv_len (by omega) h hk
  obtain ⟨x, y⟩ := p
  exact ⟨ad, x, y, e, hb, hd, hc 0 _ rfl, hc 1 _ rfl⟩

theorem pair_eql (w : World) (x y u v : Int) : (Op.equalIn 10000 57 (.agg #[.int .i64 x, .int .i64 y]) (.agg #[.int .i64 u, .int .i64 v])).run Try.prog w = .ok (decide (x = u) && decide (y = v)) w := by
  have hc : Try.prog.cellsOf 3 = 1 := by kernel_rfl
  have hk : Try.prog.plainKey 3 = true := by kernel_rfl
  obtain ⟨i0, hi, _⟩ := info_parts (show (Try.prog.info? 3).map (fun i => (i.zero, i.size, i.bytes)) = some (some (.int .i64 0), 1, 8) from by kernel_rfl)
  have key : ∀ d : Nat, d = 9999 → (Op.equalIn (d + 1) 57 (.agg #[.int .i64 x, .int .i64 y]) (.agg #[.int .i64 u, .int .i64 v])).run Try.prog w = .ok (decide (x = u) && decide (y = v)) w := by
    intro d hd
    rw [run_equalIn_array w d _ _ Try.underlying57 hi, hc, show List.range 2 = [0, 1] from rfl]
    obtain ⟨d, rfl⟩ : ∃ d', d = d' + 1 := ⟨9998, hd⟩
    have p (a b : Int) : (part 3 #[.int .i64 a, .int .i64 b] (0 * 1)).run Try.prog w = .ok (.int .i64 a) w := run_part_plain w hk rfl
    have q (a b : Int) : (part 3 #[.int .i64 a, .int .i64 b] (1 * 1)).run Try.prog w = .ok (.int .i64 b) w := run_part_plain w hk rfl
    have e (a b : Int) := run_equalIn_int (P := Try.prog) w d 3 .i64 .i64 a b Try.underlying3
    simp only [Op.eqItems, Sem.run_bind, p, q, e, Result.andThen_ok]
    by_cases h : x = u
    · subst h
      simp only [beq_self_eq_true, Bool.not_true, Bool.false_eq_true, if_false, Sem.run_bind, p, q, e, Result.andThen_ok, decide_true, Bool.true_and]
      by_cases h2 : y = v
      · subst h2; simp
      · simp [h2]
    · simp [h]
  exact key 9999 rfl

/-- words as cells -/
def RdU (w : World) (B : Nat) (A : Option Addr) (ws : List Nat) : Prop := Rd w B A ws.length (fun j => .int .u32 ((ws.getD j 0 : Nat) : Int))

theorem RdU.below {w w' : World} {B B' : Nat} {A : Option Addr} {ws : List Nat} (h : RdU w B A ws) (hb : Below B' w w') (hB : B ≤ B') : RdU w' B A ws := Rd.below h hb hB

theorem RdU.more {w : World} {B B' : Nat} {A : Option Addr} {ws : List Nat} (h : RdU w B A ws) (hB : B ≤ B') : RdU w B' A ws := Rd.more h hB

theorem RdU.at_ {w : World} {B : Nat} {A : Option Addr} {ws : List Nat} {k : Nat} (h : RdU w B A ws) (hk : k < ws.length) :
    ∃ (ad : Addr) (x : Nat), A = some ad ∧ (ad.add k).block < B ∧ ws[k]? = some x ∧ w.cell? (ad.add k) = some (.int .u32 (x : Int)) := by
  obtain ⟨ad, e, hb, hc⟩ := h (by omega)
  refine ⟨ad, ws[k], e, by rw [addr_add_block]; exact hb, List.getElem?_eq_getElem hk, ?_⟩
  rw [hc k hk]
  simp [hk]

theorem bitB_nat {W j : Nat} (hW : W < 2 ^ 8) : bitB W (j : Int) = W.testBit j := by
  unfold bitB
  rw [Int.toNat_natCast]
  by_cases h : j < 32
  · rw [decide_eq_true (by omega), Bool.true_and]
  · rw [decide_eq_false (by omega), Bool.false_and]
    refine (Nat.testBit_lt_two_pow (Nat.lt_of_lt_of_le hW (Nat.pow_le_pow_right (by omega) (by omega)))).symm

theorem szW_le (s : Nat) : ∀ n, szW s n ≤ n
  | 0 => Nat.le_refl _
  | n + 1 => by
    have := szW_le s n
    unfold szW
    split <;> omega

set_option maxHeartbeats 1000000 in
theorem refSize_any (W : Nat) (w : World) (hW : W < 4294967296) :
    Calls Try.prog 29 #[.int .u32 (W : Nat)] w fun e w' => e = .returned (.int .i64 (szW W 32 : Nat)) ∧ w = w' := by
  go_enter Try.func29, Try.ntmps29
  go_wp2
  go_loop [3, 4] (fun s i => ∃ k m : Nat, k ≤ 32 ∧ m ≤ k ∧ i = .int .i64 k ∧ s = .int .i64 m ∧ m = szW W k) (fun _ i => 32 - (intOf i).toNat)
  case atStart => exact ⟨0, 0, by omega, by omega, rfl, rfl, rfl⟩
  case round =>
    obtain ⟨k, m, hk, hmk, rfl, rfl, hr⟩ := hrel
    have HR := Lib.hid hr
    clear hr
    by_cases hlt : k < 32
    · have hb : bitB W (k : Int) = W.testBit k := by unfold bitB; rw [decide_eq_true (by omega)]; simp
      have hs : szW W (k + 1) = m + (if W.testBit k = true then 1 else 0) := by rw [szW, ← HR.out]
      cases ht : W.testBit k with
      | true =>
        rw [ht] at hb hs
        rw [if_pos rfl] at hs
        have HS := Lib.hid hs
        clear hs ht
        go_wp2_with (go_at_call 15; (with_reducible refine (bit_any W _ _ hW).mono ?_); rw [hb]; rintro e w5 ⟨rfl, rfl⟩)
        go_round
        case rel => exact ⟨k + 1, m + 1, by omega, by omega, by go_num, by go_num, HS.out.symm⟩
        case measure => (simp [intOf]; omega)
      | false =>
        rw [ht] at hb hs
        rw [if_neg (by simp)] at hs
        have HS := Lib.hid hs
        clear hs ht
        go_wp2_with (go_at_call 15; (with_reducible refine (bit_any W _ _ hW).mono ?_); rw [hb]; rintro e w5 ⟨rfl, rfl⟩)
        go_round
        case rel => exact ⟨k + 1, m, by omega, by omega, by go_num, rfl, by rw [HS.out]; simp⟩
        case measure => (simp [intOf]; omega)
    · have hk32 : k = 32 := by omega
      subst hk32
      go_wp2
      go_ret
      exact ⟨ret_int (by rw [HR.out]), rfl⟩

set_option maxHeartbeats 1000000 in
theorem refFits_any (n W : Nat) (w : World) (hn : n < 32) (hW : W < 2 ^ n) :
    Calls Try.prog 14 #[.int .i64 n, .int .u32 (W : Nat)] w fun e w' => e = .returned (.bool true) ∧ w = w' := by
  have hp := pow_lt_32 hn
  have hpe := pow_u32' hn
  have hlt : ((W : Nat) : Int) < (2 : Int) ^ n % 4294967296 := by rw [hpe]; exact Int.ofNat_lt.2 hW
  have h32 : ¬ (32 : Int) ≤ (n : Int) := by omega
  clear hpe
  go_enter Try.func14, Try.ntmps14
  go_wp2
  go_ret
  exact ⟨rfl, rfl⟩

end Go.Proofs.Ytpbajalecfaibaa
