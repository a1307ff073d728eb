/-
  codemasonref.Twos, Words (equal lists are told equal), Size, Fits.
-/
import Derived.Test.YtgcjknibelfjbaaBackRef
import Derived.Test.YtgcjknibelfjbaaWords
import Derived.BigRegion
import Derived.ChangeKeysEq
namespace Go.Proofs.Ytgcjknibelfjbaa
open Go.RowKit
set_option linter.unusedSimpArgs false
set_option linter.unusedVariables false
set_option maxRecDepth 100000

theorem RdR.pair {w : World} {B : Nat} {A : Option Addr} {l : List (Nat × Nat)} {k : Nat} (h : RdR pv w B A 2 l) (hk : k < l.length) :
    ∃ (ad : Addr) (x y : Nat), A = some ad ∧ (ad.add (k * 2)).block < B ∧ l[k]? = some (x, y) ∧ w.cell? (ad.add (k * 2)) = some (.int .i64 (x : Int)) ∧ w.cell? ⟨(ad.add (k * 2)).block, (ad.add (k * 2)).off + 1, none⟩ = some (.int .i64 (y : Int)) := by
  obtain ⟨ad, p, e, hb, hd, hc⟩ := RdR.cell pv_len (by omega) h hk
  obtain ⟨x, y⟩ := p
  exact ⟨ad, x, y, e, hb, hd, hc 0 _ rfl, hc 1 _ rfl⟩

theorem pair_eql (w : World) (x y u v : Int) : (Op.equalIn 10000 104 (.agg #[.int .i64 x, .int .i64 y]) (.agg #[.int .i64 u, .int .i64 v])).run Try.prog w = .ok (decide (x = u) && decide (y = v)) w := by
  have hc : Try.prog.cellsOf 3 = 1 := by kernel_rfl
  have hk : Try.prog.plainKey 3 = true := by kernel_rfl
  obtain ⟨i0, hi, _⟩ := info_parts (show (Try.prog.info? 3).map (fun i => (i.zero, i.size, i.bytes)) = some (some (.int .i64 0), 1, 8) from by kernel_rfl)
  have key : ∀ d : Nat, d = 9999 → (Op.equalIn (d + 1) 104 (.agg #[.int .i64 x, .int .i64 y]) (.agg #[.int .i64 u, .int .i64 v])).run Try.prog w = .ok (decide (x = u) && decide (y = v)) w := by
    intro d hd
    rw [run_equalIn_array w d _ _ Try.underlying104 hi, hc, show List.range 2 = [0, 1] from rfl]
    obtain ⟨d, rfl⟩ : ∃ d', d = d' + 1 := ⟨9998, hd⟩
    have p (a b : Int) : (part 3 #[.int .i64 a, .int .i64 b] (0 * 1)).run Try.prog w = .ok (.int .i64 a) w := run_part_plain w hk rfl
    have q (a b : Int) : (part 3 #[.int .i64 a, .int .i64 b] (1 * 1)).run Try.prog w = .ok (.int .i64 b) w := run_part_plain w hk rfl
    have e (a b : Int) := run_equalIn_int (P := Try.prog) w d 3 .i64 .i64 a b Try.underlying3
    simp only [Op.eqItems, Sem.run_bind, p, q, e, Result.andThen_ok]
    by_cases h : x = u
    · subst h
      simp only [beq_self_eq_true, Bool.not_true, Bool.false_eq_true, if_false, Sem.run_bind, p, q, e, Result.andThen_ok, decide_true, Bool.true_and]
      by_cases h2 : y = v
      · subst h2; simp
      · simp [h2]
    · simp [h]
  exact key 9999 rfl

theorem bitB_nat {W j : Nat} (hW : W < 2 ^ 8) : bitB W (j : Int) = W.testBit j := by
  unfold bitB
  rw [Int.toNat_natCast]
  by_cases h : j < 32
  · rw [decide_eq_true (by omega), Bool.true_and]
  · rw [decide_eq_false (by omega), Bool.false_and]
    refine (Nat.testBit_lt_two_pow (Nat.lt_of_lt_of_le hW (Nat.pow_le_pow_right (by omega) (by omega)))).symm

theorem szW_le (s : Nat) : ∀ n, szW s n ≤ n
  | 0 => Nat.le_refl _
  | n + 1 => by
    have := szW_le s n
    unfold szW
    split <;> omega

end Go.Proofs.Ytgcjknibelfjbaa
