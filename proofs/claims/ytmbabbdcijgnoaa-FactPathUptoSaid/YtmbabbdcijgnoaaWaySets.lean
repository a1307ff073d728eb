/-
  codemasonref.Twos, Words (equal lists are told equal), Size, Fits.
-/
import Derived.Test.YtmbabbdcijgnoaaBackRef
import Derived.BigRegion
import Derived.ChangeKeysEq
namespace Go.Proofs.Ytmbabbdcijgnoaa
open Go.RowKit
set_option linter.unusedSimpArgs false
set_option linter.unusedVariables false
set_option maxRecDepth 100000

theorem RdR.pair {w : World} {B : Nat} {A : Option Addr} {l : List (Nat × Nat)} {k : Nat} (h : RdR pv w B A 2 l) (hk : k < l.length) :
    ∃ (ad : Addr) (x y : Nat), A = some ad ∧ (ad.add (k * 2)).block < B ∧ l[k]? = some (x, y) ∧ w.cell? (ad.add (k * 2)) = some (.int .i64 (x : Int)) ∧ w.cell? ⟨(ad.add (k * 2)).block, (ad.add (k * 2)).off + 1, none⟩ = some (.int .i64 (y : Int)) := by
  obtain ⟨ad, p, e, hb, hd, hc⟩ := RdR.cell pv_len (by omega) h hk
  obtain ⟨x, y⟩ := p
  exact ⟨ad, x, y, e, hb, hd, hc 0 _ rfl, hc 1 _ rfl⟩

/-- words as cells -/
def RdU (w : World) (B : Nat) (A : Option Addr) (ws : List Nat) : Prop := Rd w B A ws.length (fun j => .int .u32 ((ws.getD j 0 : Nat) : Int))

theorem RdU.below {w w' : World} {B B' : Nat} {A : Option Addr} {ws : List Nat} (h : RdU w B A ws) (hb : Below B' w w') (hB : B ≤ B') : RdU w' B A ws := Rd.below h hb hB

theorem RdU.more {w : World} {B B' : Nat} {A : Option Addr} {ws : List Nat} (h : RdU w B A ws) (hB : B ≤ B') : RdU w B' A ws := Rd.more h hB

theorem RdU.at_ {w : World} {B : Nat} {A : Option Addr} {ws : List Nat} {k : Nat} (h : RdU w B A ws) (hk : k < ws.length) :
    ∃ (ad : Addr) (x : Nat), A = some ad ∧ (ad.add k).block < B ∧ ws[k]? = some x ∧ w.cell? (ad.add k) = some (.int .u32 (x : Int)) := by
  obtain ⟨ad, e, hb, hc⟩ := h (by omega)
  refine ⟨ad, ws[k], e, by rw [addr_add_block]; exact hb, List.getElem?_eq_getElem hk, ?_⟩
  rw [hc k hk]
  simp [hk]

set_option maxHeartbeats 1000000 in
theorem words_same (A B : Option Addr) (n ca cb : Nat) (xs : List Nat) (w : World) (hx : RdU w w.heap.size A xs) (hy : RdU w w.heap.size B xs) (hl : xs.length = n) (hm : n ≤ maxLen) :
    Calls Try.prog 10 #[.slice A n ca, .slice B n cb] w fun e w' => e = .returned (.bool true) ∧ Below w.heap.size w w' := by
  unfold maxLen at hm
  have HL := Lib.hid hl
  clear hl
  go_enter Try.func10, Try.ntmps10
  go_wp2
  go_loopw [5] (fun i wr => ∃ k : Nat, k ≤ n ∧ i = .int .i64 k ∧ Below w.heap.size w wr) (fun i _ => n - (intOf i).toNat)
  case atStart => exact ⟨0, Nat.zero_le _, rfl, Below.refl _ _⟩
  case round =>
    obtain ⟨k, hk, rfl, hb⟩ := hrel
    have hsz := hb.size
    by_cases hlt : k < n
    · obtain ⟨ad, x, rfl, hbl, hd, hc0⟩ := (hx.below hb (Nat.le_refl _)).at_ (k := k) (by rw [HL.out]; exact hlt)
      obtain ⟨ad2, x2, rfl, hbl2, hd2, hd0⟩ := (hy.below hb (Nat.le_refl _)).at_ (k := k) (by rw [HL.out]; exact hlt)
      rw [hd] at hd2
      injection hd2 with hd2
      subst hd2
      clear hd
      go_wp2
      go_region
      all_goals
        go_wp2
        go_round
        case rel => exact ⟨k + 1, by omega, by go_num, by go_grown⟩
        case measure => (simp [intOf]; omega)
    · go_wp2
      go_ret
      exact ⟨rfl, hb⟩

theorem bitB_nat {W j : Nat} (hW : W < 2 ^ 8) : bitB W (j : Int) = W.testBit j := by
  unfold bitB
  rw [Int.toNat_natCast]
  by_cases h : j < 32
  · rw [decide_eq_true (by omega), Bool.true_and]
  · rw [decide_eq_false (by omega), Bool.false_and]
    refine (Nat.testBit_lt_two_pow (Nat.lt_of_lt_of_le hW (Nat.pow_le_pow_right (by omega) (by omega)))).symm

theorem szW_le (s : Nat) : ∀ n, szW s n ≤ n
  | 0 => Nat.le_refl _
  | n + 1 => by
    have := szW_le s n
    unfold szW
    split <;> omega

set_option maxHeartbeats 1000000 in
theorem refFits_any (n W : Nat) (w : World) (hn : n < 32) (hW : W < 2 ^ n) :
    Calls Try.prog 24 #[.int .i64 n, .int .u32 (W : Nat)] w fun e w' => e = .returned (.bool true) ∧ w = w' := by
  have hp := pow_lt_32 hn
  have hpe := pow_u32' hn
  have hlt : ((W : Nat) : Int) < (2 : Int) ^ n % 4294967296 := by rw [hpe]; exact Int.ofNat_lt.2 hW
  have h32 : ¬ (32 : Int) ≤ (n : Int) := by omega
  clear hpe
  go_enter Try.func24, Try.ntmps24
  go_wp2
  go_ret
  exact ⟨rfl, rfl⟩

end Go.Proofs.Ytmbabbdcijgnoaa
