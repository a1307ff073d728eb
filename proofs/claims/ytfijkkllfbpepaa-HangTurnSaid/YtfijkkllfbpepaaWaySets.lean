/-
  codemasonref.Twos, Words (equal lists are told equal), Size, Fits.
-/
import Derived.Test.YtfijkkllfbpepaaBackRef
import Derived.BigRegion
import Derived.ChangeKeysEq
namespace Go.Proofs.Ytfijkkllfbpepaa
open Go.RowKit
set_option linter.unusedSimpArgs false
set_option linter.unusedVariables false
set_option maxRecDepth 100000

theorem RdR.pair {w : World} {B : Nat} {A : Option Addr} {l : List (Nat × Nat)} {k : Nat} (h : RdR pv w B A 2 l) (hk : k < l.length) :
    ∃ (ad : Addr) (x y : Nat), A = some ad ∧ (ad.add (k * 2)).block < B ∧ l[k]? = some (x, y) ∧ w.cell? (ad.add (k * 2)) = some (.int .i64 (x : Int)) ∧ w.cell? ⟨(ad.add (k * 2)).block, (ad.add (k * 2)).off + 1, none⟩ = some (.int .i64 (y : Int)) := by
  obtain ⟨ad, p, e, hb, hd, hc⟩ := RdR.cell pv_len (by omega) h hk
  obtain ⟨x, y⟩ := p
  exact ⟨ad, x, y, e, hb, hd, hc 0 _ rfl, hc 1 _ rfl⟩

/-- words as cells -/
def RdU (w : World) (B : Nat) (A : Option Addr) (ws : List Nat) : Prop := Rd w B A ws.length (fun j => .int .u32 ((ws.getD j 0 : Nat) : Int))

theorem RdU.below {w w' : World} {B B' : Nat} {A : Option Addr} {ws : List Nat} (h : RdU w B A ws) (hb : Below B' w w') (hB : B ≤ B') : RdU w' B A ws := Rd.below h hb hB

theorem RdU.more {w : World} {B B' : Nat} {A : Option Addr} {ws : List Nat} (h : RdU w B A ws) (hB : B ≤ B') : RdU w B' A ws := Rd.more h hB

theorem RdU.at_ {w : World} {B : Nat} {A : Option Addr} {ws : List Nat} {k : Nat} (h : RdU w B A ws) (hk : k < ws.length) :
    ∃ (ad : Addr) (x : Nat), A = some ad ∧ (ad.add k).block < B ∧ ws[k]? = some x ∧ w.cell? (ad.add k) = some (.int .u32 (x : Int)) := by
  obtain ⟨ad, e, hb, hc⟩ := h (by omega)
  refine ⟨ad, ws[k], e, by rw [addr_add_block]; exact hb, List.getElem?_eq_getElem hk, ?_⟩
  rw [hc k hk]
  simp [hk]

theorem bitB_nat {W j : Nat} (hW : W < 2 ^ 8) : bitB W (j : Int) = W.testBit j := by
  unfold bitB
  rw [Int.toNat_natCast]
  by_cases h : j < 32
  · rw [decide_eq_true (by omega), Bool.true_and]
  · rw [decide_eq_false (by omega), Bool.false_and]
    refine (Nat.testBit_lt_two_pow (Nat.lt_of_lt_of_le hW (Nat.pow_le_pow_right (by omega) (by omega)))).symm

theorem szW_le (s : Nat) : ∀ n, szW s n ≤ n
  | 0 => Nat.le_refl _
  | n + 1 => by
    have := szW_le s n
    unfold szW
    split <;> omega

set_option maxHeartbeats 1000000 in
theorem refFits_any (n W : Nat) (w : World) (hn : n < 32) (hW : W < 2 ^ n) :
    Calls Try.prog 11 #[.int .i64 n, .int .u32 (W : Nat)] w fun e w' => e = .returned (.bool true) ∧ w = w' := by
  have hp := pow_lt_32 hn
  have hpe := pow_u32' hn
  have hlt : ((W : Nat) : Int) < (2 : Int) ^ n % 4294967296 := by rw [hpe]; exact Int.ofNat_lt.2 hW
  have h32 : ¬ (32 : Int) ≤ (n : Int) := by omega
  clear hpe
  go_enter Try.func11, Try.ntmps11
  go_wp2
  go_ret
  exact ⟨rfl, rfl⟩

end Go.Proofs.Ytfijkkllfbpepaa
