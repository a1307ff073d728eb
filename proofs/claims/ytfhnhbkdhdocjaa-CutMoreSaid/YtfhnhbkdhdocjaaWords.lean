/-
  Words as cells; codemasonref.Fits.
-/
import Derived.Test.YtfhnhbkdhdocjaaMBase
namespace Go.Proofs.Ytfhnhbkdhdocjaa
open Go.RowKit
set_option linter.unusedSimpArgs false
set_option linter.unusedVariables false
set_option maxRecDepth 100000

/-- words as cells -/
def RdU (w : World) (B : Nat) (A : Option Addr) (ws : List Nat) : Prop := Rd w B A ws.length (fun j => .int .u32 ((ws.getD j 0 : Nat) : Int))

theorem RdU.below {w w' : World} {B B' : Nat} {A : Option Addr} {ws : List Nat} (h : RdU w B A ws) (hb : Below B' w w') (hB : B ≤ B') : RdU w' B A ws := Rd.below h hb hB

theorem RdU.more {w : World} {B B' : Nat} {A : Option Addr} {ws : List Nat} (h : RdU w B A ws) (hB : B ≤ B') : RdU w B' A ws := Rd.more h hB

theorem RdU.at_ {w : World} {B : Nat} {A : Option Addr} {ws : List Nat} {k : Nat} (h : RdU w B A ws) (hk : k < ws.length) :
    ∃ (ad : Addr) (x : Nat), A = some ad ∧ (ad.add k).block < B ∧ ws[k]? = some x ∧ w.cell? (ad.add k) = some (.int .u32 (x : Int)) := by
  obtain ⟨ad, e, hb, hc⟩ := h (by omega)
  refine ⟨ad, ws[k], e, by rw [addr_add_block]; exact hb, List.getElem?_eq_getElem hk, ?_⟩
  rw [hc k hk]
  simp [hk]

set_option maxHeartbeats 1000000 in
theorem refFits_any (n W : Nat) (w : World) (hn : n < 32) (hW : W < 2 ^ n) :
    Calls Try.prog 21 #[.int .i64 n, .int .u32 (W : Nat)] w fun e w' => e = .returned (.bool true) ∧ w = w' := by
  have hp := pow_lt_32 hn
  have hpe := pow_u32' hn
  have hlt : ((W : Nat) : Int) < (2 : Int) ^ n % 4294967296 := by rw [hpe]; exact Int.ofNat_lt.2 hW
  have h32 : ¬ (32 : Int) ≤ (n : Int) := by omega
  clear hpe
  go_enter Try.func21, Try.ntmps21
  go_wp2
  go_ret
  exact ⟨rfl, rfl⟩

set_option maxHeartbeats 1000000 in
theorem refFits_is (n W : Nat) (w : World) (hn : n < 32) (hW : W < 4294967296) :
    Calls Try.prog 21 #[.int .i64 n, .int .u32 (W : Nat)] w fun e w' => e = .returned (.bool (decide (W < 2 ^ n))) ∧ w = w' := by
  by_cases h : W < 2 ^ n
  · rw [decide_eq_true h]
    exact refFits_any n W w hn h
  · rw [decide_eq_false h]
    have hpe := pow_u32' hn
    have hlt : decide (((W : Nat) : Int) < (2 : Int) ^ n % 4294967296) = false := by rw [hpe]; simp only [decide_eq_false_iff_not]; intro h2; exact h (Int.ofNat_lt.1 h2)
    have h32 : ¬ (32 : Int) ≤ (n : Int) := by omega
    clear hpe h
    go_enter Try.func21, Try.ntmps21
    go_wp2
    go_ret
    exact ⟨ret_bool (by simp), rfl⟩

end Go.Proofs.Ytfhnhbkdhdocjaa
