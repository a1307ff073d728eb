/-
  codemasonref.Ints: equal lists are told equal.
-/
import Derived.Test.YthckglpleiojkaaMBase
import Derived.BigRegion
namespace Go.Proofs.Ythckglpleiojkaa
open Go.RowKit
set_option linter.unusedSimpArgs false
set_option linter.unusedVariables false
set_option maxRecDepth 100000

set_option maxHeartbeats 1000000 in
theorem ints_same (A B : Option Addr) (n ca cb : Nat) (xs : List Int) (w : World) (hx : RdI w w.heap.size A xs) (hy : RdI w w.heap.size B xs) (hl : xs.length = n) (hm : n ≤ maxLen) :
    Calls Try.prog 9 #[.slice A n ca, .slice B n cb] w fun e w' => e = .returned (.bool true) ∧ Below w.heap.size w w' := by
  unfold maxLen at hm
  have HL := Lib.hid hl
  clear hl
  go_enter Try.func9, Try.ntmps9
  go_wp2
  go_loopw [5] (fun i wr => ∃ k : Nat, k ≤ n ∧ i = .int .i64 k ∧ Below w.heap.size w wr) (fun i _ => n - (intOf i).toNat)
  case atStart => exact ⟨0, Nat.zero_le _, rfl, Below.refl _ _⟩
  case round =>
    obtain ⟨k, hk, rfl, hb⟩ := hrel
    have hsz := hb.size
    by_cases hlt : k < n
    · obtain ⟨ad, x, rfl, hbl, hd, hcx⟩ := (hx.below hb (Nat.le_refl _)).at_ (k := k) (by rw [HL.out]; exact hlt)
      obtain ⟨ad2, y, rfl, hbl2, hd2, hcy⟩ := (hy.below hb (Nat.le_refl _)).at_ (k := k) (by rw [HL.out]; exact hlt)
      rw [hd] at hd2
      injection hd2 with hd2
      subst hd2
      clear hd
      go_wp2
      go_region
      all_goals
        go_wp2
        go_round
        case rel => exact ⟨k + 1, by omega, by go_num, by go_grown⟩
        case measure => (simp [intOf]; omega)
    · go_wp2
      go_ret
      exact ⟨rfl, hb⟩

end Go.Proofs.Ythckglpleiojkaa
