/-
  codemasonref.Terms: equal lists are told equal.
-/
import Derived.Test.YtacokdghfkpdpaaBase
import Derived.BigRegion
namespace Go.Proofs.Ytacokdghfkpdpaa
open Go.RowKit
set_option linter.unusedSimpArgs false
set_option linter.unusedVariables false
set_option maxRecDepth 100000

set_option maxHeartbeats 1000000 in
theorem terms_same (A B : Option Addr) (n ca cb : Nat) (xs : List Tm) (w : World) (hx : RdT w w.heap.size A xs) (hy : RdT w w.heap.size B xs) (hl : xs.length = n) (hm : n ≤ maxLen) :
    Calls Try.prog 18 #[.slice A n ca, .slice B n cb] w fun e w' => e = .returned (.bool true) ∧ Below w.heap.size w w' := by
  unfold maxLen at hm
  have HL := Lib.hid hl
  clear hl
  go_enter Try.func18, Try.ntmps18
  go_wp2
  go_loopw [5] (fun i wr => ∃ k : Nat, k ≤ n ∧ i = .int .i64 k ∧ Below w.heap.size w wr) (fun i _ => n - (intOf i).toNat)
  case atStart => exact ⟨0, Nat.zero_le _, rfl, Below.refl _ _⟩
  case round =>
    obtain ⟨k, hk, rfl, hb⟩ := hrel
    have hsz := hb.size
    by_cases hlt : k < n
    · obtain ⟨ad, o, a, b, v, rfl, hbl, hd, hc0, hc1, hc2, hc3⟩ := (hx.below hb (Nat.le_refl _)).at_ (k := k) (by rw [HL.out]; exact hlt)
      obtain ⟨ad2, o2, a2, b2, v2, rfl, hbl2, hd2, hd0, hd1, hd3, hd4⟩ := (hy.below hb (Nat.le_refl _)).at_ (k := k) (by rw [HL.out]; exact hlt)
      rw [hd] at hd2
      injection hd2 with hd2
      injection hd2 with e1 e2 e3 e4
      subst e1 e2 e3 e4
      clear hd
      go_wp2
      go_region
      all_goals
        go_wp2
        go_round
        case rel => exact ⟨k + 1, by omega, by go_num, by go_grown⟩
        case measure => (simp [intOf]; omega)
    · go_wp2
      go_ret
      exact ⟨rfl, hb⟩

end Go.Proofs.Ytacokdghfkpdpaa
