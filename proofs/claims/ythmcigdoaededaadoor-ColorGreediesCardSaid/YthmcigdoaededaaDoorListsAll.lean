/-
  color.ListsAll: is each below n there just once (O1, Q1)?
-/
import Derived.Test.YthmcigdoaededaaDoorContainsZ
import Derived.Test.YthmcigdoaededaaDoorHasC
namespace Go.Proofs.YthmcigdoaededaaDoor
open Go.RowKit
set_option linter.unusedSimpArgs false
set_option linter.unusedVariables false
set_option maxRecDepth 100000

set_option maxHeartbeats 1000000 in
theorem listsAll_any (n : Nat) (A : Option Addr) (len cap : Nat) (o : List Int) (B : Nat) (w : World) (hx : RdI w B A o) (hl : o.length = len) (hm : len ≤ maxLen) (hn : n ≤ 8) :
    Calls Tryd.prog 18 #[.int .i64 n, .slice A len cap] w fun e w' => e = .returned (.bool (onceB n o)) ∧ w = w' := by
  have HL := Lib.hid hl
  have HM := Lib.hid hm
  unfold maxLen at hm
  have HC : Hid (∀ (k : Nat), Calls Tryd.prog 31 #[.slice A len cap, .int .i64 k] w fun e w' => e = .returned (.bool (decide ((k : Int) ∈ o))) ∧ w = w') := Lib.hid fun k => hasZ_any A len cap o k B w hx hl HM.out
  clear hx hl
  by_cases hln : len = n
  · subst hln
    have hb : ((len : Int) != (len : Int)) = false := by simp
    go_enter Tryd.func18, Tryd.ntmps18
    go_wp2
    go_loop [11] (fun i => ∃ k : Nat, k ≤ len ∧ i = .int .i64 k ∧ Hid (∀ i : Nat, i < k → (i : Int) ∈ o)) (fun i => len - (intOf i).toNat)
    case atStart => exact ⟨0, Nat.zero_le _, rfl, Lib.hid fun i h => by omega⟩
    case round =>
      obtain ⟨k, hk, rfl, HR⟩ := hrel
      by_cases hlt : k < len
      · have HH := Lib.hid (HC.out k)
        by_cases hin : (k : Int) ∈ o
        · rw [show decide ((k : Int) ∈ o) = true from by simp [hin]] at HH
          have HR2 : Hid (∀ i : Nat, i < k + 1 → (i : Int) ∈ o) := Lib.hid fun i hi => by
            rcases Nat.lt_or_ge i k with h | h
            · exact HR.out i h
            · have : i = k := by omega
              rw [this]
              exact hin
          clear hin
          go_wp2_with (go_at_call 31; (with_reducible refine HH.out.mono ?_); rintro e w1 ⟨rfl, rfl⟩)
          go_round
          case rel => exact ⟨k + 1, by omega, by go_num, HR2⟩
          case measure => (simp [intOf]; omega)
        · rw [show decide ((k : Int) ∈ o) = false from by simp [hin]] at HH
          have HIN := Lib.hid hin
          clear hin
          go_wp2_with (go_at_call 31; (with_reducible refine HH.out.mono ?_); rintro e w1 ⟨rfl, rfl⟩)
          go_ret
          exact ⟨ret_bool (by rw [onceB_no fun h => HIN.out (h.2 k (by omega))]), rfl⟩
      · go_wp2
        go_ret
        exact ⟨ret_bool (onceB_iff.2 ⟨by rw [HL.out], fun i hi => HR.out i (by omega)⟩).symm, rfl⟩
  · have hb : ((len : Int) != (n : Int)) = true := by simp; omega
    have HN : Hid (onceB n o = false) := Lib.hid (onceB_no fun h => hln (by have := h.1; rw [HL.out] at this; omega))
    clear hln
    go_enter Tryd.func18, Tryd.ntmps18
    go_wp2
    go_ret
    exact ⟨ret_bool HN.out.symm, rfl⟩

end Go.Proofs.YthmcigdoaededaaDoor
