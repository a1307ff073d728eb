/-
  What the laws of package hold lean on: which arguments may be (P1).
-/
import Derived.Test.YtjnmohphinldkaaLaw
import Derived.Test.YtjnmohphinldkaaOpen
import Derived.Test.YtjnmohphinldkaaHoldIs
namespace Go.Proofs.Ytjnmohphinldkaa
open Go.RowKit Go.ChangeShapes Go.WideShapes Go.ChangeAt Go.Deep
set_option linter.unusedSimpArgs false
set_option linter.unusedVariables false
set_option maxRecDepth 100000

/-- may they not be? -/
def HBad (len : Nat) (p : Int) : Prop := 20 < len ∨ p < 1 ∨ 8 < p

theorem hbad_or (len : Nat) (p : Int) : HBad len p ∨ len ≤ 20 ∧ ∃ m : Nat, p = m ∧ 1 ≤ m ∧ m ≤ 8 := by
  unfold HBad
  by_cases h : 20 < len ∨ p < 1 ∨ 8 < p
  · exact .inl h
  · exact .inr ⟨by omega, p.toNat, by omega, by omega, by omega⟩

set_option maxHeartbeats 1000000 in
theorem holdCode_ok (A : Option Addr) (len cap p : Nat) (w : World) (hm : len ≤ 20) (h1 : 1 ≤ p) (h8 : p ≤ 8) :
    Calls Try.prog 12 #[.slice A len cap, .int .i64 p] w fun e w' => e = .returned (.int .i64 0) ∧ w = w' := by
  go_enter Try.func12, Try.ntmps12
  go_wp2
  go_ret
  exact ⟨rfl, rfl⟩

set_option maxHeartbeats 1000000 in
theorem holdCode_bad (A : Option Addr) (len cap : Nat) (p : Int) (w : World) (hm : len ≤ maxLen) (h : HBad len p) :
    Calls Try.prog 12 #[.slice A len cap, .int .i64 p] w fun e w' => e = .returned (.int .i64 1) ∧ w = w' := by
  unfold maxLen at hm
  unfold HBad at h
  by_cases h1 : 20 < len
  · clear h
    go_enter Try.func12, Try.ntmps12
    go_wp2
    go_ret
    exact ⟨rfl, rfl⟩
  · by_cases h2 : p < 1
    · clear h
      go_enter Try.func12, Try.ntmps12
      go_wp2
      go_ret
      exact ⟨rfl, rfl⟩
    · have h3 : 8 < p := by omega
      clear h
      go_enter Try.func12, Try.ntmps12
      go_wp2
      go_ret
      exact ⟨rfl, rfl⟩

set_option maxHeartbeats 1000000 in
theorem held_ok (A : Option Addr) (len cap p : Nat) (w : World) (hm : len ≤ 20) (h1 : 1 ≤ p) (h8 : p ≤ 8) :
    Calls Try.prog 19 #[.slice A len cap, .int .i64 p] w fun e w' => e = .returned (.bool true) ∧ w = w' := by
  go_enter Try.func19, Try.ntmps19
  go_wp2
  go_ret
  exact ⟨ret_bool (by first | rfl | (simp; omega)), rfl⟩

set_option maxHeartbeats 1000000 in
theorem held_bad (A : Option Addr) (len cap : Nat) (p : Int) (w : World) (hm : len ≤ maxLen) (h : HBad len p) :
    Calls Try.prog 19 #[.slice A len cap, .int .i64 p] w fun e w' => e = .returned (.bool false) ∧ w = w' := by
  unfold maxLen at hm
  unfold HBad at h
  by_cases h1 : 20 < len
  · clear h
    go_enter Try.func19, Try.ntmps19
    go_wp2
    go_ret
    exact ⟨ret_bool (by first | rfl | (simp; omega)), rfl⟩
  · by_cases h2 : p < 1
    · clear h
      go_enter Try.func19, Try.ntmps19
      go_wp2
      go_ret
      exact ⟨ret_bool (by first | rfl | (simp; omega)), rfl⟩
    · have h3 : 8 < p := by omega
      clear h
      go_enter Try.func19, Try.ntmps19
      go_wp2
      go_ret
      exact ⟨ret_bool (by first | rfl | (simp; omega)), rfl⟩

theorem best_lru {p k : Nat} {rs : List Int} (hp : 1 ≤ p) (h : Best p rs k) : k ≤ lruG p [] rs := by
  obtain ⟨d, hd⟩ := lru_run hp rs [] List.nodup_nil (by simp)
  exact h.least _ _ hd

theorem best_fifo {p k : Nat} {rs : List Int} (hp : 1 ≤ p) (h : Best p rs k) : k ≤ fifoG p [] rs := by
  obtain ⟨d, hd⟩ := fifo_run hp rs [] List.nodup_nil (by simp)
  exact h.least _ _ hd

theorem best_play {p k m : Nat} {rs out : List Int} (hp : 1 ≤ p) (h : Best p rs k) (hm : playG p [] out 0 rs = some m) : k ≤ m := by
  obtain ⟨k2, d, h1, hd⟩ := playG_run hp rs [] out 0 m List.nodup_nil (by simp) hm
  have := h.least _ _ hd
  omega

theorem best_len {p k : Nat} {rs : List Int} (h : Best p rs k) : k ≤ rs.length := by
  obtain ⟨d, hd⟩ := h.run
  exact hd.le

theorem lru_len {p : Nat} (hp : 1 ≤ p) (rs : List Int) : lruG p [] rs ≤ rs.length := by
  obtain ⟨d, hd⟩ := lru_run hp rs [] List.nodup_nil (by simp)
  exact hd.le

theorem fifo_len {p : Nat} (hp : 1 ≤ p) (rs : List Int) : fifoG p [] rs ≤ rs.length := by
  obtain ⟨d, hd⟩ := fifo_run hp rs [] List.nodup_nil (by simp)
  exact hd.le

theorem play_len {p m : Nat} {rs out : List Int} (hp : 1 ≤ p) (hm : playG p [] out 0 rs = some m) : m ≤ rs.length := by
  obtain ⟨k2, d, h1, hd⟩ := playG_run hp rs [] out 0 m List.nodup_nil (by simp) hm
  have := hd.le
  omega

end Go.Proofs.Ytjnmohphinldkaa
