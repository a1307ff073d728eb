/-
  The reference's Has and Once over ints, told by naturals.
-/
import Derived.Test.YtjnmohphinldkaaMBase
import Derived.Test.YtjnmohphinldkaaMPure
namespace Go.Proofs.Ytjnmohphinldkaa
open Go.RowKit
set_option linter.unusedSimpArgs false
set_option linter.unusedVariables false
set_option maxRecDepth 100000

set_option maxHeartbeats 1000000 in
theorem refHas_any (A : Option Addr) (len cap : Nat) (xs : List Int) (x : Int) (B : Nat) (w : World) (hx : RdI w B A xs) (hl : xs.length = len) (hm : len ≤ maxLen) :
    Calls Try.prog 18 #[.slice A len cap, .int .i64 x] w fun e w' => e = .returned (.bool (decide (x ∈ xs))) ∧ w = w' := by
  unfold maxLen at hm
  have HL := Lib.hid hl
  clear hl
  go_enter Try.func18, Try.ntmps18
  go_wp2
  go_loop [9] (fun i => ∃ k : Nat, k ≤ len ∧ i = .int .i64 k ∧ x ∉ xs.take k) (fun i => len - (intOf i).toNat)
  case atStart => exact ⟨0, Nat.zero_le _, rfl, by simp⟩
  case round =>
    obtain ⟨k, hk, rfl, hno⟩ := hrel
    have HNO := Lib.hid hno
    clear hno
    by_cases hlt : k < len
    · obtain ⟨ad, y, rfl, hbl, hd, hcell⟩ := hx.at_ (k := k) (by rw [HL.out]; exact hlt)
      have HY := Lib.hid hd
      clear hd
      by_cases hxy : x = y
      · have hb : (x == y) = true := by simp [hxy]
        have HXY := Lib.hid hxy
        clear hxy
        go_wp2
        go_ret
        exact ⟨ret_bool (by simp [HXY.out, List.mem_of_getElem? HY.out]), rfl⟩
      · have hb : (x == y) = false := by simp [hxy]
        have HXY := Lib.hid hxy
        clear hxy
        go_wp2
        go_round
        case rel =>
          refine ⟨k + 1, by omega, by go_num, fun h => ?_⟩
          rw [List.take_add_one, HY.out, Option.toList_some, List.mem_append] at h
          rcases h with h | h
          · exact HNO.out h
          · exact HXY.out (by simpa using h)
        case measure => (simp [intOf]; omega)
    · go_wp2
      go_ret
      have h := HNO.out
      rw [List.take_of_length_le (by rw [HL.out]; omega)] at h
      exact ⟨ret_bool (by simp [h]), rfl⟩

/-- each number below n just once -/
def OnceI (n : Int) (xs : List Int) : Prop := (xs.length : Int) = n ∧ ∀ i : Nat, (i : Int) < n → (i : Int) ∈ xs

def onceB (n : Int) (xs : List Int) : Bool := decide ((xs.length : Int) = n) && (List.range n.toNat).all fun i => decide ((i : Int) ∈ xs)

theorem onceB_iff {n : Int} {xs : List Int} : onceB n xs = true ↔ OnceI n xs := by
  unfold onceB OnceI
  rw [Bool.and_eq_true, decide_eq_true_eq, List.all_eq_true]
  constructor
  · rintro ⟨h1, h2⟩
    exact ⟨h1, fun i hi => by simpa using h2 i (List.mem_range.2 (by omega))⟩
  · rintro ⟨h1, h2⟩
    exact ⟨h1, fun i hi => by
      have := List.mem_range.1 hi
      simpa using h2 i (by omega)⟩

theorem onceB_no {n : Int} {xs : List Int} (h : ¬ OnceI n xs) : onceB n xs = false := by
  rw [Bool.eq_false_iff]
  exact fun h2 => h (onceB_iff.1 h2)

end Go.Proofs.Ytjnmohphinldkaa
