/-
  codemasonref.Has and codemasonref.Comes: the terms by which the last one comes about, in their order.
-/
import Derived.Test.YtfbpalgeajgbhaaInts
import Derived.Test.YtfbpalgeajgbhaaApp
namespace Go.Proofs.Ytfbpalgeajgbhaa
open Go.RowKit
set_option linter.unusedSimpArgs false
set_option linter.unusedVariables false
set_option maxRecDepth 100000

def hasB : List Int → Int → Bool
  | [], _ => false
  | y :: r, x => if x = y then true else hasB r x

theorem hasB_iff : ∀ {xs : List Int} {x : Int}, hasB xs x = true ↔ x ∈ xs
  | [], x => by simp [hasB]
  | y :: r, x => by
    unfold hasB
    split
    · simp [*]
    · rw [hasB_iff]; simp [*]

theorem hasB_go {x y : Int} {r : List Int} (h : (x == y) = false) : hasB (y :: r) x = hasB r x := by
  have : ¬ x = y := by simpa using h
  simp only [hasB, if_neg this]

theorem hasB_stop {x y : Int} {r : List Int} (h : (x == y) = true) : hasB (y :: r) x = true := by
  have : x = y := by simpa using h
  simp only [hasB, if_pos this]

set_option maxHeartbeats 1000000 in
theorem has_any (x : Int) (A : Option Addr) (len cap : Nat) (xs : List Int) (B : Nat) (w : World) (hx : RdI w B A xs) (hl : xs.length = len) (hm : len ≤ maxLen) :
    Calls Try.prog 28 #[.slice A len cap, .int .i64 x] w fun e w' => e = .returned (.bool (hasB xs x)) ∧ w = w' := by
  unfold maxLen at hm
  have HL := Lib.hid hl
  clear hl
  go_enter Try.func28, Try.ntmps28
  go_wp2
  go_loop [9] (fun i => ∃ k : Nat, k ≤ len ∧ i = .int .i64 k ∧ hasB xs x = hasB (xs.drop k) x) (fun i => len - (intOf i).toNat)
  case atStart => exact ⟨0, Nat.zero_le _, rfl, rfl⟩
  case round =>
    obtain ⟨k, hk, rfl, hr⟩ := hrel
    have HR := Lib.hid hr
    clear hr
    by_cases hlt : k < len
    · obtain ⟨ad, y, rfl, _, hd, hcell⟩ := hx.at_ (k := k) (by rw [HL.out]; exact hlt)
      have HD := Lib.hid (drop_at hd)
      clear hd
      by_cases hxy : x = y
      · have hb : (x == y) = true := by simp [hxy]
        have HB := Lib.hid hb
        clear hxy
        go_wp2
        go_ret
        exact ⟨ret_bool (by rw [HR.out, HD.out, hasB_stop HB.out]), rfl⟩
      · have hb : (x == y) = false := by simp [hxy]
        have HB := Lib.hid hb
        clear hxy
        go_wp2
        go_round
        case rel => exact ⟨k + 1, by omega, by go_num, by rw [HR.out, HD.out]; exact hasB_go HB.out⟩
        case measure => (simp [intOf]; omega)
    · go_wp2
      go_ret
      exact ⟨ret_bool (by rw [HR.out, List.drop_of_length_le (by rw [HL.out]; omega)]; rfl), rfl⟩

def lenOf : Value → Nat
  | .slice _ n _ => n
  | _ => 0

end Go.Proofs.Ytfbpalgeajgbhaa
