/-
  The reference's Has and Once over ints, told by naturals.
-/
import Derived.Test.YthmcigdoaededaaDoorMBase
import Derived.Test.YthmcigdoaededaaDoorMPure
namespace Go.Proofs.YthmcigdoaededaaDoor
open Go.RowKit
set_option linter.unusedSimpArgs false
set_option linter.unusedVariables false
set_option maxRecDepth 100000

set_option maxHeartbeats 1000000 in
theorem refHas_any (A : Option Addr) (len cap : Nat) (xs : List Int) (x : Int) (B : Nat) (w : World) (hx : RdI w B A xs) (hl : xs.length = len) (hm : len ≤ maxLen) :
    Calls Tryd.prog 23 #[.slice A len cap, .int .i64 x] w fun e w' => e = .returned (.bool (decide (x ∈ xs))) ∧ w = w' := by
  unfold maxLen at hm
  have HL := Lib.hid hl
  clear hl
  go_enter Tryd.func23, Tryd.ntmps23
  go_wp2
  go_loop [9] (fun i => ∃ k : Nat, k ≤ len ∧ i = .int .i64 k ∧ x ∉ xs.take k) (fun i => len - (intOf i).toNat)
  case atStart => exact ⟨0, Nat.zero_le _, rfl, by simp⟩
  case round =>
    obtain ⟨k, hk, rfl, hno⟩ := hrel
    have HNO := Lib.hid hno
    clear hno
    by_cases hlt : k < len
    · obtain ⟨ad, y, rfl, hbl, hd, hcell⟩ := hx.at_ (k := k) (by rw [HL.out]; exact hlt)
      have HY := Lib.hid hd
      clear hd
      by_cases hxy : x = y
      · have hb : (x == y) = true := by simp [hxy]
        have HXY := Lib.hid hxy
        clear hxy
        go_wp2
        go_ret
        exact ⟨ret_bool (by simp [HXY.out, List.mem_of_getElem? HY.out]), rfl⟩
      · have hb : (x == y) = false := by simp [hxy]
        have HXY := Lib.hid hxy
        clear hxy
        go_wp2
        go_round
        case rel =>
          refine ⟨k + 1, by omega, by go_num, fun h => ?_⟩
          rw [List.take_add_one, HY.out, Option.toList_some, List.mem_append] at h
          rcases h with h | h
          · exact HNO.out h
          · exact HXY.out (by simpa using h)
        case measure => (simp [intOf]; omega)
    · go_wp2
      go_ret
      have h := HNO.out
      rw [List.take_of_length_le (by rw [HL.out]; omega)] at h
      exact ⟨ret_bool (by simp [h]), rfl⟩

/-- each number below n just once -/
def OnceI (n : Int) (xs : List Int) : Prop := (xs.length : Int) = n ∧ ∀ i : Nat, (i : Int) < n → (i : Int) ∈ xs

def onceB (n : Int) (xs : List Int) : Bool := decide ((xs.length : Int) = n) && (List.range n.toNat).all fun i => decide ((i : Int) ∈ xs)

theorem onceB_iff {n : Int} {xs : List Int} : onceB n xs = true ↔ OnceI n xs := by
  unfold onceB OnceI
  rw [Bool.and_eq_true, decide_eq_true_eq, List.all_eq_true]
  constructor
  · rintro ⟨h1, h2⟩
    exact ⟨h1, fun i hi => by simpa using h2 i (List.mem_range.2 (by omega))⟩
  · rintro ⟨h1, h2⟩
    exact ⟨h1, fun i hi => by
      have := List.mem_range.1 hi
      simpa using h2 i (by omega)⟩

theorem onceB_no {n : Int} {xs : List Int} (h : ¬ OnceI n xs) : onceB n xs = false := by
  rw [Bool.eq_false_iff]
  exact fun h2 => h (onceB_iff.1 h2)

set_option maxHeartbeats 1000000 in
theorem refOnce_any (n : Int) (A : Option Addr) (len cap : Nat) (xs : List Int) (B : Nat) (w : World) (hx : RdI w B A xs) (hl : xs.length = len) (hm : len ≤ maxLen) :
    Calls Tryd.prog 8 #[.int .i64 n, .slice A len cap] w fun e w' => e = .returned (.bool (onceB n xs)) ∧ w = w' := by
  have HM := Lib.hid hm
  unfold maxLen at hm
  have HL := Lib.hid hl
  clear hl
  by_cases hn : (len : Int) = n
  · subst hn
    go_enter Tryd.func8, Tryd.ntmps8
    go_wp2
    go_loop [5] (fun i => ∃ k : Nat, k ≤ len ∧ i = .int .i64 k ∧ ∀ i : Nat, i < k → (i : Int) ∈ xs) (fun i => len - (intOf i).toNat)
    case atStart => exact ⟨0, Nat.zero_le _, rfl, fun i h => by omega⟩
    case round =>
      obtain ⟨k, hk, rfl, hr⟩ := hrel
      have HR := Lib.hid hr
      clear hr
      by_cases hlt : k < len
      · have HH := Lib.hid (refHas_any A len cap xs k B w hx HL.out HM.out)
        by_cases hin : (k : Int) ∈ xs
        · rw [show decide ((k : Int) ∈ xs) = true from by simp [hin]] at HH
          have HIN := Lib.hid hin
          clear hin
          go_wp2_with fail
          refine HH.out.mono ?_
          rintro e w1 ⟨rfl, rfl⟩
          go_wp2
          go_round
          case rel =>
            refine ⟨k + 1, by omega, by go_num, fun i hi => ?_⟩
            rcases Nat.lt_or_ge i k with h | h
            · exact HR.out i h
            · have : i = k := by omega
              rw [this]
              exact HIN.out
          case measure => (simp [intOf]; omega)
        · rw [show decide ((k : Int) ∈ xs) = false from by simp [hin]] at HH
          have HIN := Lib.hid hin
          clear hin
          go_wp2_with fail
          refine HH.out.mono ?_
          rintro e w1 ⟨rfl, rfl⟩
          go_wp2
          go_ret
          exact ⟨ret_bool (by rw [onceB_no fun h => HIN.out (h.2 k (by omega))]), rfl⟩
      · go_wp2
        go_ret
        exact ⟨ret_bool (by rw [onceB_iff.2 ⟨by rw [HL.out], fun i hi => HR.out i (by omega)⟩]), rfl⟩
  · have hb : ((len : Int) != n) = true := by simp [hn]
    have HN := Lib.hid hn
    clear hn
    go_enter Tryd.func8, Tryd.ntmps8
    go_wp2
    go_ret
    exact ⟨ret_bool (by rw [onceB_no fun h => HN.out (by rw [← HL.out]; exact h.1)]), rfl⟩

end Go.Proofs.YthmcigdoaededaaDoor
