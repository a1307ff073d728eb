/-
  slices.Index and slices.Contains over ints.
-/
import Derived.Test.YthmcigdoaededaaDoorMBase
namespace Go.Proofs.YthmcigdoaededaaDoor
open Go.RowKit
set_option linter.unusedSimpArgs false
set_option linter.unusedVariables false
set_option maxRecDepth 100000

set_option maxHeartbeats 1000000 in
theorem ixZ_any (A : Option Addr) (n c : Nat) (L : List Int) (x : Int) (B : Nat) (w : World) (hx : RdI w B A L) (hl : L.length = n) (hm : n ≤ maxLen) :
    Calls Tryd.prog 35 #[.slice A n c, .int .i64 x] w fun e w' => (∃ z : Int, e = .returned (.int .i64 z) ∧ (z = -1 ∧ x ∉ L ∨ 0 ≤ z ∧ x ∈ L)) ∧ w = w' := by
  unfold maxLen at hm
  have HL := Lib.hid hl
  clear hl
  go_enter Tryd.func35, Tryd.ntmps35
  go_wp2
  go_loop [8] (fun i => ∃ k : Nat, k ≤ n ∧ i = .int .i64 k ∧ x ∉ L.take k) (fun i => n - (intOf i).toNat)
  case atStart => exact ⟨0, Nat.zero_le _, rfl, by simp⟩
  case round =>
    obtain ⟨k, hk, rfl, hno⟩ := hrel
    have HNO := Lib.hid hno
    clear hno
    by_cases hlt : k < n
    · obtain ⟨ad, y, rfl, hbl, hd, hcell⟩ := hx.at_ (k := k) (by rw [HL.out]; exact hlt)
      have HY := Lib.hid hd
      clear hd
      by_cases hxy : x = y
      · subst hxy
        go_wp2
        go_ret
        exact ⟨⟨_, rfl, .inr ⟨by omega, List.mem_of_getElem? HY.out⟩⟩, rfl⟩
      · have hb : (x == y) = false := by simp [hxy]
        have hb2 : (y == x) = false := by simp [Ne.symm hxy]
        have HXY := Lib.hid hxy
        clear hxy
        go_wp2
        go_round
        case rel =>
          refine ⟨k + 1, by omega, by go_num, fun h => ?_⟩
          rw [List.take_add_one, HY.out, Option.toList_some, List.mem_append] at h
          rcases h with h | h
          · exact HNO.out h
          · exact HXY.out (by simpa using h)
        case measure => (simp [intOf]; omega)
    · go_wp2
      go_ret
      have h := HNO.out
      rw [List.take_of_length_le (by rw [HL.out]; omega)] at h
      exact ⟨⟨_, rfl, .inl ⟨rfl, h⟩⟩, rfl⟩

set_option maxHeartbeats 1000000 in
theorem hasZ_any (A : Option Addr) (n c : Nat) (L : List Int) (x : Int) (B : Nat) (w : World) (hx : RdI w B A L) (hl : L.length = n) (hm : n ≤ maxLen) :
    Calls Tryd.prog 31 #[.slice A n c, .int .i64 x] w fun e w' => e = .returned (.bool (decide (x ∈ L))) ∧ w = w' := by
  have HI := Lib.hid (ixZ_any A n c L x B w hx hl hm)
  clear hx hl
  go_enter Tryd.func31, Tryd.ntmps31
  go_wp2_with fail
  refine HI.out.mono ?_
  rintro e w1 ⟨⟨z, rfl, hz⟩, rfl⟩
  rcases hz with ⟨rfl, hn⟩ | ⟨h0, hy⟩
  · have HN := Lib.hid hn
    clear hn
    go_wp2
    go_ret
    exact ⟨ret_bool (by simp [HN.out]), rfl⟩
  · have HN := Lib.hid hy
    clear hy
    go_wp2
    go_ret
    exact ⟨ret_bool (by simp [HN.out, h0]), rfl⟩

end Go.Proofs.YthmcigdoaededaaDoor
