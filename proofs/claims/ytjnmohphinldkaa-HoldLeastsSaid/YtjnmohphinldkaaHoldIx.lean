/-
  slices.Index over ints to the place; hold.nextUse, hold.lastUse (P1).
-/
import Derived.Test.YtjnmohphinldkaaContainsZ
import Derived.Test.YtjnmohphinldkaaPureHoldP
namespace Go.Proofs.Ytjnmohphinldkaa
open Go.RowKit
set_option linter.unusedSimpArgs false
set_option linter.unusedVariables false
set_option maxRecDepth 100000

/-- where x is; -1: nowhere -/
def ixI (x : Int) (L : List Int) : Int := if x ∈ L then (nxtA x L : Nat) else -1

theorem ixI_in {x : Int} {L : List Int} (h : x ∈ L) : ixI x L = (nxtA x L : Nat) := if_pos h

theorem ixI_out {x : Int} {L : List Int} (h : x ∉ L) : ixI x L = -1 := if_neg h

theorem nxt_first : ∀ {L : List Int} {x : Int} {k : Nat}, L[k]? = some x → x ∉ L.take k → nxtA x L = k
  | [], _, _, h, _ => by simp at h
  | y :: t, x, 0, h, _ => by
    have : y = x := by simpa using h
    rw [nxtA, if_pos this]
  | y :: t, x, k + 1, h, hn => by
    rw [List.take_succ_cons, List.mem_cons, not_or] at hn
    rw [nxtA, if_neg (fun e => hn.1 e.symm), nxt_first (by simpa using h) hn.2]

set_option maxHeartbeats 1000000 in
theorem ixN_any (A : Option Addr) (n c : Nat) (L : List Int) (x : Int) (B : Nat) (w : World) (hx : RdI w B A L) (hl : L.length = n) (hm : n ≤ maxLen) :
    Calls Try.prog 33 #[.slice A n c, .int .i64 x] w fun e w' => e = .returned (.int .i64 (ixI x L)) ∧ w = w' := by
  unfold maxLen at hm
  have HL := Lib.hid hl
  clear hl
  go_enter Try.func33, Try.ntmps33
  go_wp2
  go_loop [8] (fun i => ∃ k : Nat, k ≤ n ∧ i = .int .i64 k ∧ x ∉ L.take k) (fun i => n - (intOf i).toNat)
  case atStart => exact ⟨0, Nat.zero_le _, rfl, by simp⟩
  case round =>
    obtain ⟨k, hk, rfl, hno⟩ := hrel
    have HNO := Lib.hid hno
    clear hno
    by_cases hlt : k < n
    · obtain ⟨ad, y, rfl, hbl, hd, hcell⟩ := hx.at_ (k := k) (by rw [HL.out]; exact hlt)
      have HY := Lib.hid hd
      clear hd
      by_cases hxy : x = y
      · subst hxy
        go_wp2
        go_ret
        exact ⟨by rw [ixI_in (List.mem_of_getElem? HY.out), nxt_first HY.out HNO.out]; rfl, rfl⟩
      · have hb : (x == y) = false := by simp [hxy]
        have hb2 : (y == x) = false := by simp [Ne.symm hxy]
        have HXY := Lib.hid hxy
        clear hxy
        go_wp2
        go_round
        case rel =>
          refine ⟨k + 1, by omega, by go_num, fun h => ?_⟩
          rw [List.take_add_one, HY.out, Option.toList_some, List.mem_append] at h
          rcases h with h | h
          · exact HNO.out h
          · exact HXY.out (by simpa using h)
        case measure => (simp [intOf]; omega)
    · go_wp2
      go_ret
      have h := HNO.out
      rw [List.take_of_length_le (by rw [HL.out]; omega)] at h
      exact ⟨by rw [ixI_out h]; rfl, rfl⟩

set_option maxHeartbeats 1000000 in
theorem nextUse_any (A : Option Addr) (n c : Nat) (L : List Int) (x : Int) (B : Nat) (w : World) (hx : RdI w B A L) (hl : L.length = n) (hm : n ≤ maxLen) :
    Calls Try.prog 24 #[.slice A n c, .int .i64 x] w fun e w' => e = .returned (.int .i64 (nxtA x L : Nat)) ∧ w = w' := by
  have HI := Lib.hid (ixN_any A n c L x B w hx hl hm)
  have HL := Lib.hid hl
  unfold maxLen at hm
  clear hx hl
  by_cases h : x ∈ L
  · rw [ixI_in h] at HI
    obtain ⟨z, hz⟩ : ∃ z, nxtA x L = z := ⟨_, rfl⟩
    rw [hz] at HI ⊢
    clear hz h
    go_enter Try.func24, Try.ntmps24
    go_wp2_with (go_at_call 33; (with_reducible refine HI.out.mono ?_); rintro e w1 ⟨rfl, rfl⟩)
    go_ret
    exact ⟨rfl, rfl⟩
  · rw [ixI_out h] at HI
    have HN := Lib.hid (nxt_out h)
    clear h
    go_enter Try.func24, Try.ntmps24
    go_wp2_with (go_at_call 33; (with_reducible refine HI.out.mono ?_); rintro e w1 ⟨rfl, rfl⟩)
    go_ret
    exact ⟨by rw [HN.out, HL.out]; rfl, rfl⟩

theorem nxt_rev_out {L : List Int} {x : Int} {k : Nat} (hk : k ≤ L.length) (hn : x ∉ L.drop k) (hx : x ∈ L) : ∃ i, k = i + 1 := by
  cases k with
  | zero => exact absurd hx (by simpa using hn)
  | succ i => exact ⟨i, rfl⟩

theorem nxt_rev {L : List Int} {x : Int} {i : Nat} (h : L[i]? = some x) (hn : x ∉ L.drop (i + 1)) : i + (nxtA x L.reverse + 1) = L.length := by
  have hi := (List.getElem?_eq_some_iff.1 h).1
  have h1 : L.reverse[L.length - 1 - i]? = some x := by rw [List.getElem?_reverse (by omega), show L.length - 1 - (L.length - 1 - i) = i by omega]; exact h
  have h2 : x ∉ L.reverse.take (L.length - 1 - i) := by
    rw [List.take_reverse, List.mem_reverse, show L.length - (L.length - 1 - i) = i + 1 by omega]
    exact hn
  rw [nxt_first h1 h2]
  omega

set_option maxHeartbeats 1000000 in
theorem lastUse_any (A : Option Addr) (n c : Nat) (L : List Int) (x : Int) (B : Nat) (w : World) (hx : RdI w B A L) (hl : L.length = n) (hm : n ≤ maxLen) (hin : x ∈ L) :
    Calls Try.prog 30 #[.slice A n c, .int .i64 x] w fun e w' => (∃ i : Nat, e = .returned (.int .i64 i) ∧ i + (nxtA x L.reverse + 1) = n) ∧ w = w' := by
  unfold maxLen at hm
  have HL := Lib.hid hl
  have HIN := Lib.hid hin
  clear hl hin
  go_enter Try.func30, Try.ntmps30
  go_wp2
  go_loop [5] (fun i => ∃ k : Nat, k ≤ n ∧ i = .int .i64 ((k : Int) - 1) ∧ x ∉ L.drop k) (fun i => (intOf i + 1).toNat)
  case atStart => exact ⟨n, Nat.le_refl _, rfl, by rw [List.drop_eq_nil_of_le (by rw [HL.out]; exact Nat.le_refl _)]; simp⟩
  case round =>
    obtain ⟨k, hk, rfl, hno⟩ := hrel
    obtain ⟨i, rfl⟩ := nxt_rev_out (by rw [HL.out]; exact hk) hno HIN.out
    have HNO := Lib.hid hno
    clear hno
    have hlt : i < n := by omega
    have hei : ((i + 1 : Nat) : Int) - 1 = (i : Int) := by omega
    rw [hei]
    clear hei
    obtain ⟨ad, y, rfl, hbl, hd, hcell⟩ := hx.at_ (k := i) (by rw [HL.out]; exact hlt)
    have HY := Lib.hid hd
    clear hd
    by_cases hxy : y = x
    · subst hxy
      go_wp2
      go_ret
      exact ⟨⟨i, rfl, by rw [← HL.out]; exact nxt_rev HY.out HNO.out⟩, rfl⟩
    · have hb : (y == x) = false := by simp [hxy]
      have hb2 : (y != x) = true := by simp [hxy]
      have HXY := Lib.hid hxy
      clear hxy
      go_wp2
      go_round
      case rel =>
        refine ⟨i, by omega, by go_num, fun h => ?_⟩
        rw [drop_ref HY.out] at h
        rcases List.mem_cons.1 h with e | h
        · exact HXY.out e.symm
        · exact HNO.out h
      case measure => (simp only [intOf]; omega)

end Go.Proofs.Ytjnmohphinldkaa
