/-
  The reference's Size, Cliques and codemasonkeep's most, degree return what they say (O1, O2).
-/
import Derived.Test.YthmcigdoaededaaDoorColorRef
import Derived.Test.YthmcigdoaededaaDoorMBase
namespace Go.Proofs.YthmcigdoaededaaDoor
open Go.RowKit
set_option linter.unusedSimpArgs false
set_option linter.unusedVariables false
set_option maxRecDepth 100000

theorem bitB_32 (W : Nat) {j : Nat} (h : j < 32) : bitB W (j : Int) = W.testBit j := by
  unfold bitB
  rw [decide_eq_true (by omega)]
  simp

theorem szW_le (W : Nat) (n : Nat) : szW W n ≤ n := by rw [szW_cnt]; exact cntN_le _ _

theorem szW_more {W n : Nat} (hW : W < 2 ^ n) : ∀ d, szW W (n + d) = szW W n
  | 0 => rfl
  | d + 1 => by
    show szW W (n + d) + (if W.testBit (n + d) = true then 1 else 0) = _
    rw [szW_more hW d, Nat.testBit_lt_two_pow (Nat.lt_of_lt_of_le hW (Nat.pow_le_pow_right (by omega) (by omega)))]
    rfl

theorem szW_32 {W n : Nat} (hW : W < 2 ^ n) (hn : n ≤ 32) : szW W 32 = szW W n := by
  have := szW_more hW (32 - n)
  rwa [show n + (32 - n) = 32 by omega] at this

set_option maxHeartbeats 1000000 in
theorem sizeC_any (W : Nat) (w : World) (hW : W < 4294967296) :
    Calls Tryd.prog 16 #[.int .u32 (W : Nat)] w fun e w' => e = .returned (.int .i64 (szW W 32 : Nat)) ∧ w = w' := by
  go_enter Tryd.func16, Tryd.ntmps16
  go_wp2
  go_loop [3, 4] (fun s i => ∃ k : Nat, k ≤ 32 ∧ i = .int .i64 k ∧ s = .int .i64 (szW W k : Nat)) (fun _ i => 32 - (intOf i).toNat)
  case atStart => exact ⟨0, by omega, rfl, rfl⟩
  case round =>
    obtain ⟨k, hk, rfl, rfl⟩ := hrel
    by_cases hlt : k < 32
    · have hb := bitB_32 W hlt
      have hm := szW_le W k
      have hs : szW W (k + 1) = szW W k + (if W.testBit k = true then 1 else 0) := rfl
      obtain ⟨m, hmm⟩ : ∃ m, szW W k = m := ⟨_, rfl⟩
      rw [hmm] at hs hm ⊢
      clear hmm
      cases ht : W.testBit k with
      | true =>
        rw [ht] at hb hs
        rw [if_pos rfl] at hs
        have HS := Lib.hid hs
        clear hs ht
        go_wp2_with (go_at_call 30; (with_reducible refine (bit_any W _ _ hW).mono ?_); rw [hb]; rintro e w5 ⟨rfl, rfl⟩)
        go_round
        case rel => exact ⟨k + 1, by omega, by go_num, by rw [HS.out]; go_num⟩
        case measure => (simp [intOf]; omega)
      | false =>
        rw [ht] at hb hs
        rw [if_neg (by simp)] at hs
        have HS := Lib.hid hs
        clear hs ht
        go_wp2_with (go_at_call 30; (with_reducible refine (bit_any W _ _ hW).mono ?_); rw [hb]; rintro e w5 ⟨rfl, rfl⟩)
        go_round
        case rel => exact ⟨k + 1, by omega, by go_num, by rw [HS.out]; simp⟩
        case measure => (simp [intOf]; omega)
    · have hk32 : k = 32 := by omega
      subst hk32
      go_wp2
      go_ret
      exact ⟨rfl, rfl⟩

def clqB (n : Nat) (ad : Nat → Nat → Bool) (W : Nat) : Bool := (List.range n).all fun i => (List.range i).all fun j => !(W.testBit i && W.testBit j) || ad i j

theorem clqB_of {n : Nat} {ad : Nat → Nat → Bool} {W : Nat} (h : ∀ i j, j < i → i < n → W.testBit i = true → W.testBit j = true → ad i j = true) : clqB n ad W = true := by
  unfold clqB
  rw [List.all_eq_true]
  intro i hi
  rw [List.all_eq_true]
  intro j hj
  have hi := List.mem_range.1 hi
  have hj := List.mem_range.1 hj
  cases h1 : W.testBit i with
  | false => rfl
  | true =>
    cases h2 : W.testBit j with
    | false => rfl
    | true => rw [h i j hj hi h1 h2]; rfl

theorem clqB_to {n : Nat} {ad : Nat → Nat → Bool} {W : Nat} (h : clqB n ad W = true) (i j : Nat) (hj : j < i) (hi : i < n) (h1 : W.testBit i = true) (h2 : W.testBit j = true) : ad i j = true := by
  unfold clqB at h
  rw [List.all_eq_true] at h
  have h3 := h i (List.mem_range.2 hi)
  rw [List.all_eq_true] at h3
  have h4 := h3 j (List.mem_range.2 hj)
  rw [h1, h2] at h4
  simpa using h4

theorem clqB_no {n : Nat} {ad : Nat → Nat → Bool} {W i j : Nat} (hj : j < i) (hi : i < n) (h1 : W.testBit i = true) (h2 : W.testBit j = true) (h3 : ad i j = false) : clqB n ad W = false := by
  rw [Bool.eq_false_iff]
  intro h
  rw [clqB_to h i j hj hi h1 h2] at h3
  cases h3

theorem clqB_iff {n : Nat} {ad : Nat → Nat → Bool} (hg : Gr ad) {W : Nat} : clqB n ad W = true ↔ ClqW n ad W := by
  constructor
  · intro h i j hi hj h1 h2 hne
    rcases Nat.lt_trichotomy i j with h3 | h3 | h3
    · exact hg.symm _ _ (clqB_to h j i h3 hj h2 h1)
    · exact absurd h3 hne
    · exact clqB_to h i j h3 hi h1 h2
  · exact fun h => clqB_of fun i j hj hi h1 h2 => h i j hi (by omega) h1 h2 (by omega)

set_option maxHeartbeats 1000000 in
theorem most_any (A : Option Addr) (len cap : Nat) (l : List Nat) (B : Nat) (w : World) (hx : RdI w B A (ni l)) (hl : l.length = len) (hm : len ≤ 65536) (hv : ∀ x ∈ l, x ≤ 65536) :
    Calls Tryd.prog 13 #[.slice A len cap] w fun e w' => e = .returned (.int .i64 (mst l : Nat)) ∧ w = w' := by
  have HL := Lib.hid hl
  have HV := Lib.hid hv
  have HNL : Hid ((ni l).length = len) := Lib.hid (by simp [ni, hl])
  clear hl hv
  go_enter Tryd.func13, Tryd.ntmps13
  go_wp2
  go_loop [3, 8] (fun s i => ∃ k m : Nat, k ≤ len ∧ m ≤ 65537 ∧ i = .int .i64 k ∧ s = .int .i64 (m : Nat) ∧ Hid (mst (l.take k) = m)) (fun _ i => len - (intOf i).toNat)
  case atStart => exact ⟨0, 0, Nat.zero_le _, by omega, rfl, rfl, Lib.hid rfl⟩
  case round =>
    obtain ⟨k, m, hk, hm7, rfl, rfl, HR⟩ := hrel
    by_cases hlt : k < len
    · obtain ⟨ad, y', rfl, hbl, hd, hcell⟩ := hx.at_ (k := k) (by rw [HNL.out]; exact hlt)
      obtain ⟨y, hy⟩ : ∃ y, l[k]? = some y := ⟨_, List.getElem?_eq_getElem (by rw [HL.out]; exact hlt)⟩
      rw [ni_at hy] at hd
      injection hd with hd
      subst hd
      have HS := Lib.hid (mst_take hy)
      have hy6 := HV.out y (List.mem_of_getElem? hy)
      clear hy
      by_cases hg : m < y + 1
      · have hb1 : (m : Int) < (y : Int) + 1 := by omega
        have HE : Hid (mst (l.take (k + 1)) = y + 1) := Lib.hid (by rw [HS.out, HR.out, if_pos hg])
        clear hg
        go_wp2
        go_round
        case rel => exact ⟨k + 1, y + 1, by omega, by omega, by go_num, by go_num, HE⟩
        case measure => (simp [intOf]; omega)
      · have hb1 : ¬ (m : Int) < (y : Int) + 1 := by omega
        have HE : Hid (mst (l.take (k + 1)) = m) := Lib.hid (by rw [HS.out, HR.out, if_neg hg])
        clear hg
        go_wp2
        go_round
        case rel => exact ⟨k + 1, m, by omega, by omega, by go_num, rfl, HE⟩
        case measure => (simp [intOf]; omega)
    · have HE : Hid (mst l = m) := Lib.hid (by
        have h := HR.out
        rwa [List.take_of_length_le (by rw [HL.out]; omega)] at h)
      go_wp2
      go_ret
      exact ⟨ret_int (by rw [HE.out]), rfl⟩

set_option maxHeartbeats 2000000 in
theorem degree_any (n : Nat) (A : Option Addr) (len cap : Nat) (ps : List (Nat × Nat)) (i : Nat) (w : World) (hx : RdM w w.heap.size A (mvI ps)) (hl : ps.length = len) (hm : len ≤ 65536) (hn : n ≤ 8) :
    Calls Tryd.prog 12 #[.int .i64 n, .slice A len cap, .int .i64 i] w fun e w' => e = .returned (.int .i64 (dgN n (clP ps) i : Nat)) ∧ Below w.heap.size w w' := by
  have HCL : Hid (∀ (j : Nat) (w1 : World), Below w.heap.size w w1 → Calls Tryd.prog 9 #[.slice A len cap, .int .i64 (i : Int), .int .i64 (j : Int)] w1 fun e w' => e = .returned (.bool (clP ps i j)) ∧ Below w1.heap.size w1 w') := Lib.hid fun j w1 hb1 => clash_any A len cap ps i j w1 ((hx.below hb1 (Nat.le_refl _)).more hb1.size) hl hm
  clear hx hl hm
  go_enter Tryd.func12, Tryd.ntmps12
  go_wp2
  go_loopw [7, 8] (fun s t wr => ∃ k m : Nat, k ≤ n ∧ m ≤ k ∧ t = .int .i64 k ∧ s = .int .i64 (m : Nat) ∧ Below w.heap.size w wr ∧ Hid (cntN k (clP ps i) = m)) (fun _ t _ => n - (intOf t).toNat)
  case atStart => exact ⟨0, 0, Nat.zero_le _, Nat.le_refl _, rfl, rfl, Below.refl _ _, Lib.hid rfl⟩
  case round =>
    obtain ⟨k, m, hk, hmk, rfl, rfl, hb, HR⟩ := hrel
    have hsz := hb.size
    by_cases hlt : k < n
    · have HC := Lib.hid (HCL.out k wr hb)
      have HS : Hid (cntN (k + 1) (clP ps i) = m + (if clP ps i k then 1 else 0)) := Lib.hid (by rw [← HR.out]; rfl)
      obtain ⟨cl, hcl⟩ : ∃ cl, clP ps i k = cl := ⟨_, rfl⟩
      rw [hcl] at HC HS
      clear hcl
      cases cl
      · have HE : Hid (cntN (k + 1) (clP ps i) = m) := Lib.hid (by rw [HS.out]; rfl)
        go_wp2_with (go_at_call 9; (with_reducible refine HC.out.mono ?_); rintro e w5 ⟨rfl, hb5⟩)
        go_round
        case rel => exact ⟨k + 1, m, by omega, by omega, by go_num, rfl, hb.trans (hb5.mono hsz), HE⟩
        case measure => (simp [intOf]; omega)
      · have HE : Hid (cntN (k + 1) (clP ps i) = m + 1) := Lib.hid (by rw [HS.out]; rfl)
        go_wp2_with (go_at_call 9; (with_reducible refine HC.out.mono ?_); rintro e w5 ⟨rfl, hb5⟩)
        go_round
        case rel => exact ⟨k + 1, m + 1, by omega, by omega, by go_num, by go_num, hb.trans (hb5.mono hsz), HE⟩
        case measure => (simp [intOf]; omega)
    · have hkn : k = n := by omega
      subst hkn
      have HE : Hid (dgN k (clP ps) i = m) := Lib.hid HR.out
      go_wp2
      go_ret
      exact ⟨ret_int (by rw [HE.out]), hb⟩

end Go.Proofs.YthmcigdoaededaaDoor
