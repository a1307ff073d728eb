/-
  slices.Index at words, rule.Tree (F1).
-/
import Derived.Test.YtikbblbehopcdaaRuleTab
namespace Go.Proofs.Ytikbblbehopcdaa
open Go.RowKit
set_option linter.unusedSimpArgs false
set_option linter.unusedVariables false
set_option maxRecDepth 100000

set_option maxHeartbeats 1000000 in
theorem indexU_any (A : Option Addr) (n c : Nat) (L : List Nat) (x B : Nat) (w : World) (hx : RdU w B A L) (hl : L.length = n) (hm : n ≤ 65536) :
    Calls Try.prog 52 #[.slice A n c, .int .u32 (x : Nat)] w fun e w' => e = .returned (.int .i64 (idxL L x)) ∧ w = w' := by
  have HL := Lib.hid hl
  clear hl
  go_enter Try.func52, Try.ntmps52
  go_wp2
  go_loop [8] (fun i => ∃ k : Nat, k ≤ n ∧ i = .int .i64 k ∧ x ∉ L.take k) (fun i => n - (intOf i).toNat)
  case atStart => exact ⟨0, Nat.zero_le _, rfl, by simp⟩
  case round =>
    obtain ⟨k, hk, rfl, hno⟩ := hrel
    have HNO := Lib.hid hno
    clear hno
    by_cases hlt : k < n
    · obtain ⟨ad, y, rfl, hbl, hy, hcell⟩ := hx.at_ (k := k) (by rw [HL.out]; exact hlt)
      have HY := Lib.hid hy
      clear hy
      by_cases hxy : x = y
      · subst hxy
        go_wp2
        go_ret
        refine ⟨ret_int ?_, rfl⟩
        unfold idxL
        rw [if_pos (List.mem_of_getElem? HY.out), posL_first HNO.out HY.out]
      · have hb : ((x : Int) == (y : Int)) = false := by simp; omega
        have HXY := Lib.hid hxy
        clear hxy
        go_wp2
        go_round
        case rel =>
          refine ⟨k + 1, by omega, by go_num, fun h => ?_⟩
          rw [List.take_add_one, HY.out, Option.toList_some, List.mem_append] at h
          rcases h with h | h
          · exact HNO.out h
          · exact HXY.out (by simpa using h)
        case measure => (simp [intOf]; omega)
    · go_wp2
      go_ret
      refine ⟨ret_int ?_, rfl⟩
      unfold idxL
      have := HNO.out
      rw [List.take_of_length_le (by rw [HL.out]; omega)] at this
      rw [if_neg this]

theorem without_bit {W i : Nat} (hW : W < 256) (hi : i < 32) (k : Nat) : (W &&& (4294967295 - 2 ^ i)).testBit k = true ↔ W.testBit k = true ∧ k ≠ i := by
  have hp := pow_lt_32 hi
  rw [Nat.testBit_and, Bool.and_eq_true, show 4294967295 - 2 ^ i = 2 ^ 32 - (2 ^ i + 1) by omega, Nat.testBit_two_pow_sub_succ (by omega), Bool.and_eq_true, decide_eq_true_eq, Bool.not_eq_true', Nat.testBit_two_pow]
  constructor
  · rintro ⟨h1, _, h2⟩
    exact ⟨h1, fun e => by simp [e] at h2⟩
  · rintro ⟨h1, h2⟩
    refine ⟨h1, ?_, by simp; omega⟩
    refine Classical.byContradiction fun hn => ?_
    rw [Nat.testBit_lt_two_pow (Nat.lt_of_lt_of_le hW (show 2 ^ 8 ≤ 2 ^ k from Nat.pow_le_pow_right (by omega) (by omega)))] at h1
    cases h1

section
variable {nx : List (List Int)} {ws : List Nat}

theorem Tbl.zero_iff (h : Tbl nx ws) {i W : Nat} (hW : ws[i]? = some W) : W = 0 ↔ ¬ Rea nx (-1) 0 i := by
  constructor
  · rintro rfl hr
    have := (h.mem i 0 hW i).2 (Dom.me hr)
    simp at this
  · intro hn
    apply Nat.eq_of_testBit_eq
    intro j
    cases hb : W.testBit j with
    | false => simp
    | true => exact absurd ((h.mem i W hW j).1 hb).2.1 hn

theorem Tbl.tree (hc : ckWay nx = 0) (h : Tbl nx ws) {i W : Nat} (hW : ws[i]? = some W) (h0 : W ≠ 0) (hi : 0 < i) : ∃ j : Nat, TreeAt nx i (j : Int) ∧ idxL ws (W &&& (4294967295 - 2 ^ i)) = (j : Int) := by
  have hb := ckWay_bd hc
  have hr : Rea nx (-1) 0 i := Classical.byContradiction fun hn => h0 ((h.zero_iff hW).2 hn)
  obtain ⟨j, hj⟩ := idom_is hc hr (by omega)
  have hil := hr.lt hc (by omega)
  have hjl := (hj.2.1.lt hc).1
  have hV : ws[j]? = some (ws[j]'(by rw [h.len]; exact hjl)) := List.getElem?_eq_getElem _
  generalize ws[j]'(by rw [h.len]; exact hjl) = V at hV
  have hX := idom_set h.mem hj hW hV (W &&& (4294967295 - 2 ^ i)) (without_bit (h.lt i W hW) (by omega))
  refine ⟨j, .inl ⟨j, rfl, hj⟩, ?_⟩
  rw [hX]
  unfold idxL
  rw [if_pos (List.mem_of_getElem? hV), posL_first (k := j) (fun hm => ?_) hV]
  obtain ⟨p, hp, e⟩ := List.getElem_of_mem hm
  have hpl : p < j := by rw [List.length_take] at hp; omega
  have hpe : ws[p]? = some V := by
    rw [List.getElem_take] at e
    rw [List.getElem?_eq_getElem (by rw [List.length_take] at hp; omega), e]
  have := set_one h.mem hj.2.1.1 hpe hV
  omega

theorem Tbl.none (h : Tbl nx ws) {i W : Nat} (hW : ws[i]? = some W) (hn : i = 0 ∨ W = 0) : TreeAt nx i (-1) := by
  refine .inr ⟨rfl, fun j hj => ?_⟩
  rcases hn with rfl | rfl
  · exact no_idom_zero j hj
  · exact (h.zero_iff hW).1 rfl hj.2.1.2.1

end

set_option maxHeartbeats 4000000 in
theorem ruleTree_any (A : Option Addr) (len cap : Nat) (nx : List (List Int)) (w : World) (hx : RdG w w.heap.size A nx) (hl : nx.length = len) (hc : ckWay nx = 0) :
    Calls Try.prog 38 #[.slice A len cap] w fun e w' => ∃ ts A' c', Tre nx ts ∧ e = .returned (.tuple #[.slice A' len c', .int .i64 0]) ∧ RdI w' w'.heap.size A' ts ∧ Below w.heap.size w w' := by
  obtain ⟨b1, b2, b3⟩ := ckWay_bd hc
  have HC := Lib.hid hc
  have HL := Lib.hid hl
  rw [hl] at b1 b2
  have hmk := make_ints (P := Try.prog) 30 3 Try.underlying30 (by kernel_rfl) len (by omega)
  clear hl hc b3
  go_enter Try.func38, Try.ntmps38
  go_wp2_with fail
  refine (ruleTable_any A len cap nx _ hx HL.out HC.out).mono ?_
  rintro e wo ⟨ws, A2, c2, htb, rfl, hrd, hb1⟩
  have hwl := htb.len
  rw [HL.out] at hwl
  have HWL := Lib.hid hwl
  have HTB := Lib.hid htb
  have hs1 := hb1.size
  clear htb hwl
  go_wp2_with fail
  have hown1 := Own.new wo 3 (iv (List.replicate len 0))
  go_loopw [22] (fun z wr => ∃ (k : Nat) (ts : List Int), k ≤ len ∧ z = .int .i64 k ∧ ts.length = len ∧ (∀ i, i < k → ∃ t, ts[i]? = some t ∧ TreeAt nx i t) ∧ Own wr wo.heap.size 3 (iv ts) ∧ Below wo.heap.size wo wr) (fun z _ => len - (intOf z).toNat)
  case atStart => exact ⟨0, _, Nat.zero_le _, rfl, by simp, fun i hi => by omega, hown1, by go_grown⟩
  case round =>
    obtain ⟨k, ts, hk, rfl, htl, hts, hown, hb⟩ := hrel
    have HTL := Lib.hid htl
    have HTS := Lib.hid hts
    have hgl := hown.lt
    clear htl hts
    by_cases hlt : k < len
    · have hrd2 := hrd.below hb (Nat.le_refl _)
      obtain ⟨ad, W, rfl, hbl, hd, hcell⟩ := hrd2.at_ (k := k) (by rw [HWL.out]; exact hlt)
      have hW := HTB.out.lt k W hd
      have HD := Lib.hid hd
      obtain ⟨x0, hx0⟩ : ∃ x0, ts[k]? = some x0 := ⟨_, List.getElem?_eq_getElem (by rw [HTL.out]; exact hlt)⟩
      have hcl := hown.cell (iv_at hx0)
      have hfr := hown.frozen k
      have hown2 := OwnI.set hown k (-1)
      have hb2 := hb.setCell (show wo.heap.size ≤ (⟨wo.heap.size, k, none⟩ : Addr).block from Nat.le_refl _) (.int .i64 (-1))
      have HOW := Lib.hid hown2
      have HSET : Hid (∀ t : Int, TreeAt nx k t → ∀ i, i < k + 1 → ∃ u, (ts.set k t)[i]? = some u ∧ TreeAt nx i u) := Lib.hid fun t ht i hi => by
        by_cases e : i = k
        · subst e
          exact ⟨t, List.getElem?_set_self (by rw [HTL.out]; exact hlt), ht⟩
        · rw [List.getElem?_set_ne (fun h => e h.symm)]
          exact HTS.out i (by omega)
      clear hd hx0 hown
      by_cases h0 : k = 0
      · have HT := Lib.hid (HTB.out.none HD.out (.inl h0))
        have hn0 : ¬ (0 : Int) < (k : Int) := by omega
        clear h0
        go_wp2_with fail
        go_round
        case rel => exact ⟨k + 1, ts.set k (-1), by omega, by go_num, by rw [List.length_set]; exact HTL.out, HSET.out _ HT.out, HOW.out, hb2⟩
        case measure => (simp [intOf]; omega)
      · have hk0 : 0 < k := by omega
        by_cases hW0 : W = 0
        · subst hW0
          have HT := Lib.hid (HTB.out.none HD.out (.inr rfl))
          go_wp2_with fail
          go_round
          case rel => exact ⟨k + 1, ts.set k (-1), by omega, by go_num, by rw [List.length_set]; exact HTL.out, HSET.out _ HT.out, HOW.out, hb2⟩
          case measure => (simp [intOf]; omega)
        · obtain ⟨j, hj1, hj2⟩ := HTB.out.tree HC.out HD.out hW0 hk0
          have hWn : (((W : Nat) : Int) != 0) = true := by simp; omega
          have HJ1 := Lib.hid hj1
          have HJ2 := Lib.hid hj2
          have hk32 : k < 32 := by omega
          have hcl2 := hown2.cell (j := k) (iv_at (List.getElem?_set_self (by rw [HTL.out]; exact hlt)))
          have hfr2 := hown2.frozen k
          have hand : bits .andNot .u32 ((W : Nat) : Int) ((2 : Int) ^ k % 4294967296) = ((W &&& (4294967295 - 2 ^ k) : Nat) : Int) := by
            rw [pow_u32' hk32]
            exact u32_andNot_nat _ _ (by omega) (pow_lt_32 hk32)
          have hrd3 := hrd.below hb2 (Nat.le_refl _)
          have HOW3 := Lib.hid (OwnI.set hown2 k (j : Int))
          generalize W &&& (4294967295 - 2 ^ k) = X at *
          clear hj1 hj2 hW0 h0
          go_wp2_with (go_at_call 52; (with_reducible refine (indexU_any _ len c2 ws X _ _ hrd3 HWL.out (by omega)).mono ?_); rw [HJ2.out]; rintro e w5 ⟨rfl, rfl⟩)
          go_round
          case rel =>
            refine ⟨k + 1, ts.set k (j : Int), by omega, by go_num, by rw [List.length_set]; exact HTL.out, HSET.out _ HJ1.out, ?_, ?_⟩
            · have := HOW3.out
              rw [List.set_set] at this
              exact this
            · exact hb2.setCell (show wo.heap.size ≤ (⟨wo.heap.size, k, none⟩ : Addr).block from Nat.le_refl _) _
          case measure => (simp [intOf]; omega)
    · have hkl : len = k := by omega
      subst hkl
      have HT : Hid (Tre nx ts) := Lib.hid ⟨by rw [HTL.out, HL.out], fun i t ht => by
        obtain ⟨u, hu, h2⟩ := HTS.out i (by rw [← HTL.out]; exact (List.getElem?_eq_some_iff.1 ht).1)
        rw [ht] at hu
        injection hu with hu
        subst hu
        exact h2⟩
      have HRD := Lib.hid ((OwnI.rd hown).more hown.lt)
      clear hown
      go_wp2
      go_ret2
      exact ⟨ts, _, _, HT.out, rfl, HRD.out, hb1.trans (hb.mono hs1)⟩

theorem ruleTree_bad (A : Option Addr) (len cap : Nat) (nx : List (List Int)) (w : World) (hx : RdG w w.heap.size A nx) (hl : nx.length = len) (hm : len ≤ maxLen) (hc : ckWay nx ≠ 0) :
    Calls Try.prog 38 #[.slice A len cap] w fun e w' => ∃ A' c', e = .returned (.tuple #[.slice A' 0 c', .int .i64 (ckWay nx)]) ∧ Below w.heap.size w w' := by
  have HC := Lib.hid hc
  have hne : (ckWay nx != 0) = true := by simp [hc]
  clear hc
  go_enter Try.func38, Try.ntmps38
  go_wp2_with fail
  refine (ruleTable_bad A len cap nx _ hx hl hm HC.out).mono ?_
  rintro e w1 ⟨A1, c1, rfl, hb1⟩
  go_wp2
  go_ret2
  exact ⟨none, 0, rfl, hb1⟩

end Go.Proofs.Ytikbblbehopcdaa
