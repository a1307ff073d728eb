/-
  codemasonref.Ints, Lists: are two lists the same?
-/
import Derived.Test.YtdckagledddkdaaMBase
import Derived.BigQuiet
import Derived.Deep.RegionWith
namespace Go.Proofs.Ytdckagledddkdaa
open Go.RowKit
set_option linter.unusedSimpArgs false
set_option linter.unusedVariables false
set_option maxRecDepth 100000

theorem below_drewNI {B : Nat} {X Y : World} (h : Below B X Y) (q : Nat) : Below B X (Y.drewN q) := ⟨h.os, h.tape, h.output, h.size, h.block⟩

set_option maxHeartbeats 2000000 in
theorem ints_any (A B : Option Addr) (n m ca cb : Nat) (xs ys : List Int) (w : World) (hx : RdI w w.heap.size A xs) (hy : RdI w w.heap.size B ys) (hl : xs.length = n) (hl' : ys.length = m) (hm : n ≤ maxLen) (hm' : m ≤ maxLen) :
    Calls Try.prog 20 #[.slice A n ca, .slice B m cb] w fun e w' => e = .returned (.bool (decide (xs = ys))) ∧ Below w.heap.size w w' := by
  unfold maxLen at hm hm'
  by_cases hnm : n = m
  · subst hnm
    have HL := Lib.hid hl
    have HL' := Lib.hid hl'
    clear hl hl'
    go_enter Try.func20, Try.ntmps20
    go_wp2
    go_loopw [5] (fun i wr => ∃ k : Nat, k ≤ n ∧ i = .int .i64 k ∧ xs.take k = ys.take k ∧ Below w.heap.size w wr) (fun i _ => n - (intOf i).toNat)
    case atStart => exact ⟨0, Nat.zero_le _, rfl, rfl, Below.refl _ _⟩
    case round =>
      obtain ⟨k, hk, rfl, hpre, hb⟩ := hrel
      have HPRE := Lib.hid hpre
      have hsz := hb.size
      clear hpre
      by_cases hlt : k < n
      · obtain ⟨ad, x, rfl, hbl, hd, hcx⟩ := (hx.below hb (Nat.le_refl _)).at_ (k := k) (by rw [HL.out]; exact hlt)
        obtain ⟨ad2, y, rfl, hbl2, hd2, hcy⟩ := (hy.below hb (Nat.le_refl _)).at_ (k := k) (by rw [HL'.out]; exact hlt)
        by_cases hxy : x = y
        · subst hxy
          have HNX : Hid (xs.take (k + 1) = ys.take (k + 1)) := Lib.hid (by rw [List.take_add_one, List.take_add_one, hd, hd2, HPRE.out])
          clear hd hd2
          go_wp2
          go_quiet (fail)
          go_wp2
          go_round
          case rel => exact ⟨k + 1, by omega, by go_num, HNX.out, below_drewNI hb _⟩
          case measure => (simp [intOf]; omega)
        · have hne : (x != y) = true := by simp [hxy]
          have HNO : Hid (decide (xs = ys) = false) := Lib.hid (by
            rw [decide_eq_false_iff_not]
            intro h
            rw [h, hd2] at hd
            injection hd with hd
            exact hxy hd.symm)
          clear hd hd2 hxy
          go_wp2
          go_quiet (fail)
          go_wp2
          go_ret
          exact ⟨ret_bool HNO.out.symm, below_drewNI hb _⟩
      · have HYES : Hid (decide (xs = ys) = true) := Lib.hid (by
          rw [decide_eq_true_eq]
          have := HPRE.out
          rwa [List.take_of_length_le (by rw [HL.out]; omega), List.take_of_length_le (by rw [HL'.out]; omega)] at this)
        go_wp2
        go_ret
        exact ⟨ret_bool HYES.out.symm, hb⟩
  · have HNO : Hid (decide (xs = ys) = false) := Lib.hid (by
      rw [decide_eq_false_iff_not]
      intro h
      exact hnm (by rw [← hl, ← hl', h]))
    have hne : ((n : Int) != (m : Int)) = true := by simp; omega
    clear hl hl' hx hy hnm
    go_enter Try.func20, Try.ntmps20
    go_wp2
    go_ret
    exact ⟨ret_bool HNO.out.symm, Below.refl _ _⟩

set_option maxHeartbeats 4000000 in
theorem lists_any (A B : Option Addr) (n ca cb : Nat) (X Y : List (List Int)) (w : World) (hx : RdG w w.heap.size A X) (hy : RdG w w.heap.size B Y) (hl : X.length = n) (hl' : Y.length = n) (hm : n ≤ maxLen) (hrx : ∀ r ∈ X, r.length ≤ maxLen) (hry : ∀ r ∈ Y, r.length ≤ maxLen) :
    Calls Try.prog 10 #[.slice A n ca, .slice B n cb] w fun e w' => e = .returned (.bool (decide (X = Y))) ∧ Below w.heap.size w w' := by
  unfold maxLen at hm
  have HL := Lib.hid hl
  have HL' := Lib.hid hl'
  have HRX := Lib.hid hrx
  have HRY := Lib.hid hry
  clear hl hl' hrx hry
  go_enter Try.func10, Try.ntmps10
  go_wp2
  go_loopw [5] (fun i wr => ∃ k : Nat, k ≤ n ∧ i = .int .i64 k ∧ X.take k = Y.take k ∧ Below w.heap.size w wr) (fun i _ => n - (intOf i).toNat)
  case atStart => exact ⟨0, Nat.zero_le _, rfl, rfl, Below.refl _ _⟩
  case round =>
    obtain ⟨k, hk, rfl, hpre, hb⟩ := hrel
    have HPRE := Lib.hid hpre
    have hsz := hb.size
    clear hpre
    by_cases hlt : k < n
    · obtain ⟨ad, row, Ar, cr, rfl, hbl, hd, hcell, hrow⟩ := (hx.below hb (Nat.le_refl _)).at_ (k := k) (by rw [HL.out]; exact hlt)
      obtain ⟨ad2, row2, Ar2, cr2, rfl, hbl2, hd2, hcell2, hrow2⟩ := (hy.below hb (Nat.le_refl _)).at_ (k := k) (by rw [HL'.out]; exact hlt)
      have hrm := HRX.out row (List.mem_of_getElem? hd)
      have hrm2 := HRY.out row2 (List.mem_of_getElem? hd2)
      have HI := Lib.hid (ints_any Ar Ar2 row.length row2.length cr cr2 row row2 wr.drew (hrow.more hsz) (hrow2.more hsz) rfl rfl hrm hrm2)
      obtain ⟨rl, hrl⟩ : ∃ rl, row.length = rl := ⟨_, rfl⟩
      obtain ⟨rl2, hrl2⟩ : ∃ rl, row2.length = rl := ⟨_, rfl⟩
      rw [hrl] at hcell
      rw [hrl2] at hcell2
      rw [hrl, hrl2] at HI
      by_cases hrr : row = row2
      · have HNX : Hid (X.take (k + 1) = Y.take (k + 1)) := Lib.hid (by rw [List.take_add_one, List.take_add_one, hd, hd2, HPRE.out, hrr])
        rw [decide_eq_true hrr] at HI
        clear hd hd2 hrl hrl2 hrow hrow2 hrm hrm2 hrr
        go_wp2
        go_region_with (go_at_call 20; (with_reducible refine HI.out.mono ?_); rintro e w5 ⟨rfl, hb5⟩)
        all_goals
          go_wp2
          go_round
          case rel => exact ⟨k + 1, by omega, by go_num, HNX.out, hb.drew.trans (hb5.mono hsz)⟩
          case measure => (simp [intOf]; omega)
      · have HNO : Hid (decide (X = Y) = false) := Lib.hid (by
          rw [decide_eq_false_iff_not]
          intro h
          rw [h, hd2] at hd
          injection hd with hd
          exact hrr hd.symm)
        rw [decide_eq_false hrr] at HI
        clear hd hd2 hrl hrl2 hrow hrow2 hrm hrm2 hrr
        go_wp2
        go_region_with (go_at_call 20; (with_reducible refine HI.out.mono ?_); rintro e w5 ⟨rfl, hb5⟩)
        all_goals
          go_wp2
          go_ret
          exact ⟨ret_bool HNO.out.symm, hb.drew.trans (hb5.mono hsz)⟩
    · have HYES : Hid (decide (X = Y) = true) := Lib.hid (by
        rw [decide_eq_true_eq]
        have := HPRE.out
        rwa [List.take_of_length_le (by rw [HL.out]; omega), List.take_of_length_le (by rw [HL'.out]; omega)] at this)
      go_wp2
      go_ret
      exact ⟨ret_bool HYES.out.symm, hb⟩

end Go.Proofs.Ytdckagledddkdaa
