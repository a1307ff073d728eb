/-
  swap.waiting, swap.overwritable, swap.redirect (N1).
-/
import Derived.Test.YtlknmfabfmmggaaSwapMv
import Derived.Test.YtlknmfabfmmggaaContains
import Derived.Deep.RegionWith
import Derived.OwnWalk
namespace Go.Proofs.Ytlknmfabfmmggaa
open Go.RowKit
set_option linter.unusedSimpArgs false
set_option linter.unusedVariables false
set_option maxRecDepth 100000

/-- a table of registers as it lies in memory -/
def TabAt (w : World) (g n : Nat) (F : Nat → Nat) : Prop := Own w g 3 (iv (ni (tabN n F)))

theorem TabAt.cell {w : World} {g n : Nat} {F : Nat → Nat} (h : TabAt w g n F) {k : Nat} (hk : k < n) : w.cell? ⟨g, k, none⟩ = some (.int .i64 (F k : Nat)) := Own.cell h (iv_at (ni_tab_at F hk))

theorem TabAt.rd {w : World} {g n : Nat} {F : Nat → Nat} (h : TabAt w g n F) : RdI w (g + 1) (some ⟨g, 0, none⟩) (ni (tabN n F)) := OwnI.rd h

theorem TabAt.below {w w' : World} {g n B : Nat} {F : Nat → Nat} (h : TabAt w g n F) (hb : Below B w w') (hg : g < B) : TabAt w' g n F := Own.below h hb hg

theorem own_wroteM {g : Nat} {w w' : World} {base : Nat} {e : TypeId} {size : Nat} {v : Value} {n : Nat} {xs : List Value} (h : w.ownsRow base e size v n xs) (hw : Wrote g w w') (hg : g < base) : w'.ownsRow base e size v n xs := by
  refine ⟨h.1, ?_⟩
  rcases h.2 with h2 | ⟨k, cap, cur, h1, h2, h3, h4⟩
  · exact .inl h2
  · have hlt : k < w.heap.size := by
      rcases Nat.lt_or_ge k w.heap.size with hl | hl
      · exact hl
      · rw [Array.getElem?_eq_none hl] at h3; cases h3
    exact .inr ⟨k, cap, cur, h1, h2, (hw.block k hlt (by omega)).trans h3, h4⟩

set_option maxHeartbeats 1000000 in
theorem waiting_any (g n : Nat) (F : Nat → Nat) (w : World) (hn : n ≤ 8) (ht : TabAt w g n F) :
    Calls Try.prog 15 #[.slice (some ⟨g, 0, none⟩) n n] w fun e w' => (∃ z : Int, e = .returned (.int .i64 z) ∧ (z = -1 ∧ (∀ r, r < n → F r = r) ∨ ∃ c : Nat, z = c ∧ c < n ∧ F c ≠ c)) ∧ w = w' := by
  go_enter Try.func15, Try.ntmps15
  go_wp2
  go_loop [7] (fun i => ∃ k : Nat, k ≤ n ∧ i = .int .i64 k ∧ ∀ r, r < k → F r = r) (fun i => n - (intOf i).toNat)
  case atStart => exact ⟨0, Nat.zero_le _, rfl, fun r h => by omega⟩
  case round =>
    obtain ⟨k, hk, rfl, hno⟩ := hrel
    have HNO := Lib.hid hno
    clear hno
    by_cases hlt : k < n
    · have hc := ht.cell hlt
      obtain ⟨f, hf⟩ : ∃ f, F k = f := ⟨_, rfl⟩
      have HF := Lib.hid hf
      rw [hf] at hc
      clear hf
      by_cases he : f = k
      · have hb : ((f : Int) != (k : Int)) = false := by simp [he]
        have HE := Lib.hid he
        clear he
        go_wp2
        go_round
        case rel =>
          refine ⟨k + 1, by omega, by go_num, fun r h => ?_⟩
          rcases Nat.lt_or_ge r k with h1 | h1
          · exact HNO.out r h1
          · have : r = k := by omega
            subst this
            rw [HF.out, HE.out]
        case measure => (simp [intOf]; omega)
      · have hb : ((f : Int) != (k : Int)) = true := by simp; omega
        have HE := Lib.hid he
        clear he
        go_wp2
        go_ret
        exact ⟨⟨_, rfl, .inr ⟨k, rfl, hlt, by rw [HF.out]; exact HE.out⟩⟩, rfl⟩
    · go_wp2
      go_ret
      exact ⟨⟨_, rfl, .inl ⟨rfl, fun r h => HNO.out r (by omega)⟩⟩, rfl⟩

set_option maxHeartbeats 1000000 in
theorem overwritable_any (g n : Nat) (F : Nat → Nat) (w : World) (hn : n ≤ 8) (ht : TabAt w g n F) :
    Calls Try.prog 14 #[.slice (some ⟨g, 0, none⟩) n n] w fun e w' => (∃ z : Int, e = .returned (.int .i64 z) ∧ (z = -1 ∧ (∀ r, r < n → F r ≠ r → ∃ s, s < n ∧ F s = r) ∨ ∃ c : Nat, z = c ∧ Over n F c)) ∧ w = w' := by
  go_enter Try.func14, Try.ntmps14
  go_wp2
  go_loop [7] (fun i => ∃ k : Nat, k ≤ n ∧ i = .int .i64 k ∧ ∀ r, r < k → F r ≠ r → ∃ s, s < n ∧ F s = r) (fun i => n - (intOf i).toNat)
  case atStart => exact ⟨0, Nat.zero_le _, rfl, fun r h => by omega⟩
  case round =>
    obtain ⟨k, hk, rfl, hno⟩ := hrel
    have HNO := Lib.hid hno
    clear hno
    by_cases hlt : k < n
    · have hc := ht.cell hlt
      obtain ⟨f, hf⟩ : ∃ f, F k = f := ⟨_, rfl⟩
      have HF := Lib.hid hf
      rw [hf] at hc
      clear hf
      by_cases he : f = k
      · have hb : ((f : Int) != (k : Int)) = false := by simp [he]
        have HE := Lib.hid he
        clear he
        go_wp2
        go_round
        case rel =>
          refine ⟨k + 1, by omega, by go_num, fun r h hr => ?_⟩
          rcases Nat.lt_or_ge r k with h1 | h1
          · exact HNO.out r h1 hr
          · have : r = k := by omega
            subst this
            exact absurd (HF.out.trans HE.out) hr
        case measure => (simp [intOf]; omega)
      · have hb : ((f : Int) != (k : Int)) = true := by simp; omega
        have HE := Lib.hid he
        have HC := Lib.hid (hasC_any (some ⟨g, 0, none⟩) n n (tabN n F) k (g + 1) w ht.rd (tabN_len n F) (by omega))
        clear he
        by_cases hin : k ∈ tabN n F
        · rw [show decide (k ∈ tabN n F) = true from by simp [hin]] at HC
          have HIN := Lib.hid (tabN_mem.1 hin)
          clear hin
          go_wp2_with (go_at_call 18; (with_reducible refine HC.out.mono ?_); rintro e w1 ⟨rfl, rfl⟩)
          go_round
          case rel =>
            refine ⟨k + 1, by omega, by go_num, fun r h hr => ?_⟩
            rcases Nat.lt_or_ge r k with h1 | h1
            · exact HNO.out r h1 hr
            · have : r = k := by omega
              subst this
              exact HIN.out
          case measure => (simp [intOf]; omega)
        · rw [show decide (k ∈ tabN n F) = false from by simp [hin]] at HC
          have HIN := Lib.hid hin
          clear hin
          go_wp2_with (go_at_call 18; (with_reducible refine HC.out.mono ?_); rintro e w1 ⟨rfl, rfl⟩)
          go_ret
          exact ⟨⟨_, rfl, .inr ⟨k, rfl, hlt, by rw [HF.out]; exact HE.out, fun s hs h => HIN.out (tabN_mem.2 ⟨s, hs, h⟩)⟩⟩, rfl⟩
    · go_wp2
      go_ret
      exact ⟨⟨_, rfl, .inl ⟨rfl, fun r h => HNO.out r (by omega)⟩⟩, rfl⟩

theorem tab_red {n : Nat} {F : Nat → Nat} {r c k : Nat} (h : F k = r) (hk : k ≠ r) : (ni (tabN n fun i => if i < k then redF F r c i else F i)).set k (c : Int) = ni (tabN n fun i => if i < k + 1 then redF F r c i else F i) := by
  refine ni_tab_set (by rw [if_pos (by omega)]; unfold redF; rw [if_pos ⟨h, hk⟩]) fun i _ hne => ?_
  by_cases h1 : i < k
  · rw [if_pos h1, if_pos (by omega)]
  · rw [if_neg h1, if_neg (by omega)]

theorem tab_same {n : Nat} {F : Nat → Nat} {r c k : Nat} (h : ¬ (F k = r ∧ k ≠ r)) : tabN n (fun i => if i < k + 1 then redF F r c i else F i) = tabN n fun i => if i < k then redF F r c i else F i := by
  unfold tabN
  refine List.map_congr_left fun i _ => ?_
  by_cases h1 : i < k
  · rw [if_pos h1, if_pos (by omega)]
  · by_cases h2 : i = k
    · subst h2
      rw [if_pos (by omega), if_neg h1]
      unfold redF
      rw [if_neg h]
    · rw [if_neg h1, if_neg (by omega)]

theorem tab_all {n : Nat} {F : Nat → Nat} {r c : Nat} : tabN n (fun i => if i < n then redF F r c i else F i) = tabN n (redF F r c) := by
  unfold tabN
  refine List.map_congr_left fun i hi => ?_
  rw [if_pos (List.mem_range.1 hi)]

theorem tab_none {n : Nat} {F : Nat → Nat} {r c : Nat} : tabN n (fun i => if i < 0 then redF F r c i else F i) = tabN n F := by
  unfold tabN
  refine List.map_congr_left fun i hi => ?_
  rw [if_neg (by omega)]

set_option maxHeartbeats 1000000 in
theorem redirect_any (g n : Nat) (F : Nat → Nat) (r c : Nat) (w : World) (hn : n ≤ 8) (ht : TabAt w g n F) :
    Calls Try.prog 16 #[.slice (some ⟨g, 0, none⟩) n n, .int .i64 r, .int .i64 c] w fun e w' => e = .returned (.tuple #[]) ∧ TabAt w' g n (redF F r c) ∧ Wrote g w w' := by
  go_enter Try.func16, Try.ntmps16
  go_wp2
  go_loopw [10] (fun i wr => ∃ k : Nat, k ≤ n ∧ i = .int .i64 k ∧ TabAt wr g n (fun i => if i < k then redF F r c i else F i) ∧ Wrote g w wr) (fun i _ => n - (intOf i).toNat)
  case atStart => exact ⟨0, Nat.zero_le _, rfl, by unfold TabAt; rw [tab_none]; exact ht, Wrote.of_below (Below.refl _ _)⟩
  case round =>
    obtain ⟨k, hk, rfl, hT, hW⟩ := hrel
    by_cases hlt : k < n
    · have hc := hT.cell hlt
      simp only [Nat.lt_irrefl, if_false] at hc
      have hfz := Own.frozen hT k
      have h3 := OwnI.set hT k (c : Int)
      have hW2 := hW.set (p := ⟨g, k, none⟩) rfl (.int .i64 (c : Int))
      obtain ⟨f, hf⟩ : ∃ f, F k = f := ⟨_, rfl⟩
      have HF := Lib.hid hf
      rw [hf] at hc
      clear hf
      by_cases he : f = r
      · have hb : ((f : Int) == (r : Int)) = true := by simp [he]
        by_cases hkr : k = r
        · have hb2 : ((k : Int) != (r : Int)) = false := by simp [hkr]
          have HT : Hid (TabAt wr g n (fun i => if i < k + 1 then redF F r c i else F i)) := Lib.hid (by unfold TabAt; rw [tab_same (fun h => h.2 hkr)]; exact hT)
          clear h3 hW2 he hkr
          go_wp2
          go_round
          case rel => exact ⟨k + 1, by omega, by go_num, HT.out, hW⟩
          case measure => (simp [intOf]; omega)
        · have hb2 : ((k : Int) != (r : Int)) = true := by simp; omega
          rw [tab_red (HF.out.trans he) hkr] at h3
          have H3 := Lib.hid h3
          clear h3 he hkr
          go_wp2
          go_round
          case rel => exact ⟨k + 1, by omega, by go_num, H3.out, hW2⟩
          case measure => (simp [intOf]; omega)
      · have hb : ((f : Int) == (r : Int)) = false := by simp; omega
        have HT : Hid (TabAt wr g n (fun i => if i < k + 1 then redF F r c i else F i)) := Lib.hid (by unfold TabAt; rw [tab_same (fun h => he (HF.out.symm.trans h.1))]; exact hT)
        clear h3 hW2 he
        go_wp2
        go_round
        case rel => exact ⟨k + 1, by omega, by go_num, HT.out, hW⟩
        case measure => (simp [intOf]; omega)
    · have hkn : k = n := by omega
      subst hkn
      go_wp2
      go_end0
      exact ⟨rfl, by unfold TabAt at hT ⊢; rw [tab_all] at hT; exact hT, hW⟩

end Go.Proofs.Ytlknmfabfmmggaa
