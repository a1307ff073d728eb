/-
  way.Check (E1): a graph is valid, or the first error.
-/
import Derived.Test.YtmbabbdcijgnoaaWayIs
namespace Go.Proofs.Ytmbabbdcijgnoaa
open Go.RowKit
set_option linter.unusedSimpArgs false
set_option linter.unusedVariables false
set_option maxRecDepth 100000

theorem wayNode_any (x : Int) (p : Addr) (A : Option Addr) (len cap : Nat) (w : World) (hp : w.cell? p = some (.slice A len cap)) :
    Calls Try.prog 37 #[.int .i64 x, .pointer (some p)] w fun e w' => e = .returned (.bool (decide (0 ≤ x ∧ x < (len : Int)))) ∧ w = w' := by
  by_cases h0 : 0 ≤ x
  · go_enter Try.func37, Try.ntmps37
    go_wp2
    go_ret
    exact ⟨ret_bool (by simp [h0]), rfl⟩
  · go_enter Try.func37, Try.ntmps37
    go_wp2
    go_ret
    exact ⟨ret_bool (by rw [show decide (0 ≤ x) = false from decide_eq_false (by omega)]; rfl), rfl⟩

theorem rowOk_at {n : Int} {row : List Int} {k : Nat} {x : Int} (h : row[k]? = some x) : rowOk n (row.drop k) = (decide (0 ≤ x ∧ x < n) && rowOk n (row.drop (k + 1))) := by
  rw [drop_at h]
  unfold rowOk
  rw [List.all_cons]

set_option maxHeartbeats 1000000 in
theorem wayCheck_any (A : Option Addr) (len cap : Nat) (nx : List (List Int)) (w : World) (hx : RdG w w.heap.size A nx) (hl : nx.length = len) (hm : len ≤ maxLen) :
    Calls Try.prog 28 #[.slice A len cap] w fun e w' => e = .returned (.int .i64 (ckWay nx)) ∧ Below w.heap.size w w' := by
  unfold maxLen at hm
  have HL := Lib.hid hl
  by_cases h0 : len < 1 ∨ 8 < len
  · have hr : ckWay nx = 1 := by unfold ckWay; rw [if_pos (by omega)]
    rw [hr]
    clear hr hl
    rcases h0 with h0 | h0
    · obtain rfl : len = 0 := by omega
      clear h0
      go_enter Try.func28, Try.ntmps28
      go_wp2
      go_ret
      exact ⟨rfl, by go_grown⟩
    · have e1 : ((len : Int) == 0) = false := by simp; omega
      go_enter Try.func28, Try.ntmps28
      go_wp2
      go_ret
      exact ⟨rfl, by go_grown⟩
  · have hr : ckWay nx = ckRows len nx := by unfold ckWay; rw [if_neg (by omega), hl]
    have e1 : ((len : Int) == 0) = false := by simp; omega
    have h8 : len ≤ 8 := by omega
    have HR0 := Lib.hid hr
    clear hr hl h0
    go_enter Try.func28, Try.ntmps28
    go_wp2
    obtain ⟨wo, hwo⟩ : ∃ wo, wo = w.alloc (.cells #[.slice A len cap] 22) := ⟨_, rfl⟩
    have hbo : Below w.heap.size w wo := by rw [hwo]; go_grown
    have hbx : wo.cell? ⟨w.heap.size, 0, none⟩ = some (.slice A len cap) := by rw [hwo]; exact cell_new rfl rfl
    have hxo := (hx.below hbo (Nat.le_refl _)).more hbo.size
    have hso : w.heap.size < wo.heap.size := World.block_lt_of_cell? wo _ hbx
    rw [← hwo]
    clear hwo hx
    go_loop [19] (fun i => ∃ k : Nat, k ≤ len ∧ i = .int .i64 k ∧ ckRows len nx = ckRows len (nx.drop k)) (fun i => len - (intOf i).toNat)
    case atStart => exact ⟨0, Nat.zero_le _, rfl, rfl⟩
    case round =>
      obtain ⟨k, hk, rfl, hr⟩ := hrel
      have HR := Lib.hid hr
      clear hr
      by_cases hlt : k < len
      · obtain ⟨ad, row, Ar, cr, rfl, hbl, hd, hcell, hrow⟩ := hxo.at_ (k := k) (by rw [HL.out]; exact hlt)
        have HD := Lib.hid (ckRows_at (n := (len : Int)) hd)
        clear hd
        obtain ⟨rl, hrl⟩ : ∃ rl, row.length = rl := ⟨_, rfl⟩
        rw [hrl] at hcell
        have HRL := Lib.hid hrl
        by_cases h3 : 3 < rl
        · have hck : ckRow len row = 1 := by unfold ckRow; rw [if_pos (by omega)]
          have HCK := Lib.hid hck
          clear hck hrl
          go_wp2
          go_ret
          exact ⟨ret_int (by rw [HR0.out, HR.out, HD.out, HCK.out]; rfl), hbo⟩
        · have hck : ckRow len row = if rowOk len row = true then 0 else 2 := by unfold ckRow; rw [if_neg (by omega)]
          have HCK := Lib.hid hck
          clear hck hrl
          go_wp2
          go_loop [28] (fun i => ∃ c : Nat, c ≤ rl ∧ i = .int .i64 c ∧ rowOk len row = rowOk len (row.drop c)) (fun i => rl - (intOf i).toNat)
          case atStart => exact ⟨0, Nat.zero_le _, rfl, rfl⟩
          case round =>
            obtain ⟨c, hc, rfl, hrc⟩ := hrel
            have HRC := Lib.hid hrc
            clear hrc
            by_cases hct : c < rl
            · obtain ⟨ar, x, rfl, hbr, hdx, hcx⟩ := hrow.at_ (k := c) (by rw [HRL.out]; exact hct)
              have HDX := Lib.hid (rowOk_at (n := (len : Int)) hdx)
              clear hdx
              cases hb : decide (0 ≤ x ∧ x < (len : Int)) with
              | true =>
                have HB := Lib.hid hb
                clear hb
                go_wp2_with (go_at_call 37; (with_reducible refine (wayNode_any x _ _ len _ _ hbx).mono ?_); rw [HB.out]; rintro e w5 ⟨rfl, rfl⟩)
                go_round
                case rel => exact ⟨c + 1, by omega, by go_num, by rw [HRC.out, HDX.out, HB.out]; rfl⟩
                case measure => (simp [intOf]; omega)
              | false =>
                have HB := Lib.hid hb
                clear hb
                go_wp2_with (go_at_call 37; (with_reducible refine (wayNode_any x _ _ len _ _ hbx).mono ?_); rw [HB.out]; rintro e w5 ⟨rfl, rfl⟩)
                go_ret
                exact ⟨ret_int (by rw [HR0.out, HR.out, HD.out, HCK.out, HRC.out, HDX.out, HB.out]; rfl), hbo⟩
            · have hrt : rowOk len row = true := by rw [HRC.out, List.drop_of_length_le (by rw [HRL.out]; omega)]; rfl
              have HRT := Lib.hid hrt
              clear hrt
              show Code.wp _ _ _ _ _
              go_wp2
              go_round
              case rel => exact ⟨k + 1, by omega, by go_num, by rw [HR.out, HD.out, HCK.out, if_pos HRT.out, if_pos rfl]⟩
              case measure => (simp [intOf]; omega)
      · go_wp2
        go_ret
        exact ⟨ret_int (by rw [HR0.out, HR.out, List.drop_of_length_le (by rw [HL.out]; omega)]; rfl), hbo⟩

end Go.Proofs.Ytmbabbdcijgnoaa
