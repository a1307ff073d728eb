/-
  Graphs as slices of slices of ints: read, opened; codemasonref.WayCheck, Reach, Set (E1).
-/
import Derived.Test.YtmbabbdcijgnoaaPureWay
import Derived.Test.YtmbabbdcijgnoaaInside
import Derived.Test.YtmbabbdcijgnoaaComes
import Derived.Test.YtmbabbdcijgnoaaBit
namespace Go.Proofs.Ytmbabbdcijgnoaa
open Go.RowKit
set_option linter.unusedSimpArgs false
set_option linter.unusedVariables false
set_option maxRecDepth 100000

/-- a slice of slices of ints -/
def RdG (w : World) (B : Nat) (A : Option Addr) (nx : List (List Int)) : Prop :=
  0 < nx.length → ∃ ad : Addr, A = some ad ∧ ad.block < B ∧ ∀ r row, nx[r]? = some row → ∃ Ar cr, w.cell? (ad.add r) = some (.slice Ar row.length cr) ∧ RdI w B Ar row

theorem RdG.below {w w' : World} {B B' : Nat} {A : Option Addr} {nx : List (List Int)} (h : RdG w B A nx) (hb : Below B' w w') (hB : B ≤ B') : RdG w' B A nx := fun hm => by
  obtain ⟨ad, e, h1, h2⟩ := h hm
  refine ⟨ad, e, h1, fun r row hr => ?_⟩
  obtain ⟨Ar, cr, h3, h4⟩ := h2 r row hr
  exact ⟨Ar, cr, (hb.cell (by rw [addr_add_block]; omega)).trans h3, h4.below hb hB⟩

theorem RdG.more {w : World} {B B' : Nat} {A : Option Addr} {nx : List (List Int)} (h : RdG w B A nx) (hB : B ≤ B') : RdG w B' A nx := fun hm => by
  obtain ⟨ad, e, h1, h2⟩ := h hm
  refine ⟨ad, e, by omega, fun r row hr => ?_⟩
  obtain ⟨Ar, cr, h3, h4⟩ := h2 r row hr
  exact ⟨Ar, cr, h3, h4.more hB⟩

theorem RdG.at_ {w : World} {B : Nat} {A : Option Addr} {nx : List (List Int)} {k : Nat} (h : RdG w B A nx) (hk : k < nx.length) :
    ∃ (ad : Addr) (row : List Int) (Ar : Option Addr) (cr : Nat), A = some ad ∧ (ad.add k).block < B ∧ nx[k]? = some row ∧ w.cell? (ad.add k) = some (.slice Ar row.length cr) ∧ RdI w B Ar row := by
  obtain ⟨ad, e, h1, h2⟩ := h (by omega)
  have hr := List.getElem?_eq_getElem hk
  obtain ⟨Ar, cr, h3, h4⟩ := h2 k _ hr
  exact ⟨ad, _, Ar, cr, e, by rw [addr_add_block]; exact h1, hr, h3, h4⟩

theorem insideB_row {n : Int} : ∀ (row : List Int), insideB n row = rowOk n row
  | [] => rfl
  | x :: r => by
    have ih := insideB_row (n := n) r
    unfold insideB
    split
    · rename_i h
      have : rowOk n (x :: r) = false := by
        unfold rowOk
        rw [List.all_cons, show decide (0 ≤ x ∧ x < n) = false from by simp; omega]
        rfl
      exact this.symm
    · rename_i h
      rw [ih]
      unfold rowOk
      rw [List.all_cons, show decide (0 ≤ x ∧ x < n) = true from by simp; omega]
      rfl

set_option maxHeartbeats 1000000 in
theorem refWayCheck_any (A : Option Addr) (len cap : Nat) (nx : List (List Int)) (w : World) (hx : RdG w w.heap.size A nx) (hl : nx.length = len) :
    Calls Try.prog 23 #[.slice A len cap] w fun e w' => e = .returned (.int .i64 (ckWay nx)) ∧ w = w' := by
  have HL := Lib.hid hl
  by_cases h0 : len < 1 ∨ 8 < len
  · have hr : ckWay nx = 1 := by unfold ckWay; rw [if_pos (by omega)]
    rw [hr]
    clear hr hl
    rcases h0 with h0 | h0
    · obtain rfl : len = 0 := by omega
      clear h0
      go_enter Try.func23, Try.ntmps23
      go_wp2
      go_ret
      exact ⟨rfl, rfl⟩
    · have h1 : ¬ (len : Int) < 1 := by omega
      go_enter Try.func23, Try.ntmps23
      go_wp2
      go_ret
      exact ⟨rfl, rfl⟩
  · have hr : ckWay nx = ckRows len nx := by unfold ckWay; rw [if_neg (by omega), hl]
    have h1 : 1 ≤ len := by omega
    have h8 : len ≤ 8 := by omega
    have HR0 := Lib.hid hr
    clear hr hl h0
    go_enter Try.func23, Try.ntmps23
    go_wp2
    go_loop [15] (fun i => ∃ k : Nat, k ≤ len ∧ i = .int .i64 k ∧ ckRows len nx = ckRows len (nx.drop k)) (fun i => len - (intOf i).toNat)
    case atStart => exact ⟨0, Nat.zero_le _, rfl, rfl⟩
    case round =>
      obtain ⟨k, hk, rfl, hr⟩ := hrel
      have HR := Lib.hid hr
      clear hr
      by_cases hlt : k < len
      · obtain ⟨ad, row, Ar, cr, rfl, hbl, hd, hcell, hrow⟩ := hx.at_ (k := k) (by rw [HL.out]; exact hlt)
        have HD := Lib.hid (ckRows_at (n := (len : Int)) hd)
        have HI := Lib.hid (insideB_row (n := (len : Int)) row)
        clear hd
        obtain ⟨rl, hrl⟩ : ∃ rl, row.length = rl := ⟨_, rfl⟩
        rw [hrl] at hcell
        have HRL := Lib.hid hrl
        by_cases h3 : 3 < rl
        · have hck : ckRow len row = 1 := by unfold ckRow; rw [if_pos (by omega)]
          have HCK := Lib.hid hck
          clear hck hrl
          go_wp2
          go_ret
          exact ⟨ret_int (by rw [HR0.out, HR.out, HD.out, HCK.out]; rfl), rfl⟩
        · cases hro : rowOk len row with
          | true =>
            have hck : ckRow len row = 0 := by unfold ckRow; rw [if_neg (by omega), if_pos hro]
            have HCK := Lib.hid hck
            have HRO := Lib.hid hro
            clear hck hrl hro
            go_wp2_with (go_at_call 13; (with_reducible refine (inside_any _ _ _ _ row _ _ hrow HRL.out (by omega)).mono ?_); rw [HI.out, HRO.out]; rintro e w5 ⟨rfl, rfl⟩)
            go_round
            case rel => exact ⟨k + 1, by omega, by go_num, by rw [HR.out, HD.out, if_pos HCK.out]⟩
            case measure => (simp [intOf]; omega)
          | false =>
            have hck : ckRow len row = 2 := by unfold ckRow; rw [if_neg (by omega), if_neg (by rw [hro]; simp)]
            have HCK := Lib.hid hck
            have HRO := Lib.hid hro
            clear hck hrl hro
            go_wp2_with (go_at_call 13; (with_reducible refine (inside_any _ _ _ _ row _ _ hrow HRL.out (by omega)).mono ?_); rw [HI.out, HRO.out]; rintro e w5 ⟨rfl, rfl⟩)
            go_ret
            exact ⟨ret_int (by rw [HR0.out, HR.out, HD.out, HCK.out]; rfl), rfl⟩
      · go_wp2
        go_ret
        exact ⟨ret_int (by rw [HR0.out, HR.out, List.drop_of_length_le (by rw [HL.out]; omega)]; rfl), rfl⟩

end Go.Proofs.Ytmbabbdcijgnoaa
