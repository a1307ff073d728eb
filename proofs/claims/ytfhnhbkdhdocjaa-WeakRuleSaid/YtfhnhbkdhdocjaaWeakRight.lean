/-
  codemasonref.Right at steps alone (U1).
-/
import Derived.Test.YtfhnhbkdhdocjaaMTerm
import Derived.Test.YtfhnhbkdhdocjaaMPure
import Derived.Test.YtfhnhbkdhdocjaaMBase
import Derived.Deep.Cut
namespace Go.Proofs.Ytfhnhbkdhdocjaa
open Go.RowKit
set_option linter.unusedSimpArgs false
set_option linter.unusedVariables false
set_option maxRecDepth 100000

theorem kinds_nil (vars : Int) (w : World) :
    Calls Try.prog 69 #[.int .i64 vars, .slice none 0 0] w fun e w' => e = .returned (.int .i64 0) ∧ Below w.heap.size w w' := by
  go_enter Try.func69, Try.ntmps69
  go_wp2
  go_loopw [15] (fun i wr => i = .int .i64 0 ∧ Below w.heap.size w wr) (fun i _ => 0)
  case atStart => exact ⟨rfl, Below.refl _ _⟩
  case round =>
    obtain ⟨rfl, hb⟩ := hrel
    go_wp2
    go_ret
    exact ⟨rfl, hb⟩

set_option maxHeartbeats 8000000 in
theorem kinds_one (n G : Nat) (A : Option Addr) (len cap : Nat) (code : List St) (w : World) (hG : Own w G 70 [.int .i64 1, .int .i64 0, .slice A len cap, .slice none 0 0, .slice none 0 0]) (hx : RdS w w.heap.size A code) (hl : code.length = len) (hm : len ≤ 65536) (hc : ckStepsF n n code = 0) :
    Calls Try.prog 69 #[.int .i64 n, .slice (some ⟨G, 0, none⟩) 1 1] w fun e w' => e = .returned (.int .i64 0) ∧ Below w.heap.size w w' := by
  have HL := Lib.hid hl
  have HC := Lib.hid hc
  have HG := Lib.hid hG
  have hGl := hG.lt
  clear hl hc hG
  go_enter Try.func69, Try.ntmps69
  go_wp2
  go_loopw [15] (fun i wr => ∃ z : Int, (z = 0 ∨ z = 1) ∧ i = .int .i64 z ∧ Below w.heap.size w wr) (fun i _ => 1 - (intOf i).toNat)
  case atStart => exact ⟨0, .inl rfl, rfl, Below.refl _ _⟩
  case round =>
    obtain ⟨z, hz, rfl, hb⟩ := hrel
    rcases hz with rfl | rfl
    · have hGr := HG.out.below hb HG.out.lt
      have g0 := hGr.cell (j := 0) rfl
      have g1 := hGr.cell (j := 1) rfl
      have g2 := hGr.cell (j := 2) rfl
      have g3 := hGr.cell (j := 3) rfl
      have g4 := hGr.cell (j := 4) rfl
      have hgl := hGr.lt
      have HX0 := Lib.hid (Own.new wr 70 [.int .i64 1, .int .i64 0, .slice A len cap, .slice none 0 0, .slice none 0 0])
      have HBX : Hid (Below wr.heap.size wr (wr.alloc (.cells #[.int .i64 1, .int .i64 0, .slice A len cap, .slice none 0 0, .slice none 0 0] 70))) := Lib.hid (by go_grown)
      obtain ⟨wo, rfl⟩ : ∃ wo : World, wo = wr := ⟨_, rfl⟩
      have HBO := Lib.hid hb
      clear hGr hb
      go_wp2
      clear g0 g1 g2 g3 g4 hgl
      go_loopw [38] (fun i wr => ∃ j : Nat, j ≤ len ∧ i = .int .i64 j ∧ Below (wo.heap.size + 1) (wo.alloc (.cells #[.int .i64 1, .int .i64 0, .slice A len cap, .slice none 0 0, .slice none 0 0] 70)) wr) (fun i _ => len - (intOf i).toNat)
      case atStart => exact ⟨0, Nat.zero_le _, rfl, Below.refl _ _⟩
      case round =>
        obtain ⟨j, hj, rfl, hb⟩ := hrel
        have hbw := HBO.out.trans (HBX.out.trans (hb.mono (Nat.le_succ _)) |>.mono HBO.out.size)
        have hsz2 : wo.heap.size + 1 ≤ wr.heap.size := by have := hb.size; simpa using this
        by_cases hlt : j < len
        · obtain ⟨ad, o, t, a, b, v, rfl, hbl, hd, hc0, hc1, hc2, hc3, hc4⟩ := ((RdS.below hx hbw (Nat.le_refl _)).more hbw.size).at_ (k := j) (by rw [HL.out]; exact hlt)
          have hcks := ckStepsF_at HC.out hd
          simp only [] at hcks
          have HCK := Lib.hid hcks
          clear hd hcks hbw
          go_wp2_with (go_at_call 55; (with_reducible refine (stepCheck_any _ _ _ _ _ _ _ _).mono ?_); rw [HCK.out]; rintro e w1 ⟨rfl, hb1⟩)
          go_round
          case rel => exact ⟨j + 1, by omega, by go_num, hb.trans (((by go_grown : Below wr.heap.size wr _).trans (hb1.mono (by simp))).mono hsz2)⟩
          case measure => (simp [intOf]; omega)
        · have hX2 := HX0.out.below hb (by omega)
          have x0 := hX2.cell (j := 0) rfl
          have x3 := hX2.cell (j := 3) rfl
          have x4 := hX2.cell (j := 4) rfl
          have hxl := hX2.lt
          obtain ⟨wm, rfl⟩ : ∃ wm : World, wm = wr := ⟨_, rfl⟩
          have HBM := Lib.hid hbw
          clear hX2 hb hbw
          go_wp2
          go_loopw [62] (fun i wr => ∃ z : Int, (z = 0 ∨ z = 1 ∨ z = 2) ∧ i = .int .i64 z ∧ Own wr wm.heap.size 68 [.slice none 0 0, .slice none 0 0] ∧ Below wm.heap.size wm wr) (fun i _ => 2 - (intOf i).toNat)
          case atStart => exact ⟨0, .inl rfl, rfl, Own.new _ _ _, by go_grown⟩
          case round =>
            obtain ⟨z, hz, rfl, hO, hb⟩ := hrel
            have q0 := hO.cell (j := 0) rfl
            have q1 := hO.cell (j := 1) rfl
            have hol := hO.lt
            rcases hz with rfl | rfl | rfl
            · go_wp2_with (go_at_call 69; (with_reducible refine (kinds_nil _ _).mono ?_); rintro e w1 ⟨rfl, hb1⟩)
              go_round
              case rel => exact ⟨1, by omega, rfl, hO.below hb1 hO.lt, below_via hb hb1⟩
              case measure => simp [intOf]
            · go_wp2_with (go_at_call 69; (with_reducible refine (kinds_nil _ _).mono ?_); rintro e w1 ⟨rfl, hb1⟩)
              go_round
              case rel => exact ⟨2, by omega, rfl, hO.below hb1 hO.lt, below_via hb hb1⟩
              case measure => simp [intOf]
            · go_wp2
              go_round
              case rel => exact ⟨1, by omega, rfl, below_via HBM.out hb⟩
              case measure => simp [intOf]
    · go_wp2
      go_ret
      exact ⟨rfl, hb⟩

set_option maxHeartbeats 2000000 in
theorem right_any (n G : Nat) (A : Option Addr) (len cap : Nat) (code : List St) (w : World) (hG : Own w G 70 [.int .i64 1, .int .i64 0, .slice A len cap, .slice none 0 0, .slice none 0 0]) (hx : RdS w w.heap.size A code) (hl : code.length = len) (hm : len ≤ 65536) (hc : ckStepsF n n code = 0) :
    Calls Try.prog 39 #[.int .i64 n, .slice (some ⟨G, 0, none⟩) 1 1] w fun e w' => e = .returned (.bool true) ∧ Below w.heap.size w w' := by
  have HK := Lib.hid (kinds_one n G A len cap code w hG hx hl hm hc)
  clear hG hx hl hc
  go_enter Try.func39, Try.ntmps39
  go_wp2_with (go_at_call 69; (with_reducible refine HK.out.mono ?_); rintro e w1 ⟨rfl, hb1⟩)
  go_ret
  exact ⟨rfl, hb1⟩

end Go.Proofs.Ytfhnhbkdhdocjaa
