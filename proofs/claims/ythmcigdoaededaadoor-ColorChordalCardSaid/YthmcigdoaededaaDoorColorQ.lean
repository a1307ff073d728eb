/-
  color.Clique (O1).
-/
import Derived.Test.YthmcigdoaededaaDoorColorU
import Derived.Test.YthmcigdoaededaaDoorOnesC
namespace Go.Proofs.YthmcigdoaededaaDoor
open Go.RowKit
set_option linter.unusedSimpArgs false
set_option linter.unusedVariables false
set_option maxRecDepth 100000

theorem size_8 {n W : Nat} (hn : n ≤ 8) (h : W < 2 ^ n) : szW W 8 = szW W n := by
  have := szW_more h (8 - n)
  rwa [show n + (8 - n) = 8 by omega] at this

theorem below_drewC {B : Nat} {X Y : World} (h : Below B X Y) (q : Nat) : Below B X (Y.drewN q) := ⟨h.os, h.tape, h.output, h.size, h.block⟩

set_option maxHeartbeats 4000000 in
theorem clique_ok (n : Nat) (A : Option Addr) (len cap : Nat) (ps : List (Nat × Nat)) (w : World) (hx : RdM w w.heap.size A (mvI ps)) (hl : ps.length = len) (hk : ClOk n ps) :
    Calls Tryd.prog 15 #[.int .i64 n, .slice A len cap] w fun e w' => (∃ W : Nat, CliqueC n (clP ps) W ∧ e = .returned (.tuple #[.int .u32 (W : Nat), .int .i64 0])) ∧ Below w.heap.size w w' := by
  have HF := Lib.hid (conflicts_ok n A len cap ps w hx hl hk)
  have HG := Lib.hid hk.gr
  have hn := hk.small
  have HE : Hid (∀ w1 : World, Calls Tryd.prog 28 #[.int .i64 n] w1 fun e w' => e = .returned (.int .u32 (2 ^ n - 1 : Nat)) ∧ w1 = w') := Lib.hid fun w1 => everything_any n w1 hn
  have hp8 : 2 ^ n ≤ 2 ^ 8 := Nat.pow_le_pow_right (by omega) hn
  obtain ⟨N, hN⟩ : ∃ N, 2 ^ n = N := ⟨_, rfl⟩
  have HN := Lib.hid hN
  rw [hN] at HE hp8
  have hN1 : 1 ≤ N := by rw [← hN]; exact Nat.two_pow_pos n
  have HFO : Hid (((N - 1 : Nat) : Int) + 1 = (N : Int)) := Lib.hid (by omega)
  clear hN hk hl hx
  go_enter Tryd.func15, Tryd.ntmps15
  go_wp2_with fail
  refine HF.out.mono ?_
  rintro e w1 ⟨A2, c2, ws, rfl, hrd, hws, hb1⟩
  have HWS := Lib.hid hws
  have HCQ : Hid (∀ (W : Nat) (w2 : World), Below w1.heap.size w1 w2 → W < N → Calls Tryd.prog 27 #[.slice A2 n c2, .int .u32 (W : Nat)] w2 fun e w' => e = .returned (.bool (clqN n (clP ps) W)) ∧ w2 = w') := Lib.hid fun W w2 hb2 hW => isClique_any n (clP ps) ws HG.out HWS.out hn A2 c2 W w1.heap.size w2 (hrd.below hb2 (Nat.le_refl _)) (by rw [HN.out]; exact hW)
  have hs1 := hb1.size
  clear hws hrd
  go_wp2_with fail
  refine (HE.out _).mono ?_
  rintro e w2 ⟨rfl, rfl⟩
  go_wp2
  rw [HFO.out]
  go_loopw [8, 22] (fun s i wr => ∃ (t L : Nat), t ≤ N ∧ i = .int .u32 t ∧ s = .int .u32 L ∧ L < N ∧ Hid (MaxI n (clP ps) t L) ∧ Below w1.heap.size w1 wr) (fun _ i _ => N - (intOf i).toNat)
  case atStart => exact ⟨0, 0, Nat.zero_le _, rfl, rfl, by rw [← HN.out]; exact Nat.two_pow_pos n, Lib.hid (MaxI.zero n _), Below.refl _ _⟩
  case round =>
    obtain ⟨t, L, ht, rfl, rfl, hL, HM, hb⟩ := hrel
    by_cases hlt : t < N
    · have hS := Lib.hid (size_8 (W := t) hn (by rw [HN.out]; exact hlt))
      have hS2 := Lib.hid (size_8 (W := L) hn (by rw [HN.out]; exact hL))
      have HO1 : Hid (∀ w2 : World, Calls Tryd.prog 29 #[.int .u32 (t : Nat)] w2 fun e w' => e = .returned (.int .i64 (szW t 8 : Nat)) ∧ ∃ n, w' = w2.drewN n) := Lib.hid fun w2 => onesC_any t w2 (by omega)
      have HO2 : Hid (∀ w2 : World, Calls Tryd.prog 29 #[.int .u32 (L : Nat)] w2 fun e w' => e = .returned (.int .i64 (szW L 8 : Nat)) ∧ ∃ n, w' = w2.drewN n) := Lib.hid fun w2 => onesC_any L w2 (by omega)
      rw [hS.out] at HO1
      rw [hS2.out] at HO2
      obtain ⟨st, hst⟩ : ∃ st, szW t n = st := ⟨_, rfl⟩
      obtain ⟨sl, hsl⟩ : ∃ sl, szW L n = sl := ⟨_, rfl⟩
      rw [hst] at HO1
      rw [hsl] at HO2
      by_cases hgt : sl < st
      · have hgtI : (sl : Int) < (st : Int) := by omega
        obtain ⟨cq, hcq⟩ : ∃ cq, clqN n (clP ps) t = cq := ⟨_, rfl⟩
        have HCQ2 : Hid (∀ w2 : World, Below w1.heap.size w1 w2 → Calls Tryd.prog 27 #[.slice A2 n c2, .int .u32 (t : Nat)] w2 fun e w' => e = .returned (.bool cq) ∧ w2 = w') := Lib.hid fun w2 hb2 => by
          rw [← hcq]
          exact HCQ.out t w2 hb2 hlt
        cases cq with
        | true =>
          have HM2 := Lib.hid (HM.out.take (by rw [HN.out]; exact hlt) (by rw [hst, hsl]; exact hgt) (clqN_iff.1 hcq))
          clear hS hS2 hst hsl hcq hgt
          go_wp2_with (first
            | (go_at_call 27; (with_reducible refine (HCQ2.out _ (by first | exact below_drewC (below_drewC hb _) _ | exact below_drewC hb _ | exact hb)).mono ?_); rintro e w5 ⟨rfl, rfl⟩)
            | (go_at_call 29; (first | (with_reducible refine (HO1.out _).mono ?_) | (with_reducible refine (HO2.out _).mono ?_)); rintro e w5 ⟨rfl, q5, rfl⟩))
          go_round
          case rel => exact ⟨t + 1, t, by omega, by go_num, rfl, hlt, HM2, below_drewC hb _⟩
          case measure => (simp [intOf]; omega)
        | false =>
          have HM2 := Lib.hid (HM.out.skip (fun h => by rw [clqN_iff.2 h.2] at hcq; cases hcq))
          clear hS hS2 hst hsl hcq hgt
          go_wp2_with (first
            | (go_at_call 27; (with_reducible refine (HCQ2.out _ (by first | exact below_drewC (below_drewC hb _) _ | exact below_drewC hb _ | exact hb)).mono ?_); rintro e w5 ⟨rfl, rfl⟩)
            | (go_at_call 29; (first | (with_reducible refine (HO1.out _).mono ?_) | (with_reducible refine (HO2.out _).mono ?_)); rintro e w5 ⟨rfl, q5, rfl⟩))
          go_round
          case rel => exact ⟨t + 1, L, by omega, by go_num, rfl, hL, HM2, below_drewC hb _⟩
          case measure => (simp [intOf]; omega)
      · have hgtI : ¬ (sl : Int) < (st : Int) := by omega
        have HM2 := Lib.hid (HM.out.skip (fun h => hgt (by rw [← hst, ← hsl]; exact h.1)))
        clear hS hS2 hst hsl hgt
        go_wp2_with (go_at_call 29; (first | (with_reducible refine (HO1.out _).mono ?_) | (with_reducible refine (HO2.out _).mono ?_)); rintro e w5 ⟨rfl, q5, rfl⟩)
        go_round
        case rel => exact ⟨t + 1, L, by omega, by go_num, rfl, hL, HM2, below_drewC hb _⟩
        case measure => (simp [intOf]; omega)
    · have htN : t = N := by omega
      subst htN
      have HM3 := Lib.hid HM.out
      rw [← HN.out] at HM3
      go_wp2
      go_ret2
      exact ⟨⟨L, HM3.out.done, rfl⟩, hb1.trans (hb.mono hs1)⟩

theorem clique_bad (n : Int) (A : Option Addr) (len cap : Nat) (l : List (Int × Int)) (w : World) (hx : RdM w w.heap.size A l) (hl : l.length = len) (hm : len ≤ maxLen) (hc : ckCl n l ≠ 0) :
    Calls Tryd.prog 15 #[.int .i64 n, .slice A len cap] w fun e w' => e = .returned (.tuple #[.int .u32 0, .int .i64 (ckCl n l)]) ∧ Below w.heap.size w w' := by
  have HF := Lib.hid (conflicts_bad n A len cap l w hx hl hm hc)
  obtain ⟨x, hx0⟩ : ∃ x, ckCl n l = x := ⟨_, rfl⟩
  rw [hx0] at HF hc ⊢
  have hb0 : (x != 0) = true := by simpa using hc
  clear hx hl hm hx0 hc
  go_enter Tryd.func15, Tryd.ntmps15
  go_wp2_with fail
  refine HF.out.mono ?_
  rintro e w1 ⟨rfl, hb1⟩
  go_wp2
  go_ret2
  exact ⟨rfl, hb1⟩

theorem cliqueIs : CliqueIs := ⟨clique_ok, clique_bad⟩

end Go.Proofs.YthmcigdoaededaaDoor
