/-
  jump.lengthen makes those long whose targets are too far away (X1).
-/
import Derived.Test.YthckglpleiojkaaJpSize
namespace Go.Proofs.Ythckglpleiojkaa
open Go.RowKit
set_option linter.unusedSimpArgs false
set_option linter.unusedVariables false
set_option maxRecDepth 100000

theorem lgW_no {l : List Pc} {W k : Nat} (h : lgB l W k = false) : lgW l W (k + 1) = lgW l W k ∧ lgA l W (k + 1) = lgA l W k := by
  simp [lgW, lgA, h]

theorem lgW_yes {l : List Pc} {W k : Nat} (h : lgB l W k = true) : lgW l W (k + 1) = lgW l W k ||| 2 ^ k ∧ lgA l W (k + 1) = true := by
  simp [lgW, lgA, h]

theorem below_drewJ {B : Nat} {X Y : World} (h : Below B X Y) (q : Nat) : Below B X (Y.drewN q) := ⟨h.os, h.tape, h.output, h.size, h.block⟩

set_option maxHeartbeats 8000000 in
theorem lengthen_any (A : Option Addr) (len n1 cap ga gs B : Nat) (hn1 : n1 = len + 1) (l : List Pc) (W : Nat) (w : World) (hx : RdPc w B A l) (hl : l.length = len) (hk : PcOk l) (hB : B ≤ gs) (hne : ga ≠ gs)
    (hat : Own w ga 3 (iv (atl l W))) (hsi : Own w gs 3 (iv (szl l W))) :
    Calls Try.prog 13 #[.slice A len cap, .slice (some ⟨ga, 0, none⟩) n1 n1, .slice (some ⟨gs, 0, none⟩) len len] w fun e w' => e = .returned (.bool (lgA l W len)) ∧ Own w' gs 3 (iv (szl l (lgW l W len))) ∧ Wrote gs w w' := by
  have HL := Lib.hid hl
  have HN1 := Lib.hid hn1
  have HK := Lib.hid hk
  have hlen : len ≤ 10 := by rw [← hl]; exact hk.len
  have hgsl := hsi.lt
  have hgal := hat.lt
  have HAT : Hid (∀ wr : World, Wrote gs w wr → Own wr ga 3 (iv (atl l W))) := Lib.hid fun wr h => (h.block ga hgal hne).trans hat
  have HX : Hid (∀ wr : World, Wrote gs w wr → RdPc wr B A l) := Lib.hid fun wr h => hx.below (h.below hB (by omega)) (Nat.le_refl _)
  have HNE := Lib.hid hne
  clear hl hk hx hat hne hn1
  go_enter Try.func13, Try.ntmps13
  go_wp2
  go_loopw [7, 12] (fun f i wr => ∃ k : Nat, k ≤ len ∧ i = .int .i64 k ∧ f = .bool (lgA l W k) ∧ Own wr gs 3 (iv (szl l (lgW l W k))) ∧ Wrote gs w wr) (fun _ i _ => len - (intOf i).toNat)
  case atStart => exact ⟨0, Nat.zero_le _, rfl, rfl, hsi, Wrote.of_below (Below.refl _ _)⟩
  case round =>
    obtain ⟨k, hk, rfl, rfl, hown, hb⟩ := hrel
    have hgl := hown.lt
    have HOWN := Lib.hid hown
    have HB := Lib.hid hb
    have hsz := hb.size
    obtain ⟨fo, hfo⟩ : ∃ f, lgA l W k = f := ⟨_, rfl⟩
    have HFO := Lib.hid hfo
    by_cases hlt : k < len
    · obtain ⟨ad, b, j, t, rfl, hbl, hd, hc0, hc1, hc2⟩ := (HX.out wr hb).at_ (k := k) (by rw [HL.out]; exact hlt)
      have hkl : k < l.length := by rw [HL.out]; exact hlt
      have hbl2 : (ad.add (k * 3)).block < wr.heap.size := by omega
      have hcg := hown.cell (iv_at (szl_at (W := lgW l W k) hkl))
      have hfg := hown.frozen k
      rw [hfo]
      cases j with
      | false =>
        have hno : lgB l W k = false := by unfold lgB; rw [hd]; rfl
        obtain ⟨e1, e2⟩ := lgW_no hno
        have HE : Hid (lgA l W (k + 1) = fo ∧ Own wr gs 3 (iv (szl l (lgW l W (k + 1))))) := Lib.hid ⟨by rw [e2, hfo], by rw [e1]; exact hown⟩
        clear hown hno e1 e2 hfo hd hcg hfg hsi hkl hb
        go_wp2
        go_quiet (fail)
        go_wp2
        go_round
        case rel => exact ⟨k + 1, by omega, by go_num, by rw [HE.out.1], HE.out.2.alloc _, HB.out.andThen (below_drewJ (by go_grown) _)⟩
        case measure => (simp [intOf]; omega)
      | true =>
        obtain ⟨tn, ht, hj, htl⟩ := jmpAt_of HK.out hd rfl
        simp only at ht
        subst ht
        have hz := szP_jmp (W := lgW l W k) hd rfl
        have hbk : (lgW l W k).testBit k = W.testBit k := by rw [lgW_bit]; simp
        rw [hbk] at hz
        have hlb := lgB_of (W := W) hj
        have htl2 : tn ≤ len := by rw [← HL.out]; exact htl
        cases hbit : W.testBit k with
        | true =>
          rw [hbit, if_pos rfl] at hz
          rw [hbit] at hlb
          have hno : lgB l W k = false := by rw [hlb]; rfl
          obtain ⟨e1, e2⟩ := lgW_no hno
          have HE : Hid (lgA l W (k + 1) = fo ∧ Own wr gs 3 (iv (szl l (lgW l W (k + 1))))) := Lib.hid ⟨by rw [e2, hfo], by rw [e1]; exact hown⟩
          rw [hz] at hcg
          clear hown hno e1 e2 hfo hd hfg hsi hkl hb hz hbk hlb hbit hj htl
          go_wp2
          go_quiet (fail)
          go_wp2
          go_round
          case rel => exact ⟨k + 1, by omega, by go_num, by rw [HE.out.1], HE.out.2.alloc _, HB.out.andThen (below_drewJ (by go_grown) _)⟩
          case measure => (simp [intOf]; omega)
        | false =>
          rw [hbit, if_neg (by simp)] at hz
          rw [hbit] at hlb
          have hoa := HAT.out wr hb
          have hgl2 : ga < wr.heap.size := by omega
          have hc3 := hoa.cell (iv_at (atl_at (W := W) (i := k + 1) (by omega)))
          have hc4 := hoa.cell (iv_at (atl_at (W := W) (i := tn) htl))
          have hb3 := at_bd HK.out W (k + 1)
          have hb4 := at_bd HK.out W tn
          have hfar := dsJ_far (l := l) (W := W) (i := k) (t := tn)
          obtain ⟨x, hxe⟩ : ∃ x, atP l W (k + 1) = x := ⟨_, rfl⟩
          obtain ⟨y, hye⟩ : ∃ y, atP l W tn = y := ⟨_, rfl⟩
          rw [hxe] at hc3 hb3 hfar
          rw [hye] at hc4 hb4 hfar
          rw [hz] at hcg
          have HD : Hid (∀ w, Calls Try.prog 18 #[.int .i64 x, .int .i64 y] w fun e w' => e = .returned (.int .i64 (dsJ x y)) ∧ w' = w) := Lib.hid (fun w => (distance_any x y w (by omega) (by omega)).mono fun e w' ⟨h1, h2⟩ => ⟨h1, h2.symm⟩)
          obtain ⟨d, hde⟩ : ∃ d, dsJ x y = d := ⟨_, rfl⟩
          rw [hde] at HD hfar
          obtain ⟨k1, hk1⟩ : ∃ k1 : Nat, k1 = k + 1 := ⟨_, rfl⟩
          have hw1 : IntKind.i64.wrap ((k : Int) + 1) = (k1 : Int) := by rw [IntKind.wrap_i64]; omega
          have hkl1 : k1 < n1 := by rw [HN1.out]; omega
          have htl3 : tn < n1 := by rw [HN1.out]; omega
          rw [← hk1] at hc3
          have HK1 := Lib.hid hk1
          clear hk1
          by_cases hfd : 50 < d
          · have hyes : lgB l W k = true := by rw [hlb]; simpa using hfar.1 hfd
            obtain ⟨e1, e2⟩ := lgW_yes hyes
            have HE : Hid (lgA l W (k + 1) = true ∧ ∀ (o : Obj) (q : Nat), Own (((wr.alloc o).drewN q).setCell ⟨gs, k, none⟩ (.int .i64 4)) gs 3 (iv (szl l (lgW l W (k + 1))))) := Lib.hid ⟨e2, fun o q => by
              have h5 : Own ((wr.alloc o).drewN q) gs 3 (iv (szl l (lgW l W k))) := hown.alloc o
              have h6 := OwnI.set h5 k 4
              rwa [szl_set hd rfl, ← e1] at h6⟩
            have hdd : decide (50 < d) = true := decide_eq_true hfd
            clear hown hyes e1 e2 hfo hd hsi hkl hb hz hbk hlb hbit hj htl hoa hxe hye hde hfar hb3 hb4 hfd
            go_wp2
            go_quiet ((go_at_call 18; exact Calls.quiet_of_same (HD.out _)))
            go_wp2
            go_round
            case rel => exact ⟨k + 1, by omega, (by have hk9 := HK1.out; subst hk9; first | rfl | go_num), by rw [HE.out.1], HE.out.2 _ _, (HB.out.andThen (below_drewJ (by go_grown) _)).set rfl _⟩
            case measure => have hk9 := HK1.out; (simp [intOf]; omega)
          · have hno : lgB l W k = false := by rw [hlb]; simpa using fun h => hfd (hfar.2 h)
            obtain ⟨e1, e2⟩ := lgW_no hno
            have HE : Hid (lgA l W (k + 1) = fo ∧ Own wr gs 3 (iv (szl l (lgW l W (k + 1))))) := Lib.hid ⟨by rw [e2, hfo], by rw [e1]; exact hown⟩
            have hdd : decide (50 < d) = false := decide_eq_false hfd
            clear hown hno e1 e2 hfo hd hfg hsi hkl hb hz hbk hlb hbit hj htl hoa hxe hye hde hfar hb3 hb4 hfd
            go_wp2
            go_quiet ((go_at_call 18; exact Calls.quiet_of_same (HD.out _)))
            go_wp2
            go_round
            case rel => exact ⟨k + 1, by omega, (by have hk9 := HK1.out; subst hk9; first | rfl | go_num), by rw [HE.out.1], HE.out.2.alloc _, HB.out.andThen (below_drewJ (by go_grown) _)⟩
            case measure => have hk9 := HK1.out; (simp [intOf]; omega)
    · have hkn : k = len := by omega
      subst hkn
      have HE := Lib.hid hown
      rw [hfo]
      clear hown hfo hb hsi
      go_wp2
      go_ret
      exact ⟨ret_bool (by rw [HFO.out]), HE.out, HB.out⟩

end Go.Proofs.Ythckglpleiojkaa
