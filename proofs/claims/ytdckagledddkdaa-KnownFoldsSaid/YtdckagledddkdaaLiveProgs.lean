/-
  codemasonref.Trim, codemasonref.Progs: a program without what is not needed; equal programs are told equal (K2).
-/
import Derived.Test.YtdckagledddkdaaLiveTrim
import Derived.BigQuiet
namespace Go.Proofs.Ytdckagledddkdaa
open Go.RowKit
set_option linter.unusedSimpArgs false
set_option linter.unusedVariables false
set_option maxRecDepth 100000

theorem below_drewNP {B : Nat} {X Y : World} (h : Below B X Y) (q : Nat) : Below B X (Y.drewN q) := ⟨h.os, h.tape, h.output, h.size, h.block⟩

set_option maxHeartbeats 8000000 in
theorem progs_same (A B : Option Addr) (len ca cb : Nat) (p : List Bk) (w : World) (hx : RdP w w.heap.size A p) (hy : RdP w w.heap.size B p) (hl : p.length = len) (h8 : len ≤ 8) (h20 : manyS p ≤ 20) :
    Calls Try.prog 13 #[.slice A len ca, .slice B len cb] w fun e w' => e = .returned (.bool true) ∧ Below w.heap.size w w' := by
  have HL := Lib.hid hl
  clear hl
  go_enter Try.func13, Try.ntmps13
  go_wp2
  go_loopw [5] (fun z wr => ∃ i : Nat, i ≤ len ∧ z = .int .i64 i ∧ Below w.heap.size w wr) (fun z _ => len - (intOf z).toNat)
  case atStart => exact ⟨0, Nat.zero_le _, rfl, Below.refl _ _⟩
  case round =>
    obtain ⟨i, hi, rfl, hb⟩ := hrel
    have hsz := hb.size
    by_cases hlt : i < len
    · obtain ⟨ad, bk, Ac, cc, rfl, hbl, hd, hrow, hc0, hc1, hc2, hc3⟩ := (hx.below hb (Nat.le_refl _)).at_ (k := i) (by rw [HL.out]; exact hlt)
      obtain ⟨ad2, bk2, Ac2, cc2, rfl, hbl2, hd2, hrow2, hd0, hd1, hd3, hd4⟩ := (hy.below hb (Nat.le_refl _)).at_ (k := i) (by rw [HL.out]; exact hlt)
      rw [hd] at hd2
      injection hd2 with hd2
      subst hd2
      have hcm := manyS_le hd
      obtain ⟨code, te, th, el⟩ := bk
      simp only [] at hc0 hc1 hc2 hc3 hrow hd0 hd1 hd3 hd4 hrow2 hcm
      obtain ⟨cl, hcl⟩ : ∃ cl, code.length = cl := ⟨_, rfl⟩
      have HCL := Lib.hid hcl
      rw [hcl] at hc0 hd0 hcm
      have HD := Lib.hid hd
      clear hd hcl hrow hrow2
      obtain ⟨wo, rfl⟩ : ∃ wo : World, wo = wr := ⟨_, rfl⟩
      go_wp2
      go_quiet (fail)
      go_wp2
      go_loopw [6] (fun z wr => ∃ k : Nat, k ≤ cl ∧ z = .int .i64 k ∧ Below w.heap.size w wr) (fun z _ => cl - (intOf z).toNat)
      case atStart => exact ⟨0, Nat.zero_le _, rfl, below_drewNP hb _⟩
      case round =>
        obtain ⟨k, hk, rfl, hb2⟩ := hrel
        have hsz2 := hb2.size
        obtain ⟨ad', bk', Ac', cc', e1, hbl', hd', hrow', r0, r1, r2, r3⟩ := (hx.below hb2 (Nat.le_refl _)).at_ (k := i) (by rw [HL.out]; exact hlt)
        obtain ⟨ad2', bk2', Ac2', cc2', e2, hbl2', hd2', hrow2', s0, s1, s2, s3⟩ := (hy.below hb2 (Nat.le_refl _)).at_ (k := i) (by rw [HL.out]; exact hlt)
        injection e1 with e1
        injection e2 with e2
        subst e1 e2
        rw [HD.out] at hd' hd2'
        injection hd' with hd'
        injection hd2' with hd2'
        subst hd' hd2'
        simp only [] at r0 r1 r2 r3 s0 s1 s2 s3 hrow' hrow2'
        rw [HCL.out] at r0 s0
        by_cases hct : k < cl
        · obtain ⟨ad3, o, t, a, b, v, rfl, hbl3, hd3, e0, e1, e2, e3, e4⟩ := hrow'.at_ (k := k) (by rw [HCL.out]; exact hct)
          obtain ⟨ad4, o', t', a', b', v', rfl, hbl4, hd4, f0, f1, f2, f3, f4⟩ := hrow2'.at_ (k := k) (by rw [HCL.out]; exact hct)
          rw [hd3] at hd4
          injection hd4 with hd4
          injection hd4 with g1 g2 g3 g4 g5
          subst g1 g2 g3 g4 g5
          clear hd3
          go_wp2
          go_quiet (fail)
          go_wp2
          go_round
          case rel => exact ⟨k + 1, by omega, by go_num, below_drewNP hb2 _⟩
          case measure => (simp [intOf]; omega)
        · go_wp2
          go_round
          case rel => exact ⟨i + 1, by omega, by go_num, hb2⟩
          case measure => (simp [intOf]; omega)
    · go_wp2
      go_ret
      exact ⟨rfl, hb⟩

end Go.Proofs.Ytdckagledddkdaa
