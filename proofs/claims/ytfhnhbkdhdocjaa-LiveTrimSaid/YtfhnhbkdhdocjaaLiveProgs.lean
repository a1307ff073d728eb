/-
  codemasonref.Trim, codemasonref.Progs: a program without what is not needed; equal programs are told equal (K2).
-/
import Derived.Test.YtfhnhbkdhdocjaaLiveTrim
import Derived.BigQuiet
namespace Go.Proofs.Ytfhnhbkdhdocjaa
open Go.RowKit
set_option linter.unusedSimpArgs false
set_option linter.unusedVariables false
set_option maxRecDepth 100000

set_option maxHeartbeats 8000000 in
theorem refTrim_any (n want : Nat) (A : Option Addr) (len cap : Nat) (p : List Bk) (w : World) (hx : RdP w w.heap.size A p) (hl : p.length = len) (hc : ckProg n p = 0) (hw : want < 4294967296) :
    Calls Try.prog 24 #[.slice A len cap, .int .u32 (want : Nat)] w fun e w' => ∃ q A' c', Cuts want p q ∧ Nf want q ∧ e = .returned (.slice A' len c') ∧ RdP w' w'.heap.size A' q ∧ Below w.heap.size w w' := by
  have HC := Lib.hid hc
  have HL := Lib.hid hl
  clear hl hc
  go_enter Try.func24, Try.ntmps24
  go_wp2
  go_loopw [0] (fun s wr => ∃ (q : List Bk) (A' : Option Addr) (c' : Nat), s = .slice A' len c' ∧ Cuts want p q ∧ RdP wr wr.heap.size A' q ∧ Below w.heap.size w wr) (fun s wr => cntS wr s)
  case atStart => exact ⟨p, A, cap, rfl, .done p, hx, Below.refl _ _⟩
  case round =>
    obtain ⟨q, A1, c1, rfl, hcs, hrd, hb⟩ := hrel
    have hql : q.length = len := by rw [hcs.len, HL.out]
    have HQL := Lib.hid hql
    have HCS := Lib.hid hcs
    have hsz := hb.size
    have HTR := Lib.hid (refTrimmed_any n want A1 len c1 q wr hrd hql (hcs.ok HC.out) hw)
    have hcnt := cntS_eq hrd c1
    rw [hql] at hcnt
    have HCNT := Lib.hid hcnt
    clear hcs hql hcnt
    go_wp2_with fail
    refine HTR.out.mono ?_
    rintro e w1 ⟨htr, hb1⟩
    have hb01 := hb.trans (hb1.mono hsz)
    rcases htr with ⟨hnf, rfl⟩ | ⟨q2, A2, c2, hcut, rfl, hrd2⟩
    · have HNF := Lib.hid hnf
      have hrd1 := (hrd.below hb1 (Nat.le_refl _)).more hb1.size
      clear hnf
      go_wp2
      go_ret
      exact ⟨q, A1, c1, HCS.out, HNF.out, rfl, hrd1, hb01⟩
    · have HCUT := Lib.hid hcut
      have hl2 : q2.length = len := by rw [hcut.thin.len, HQL.out]
      have hcnt2 := cntS_eq hrd2 c2
      rw [hl2] at hcnt2
      have HCNT2 := Lib.hid hcnt2
      clear hcut hl2 hcnt2
      go_wp2
      go_round
      case rel => exact ⟨q2, A2, c2, rfl, HCS.out.trans (.one HCUT.out), hrd2, hb01⟩
      case measure => rw [HCNT.out, HCNT2.out]; exact HCUT.out.less

theorem below_drewNP {B : Nat} {X Y : World} (h : Below B X Y) (q : Nat) : Below B X (Y.drewN q) := ⟨h.os, h.tape, h.output, h.size, h.block⟩

set_option maxHeartbeats 8000000 in
theorem progs_same (A B : Option Addr) (len ca cb : Nat) (p : List Bk) (w : World) (hx : RdP w w.heap.size A p) (hy : RdP w w.heap.size B p) (hl : p.length = len) (h8 : len ≤ 8) (h20 : manyS p ≤ 20) :
    Calls Try.prog 23 #[.slice A len ca, .slice B len cb] w fun e w' => e = .returned (.bool true) ∧ Below w.heap.size w w' := by
  have HL := Lib.hid hl
  clear hl
  go_enter Try.func23, Try.ntmps23
  go_wp2
  go_loopw [5] (fun z wr => ∃ i : Nat, i ≤ len ∧ z = .int .i64 i ∧ Below w.heap.size w wr) (fun z _ => len - (intOf z).toNat)
  case atStart => exact ⟨0, Nat.zero_le _, rfl, Below.refl _ _⟩
  case round =>
    obtain ⟨i, hi, rfl, hb⟩ := hrel
    have hsz := hb.size
    by_cases hlt : i < len
    · obtain ⟨ad, bk, Ac, cc, rfl, hbl, hd, hrow, hc0, hc1, hc2, hc3⟩ := (hx.below hb (Nat.le_refl _)).at_ (k := i) (by rw [HL.out]; exact hlt)
      obtain ⟨ad2, bk2, Ac2, cc2, rfl, hbl2, hd2, hrow2, hd0, hd1, hd3, hd4⟩ := (hy.below hb (Nat.le_refl _)).at_ (k := i) (by rw [HL.out]; exact hlt)
      rw [hd] at hd2
      injection hd2 with hd2
      subst hd2
      have hcm := manyS_le hd
      obtain ⟨code, te, th, el⟩ := bk
      simp only [] at hc0 hc1 hc2 hc3 hrow hd0 hd1 hd3 hd4 hrow2 hcm
      obtain ⟨cl, hcl⟩ : ∃ cl, code.length = cl := ⟨_, rfl⟩
      have HCL := Lib.hid hcl
      rw [hcl] at hc0 hd0 hcm
      have HD := Lib.hid hd
      clear hd hcl hrow hrow2
      obtain ⟨wo, rfl⟩ : ∃ wo : World, wo = wr := ⟨_, rfl⟩
      go_wp2
      go_quiet (fail)
      go_wp2
      go_loopw [6] (fun z wr => ∃ k : Nat, k ≤ cl ∧ z = .int .i64 k ∧ Below w.heap.size w wr) (fun z _ => cl - (intOf z).toNat)
      case atStart => exact ⟨0, Nat.zero_le _, rfl, below_drewNP hb _⟩
      case round =>
        obtain ⟨k, hk, rfl, hb2⟩ := hrel
        have hsz2 := hb2.size
        obtain ⟨ad', bk', Ac', cc', e1, hbl', hd', hrow', r0, r1, r2, r3⟩ := (hx.below hb2 (Nat.le_refl _)).at_ (k := i) (by rw [HL.out]; exact hlt)
        obtain ⟨ad2', bk2', Ac2', cc2', e2, hbl2', hd2', hrow2', s0, s1, s2, s3⟩ := (hy.below hb2 (Nat.le_refl _)).at_ (k := i) (by rw [HL.out]; exact hlt)
        injection e1 with e1
        injection e2 with e2
        subst e1 e2
        rw [HD.out] at hd' hd2'
        injection hd' with hd'
        injection hd2' with hd2'
        subst hd' hd2'
        simp only [] at r0 r1 r2 r3 s0 s1 s2 s3 hrow' hrow2'
        rw [HCL.out] at r0 s0
        by_cases hct : k < cl
        · obtain ⟨ad3, o, t, a, b, v, rfl, hbl3, hd3, e0, e1, e2, e3, e4⟩ := hrow'.at_ (k := k) (by rw [HCL.out]; exact hct)
          obtain ⟨ad4, o', t', a', b', v', rfl, hbl4, hd4, f0, f1, f2, f3, f4⟩ := hrow2'.at_ (k := k) (by rw [HCL.out]; exact hct)
          rw [hd3] at hd4
          injection hd4 with hd4
          injection hd4 with g1 g2 g3 g4 g5
          subst g1 g2 g3 g4 g5
          clear hd3
          go_wp2
          go_quiet (fail)
          go_wp2
          go_round
          case rel => exact ⟨k + 1, by omega, by go_num, below_drewNP hb2 _⟩
          case measure => (simp [intOf]; omega)
        · go_wp2
          go_round
          case rel => exact ⟨i + 1, by omega, by go_num, hb2⟩
          case measure => (simp [intOf]; omega)
    · go_wp2
      go_ret
      exact ⟨rfl, hb⟩

end Go.Proofs.Ytfhnhbkdhdocjaa
