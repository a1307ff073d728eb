/-
  block.Check (J1).
-/
import Derived.Test.YtdckagledddkdaaBlockCk
namespace Go.Proofs.Ytdckagledddkdaa
open Go.RowKit
set_option linter.unusedSimpArgs false
set_option linter.unusedVariables false
set_option maxRecDepth 100000

set_option maxHeartbeats 4000000 in
theorem blockCheck_any (vars : Int) (A : Option Addr) (len cap : Nat) (p : List Bk) (w : World) (hx : RdP w w.heap.size A p) (hl : p.length = len) (hm : len ≤ maxLen) (hin : CodeFits p) :
    Calls Try.prog 31 #[.int .i64 vars, .slice A len cap] w fun e w' => e = .returned (.int .i64 (ckProg vars p)) ∧ Below w.heap.size w w' := by
  unfold maxLen at hm
  by_cases hbad : vars < 1 ∨ 6 < vars ∨ len < 1 ∨ 8 < len
  · have hck : ckProg vars p = 1 := by unfold ckProg; rw [hl, if_pos (by omega)]
    rw [hck]
    clear hck hl hin hx
    go_enter Try.func31, Try.ntmps31
    go_wp2_with fail
    all_goals first
      | (go_ret; exact ⟨rfl, by go_grown⟩)
      | (exfalso; simp_all; omega)
  · have v1 : 1 ≤ vars := by omega
    have v2 : vars ≤ 6 := by omega
    have v3 : 1 ≤ len := by omega
    have v4 : len ≤ 8 := by omega
    have f1 : decide (vars < 1) = false := by simp; omega
    have f2 : decide (6 < vars) = false := by simp; omega
    have f3 : ((len : Int) == 0) = false := by simp; omega
    have f4 : decide (8 < (len : Int)) = false := by simp; omega
    have HL := Lib.hid hl
    have HCNT := Lib.hid (countSteps_any A len cap p w hx hl v4 hin)
    have HCK : Hid (ckProg vars p = if 20 < manyS p then 1 else ckBks vars len p) := Lib.hid (by unfold ckProg; rw [hl]; by_cases h : 20 < manyS p <;> simp [h] <;> omega)
    have hms : manyS p ≤ 28147497670247 := by
      have h1 := manyS_fits (p := p) hin
      rw [hl] at h1
      omega
    obtain ⟨m, hme⟩ : ∃ m, manyS p = m := ⟨_, rfl⟩
    have HME := Lib.hid hme
    rw [hme] at HCK HCNT hms
    clear hl hin hme hbad
    obtain ⟨R, hR⟩ : ∃ R, ckProg vars p = R := ⟨_, rfl⟩
    rw [hR] at HCK ⊢
    clear hR
    by_cases h20 : 20 < m
    · have hck := HCK.out
      rw [if_pos h20] at hck
      have HC1 := Lib.hid hck
      have f5 : decide (20 < (m : Int)) = true := by simp; omega
      clear hck HCK
      go_enter Try.func31, Try.ntmps31
      go_wp2_with (go_at_call 42; (with_reducible refine HCNT.out.mono ?_); rintro e w1 ⟨rfl, hb1⟩)
      go_ret
      exact ⟨ret_int HC1.out.symm, hb1⟩
    · have hck := HCK.out
      rw [if_neg h20] at hck
      have HC1 := Lib.hid hck
      have f5 : decide (20 < (m : Int)) = false := by simp; omega
      have hm20 : m ≤ 20 := by omega
      clear hck HCK h20
      go_enter Try.func31, Try.ntmps31
      go_wp2_with (go_at_call 42; (with_reducible refine HCNT.out.mono ?_); rintro e w1 ⟨rfl, hb1⟩)
      have hsz1 := hb1.size
      go_loopw [31] (fun z wr => ∃ k : Nat, k ≤ len ∧ z = .int .i64 k ∧ R = ckBks vars len (p.drop k) ∧ Below w.heap.size w wr) (fun z _ => len - (intOf z).toNat)
      case atStart => exact ⟨0, Nat.zero_le _, rfl, HC1.out, hb1⟩
      case round =>
        obtain ⟨k, hk, rfl, hr, hb⟩ := hrel
        have HR := Lib.hid hr
        have hsz := hb.size
        clear hr
        by_cases hlt : k < len
        · obtain ⟨ad, ⟨code, te, th, el⟩, Ac, cc, rfl, hbl, hd, hrow, hc0, hc1, hc2, hc3⟩ := (hx.below hb (Nat.le_refl _)).at_ (k := k) (by rw [HL.out]; exact hlt)
          have HD := Lib.hid (ckBks_drop (vars := vars) (n := (len : Int)) hd)
          have hcm := manyS_le hd
          rw [HME.out] at hcm
          simp only [] at hc0 hc1 hc2 hc3 hcm hrow
          obtain ⟨cl, hcl⟩ : ∃ cl, code.length = cl := ⟨_, rfl⟩
          rw [hcl] at hc0 hcm
          have HCB : Hid (∀ Z : World, Below wr.heap.size wr Z → Calls Try.prog 43 #[.int .i64 vars, .int .i64 len, .agg #[.slice Ac cl cc, .int .i64 te, .int .i64 th, .int .i64 el]] Z fun e w' => e = .returned (.int .i64 (ckBk vars len ⟨code, te, th, el⟩)) ∧ Below Z.heap.size Z w') := Lib.hid fun Z hZ =>
            checkBlock_any vars len te th el Ac cl cc code Z (((hrow.more hsz).below hZ (Nat.le_refl _)).more hZ.size) hcl (by omega)
          obtain ⟨x, hxe⟩ : ∃ x, ckBk vars len ⟨code, te, th, el⟩ = x := ⟨_, rfl⟩
          rw [hxe] at HCB HD
          clear hd hcl hxe hrow
          by_cases hop : x = 0
          · subst hop
            go_wp2_with (go_at_call 43; (with_reducible refine (HCB.out _ (by go_grown)).mono ?_); rintro e w2 ⟨rfl, hb2⟩)
            go_round
            case rel => exact ⟨k + 1, by omega, by go_num, by rw [HR.out, HD.out]; simp, (by go_grown : Below w.heap.size w _).trans (hb2.mono (by go_size))⟩
            case measure => (simp [intOf]; omega)
          · have e1 : (x != 0) = true := by simp [hop]
            have HO := Lib.hid hop
            clear hop
            go_wp2_with (go_at_call 43; (with_reducible refine (HCB.out _ (by go_grown)).mono ?_); rintro e w2 ⟨rfl, hb2⟩)
            go_ret
            exact ⟨ret_int (by rw [HR.out, HD.out, if_neg HO.out]), (by go_grown : Below w.heap.size w _).trans (hb2.mono (by go_size))⟩
        · have hkl : len ≤ k := by omega
          have hd0 : p.drop k = [] := List.drop_of_length_le (by rw [HL.out]; exact hkl)
          have hz : R = 0 := by rw [HR.out, hd0]; rfl
          have HZ := Lib.hid hz
          clear hd0 hz hkl
          go_wp2
          go_ret
          exact ⟨ret_int HZ.out.symm, hb⟩

end Go.Proofs.Ytdckagledddkdaa
