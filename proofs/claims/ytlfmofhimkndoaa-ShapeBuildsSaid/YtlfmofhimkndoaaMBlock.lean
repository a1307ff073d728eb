/-
  Several texts in one: BlockCk, BlockCheck.
-/
import Derived.Test.YtlfmofhimkndoaaMBlkR
import Derived.Test.YtlfmofhimkndoaaMTerm

/-
  block.countSteps, block.checkBlock, block.Check (J1).
-/

namespace Go.Proofs.Ytlfmofhimkndoaa
open Go.RowKit
set_option linter.unusedSimpArgs false
set_option linter.unusedVariables false
set_option maxRecDepth 100000

/-- the steps of each block fit into a machine -/
def CodeFits (p : List Bk) : Prop := ∀ b ∈ p, b.code.length * 40 ≤ 140737488351232

theorem CodeFits.of_in {p : List Bk} (h : ∀ b ∈ p, InBk b) : CodeFits p := fun b hb => (h b hb).1

theorem CodeFits.of_ok {vars : Int} {p : List Bk} (h : ckProg vars p = 0) : CodeFits p := fun b hb => by
  obtain ⟨k, hk, rfl⟩ := List.getElem_of_mem hb
  have h1 := manyS_le (List.getElem?_eq_getElem hk)
  have h2 := (ckProg_bd h).2.2.2.2.1
  omega

theorem manyS_fits : ∀ {p : List Bk}, CodeFits p → manyS p * 40 ≤ p.length * 140737488351232
  | [], _ => by simp [manyS]
  | b :: p, h => by
    have h1 := h b (List.mem_cons_self ..)
    have h2 := manyS_fits (p := p) fun x hx => h x (List.mem_cons_of_mem _ hx)
    simp only [manyS, List.length_cons]
    omega

set_option maxHeartbeats 4000000 in
theorem countSteps_any (A : Option Addr) (len cap : Nat) (p : List Bk) (w : World) (hx : RdP w w.heap.size A p) (hl : p.length = len) (h8 : len ≤ 8) (hin : CodeFits p) :
    Calls Try.prog 41 #[.slice A len cap] w fun e w' => e = .returned (.int .i64 (manyS p : Nat)) ∧ Below w.heap.size w w' := by
  have HL := Lib.hid hl
  have hsm : Hid (∀ k, k ≤ 8 → manyS (p.take k) ≤ 28147497670247) := Lib.hid fun k hk => by
    have h1 := manyS_fits (p := p.take k) fun b hb => hin b (List.mem_of_mem_take hb)
    have h2 : (p.take k).length ≤ 8 := by rw [List.length_take]; omega
    omega
  have HMT := Lib.hid (fun (k : Nat) (b : Bk) (h : p[k]? = some b) => manyS_take h)
  have HFULL : Hid (p.take len = p) := Lib.hid (by rw [← hl, List.take_length])
  clear hl hin
  go_enter Try.func41, Try.ntmps41
  go_wp2
  go_loopw [3, 8] (fun s z wr => ∃ k : Nat, k ≤ len ∧ z = .int .i64 k ∧ s = .int .i64 (manyS (p.take k) : Nat) ∧ Below w.heap.size w wr) (fun _ z _ => len - (intOf z).toNat)
  case atStart => exact ⟨0, Nat.zero_le _, rfl, by simp [manyS], Below.refl _ _⟩
  case round =>
    obtain ⟨k, hk, rfl, rfl, hb⟩ := hrel
    have hsz := hb.size
    by_cases hlt : k < len
    · obtain ⟨ad, b, Ac, cc, rfl, hbl, hd, hrow, hc0, hc1, hc2, hc3⟩ := (hx.below hb (Nat.le_refl _)).at_ (k := k) (by rw [HL.out]; exact hlt)
      have hmt := HMT.out k b hd
      have hs1 := hsm.out k (by omega)
      have hs2 := hsm.out (k + 1) (by omega)
      rw [hmt] at hs2
      have HT := Lib.hid hmt
      obtain ⟨m, hme⟩ : ∃ m, manyS (p.take k) = m := ⟨_, rfl⟩
      obtain ⟨cl, hcl⟩ : ∃ cl, b.code.length = cl := ⟨_, rfl⟩
      rw [hme, hcl] at HT
      rw [hme] at hs1 ⊢
      rw [hme, hcl] at hs2
      rw [hcl] at hc0
      clear hd hmt hme hcl
      go_wp2
      go_round
      case rel => exact ⟨k + 1, by omega, by go_num, by rw [HT.out]; go_num, by go_grown⟩
      case measure => (simp [intOf]; omega)
    · have hkl : k = len := by omega
      have hmp : manyS (p.take k) = manyS p := by rw [hkl, HFULL.out]
      rw [hmp]
      go_wp2
      go_ret
      exact ⟨rfl, hb⟩

set_option maxHeartbeats 4000000 in
theorem checkBlock_any (vars n te th el : Int) (Ac : Option Addr) (cl cc : Nat) (code : List St) (w : World) (hx : RdS w w.heap.size Ac code) (hl : code.length = cl) (h20 : cl ≤ 20) :
    Calls Try.prog 42 #[.int .i64 vars, .int .i64 n, .agg #[.slice Ac cl cc, .int .i64 te, .int .i64 th, .int .i64 el]] w fun e w' => e = .returned (.int .i64 (ckBk vars n ⟨code, te, th, el⟩)) ∧ Below w.heap.size w w' := by
  have HL := Lib.hid hl
  have HFUL : Hid (code.drop cl = []) := Lib.hid (List.drop_of_length_le (by rw [hl]; exact Nat.le_refl _))
  have HBX : Hid (∀ Z : World, Below (w.heap.size + 3) (((w.alloc (.cells #[.int .i64 vars] 3)).alloc (.cells #[.int .i64 n] 3)).alloc (.cells #[.slice Ac cl cc, .int .i64 te, .int .i64 th, .int .i64 el] 65)) Z →
      Z.cell? ⟨w.heap.size, 0, none⟩ = some (.int .i64 vars) ∧ Z.cell? ⟨w.heap.size + 1, 0, none⟩ = some (.int .i64 n) ∧ Z.cell? ⟨w.heap.size + 1 + 1, 0, none⟩ = some (.slice Ac cl cc) ∧ Z.cell? ⟨w.heap.size + 1 + 1, 1, none⟩ = some (.int .i64 te) ∧ Z.cell? ⟨w.heap.size + 1 + 1, 2, none⟩ = some (.int .i64 th) ∧ Z.cell? ⟨w.heap.size + 1 + 1, 3, none⟩ = some (.int .i64 el)) := Lib.hid fun Z hZ => by
    refine ⟨?_, ?_, ?_, ?_, ?_, ?_⟩
    · exact (hZ.cell (p := ⟨w.heap.size, 0, none⟩) (by simp)).trans ((World.cell?_alloc_lt _ _ _ (by simp; omega)).trans (by simp))
    · exact (hZ.cell (p := ⟨w.heap.size + 1, 0, none⟩) (by simp)).trans ((World.cell?_alloc_lt _ _ _ (by simp)).trans (by simp))
    · exact (hZ.cell (p := ⟨w.heap.size + 1 + 1, 0, none⟩) (by simp)).trans (cell_new (by simp) rfl)
    · exact (hZ.cell (p := ⟨w.heap.size + 1 + 1, 1, none⟩) (by simp)).trans (cell_new (by simp) rfl)
    · exact (hZ.cell (p := ⟨w.heap.size + 1 + 1, 2, none⟩) (by simp)).trans (cell_new (by simp) rfl)
    · exact (hZ.cell (p := ⟨w.heap.size + 1 + 1, 3, none⟩) (by simp)).trans (cell_new (by simp) rfl)
  obtain ⟨R, hR⟩ : ∃ R, ckBk vars n ⟨code, te, th, el⟩ = R := ⟨_, rfl⟩
  rw [hR]
  have HBK := Lib.hid hR
  clear hl hR
  go_enter Try.func42, Try.ntmps42
  go_wp2
  go_loopw [15] (fun z wr => ∃ c : Nat, c ≤ cl ∧ z = .int .i64 c ∧ ckStepsF vars vars code = ckStepsF vars vars (code.drop c) ∧ Below (w.heap.size + 3) (((w.alloc (.cells #[.int .i64 vars] 3)).alloc (.cells #[.int .i64 n] 3)).alloc (.cells #[.slice Ac cl cc, .int .i64 te, .int .i64 th, .int .i64 el] 65)) wr) (fun z _ => cl - (intOf z).toNat)
  case atStart => exact ⟨0, Nat.zero_le _, rfl, rfl, Below.refl _ _⟩
  case round =>
    obtain ⟨c, hc, rfl, hr, hbb⟩ := hrel
    have HR := Lib.hid hr
    have hb : Below w.heap.size w wr := Below.trans (by go_grown) (hbb.mono (by omega))
    have hsz : w.heap.size + 3 ≤ wr.heap.size := by have := hbb.size; simp at this; omega
    have hz1 : w.heap.size < wr.heap.size := by omega
    have hz2 : w.heap.size + 1 < wr.heap.size := by omega
    have hz3 : w.heap.size + 1 + 1 < wr.heap.size := by omega
    obtain ⟨hq0, hq1, hr0, hr1, hr2, hr3⟩ := HBX.out wr hbb
    clear hr
    by_cases hlt : c < cl
    · obtain ⟨ad, o, t, a, b, v, rfl, hbl, hd, hc0, hc1, hc2, hc3, hc4⟩ := (hx.below hb (Nat.le_refl _)).at_ (k := c) (by rw [HL.out]; exact hlt)
      have HD := Lib.hid (drop_at hd)
      clear hd
      by_cases hop : ckStep vars vars o t a b v = 0
      · have HO := Lib.hid hop
        have e1 : (ckStep vars vars o t a b v != 0) = false := by simp [hop]
        clear hop
        go_wp2_with (go_at_call 47; (with_reducible refine (checkStep_any _ _ _ _ _ _ _ _).mono ?_); rintro e w1 ⟨rfl, hb1⟩)
        go_round
        case rel => exact ⟨c + 1, by omega, by go_num, by rw [HR.out, HD.out]; exact ckStepsF_go HO.out, hbb.trans (Below.trans (by go_grown : Below (w.heap.size + 3) wr _) (hb1.mono (by simp; omega)))⟩
        case measure => (simp [intOf]; omega)
      · have HO := Lib.hid hop
        have e1 : (ckStep vars vars o t a b v != 0) = true := by simp [hop]
        clear hop
        go_wp2_with (go_at_call 47; (with_reducible refine (checkStep_any _ _ _ _ _ _ _ _).mono ?_); rintro e w1 ⟨rfl, hb1⟩)
        go_ret
        refine ⟨ret_int ?_, (by go_grown : Below w.heap.size w _).trans (hb1.mono (by simp; omega))⟩
        have hq : ckStepsF vars vars code = ckStep vars vars o t a b v := by rw [HR.out, HD.out]; exact (ckStepsF_stop rfl HO.out).symm
        rw [← HBK.out]
        unfold ckBk
        rw [if_pos (by rw [hq]; exact HO.out), hq]
    · have hcl : c = cl := by omega
      have hq : ckStepsF vars vars code = 0 := by rw [HR.out, hcl, HFUL.out]; rfl
      have ht := ckBk_tail (n := n) (te := te) (th := th) (el := el) hq
      rw [HBK.out] at ht
      have HT := Lib.hid ht
      clear hq hcl hbb ht
      go_wp2
      all_goals
        go_ret
        refine ⟨ret_int ?_, by go_grown⟩
        rw [HT.out]
        (go_light; (try simp only [Bool.not_eq_true', Bool.not_eq_false', decide_eq_true_eq, decide_eq_false_iff_not, beq_iff_eq, beq_eq_false_iff_ne, bne_iff_ne, bne_eq_false_iff_eq, ne_eq, Bool.and_eq_true, Bool.or_eq_true, Bool.and_eq_false_iff, Bool.or_eq_false_iff, Decidable.not_not] at *))
        unfold ckTail
        (repeat' split) <;> omega

end Go.Proofs.Ytlfmofhimkndoaa

/-
  block.Check (J1).
-/

namespace Go.Proofs.Ytlfmofhimkndoaa
open Go.RowKit
set_option linter.unusedSimpArgs false
set_option linter.unusedVariables false
set_option maxRecDepth 100000

set_option maxHeartbeats 4000000 in
theorem blockCheck_any (vars : Int) (A : Option Addr) (len cap : Nat) (p : List Bk) (w : World) (hx : RdP w w.heap.size A p) (hl : p.length = len) (hm : len ≤ maxLen) (hin : CodeFits p) :
    Calls Try.prog 26 #[.int .i64 vars, .slice A len cap] w fun e w' => e = .returned (.int .i64 (ckProg vars p)) ∧ Below w.heap.size w w' := by
  unfold maxLen at hm
  by_cases hbad : vars < 1 ∨ 6 < vars ∨ len < 1 ∨ 8 < len
  · have hck : ckProg vars p = 1 := by unfold ckProg; rw [hl, if_pos (by omega)]
    rw [hck]
    clear hck hl hin hx
    go_enter Try.func26, Try.ntmps26
    go_wp2_with fail
    all_goals first
      | (go_ret; exact ⟨rfl, by go_grown⟩)
      | (exfalso; simp_all; omega)
  · have v1 : 1 ≤ vars := by omega
    have v2 : vars ≤ 6 := by omega
    have v3 : 1 ≤ len := by omega
    have v4 : len ≤ 8 := by omega
    have f1 : decide (vars < 1) = false := by simp; omega
    have f2 : decide (6 < vars) = false := by simp; omega
    have f3 : ((len : Int) == 0) = false := by simp; omega
    have f4 : decide (8 < (len : Int)) = false := by simp; omega
    have HL := Lib.hid hl
    have HCNT := Lib.hid (countSteps_any A len cap p w hx hl v4 hin)
    have HCK : Hid (ckProg vars p = if 20 < manyS p then 1 else ckBks vars len p) := Lib.hid (by unfold ckProg; rw [hl]; by_cases h : 20 < manyS p <;> simp [h] <;> omega)
    have hms : manyS p ≤ 28147497670247 := by
      have h1 := manyS_fits (p := p) hin
      rw [hl] at h1
      omega
    obtain ⟨m, hme⟩ : ∃ m, manyS p = m := ⟨_, rfl⟩
    have HME := Lib.hid hme
    rw [hme] at HCK HCNT hms
    clear hl hin hme hbad
    obtain ⟨R, hR⟩ : ∃ R, ckProg vars p = R := ⟨_, rfl⟩
    rw [hR] at HCK ⊢
    clear hR
    by_cases h20 : 20 < m
    · have hck := HCK.out
      rw [if_pos h20] at hck
      have HC1 := Lib.hid hck
      have f5 : decide (20 < (m : Int)) = true := by simp; omega
      clear hck HCK
      go_enter Try.func26, Try.ntmps26
      go_wp2_with (go_at_call 41; (with_reducible refine HCNT.out.mono ?_); rintro e w1 ⟨rfl, hb1⟩)
      go_ret
      exact ⟨ret_int HC1.out.symm, hb1⟩
    · have hck := HCK.out
      rw [if_neg h20] at hck
      have HC1 := Lib.hid hck
      have f5 : decide (20 < (m : Int)) = false := by simp; omega
      have hm20 : m ≤ 20 := by omega
      clear hck HCK h20
      go_enter Try.func26, Try.ntmps26
      go_wp2_with (go_at_call 41; (with_reducible refine HCNT.out.mono ?_); rintro e w1 ⟨rfl, hb1⟩)
      have hsz1 := hb1.size
      go_loopw [31] (fun z wr => ∃ k : Nat, k ≤ len ∧ z = .int .i64 k ∧ R = ckBks vars len (p.drop k) ∧ Below w.heap.size w wr) (fun z _ => len - (intOf z).toNat)
      case atStart => exact ⟨0, Nat.zero_le _, rfl, HC1.out, hb1⟩
      case round =>
        obtain ⟨k, hk, rfl, hr, hb⟩ := hrel
        have HR := Lib.hid hr
        have hsz := hb.size
        clear hr
        by_cases hlt : k < len
        · obtain ⟨ad, ⟨code, te, th, el⟩, Ac, cc, rfl, hbl, hd, hrow, hc0, hc1, hc2, hc3⟩ := (hx.below hb (Nat.le_refl _)).at_ (k := k) (by rw [HL.out]; exact hlt)
          have HD := Lib.hid (ckBks_drop (vars := vars) (n := (len : Int)) hd)
          have hcm := manyS_le hd
          rw [HME.out] at hcm
          simp only [] at hc0 hc1 hc2 hc3 hcm hrow
          obtain ⟨cl, hcl⟩ : ∃ cl, code.length = cl := ⟨_, rfl⟩
          rw [hcl] at hc0 hcm
          have HCB : Hid (∀ Z : World, Below wr.heap.size wr Z → Calls Try.prog 42 #[.int .i64 vars, .int .i64 len, .agg #[.slice Ac cl cc, .int .i64 te, .int .i64 th, .int .i64 el]] Z fun e w' => e = .returned (.int .i64 (ckBk vars len ⟨code, te, th, el⟩)) ∧ Below Z.heap.size Z w') := Lib.hid fun Z hZ =>
            checkBlock_any vars len te th el Ac cl cc code Z (((hrow.more hsz).below hZ (Nat.le_refl _)).more hZ.size) hcl (by omega)
          obtain ⟨x, hxe⟩ : ∃ x, ckBk vars len ⟨code, te, th, el⟩ = x := ⟨_, rfl⟩
          rw [hxe] at HCB HD
          clear hd hcl hxe hrow
          by_cases hop : x = 0
          · subst hop
            go_wp2_with (go_at_call 42; (with_reducible refine (HCB.out _ (by go_grown)).mono ?_); rintro e w2 ⟨rfl, hb2⟩)
            go_round
            case rel => exact ⟨k + 1, by omega, by go_num, by rw [HR.out, HD.out]; simp, (by go_grown : Below w.heap.size w _).trans (hb2.mono (by go_size))⟩
            case measure => (simp [intOf]; omega)
          · have e1 : (x != 0) = true := by simp [hop]
            have HO := Lib.hid hop
            clear hop
            go_wp2_with (go_at_call 42; (with_reducible refine (HCB.out _ (by go_grown)).mono ?_); rintro e w2 ⟨rfl, hb2⟩)
            go_ret
            exact ⟨ret_int (by rw [HR.out, HD.out, if_neg HO.out]), (by go_grown : Below w.heap.size w _).trans (hb2.mono (by go_size))⟩
        · have hkl : len ≤ k := by omega
          have hd0 : p.drop k = [] := List.drop_of_length_le (by rw [HL.out]; exact hkl)
          have hz : R = 0 := by rw [HR.out, hd0]; rfl
          have HZ := Lib.hid hz
          clear hd0 hz hkl
          go_wp2
          go_ret
          exact ⟨ret_int HZ.out.symm, hb⟩

end Go.Proofs.Ytlfmofhimkndoaa
