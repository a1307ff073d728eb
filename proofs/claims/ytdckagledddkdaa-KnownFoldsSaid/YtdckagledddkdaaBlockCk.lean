/-
  block.countSteps, block.checkBlock, block.Check (J1).
-/
import Derived.Test.YtdckagledddkdaaBlockRef
import Derived.Test.YtdckagledddkdaaStepCk
namespace Go.Proofs.Ytdckagledddkdaa
open Go.RowKit
set_option linter.unusedSimpArgs false
set_option linter.unusedVariables false
set_option maxRecDepth 100000

/-- the steps of each block fit into a machine -/
def CodeFits (p : List Bk) : Prop := ∀ b ∈ p, b.code.length * 40 ≤ 140737488351232

theorem CodeFits.of_in {p : List Bk} (h : ∀ b ∈ p, InBk b) : CodeFits p := fun b hb => (h b hb).1

theorem CodeFits.of_ok {vars : Int} {p : List Bk} (h : ckProg vars p = 0) : CodeFits p := fun b hb => by
  obtain ⟨k, hk, rfl⟩ := List.getElem_of_mem hb
  have h1 := manyS_le (List.getElem?_eq_getElem hk)
  have h2 := (ckProg_bd h).2.2.2.2.1
  omega

theorem manyS_fits : ∀ {p : List Bk}, CodeFits p → manyS p * 40 ≤ p.length * 140737488351232
  | [], _ => by simp [manyS]
  | b :: p, h => by
    have h1 := h b (List.mem_cons_self ..)
    have h2 := manyS_fits (p := p) fun x hx => h x (List.mem_cons_of_mem _ hx)
    simp only [manyS, List.length_cons]
    omega

set_option maxHeartbeats 4000000 in
theorem countSteps_any (A : Option Addr) (len cap : Nat) (p : List Bk) (w : World) (hx : RdP w w.heap.size A p) (hl : p.length = len) (h8 : len ≤ 8) (hin : CodeFits p) :
    Calls Try.prog 42 #[.slice A len cap] w fun e w' => e = .returned (.int .i64 (manyS p : Nat)) ∧ Below w.heap.size w w' := by
  have HL := Lib.hid hl
  have hsm : Hid (∀ k, k ≤ 8 → manyS (p.take k) ≤ 28147497670247) := Lib.hid fun k hk => by
    have h1 := manyS_fits (p := p.take k) fun b hb => hin b (List.mem_of_mem_take hb)
    have h2 : (p.take k).length ≤ 8 := by rw [List.length_take]; omega
    omega
  have HMT := Lib.hid (fun (k : Nat) (b : Bk) (h : p[k]? = some b) => manyS_take h)
  have HFULL : Hid (p.take len = p) := Lib.hid (by rw [← hl, List.take_length])
  clear hl hin
  go_enter Try.func42, Try.ntmps42
  go_wp2
  go_loopw [3, 8] (fun s z wr => ∃ k : Nat, k ≤ len ∧ z = .int .i64 k ∧ s = .int .i64 (manyS (p.take k) : Nat) ∧ Below w.heap.size w wr) (fun _ z _ => len - (intOf z).toNat)
  case atStart => exact ⟨0, Nat.zero_le _, rfl, by simp [manyS], Below.refl _ _⟩
  case round =>
    obtain ⟨k, hk, rfl, rfl, hb⟩ := hrel
    have hsz := hb.size
    by_cases hlt : k < len
    · obtain ⟨ad, b, Ac, cc, rfl, hbl, hd, hrow, hc0, hc1, hc2, hc3⟩ := (hx.below hb (Nat.le_refl _)).at_ (k := k) (by rw [HL.out]; exact hlt)
      have hmt := HMT.out k b hd
      have hs1 := hsm.out k (by omega)
      have hs2 := hsm.out (k + 1) (by omega)
      rw [hmt] at hs2
      have HT := Lib.hid hmt
      obtain ⟨m, hme⟩ : ∃ m, manyS (p.take k) = m := ⟨_, rfl⟩
      obtain ⟨cl, hcl⟩ : ∃ cl, b.code.length = cl := ⟨_, rfl⟩
      rw [hme, hcl] at HT
      rw [hme] at hs1 ⊢
      rw [hme, hcl] at hs2
      rw [hcl] at hc0
      clear hd hmt hme hcl
      go_wp2
      go_round
      case rel => exact ⟨k + 1, by omega, by go_num, by rw [HT.out]; go_num, by go_grown⟩
      case measure => (simp [intOf]; omega)
    · have hkl : k = len := by omega
      have hmp : manyS (p.take k) = manyS p := by rw [hkl, HFULL.out]
      rw [hmp]
      go_wp2
      go_ret
      exact ⟨rfl, hb⟩

set_option maxHeartbeats 4000000 in
theorem checkBlock_any (vars n te th el : Int) (Ac : Option Addr) (cl cc : Nat) (code : List St) (w : World) (hx : RdS w w.heap.size Ac code) (hl : code.length = cl) (h20 : cl ≤ 20) :
    Calls Try.prog 43 #[.int .i64 vars, .int .i64 n, .agg #[.slice Ac cl cc, .int .i64 te, .int .i64 th, .int .i64 el]] w fun e w' => e = .returned (.int .i64 (ckBk vars n ⟨code, te, th, el⟩)) ∧ Below w.heap.size w w' := by
  have HL := Lib.hid hl
  have HFUL : Hid (code.drop cl = []) := Lib.hid (List.drop_of_length_le (by rw [hl]; exact Nat.le_refl _))
  have HBX : Hid (∀ Z : World, Below (w.heap.size + 3) (((w.alloc (.cells #[.int .i64 vars] 3)).alloc (.cells #[.int .i64 n] 3)).alloc (.cells #[.slice Ac cl cc, .int .i64 te, .int .i64 th, .int .i64 el] 44)) Z →
      Z.cell? ⟨w.heap.size, 0, none⟩ = some (.int .i64 vars) ∧ Z.cell? ⟨w.heap.size + 1, 0, none⟩ = some (.int .i64 n) ∧ Z.cell? ⟨w.heap.size + 1 + 1, 0, none⟩ = some (.slice Ac cl cc) ∧ Z.cell? ⟨w.heap.size + 1 + 1, 1, none⟩ = some (.int .i64 te) ∧ Z.cell? ⟨w.heap.size + 1 + 1, 2, none⟩ = some (.int .i64 th) ∧ Z.cell? ⟨w.heap.size + 1 + 1, 3, none⟩ = some (.int .i64 el)) := Lib.hid fun Z hZ => by
    refine ⟨?_, ?_, ?_, ?_, ?_, ?_⟩
    · exact (hZ.cell (p := ⟨w.heap.size, 0, none⟩) (by simp)).trans ((World.cell?_alloc_lt _ _ _ (by simp; omega)).trans (by simp))
    · exact (hZ.cell (p := ⟨w.heap.size + 1, 0, none⟩) (by simp)).trans ((World.cell?_alloc_lt _ _ _ (by simp)).trans (by simp))
    · exact (hZ.cell (p := ⟨w.heap.size + 1 + 1, 0, none⟩) (by simp)).trans (cell_new (by simp) rfl)
    · exact (hZ.cell (p := ⟨w.heap.size + 1 + 1, 1, none⟩) (by simp)).trans (cell_new (by simp) rfl)
    · exact (hZ.cell (p := ⟨w.heap.size + 1 + 1, 2, none⟩) (by simp)).trans (cell_new (by simp) rfl)
    · exact (hZ.cell (p := ⟨w.heap.size + 1 + 1, 3, none⟩) (by simp)).trans (cell_new (by simp) rfl)
  obtain ⟨R, hR⟩ : ∃ R, ckBk vars n ⟨code, te, th, el⟩ = R := ⟨_, rfl⟩
  rw [hR]
  have HBK := Lib.hid hR
  clear hl hR
  go_enter Try.func43, Try.ntmps43
  go_wp2
  go_loopw [15] (fun z wr => ∃ c : Nat, c ≤ cl ∧ z = .int .i64 c ∧ ckStepsF vars vars code = ckStepsF vars vars (code.drop c) ∧ Below (w.heap.size + 3) (((w.alloc (.cells #[.int .i64 vars] 3)).alloc (.cells #[.int .i64 n] 3)).alloc (.cells #[.slice Ac cl cc, .int .i64 te, .int .i64 th, .int .i64 el] 44)) wr) (fun z _ => cl - (intOf z).toNat)
  case atStart => exact ⟨0, Nat.zero_le _, rfl, rfl, Below.refl _ _⟩
  case round =>
    obtain ⟨c, hc, rfl, hr, hbb⟩ := hrel
    have HR := Lib.hid hr
    have hb : Below w.heap.size w wr := Below.trans (by go_grown) (hbb.mono (by omega))
    have hsz : w.heap.size + 3 ≤ wr.heap.size := by have := hbb.size; simp at this; omega
    have hz1 : w.heap.size < wr.heap.size := by omega
    have hz2 : w.heap.size + 1 < wr.heap.size := by omega
    have hz3 : w.heap.size + 1 + 1 < wr.heap.size := by omega
    obtain ⟨hq0, hq1, hr0, hr1, hr2, hr3⟩ := HBX.out wr hbb
    clear hr
    by_cases hlt : c < cl
    · obtain ⟨ad, o, t, a, b, v, rfl, hbl, hd, hc0, hc1, hc2, hc3, hc4⟩ := (hx.below hb (Nat.le_refl _)).at_ (k := c) (by rw [HL.out]; exact hlt)
      have HD := Lib.hid (drop_at hd)
      clear hd
      by_cases hop : ckStep vars vars o t a b v = 0
      · have HO := Lib.hid hop
        have e1 : (ckStep vars vars o t a b v != 0) = false := by simp [hop]
        clear hop
        go_wp2_with (go_at_call 45; (with_reducible refine (checkStep_any _ _ _ _ _ _ _ _).mono ?_); rintro e w1 ⟨rfl, hb1⟩)
        go_round
        case rel => exact ⟨c + 1, by omega, by go_num, by rw [HR.out, HD.out]; exact ckStepsF_go HO.out, hbb.trans (Below.trans (by go_grown : Below (w.heap.size + 3) wr _) (hb1.mono (by simp; omega)))⟩
        case measure => (simp [intOf]; omega)
      · have HO := Lib.hid hop
        have e1 : (ckStep vars vars o t a b v != 0) = true := by simp [hop]
        clear hop
        go_wp2_with (go_at_call 45; (with_reducible refine (checkStep_any _ _ _ _ _ _ _ _).mono ?_); rintro e w1 ⟨rfl, hb1⟩)
        go_ret
        refine ⟨ret_int ?_, (by go_grown : Below w.heap.size w _).trans (hb1.mono (by simp; omega))⟩
        have hq : ckStepsF vars vars code = ckStep vars vars o t a b v := by rw [HR.out, HD.out]; exact (ckStepsF_stop rfl HO.out).symm
        rw [← HBK.out]
        unfold ckBk
        rw [if_pos (by rw [hq]; exact HO.out), hq]
    · have hcl : c = cl := by omega
      have hq : ckStepsF vars vars code = 0 := by rw [HR.out, hcl, HFUL.out]; rfl
      have ht := ckBk_tail (n := n) (te := te) (th := th) (el := el) hq
      rw [HBK.out] at ht
      have HT := Lib.hid ht
      clear hq hcl hbb ht
      go_wp2
      all_goals
        go_ret
        refine ⟨ret_int ?_, by go_grown⟩
        rw [HT.out]
        (go_light; (try simp only [Bool.not_eq_true', Bool.not_eq_false', decide_eq_true_eq, decide_eq_false_iff_not, beq_iff_eq, beq_eq_false_iff_ne, bne_iff_ne, bne_eq_false_iff_eq, ne_eq, Bool.and_eq_true, Bool.or_eq_true, Bool.and_eq_false_iff, Bool.or_eq_false_iff, Decidable.not_not] at *))
        unfold ckTail
        (repeat' split) <;> omega

end Go.Proofs.Ytdckagledddkdaa
