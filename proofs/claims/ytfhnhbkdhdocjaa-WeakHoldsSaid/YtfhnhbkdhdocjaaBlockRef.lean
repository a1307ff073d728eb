/-
  codemasonref.ProgCheck (J1).
-/
import Derived.Test.YtfhnhbkdhdocjaaBlockOpen
import Derived.Test.YtfhnhbkdhdocjaaMTerm
namespace Go.Proofs.Ytfhnhbkdhdocjaa
open Go.RowKit
set_option linter.unusedSimpArgs false
set_option linter.unusedVariables false
set_option maxRecDepth 100000

/-- J1: what is said of a block's ways -/
def ckTail (vars n te th el : Int) : Int :=
  if te ≠ -1 ∧ ¬ (0 ≤ te ∧ te < vars) then 2
  else if te = -1 ∧ th ≠ -1 ∧ ¬ (0 ≤ th ∧ th < n) then 3
  else if 0 ≤ te ∧ ¬ (0 ≤ th ∧ th < n ∧ 0 ≤ el ∧ el < n) then 3 else 0

theorem ckBk_tail {vars n : Int} {c : List St} {te th el : Int} (h : ckStepsF vars vars c = 0) : ckBk vars n ⟨c, te, th, el⟩ = ckTail vars n te th el := by
  unfold ckBk ckTail
  rw [if_neg (by simp [h])]

theorem manyS_small : ∀ {p : List Bk}, (∀ b ∈ p, InBk b) → manyS p * 40 ≤ p.length * 140737488351232
  | [], _ => by simp [manyS]
  | b :: p, h => by
    have h1 := (h b (List.mem_cons_self ..)).1
    have h2 := manyS_small (p := p) fun x hx => h x (List.mem_cons_of_mem _ hx)
    simp only [manyS, List.length_cons]
    omega

set_option maxHeartbeats 4000000 in
theorem refProgCheck_any (vars : Int) (A : Option Addr) (len cap : Nat) (p : List Bk) (w : World) (hx : RdP w w.heap.size A p) (hl : p.length = len) (hm : len ≤ maxLen) (hin : ∀ b ∈ p, InBk b) :
    Calls Try.prog 25 #[.int .i64 vars, .slice A len cap] w fun e w' => e = .returned (.int .i64 (ckProg vars p)) ∧ Below w.heap.size w w' := by
  unfold maxLen at hm
  have HL := Lib.hid hl
  by_cases h8 : len ≤ 8
  · have hsm : Hid (∀ k, k ≤ 8 → manyS (p.take k) ≤ 28147497670247) := Lib.hid fun k hk => by
      have h1 := manyS_small (p := p.take k) fun b hb => hin b (List.mem_of_mem_take hb)
      have h2 : (p.take k).length ≤ 8 := by rw [List.length_take]; omega
      omega
    have HIN := Lib.hid hin
    have HMT := Lib.hid (fun (k : Nat) (b : Bk) (h : p[k]? = some b) => manyS_take h)
    have HFULL : Hid (p.take len = p) := Lib.hid (by rw [← hl, List.take_length])
    have HCK : Hid (ckProg vars p = if vars < 1 ∨ 6 < vars ∨ len < 1 ∨ 8 < len ∨ 20 < manyS p then 1 else ckBks vars len p) := Lib.hid (by unfold ckProg; rw [hl])
    clear hl hin
    go_enter Try.func25, Try.ntmps25
    go_wp2
    go_loopw [5, 15] (fun s z wr => ∃ k : Nat, k ≤ len ∧ z = .int .i64 k ∧ s = .int .i64 (manyS (p.take k) : Nat) ∧ Below w.heap.size w wr) (fun _ z _ => len - (intOf z).toNat)
    case atStart => exact ⟨0, Nat.zero_le _, rfl, by simp [manyS], Below.refl _ _⟩
    case round =>
      obtain ⟨k, hk, rfl, rfl, hb⟩ := hrel
      have hsz := hb.size
      by_cases hlt : k < len
      · obtain ⟨ad, b, Ac, cc, rfl, hbl, hd, hrow, hc0, hc1, hc2, hc3⟩ := (hx.below hb (Nat.le_refl _)).at_ (k := k) (by rw [HL.out]; exact hlt)
        have hmt := HMT.out k b hd
        have hs1 := hsm.out k (by omega)
        have hs2 := hsm.out (k + 1) (by omega)
        rw [hmt] at hs2
        have HT := Lib.hid hmt
        obtain ⟨m, hme⟩ : ∃ m, manyS (p.take k) = m := ⟨_, rfl⟩
        obtain ⟨cl, hcl⟩ : ∃ cl, b.code.length = cl := ⟨_, rfl⟩
        rw [hme, hcl] at HT
        rw [hme] at hs1 ⊢
        rw [hme, hcl] at hs2
        rw [hcl] at hc0
        clear hd hmt hme hcl
        go_wp2
        go_round
        case rel => exact ⟨k + 1, by omega, by go_num, by rw [HT.out]; go_num, by go_grown⟩
        case measure => (simp [intOf]; omega)
      · have hkl : k = len := by omega
        have hmp : manyS (p.take k) = manyS p := by rw [hkl, HFULL.out]
        rw [hmp]
        have hsp := hsm.out k (by omega)
        rw [hmp] at hsp
        obtain ⟨m, hme⟩ : ∃ m, manyS p = m := ⟨_, rfl⟩
        rw [hme] at HCK hsp ⊢
        have HME := Lib.hid hme
        obtain ⟨wv, rfl⟩ : ∃ wv : World, wv = wr := ⟨_, rfl⟩
        clear hmp hme hkl
        by_cases hbad : vars < 1 ∨ 6 < vars ∨ len < 1 ∨ 8 < len ∨ 20 < m
        · have hck := HCK.out
          rw [if_pos hbad] at hck
          have HC1 := Lib.hid hck
          clear hck
          go_wp2
          all_goals first
            | (go_ret; exact ⟨ret_int HC1.out.symm, hb⟩)
            | (exfalso; simp_all; omega)
        · have hck := HCK.out
          rw [if_neg hbad] at hck
          have HC1 := Lib.hid hck
          have v1 : 1 ≤ vars := by omega
          have v2 : vars ≤ 6 := by omega
          have v3 : 1 ≤ len := by omega
          have v5 : m ≤ 20 := by omega
          clear hck hbad
          go_wp2
          go_loopw [47] (fun z wr => ∃ k : Nat, k ≤ len ∧ z = .int .i64 k ∧ ckProg vars p = ckBks vars len (p.drop k) ∧ Below w.heap.size w wr) (fun z _ => len - (intOf z).toNat)
          case atStart => exact ⟨0, Nat.zero_le _, rfl, by rw [HC1.out]; rfl, hb⟩
          case round =>
            obtain ⟨k, hk, rfl, hr, hb2⟩ := hrel
            have HR := Lib.hid hr
            have hsz2 := hb2.size
            clear hr
            by_cases hlt : k < len
            · obtain ⟨ad, ⟨code, te, th, el⟩, Ac, cc, rfl, hbl, hd, hrow, hc0, hc1, hc2, hc3⟩ := (hx.below hb2 (Nat.le_refl _)).at_ (k := k) (by rw [HL.out]; exact hlt)
              have HD := Lib.hid (ckBks_drop (vars := vars) (n := (len : Int)) hd)
              have hcm := manyS_le hd
              rw [HME.out] at hcm
              simp only [] at hc0 hc1 hc2 hc3 hcm hrow
              obtain ⟨cl, hcl⟩ : ∃ cl, code.length = cl := ⟨_, rfl⟩
              rw [hcl] at hc0 hcm
              have HCL := Lib.hid hcl
              have HFUL2 : Hid (code.drop cl = []) := Lib.hid (List.drop_of_length_le (by rw [hcl]; exact Nat.le_refl _))
              obtain ⟨wi, rfl⟩ : ∃ wi : World, wi = wr := ⟨_, rfl⟩
              clear hd hcl
              have hownb := Own.new wi 79 [.slice Ac cl cc, .int .i64 te, .int .i64 th, .int .i64 el]
              have hbb : Below w.heap.size w (wi.alloc (.cells #[.slice Ac cl cc, .int .i64 te, .int .i64 th, .int .i64 el] 79)) := by go_grown
              go_wp2
              go_loopw [54] (fun z wr => ∃ c : Nat, c ≤ cl ∧ z = .int .i64 c ∧ ckStepsF vars vars code = ckStepsF vars vars (code.drop c) ∧ Own wr wi.heap.size 79 [.slice Ac cl cc, .int .i64 te, .int .i64 th, .int .i64 el] ∧ Below w.heap.size w wr) (fun z _ => cl - (intOf z).toNat)
              case atStart => exact ⟨0, Nat.zero_le _, rfl, rfl, hownb, hbb⟩
              case round =>
                obtain ⟨c, hc, rfl, hr, hown, hb3⟩ := hrel
                have HR2 := Lib.hid hr
                have hsz3 := hb3.size
                have hlt3 := hown.lt
                clear hr
                by_cases hct : c < cl
                · obtain ⟨ad2, o, t, a, b, v, rfl, hbl2, hd, e0, e1, e2, e3, e4⟩ := (RdS.below hrow (by exact (show Below w.heap.size wi wr from ⟨hb3.os.trans hb2.os.symm, hb3.tape.trans hb2.tape.symm, hb3.output.trans hb2.output.symm, by omega, fun g hg => (hb3.block g hg).trans (hb2.block g hg).symm⟩)) (Nat.le_refl _)).at_ (k := c) (by rw [HCL.out]; exact hct)
                  have HD2 := Lib.hid (drop_at hd)
                  clear hd
                  by_cases hop : ckStep vars vars o t a b v = 0
                  · have HO := Lib.hid hop
                    have n1 : (ckStep vars vars o t a b v != 0) = false := by simp [hop]
                    clear hop
                    go_wp2_with (go_at_call 55; (with_reducible refine (stepCheck_any _ _ _ _ _ _ _ _).mono ?_); rintro e w1 ⟨rfl, hb4⟩)
                    go_round
                    case rel => exact ⟨c + 1, by omega, by go_num, by rw [HR2.out, HD2.out]; exact ckStepsF_go HO.out, (hown.alloc _).below hb4 (by go_size), (hb3.trans ((by go_grown : Below wr.heap.size wr _).mono hsz3)).trans (hb4.mono (by go_size))⟩
                    case measure => (simp [intOf]; omega)
                  · have HO := Lib.hid hop
                    have n1 : (ckStep vars vars o t a b v != 0) = true := by simp [hop]
                    clear hop
                    go_wp2_with (go_at_call 55; (with_reducible refine (stepCheck_any _ _ _ _ _ _ _ _).mono ?_); rintro e w1 ⟨rfl, hb4⟩)
                    go_ret
                    refine ⟨ret_int ?_, (hb3.trans ((by go_grown : Below wr.heap.size wr _).mono hsz3)).trans (hb4.mono (by go_size))⟩
                    have hq : ckStepsF vars vars code = ckStep vars vars o t a b v := by rw [HR2.out, HD2.out]; exact (ckStepsF_stop rfl HO.out).symm
                    have hk2 : ckBk vars len ⟨code, te, th, el⟩ = ckStep vars vars o t a b v := by unfold ckBk; rw [if_pos (by rw [hq]; exact HO.out), hq]
                    rw [HR.out, HD.out, hk2, if_neg HO.out]
                · have hcl2 : c = cl := by omega
                  have hq : ckStepsF vars vars code = 0 := by rw [HR2.out, hcl2, HFUL2.out]; rfl
                  have HT := Lib.hid (ckBk_tail (n := (len : Int)) (te := te) (th := th) (el := el) hq)
                  have q0 := hown.cell (j := 0) rfl
                  have q1 := hown.cell (j := 1) rfl
                  have q2 := hown.cell (j := 2) rfl
                  have q3 := hown.cell (j := 3) rfl
                  clear hq hcl2 hown hownb hbb hrow
                  go_wp2_with (first
                    | (go_at_call 34; (with_reducible refine (inside1_any _ te _ _ _ ?_).mono ?_); (· (exact cell_new (by simp) rfl)); rintro e w1 ⟨rfl, rfl⟩)
                    | (go_at_call 34; (with_reducible refine (inside1_any _ th _ _ _ ?_).mono ?_); (· (exact cell_new (by simp) rfl)); rintro e w1 ⟨rfl, rfl⟩)
                    | (go_at_call 34; (with_reducible refine (inside2_any _ th el _ _ _ ?_ ?_).mono ?_); (· (exact cell_new (by simp) rfl)); (· (exact cell_new (by simp) rfl)); rintro e w1 ⟨rfl, rfl⟩))
                  all_goals first
                    | (go_round
                       case rel =>
                         have e : ckTail vars len te th el = 0 := by
                           (go_light; (try simp only [Bool.not_eq_true', Bool.not_eq_false', decide_eq_true_eq, decide_eq_false_iff_not, beq_iff_eq, beq_eq_false_iff_ne, bne_iff_ne, bne_eq_false_iff_eq, ne_eq, Bool.and_eq_true, Bool.or_eq_true, Bool.and_eq_false_iff, Bool.or_eq_false_iff, Decidable.not_not] at *))
                           unfold ckTail
                           (repeat' split) <;> omega
                         exact ⟨k + 1, by omega, by go_num, by rw [HR.out, HD.out, HT.out, if_pos e], by go_grown⟩
                       case measure => (simp [intOf]; omega))
                    | (go_ret
                       refine ⟨ret_int ?_, by go_grown⟩
                       first
                         | (have e : ckTail vars len te th el = 2 := by
                              (go_light; (try simp only [Bool.not_eq_true', Bool.not_eq_false', decide_eq_true_eq, decide_eq_false_iff_not, beq_iff_eq, beq_eq_false_iff_ne, bne_iff_ne, bne_eq_false_iff_eq, ne_eq, Bool.and_eq_true, Bool.or_eq_true, Bool.and_eq_false_iff, Bool.or_eq_false_iff, Decidable.not_not] at *))
                              unfold ckTail
                              (repeat' split) <;> omega
                            rw [HR.out, HD.out, HT.out, e]; rfl)
                         | (have e : ckTail vars len te th el = 3 := by
                              (go_light; (try simp only [Bool.not_eq_true', Bool.not_eq_false', decide_eq_true_eq, decide_eq_false_iff_not, beq_iff_eq, beq_eq_false_iff_ne, bne_iff_ne, bne_eq_false_iff_eq, ne_eq, Bool.and_eq_true, Bool.or_eq_true, Bool.and_eq_false_iff, Bool.or_eq_false_iff, Decidable.not_not] at *))
                              unfold ckTail
                              (repeat' split) <;> omega
                            rw [HR.out, HD.out, HT.out, e]; rfl))
            · have hkl : len ≤ k := by omega
              have hd0 : p.drop k = [] := List.drop_of_length_le (by rw [HL.out]; exact hkl)
              have hz : ckProg vars p = 0 := by rw [HR.out, hd0]; rfl
              have HZ := Lib.hid hz
              clear hkl hd0 hz
              go_wp2
              go_ret
              exact ⟨ret_int HZ.out.symm, hb2⟩
  · have hck : ckProg vars p = 1 := by unfold ckProg; rw [hl, if_pos (by omega)]
    rw [hck]
    clear hck hl hin
    go_enter Try.func25, Try.ntmps25
    go_wp2
    go_loopw [5, 15] (fun s z wr => ∃ (k : Nat) (m : Int), k ≤ len ∧ z = .int .i64 k ∧ s = .int .i64 m ∧ Below w.heap.size w wr) (fun _ z _ => len - (intOf z).toNat)
    case atStart => exact ⟨0, 0, Nat.zero_le _, rfl, rfl, Below.refl _ _⟩
    case round =>
      obtain ⟨k, m, hk, rfl, rfl, hb⟩ := hrel
      have hsz := hb.size
      by_cases hlt : k < len
      · obtain ⟨ad, b, Ac, cc, rfl, hbl, hd, hrow, hc0, hc1, hc2, hc3⟩ := (hx.below hb (Nat.le_refl _)).at_ (k := k) (by rw [HL.out]; exact hlt)
        obtain ⟨cl, hcl⟩ : ∃ cl, b.code.length = cl := ⟨_, rfl⟩
        rw [hcl] at hc0
        clear hd hcl
        go_wp2
        go_round
        case rel => exact ⟨k + 1, _, by omega, by go_num, rfl, by go_grown⟩
        case measure => (simp [intOf]; omega)
      · go_wp2
        all_goals first
          | (go_ret; exact ⟨rfl, hb⟩)
          | (exfalso; simp_all; omega)

end Go.Proofs.Ytfhnhbkdhdocjaa
