/-
  Several texts in one: BlockCk, BlockCheck, BlockRun.
-/
import Derived.Test.YtniilhgcgcimgaaMBlkR
import Derived.Test.YtniilhgcgcimgaaMTerm
import Derived.Test.YtniilhgcgcimgaaMBase
import Derived.Deep.RegionWith
import Derived.Lib.SliceRun

/-
  block.countSteps, block.checkBlock, block.Check (J1).
-/

namespace Go.Proofs.Ytniilhgcgcimgaa
open Go.RowKit
set_option linter.unusedSimpArgs false
set_option linter.unusedVariables false
set_option maxRecDepth 100000

/-- the steps of each block fit into a machine -/
def CodeFits (p : List Bk) : Prop := ∀ b ∈ p, b.code.length * 40 ≤ 140737488351232

theorem CodeFits.of_in {p : List Bk} (h : ∀ b ∈ p, InBk b) : CodeFits p := fun b hb => (h b hb).1

theorem CodeFits.of_ok {vars : Int} {p : List Bk} (h : ckProg vars p = 0) : CodeFits p := fun b hb => by
  obtain ⟨k, hk, rfl⟩ := List.getElem_of_mem hb
  have h1 := manyS_le (List.getElem?_eq_getElem hk)
  have h2 := (ckProg_bd h).2.2.2.2.1
  omega

theorem manyS_fits : ∀ {p : List Bk}, CodeFits p → manyS p * 40 ≤ p.length * 140737488351232
  | [], _ => by simp [manyS]
  | b :: p, h => by
    have h1 := h b (List.mem_cons_self ..)
    have h2 := manyS_fits (p := p) fun x hx => h x (List.mem_cons_of_mem _ hx)
    simp only [manyS, List.length_cons]
    omega

set_option maxHeartbeats 4000000 in
theorem countSteps_any (A : Option Addr) (len cap : Nat) (p : List Bk) (w : World) (hx : RdP w w.heap.size A p) (hl : p.length = len) (h8 : len ≤ 8) (hin : CodeFits p) :
    Calls Try.prog 41 #[.slice A len cap] w fun e w' => e = .returned (.int .i64 (manyS p : Nat)) ∧ Below w.heap.size w w' := by
  have HL := Lib.hid hl
  have hsm : Hid (∀ k, k ≤ 8 → manyS (p.take k) ≤ 28147497670247) := Lib.hid fun k hk => by
    have h1 := manyS_fits (p := p.take k) fun b hb => hin b (List.mem_of_mem_take hb)
    have h2 : (p.take k).length ≤ 8 := by rw [List.length_take]; omega
    omega
  have HMT := Lib.hid (fun (k : Nat) (b : Bk) (h : p[k]? = some b) => manyS_take h)
  have HFULL : Hid (p.take len = p) := Lib.hid (by rw [← hl, List.take_length])
  clear hl hin
  go_enter Try.func41, Try.ntmps41
  go_wp2
  go_loopw [3, 8] (fun s z wr => ∃ k : Nat, k ≤ len ∧ z = .int .i64 k ∧ s = .int .i64 (manyS (p.take k) : Nat) ∧ Below w.heap.size w wr) (fun _ z _ => len - (intOf z).toNat)
  case atStart => exact ⟨0, Nat.zero_le _, rfl, by simp [manyS], Below.refl _ _⟩
  case round =>
    obtain ⟨k, hk, rfl, rfl, hb⟩ := hrel
    have hsz := hb.size
    by_cases hlt : k < len
    · obtain ⟨ad, b, Ac, cc, rfl, hbl, hd, hrow, hc0, hc1, hc2, hc3⟩ := (hx.below hb (Nat.le_refl _)).at_ (k := k) (by rw [HL.out]; exact hlt)
      have hmt := HMT.out k b hd
      have hs1 := hsm.out k (by omega)
      have hs2 := hsm.out (k + 1) (by omega)
      rw [hmt] at hs2
      have HT := Lib.hid hmt
      obtain ⟨m, hme⟩ : ∃ m, manyS (p.take k) = m := ⟨_, rfl⟩
      obtain ⟨cl, hcl⟩ : ∃ cl, b.code.length = cl := ⟨_, rfl⟩
      rw [hme, hcl] at HT
      rw [hme] at hs1 ⊢
      rw [hme, hcl] at hs2
      rw [hcl] at hc0
      clear hd hmt hme hcl
      go_wp2
      go_round
      case rel => exact ⟨k + 1, by omega, by go_num, by rw [HT.out]; go_num, by go_grown⟩
      case measure => (simp [intOf]; omega)
    · have hkl : k = len := by omega
      have hmp : manyS (p.take k) = manyS p := by rw [hkl, HFULL.out]
      rw [hmp]
      go_wp2
      go_ret
      exact ⟨rfl, hb⟩

set_option maxHeartbeats 4000000 in
theorem checkBlock_any (vars n te th el : Int) (Ac : Option Addr) (cl cc : Nat) (code : List St) (w : World) (hx : RdS w w.heap.size Ac code) (hl : code.length = cl) (h20 : cl ≤ 20) :
    Calls Try.prog 42 #[.int .i64 vars, .int .i64 n, .agg #[.slice Ac cl cc, .int .i64 te, .int .i64 th, .int .i64 el]] w fun e w' => e = .returned (.int .i64 (ckBk vars n ⟨code, te, th, el⟩)) ∧ Below w.heap.size w w' := by
  have HL := Lib.hid hl
  have HFUL : Hid (code.drop cl = []) := Lib.hid (List.drop_of_length_le (by rw [hl]; exact Nat.le_refl _))
  have HBX : Hid (∀ Z : World, Below (w.heap.size + 3) (((w.alloc (.cells #[.int .i64 vars] 3)).alloc (.cells #[.int .i64 n] 3)).alloc (.cells #[.slice Ac cl cc, .int .i64 te, .int .i64 th, .int .i64 el] 39)) Z →
      Z.cell? ⟨w.heap.size, 0, none⟩ = some (.int .i64 vars) ∧ Z.cell? ⟨w.heap.size + 1, 0, none⟩ = some (.int .i64 n) ∧ Z.cell? ⟨w.heap.size + 1 + 1, 0, none⟩ = some (.slice Ac cl cc) ∧ Z.cell? ⟨w.heap.size + 1 + 1, 1, none⟩ = some (.int .i64 te) ∧ Z.cell? ⟨w.heap.size + 1 + 1, 2, none⟩ = some (.int .i64 th) ∧ Z.cell? ⟨w.heap.size + 1 + 1, 3, none⟩ = some (.int .i64 el)) := Lib.hid fun Z hZ => by
    refine ⟨?_, ?_, ?_, ?_, ?_, ?_⟩
    · exact (hZ.cell (p := ⟨w.heap.size, 0, none⟩) (by simp)).trans ((World.cell?_alloc_lt _ _ _ (by simp; omega)).trans (by simp))
    · exact (hZ.cell (p := ⟨w.heap.size + 1, 0, none⟩) (by simp)).trans ((World.cell?_alloc_lt _ _ _ (by simp)).trans (by simp))
    · exact (hZ.cell (p := ⟨w.heap.size + 1 + 1, 0, none⟩) (by simp)).trans (cell_new (by simp) rfl)
    · exact (hZ.cell (p := ⟨w.heap.size + 1 + 1, 1, none⟩) (by simp)).trans (cell_new (by simp) rfl)
    · exact (hZ.cell (p := ⟨w.heap.size + 1 + 1, 2, none⟩) (by simp)).trans (cell_new (by simp) rfl)
    · exact (hZ.cell (p := ⟨w.heap.size + 1 + 1, 3, none⟩) (by simp)).trans (cell_new (by simp) rfl)
  obtain ⟨R, hR⟩ : ∃ R, ckBk vars n ⟨code, te, th, el⟩ = R := ⟨_, rfl⟩
  rw [hR]
  have HBK := Lib.hid hR
  clear hl hR
  go_enter Try.func42, Try.ntmps42
  go_wp2
  go_loopw [15] (fun z wr => ∃ c : Nat, c ≤ cl ∧ z = .int .i64 c ∧ ckStepsF vars vars code = ckStepsF vars vars (code.drop c) ∧ Below (w.heap.size + 3) (((w.alloc (.cells #[.int .i64 vars] 3)).alloc (.cells #[.int .i64 n] 3)).alloc (.cells #[.slice Ac cl cc, .int .i64 te, .int .i64 th, .int .i64 el] 39)) wr) (fun z _ => cl - (intOf z).toNat)
  case atStart => exact ⟨0, Nat.zero_le _, rfl, rfl, Below.refl _ _⟩
  case round =>
    obtain ⟨c, hc, rfl, hr, hbb⟩ := hrel
    have HR := Lib.hid hr
    have hb : Below w.heap.size w wr := Below.trans (by go_grown) (hbb.mono (by omega))
    have hsz : w.heap.size + 3 ≤ wr.heap.size := by have := hbb.size; simp at this; omega
    have hz1 : w.heap.size < wr.heap.size := by omega
    have hz2 : w.heap.size + 1 < wr.heap.size := by omega
    have hz3 : w.heap.size + 1 + 1 < wr.heap.size := by omega
    obtain ⟨hq0, hq1, hr0, hr1, hr2, hr3⟩ := HBX.out wr hbb
    clear hr
    by_cases hlt : c < cl
    · obtain ⟨ad, o, t, a, b, v, rfl, hbl, hd, hc0, hc1, hc2, hc3, hc4⟩ := (hx.below hb (Nat.le_refl _)).at_ (k := c) (by rw [HL.out]; exact hlt)
      have HD := Lib.hid (drop_at hd)
      clear hd
      by_cases hop : ckStep vars vars o t a b v = 0
      · have HO := Lib.hid hop
        have e1 : (ckStep vars vars o t a b v != 0) = false := by simp [hop]
        clear hop
        go_wp2_with (go_at_call 43; (with_reducible refine (checkStep_any _ _ _ _ _ _ _ _).mono ?_); rintro e w1 ⟨rfl, hb1⟩)
        go_round
        case rel => exact ⟨c + 1, by omega, by go_num, by rw [HR.out, HD.out]; exact ckStepsF_go HO.out, hbb.trans (Below.trans (by go_grown : Below (w.heap.size + 3) wr _) (hb1.mono (by simp; omega)))⟩
        case measure => (simp [intOf]; omega)
      · have HO := Lib.hid hop
        have e1 : (ckStep vars vars o t a b v != 0) = true := by simp [hop]
        clear hop
        go_wp2_with (go_at_call 43; (with_reducible refine (checkStep_any _ _ _ _ _ _ _ _).mono ?_); rintro e w1 ⟨rfl, hb1⟩)
        go_ret
        refine ⟨ret_int ?_, (by go_grown : Below w.heap.size w _).trans (hb1.mono (by simp; omega))⟩
        have hq : ckStepsF vars vars code = ckStep vars vars o t a b v := by rw [HR.out, HD.out]; exact (ckStepsF_stop rfl HO.out).symm
        rw [← HBK.out]
        unfold ckBk
        rw [if_pos (by rw [hq]; exact HO.out), hq]
    · have hcl : c = cl := by omega
      have hq : ckStepsF vars vars code = 0 := by rw [HR.out, hcl, HFUL.out]; rfl
      have ht := ckBk_tail (n := n) (te := te) (th := th) (el := el) hq
      rw [HBK.out] at ht
      have HT := Lib.hid ht
      clear hq hcl hbb ht
      go_wp2
      all_goals
        go_ret
        refine ⟨ret_int ?_, by go_grown⟩
        rw [HT.out]
        (go_light; (try simp only [Bool.not_eq_true', Bool.not_eq_false', decide_eq_true_eq, decide_eq_false_iff_not, beq_iff_eq, beq_eq_false_iff_ne, bne_iff_ne, bne_eq_false_iff_eq, ne_eq, Bool.and_eq_true, Bool.or_eq_true, Bool.and_eq_false_iff, Bool.or_eq_false_iff, Decidable.not_not] at *))
        unfold ckTail
        (repeat' split) <;> omega

end Go.Proofs.Ytniilhgcgcimgaa

/-
  block.Check (J1).
-/

namespace Go.Proofs.Ytniilhgcgcimgaa
open Go.RowKit
set_option linter.unusedSimpArgs false
set_option linter.unusedVariables false
set_option maxRecDepth 100000

set_option maxHeartbeats 4000000 in
theorem blockCheck_any (vars : Int) (A : Option Addr) (len cap : Nat) (p : List Bk) (w : World) (hx : RdP w w.heap.size A p) (hl : p.length = len) (hm : len ≤ maxLen) (hin : CodeFits p) :
    Calls Try.prog 30 #[.int .i64 vars, .slice A len cap] w fun e w' => e = .returned (.int .i64 (ckProg vars p)) ∧ Below w.heap.size w w' := by
  unfold maxLen at hm
  by_cases hbad : vars < 1 ∨ 6 < vars ∨ len < 1 ∨ 8 < len
  · have hck : ckProg vars p = 1 := by unfold ckProg; rw [hl, if_pos (by omega)]
    rw [hck]
    clear hck hl hin hx
    go_enter Try.func30, Try.ntmps30
    go_wp2_with fail
    all_goals first
      | (go_ret; exact ⟨rfl, by go_grown⟩)
      | (exfalso; simp_all; omega)
  · have v1 : 1 ≤ vars := by omega
    have v2 : vars ≤ 6 := by omega
    have v3 : 1 ≤ len := by omega
    have v4 : len ≤ 8 := by omega
    have f1 : decide (vars < 1) = false := by simp; omega
    have f2 : decide (6 < vars) = false := by simp; omega
    have f3 : ((len : Int) == 0) = false := by simp; omega
    have f4 : decide (8 < (len : Int)) = false := by simp; omega
    have HL := Lib.hid hl
    have HCNT := Lib.hid (countSteps_any A len cap p w hx hl v4 hin)
    have HCK : Hid (ckProg vars p = if 20 < manyS p then 1 else ckBks vars len p) := Lib.hid (by unfold ckProg; rw [hl]; by_cases h : 20 < manyS p <;> simp [h] <;> omega)
    have hms : manyS p ≤ 28147497670247 := by
      have h1 := manyS_fits (p := p) hin
      rw [hl] at h1
      omega
    obtain ⟨m, hme⟩ : ∃ m, manyS p = m := ⟨_, rfl⟩
    have HME := Lib.hid hme
    rw [hme] at HCK HCNT hms
    clear hl hin hme hbad
    obtain ⟨R, hR⟩ : ∃ R, ckProg vars p = R := ⟨_, rfl⟩
    rw [hR] at HCK ⊢
    clear hR
    by_cases h20 : 20 < m
    · have hck := HCK.out
      rw [if_pos h20] at hck
      have HC1 := Lib.hid hck
      have f5 : decide (20 < (m : Int)) = true := by simp; omega
      clear hck HCK
      go_enter Try.func30, Try.ntmps30
      go_wp2_with (go_at_call 41; (with_reducible refine HCNT.out.mono ?_); rintro e w1 ⟨rfl, hb1⟩)
      go_ret
      exact ⟨ret_int HC1.out.symm, hb1⟩
    · have hck := HCK.out
      rw [if_neg h20] at hck
      have HC1 := Lib.hid hck
      have f5 : decide (20 < (m : Int)) = false := by simp; omega
      have hm20 : m ≤ 20 := by omega
      clear hck HCK h20
      go_enter Try.func30, Try.ntmps30
      go_wp2_with (go_at_call 41; (with_reducible refine HCNT.out.mono ?_); rintro e w1 ⟨rfl, hb1⟩)
      have hsz1 := hb1.size
      go_loopw [31] (fun z wr => ∃ k : Nat, k ≤ len ∧ z = .int .i64 k ∧ R = ckBks vars len (p.drop k) ∧ Below w.heap.size w wr) (fun z _ => len - (intOf z).toNat)
      case atStart => exact ⟨0, Nat.zero_le _, rfl, HC1.out, hb1⟩
      case round =>
        obtain ⟨k, hk, rfl, hr, hb⟩ := hrel
        have HR := Lib.hid hr
        have hsz := hb.size
        clear hr
        by_cases hlt : k < len
        · obtain ⟨ad, ⟨code, te, th, el⟩, Ac, cc, rfl, hbl, hd, hrow, hc0, hc1, hc2, hc3⟩ := (hx.below hb (Nat.le_refl _)).at_ (k := k) (by rw [HL.out]; exact hlt)
          have HD := Lib.hid (ckBks_drop (vars := vars) (n := (len : Int)) hd)
          have hcm := manyS_le hd
          rw [HME.out] at hcm
          simp only [] at hc0 hc1 hc2 hc3 hcm hrow
          obtain ⟨cl, hcl⟩ : ∃ cl, code.length = cl := ⟨_, rfl⟩
          rw [hcl] at hc0 hcm
          have HCB : Hid (∀ Z : World, Below wr.heap.size wr Z → Calls Try.prog 42 #[.int .i64 vars, .int .i64 len, .agg #[.slice Ac cl cc, .int .i64 te, .int .i64 th, .int .i64 el]] Z fun e w' => e = .returned (.int .i64 (ckBk vars len ⟨code, te, th, el⟩)) ∧ Below Z.heap.size Z w') := Lib.hid fun Z hZ =>
            checkBlock_any vars len te th el Ac cl cc code Z (((hrow.more hsz).below hZ (Nat.le_refl _)).more hZ.size) hcl (by omega)
          obtain ⟨x, hxe⟩ : ∃ x, ckBk vars len ⟨code, te, th, el⟩ = x := ⟨_, rfl⟩
          rw [hxe] at HCB HD
          clear hd hcl hxe hrow
          by_cases hop : x = 0
          · subst hop
            go_wp2_with (go_at_call 42; (with_reducible refine (HCB.out _ (by go_grown)).mono ?_); rintro e w2 ⟨rfl, hb2⟩)
            go_round
            case rel => exact ⟨k + 1, by omega, by go_num, by rw [HR.out, HD.out]; simp, (by go_grown : Below w.heap.size w _).trans (hb2.mono (by go_size))⟩
            case measure => (simp [intOf]; omega)
          · have e1 : (x != 0) = true := by simp [hop]
            have HO := Lib.hid hop
            clear hop
            go_wp2_with (go_at_call 42; (with_reducible refine (HCB.out _ (by go_grown)).mono ?_); rintro e w2 ⟨rfl, hb2⟩)
            go_ret
            exact ⟨ret_int (by rw [HR.out, HD.out, if_neg HO.out]), (by go_grown : Below w.heap.size w _).trans (hb2.mono (by go_size))⟩
        · have hkl : len ≤ k := by omega
          have hd0 : p.drop k = [] := List.drop_of_length_le (by rw [HL.out]; exact hkl)
          have hz : R = 0 := by rw [HR.out, hd0]; rfl
          have HZ := Lib.hid hz
          clear hd0 hz hkl
          go_wp2
          go_ret
          exact ⟨ret_int HZ.out.symm, hb⟩

end Go.Proofs.Ytniilhgcgcimgaa

/-
  slices.Clone of ints, block.follower, block.Run (J2).
-/

namespace Go.Proofs.Ytniilhgcgcimgaa
open Go.RowKit
set_option linter.unusedSimpArgs false
set_option linter.unusedVariables false
set_option maxRecDepth 100000

set_option maxHeartbeats 4000000 in
theorem clone_any (VA : Option Addr) (n vcap : Nat) (v : List Int) (w : World) (hv : RdI w w.heap.size VA v) (hl : v.length = n) (hn : 1 ≤ n) (hn6 : n ≤ 65536) :
    Calls Try.prog 23 #[.slice VA n vcap] w fun e w' => ∃ g c', e = .returned (.slice (some ⟨g, 0, none⟩) n c') ∧ w'.ownsRow w.heap.size 3 1 (.slice (some ⟨g, 0, none⟩) n c') n (iv v) ∧ Below w.heap.size w w' := by
  obtain ⟨ad, x, rfl, _, _, _⟩ := hv.at_ (k := 0) (by omega)
  have HL1 : Hid ((iv v).length = n * 1) := Lib.hid (by simp [iv, hl])
  have HNW : Hid (∀ Z : World, Below w.heap.size w Z → ∀ a, some ad = some a → ∀ j u, (iv v)[j]? = some u → Z.cell? (a.add j) = some u) := Lib.hid fun Z hZ => (hv.below hZ (Nat.le_refl _)).news
  have ha_ : 0 + n ≤ maxLen := by unfold maxLen; omega
  have hb_ : (0 + n) * 8 ≤ 140737488355328 := by omega
  have qT : ∀ (w : World) (a : Option Addr) (n c n' c' : Nat), (binOp .eql 26 (.slice a n c) (.slice none n' c')).run Try.prog w = .ok (.bool a.isNone) w := fun w a n c n' c' => Lib.run_eql_slice_nil w _ _ a n c n' c' Try.underlying26
  clear hl hv
  go_enter Try.func23, Try.ntmps23
  go_wp2_with (at_builtin; refine wpList_app rfl (.tmp 5) (.tmp 6) 26 rfl w.heap.size 3 1 8 int_app [] rfl (own_empty_at _ _ _ _ (by simp) (by simp)) (iv v) rfl HL1.out (fun h => by cases h) (HNW.out _ (by go_grown)) (iv_one _) ha_ hb_ (by simp) ?_; intro A1 c1 w1 hown1 hg1 hb1; rw [Nat.zero_add, List.nil_append] at hown1)
  obtain ⟨g, rfl, hg0, hg1'⟩ := own_form hown1 (by omega)
  have hbw : Below w.heap.size w w1 := ((by go_grown : Below w.heap.size w (w.alloc (.cells #[] 3)))).trans hb1
  clear hg1 hb1
  go_ret
  exact ⟨g, c1, rfl, by simpa using hown1, hbw⟩

set_option maxHeartbeats 4000000 in
theorem follower_any (Ac VA : Option Addr) (cl cc n vc : Nat) (code : List St) (te th el : Int) (v : List Int) (w : World) (hv : RdI w w.heap.size VA v) (hl : v.length = n) (ht : te = -1 ∨ (0 ≤ te ∧ te < n)) :
    Calls Try.prog 31 #[.agg #[.slice Ac cl cc, .int .i64 te, .int .i64 th, .int .i64 el], .slice VA n vc] w fun e w' => e = .returned (.int .i64 (goB ⟨code, te, th, el⟩ v)) ∧ Below w.heap.size w w' := by
  rcases ht with rfl | ⟨h0, h1⟩
  · have hg : goB ⟨code, -1, th, el⟩ v = th := by unfold goB; rw [if_neg (fun h => absurd h.1 (by simp))]
    rw [hg]
    clear hg hv hl
    go_enter Try.func31, Try.ntmps31
    go_wp2
    go_ret
    exact ⟨rfl, by go_grown⟩
  · obtain ⟨tn, rfl⟩ := Int.eq_ofNat_of_zero_le h0
    obtain ⟨ad, x, rfl, hbl, hx, hcx⟩ := hv.at_ (k := tn) (by omega)
    have hgv : v.getD tn 0 = x := by rw [List.getD_eq_getElem?_getD, hx]; rfl
    have e1 : ((tn : Int) != -1) = true := by simp
    have htn : tn < n := by omega
    clear hx h1 hv hl
    by_cases hx0 : x = 0
    · have hg : goB ⟨code, (tn : Int), th, el⟩ v = el := by unfold goB; rw [if_pos ⟨by simp, by simpa [hx0] using hgv⟩]
      rw [hg]
      subst hx0
      clear hg hgv
      go_enter Try.func31, Try.ntmps31
      go_wp2
      go_ret
      exact ⟨rfl, by go_grown⟩
    · have hg : goB ⟨code, (tn : Int), th, el⟩ v = th := by unfold goB; rw [if_neg (fun h => hx0 (by rw [← hgv]; simpa using h.2))]
      rw [hg]
      have hx1 : (x == 0) = false := by simp [hx0]
      clear hg hgv hx0
      go_enter Try.func31, Try.ntmps31
      go_wp2
      go_ret
      exact ⟨rfl, by go_grown⟩

theorem own_wroteN {g : Nat} {w w' : World} {base : Nat} {e : TypeId} {size : Nat} {v : Value} {n : Nat} {xs : List Value} (h : w.ownsRow base e size v n xs) (hw : Wrote g w w') (hne : v.ownBlock ≠ some g) : w'.ownsRow base e size v n xs := by
  refine ⟨h.1, ?_⟩
  rcases h.2 with h' | ⟨k, cap, cur, h1, h2, h3, h4⟩
  · exact .inl h'
  · refine .inr ⟨k, cap, cur, h1, h2, (hw.block k (Array.getElem?_eq_some_iff.1 h3).1 (fun e2 => hne ?_)).trans h3, h4⟩
    subst e2
    rw [h1]
    rfl

/-- values and the blocks so far: both of the call's own, apart -/
structure Rw (w : World) (base g n c0 : Nat) (v : List Int) (A : Option Addr) (c : Nat) (l : List Nat) : Prop where
  vals : w.ownsRow base 3 1 (.slice (some ⟨g, 0, none⟩) n c0) n (iv v)
  turns : w.ownsRow base 3 1 (.slice A l.length c) l.length (iv (ni l))
  apart : (Value.slice A l.length c).ownBlock ≠ some g

theorem Rw.quiet {w w' : World} {base g n c0 c : Nat} {v : List Int} {A : Option Addr} {l : List Nat} (h : Rw w base g n c0 v A c l) (hb : Below w.heap.size w w') : Rw w' base g n c0 v A c l := ⟨own_below h.vals hb, own_below h.turns hb, h.apart⟩

theorem Rw.app {w X w' : World} {base g n c0 c c' : Nat} {v : List Int} {A A' : Option Addr} {l : List Nat} {i : Nat} (h : Rw w base g n c0 v A c l) (hX : Below w.heap.size w X)
    (ho : w'.ownsRow base 3 1 (.slice A' (l.length + 1) c') (l.length + 1) (iv (ni l) ++ [.int .i64 (i : Int)])) (hg : X.grownBy w' (Value.slice A l.length c).ownBlock)
    (hbl : (Value.slice A' (l.length + 1) c').ownBlock = (Value.slice A l.length c).ownBlock ∨ (Value.slice A' (l.length + 1) c').ownBlock = some X.heap.size) : Rw w' base g n c0 v A' c' (l ++ [i]) := by
  have e : (l ++ [i]).length = l.length + 1 := by simp
  have hgl := (h.vals.lt g rfl).2
  have hs := hX.size
  refine ⟨(own_below h.vals hX).kept hg (.inr fun e2 => h.apart e2.symm), ?_, ?_⟩
  · rw [e, ni_append, iv_append]
    exact ho
  · rw [e]
    rcases hbl with hb | hb
    · rw [hb]; exact h.apart
    · rw [hb]
      intro hq
      injection hq with hq
      omega

theorem Rw.wrote {w w' : World} {base g n c0 c : Nat} {v v' : List Int} {A : Option Addr} {l : List Nat} (h : Rw w base g n c0 v A c l) (hw : Wrote g w w') (ho : w'.ownsRow base 3 1 (.slice (some ⟨g, 0, none⟩) n c0) n (iv v')) : Rw w' base g n c0 v' A c l := ⟨ho, own_wroteN h.turns hw h.apart, h.apart⟩

theorem stV_self {n : Nat} {r : List Int} {o t a b vv : Int} (hv : ValsOk n r) (hc : ckStep n n o t a b vv = 0) : 0 ≤ stV r ⟨o, t, a, b, vv⟩ r ∧ stV r ⟨o, t, a, b, vv⟩ r ≤ 255 := stV_val (s := ⟨o, t, a, b, vv⟩) hv hc

set_option maxHeartbeats 8000000 in
theorem blockRun_any (n : Nat) (A HA : Option Addr) (len cap hcap : Nat) (p : List Bk) (hv : List Int) (w0 : World) (hx0 : RdP w0 w0.heap.size A p) (hh0 : RdI w0 w0.heap.size HA hv) (hl : p.length = len) (hc : ckProg n p = 0) (hok : ValsOk n hv) :
    Calls Try.prog 17 #[.int .i64 n, .slice A len cap, .slice HA n hcap] w0 fun e w' => RunsTo (goP p 200 0 hv) e w0 w' ∧ Below w0.heap.size w0 w' := by
  obtain ⟨b1, b2, b3, b4, b5, _⟩ := ckProg_bd hc
  have HC := Lib.hid hc
  have HL := Lib.hid hl
  rw [hl] at b3 b4
  have hn1 : 1 ≤ n := by omega
  have hn6 : n ≤ 6 := by omega
  have HG0 := Lib.hid (GoAt.start p 200 hv)
  have HOK := Lib.hid hok
  have HCK := Lib.hid (blockCheck_any n A len cap p w0 hx0 hl (by unfold maxLen; omega) (CodeFits.of_ok hc))
  rw [hc] at HCK
  have HCV : Hid (ckHave n hv = 0) := Lib.hid (ckHave_vals hok)
  have HHL : Hid (hv.length = n) := Lib.hid hok.1
  obtain ⟨R, hR⟩ : ∃ R, goP p 200 0 hv = R := ⟨_, rfl⟩
  have HRR := Lib.hid hR
  rw [hR]
  clear hc hl hok b1 b2 hR
  go_enter Try.func17, Try.ntmps17
  go_wp2_with fail
  (with_reducible refine HCK.out.mono ?_)
  rintro e w1 ⟨rfl, hb1⟩
  go_wp2_with fail
  refine (checkHave_any n HA n hcap hv _ ((hh0.below hb1 (Nat.le_refl _)).more hb1.size) HHL.out (by unfold maxLen; omega)).mono ?_
  rintro e w2 ⟨rfl, hb2⟩
  rw [HCV.out]
  have hbw2 := hb1.trans (hb2.mono hb1.size)
  go_wp2_with fail
  refine (clone_any HA n hcap hv _ ((hh0.below hbw2 (Nat.le_refl _)).more hbw2.size) HHL.out hn1 (by omega)).mono ?_
  rintro e w3 ⟨g, c0, rfl, hown0, hb3⟩
  have hg0 := (hown0.lt g rfl).1
  have hRw0 : Rw w3 w2.heap.size g n c0 hv none 0 [] := ⟨hown0, World.ownsRow_nil _ _ _ _, fun h => by cases h⟩
  have hbw3 := hbw2.trans (hb3.mono hbw2.size)
  have hsz2 := hbw2.size
  clear HCK hb1 hb2 hb3 hown0 hh0
  go_wp2
  go_loopw [12, 13] (fun s12 s13 wr => ∃ (at_ : Int) (v : List Int) (l : List Nat) (A2 : Option Addr) (c : Nat), s13 = .int .i64 at_ ∧ s12 = .slice A2 l.length c ∧ l.length ≤ 200 ∧ (at_ = -1 ∨ ∃ i : Nat, at_ = (i : Int) ∧ i < len) ∧ ValsOk n v ∧ GoAt p 200 hv l at_ v ∧ Rw wr w2.heap.size g n c0 v A2 c l ∧ Below w0.heap.size w0 wr) (fun s12 _ _ => 200 + 1 - lenV s12)
  case atStart => exact ⟨0, hv, [], none, 0, rfl, rfl, by simp, .inr ⟨0, rfl, by omega⟩, HOK.out, HG0.out, hRw0, hbw3⟩
  case round =>
    obtain ⟨at_, v, l, A2, c, rfl, rfl, hlm, hat, hvo, hgo, hrw, hb⟩ := hrel
    have HVO := Lib.hid hvo
    have HGO := Lib.hid hgo
    have HRW := Lib.hid hrw
    have hsz := hb.size
    obtain ⟨m, hme⟩ : ∃ m, l.length = m := ⟨_, rfl⟩
    have HM := Lib.hid hme
    rw [hme] at hlm ⊢
    clear hvo hgo
    rcases hat with rfl | ⟨i, rfl, hi⟩
    · have HST := Lib.hid HGO.out.stop
      have HR1 := Lib.hid (own_rdI hrw.vals HVO.out.1)
      have HR2 := Lib.hid (own_rdI hrw.turns (by simp [ni]))
      clear hrw hme
      go_wp2
      go_returns
      exact ⟨.inr ⟨v, l, _, A2, c0, c, by rw [← HRR.out]; exact HST.out, by rw [HVO.out.1, HM.out]; rfl, HR1.out, HR2.out⟩, hb⟩
    · have hine : ((i : Int) != -1) = true := by simp
      by_cases hlt : m < 200
      · have hm2 : ((m : Int) == 200) = false := by simp; omega
        obtain ⟨ad, ⟨code, te, th, el⟩, Ac, cc, rfl, hbl, hd, hrow, hc0, hc1, hc2, hc3⟩ := hx0.at_ (k := i) (by rw [HL.out]; exact hi)
        have hbk := ckProg_at HC.out hd
        have hgo2 := HGO.out.step (by rw [HM.out]; exact hlt) hd
        have hcm := manyS_le hd
        simp only [] at hc0 hc1 hc2 hc3 hcm hrow hgo2
        have hcode := hbk.code
        have htest := hbk.test
        have hgl := goB_lt hbk (doS code v)
        have hvo2 := doS_ok hcode HVO.out
        simp only [] at hcode htest
        have HCD := Lib.hid hcode
        obtain ⟨cl, hcl⟩ : ∃ cl, code.length = cl := ⟨_, rfl⟩
        rw [hcl] at hc0 hcm
        have HCL := Lib.hid hcl
        have HGO2 := Lib.hid hgo2
        have HGL := Lib.hid hgl
        have HVO2 := Lib.hid hvo2
        obtain ⟨v2, hv2⟩ : ∃ v2, doS code v = v2 := ⟨_, rfl⟩
        have HDA : Hid (DoAt n code v 0 v) := Lib.hid ⟨HVO.out, rfl⟩
        have HV2 := Lib.hid hv2
        rw [hv2] at HGO2 HGL HVO2
        rw [HL.out] at HGL
        have HTE := Lib.hid htest
        have hrow1 := hrw.turns
        rw [hme] at hrow1
        have h63 : m + 1 ≤ maxLen := by unfold maxLen; omega
        have hbig : (m + 1) * 8 ≤ 140737488355328 := by omega
        have hA0 : Below w0.heap.size w0 (wr.alloc (.cells #[.int .i64 (i : Int)] 3)) := by go_grown
        clear hrw hme hd hbk hgo2 hgl hvo2 hcode hcl hv2 htest
        go_wp2_with (at_builtin; refine wpList_app' rfl (.tmp 41) (.tmp 43) 26 rfl w2.heap.size 3 1 8 int_app _ rfl (hrow1.alloc _) [.int .i64 (i : Int)] rfl rfl (fun h => by cases h) (cells_at rfl _ _) (one_cell _) h63 hbig (by have := (HRW.out.vals.lt g rfl); simp; omega) ?_; intro A8 c8 w8 hown8 hg8 hb8 hp8; have hbw8 := hA0.trans (hb8.mono hsz2); have hq0 := (hbw8.cell hbl).trans hc0)
        have hrw8 : Rw w8 w2.heap.size g n c0 v A8 c8 (l ++ [i]) := HRW.out.app (X := wr.alloc (.cells #[.int .i64 (i : Int)] 3)) (by go_grown) (by rw [HM.out]; exact hown8) (by rw [HM.out]; exact hg8) (by rw [HM.out]; exact hp8)
        have hlen : (l ++ [i]).length = m + 1 := by simp [HM.out]
        have HLEN := Lib.hid hlen
        clear hown8 hg8 hp8 hb8 hrow1 hA0 hq0 hlen
        obtain ⟨wo, rfl⟩ : ∃ wo : World, wo = wr := ⟨_, rfl⟩
        go_loopw [51] (fun z wr => ∃ (k : Nat) (r : List Int), k ≤ cl ∧ z = .int .i64 k ∧ DoAt n code v k r ∧ Rw wr w2.heap.size g n c0 r A8 c8 (l ++ [i]) ∧ Below w0.heap.size w0 wr) (fun z _ => cl - (intOf z).toNat)
        case atStart => exact ⟨0, v, Nat.zero_le _, rfl, HDA.out, hrw8, hbw8⟩
        case round =>
          obtain ⟨k, r, hk, rfl, hr, hrwk, hbk⟩ := hrel
          have HR := Lib.hid hr
          have hrl := hr.1.1
          have HRL := Lib.hid hrl
          have HRWK := Lib.hid hrwk
          have hszk := hbk.size
          have hgs := (hrwk.vals.lt g rfl).2
          clear hr hrl
          by_cases hct : k < cl
          · obtain ⟨ad2, o, t, a, b, vv, rfl, hbl2, hd2, e0, e1, e2, e3, e4⟩ := (RdS.below hrow hbk (Nat.le_refl _)).at_ (k := k) (by rw [HCL.out]; exact hct)
            have hcks := ckStepsF_at HCD.out hd2
            simp only [] at hcks
            have hxb := stV_self HR.out.1 hcks
            have hsv : ∀ Z : World, Below wr.heap.size wr Z → Calls Try.prog 32 #[.agg #[.int .i64 o, .int .i64 t, .int .i64 a, .int .i64 b, .int .i64 vv], .slice (some ⟨g, 0, none⟩) n c0, .slice (some ⟨g, 0, none⟩) n c0] Z fun e w' => e = .returned (.tuple #[.int .i64 (stV r ⟨o, t, a, b, vv⟩ r), .int .i64 0]) ∧ Below Z.heap.size Z w' := fun Z hZ =>
              stepValue_any _ _ n c0 n c0 o t a b vv r r Z (((own_rdI HRWK.out.vals HRL.out).below hZ (Nat.le_refl _)).more hZ.size) (((own_rdI HRWK.out.vals HRL.out).below hZ (Nat.le_refl _)).more hZ.size) HRL.out HRL.out hcks HR.out.1.2
            have HD := Lib.hid (drop_at hd2)
            obtain ⟨⟨ht0, ht1⟩, hcase⟩ := ckStep_cases hcks
            obtain ⟨x, hxe⟩ : ∃ x, stV r ⟨o, t, a, b, vv⟩ r = x := ⟨_, rfl⟩
            rw [hxe] at hsv hxb
            have HSV := Lib.hid hsv
            have HXB := Lib.hid hxb
            have HXE := Lib.hid hxe.symm
            clear hd2 hsv hcks hcase hxb hxe
            obtain ⟨tn, rfl⟩ := Int.eq_ofNat_of_zero_le ht0
            have htn : tn < n := by omega
            have htl : tn < r.length := by rw [HRL.out]; exact htn
            have HCT := Lib.hid (iv_at (List.getElem?_eq_getElem htl))
            generalize r[tn] = xt at *
            clear hrwk htl
            go_wp2
            go_region_with (go_at_call 32; (with_reducible refine (HSV.out _ (by go_grown)).mono ?_); rintro e w5 ⟨rfl, hb5⟩; have hbr5 : Below wr.heap.size wr w5 := Below.trans (by go_grown) (hb5.mono (by go_size)); have q1 : w5.cell? ⟨wr.heap.size, 1, none⟩ = some (.int .i64 tn) := (hb5.cell (p := ⟨wr.heap.size, 1, none⟩) (by go_size)).trans (by simp); have hrw5 := HRWK.out.quiet hbr5; have hct5 := (hrw5.vals.cellAt tn (by omega)).trans HCT.out; have hfz5 := hrw5.vals.frozenAt tn)
            all_goals
              have hst5 := (hrw5.vals.stored tn (.int .i64 x)).1
              rw [iv_set] at hst5
              have hrwf := hrw5.wrote ((Wrote.of_below (Below.refl _ _)).set (p := ⟨g, tn, none⟩) rfl (.int .i64 x)) hst5
              have hb6 : Below w0.heap.size w0 w5 := hbk.trans (hbr5.mono hszk)
              go_wp2
              go_round
              case rel => exact ⟨k + 1, r.set tn x, by omega, by go_num, DoAt.step HR.out HD.out HXE.out HXB.out, hrwf, hb6.setCell (show w0.heap.size ≤ (⟨g, tn, none⟩ : Addr).block from Nat.le_trans hsz2 hg0) _⟩
              case measure => (simp [intOf]; omega)
          · have hkl : cl = k := by omega
            have hq : doS code v = r := by rw [HR.out.2, ← hkl, List.drop_of_length_le (by rw [HCL.out]; exact Nat.le_refl _)]; rfl
            have hrv : r = v2 := hq.symm.trans HV2.out
            subst hrv
            have r0 := (hbk.cell hbl).trans hc0
            have r1 := (hbk.cell (p := ⟨(ad.add (i * 4)).block, (ad.add (i * 4)).off + 1, none⟩) hbl).trans hc1
            have r2 := (hbk.cell (p := ⟨(ad.add (i * 4)).block, (ad.add (i * 4)).off + 2, none⟩) hbl).trans hc2
            have r3 := (hbk.cell (p := ⟨(ad.add (i * 4)).block, (ad.add (i * 4)).off + 3, none⟩) hbl).trans hc3
            have HFO : Hid (Calls Try.prog 31 #[.agg #[.slice Ac cl cc, .int .i64 te, .int .i64 th, .int .i64 el], .slice (some ⟨g, 0, none⟩) n c0] wr fun e w' => e = .returned (.int .i64 (goB ⟨code, te, th, el⟩ r)) ∧ Below wr.heap.size wr w') := Lib.hid (follower_any Ac _ cl cc n c0 code te th el r wr (own_rdI HRWK.out.vals HRL.out) HRL.out HTE.out)
            clear hq hkl hrwk
            go_wp2_with (go_at_call 31; (with_reducible refine HFO.out.mono ?_); rintro e w6 ⟨rfl, hb6⟩)
            go_round
            case rel => exact ⟨_, r, l ++ [i], A8, c8, rfl, by rw [HLEN.out], by rw [HLEN.out]; omega, HGL.out, HVO2.out, HGO2.out, HRWK.out.quiet hb6, hbk.trans (hb6.mono hszk)⟩
            case measure => simp [lenV]; omega
      · have hm2 : ((m : Int) == 200) = true := by simp; omega
        have HOV := Lib.hid (HGO.out.over (by rw [HM.out]; omega))
        clear hrw hme
        go_wp2
        go_returns
        exact ⟨.inl ⟨by rw [← HRR.out]; exact HOV.out, _, _, _, _, rfl⟩, hb⟩

end Go.Proofs.Ytniilhgcgcimgaa
