/-
  Several texts in one: BlockRef, BlockDo, BlockGo, BlockNx, BlockIs.
-/
import Derived.Test.YtniilhgcgcimgaaMOpen
import Derived.Test.YtniilhgcgcimgaaMTerm
import Derived.Test.YtniilhgcgcimgaaMBase

/-
  codemasonref.ProgCheck (J1).
-/

namespace Go.Proofs.Ytniilhgcgcimgaa
open Go.RowKit
set_option linter.unusedSimpArgs false
set_option linter.unusedVariables false
set_option maxRecDepth 100000

/-- J1: what is said of a block's ways -/
def ckTail (vars n te th el : Int) : Int :=
  if te ≠ -1 ∧ ¬ (0 ≤ te ∧ te < vars) then 2
  else if te = -1 ∧ th ≠ -1 ∧ ¬ (0 ≤ th ∧ th < n) then 3
  else if 0 ≤ te ∧ ¬ (0 ≤ th ∧ th < n ∧ 0 ≤ el ∧ el < n) then 3 else 0

theorem ckBk_tail {vars n : Int} {c : List St} {te th el : Int} (h : ckStepsF vars vars c = 0) : ckBk vars n ⟨c, te, th, el⟩ = ckTail vars n te th el := by
  unfold ckBk ckTail
  rw [if_neg (by simp [h])]

theorem manyS_small : ∀ {p : List Bk}, (∀ b ∈ p, InBk b) → manyS p * 40 ≤ p.length * 140737488351232
  | [], _ => by simp [manyS]
  | b :: p, h => by
    have h1 := (h b (List.mem_cons_self ..)).1
    have h2 := manyS_small (p := p) fun x hx => h x (List.mem_cons_of_mem _ hx)
    simp only [manyS, List.length_cons]
    omega

set_option maxHeartbeats 4000000 in
theorem refProgCheck_any (vars : Int) (A : Option Addr) (len cap : Nat) (p : List Bk) (w : World) (hx : RdP w w.heap.size A p) (hl : p.length = len) (hm : len ≤ maxLen) (hin : ∀ b ∈ p, InBk b) :
    Calls Try.prog 29 #[.int .i64 vars, .slice A len cap] w fun e w' => e = .returned (.int .i64 (ckProg vars p)) ∧ Below w.heap.size w w' := by
  unfold maxLen at hm
  have HL := Lib.hid hl
  by_cases h8 : len ≤ 8
  · have hsm : Hid (∀ k, k ≤ 8 → manyS (p.take k) ≤ 28147497670247) := Lib.hid fun k hk => by
      have h1 := manyS_small (p := p.take k) fun b hb => hin b (List.mem_of_mem_take hb)
      have h2 : (p.take k).length ≤ 8 := by rw [List.length_take]; omega
      omega
    have HIN := Lib.hid hin
    have HMT := Lib.hid (fun (k : Nat) (b : Bk) (h : p[k]? = some b) => manyS_take h)
    have HFULL : Hid (p.take len = p) := Lib.hid (by rw [← hl, List.take_length])
    have HCK : Hid (ckProg vars p = if vars < 1 ∨ 6 < vars ∨ len < 1 ∨ 8 < len ∨ 20 < manyS p then 1 else ckBks vars len p) := Lib.hid (by unfold ckProg; rw [hl])
    clear hl hin
    go_enter Try.func29, Try.ntmps29
    go_wp2
    go_loopw [5, 15] (fun s z wr => ∃ k : Nat, k ≤ len ∧ z = .int .i64 k ∧ s = .int .i64 (manyS (p.take k) : Nat) ∧ Below w.heap.size w wr) (fun _ z _ => len - (intOf z).toNat)
    case atStart => exact ⟨0, Nat.zero_le _, rfl, by simp [manyS], Below.refl _ _⟩
    case round =>
      obtain ⟨k, hk, rfl, rfl, hb⟩ := hrel
      have hsz := hb.size
      by_cases hlt : k < len
      · obtain ⟨ad, b, Ac, cc, rfl, hbl, hd, hrow, hc0, hc1, hc2, hc3⟩ := (hx.below hb (Nat.le_refl _)).at_ (k := k) (by rw [HL.out]; exact hlt)
        have hmt := HMT.out k b hd
        have hs1 := hsm.out k (by omega)
        have hs2 := hsm.out (k + 1) (by omega)
        rw [hmt] at hs2
        have HT := Lib.hid hmt
        obtain ⟨m, hme⟩ : ∃ m, manyS (p.take k) = m := ⟨_, rfl⟩
        obtain ⟨cl, hcl⟩ : ∃ cl, b.code.length = cl := ⟨_, rfl⟩
        rw [hme, hcl] at HT
        rw [hme] at hs1 ⊢
        rw [hme, hcl] at hs2
        rw [hcl] at hc0
        clear hd hmt hme hcl
        go_wp2
        go_round
        case rel => exact ⟨k + 1, by omega, by go_num, by rw [HT.out]; go_num, by go_grown⟩
        case measure => (simp [intOf]; omega)
      · have hkl : k = len := by omega
        have hmp : manyS (p.take k) = manyS p := by rw [hkl, HFULL.out]
        rw [hmp]
        have hsp := hsm.out k (by omega)
        rw [hmp] at hsp
        obtain ⟨m, hme⟩ : ∃ m, manyS p = m := ⟨_, rfl⟩
        rw [hme] at HCK hsp ⊢
        have HME := Lib.hid hme
        obtain ⟨wv, rfl⟩ : ∃ wv : World, wv = wr := ⟨_, rfl⟩
        clear hmp hme hkl
        by_cases hbad : vars < 1 ∨ 6 < vars ∨ len < 1 ∨ 8 < len ∨ 20 < m
        · have hck := HCK.out
          rw [if_pos hbad] at hck
          have HC1 := Lib.hid hck
          clear hck
          go_wp2
          all_goals first
            | (go_ret; exact ⟨ret_int HC1.out.symm, hb⟩)
            | (exfalso; simp_all; omega)
        · have hck := HCK.out
          rw [if_neg hbad] at hck
          have HC1 := Lib.hid hck
          have v1 : 1 ≤ vars := by omega
          have v2 : vars ≤ 6 := by omega
          have v3 : 1 ≤ len := by omega
          have v5 : m ≤ 20 := by omega
          clear hck hbad
          go_wp2
          go_loopw [47] (fun z wr => ∃ k : Nat, k ≤ len ∧ z = .int .i64 k ∧ ckProg vars p = ckBks vars len (p.drop k) ∧ Below w.heap.size w wr) (fun z _ => len - (intOf z).toNat)
          case atStart => exact ⟨0, Nat.zero_le _, rfl, by rw [HC1.out]; rfl, hb⟩
          case round =>
            obtain ⟨k, hk, rfl, hr, hb2⟩ := hrel
            have HR := Lib.hid hr
            have hsz2 := hb2.size
            clear hr
            by_cases hlt : k < len
            · obtain ⟨ad, ⟨code, te, th, el⟩, Ac, cc, rfl, hbl, hd, hrow, hc0, hc1, hc2, hc3⟩ := (hx.below hb2 (Nat.le_refl _)).at_ (k := k) (by rw [HL.out]; exact hlt)
              have HD := Lib.hid (ckBks_drop (vars := vars) (n := (len : Int)) hd)
              have hcm := manyS_le hd
              rw [HME.out] at hcm
              simp only [] at hc0 hc1 hc2 hc3 hcm hrow
              obtain ⟨cl, hcl⟩ : ∃ cl, code.length = cl := ⟨_, rfl⟩
              rw [hcl] at hc0 hcm
              have HCL := Lib.hid hcl
              have HFUL2 : Hid (code.drop cl = []) := Lib.hid (List.drop_of_length_le (by rw [hcl]; exact Nat.le_refl _))
              obtain ⟨wi, rfl⟩ : ∃ wi : World, wi = wr := ⟨_, rfl⟩
              clear hd hcl
              have hownb := Own.new wi 39 [.slice Ac cl cc, .int .i64 te, .int .i64 th, .int .i64 el]
              have hbb : Below w.heap.size w (wi.alloc (.cells #[.slice Ac cl cc, .int .i64 te, .int .i64 th, .int .i64 el] 39)) := by go_grown
              go_wp2
              go_loopw [54] (fun z wr => ∃ c : Nat, c ≤ cl ∧ z = .int .i64 c ∧ ckStepsF vars vars code = ckStepsF vars vars (code.drop c) ∧ Own wr wi.heap.size 39 [.slice Ac cl cc, .int .i64 te, .int .i64 th, .int .i64 el] ∧ Below w.heap.size w wr) (fun z _ => cl - (intOf z).toNat)
              case atStart => exact ⟨0, Nat.zero_le _, rfl, rfl, hownb, hbb⟩
              case round =>
                obtain ⟨c, hc, rfl, hr, hown, hb3⟩ := hrel
                have HR2 := Lib.hid hr
                have hsz3 := hb3.size
                have hlt3 := hown.lt
                clear hr
                by_cases hct : c < cl
                · obtain ⟨ad2, o, t, a, b, v, rfl, hbl2, hd, e0, e1, e2, e3, e4⟩ := (RdS.below hrow (by exact (show Below w.heap.size wi wr from ⟨hb3.os.trans hb2.os.symm, hb3.tape.trans hb2.tape.symm, hb3.output.trans hb2.output.symm, by omega, fun g hg => (hb3.block g hg).trans (hb2.block g hg).symm⟩)) (Nat.le_refl _)).at_ (k := c) (by rw [HCL.out]; exact hct)
                  have HD2 := Lib.hid (drop_at hd)
                  clear hd
                  by_cases hop : ckStep vars vars o t a b v = 0
                  · have HO := Lib.hid hop
                    have n1 : (ckStep vars vars o t a b v != 0) = false := by simp [hop]
                    clear hop
                    go_wp2_with (go_at_call 34; (with_reducible refine (stepCheck_any _ _ _ _ _ _ _ _).mono ?_); rintro e w1 ⟨rfl, hb4⟩)
                    go_round
                    case rel => exact ⟨c + 1, by omega, by go_num, by rw [HR2.out, HD2.out]; exact ckStepsF_go HO.out, (hown.alloc _).below hb4 (by go_size), (hb3.trans ((by go_grown : Below wr.heap.size wr _).mono hsz3)).trans (hb4.mono (by go_size))⟩
                    case measure => (simp [intOf]; omega)
                  · have HO := Lib.hid hop
                    have n1 : (ckStep vars vars o t a b v != 0) = true := by simp [hop]
                    clear hop
                    go_wp2_with (go_at_call 34; (with_reducible refine (stepCheck_any _ _ _ _ _ _ _ _).mono ?_); rintro e w1 ⟨rfl, hb4⟩)
                    go_ret
                    refine ⟨ret_int ?_, (hb3.trans ((by go_grown : Below wr.heap.size wr _).mono hsz3)).trans (hb4.mono (by go_size))⟩
                    have hq : ckStepsF vars vars code = ckStep vars vars o t a b v := by rw [HR2.out, HD2.out]; exact (ckStepsF_stop rfl HO.out).symm
                    have hk2 : ckBk vars len ⟨code, te, th, el⟩ = ckStep vars vars o t a b v := by unfold ckBk; rw [if_pos (by rw [hq]; exact HO.out), hq]
                    rw [HR.out, HD.out, hk2, if_neg HO.out]
                · have hcl2 : c = cl := by omega
                  have hq : ckStepsF vars vars code = 0 := by rw [HR2.out, hcl2, HFUL2.out]; rfl
                  have HT := Lib.hid (ckBk_tail (n := (len : Int)) (te := te) (th := th) (el := el) hq)
                  have q0 := hown.cell (j := 0) rfl
                  have q1 := hown.cell (j := 1) rfl
                  have q2 := hown.cell (j := 2) rfl
                  have q3 := hown.cell (j := 3) rfl
                  clear hq hcl2 hown hownb hbb hrow
                  go_wp2_with (first
                    | (go_at_call 15; (with_reducible refine (inside1_any _ te _ _ _ ?_).mono ?_); (· (exact cell_new (by simp) rfl)); rintro e w1 ⟨rfl, rfl⟩)
                    | (go_at_call 15; (with_reducible refine (inside1_any _ th _ _ _ ?_).mono ?_); (· (exact cell_new (by simp) rfl)); rintro e w1 ⟨rfl, rfl⟩)
                    | (go_at_call 15; (with_reducible refine (inside2_any _ th el _ _ _ ?_ ?_).mono ?_); (· (exact cell_new (by simp) rfl)); (· (exact cell_new (by simp) rfl)); rintro e w1 ⟨rfl, rfl⟩))
                  all_goals first
                    | (go_round
                       case rel =>
                         have e : ckTail vars len te th el = 0 := by
                           (go_light; (try simp only [Bool.not_eq_true', Bool.not_eq_false', decide_eq_true_eq, decide_eq_false_iff_not, beq_iff_eq, beq_eq_false_iff_ne, bne_iff_ne, bne_eq_false_iff_eq, ne_eq, Bool.and_eq_true, Bool.or_eq_true, Bool.and_eq_false_iff, Bool.or_eq_false_iff, Decidable.not_not] at *))
                           unfold ckTail
                           (repeat' split) <;> omega
                         exact ⟨k + 1, by omega, by go_num, by rw [HR.out, HD.out, HT.out, if_pos e], by go_grown⟩
                       case measure => (simp [intOf]; omega))
                    | (go_ret
                       refine ⟨ret_int ?_, by go_grown⟩
                       first
                         | (have e : ckTail vars len te th el = 2 := by
                              (go_light; (try simp only [Bool.not_eq_true', Bool.not_eq_false', decide_eq_true_eq, decide_eq_false_iff_not, beq_iff_eq, beq_eq_false_iff_ne, bne_iff_ne, bne_eq_false_iff_eq, ne_eq, Bool.and_eq_true, Bool.or_eq_true, Bool.and_eq_false_iff, Bool.or_eq_false_iff, Decidable.not_not] at *))
                              unfold ckTail
                              (repeat' split) <;> omega
                            rw [HR.out, HD.out, HT.out, e]; rfl)
                         | (have e : ckTail vars len te th el = 3 := by
                              (go_light; (try simp only [Bool.not_eq_true', Bool.not_eq_false', decide_eq_true_eq, decide_eq_false_iff_not, beq_iff_eq, beq_eq_false_iff_ne, bne_iff_ne, bne_eq_false_iff_eq, ne_eq, Bool.and_eq_true, Bool.or_eq_true, Bool.and_eq_false_iff, Bool.or_eq_false_iff, Decidable.not_not] at *))
                              unfold ckTail
                              (repeat' split) <;> omega
                            rw [HR.out, HD.out, HT.out, e]; rfl))
            · have hkl : len ≤ k := by omega
              have hd0 : p.drop k = [] := List.drop_of_length_le (by rw [HL.out]; exact hkl)
              have hz : ckProg vars p = 0 := by rw [HR.out, hd0]; rfl
              have HZ := Lib.hid hz
              clear hkl hd0 hz
              go_wp2
              go_ret
              exact ⟨ret_int HZ.out.symm, hb2⟩
  · have hck : ckProg vars p = 1 := by unfold ckProg; rw [hl, if_pos (by omega)]
    rw [hck]
    clear hck hl hin
    go_enter Try.func29, Try.ntmps29
    go_wp2
    go_loopw [5, 15] (fun s z wr => ∃ (k : Nat) (m : Int), k ≤ len ∧ z = .int .i64 k ∧ s = .int .i64 m ∧ Below w.heap.size w wr) (fun _ z _ => len - (intOf z).toNat)
    case atStart => exact ⟨0, 0, Nat.zero_le _, rfl, rfl, Below.refl _ _⟩
    case round =>
      obtain ⟨k, m, hk, rfl, rfl, hb⟩ := hrel
      have hsz := hb.size
      by_cases hlt : k < len
      · obtain ⟨ad, b, Ac, cc, rfl, hbl, hd, hrow, hc0, hc1, hc2, hc3⟩ := (hx.below hb (Nat.le_refl _)).at_ (k := k) (by rw [HL.out]; exact hlt)
        obtain ⟨cl, hcl⟩ : ∃ cl, b.code.length = cl := ⟨_, rfl⟩
        rw [hcl] at hc0
        clear hd hcl
        go_wp2
        go_round
        case rel => exact ⟨k + 1, _, by omega, by go_num, rfl, by go_grown⟩
        case measure => (simp [intOf]; omega)
      · go_wp2
        all_goals first
          | (go_ret; exact ⟨rfl, hb⟩)
          | (exfalso; simp_all; omega)

end Go.Proofs.Ytniilhgcgcimgaa

/-
  codemasonref.Doing (J1): what variables have behind steps.
-/

namespace Go.Proofs.Ytniilhgcgcimgaa
open Go.RowKit
set_option linter.unusedSimpArgs false
set_option linter.unusedVariables false
set_option maxRecDepth 100000

/-- on the way: all that is left gives what the whole gives -/
def DoAt (n : Nat) (code : List St) (v : List Int) (k : Nat) (r : List Int) : Prop := ValsOk n r ∧ doS code v = doS (code.drop k) r

theorem DoAt.step {n : Nat} {code : List St} {v r : List Int} {k : Nat} {o t a b vv x : Int} (h : DoAt n code v k r) (hd : code.drop k = ⟨o, t, a, b, vv⟩ :: code.drop (k + 1)) (hx : x = stV r ⟨o, t, a, b, vv⟩ r) (hb : 0 ≤ x ∧ x ≤ 255) : DoAt n code v (k + 1) (r.set t.toNat x) := by
  refine ⟨h.1.set hb, ?_⟩
  rw [h.2, hd, doS, hx]

theorem stv_num {r : List Int} {t a b v : Int} : v = stV r ⟨1, t, a, b, v⟩ r := by simp [stV]

theorem stv_var {r : List Int} {t a b x : Int} {v : Nat} (h : r[v]? = some x) : x = stV r ⟨2, t, a, b, v⟩ r := by simp [stV, h]

theorem stv_op {r : List Int} {o t v x y : Int} {a b : Nat} (ho : 3 ≤ o) (hx : r[a]? = some x) (hy : r[b]? = some y) : opv o x y = stV r ⟨o, t, a, b, v⟩ r := by
  have h1 : ¬ o = 1 := by omega
  have h2 : ¬ o = 2 := by omega
  simp [stV, h1, h2, hx, hy]

theorem own_empty_at (X : World) (base g : Nat) (e : TypeId) (hg : g = X.heap.size) (hb : base ≤ X.heap.size) : (X.alloc (.cells #[] e)).ownsRow base e 1 (.slice (some ⟨g, 0, none⟩) 0 0) 0 [] := by
  subst hg
  exact World.ownsRow_made X #[] 0 hb (Nat.zero_le _) rfl

theorem own_form {w : World} {base : Nat} {e : TypeId} {size : Nat} {A : Option Addr} {n c : Nat} {xs : List Value} (h : w.ownsRow base e size (.slice A n c) n xs) (hn : 0 < n) : ∃ g, A = some ⟨g, 0, none⟩ ∧ base ≤ g ∧ g < w.heap.size := by
  rcases h.2 with ⟨hv, h0⟩ | ⟨g, cap, cur, hv, h1, h2, _⟩
  · omega
  · injection hv with hv
    exact ⟨g, hv, h1, (Array.getElem?_eq_some_iff.1 h2).1⟩

set_option maxHeartbeats 4000000 in
theorem refDoing_any (n : Nat) (A VA : Option Addr) (cl cap vcap : Nat) (code : List St) (v : List Int) (w : World) (hx : RdS w w.heap.size A code) (hv : RdI w w.heap.size VA v) (hl : code.length = cl) (hm : cl ≤ 65536) (hc : ckStepsF n n code = 0) (hok : ValsOk n v) (hn : 1 ≤ n) (hn6 : n ≤ 65536) :
    Calls Try.prog 26 #[.slice A cl cap, .slice VA n vcap] w fun e w' => ∃ g c', e = .returned (.slice (some ⟨g, 0, none⟩) n c') ∧ w'.ownsRow w.heap.size 3 1 (.slice (some ⟨g, 0, none⟩) n c') n (iv (doS code v)) ∧ Below w.heap.size w w' := by
  have HL := Lib.hid hl
  have HC := Lib.hid hc
  have HD0 : Hid (DoAt n code v 0 v) := Lib.hid ⟨hok, rfl⟩
  have HL1 : Hid ((iv v).length = n * 1) := Lib.hid (by simp [iv, hok.1])
  have HN1 : Hid (VA = none → n = 0) := Lib.hid fun h => by have := hv.nil h; rw [hok.1] at this; exact this
  have HNW : Hid (∀ Z : World, Below w.heap.size w Z → ∀ ad, VA = some ad → ∀ j u, (iv v)[j]? = some u → Z.cell? (ad.add j) = some u) := Lib.hid fun Z hZ => (hv.below hZ (Nat.le_refl _)).news
  have ha_ : 0 + n ≤ maxLen := by unfold maxLen; omega
  have hb_ : (0 + n) * 8 ≤ 140737488355328 := by omega
  clear hl hc hok hv
  go_enter Try.func26, Try.ntmps26
  go_wp2_with (at_builtin; refine wpList_app rfl (.tmp 8) (.tmp 9) 26 rfl w.heap.size 3 1 8 int_app [] rfl (own_empty_at _ _ _ _ (by simp) (by simp)) (iv v) rfl HL1.out HN1.out (HNW.out _ (by go_grown)) (iv_one _) ha_ hb_ (by simp) ?_; intro A1 c1 w1 hown1 hg1 hb1; rw [Nat.zero_add, List.nil_append] at hown1)
  obtain ⟨g, rfl, hg0, hg1'⟩ := own_form hown1 (by omega)
  have hbw : Below w.heap.size w w1 := ((by go_grown : Below w.heap.size w (w.alloc (.cells #[] 3)))).trans hb1
  clear hg1 hb1
  go_loopw [13] (fun i wr => ∃ (k : Nat) (r : List Int), k ≤ cl ∧ i = .int .i64 k ∧ DoAt n code v k r ∧ wr.ownsRow w.heap.size 3 1 (.slice (some ⟨g, 0, none⟩) n c1) n (iv r) ∧ Below w.heap.size w wr) (fun i _ => cl - (intOf i).toNat)
  case atStart => exact ⟨0, v, Nat.zero_le _, rfl, HD0.out, hown1, hbw⟩
  case round =>
    obtain ⟨k, r, hk, rfl, hr, hown, hb⟩ := hrel
    have HR := Lib.hid hr
    have hrl := hr.1.1
    have HRL := Lib.hid hrl
    have hsz := hb.size
    have hgs := (hown.lt g rfl).2
    clear hr hrl
    by_cases hlt : k < cl
    · obtain ⟨ad, o, t, a, b, vv, rfl, hbl, hd, hc0, hc1, hc2, hc3, hc4⟩ := (RdS.below hx hb (Nat.le_refl _)).at_ (k := k) (by rw [HL.out]; exact hlt)
      have hcase := ckStep_cases (ckStepsF_at HC.out hd)
      have HD := Lib.hid (drop_at hd)
      clear hd
      obtain ⟨⟨ht0, ht1⟩, hcase⟩ := hcase
      simp only [] at ht0 ht1 hcase
      obtain ⟨tn, rfl⟩ := Int.eq_ofNat_of_zero_le ht0
      have htn : tn < n := by omega
      have hfz := hown.frozenAt tn
      have htl : tn < r.length := by rw [HRL.out]; exact htn
      have hct := (hown.cellAt tn (by omega)).trans (iv_at (List.getElem?_eq_getElem htl))
      have HST : Hid (∀ x : Int, (w0 : World) → w0.ownsRow w.heap.size 3 1 (.slice (some ⟨g, 0, none⟩) n c1) n (iv r) → (w0.setCell ⟨g, tn, none⟩ (.int .i64 x)).ownsRow w.heap.size 3 1 (.slice (some ⟨g, 0, none⟩) n c1) n (iv (r.set tn x))) := Lib.hid fun x w0 h => by
        have := (h.stored tn (.int .i64 x)).1
        rw [iv_set] at this
        exact this
      generalize r[tn] = xt at *
      rcases hcase with ⟨rfl, hv0, hv1⟩ | ⟨rfl, hv0, hv1⟩ | ⟨ho0, ho1, ha0, ha1, hb0, hb1⟩
      · go_wp2
        go_round
        case rel => exact ⟨k + 1, r.set tn vv, by omega, by go_num, DoAt.step HR.out HD.out stv_num (by omega), (HST.out _ _ hown).alloc _, (hb.setCell (show w.heap.size ≤ (⟨g, tn, none⟩ : Addr).block from hg0) _).alloc (by simpa using hsz) _⟩
        case measure => (simp [intOf]; omega)
      · obtain ⟨vn, rfl⟩ := Int.eq_ofNat_of_zero_le hv0
        have hvn : vn < n := by omega
        have hvl : vn < r.length := by rw [HRL.out]; exact hvn
        have hcx := (hown.cellAt vn (by omega)).trans (iv_at (List.getElem?_eq_getElem hvl))
        have hxb := HR.out.1.2 vn _ (List.getElem?_eq_getElem hvl)
        have HX := Lib.hid (List.getElem?_eq_getElem hvl)
        generalize r[vn] = x at *
        go_wp2
        go_round
        case rel => exact ⟨k + 1, r.set tn x, by omega, by go_num, DoAt.step HR.out HD.out (stv_var HX.out) hxb, (HST.out _ _ hown).alloc _, (hb.setCell (show w.heap.size ≤ (⟨g, tn, none⟩ : Addr).block from hg0) _).alloc (by simpa using hsz) _⟩
        case measure => (simp [intOf]; omega)
      · obtain ⟨an, rfl⟩ := Int.eq_ofNat_of_zero_le ha0
        obtain ⟨bn, rfl⟩ := Int.eq_ofNat_of_zero_le hb0
        have han : an < n := by omega
        have hbn : bn < n := by omega
        have hal : an < r.length := by rw [HRL.out]; exact han
        have hbl' : bn < r.length := by rw [HRL.out]; exact hbn
        have hcav := (hown.cellAt an (by omega)).trans (iv_at (List.getElem?_eq_getElem hal))
        have hcbv := (hown.cellAt bn (by omega)).trans (iv_at (List.getElem?_eq_getElem hbl'))
        have hav := HR.out.1.2 an _ (List.getElem?_eq_getElem hal)
        have hbv := HR.out.1.2 bn _ (List.getElem?_eq_getElem hbl')
        have HA1 := Lib.hid (List.getElem?_eq_getElem hal)
        have HB1 := Lib.hid (List.getElem?_eq_getElem hbl')
        generalize r[an] = va at *
        generalize r[bn] = vb at *
        go_wp2
        (refine still_tail 13 (by kernel_rfl) (by kernel_rfl) ?_; simp only [List.take_succ_cons, List.take_zero, List.drop_succ_cons, List.drop_zero]; repeat still_step)
        still_call ((refOp_any _ _ _ _ (by omega) (by omega) (by omega) (by omega) (by omega) (by omega)).mono fun _ _ h => ⟨h.1, h.2.symm⟩)
        ((repeat still_step); refine wpStill_nil ?_)
        go_wp2
        go_round
        case rel => exact ⟨k + 1, r.set tn (opv o va vb), by omega, by go_num, DoAt.step HR.out HD.out (stv_op ho0 HA1.out HB1.out) (opv_bd _ _ _), ((HST.out _ _ hown).alloc _).drew, ((hb.setCell (show w.heap.size ≤ (⟨g, tn, none⟩ : Addr).block from hg0) _).alloc (by simpa using hsz) _).drew⟩
        case measure => (simp [intOf]; omega)
    · have hkl : cl = k := by omega
      subst hkl
      have hq : doS code v = r := by rw [HR.out.2, List.drop_of_length_le (by rw [HL.out]; exact Nat.le_refl _)]; rfl
      have HQ := Lib.hid hq
      clear hq
      go_wp2
      go_ret
      exact ⟨g, c1, rfl, by rw [HQ.out]; exact hown, hb⟩

end Go.Proofs.Ytniilhgcgcimgaa

/-
  codemasonref.Goes (J2): a run.
-/

namespace Go.Proofs.Ytniilhgcgcimgaa
open Go.RowKit
set_option linter.unusedSimpArgs false
set_option linter.unusedVariables false
set_option maxRecDepth 100000

/-- the length that a slice has -/
def lenV : Value → Nat
  | .slice _ n _ => n
  | _ => 0

/-- values, and the blocks so far: a slice of the call's own that grows, apart from the values -/
structure Gw (w : World) (base : Nat) (VA : Option Addr) (v : List Int) (A : Option Addr) (c : Nat) (l : List Nat) : Prop where
  rd : RdI w w.heap.size VA v
  own : w.ownsRow base 3 1 (.slice A l.length c) l.length (iv (ni l))
  apart : ∀ ad, VA = some ad → (Value.slice A l.length c).ownBlock ≠ some ad.block
  pos : 0 < v.length

theorem Gw.app {w X w' : World} {base : Nat} {VA A A' : Option Addr} {v : List Int} {c c' : Nat} {l : List Nat} {i : Nat} (h : Gw w base VA v A c l) (hX : Below w.heap.size w X)
    (ho : w'.ownsRow base 3 1 (.slice A' (l.length + 1) c') (l.length + 1) (iv (ni l) ++ [.int .i64 (i : Int)])) (hg : X.grownBy w' (Value.slice A l.length c).ownBlock)
    (hbl : (Value.slice A' (l.length + 1) c').ownBlock = (Value.slice A l.length c).ownBlock ∨ (Value.slice A' (l.length + 1) c').ownBlock = some X.heap.size) : Gw w' base VA v A' c' (l ++ [i]) := by
  have e : (l ++ [i]).length = l.length + 1 := by simp
  have hs := hX.size
  have hs2 := hg.size
  refine ⟨fun hm => ?_, ?_, fun ad hA => ?_, h.pos⟩
  · obtain ⟨ad, hA, hb, hc⟩ := h.rd hm
    refine ⟨ad, hA, by omega, fun j hj => ?_⟩
    rw [← hc j hj]
    refine World.cell?_of_block ?_
    rw [addr_add_block, hg.block ad.block (by omega) (fun e => h.apart ad hA e.symm), hX.block ad.block hb]
  · rw [e, ni_append, iv_append]
    exact ho
  · rw [e]
    rcases hbl with hb | hb
    · rw [hb]; exact h.apart ad hA
    · rw [hb]
      intro hq
      injection hq with hq
      obtain ⟨ad2, hA2, hb2, _⟩ := h.rd h.pos
      rw [hA] at hA2
      injection hA2 with hA2
      subst hA2
      omega

theorem Gw.next {w w' : World} {base : Nat} {VA VA' A : Option Addr} {v v' : List Int} {c : Nat} {l : List Nat} (h : Gw w base VA v A c l) (hb : Below w.heap.size w w') (hv : RdI w' w'.heap.size VA' v') (hn : ∀ ad, VA' = some ad → w.heap.size ≤ ad.block) (hp : 0 < v'.length) : Gw w' base VA' v' A c l := by
  refine ⟨hv, own_below h.own hb, fun ad hA hq => ?_, hp⟩
  have h1 := (h.own.lt _ hq).2
  have h2 := hn ad hA
  omega

theorem Gw.start {w : World} {base : Nat} {VA : Option Addr} {v : List Int} (hv : RdI w w.heap.size VA v) (hp : 0 < v.length) : Gw w base VA v none 0 [] := ⟨hv, World.ownsRow_nil _ _ _ _, fun _ _ h => by simp [Value.ownBlock] at h, hp⟩

/-- what a run so far and the rest of it give -/
def GoAt (p : List Bk) (most : Nat) (hv : List Int) (l : List Nat) (at_ : Int) (v : List Int) : Prop := goP p most 0 hv = (goP p (most - l.length) at_ v).map fun x => (x.1, l ++ x.2)

theorem GoAt.start (p : List Bk) (most : Nat) (hv : List Int) : GoAt p most hv [] 0 hv := by
  unfold GoAt
  simp only [List.length_nil, Nat.sub_zero, List.nil_append]
  cases goP p most 0 hv <;> rfl

theorem GoAt.stop {p : List Bk} {most : Nat} {hv v : List Int} {l : List Nat} (h : GoAt p most hv l (-1) v) : goP p most 0 hv = some (v, l) := by
  unfold GoAt at h
  rw [h, goP_stop]
  simp

theorem GoAt.over {p : List Bk} {most : Nat} {hv v : List Int} {l : List Nat} {i : Nat} (h : GoAt p most hv l (i : Int) v) (hl : most ≤ l.length) : goP p most 0 hv = none := by
  unfold GoAt at h
  rw [h, show most - l.length = 0 by omega, goP_zero]
  rfl

theorem GoAt.step {p : List Bk} {most : Nat} {hv v : List Int} {l : List Nat} {i : Nat} {b : Bk} (h : GoAt p most hv l (i : Int) v) (hl : l.length < most) (hb : p[i]? = some b) : GoAt p most hv (l ++ [i]) (goB b (doS b.code v)) (doS b.code v) := by
  unfold GoAt at h ⊢
  rw [h, show most - l.length = (most - (l ++ [i]).length) + 1 by simp; omega, goP_step hb]
  cases goP p (most - (l ++ [i]).length) (goB b (doS b.code v)) (doS b.code v) with
  | none => rfl
  | some x => simp

/-- what a run answers -/
def GoesTo (r : Option (List Int × List Nat)) (e : Ending) (w w' : World) : Prop :=
  (r = none ∧ e = .returned (.tuple #[.slice none 0 0, .slice none 0 0, .bool false])) ∨
  ∃ (x : List Int) (l : List Nat) (A1 A2 : Option Addr) (c1 c2 : Nat), r = some (x, l) ∧ e = .returned (.tuple #[.slice A1 x.length c1, .slice A2 l.length c2, .bool true]) ∧ RdI w' w'.heap.size A1 x ∧ RdI w' w'.heap.size A2 (ni l)

set_option maxHeartbeats 8000000 in
theorem refGoes_any (n most : Nat) (A HA : Option Addr) (len cap hcap : Nat) (p : List Bk) (hv : List Int) (w : World) (hx : RdP w w.heap.size A p) (hh : RdI w w.heap.size HA hv) (hl : p.length = len) (hc : ckProg n p = 0) (hok : ValsOk n hv) (hmm : most ≤ 65536) :
    Calls Try.prog 16 #[.slice A len cap, .slice HA n hcap, .int .i64 most] w fun e w' => GoesTo (goP p most 0 hv) e w w' ∧ Below w.heap.size w w' := by
  obtain ⟨b1, b2, b3, b4, b5, _⟩ := ckProg_bd hc
  have HC := Lib.hid hc
  have HL := Lib.hid hl
  rw [hl] at b3 b4
  have hn1 : 1 ≤ n := by omega
  have hn6 : n ≤ 6 := by omega
  have HG0 := Lib.hid (GoAt.start p most hv)
  have HW0 : Hid (Gw w w.heap.size HA hv none 0 []) := Lib.hid (Gw.start hh (by rw [hok.1]; omega))
  have HOK := Lib.hid hok
  clear hc hl hok hh b1 b2
  go_enter Try.func16, Try.ntmps16
  go_wp2
  go_loopw [1, 9, 10] (fun s1 s9 s10 wr => ∃ (at_ : Int) (v : List Int) (l : List Nat) (VA A2 : Option Addr) (vc c : Nat), s10 = .int .i64 at_ ∧ s1 = .slice VA n vc ∧ s9 = .slice A2 l.length c ∧ l.length ≤ most ∧ (at_ = -1 ∨ ∃ i : Nat, at_ = (i : Int) ∧ i < len) ∧ ValsOk n v ∧ GoAt p most hv l at_ v ∧ Gw wr w.heap.size VA v A2 c l ∧ Below w.heap.size w wr) (fun _ s9 _ _ => most + 1 - lenV s9)
  case atStart => exact ⟨0, hv, [], HA, none, hcap, 0, rfl, rfl, rfl, Nat.zero_le _, .inr ⟨0, rfl, by omega⟩, HOK.out, HG0.out, HW0.out, Below.refl _ _⟩
  case round =>
    obtain ⟨at_, v, l, VA, A2, vc, c, rfl, rfl, rfl, hlm, hat, hvo, hgo, hgw, hb⟩ := hrel
    have HVO := Lib.hid hvo
    have HGO := Lib.hid hgo
    have HGW := Lib.hid hgw
    have hsz := hb.size
    obtain ⟨m, hme⟩ : ∃ m, l.length = m := ⟨_, rfl⟩
    have HM := Lib.hid hme
    rw [hme] at hlm ⊢
    clear hvo hgo
    rcases hat with rfl | ⟨i, rfl, hi⟩
    · have HST := Lib.hid HGO.out.stop
      have HR1 := Lib.hid hgw.rd
      have HR2 := Lib.hid (own_rdI hgw.own (by simp [ni]))
      clear hgw hme
      go_wp2
      go_returns
      exact ⟨.inr ⟨v, l, VA, A2, vc, c, HST.out, by rw [HVO.out.1, HM.out]; rfl, HR1.out, HR2.out⟩, hb⟩
    · have hine : ((i : Int) != -1) = true := by simp
      by_cases hlt : m < most
      · obtain ⟨ad, ⟨code, te, th, el⟩, Ac, cc, rfl, hbl, hd, hrow, hc0, hc1, hc2, hc3⟩ := hx.at_ (k := i) (by rw [HL.out]; exact hi)
        have hbk := ckProg_at HC.out hd
        have hgo2 := HGO.out.step (by rw [HM.out]; exact hlt) hd
        have hcm := manyS_le hd
        simp only [] at hc0 hc1 hc2 hc3 hcm hrow hgo2
        have hcode := hbk.code
        have htest := hbk.test
        have hgl := goB_lt hbk (doS code v)
        have hvo2 := doS_ok hcode HVO.out
        simp only [] at hcode htest
        have HCD := Lib.hid hcode
        obtain ⟨cl, hcl⟩ : ∃ cl, code.length = cl := ⟨_, rfl⟩
        rw [hcl] at hc0 hcm
        have HCL := Lib.hid hcl
        have hclm : cl ≤ 65536 := by omega
        have HGO2 := Lib.hid hgo2
        have HGL := Lib.hid hgl
        have HVO2 := Lib.hid hvo2
        obtain ⟨v2, hv2⟩ : ∃ v2, doS code v = v2 := ⟨_, rfl⟩
        rw [hv2] at HGO2 HGL HVO2
        rw [HL.out] at HGL
        have HV2 := Lib.hid hv2
        have hrow1 := hgw.own
        rw [hme] at hrow1
        have h63 : m + 1 ≤ maxLen := by unfold maxLen; omega
        have hbig : (m + 1) * 8 ≤ 140737488355328 := by omega
        have hA0 : Below w.heap.size w (wr.alloc (.cells #[.int .i64 (i : Int)] 3)) := by go_grown
        clear hgw hme hd hbk hgo2 hgl hvo2 hcode hcl hv2
        go_wp2_with (at_builtin; refine wpList_app' rfl (.tmp 17) (.tmp 19) 26 rfl w.heap.size 3 1 8 int_app _ rfl (hrow1.alloc _) [.int .i64 (i : Int)] rfl rfl (fun h => by cases h) (cells_at rfl _ _) (one_cell _) h63 hbig (by simp; omega) ?_; intro A8 c8 w8 hown8 hg8 hb8 hp8; have hbw8 := hA0.trans hb8; have hq0 := (hbw8.cell hbl).trans hc0)
        have hgw8 : Gw w8 w.heap.size VA v A8 c8 (l ++ [i]) := HGW.out.app (X := wr.alloc (.cells #[.int .i64 (i : Int)] 3)) (by go_grown) (by rw [HM.out]; exact hown8) (by rw [HM.out]; exact hg8) (by rw [HM.out]; exact hp8)
        have hs8 := hbw8.size
        have HGW8 := Lib.hid hgw8
        go_wp2_with fail
        refine (refDoing_any n Ac VA cl cc vc code v _ ((hrow.below hbw8 (Nat.le_refl _)).more hs8) hgw8.rd HCL.out hclm HCD.out HVO.out hn1 (by omega)).mono ?_
        rintro e w9 ⟨g, c9, rfl, hown9, hb9⟩
        rw [HV2.out] at hown9
        have hbw9 := hbw8.trans (hb9.mono hs8)
        have hq1 := (hbw9.cell (p := ⟨(ad.add (i * 4)).block, (ad.add (i * 4)).off + 1, none⟩) hbl).trans hc1
        have hq2 := (hbw9.cell (p := ⟨(ad.add (i * 4)).block, (ad.add (i * 4)).off + 2, none⟩) hbl).trans hc2
        have hq3 := (hbw9.cell (p := ⟨(ad.add (i * 4)).block, (ad.add (i * 4)).off + 3, none⟩) hbl).trans hc3
        have hrd9 : RdI w9 w9.heap.size (some ⟨g, 0, none⟩) v2 := own_rdI hown9 HVO2.out.1
        have hgb := (hown9.lt g rfl).1
        have HGW9 : Hid (Gw w9 w.heap.size (some ⟨g, 0, none⟩) v2 A8 c8 (l ++ [i])) := Lib.hid (HGW8.out.next hb9 hrd9 (fun a ha => by injection ha with ha; subst ha; exact hgb) (by rw [HVO2.out.1]; omega))
        have hlen : (l ++ [i]).length = m + 1 := by simp [HM.out]
        have HLEN := Lib.hid hlen
        clear hgw8 hlen hown8 hg8 hp8 hb8 hrow1 hA0 hq0
        by_cases ht : 0 ≤ te
        · obtain ⟨tn, rfl⟩ := Int.eq_ofNat_of_zero_le ht
          have htn : tn < n := by omega
          have htl : tn < v2.length := by rw [HVO2.out.1]; exact htn
          obtain ⟨x, hx2⟩ : ∃ x, v2[tn]? = some x := ⟨_, List.getElem?_eq_getElem htl⟩
          have hcx := (hown9.cellAt tn (by omega)).trans (iv_at hx2)
          have hgv : v2.getD tn 0 = x := by rw [List.getD_eq_getElem?_getD, hx2]; rfl
          clear ht htest htl hx2 hown9
          by_cases hx0 : x = 0
          · have hgo3 : goB ⟨code, (tn : Int), th, el⟩ v2 = el := by unfold goB; rw [if_pos ⟨by simp, by simpa [hx0] using hgv⟩]
            rw [hgo3] at HGO2 HGL
            subst hx0
            clear hgo3 hgv
            go_wp2_with fail
            go_round
            case rel => exact ⟨el, v2, l ++ [i], some ⟨g, 0, none⟩, A8, c9, c8, rfl, rfl, by rw [HLEN.out], by rw [HLEN.out]; omega, HGL.out, HVO2.out, HGO2.out, HGW9.out, hbw9⟩
            case measure => simp [lenV]; omega
          · have hgo3 : goB ⟨code, (tn : Int), th, el⟩ v2 = th := by unfold goB; rw [if_neg (fun h => hx0 (by rw [← hgv]; simpa using h.2))]
            rw [hgo3] at HGO2 HGL
            have hx1 : (x == 0) = false := by simp [hx0]
            clear hgo3 hgv hx0
            go_wp2_with fail
            go_round
            case rel => exact ⟨th, v2, l ++ [i], some ⟨g, 0, none⟩, A8, c9, c8, rfl, rfl, by rw [HLEN.out], by rw [HLEN.out]; omega, HGL.out, HVO2.out, HGO2.out, HGW9.out, hbw9⟩
            case measure => simp [lenV]; omega
        · have hgo3 : goB ⟨code, te, th, el⟩ v2 = th := by unfold goB; rw [if_neg (fun h => ht h.1)]
          rw [hgo3] at HGO2 HGL
          clear hgo3 htest hown9
          go_wp2_with fail
          go_round
          case rel => exact ⟨th, v2, l ++ [i], some ⟨g, 0, none⟩, A8, c9, c8, rfl, rfl, by rw [HLEN.out], by rw [HLEN.out]; omega, HGL.out, HVO2.out, HGO2.out, HGW9.out, hbw9⟩
          case measure => simp [lenV]; omega
      · have HOV := Lib.hid (HGO.out.over (by rw [HM.out]; omega))
        clear hgw hme
        go_wp2
        go_returns
        exact ⟨.inl ⟨HOV.out, rfl⟩, hb⟩

end Go.Proofs.Ytniilhgcgcimgaa

/-
  codemasonref.Nexts (J2): where one may go from each block.
-/

namespace Go.Proofs.Ytniilhgcgcimgaa
open Go.RowKit
set_option linter.unusedSimpArgs false
set_option linter.unusedVariables false
set_option maxRecDepth 100000

theorem nxP_take {p : List Bk} {k : Nat} {b : Bk} (h : p[k]? = some b) : nxP (p.take (k + 1)) = nxP (p.take k) ++ [nxB b] := by
  unfold nxP
  rw [List.take_add_one, h, Option.toList_some, List.map_append]
  rfl

theorem own_lt {w : World} {base : Nat} {e : TypeId} {A : Option Addr} {n c : Nat} {xs : List Value} (h : w.ownsRow base e 1 (.slice A n c) n xs) : ∀ ad, A = some ad → ad.block < w.heap.size ∧ base ≤ ad.block := fun ad hA => by
  subst hA
  have := h.lt ad.block rfl
  exact ⟨this.2, this.1⟩

end Go.Proofs.Ytniilhgcgcimgaa

/-
  What package block's functions do (J1, J2): their contracts in one word.
-/

namespace Go.Proofs.Ytniilhgcgcimgaa
open Go.RowKit
set_option linter.unusedSimpArgs false
set_option linter.unusedVariables false
set_option maxRecDepth 100000

/-- what block.Run answers -/
def RunsTo (r : Option (List Int × List Nat)) (e : Ending) (w w' : World) : Prop :=
  (r = none ∧ ∃ (A1 A2 : Option Addr) (c1 c2 : Nat), e = .returned (.tuple #[.slice A1 0 c1, .slice A2 0 c2, .int .i64 7])) ∨
  ∃ (x : List Int) (l : List Nat) (A1 A2 : Option Addr) (c1 c2 : Nat), r = some (x, l) ∧ e = .returned (.tuple #[.slice A1 x.length c1, .slice A2 l.length c2, .int .i64 0]) ∧ RdI w' w'.heap.size A1 x ∧ RdI w' w'.heap.size A2 (ni l)

/-- of package block: what Run does, where it may be called -/
structure GoIs : Prop where
  run : ∀ (n : Nat) (A HA : Option Addr) (len cap hcap : Nat) (p : List Bk) (hv : List Int) (w : World), RdP w w.heap.size A p → RdI w w.heap.size HA hv → p.length = len → ckProg n p = 0 → ValsOk n hv →
    Calls Try.prog 17 #[.int .i64 n, .slice A len cap, .slice HA n hcap] w fun e w' => RunsTo (goP p 200 0 hv) e w w' ∧ Below w.heap.size w w'

theorem ckGo_ok {vars : Int} {p : List Bk} {hv : List Int} (h : ckGo vars p hv = 0) : ckProg vars p = 0 ∧ ckHave vars hv = 0 := by
  unfold ckGo at h
  split at h
  · rename_i h1; exact ⟨h1, h⟩
  · rename_i h1; exact absurd h h1

theorem ckGo_of {vars : Int} {p : List Bk} {hv : List Int} (h1 : ckProg vars p = 0) (h2 : ckHave vars hv = 0) : ckGo vars p hv = 0 := by
  unfold ckGo
  rw [if_pos h1, h2]

/-- of variables that may be: their number -/
theorem ckProg_nat {vars : Int} {p : List Bk} (h : ckProg vars p = 0) : ∃ n : Nat, vars = (n : Int) ∧ 1 ≤ n ∧ n ≤ 6 := by
  obtain ⟨h1, h2, _⟩ := ckProg_bd h
  exact ⟨vars.toNat, by omega, by omega, by omega⟩

end Go.Proofs.Ytniilhgcgcimgaa
