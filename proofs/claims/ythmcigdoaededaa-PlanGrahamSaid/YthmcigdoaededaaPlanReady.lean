/-
  way.Has; plan.everything, predecessors, ready (Q1).
-/
import Derived.Test.YthmcigdoaededaaPlanLev
import Derived.Test.YthmcigdoaededaaWordsOwn
namespace Go.Proofs.Ythmcigdoaededaa
open Go.RowKit
set_option linter.unusedSimpArgs false
set_option linter.unusedVariables false
set_option maxRecDepth 100000

theorem full_u32P {n : Nat} (hn : n ≤ 8) : IntKind.u32.wrap ((2 : Int) ^ n % 4294967296 - 1) = ((2 ^ n - 1 : Nat) : Int) := by
  have h : n = 0 ∨ n = 1 ∨ n = 2 ∨ n = 3 ∨ n = 4 ∨ n = 5 ∨ n = 6 ∨ n = 7 ∨ n = 8 := by omega
  rcases h with rfl | rfl | rfl | rfl | rfl | rfl | rfl | rfl | rfl <;> decide

set_option maxHeartbeats 1000000 in
theorem everythingP_any (n : Nat) (w : World) (hn : n ≤ 8) :
    Calls Try.prog 29 #[.int .i64 n] w fun e w' => e = .returned (.int .u32 (2 ^ n - 1 : Nat)) ∧ w = w' := by
  have HF := Lib.hid (full_u32P hn)
  go_enter Try.func29, Try.ntmps29
  go_wp2
  go_ret
  exact ⟨ret_int HF.out, rfl⟩

/-- the bit of a word, by a shift -/
theorem shr_bitP (W j : Nat) (hW : W < 4294967296) : (bits .and .u32 (((W : Nat) : Int) / 2 ^ j) 1 != 0) = W.testBit j := by
  have h : ((W : Nat) : Int) / 2 ^ j = ((W / 2 ^ j : Nat) : Int) := by simp
  have h2 : bits .and .u32 ((W / 2 ^ j : Nat) : Int) ((1 : Nat) : Int) = ((W / 2 ^ j &&& 1 : Nat) : Int) := u32_and_nat _ _ (Nat.lt_of_le_of_lt (Nat.div_le_self ..) hW) (by omega)
  rw [h]
  change (bits .and .u32 ((W / 2 ^ j : Nat) : Int) ((1 : Nat) : Int) != 0) = _
  rw [h2, Nat.and_one_is_mod, Nat.testBit_eq_decide_div_mod_eq]
  by_cases e : W / 2 ^ j % 2 = 1
  · rw [e]; rfl
  · have e0 : W / 2 ^ j % 2 = 0 := by omega
    rw [e0]; rfl

theorem hasP_any (W j : Nat) (w : World) (hW : W < 256) (hj : j < 8) :
    Calls Try.prog 31 #[.int .u32 (W : Nat), .int .i64 j] w fun e w' => e = .returned (.bool (W.testBit j)) ∧ w = w' := by
  have HR := Lib.hid (shr_bitP W j (by omega))
  go_enter Try.func31, Try.ntmps31
  go_wp2
  go_ret
  exact ⟨ret_bool HR.out, rfl⟩

theorem orP_u {X j : Nat} (hX : X < 256) (hj : j < 8) : bits .or .u32 ((X : Nat) : Int) ((2 : Int) ^ j % 4294967296) = ((X ||| 2 ^ j : Nat) : Int) := by
  rw [pow_u32' (by omega), u32_or_nat _ _ (by omega) (pow_lt_32 (by omega))]

theorem lt_256P {n W : Nat} (hn : n ≤ 8) (h : W < 2 ^ n) : W < 256 := Nat.lt_of_lt_of_le h (Nat.pow_le_pow_right (n := 2) (by omega) hn)

/-- what must come before each -/
def bfF (ps : List (Nat × Nat)) (v : Nat) : Nat := setW ((ps.filter fun p => decide (p.2 = v)).map Prod.fst)

theorem bfF_bit {ps : List (Nat × Nat)} {v a : Nat} : (bfF ps v).testBit a = true ↔ (a, v) ∈ ps := by
  unfold bfF
  rw [setW_bit, List.mem_map]
  constructor
  · rintro ⟨⟨x, y⟩, h, rfl⟩
    obtain ⟨h1, h2⟩ := List.mem_filter.1 h
    have := of_decide_eq_true h2
    simp only at this
    subst this
    exact h1
  · exact fun h => ⟨_, List.mem_filter.2 ⟨h, by simp⟩, rfl⟩

theorem bfF_lt {n : Nat} {ps : List (Nat × Nat)} (hin : ∀ p ∈ ps, p.1 < n ∧ p.2 < n) (v : Nat) : bfF ps v < 2 ^ n := setW_lt fun x hx => by
  obtain ⟨p, hp, rfl⟩ := List.mem_map.1 hx
  exact (hin p (List.mem_filter.1 hp).1).1

theorem bfF_snoc (ps : List (Nat × Nat)) (a b v : Nat) : bfF (ps ++ [(a, b)]) v = if v = b then bfF ps v ||| 2 ^ a else bfF ps v := by
  unfold bfF
  rw [List.filter_append, List.map_append]
  by_cases h : v = b
  · subst h
    rw [if_pos rfl, List.filter_cons_of_pos (by simp), List.filter_nil]
    exact setW_snoc _ a
  · rw [if_neg h, List.filter_cons_of_neg (by simpa using fun e => h e.symm), List.filter_nil]
    simp

theorem rep_zeroP (n : Nat) : List.replicate n 0 = tabN n (bfF []) := by
  apply List.ext_getElem?
  intro i
  unfold tabN
  rw [List.getElem?_replicate, List.getElem?_map]
  by_cases h : i < n
  · rw [if_pos h, List.getElem?_range h]; rfl
  · rw [if_neg h, List.getElem?_eq_none (by simp; omega)]; rfl

theorem tab_setP {n : Nat} {F G : Nat → Nat} {x y : Nat} (hx : G x = y) (h : ∀ k, k < n → k ≠ x → G k = F k) : (tabN n F).set x y = tabN n G := by
  apply List.ext_getElem?
  intro i
  unfold tabN
  rw [List.getElem?_set]
  by_cases e : x = i
  · subst e
    by_cases hi : x < n
    · simp [hi, hx]
    · simp [hi]
  · rw [if_neg e, List.getElem?_map, List.getElem?_map]
    by_cases hi : i < n
    · rw [List.getElem?_range hi]
      simp [h i hi (Ne.symm e)]
    · rw [List.getElem?_eq_none (by simp; omega)]; rfl

set_option maxHeartbeats 4000000 in
theorem predecessors_ok (n : Nat) (A : Option Addr) (len cap : Nat) (ps : List (Nat × Nat)) (m : Nat) (w : World) (hx : RdM w w.heap.size A (mvI ps)) (hl : ps.length = len) (hk : TkOk n ps) (hm1 : 1 ≤ m) (hm8 : m ≤ 8) :
    Calls Try.prog 27 #[.int .i64 n, .slice A len cap, .int .i64 m] w fun e w' => (∃ A' c', e = .returned (.tuple #[.slice A' n c', .int .i64 0]) ∧ RdU w' w'.heap.size A' (tabN n (bfF ps))) ∧ Below w.heap.size w w' := by
  have HLV := Lib.hid (levelsIs.ok n A len cap ps w hx hl hk)
  have HL := Lib.hid hl
  have HIN := Lib.hid hk.ins
  have h8 := hk.small
  have hl28 := hk.short
  rw [hl] at hl28
  have hmk := make_words (P := Try.prog) 48 42 Try.underlying48 (by kernel_rfl) n (by omega)
  rw [rep_zeroP] at hmk
  clear hl hk
  go_enter Try.func27, Try.ntmps27
  go_wp2_with fail
  refine HLV.out.mono ?_
  rintro e w1 ⟨⟨A1, c1, rfl, hrd⟩, hb1⟩
  have hx1 := (hx.below hb1 (Nat.le_refl _)).more hb1.size
  have hs1 := hb1.size
  clear hrd hx
  go_wp2
  have hown1 := Own.new w1 42 (uv (tabN n (bfF [])))
  go_loopw [32] (fun z wr => ∃ k : Nat, k ≤ len ∧ z = .int .i64 k ∧ Own wr w1.heap.size 42 (uv (tabN n (bfF (ps.take k)))) ∧ Below w1.heap.size w1 wr) (fun z _ => len - (intOf z).toNat)
  case atStart => exact ⟨0, Nat.zero_le _, rfl, by rw [List.take_zero]; exact hown1, by go_grown⟩
  case round =>
    obtain ⟨k, hk, rfl, hown, hb2⟩ := hrel
    have hs2 := hb2.size
    by_cases hkl : k < len
    · obtain ⟨ad, a, b, rfl, hbl, hd, hc0, hc1⟩ := RdN.at_ (hx1.below hb2 (Nat.le_refl _)) (k := k) (by rw [HL.out]; exact hkl)
      obtain ⟨e2, e4⟩ := HIN.out _ (List.mem_of_getElem? hd)
      simp only at e2 e4
      have HTK : Hid (ps.take (k + 1) = ps.take k ++ [(a, b)]) := Lib.hid (by rw [List.take_add_one, hd]; rfl)
      have hX8 : bfF (ps.take k) b < 256 := lt_256P h8 (bfF_lt (fun p hp => HIN.out p (List.mem_of_mem_take hp)) b)
      have HO1 := Lib.hid (orP_u hX8 (j := a) (by omega))
      have hcB := hown.cell (uv_at (tabN_at (bfF (ps.take k)) e4))
      have hfB := hown.frozen b
      have hgl := hown.lt
      have ha8 : a < 8 := by omega
      have HOW : Hid (Own (wr.setCell ⟨w1.heap.size, b, none⟩ (.int .u32 ((bfF (ps.take k) b ||| 2 ^ a : Nat) : Int))) w1.heap.size 42 (uv (tabN n (bfF (ps.take (k + 1)))))) := Lib.hid (by
        have h := OwnU.set hown b (bfF (ps.take k) b ||| 2 ^ a)
        rw [tab_setP (G := bfF (ps.take (k + 1))) (by rw [HTK.out, bfF_snoc, if_pos rfl]) fun j _ hj => by rw [HTK.out, bfF_snoc, if_neg hj]] at h
        exact h)
      obtain ⟨X, hX⟩ : ∃ X, bfF (ps.take k) b = X := ⟨_, rfl⟩
      rw [hX] at hX8 HO1 hcB HOW
      clear hd hX hown
      go_upto_region 10 with fail
      go_region
      all_goals (
        rw [HO1.out]
        go_wp2
        go_round
        case rel => exact ⟨k + 1, by omega, by go_num, HOW.out.alloc _, by go_grown⟩
        case measure => (simp [intOf]; omega))
    · have hkl2 : k = len := by omega
      subst hkl2
      rw [List.take_of_length_le (by rw [HL.out]; omega)] at hown
      have hgl := hown.lt
      go_wp2
      go_ret2
      exact ⟨⟨_, _, rfl, (OwnU.rd hown).more (by omega)⟩, hb1.trans (hb2.mono hs1)⟩

set_option maxHeartbeats 1000000 in
theorem predecessors_bad (n : Int) (A : Option Addr) (len cap : Nat) (l : List (Int × Int)) (m : Int) (z : Int) (w : World) (hx : RdM w w.heap.size A l) (hl : l.length = len) (hm : len ≤ maxLen) (hz : TkCode n l z) (h0 : z ≠ 0) :
    Calls Try.prog 27 #[.int .i64 n, .slice A len cap, .int .i64 m] w fun e w' => e = .returned (.tuple #[.slice none 0 0, .int .i64 z]) ∧ Below w.heap.size w w' := by
  have HLV := Lib.hid (levelsIs.bad n A len cap l z w hx hl hm hz h0)
  have hne : (z != 0) = true := by simpa using h0
  clear hx hl hm hz h0
  go_enter Try.func27, Try.ntmps27
  go_wp2_with fail
  refine HLV.out.mono ?_
  rintro e w1 ⟨rfl, hb1⟩
  go_wp2
  go_ret2
  exact ⟨rfl, hb1⟩

set_option maxHeartbeats 1000000 in
theorem predecessors_range (n : Nat) (A : Option Addr) (len cap : Nat) (ps : List (Nat × Nat)) (m : Int) (w : World) (hx : RdM w w.heap.size A (mvI ps)) (hl : ps.length = len) (hk : TkOk n ps) (hm : m < 1 ∨ 8 < m) :
    Calls Try.prog 27 #[.int .i64 n, .slice A len cap, .int .i64 m] w fun e w' => e = .returned (.tuple #[.slice none 0 0, .int .i64 4]) ∧ Below w.heap.size w w' := by
  have HLV := Lib.hid (levelsIs.ok n A len cap ps w hx hl hk)
  clear hx hl hk
  by_cases h1 : m < 1
  · clear hm
    go_enter Try.func27, Try.ntmps27
    go_wp2_with fail
    refine HLV.out.mono ?_
    rintro e w1 ⟨⟨A1, c1, rfl, hrd⟩, hb1⟩
    go_wp2
    go_ret2
    exact ⟨rfl, hb1⟩
  · have h2 : 8 < m := by omega
    clear hm
    go_enter Try.func27, Try.ntmps27
    go_wp2_with fail
    refine HLV.out.mono ?_
    rintro e w1 ⟨⟨A1, c1, rfl, hrd⟩, hb1⟩
    go_wp2
    go_ret2
    exact ⟨rfl, hb1⟩

theorem andP_bit {V C : Nat} (hV : V < 256) (hC : C < 256) (k : Nat) : (V &&& (4294967295 - C)).testBit k = (V.testBit k && !C.testBit k) := by
  rw [Nat.testBit_and]
  rcases Nat.lt_or_ge k 32 with h | h
  · have : 4294967295 - C = 2 ^ 32 - (C + 1) := by omega
    rw [this, Nat.testBit_two_pow_sub_succ (by omega)]
    simp [h]
  · have h1 : V < 2 ^ k := Nat.lt_of_lt_of_le hV (Nat.le_trans (by decide) (Nat.pow_le_pow_right (by omega) h))
    rw [Nat.testBit_lt_two_pow h1]
    rfl

theorem andP_u32 {V C : Nat} (hV : V < 256) (hC : C < 256) : bits .andNot .u32 ((V : Nat) : Int) ((C : Nat) : Int) = ((V &&& (4294967295 - C) : Nat) : Int) := u32_andNot_nat _ _ (by omega) (by omega)

/-- nothing of V is left out of C -/
theorem andP_zero {V C : Nat} (hV : V < 256) (hC : C < 256) : V &&& (4294967295 - C) = 0 ↔ ∀ a, V.testBit a = true → C.testBit a = true := by
  constructor
  · intro h a ha
    have h2 := andP_bit hV hC a
    rw [h, Nat.zero_testBit, ha, Bool.true_and] at h2
    cases hc : C.testBit a with
    | true => rfl
    | false => rw [hc] at h2; cases h2
  · intro h
    apply Nat.eq_of_testBit_eq
    intro a
    rw [andP_bit hV hC, Nat.zero_testBit]
    cases hv : V.testBit a with
    | false => rfl
    | true => rw [h a hv]; rfl

/-- may i be done, where the word E is? -/
def mayE (ps : List (Nat × Nat)) (E i : Nat) : Bool := !E.testBit i && decide (∀ p ∈ ps, p.2 = i → E.testBit p.1 = true)

theorem mayE_iff {ps : List (Nat × Nat)} {E i : Nat} : mayE ps E i = true ↔ E.testBit i = false ∧ ∀ a, (a, i) ∈ ps → E.testBit a = true := by
  unfold mayE
  rw [Bool.and_eq_true, Bool.not_eq_true', decide_eq_true_eq]
  constructor
  · exact fun ⟨h1, h2⟩ => ⟨h1, fun a ha => h2 (a, i) ha rfl⟩
  · exact fun ⟨h1, h2⟩ => ⟨h1, fun p hp he => h2 p.1 (by rw [← he]; exact hp)⟩

/-- those that may be done -/
def rdW (n : Nat) (ps : List (Nat × Nat)) (E : Nat) : Nat := setW ((List.range n).filter (mayE ps E))

theorem rdW_bit {n : Nat} {ps : List (Nat × Nat)} {E i : Nat} : (rdW n ps E).testBit i = true ↔ i < n ∧ mayE ps E i = true := by
  unfold rdW
  rw [setW_bit, List.mem_filter, List.mem_range]

theorem rdW_lt (n : Nat) (ps : List (Nat × Nat)) (E : Nat) : rdW n ps E < 2 ^ n := setW_lt fun x hx => List.mem_range.1 (List.mem_filter.1 hx).1

theorem rdW_succ (n : Nat) (ps : List (Nat × Nat)) (E : Nat) : rdW (n + 1) ps E = if mayE ps E n = true then rdW n ps E ||| 2 ^ n else rdW n ps E := by
  unfold rdW
  rw [List.range_succ, List.filter_append]
  cases h : mayE ps E n with
  | true => rw [List.filter_cons_of_pos h, List.filter_nil, setW_snoc]; rfl
  | false => rw [List.filter_cons_of_neg (by simp [h]), List.filter_nil, List.append_nil]; rfl

theorem mayE_test {ps : List (Nat × Nat)} {E i : Nat} (h1 : bfF ps i < 256) (h2 : E < 256) (h3 : E.testBit i = false) : (bits .andNot .u32 ((bfF ps i : Nat) : Int) ((E : Nat) : Int) == 0) = mayE ps E i := by
  rw [andP_u32 h1 h2]
  cases h : mayE ps E i with
  | true =>
    have := mayE_iff.1 h
    rw [(andP_zero h1 h2).2 fun a ha => this.2 a (bfF_bit.1 ha)]
    rfl
  | false =>
    have : ¬ (bfF ps i &&& (4294967295 - E) = 0) := fun h0 => by
      have h4 := (andP_zero h1 h2).1 h0
      rw [mayE_iff.2 ⟨h3, fun a ha => h4 a (bfF_bit.2 ha)⟩] at h
      cases h
    simp only [beq_eq_false_iff_ne, ne_eq]
    omega

set_option maxHeartbeats 4000000 in
theorem ready_any (n : Nat) (A : Option Addr) (cap : Nat) (ps : List (Nat × Nat)) (E B : Nat) (w : World) (hx : RdU w B A (tabN n (bfF ps))) (hn : n ≤ 8) (hin : ∀ p ∈ ps, p.1 < n ∧ p.2 < n) (hE : E < 256) :
    Calls Try.prog 30 #[.slice A n cap, .int .u32 (E : Nat)] w fun e w' => e = .returned (.int .u32 (rdW n ps E : Nat)) ∧ w = w' := by
  have HIN := Lib.hid hin
  have HB : Hid (∀ i, bfF ps i < 256) := Lib.hid fun i => lt_256P hn (bfF_lt hin i)
  have HR8 : Hid (∀ k, k ≤ n → rdW k ps E < 256) := Lib.hid fun k hk => lt_256P (Nat.le_trans hk hn) (rdW_lt k ps E)
  clear hin
  go_enter Try.func30, Try.ntmps30
  go_wp2
  go_loop [5, 10] (fun s i => ∃ k r : Nat, k ≤ n ∧ i = .int .i64 k ∧ s = .int .u32 (r : Nat) ∧ Hid (rdW k ps E = r)) (fun _ i => n - (intOf i).toNat)
  case atStart => exact ⟨0, 0, Nat.zero_le _, rfl, rfl, Lib.hid rfl⟩
  case round =>
    obtain ⟨k, r, hk, rfl, rfl, HR⟩ := hrel
    by_cases hlt : k < n
    · obtain ⟨ad, x, rfl, hbl, hd, hcell⟩ := hx.at_ (k := k) (by simp [tabN]; exact hlt)
      rw [tabN_at (bfF ps) hlt] at hd
      injection hd with hd
      have HHS := Lib.hid (hasP_any E k w hE (by omega))
      have HSU := Lib.hid (rdW_succ k ps E)
      have hr8 : r < 256 := by rw [← HR.out]; exact HR8.out k hk
      have HOR := Lib.hid (orP_u hr8 (j := k) (by omega))
      have hx8 : x < 256 := by rw [← hd]; exact HB.out k
      have hk8 : k < 8 := by omega
      cases hb : E.testBit k with
      | true =>
        rw [hb] at HHS
        have HR2 : Hid (rdW (k + 1) ps E = r) := Lib.hid (by
          rw [HSU.out, if_neg, HR.out]
          intro h
          rw [(mayE_iff.1 h).1] at hb
          cases hb)
        clear hb hd
        go_wp2_with (go_at_call 31; (with_reducible refine HHS.out.mono ?_); rintro e w1 ⟨rfl, rfl⟩)
        go_round
        case rel => exact ⟨k + 1, r, by omega, by go_num, rfl, HR2⟩
        case measure => (simp [intOf]; omega)
      | false =>
        rw [hb] at HHS
        have htest := mayE_test (HB.out k) hE hb
        rw [hd] at htest
        cases hm : mayE ps E k with
        | true =>
          rw [hm] at htest
          have HR2 : Hid (rdW (k + 1) ps E = r ||| 2 ^ k) := Lib.hid (by rw [HSU.out, if_pos hm, HR.out])
          clear hb hd hm
          go_wp2_with (go_at_call 31; (with_reducible refine HHS.out.mono ?_); rintro e w1 ⟨rfl, rfl⟩)
          go_round
          case rel => exact ⟨k + 1, r ||| 2 ^ k, by omega, by go_num, by rw [HOR.out], HR2⟩
          case measure => (simp [intOf]; omega)
        | false =>
          rw [hm] at htest
          have HR2 : Hid (rdW (k + 1) ps E = r) := Lib.hid (by rw [HSU.out, if_neg (by simp [hm]), HR.out])
          clear hb hd hm
          go_wp2_with (go_at_call 31; (with_reducible refine HHS.out.mono ?_); rintro e w1 ⟨rfl, rfl⟩)
          go_round
          case rel => exact ⟨k + 1, r, by omega, by go_num, rfl, HR2⟩
          case measure => (simp [intOf]; omega)
    · have hkn : k = n := by omega
      subst hkn
      go_wp2
      go_ret
      exact ⟨ret_int (by rw [HR.out]), rfl⟩

end Go.Proofs.Ythmcigdoaededaa
