/-
  fact.check (I1, I2), with its closure and slices.ContainsFunc over words.
-/
import Derived.Test.YtmbabbdcijgnoaaPureSpread
import Derived.Test.YtmbabbdcijgnoaaWayCheck
namespace Go.Proofs.Ytmbabbdcijgnoaa
open Go.RowKit
set_option linter.unusedSimpArgs false
set_option linter.unusedVariables false
set_option maxRecDepth 100000

theorem more_bits {W : Nat} (hW : W < 4294967296) : (bits .andNot .u32 ((W : Nat) : Int) 255 != 0) = !decide (W < 256) := by
  have h : bits .andNot .u32 ((W : Nat) : Int) ((255 : Nat) : Int) = ((W &&& (4294967295 - 255) : Nat) : Int) := u32_andNot_nat _ _ hW (by omega)
  have hb : ∀ j, (4294967295 - 255 : Nat).testBit j = (decide (j < 32) && !decide (j < 8)) := fun j => by
    rw [show (4294967295 - 255 : Nat) = 2 ^ 32 - (255 + 1) from rfl, Nat.testBit_two_pow_sub_succ (by omega), show (255 : Nat) = 2 ^ 8 - 1 from rfl, Nat.testBit_two_pow_sub_one]
  have key : W &&& (4294967295 - 255) = 0 ↔ W < 256 := by
    constructor
    · intro h
      refine Nat.lt_pow_two_of_testBit (n := 8) W fun j hj => ?_
      cases e : W.testBit j with
      | false => rfl
      | true =>
        have hj32 : j < 32 := by
          rcases Nat.lt_or_ge j 32 with h2 | h2
          · exact h2
          · rw [Nat.testBit_lt_two_pow (Nat.lt_of_lt_of_le (by omega : W < 2 ^ 32) (Nat.pow_le_pow_right (by omega) h2))] at e
            cases e
        have h2 : (W &&& (4294967295 - 255)).testBit j = true := by
          rw [Nat.testBit_and, e, hb, decide_eq_true hj32, decide_eq_false (by omega)]
          rfl
        rw [h] at h2
        simp at h2
    · intro h
      apply Nat.eq_of_testBit_eq
      intro j
      rw [Nat.testBit_and, hb, Nat.zero_testBit]
      cases e : W.testBit j with
      | false => rfl
      | true =>
        have := bit_8 h e
        rw [decide_eq_true this]
        simp
  rw [show (255 : Int) = ((255 : Nat) : Int) from rfl, h]
  by_cases hw : W < 256
  · rw [key.2 hw, decide_eq_true hw]; rfl
  · have h0 : ¬ (W &&& (4294967295 - 255)) = 0 := fun e => hw (key.1 e)
    rw [decide_eq_false hw]
    simp only [Bool.not_false, bne_iff_ne, ne_eq]
    omega

set_option maxHeartbeats 1000000 in
theorem hasMore_any (W : Nat) (w : World) (hW : W < 4294967296) :
    Calls Try.prog 31 #[.int .u32 (W : Nat)] w fun e w' => e = .returned (.bool (!decide (W < 256))) ∧ w = w' := by
  have HB := Lib.hid (more_bits hW)
  go_enter Try.func31, Try.ntmps31
  go_wp2
  go_ret
  exact ⟨ret_bool HB.out, rfl⟩

set_option maxHeartbeats 4000000 in
theorem indexMore_any (A : Option Addr) (n c : Nat) (l : List Nat) (w : World) (hx : RdU w w.heap.size A l) (hl : l.length = n) (hn : n ≤ maxLen) (hu : ∀ x ∈ l, x < 4294967296) :
    Calls Try.prog 39 #[.slice A n c, .func (.func 31) #[] #[]] w fun e w' => ∃ r : Int, e = .returned (.int .i64 r) ∧ decide (0 ≤ r) = !wordsOk l ∧ w = w' := by
  unfold maxLen at hn
  have HL := Lib.hid hl
  have HU := Lib.hid hu
  clear hl hu
  go_enter Try.func39, Try.ntmps39
  go_wp2
  go_loop [8] (fun z => ∃ k : Nat, k ≤ n ∧ z = .int .i64 k ∧ (∀ r x, r < k → l[r]? = some x → x < 256)) (fun z => n - (intOf z).toNat)
  case atStart => exact ⟨0, Nat.zero_le _, rfl, fun r x hr => by omega⟩
  case round =>
    obtain ⟨k, hk, rfl, hok⟩ := hrel
    have HO := Lib.hid hok
    clear hok
    by_cases hlt : k < n
    · obtain ⟨ad, x, rfl, hbl, hd, hcell⟩ := hx.at_ (k := k) (by rw [HL.out]; exact hlt)
      have hx32 := HU.out x (List.mem_of_getElem? hd)
      have HD := Lib.hid hd
      clear hd
      by_cases hx8 : x < 256
      · have hxd : decide (x < 256) = true := decide_eq_true hx8
        have HXD := Lib.hid hxd
        have HX8 := Lib.hid hx8
        clear hxd hx8
        go_wp2_with (go_at_call 31; (with_reducible refine (hasMore_any x _ hx32).mono ?_); rw [HXD.out]; rintro e w5 ⟨rfl, rfl⟩)
        go_round
        case rel =>
          refine ⟨k + 1, by omega, by go_num, fun r z hr hz => ?_⟩
          by_cases e : r = k
          · subst e; rw [HD.out] at hz; injection hz with hz; rw [← hz]; exact HX8.out
          · exact HO.out r z (by omega) hz
        case measure => (simp [intOf]; omega)
      · have hxd : decide (x < 256) = false := decide_eq_false hx8
        have HXD := Lib.hid hxd
        have HW := Lib.hid (wordsOk_false HD.out hx8)
        clear hxd hx8
        go_wp2_with (go_at_call 31; (with_reducible refine (hasMore_any x _ hx32).mono ?_); rw [HXD.out]; rintro e w5 ⟨rfl, rfl⟩)
        go_ret
        exact ⟨_, rfl, by rw [HW.out]; simp, rfl⟩
    · have hkn : k = n := by omega
      have HW := Lib.hid (wordsOk_true (l := l) HL.out (by rw [← hkn]; exact HO.out))
      clear hkn
      go_wp2
      go_ret
      exact ⟨_, rfl, by rw [HW.out]; rfl, rfl⟩

set_option maxHeartbeats 1000000 in
theorem containsMore_any (A : Option Addr) (n c : Nat) (l : List Nat) (w : World) (hx : RdU w w.heap.size A l) (hl : l.length = n) (hn : n ≤ maxLen) (hu : ∀ x ∈ l, x < 4294967296) :
    Calls Try.prog 32 #[.slice A n c, .func (.func 31) #[] #[]] w fun e w' => e = .returned (.bool (!wordsOk l)) ∧ w = w' := by
  have HC := Lib.hid (indexMore_any A n c l w hx hl hn hu)
  clear hx hl hu
  go_enter Try.func32, Try.ntmps32
  go_wp2_with fail
  refine HC.out.mono ?_
  rintro e w5 ⟨r, rfl, hr, rfl⟩
  have HR := Lib.hid hr
  clear hr
  go_wp2
  go_ret
  exact ⟨ret_bool (by rw [← HR.out]), rfl⟩

set_option maxHeartbeats 4000000 in
theorem factCheck_any (A : Option Addr) (len cap : Nat) (nx : List (List Int)) (A1 : Option Addr) (c1 : Nat) (A2 : Option Addr) (c2 : Nat) (lw : Lw) (w : World) (hx : RdG w w.heap.size A nx) (hl : nx.length = len) (hm : len ≤ maxLen) (hr : RdL w w.heap.size A1 A2 lw) (hu : U32L lw) :
    Calls Try.prog 20 #[.slice A len cap, .agg #[.bool lw.bw, .bool lw.al, .slice A1 lw.ma.length c1, .slice A2 lw.en.length c2, .int .u32 (lw.st : Nat)]] w fun e w' => e = .returned (.int .i64 (ckLaw nx lw)) ∧ Below w.heap.size w w' := by
  have HL := Lib.hid hl
  have HM1 := Lib.hid hu.lm
  have HM2 := Lib.hid hu.le
  have HU1 := Lib.hid hu.ma
  have HU2 := Lib.hid hu.en
  have hst32 := hu.st
  have hr1 := hr.ma
  have hr2 := hr.en
  obtain ⟨n1, hn1⟩ : ∃ n, lw.ma.length = n := ⟨_, rfl⟩
  obtain ⟨n2, hn2⟩ : ∃ n, lw.en.length = n := ⟨_, rfl⟩
  obtain ⟨st, hst⟩ : ∃ n, lw.st = n := ⟨_, rfl⟩
  rw [hn1] at HM1 ⊢
  rw [hn2] at HM2 ⊢
  rw [hst] at hst32 ⊢
  have HN1 := Lib.hid hn1
  have HN2 := Lib.hid hn2
  have hb0 : Below w.heap.size w (w.alloc (.cells #[.bool lw.bw, .bool lw.al, .slice A1 n1 c1, .slice A2 n2 c2, .int .u32 (st : Nat)] 26)) := by go_grown
  have hown0 : Own (w.alloc (.cells #[.bool lw.bw, .bool lw.al, .slice A1 n1 c1, .slice A2 n2 c2, .int .u32 (st : Nat)] 26)) w.heap.size 26 [.bool lw.bw, .bool lw.al, .slice A1 n1 c1, .slice A2 n2 c2, .int .u32 (st : Nat)] := Own.new w _ _
  have hx0 := (hx.below hb0 (Nat.le_refl _)).more hb0.size
  obtain ⟨ck, hck⟩ : ∃ c, ckWay nx = c := ⟨_, rfl⟩
  have HWC := Lib.hid (fun (w2 : World) (h : RdG w2 w2.heap.size A nx) => wayCheck_any A len cap nx w2 h hl hm)
  rw [hck] at HWC
  have HLAW : Hid (ckLaw nx lw = if ck = 0 then (if n1 = len ∧ n2 = len then (if wordsOk lw.ma = true ∧ wordsOk lw.en = true ∧ st < 256 then 0 else 4) else 3) else ck) := Lib.hid (by unfold ckLaw; rw [hck, hn1, hn2, hst, hl])
  clear hl hu hr hn1 hn2 hst hck hx
  go_enter Try.func20, Try.ntmps20
  go_wp2_with fail
  refine (HWC.out _ hx0).mono ?_
  rintro e w1 ⟨rfl, hb1⟩
  have hown1 := hown0.below hb1 hown0.lt
  have d2 := hown1.cell (j := 2) rfl
  have d3 := hown1.cell (j := 3) rfl
  have d4 := hown1.cell (j := 4) rfl
  have hbw : Below w.heap.size w w1 := hb0.trans (hb1.mono hb0.size)
  have hr1b := (hr1.below hbw (Nat.le_refl _)).more hbw.size
  have hr2b := (hr2.below hbw (Nat.le_refl _)).more hbw.size
  clear hx0 hb0 hown0 hown1 hr1 hr2
  by_cases hc0 : ck = 0
  · subst hc0
    by_cases h1 : n1 = len
    · by_cases h2 : n2 = len
      · have e1 : ((n1 : Int) != (len : Int)) = false := by simp [h1]
        have e2 : ((n2 : Int) != (len : Int)) = false := by simp [h2]
        have HLAW2 := HLAW.out
        rw [if_pos rfl, if_pos ⟨h1, h2⟩] at HLAW2
        replace HLAW := Lib.hid HLAW2
        clear HLAW2 h1 h2
        obtain ⟨o1, ho1⟩ : ∃ o, wordsOk lw.ma = o := ⟨_, rfl⟩
        obtain ⟨o2, ho2⟩ : ∃ o, wordsOk lw.en = o := ⟨_, rfl⟩
        obtain ⟨o3, ho3⟩ : ∃ o, decide (st < 256) = o := ⟨_, rfl⟩
        have HO1 := Lib.hid ho1
        have HO2 := Lib.hid ho2
        have HO3 := Lib.hid ho3
        have HLAW3 : Hid (ckLaw nx lw = if (o1 = true ∧ o2 = true ∧ o3 = true) then 0 else 4) := Lib.hid (by rw [HLAW.out, ho1, ho2, ← ho3]; simp only [decide_eq_true_eq])
        clear ho1 ho2 ho3 HLAW
        cases o3 <;> cases o1 <;> cases o2 <;>
          (go_wp2_with (first
            | (go_at_call 31; (with_reducible refine (hasMore_any st _ hst32).mono ?_); rw [HO3.out]; rintro e w5 ⟨rfl, rfl⟩)
            | (go_at_call 32; (with_reducible refine (containsMore_any A1 _ c1 lw.ma _ hr1b HN1.out HM1.out HU1.out).mono ?_); rw [HO1.out]; rintro e w5 ⟨rfl, rfl⟩)
            | (go_at_call 32; (with_reducible refine (containsMore_any A2 _ c2 lw.en _ hr2b HN2.out HM2.out HU2.out).mono ?_); rw [HO2.out]; rintro e w5 ⟨rfl, rfl⟩))
           go_ret
           exact ⟨ret_int (by rw [HLAW3.out]; simp), hbw⟩)
      · have e1 : ((n1 : Int) != (len : Int)) = false := by simp [h1]
        have e2 : ((n2 : Int) != (len : Int)) = true := by simp; omega
        have HLAW2 := HLAW.out
        rw [if_pos rfl, if_neg (by omega)] at HLAW2
        replace HLAW := Lib.hid HLAW2
        clear HLAW2 h1 h2
        go_wp2
        go_ret
        exact ⟨ret_int (by rw [HLAW.out]), hbw⟩
    · have e1 : ((n1 : Int) != (len : Int)) = true := by simp; omega
      have HLAW2 := HLAW.out
      rw [if_pos rfl, if_neg (by omega)] at HLAW2
      replace HLAW := Lib.hid HLAW2
      clear HLAW2 h1
      go_wp2
      go_ret
      exact ⟨ret_int (by rw [HLAW.out]), hbw⟩
  · have hne : (ck != 0) = true := by simp [hc0]
    have HLAW2 := HLAW.out
    rw [if_neg hc0] at HLAW2
    replace HLAW := Lib.hid HLAW2
    clear HLAW2 hc0
    go_wp2
    go_ret
    exact ⟨ret_int (by rw [HLAW.out]), hbw⟩

end Go.Proofs.Ytmbabbdcijgnoaa
