/-
  For any things that clash, color.Perfect returns the first perfect list, or that there is none, or the first error (O2).
-/
import Derived.Test.YtkgahblengjkfaaLawColor
import Derived.Test.YtkgahblengjkfaaColorIs
import Derived.Test.YtkgahblengjkfaaColorPeel
import Derived.Test.YtkgahblengjkfaaColorSets
import Derived.Test.YtkgahblengjkfaaIntsSame
namespace Go.Proofs.Ytkgahblengjkfaa
open Go.RowKit Go.ChangeShapes Go.WideShapes Go.ChangeAt Go.Deep
set_option linter.unusedSimpArgs false
set_option linter.unusedVariables false
set_option maxRecDepth 100000

/-- the word of those below j that are not done and clash with i -/
def nbW (ad : Nat → Nat → Bool) (d : List Nat) (i : Nat) : Nat → Nat
  | 0 => 0
  | j + 1 => nbW ad d i j + (if !decide (j ∈ d) && ad i j then 2 ^ j else 0)

theorem nbW_lt (ad : Nat → Nat → Bool) (d : List Nat) (i : Nat) : ∀ j, nbW ad d i j < 2 ^ j
  | 0 => by simp [nbW]
  | j + 1 => by
    have := nbW_lt ad d i j
    unfold nbW
    rw [Nat.pow_succ]
    split <;> omega

theorem nbW_bit {ad : Nat → Nat → Bool} {d : List Nat} {i x : Nat} : ∀ {j : Nat}, (nbW ad d i j).testBit x = true ↔ x < j ∧ x ∉ d ∧ ad i x = true
  | 0 => by simp [nbW]
  | j + 1 => by
    have hlt := nbW_lt ad d i j
    unfold nbW
    by_cases hc : (!decide (j ∈ d) && ad i j) = true
    · rw [if_pos hc]
      have e : nbW ad d i j + 2 ^ j = 2 ^ j * 1 ||| nbW ad d i j := by
        rw [← Nat.two_pow_add_eq_or_of_lt hlt, Nat.mul_one, Nat.add_comm]
      rw [e, Nat.testBit_or, Bool.or_eq_true, Nat.mul_one, Nat.testBit_two_pow, decide_eq_true_eq, nbW_bit]
      simp at hc
      constructor
      · rintro (rfl | ⟨h1, h2⟩)
        · exact ⟨by omega, hc.1, hc.2⟩
        · exact ⟨by omega, h2⟩
      · rintro ⟨h1, h2⟩
        by_cases h3 : j = x
        · exact .inl h3
        · exact .inr ⟨by omega, h2⟩
    · rw [if_neg hc, Nat.add_zero, nbW_bit]
      constructor
      · rintro ⟨h1, h2⟩
        exact ⟨by omega, h2⟩
      · rintro ⟨h1, h2, h3⟩
        refine ⟨?_, h2, h3⟩
        rcases Nat.lt_or_ge x j with h4 | h4
        · exact h4
        · have : x = j := by omega
          subst this
          exact absurd (by simp [h2, h3]) hc

theorem simB_word {n : Nat} {ad : Nat → Nat → Bool} (hg : Gr ad) (d : List Nat) (i : Nat) : simB n ad d i = (!decide (i ∈ d) && clqB n ad (nbW ad d i n)) := by
  rw [Bool.eq_iff_iff, simB_iff, Bool.and_eq_true, clqB_iff hg]
  unfold SimP ClqW
  simp only [nbW_bit, Bool.not_eq_true', decide_eq_false_iff_not]
  constructor
  · rintro ⟨h1, h2⟩
    exact ⟨h1, fun a b ha hb h3 h4 hne => h2 a b ha hb h3.2.1 h4.2.1 h3.2.2 h4.2.2 hne⟩
  · rintro ⟨h1, h2⟩
    exact ⟨h1, fun a b ha hb h3 h4 h5 h6 hne => h2 a b ha hb ⟨ha, h3, h5⟩ ⟨hb, h4, h6⟩ hne⟩

def lenP : Value → Nat
  | .slice _ n _ => n
  | _ => 0

/-- the least so far of those from ii on -/
def OneI (n : Nat) (ad : Nat → Nat → Bool) (d : List Nat) (ii : Nat) (z : Int) : Prop :=
  (z = -1 ∧ ∀ j, ii ≤ j → j < n → simB n ad d j = false) ∨ ∃ p : Nat, z = p ∧ ii ≤ p ∧ p < n ∧ simB n ad d p = true ∧ ∀ j, ii ≤ j → j < p → simB n ad d j = false

theorem OneI.no {n ii : Nat} {ad : Nat → Nat → Bool} {d : List Nat} {z : Int} (h : OneI n ad d (ii + 1) z) (hs : simB n ad d ii = false) : OneI n ad d ii z := by
  rcases h with ⟨h1, h2⟩ | ⟨p, h1, h2, h3, h4, h5⟩
  · refine .inl ⟨h1, fun j hj hn => ?_⟩
    rcases Nat.eq_or_lt_of_le hj with h | h
    · rw [← h]; exact hs
    · exact h2 j h hn
  · refine .inr ⟨p, h1, by omega, h3, h4, fun j hj hp => ?_⟩
    rcases Nat.eq_or_lt_of_le hj with h | h
    · rw [← h]; exact hs
    · exact h5 j h hp

theorem OneI.yes {n ii : Nat} {ad : Nat → Nat → Bool} {d : List Nat} (hi : ii < n) (hs : simB n ad d ii = true) : OneI n ad d ii (ii : Nat) := .inr ⟨ii, rfl, Nat.le_refl _, hi, hs, fun j h1 h2 => by omega⟩

theorem OneI.simL {n : Nat} {ad : Nat → Nat → Bool} {d : List Nat} {z : Int} (h : OneI n ad d 0 z) : (z < 0 ∧ simL n ad d = none) ∨ ∃ p : Nat, z = p ∧ p < n ∧ simB n ad d p = true ∧ simL n ad d = some p := by
  rcases h with ⟨h1, h2⟩ | ⟨p, h1, h2, h3, h4, h5⟩
  · exact .inl ⟨by omega, simL_none fun j hj => h2 j (Nat.zero_le _) hj⟩
  · exact .inr ⟨p, h1, h3, h4, simL_of h3 h4 fun j hj => h5 j (Nat.zero_le _) hj⟩

/-- what color.Perfect told -/
def PfR (w : World) (n : Nat) (ad : Nat → Nat → Bool) (Al : Option Addr) (nl : Nat) (er : Int) : Prop :=
  (pfL n ad n [] = none ∧ nl = 0 ∧ er = 5) ∨ ∃ l, pfL n ad n [] = some l ∧ nl = n ∧ er = 0 ∧ RdI w w.heap.size Al (ni l)

set_option maxHeartbeats 16000000 in
theorem lawColorPerfects_any (K : PerfectIs) (n : Int) (A : Option Addr) (cap : Nat) (l : List (Int × Int)) (w : World) (hx : RdM w w.heap.size A l) (hm : l.length ≤ maxLen) :
    Calls Try.prog 5 #[.int .i64 n, .slice A l.length cap] w fun e w' => e = .returned (.bool true) ∧ Below w.heap.size w w' := by
  have HM := Lib.hid hm
  clear hm
  by_cases hc : ckCl n l = 0
  · have HC := Lib.hid hc
    obtain ⟨m, q, rfl, rfl, hok⟩ := ckCl_ok hc
    obtain ⟨len, hlen⟩ : ∃ len, (mvI q).length = len := ⟨_, rfl⟩
    have HL : Hid (q.length = len) := Lib.hid (by rw [← hlen, mvI_len])
    have HLI := Lib.hid hlen
    rw [hlen] at HM ⊢
    have HOK := Lib.hid hok
    have hm8 := hok.small
    have hm1 := hok.pos
    have hlen28 : len ≤ 28 := by rw [← HL.out]; exact hok.short
    obtain ⟨ad, had⟩ : ∃ ad, clP q = ad := ⟨_, rfl⟩
    have HGR : Hid (Gr ad) := Lib.hid (by rw [← had]; exact hok.gr)
    have HCL : Hid (∀ (i j : Nat) (w1 : World), Below w.heap.size w w1 → Calls Try.prog 16 #[.slice A len cap, .int .i64 (i : Int), .int .i64 (j : Int)] w1 fun e w' => e = .returned (.bool (ad i j)) ∧ Below w1.heap.size w1 w') := Lib.hid fun i j w1 hb1 => by
      rw [← had]
      exact clash_any A len cap q i j w1 ((hx.below hb1 (Nat.le_refl _)).more hb1.size) HL.out (by omega)
    have HCQ : Hid (∀ (W : Nat) (w1 : World), W < 4294967296 → Below w.heap.size w w1 → Calls Try.prog 19 #[.int .i64 m, .slice A len cap, .int .u32 (W : Nat)] w1 fun e w' => e = .returned (.bool (clqB m ad W)) ∧ Below w1.heap.size w1 w') := Lib.hid fun W w1 hW hb1 => by
      rw [← had]
      exact cliques_any m A len cap q W w1 ((hx.below hb1 (Nat.le_refl _)).more hb1.size) HL.out (by omega) hm8 hW
    have HPF : Hid (Calls Try.prog 17 #[.int .i64 m, .slice A len cap] w fun e w' => (∃ (Al : Option Addr) (nl cl : Nat) (er : Int), e = .returned (.tuple #[.slice Al nl cl, .int .i64 er]) ∧ PfR w' m ad Al nl er) ∧ Below w.heap.size w w') := Lib.hid (by
      rw [← had]
      cases hp : pfL m (clP q) m [] with
      | none =>
        refine (K.stuck m A len cap q w hx HL.out hok hp).mono ?_
        rintro e w1 ⟨rfl, hb⟩
        exact ⟨⟨none, 0, 0, 5, rfl, .inl ⟨hp, rfl, rfl⟩⟩, hb⟩
      | some l =>
        refine (K.ok m A len cap q l w hx HL.out hok hp).mono ?_
        rintro e w1 ⟨⟨A', c', rfl, hr⟩, hb⟩
        exact ⟨⟨A', m, c', 0, rfl, .inr ⟨l, hp, rfl, rfl, hr⟩⟩, hb⟩)
    clear hc hok hlen had
    go_enter Try.func5, Try.ntmps5
    go_wp2_with fail
    refine HPF.out.mono ?_
    rintro e w1 ⟨⟨Al, nl, cl, er, rfl, hpf⟩, hb1⟩
    have hx1 := (hx.below hb1 (Nat.le_refl _)).more hb1.size
    have HP := Lib.hid hpf
    clear hpf HPF
    go_wp2_with fail
    refine (clashCheck_any m A len cap (mvI q) _ hx1 HLI.out HM.out).mono ?_
    rintro e w2 ⟨rfl, hb2⟩
    rw [HC.out]
    have hb12 : Below w.heap.size w w2 := hb1.trans (hb2.mono hb1.size)
    have hs2 := hb12.size
    go_wp2
    go_loopw [8] (fun s wr => ∃ (d : List Nat) (k : Nat) (A3 : Option Addr) (c3 : Nat), k ≤ m ∧ s = .slice A3 k c3 ∧ Hid (d.length = k) ∧ wr.ownsRow w2.heap.size 3 1 (.slice A3 k c3) k (iv (ni d)) ∧ Hid (PfI m ad d) ∧ Hid (pfL m ad m [] = pfL m ad (m - k) d) ∧ Below w2.heap.size w2 wr) (fun s _ => m - lenP s)
    case atStart => exact ⟨[], 0, none, 0, Nat.zero_le _, rfl, Lib.hid rfl, World.ownsRow_nil _ _ _ _, Lib.hid PfI.nil, Lib.hid rfl, Below.refl _ _⟩
    case round =>
      obtain ⟨d, k, A3, c3, hk, rfl, HDL, hown, HI, HPL, hb3⟩ := hrel
      have hsz3 := hb3.size
      by_cases hkm : k < m
      · obtain ⟨w3, rfl⟩ : ∃ w3 : World, w3 = wr := ⟨_, rfl⟩
        have HOW := Lib.hid hown
        have HHAS : Hid (∀ (j : Nat) (w5 : World), Below w3.heap.size w3 w5 → Calls Try.prog 18 #[.slice A3 k c3, .int .i64 (j : Int)] w5 fun e w' => e = .returned (.bool (decide (j ∈ d))) ∧ w5 = w') := Lib.hid fun j w5 hb5 => by
          have hrd := (own_rdI hown (by rw [ni_len2]; exact HDL.out)).below hb5 (Nat.le_refl _)
          have e : decide (j ∈ d) = decide ((j : Int) ∈ ni d) := by simp only [ni_mem]
          rw [e]
          exact refHas_any A3 k c3 (ni d) j _ w5 hrd (by rw [ni_len2]; exact HDL.out) (by unfold maxLen; omega)
        clear hown
        go_wp2
        go_loopw [9, 10] (fun z u wr => ∃ (ii : Nat) (zi : Int), ii ≤ m ∧ u = .int .i64 ((ii : Int) - 1) ∧ z = .int .i64 zi ∧ Hid (OneI m ad d ii zi) ∧ Below w3.heap.size w3 wr) (fun _ u _ => (intOf u + 1).toNat)
        case atStart => exact ⟨m, -1, Nat.le_refl _, by go_num, rfl, Lib.hid (.inl ⟨rfl, fun j h1 h2 => by omega⟩), Below.refl _ _⟩
        case round =>
          obtain ⟨ii, zi, hii, rfl, rfl, HO, hb4⟩ := hrel
          have hsz4 := hb4.size
          by_cases hi0 : 0 < ii
          · obtain ⟨i, rfl⟩ : ∃ i, ii = i + 1 := ⟨ii - 1, by omega⟩
            have hie : (((i + 1 : Nat) : Int) - 1) = (i : Int) := by omega
            rw [hie]
            clear hie
            obtain ⟨w4, rfl⟩ : ∃ w4 : World, w4 = wr := ⟨_, rfl⟩
            go_wp2
            go_loopw [11, 12] (fun s u wr => ∃ j sw : Nat, j ≤ m ∧ u = .int .i64 j ∧ s = .int .u32 (sw : Nat) ∧ Hid (nbW ad d i j = sw) ∧ Below w3.heap.size w3 wr) (fun _ u _ => m - (intOf u).toNat)
            case atStart => exact ⟨0, 0, Nat.zero_le _, rfl, rfl, Lib.hid rfl, hb4⟩
            case round =>
              obtain ⟨j, sw, hj, rfl, rfl, HSW, hb5⟩ := hrel
              have hsz5 := hb5.size
              have hb25 : Below w2.heap.size w2 wr := hb3.trans (hb5.mono hsz3)
              have hb15 : Below w.heap.size w wr := hb12.trans (hb25.mono hs2)
              by_cases hjm : j < m
              · have HH := Lib.hid (HHAS.out j wr hb5)
                have HC2 := Lib.hid (HCL.out i j wr hb15)
                have HS : Hid (nbW ad d i (j + 1) = sw + (if !decide (j ∈ d) && ad i j then 2 ^ j else 0)) := Lib.hid (by rw [← HSW.out]; rfl)
                have hswl : sw < 2 ^ j := by rw [← HSW.out]; exact nbW_lt _ _ _ _
                have hpj : 2 ^ j ≤ 128 := Nat.le_trans (Nat.pow_le_pow_right (by omega) (show j ≤ 7 by omega)) (by omega)
                have HWR : Hid (((sw : Int) + (2 : Int) ^ j % 4294967296) % 4294967296 = ((sw + 2 ^ j : Nat) : Int)) := Lib.hid (by
                  rw [pow_u32' (by omega : j < 32)]
                  omega)
                obtain ⟨hs, hhs⟩ : ∃ hs, decide (j ∈ d) = hs := ⟨_, rfl⟩
                obtain ⟨cl2, hcl2⟩ : ∃ cl2, ad i j = cl2 := ⟨_, rfl⟩
                rw [hhs] at HH HS
                rw [hcl2] at HC2 HS
                clear hhs hcl2 hswl hpj
                cases hs
                · cases cl2
                  · have HE : Hid (nbW ad d i (j + 1) = sw) := Lib.hid (by rw [HS.out]; rfl)
                    go_wp2_with (first
                      | (go_at_call 18; (with_reducible refine HH.out.mono ?_); rintro e w6 ⟨rfl, rfl⟩)
                      | (go_at_call 16; (with_reducible refine HC2.out.mono ?_); rintro e w6 ⟨rfl, hb6⟩))
                    go_round
                    case rel => exact ⟨j + 1, sw, by omega, by go_num, rfl, HE, hb5.trans (hb6.mono hsz5)⟩
                    case measure => (simp [intOf]; omega)
                  · have HE : Hid (nbW ad d i (j + 1) = sw + 2 ^ j) := Lib.hid (by rw [HS.out]; rfl)
                    go_wp2_with (first
                      | (go_at_call 18; (with_reducible refine HH.out.mono ?_); rintro e w6 ⟨rfl, rfl⟩)
                      | (go_at_call 16; (with_reducible refine HC2.out.mono ?_); rintro e w6 ⟨rfl, hb6⟩))
                    go_round
                    case rel => exact ⟨j + 1, sw + 2 ^ j, by omega, by go_num, by rw [HWR.out], HE, hb5.trans (hb6.mono hsz5)⟩
                    case measure => (simp [intOf]; omega)
                · have HE : Hid (nbW ad d i (j + 1) = sw) := Lib.hid (by rw [HS.out]; rfl)
                  go_wp2_with (go_at_call 18; (with_reducible refine HH.out.mono ?_); rintro e w6 ⟨rfl, rfl⟩)
                  go_round
                  case rel => exact ⟨j + 1, sw, by omega, by go_num, rfl, HE, hb5⟩
                  case measure => (simp [intOf]; omega)
              · have hjm2 : j = m := by omega
                have him : i < m := by omega
                have HSIM : Hid (simB m ad d i = (!decide (i ∈ d) && clqB m ad sw)) := Lib.hid (by rw [simB_word HGR.out, ← HSW.out, hjm2])
                have hsw32 : sw < 4294967296 := by
                  have h1 := nbW_lt ad d i j
                  rw [HSW.out] at h1
                  have h2 : 2 ^ j ≤ 256 := Nat.le_trans (Nat.pow_le_pow_right (by omega) (show j ≤ 8 by omega)) (by omega)
                  omega
                have HH := Lib.hid (HHAS.out i wr hb5)
                have HQ := Lib.hid (HCQ.out sw wr hsw32 hb15)
                obtain ⟨hs, hhs⟩ : ∃ hs, decide (i ∈ d) = hs := ⟨_, rfl⟩
                obtain ⟨cq, hcq⟩ : ∃ cq, clqB m ad sw = cq := ⟨_, rfl⟩
                rw [hhs] at HH HSIM
                rw [hcq] at HQ HSIM
                clear hhs hcq hsw32
                subst hjm2
                cases hs
                · cases cq
                  · have HN := Lib.hid (HO.out.no (by rw [HSIM.out]; rfl))
                    go_wp2_with (first
                      | (go_at_call 18; (with_reducible refine HH.out.mono ?_); rintro e w6 ⟨rfl, rfl⟩)
                      | (go_at_call 19; (with_reducible refine HQ.out.mono ?_); rintro e w6 ⟨rfl, hb6⟩))
                    go_round
                    case rel => exact ⟨i, zi, by omega, by go_num, rfl, HN, hb5.trans (hb6.mono hsz5)⟩
                    case measure => (simp [intOf])
                  · have HN := Lib.hid (OneI.yes him (by rw [HSIM.out]; rfl))
                    go_wp2_with (first
                      | (go_at_call 18; (with_reducible refine HH.out.mono ?_); rintro e w6 ⟨rfl, rfl⟩)
                      | (go_at_call 19; (with_reducible refine HQ.out.mono ?_); rintro e w6 ⟨rfl, hb6⟩))
                    go_round
                    case rel => exact ⟨i, (i : Nat), by omega, by go_num, rfl, HN, hb5.trans (hb6.mono hsz5)⟩
                    case measure => (simp [intOf])
                · have HN := Lib.hid (HO.out.no (by rw [HSIM.out]; rfl))
                  go_wp2_with (go_at_call 18; (with_reducible refine HH.out.mono ?_); rintro e w6 ⟨rfl, rfl⟩)
                  go_round
                  case rel => exact ⟨i, zi, by omega, by go_num, rfl, HN, hb5⟩
                  case measure => (simp [intOf])
          · have hii0 : ii = 0 := by omega
            subst hii0
            have hb24 : Below w2.heap.size w2 wr := hb3.trans (hb4.mono hsz3)
            have hmk : m - k = (m - (k + 1)) + 1 := by omega
            rcases OneI.simL HO.out with ⟨hz, hno⟩ | ⟨p, rfl, hp, hsm, hyes⟩
            · have hnone : pfL m ad m [] = none := by rw [HPL.out, hmk, pfL, hno]
              have HE : Hid (nl = 0 ∧ er = 5) := Lib.hid (by
                rcases HP.out with ⟨_, h1, h2⟩ | ⟨l, h1, _⟩
                · exact ⟨h1, h2⟩
                · rw [hnone] at h1; cases h1)
              obtain ⟨rfl, rfl⟩ := HE.out
              clear hno hnone hmk
              go_wp2
              go_ret
              exact ⟨ret_bool (by simp), hb12.trans (hb24.mono hs2)⟩
            · have HPN : Hid (pfL m ad m [] = pfL m ad (m - (k + 1)) (d ++ [p])) := Lib.hid (by rw [HPL.out, hmk, pfL, hyes])
              have HIN := Lib.hid (HI.out.snoc hp (simB_iff.1 hsm))
              have HDN : Hid ((d ++ [p]).length = k + 1) := Lib.hid (by rw [List.length_append, HDL.out]; rfl)
              have HIV : Hid (iv (ni (d ++ [p])) = iv (ni d) ++ [.int .i64 (p : Int)]) := Lib.hid (by rw [ni_append, iv_append]; rfl)
              have hown4 := own_below HOW.out hb4
              have ha_ : k + 1 ≤ maxLen := by unfold maxLen; omega
              have hb_ : (k + 1) * 8 ≤ 140737488355328 := by omega
              clear hyes hmk hsm
              go_wp2_with (at_builtin; refine wpList_app rfl (.tmp 82) (.tmp 84) 23 rfl w2.heap.size 3 1 8 int_app _ rfl (own_below hown4 (by go_grown)) [.int .i64 (p : Int)] rfl rfl (fun h => by cases h) (cells_at rfl _ _) (one_cell _) ha_ hb_ (by simp; omega) ?_; intro A5 c5 w5 hown5 hg5 hb5)
              go_round
              case rel => exact ⟨d ++ [p], k + 1, A5, c5, by omega, rfl, HDN, by rw [HIV.out]; exact hown5, HIN, HPN, (hb24.trans (by go_grown)).trans hb5⟩
              case measure =>
                show m - (k + 1) < m - k
                omega
      · have hkm2 : k = m := by omega
        subst hkm2
        have hsome : pfL k ad k [] = some d := by rw [HPL.out, Nat.sub_self]; rfl
        obtain ⟨rfl, rfl, hr1⟩ : nl = k ∧ er = 0 ∧ RdI w1 w1.heap.size Al (ni d) := by
          rcases HP.out with ⟨h0, _⟩ | ⟨l, h1, h2, h3, h4⟩
          · rw [hsome] at h0; cases h0
          · rw [hsome] at h1
            injection h1 with h1
            subst h1
            exact ⟨h2, h3, h4⟩
        have hr3 : RdI wr wr.heap.size Al (ni d) := by
          have hb13 := hb2.trans (hb3.mono hb2.size)
          exact (hr1.below hb13 (Nat.le_refl _)).more hb13.size
        have hrd := own_rdI hown (by rw [ni_len2]; exact HDL.out)
        have HNL : Hid ((ni d).length = nl) := Lib.hid (by rw [ni_len2]; exact HDL.out)
        have hmm : nl ≤ maxLen := by unfold maxLen; omega
        have hb13w : Below w.heap.size w wr := hb12.trans (hb3.mono hs2)
        clear hsome hown
        go_wp2_with (go_at_call 13; (with_reducible refine (ints_same Al A3 nl cl c3 (ni d) _ hr3 hrd HNL.out hmm).mono ?_); rintro e w5 ⟨rfl, hb5⟩)
        go_ret
        exact ⟨ret_bool (by simp), hb13w.trans (hb5.mono hb13w.size)⟩
  · have HC := Lib.hid hc
    obtain ⟨len, hlen⟩ : ∃ len, l.length = len := ⟨_, rfl⟩
    have HLI := Lib.hid hlen
    rw [hlen] at HM ⊢
    obtain ⟨x, hx0⟩ : ∃ x, ckCl n l = x := ⟨_, rfl⟩
    have HX := Lib.hid hx0
    have hne : (x != 0) = true := by rw [← hx0]; simp [hc]
    have hxx : (x == x) = true := by simp
    clear hc hlen hx0
    go_enter Try.func5, Try.ntmps5
    go_wp2_with fail
    refine (K.bad n A len cap l _ hx HLI.out HM.out HC.out).mono ?_
    rintro e w1 ⟨rfl, hb1⟩
    rw [HX.out]
    have hx1 := (hx.below hb1 (Nat.le_refl _)).more hb1.size
    go_wp2_with fail
    refine (clashCheck_any n A len cap l _ hx1 HLI.out HM.out).mono ?_
    rintro e w2 ⟨rfl, hb2⟩
    rw [HX.out]
    go_wp2
    go_ret
    exact ⟨ret_bool (by simp), hb1.trans (hb2.mono hb1.size)⟩

set_option maxRecDepth 100000 in
theorem lawColorPerfects_lifted (os : Os) (started : os.Started) (H : Type) (enc : TypeId × Value → H) :
    ReturnsInHanded {} Try.checked os 5 .any (Rows.colorPerfectsSpec.pre6 enc Try.prog Try.f5 Rows.colorPerfectsRow.domain false) (Rows.colorPerfectsSpec.post enc Try.prog Try.f5 false true false false) := by
  refine returnsInHanded_of_change_sized (C := Try.checked) Try.own started (by kernel_rfl) Try.func5
    (ChangeSpec.witness6 (enc := enc) (C := Try.checked) false ⟨#[], #[.int .i64 0, .slice none 0 0], []⟩ 8 (by kernel_rfl) (by kernel_rfl) (by kernel_rfl) (by kernel_rfl)) ?_
  intro W base args ds gs before hval0 hW hcnd hsz _
  have hval : ∀ (j : Nat) t v, Try.f5.params[j]? = some t → args[j]? = some v → Value.okWide Try.prog W .any base t v := hval0
  have hW' := hW
  obtain ⟨p, q, hA0, hV, rfl, hfz, hnd⟩ := hW
  have hA : DataW.TrodAll enc Try.prog W 0 (fun _ => true) true Try.f5.params.toList args.toList ds p := hA0
  obtain ⟨hgs, _⟩ := trodVars_none hV
  rw [Try.params5] at hA hval
  obtain ⟨v0, vs0, d0, ds0, p0, q0, hargs, rfl, rfl, h0, r0⟩ := trodAll_cons hA
  obtain ⟨v1, vs1, d1, ds1, p1, q1, rfl, rfl, rfl, h1, r1⟩ := trodAll_cons r0
  obtain ⟨rfl, rfl, rfl⟩ := trodAll_nil r1
  have hargs2 : args = #[v0, v1] := Array.toList_inj.1 hargs
  subst hargs2
  obtain ⟨a0, rfl, _, _, w0⟩ := open_int Try.underlying3 (hval 0 3 v0 rfl rfl) h0
  obtain ⟨A1, c1, l1, rfl, lc1, cm1, x1, r1⟩ := open_pairsA (hval 1 22 v1 rfl rfl) h1
  have b1 := len_reach Try.underlying22 (hval 1 22 _ rfl rfl) h1 hsz (j := 1) (by rw [Try.params5]; rfl) rfl
  rw [show Try.prog.bytesOf (Try.prog.elem 22) = 16 from by kernel_rfl] at b1
  refine (lawColorPerfects_any perfectIs a0 A1 c1 l1 _ x1 (by omega)).mono fun e W' ⟨he, hb⟩ => ?_
  subst he
  exact ⟨_, rfl, law_post Try.laidOut rfl (by kernel_rfl) Try.underlying4 ⟨rfl, rfl, rfl⟩ (by kernel_rfl) hW' hb⟩

theorem colorPerfects_holds : Rows.ColorPerfectsSaid :=
  OpenClaim.holds_of_wide 5 Try.f5 rfl rfl rfl rfl rfl rfl rfl ⟨rfl, rfl, rfl, rfl, rfl⟩ rfl rfl rfl rfl rfl (by kernel_rfl) Try.func5 (show joinedFacts Try.prog 5 Try.f5 Rows.colorPerfectsSpec Rows.colorPerfectsRow = true from (by unfold joinedFacts; (repeat' (with_reducible refine and_both ?_ ?_)) <;> first | (with_reducible exact may_enter) | ((with_reducible refine make_ok ?_); rfl) | ((with_reducible refine lifts_ok ?_); rfl) | kernel_rfl))
    (of_decide_eq_true (by kernel_rfl)) (by unfold Func.isWrapper; rw [if_neg (of_decide_eq_false (by kernel_rfl))]; exact ⟨rfl, rfl⟩)
    (fun os started H enc _ => lawColorPerfects_lifted os started H enc)

end Go.Proofs.Ytkgahblengjkfaa
