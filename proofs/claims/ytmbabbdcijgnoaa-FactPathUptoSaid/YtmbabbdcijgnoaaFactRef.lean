/-
  codemasonref.LawCheck, Facts (I1, I2); codemasonkeep.lawful.
-/
import Derived.Test.YtmbabbdcijgnoaaPureFact
import Derived.Test.YtmbabbdcijgnoaaRuleIs
import Derived.Test.YtmbabbdcijgnoaaWayParts
namespace Go.Proofs.Ytmbabbdcijgnoaa
open Go.RowKit
set_option linter.unusedSimpArgs false
set_option linter.unusedVariables false
set_option maxRecDepth 100000

/-- a problem's slices read -/
structure RdL (w : World) (B : Nat) (A1 A2 : Option Addr) (lw : Lw) : Prop where
  ma : RdU w B A1 lw.ma
  en : RdU w B A2 lw.en

theorem RdL.below {w w' : World} {B B' : Nat} {A1 A2 : Option Addr} {lw : Lw} (h : RdL w B A1 A2 lw) (hb : Below B' w w') (hB : B ≤ B') : RdL w' B A1 A2 lw := ⟨h.ma.below hb hB, h.en.below hb hB⟩

theorem RdL.more {w : World} {B B' : Nat} {A1 A2 : Option Addr} {lw : Lw} (h : RdL w B A1 A2 lw) (hB : B ≤ B') : RdL w B' A1 A2 lw := ⟨h.ma.more hB, h.en.more hB⟩

/-- its words are words -/
structure U32L (lw : Lw) : Prop where
  ma : ∀ x ∈ lw.ma, x < 4294967296
  en : ∀ x ∈ lw.en, x < 4294967296
  st : lw.st < 4294967296
  lm : lw.ma.length ≤ maxLen
  le : lw.en.length ≤ maxLen

theorem wordsOk_false {l : List Nat} {k x : Nat} (h : l[k]? = some x) (hx : ¬ x < 256) : wordsOk l = false := by
  cases e : wordsOk l with
  | false => rfl
  | true =>
    have := List.all_eq_true.1 e x (List.mem_of_getElem? h)
    simp at this
    exact absurd this hx

theorem wordsOk_true {l : List Nat} {n : Nat} (hl : l.length = n) (h : ∀ r x, r < n → l[r]? = some x → x < 256) : wordsOk l = true := List.all_eq_true.2 fun x hx => by
  obtain ⟨r, hr, e⟩ := List.getElem_of_mem hx
  exact decide_eq_true (h r x (by omega) (by rw [List.getElem?_eq_getElem hr, e]))

theorem fits8 (W : Nat) (w : World) (hW : W < 4294967296) :
    Calls Try.prog 24 #[.int .i64 8, .int .u32 (W : Nat)] w fun e w' => e = .returned (.bool (decide (W < 2 ^ 8))) ∧ w = w' := refFits_is 8 W w (by omega) hW

set_option maxHeartbeats 4000000 in
theorem refLawCheck_any (A : Option Addr) (len cap : Nat) (nx : List (List Int)) (A1 : Option Addr) (c1 : Nat) (A2 : Option Addr) (c2 : Nat) (lw : Lw) (w : World) (hx : RdG w w.heap.size A nx) (hl : nx.length = len) (hr : RdL w w.heap.size A1 A2 lw) (hu : U32L lw) :
    Calls Try.prog 9 #[.slice A len cap, .agg #[.bool lw.bw, .bool lw.al, .slice A1 lw.ma.length c1, .slice A2 lw.en.length c2, .int .u32 (lw.st : Nat)]] w fun e w' => e = .returned (.int .i64 (ckLaw nx lw)) ∧ Below w.heap.size w w' := by
  have HL := Lib.hid hl
  have hm1 := hu.lm
  have hm2 := hu.le
  have hst32 := hu.st
  have HU := Lib.hid hu
  unfold maxLen at hm1 hm2
  have hr1 := hr.ma
  have hr2 := hr.en
  obtain ⟨n1, hn1⟩ : ∃ n, lw.ma.length = n := ⟨_, rfl⟩
  obtain ⟨n2, hn2⟩ : ∃ n, lw.en.length = n := ⟨_, rfl⟩
  rw [hn1] at hm1 ⊢
  rw [hn2] at hm2 ⊢
  have HN1 := Lib.hid hn1
  have HN2 := Lib.hid hn2
  obtain ⟨st, hst⟩ : ∃ n, lw.st = n := ⟨_, rfl⟩
  rw [hst] at hst32 ⊢
  have HST := Lib.hid hst
  by_cases hc : ckWay nx = 0
  · have HC := Lib.hid hc
    have hb0 : Below w.heap.size w (w.alloc (.cells #[.bool lw.bw, .bool lw.al, .slice A1 n1 c1, .slice A2 n2 c2, .int .u32 (st : Nat)] 26)) := by go_grown
    have hx0 := (hx.below hb0 (Nat.le_refl _)).more hb0.size
    by_cases h12 : n1 = len ∧ n2 = len
    · obtain ⟨h1, h2⟩ := h12
      have hck : ckLaw nx lw = if wordsOk lw.ma = true ∧ wordsOk lw.en = true ∧ st < 256 then 0 else 4 := by unfold ckLaw; rw [if_pos hc, if_pos (by omega), hst]
      have HCK := Lib.hid hck
      subst h1
      subst h2
      have hb8 := ckWay_bd hc
      rw [hl] at hb8
      have hb1' := hb8.1
      have hb2' := hb8.2.1
      clear hc hck hn1 hn2 hst hl hb8 hr hu
      go_enter Try.func9, Try.ntmps9
      go_wp2_with fail
      refine (refWayCheck_any A _ cap nx _ hx0 HL.out).mono ?_
      rintro e w1 ⟨rfl, rfl⟩
      rw [HC.out]
      go_wp2
      obtain ⟨wo, hwo⟩ : ∃ wo, wo = w.alloc (.cells #[.bool lw.bw, .bool lw.al, .slice A1 n2 c1, .slice A2 n2 c2, .int .u32 (st : Nat)] 26) := ⟨_, rfl⟩
      rw [← hwo] at hb0 hx0 ⊢
      have hown : Own wo w.heap.size 26 [.bool lw.bw, .bool lw.al, .slice A1 n2 c1, .slice A2 n2 c2, .int .u32 (st : Nat)] := by rw [hwo]; exact Own.new w _ _
      have d2 := hown.cell (j := 2) rfl
      have d3 := hown.cell (j := 3) rfl
      have d4 := hown.cell (j := 4) rfl
      have hr1o := hr1.below hb0 (Nat.le_refl _)
      have hr2o := hr2.below hb0 (Nat.le_refl _)
      clear hwo hown
      go_loop [6] (fun z => ∃ k : Nat, k ≤ n2 ∧ z = .int .i64 k ∧ (∀ r x, r < k → lw.ma[r]? = some x → x < 256) ∧ (∀ r x, r < k → lw.en[r]? = some x → x < 256)) (fun z => n2 - (intOf z).toNat)
      case atStart => exact ⟨0, Nat.zero_le _, rfl, fun r x hr => by omega, fun r x hr => by omega⟩
      case round =>
        obtain ⟨k, hk, rfl, hok1, hok2⟩ := hrel
        have HO1 := Lib.hid hok1
        have HO2 := Lib.hid hok2
        clear hok1 hok2
        by_cases hlt : k < n2
        · obtain ⟨a1, x, rfl, hbl1, hd1, hc1⟩ := hr1o.at_ (k := k) (by rw [HN1.out]; exact hlt)
          obtain ⟨a2, y, rfl, hbl2, hd2, hc2⟩ := hr2o.at_ (k := k) (by rw [HN2.out]; exact hlt)
          have hx32 := HU.out.ma x (List.mem_of_getElem? hd1)
          have hy32 := HU.out.en y (List.mem_of_getElem? hd2)
          have HD1 := Lib.hid hd1
          have HD2 := Lib.hid hd2
          clear hd1 hd2
          by_cases hx8 : x < 256
          · have hxd : decide (x < 2 ^ 8) = true := decide_eq_true (by omega)
            by_cases hy8 : y < 256
            · have hyd : decide (y < 2 ^ 8) = true := decide_eq_true (by omega)
              have HXD := Lib.hid hxd
              have HYD := Lib.hid hyd
              have HX8 := Lib.hid hx8
              have HY8 := Lib.hid hy8
              clear hxd hyd hx8 hy8
              go_wp2_with (first
                | (go_at_call 24; (with_reducible refine (fits8 x _ hx32).mono ?_); rw [HXD.out]; rintro e w5 ⟨rfl, rfl⟩)
                | (go_at_call 24; (with_reducible refine (fits8 y _ hy32).mono ?_); rw [HYD.out]; rintro e w5 ⟨rfl, rfl⟩))
              go_round
              case rel =>
                refine ⟨k + 1, by omega, by go_num, fun r z hr hz => ?_, fun r z hr hz => ?_⟩
                · by_cases e : r = k
                  · subst e; rw [HD1.out] at hz; injection hz with hz; rw [← hz]; exact HX8.out
                  · exact HO1.out r z (by omega) hz
                · by_cases e : r = k
                  · subst e; rw [HD2.out] at hz; injection hz with hz; rw [← hz]; exact HY8.out
                  · exact HO2.out r z (by omega) hz
              case measure => (simp [intOf]; omega)
            · have hyd : decide (y < 2 ^ 8) = false := decide_eq_false (by omega)
              have HXD := Lib.hid hxd
              have HYD := Lib.hid hyd
              have HW := Lib.hid (wordsOk_false HD2.out hy8)
              clear hxd hyd hx8 hy8
              go_wp2_with (first
                | (go_at_call 24; (with_reducible refine (fits8 x _ hx32).mono ?_); rw [HXD.out]; rintro e w5 ⟨rfl, rfl⟩)
                | (go_at_call 24; (with_reducible refine (fits8 y _ hy32).mono ?_); rw [HYD.out]; rintro e w5 ⟨rfl, rfl⟩))
              go_ret
              exact ⟨ret_int (by rw [HCK.out, if_neg (fun h => by rw [HW.out] at h; exact absurd h.2.1 (by simp))]), hb0⟩
          · have hxd : decide (x < 2 ^ 8) = false := decide_eq_false (by omega)
            have HXD := Lib.hid hxd
            have HW := Lib.hid (wordsOk_false HD1.out hx8)
            clear hxd hx8
            go_wp2_with (go_at_call 24; (with_reducible refine (fits8 x _ hx32).mono ?_); rw [HXD.out]; rintro e w5 ⟨rfl, rfl⟩)
            go_ret
            exact ⟨ret_int (by rw [HCK.out, if_neg (fun h => by rw [HW.out] at h; exact absurd h.1 (by simp))]), hb0⟩
        · have hkn : k = n2 := by omega
          have HW1 := Lib.hid (wordsOk_true (l := lw.ma) HN1.out (by rw [← hkn]; exact HO1.out))
          have HW2 := Lib.hid (wordsOk_true (l := lw.en) HN2.out (by rw [← hkn]; exact HO2.out))
          clear hkn
          by_cases hs8 : st < 256
          · have hsd : decide (st < 2 ^ 8) = true := decide_eq_true (by omega)
            have HSD := Lib.hid hsd
            have HS8 := Lib.hid hs8
            clear hsd hs8
            go_wp2_with (go_at_call 24; (with_reducible refine (fits8 st _ hst32).mono ?_); rw [HSD.out]; rintro e w5 ⟨rfl, rfl⟩)
            go_ret
            exact ⟨ret_int (by rw [HCK.out, if_pos ⟨HW1.out, HW2.out, HS8.out⟩]), hb0⟩
          · have hsd : decide (st < 2 ^ 8) = false := decide_eq_false (by omega)
            have HSD := Lib.hid hsd
            have HS8 := Lib.hid hs8
            clear hsd hs8
            go_wp2_with (go_at_call 24; (with_reducible refine (fits8 st _ hst32).mono ?_); rw [HSD.out]; rintro e w5 ⟨rfl, rfl⟩)
            go_ret
            exact ⟨ret_int (by rw [HCK.out, if_neg (fun h => HS8.out h.2.2)]), hb0⟩
    · have hck : ckLaw nx lw = 3 := by unfold ckLaw; rw [if_pos hc, if_neg (by omega)]
      have HCK := Lib.hid hck
      have hll : len ≤ 8 := by have := ckWay_bd hc; omega
      by_cases h1 : n1 = len
      · have e1 : ((n1 : Int) != (len : Int)) = false := by simp [h1]
        have e2 : ((n2 : Int) != (len : Int)) = true := by simp; omega
        clear hc hck hn1 hn2 hst hl h12 h1 hr hu
        go_enter Try.func9, Try.ntmps9
        go_wp2_with fail
        refine (refWayCheck_any A _ cap nx _ hx0 HL.out).mono ?_
        rintro e w1 ⟨rfl, rfl⟩
        rw [HC.out]
        go_wp2
        go_ret
        exact ⟨ret_int (by rw [HCK.out]), hb0⟩
      · have e1 : ((n1 : Int) != (len : Int)) = true := by simp; omega
        clear hc hck hn1 hn2 hst hl h12 h1 hr hu
        go_enter Try.func9, Try.ntmps9
        go_wp2_with fail
        refine (refWayCheck_any A _ cap nx _ hx0 HL.out).mono ?_
        rintro e w1 ⟨rfl, rfl⟩
        rw [HC.out]
        go_wp2
        go_ret
        exact ⟨ret_int (by rw [HCK.out]), hb0⟩
  · have hck : ckLaw nx lw = ckWay nx := by unfold ckLaw; rw [if_neg hc]
    have HCK := Lib.hid hck
    have hne : (ckWay nx != 0) = true := by simp [hc]
    have hb0 : Below w.heap.size w (w.alloc (.cells #[.bool lw.bw, .bool lw.al, .slice A1 n1 c1, .slice A2 n2 c2, .int .u32 (st : Nat)] 26)) := by go_grown
    have hx0 := (hx.below hb0 (Nat.le_refl _)).more hb0.size
    clear hc hck hn1 hn2 hst hl hr hu
    go_enter Try.func9, Try.ntmps9
    go_wp2_with fail
    refine (refWayCheck_any A _ cap nx _ hx0 HL.out).mono ?_
    rintro e w1 ⟨rfl, rfl⟩
    go_wp2
    go_ret
    exact ⟨ret_int (by rw [HCK.out]), hb0⟩

theorem lawful_any (A : Option Addr) (len cap : Nat) (nx : List (List Int)) (A1 : Option Addr) (c1 : Nat) (A2 : Option Addr) (c2 : Nat) (lw : Lw) (w : World) (hx : RdG w w.heap.size A nx) (hl : nx.length = len) (hr : RdL w w.heap.size A1 A2 lw) (hu : U32L lw) :
    Calls Try.prog 15 #[.slice A len cap, .agg #[.bool lw.bw, .bool lw.al, .slice A1 lw.ma.length c1, .slice A2 lw.en.length c2, .int .u32 (lw.st : Nat)]] w fun e w' => e = .returned (.bool (decide (ckLaw nx lw = 0))) ∧ Below w.heap.size w w' := by
  have HL := Lib.hid hl
  have hb0 : Below w.heap.size w (w.alloc (.cells #[.bool lw.bw, .bool lw.al, .slice A1 lw.ma.length c1, .slice A2 lw.en.length c2, .int .u32 (lw.st : Nat)] 26)) := by go_grown
  have hx0 := (hx.below hb0 (Nat.le_refl _)).more hb0.size
  have hr0 := (hr.below hb0 (Nat.le_refl _)).more hb0.size
  clear hl
  go_enter Try.func15, Try.ntmps15
  go_wp2_with fail
  refine (refLawCheck_any A len cap nx A1 c1 A2 c2 lw _ hx0 HL.out hr0 hu).mono ?_
  rintro e w1 ⟨rfl, hb1⟩
  go_wp2
  go_ret
  exact ⟨ret_bool (by rw [Bool.eq_iff_iff]; simp), hb0.trans (hb1.mono hb0.size)⟩

end Go.Proofs.Ytmbabbdcijgnoaa
