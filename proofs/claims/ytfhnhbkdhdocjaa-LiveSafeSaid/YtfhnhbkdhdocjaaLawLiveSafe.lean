/-
  Values that agree on what is live at the beginning: a program stops with the same in what is asked for, after the same blocks, or with neither (K1): codemasonkeep.LiveSafe returns true and leaves its arguments alone. No condition.
-/
import Derived.Test.YtfhnhbkdhdocjaaLawLive
import Derived.Test.YtfhnhbkdhdocjaaLiveTrimC
import Derived.Test.YtfhnhbkdhdocjaaBlockDo
import Derived.Test.YtfhnhbkdhdocjaaLawBlock
namespace Go.Proofs.Ytfhnhbkdhdocjaa
open Go.RowKit Go.ChangeShapes Go.WideShapes Go.ChangeAt Go.Deep
set_option linter.unusedSimpArgs false
set_option linter.unusedVariables false
set_option maxRecDepth 100000

theorem rdI_nilS (w : World) (A : Option Addr) : RdI w w.heap.size A [] := fun h => by simp at h

/-- of two lists of values one: up to k, where W says so, of the first one -/
structure Mix (n W k : Nat) (a b r : List Int) : Prop where
  ok : ValsOk n r
  at_ : ∀ v, v < n → r.getD v 0 = if v < k ∧ W.testBit v = true then a.getD v 0 else b.getD v 0

theorem Mix.start {n W : Nat} {a b : List Int} (hb : ValsOk n b) : Mix n W 0 a b b := ⟨hb, fun v _ => by rw [if_neg (by omega)]⟩

theorem Mix.yes {n W k : Nat} {a b r : List Int} {x : Int} (h : Mix n W k a b r) (ha : ValsOk n a) (hk : k < n) (hx : a[k]? = some x) (hb : W.testBit k = true) : Mix n W (k + 1) a b (r.set k x) := by
  refine ⟨h.ok.set (ha.2 k x hx), fun v hv => ?_⟩
  rw [getD_set _ _ _ _ (by rw [h.ok.1]; exact hk)]
  split
  · rename_i e
    subst e
    rw [if_pos ⟨by omega, hb⟩, List.getD_eq_getElem?_getD, hx]
    rfl
  · rename_i e
    rw [h.at_ v hv]
    by_cases h1 : v < k ∧ W.testBit v = true
    · rw [if_pos h1, if_pos ⟨by omega, h1.2⟩]
    · rw [if_neg h1, if_neg (fun h2 => h1 ⟨by omega, h2.2⟩)]

theorem Mix.no {n W k : Nat} {a b r : List Int} (h : Mix n W k a b r) (hb : W.testBit k = false) : Mix n W (k + 1) a b r := by
  refine ⟨h.ok, fun v hv => ?_⟩
  rw [h.at_ v hv]
  by_cases h1 : v < k ∧ W.testBit v = true
  · rw [if_pos h1, if_pos ⟨by omega, h1.2⟩]
  · rw [if_neg h1, if_neg (fun h2 => by
      by_cases e : v = k
      · subst e; rw [hb] at h2; exact absurd h2.2 (by simp)
      · exact h1 ⟨by omega, h2.2⟩)]

set_option maxHeartbeats 16000000 in
theorem lawLiveSafe_any (K : LiveIs) (K2 : GoIs) (vars : Int) (A HA HB : Option Addr) (cap ca cb want : Nat) (p : List Bk) (a b : List Int) (w : World) (hx : RdP w w.heap.size A p) (ha : RdI w w.heap.size HA a) (hb : RdI w w.heap.size HB b) (hm : p.length ≤ maxLen) (hin : ∀ b ∈ p, InBk b) (hw : want < 4294967296) (ham : a.length ≤ maxLen) (hbm : b.length ≤ maxLen) :
    Calls Try.prog 5 #[.int .i64 vars, .slice A p.length cap, .int .u32 (want : Nat), .slice HA a.length ca, .slice HB b.length cb] w fun e w' => e = .returned (.bool true) ∧ Below w.heap.size w w' := by
  obtain ⟨len, hl⟩ : ∃ len, p.length = len := ⟨_, rfl⟩
  have HL := Lib.hid hl
  rw [hl] at hm ⊢
  have HPC := Lib.hid (fun (Z : World) (hZ : Below w.heap.size w Z) => refProgCheck_any vars A len cap p Z ((hx.below hZ (Nat.le_refl _)).more hZ.size) hl hm hin)
  obtain ⟨na, hna⟩ : ∃ k, a.length = k := ⟨_, rfl⟩
  have HNA := Lib.hid hna
  rw [hna] at ham ⊢
  obtain ⟨nb, hnb⟩ : ∃ k, b.length = k := ⟨_, rfl⟩
  have HNB := Lib.hid hnb
  rw [hnb] at hbm ⊢
  clear hna hnb
  by_cases hc : ckWant vars p want = 0
  · obtain ⟨n, rfl, hn1, hn6, hc1, hc2⟩ := ckWant_ok hc
    obtain ⟨_, _, b3, b4, _⟩ := ckProg_bd hc1
    rw [hl] at b3 b4
    have HC1 := Lib.hid hc1
    have HF := Lib.hid (decide_eq_true hc2)
    have HIN := Lib.hid (K.in_ n want A len cap p w hx hl hc1 hc2)
    clear hc hc1 hc2 hl hin
    by_cases hga : ckHave n a = 0
    · have HGA : Hid ((ckHave n a == 0) = true) := Lib.hid (by simp [hga])
      have hvo := valsOk_of hga
      have HVA := Lib.hid hvo
      have hnn : na = n := by rw [← HNA.out]; exact hvo.1
      subst hnn
      clear hga hvo
      by_cases hgb : ckHave na b = 0
      · have HGB : Hid ((ckHave na b == 0) = true) := Lib.hid (by simp [hgb])
        have hvo := valsOk_of hgb
        have HVB := Lib.hid hvo
        have hnn : nb = na := by rw [← HNB.out]; exact hvo.1
        subst hnn
        clear hgb hvo
        have HL1 : Hid ((iv b).length = nb * 1) := Lib.hid (by simp [iv, HNB.out])
        have HN1 : Hid (HB = none → nb = 0) := Lib.hid fun h => by have := hb.nil h; rw [HNB.out] at this; exact this
        have HNW : Hid (∀ Z : World, Below w.heap.size w Z → ∀ ad, HB = some ad → ∀ j u, (iv b)[j]? = some u → Z.cell? (ad.add j) = some u) := Lib.hid fun Z hZ => (hb.below hZ (Nat.le_refl _)).news
        have ha_ : 0 + nb ≤ maxLen := by unfold maxLen; omega
        have hb_ : (0 + nb) * 8 ≤ 140737488355328 := by omega
        go_enter Try.func5, Try.ntmps5
        go_wp2_with fail
        refine HIN.out.mono ?_
        rintro e w1 ⟨A1, c1, L, rfl, hx1, hw1, hb1⟩
        have HW := Lib.hid hw1
        clear hw1
        go_wp2_with fail
        refine (HPC.out _ hb1).mono ?_
        rintro e w2 ⟨rfl, hb2⟩
        rw [HC1.out]
        have hb02 := hb1.trans (hb2.mono hb1.size)
        have hx12 := (hx1.below hb2 (Nat.le_refl _)).more hb2.size
        have ha2 := (ha.below hb02 (Nat.le_refl _)).more hb02.size
        have hbb2 := (hb.below hb02 (Nat.le_refl _)).more hb02.size
        obtain ⟨a1, W, rfl, hbl1, hd1, hcW⟩ := hx12.at_ (k := 0) (by rw [HW.out.len, HL.out]; omega)
        have hWn := HW.out.lt 0 W hd1
        have hW32 := want_small hWn hn6
        have HBIT := Lib.hid (HW.out.bit 0 W hd1)
        have hs2 := hb02.size
        have HD1 := Lib.hid hd1
        clear hx1 hd1
        go_wp2_with (first
          | (go_at_call 21; (with_reducible refine (refFits_is nb want _ (by omega) hw).mono ?_); rw [HF.out]; rintro e w5 ⟨rfl, rfl⟩)
          | (go_at_call 26; (with_reducible refine (given_any nb HA nb ca a _ _ ha2 HNA.out ham).mono ?_); rw [HGA.out]; rintro e w5 ⟨rfl, rfl⟩)
          | (go_at_call 26; (with_reducible refine (given_any nb HB nb cb b _ _ hbb2 HNB.out hbm).mono ?_); rw [HGB.out]; rintro e w5 ⟨rfl, rfl⟩)
          | (at_builtin; refine wpList_app rfl (.tmp 59) (.tmp 60) 39 rfl w2.heap.size 3 1 8 int_app [] rfl (own_empty_at _ _ _ _ (by simp) (by simp)) (iv b) rfl HL1.out HN1.out (HNW.out _ (by go_grown)) (iv_one _) ha_ hb_ (by simp) ?_; intro A3 c3 w3 hown3 hg3 hb3; rw [Nat.zero_add, List.nil_append] at hown3))
        obtain ⟨g, rfl, hg0, hg1⟩ := own_form hown3 (by omega)
        have hbw3 : Below w2.heap.size w2 w3 := ((by go_grown : Below w2.heap.size w2 (w2.alloc (.cells #[] 3)))).trans hb3
        clear hg3 hb3 hcW
        go_loopw [14] (fun z wr => ∃ (k : Nat) (r : List Int), k ≤ nb ∧ z = .int .i64 k ∧ Mix nb W k a b r ∧ wr.ownsRow w2.heap.size 3 1 (.slice (some ⟨g, 0, none⟩) nb c3) nb (iv r) ∧ Below w2.heap.size w2 wr) (fun z _ => nb - (intOf z).toNat)
        case atStart => exact ⟨0, b, Nat.zero_le _, rfl, Mix.start HVB.out, hown3, hbw3⟩
        case round =>
          obtain ⟨k, r, hk, rfl, hmix, hown, hbr⟩ := hrel
          have HMX := Lib.hid hmix
          have hsz := hbr.size
          have hgs := (hown.lt g rfl).2
          clear hmix
          by_cases hct : k < nb
          · obtain ⟨a1', W', e1, _, hd1', hcW⟩ := (hx12.below hbr (Nat.le_refl _)).at_ (k := 0) (by rw [HW.out.len, HL.out]; omega)
            injection e1 with e1
            subst e1
            rw [HD1.out] at hd1'
            injection hd1' with hd1'
            subst hd1'
            have hcW0 : wr.cell? a1 = some (.int .u32 (W : Int)) := by
              have e : a1.add 0 = a1 := by unfold Addr.add; simp
              rw [← e]; exact hcW
            have hbb := bitB_of (W := W) (v := k) (by omega)
            obtain ⟨tb, htb⟩ : ∃ tb, W.testBit k = tb := ⟨_, rfl⟩
            rw [htb] at hbb
            have HBB := Lib.hid hbb
            have HTB := Lib.hid htb
            clear hbb htb
            cases tb with
            | true =>
              obtain ⟨ad2, x, rfl, hbl2, hxa, hcx⟩ := (ha2.below hbr (Nat.le_refl _)).at_ (k := k) (by rw [HNA.out]; exact hct)
              have hkr : k < r.length := by rw [HMX.out.ok.1]; exact hct
              have hct2 := (hown.cellAt k (by omega)).trans (iv_at (List.getElem?_eq_getElem hkr))
              have hfz := hown.frozenAt k
              have HYES := Lib.hid (HMX.out.yes HVA.out hct hxa HTB.out)
              have hst := (hown.stored k (.int .i64 x)).1
              rw [iv_set] at hst
              have HST := Lib.hid hst
              generalize r[k] = xt at *
              clear hxa hst hown
              go_wp2_with (go_at_call 19; (with_reducible refine (bit_any W _ _ hW32).mono ?_); rw [HBB.out]; rintro e w5 ⟨rfl, rfl⟩)
              go_round
              case rel => exact ⟨k + 1, _, by omega, by go_num, HYES.out, HST.out, hbr.setCell (show w2.heap.size ≤ (⟨g, k, none⟩ : Addr).block from hg0) _⟩
              case measure => (simp [intOf]; omega)
            | false =>
              go_wp2_with (go_at_call 19; (with_reducible refine (bit_any W _ _ hW32).mono ?_); rw [HBB.out]; rintro e w5 ⟨rfl, rfl⟩)
              go_round
              case rel => exact ⟨k + 1, r, by omega, by go_num, HMX.out.no HTB.out, hown, hbr⟩
              case measure => (simp [intOf]; omega)
          · have hkn : k = nb := by omega
            have hbr0 := hb02.trans (hbr.mono hs2)
            have hxr := (hx.below hbr0 (Nat.le_refl _)).more hbr0.size
            have har := (ha.below hbr0 (Nat.le_refl _)).more hbr0.size
            have hrr := own_rdI hown HMX.out.ok.1
            have HAG : Hid (Agr nb (fun v => Lv p want v (0, 0)) a r) := Lib.hid fun v hv hlv => by
              rw [HMX.out.at_ v hv, if_pos ⟨by omega, (HBIT.out v hv).2 hlv⟩]
            have HVR := Lib.hid HMX.out.ok
            have HGO := Lib.hid (goP_thin HC1.out (ThinB.same want p) 200 0 a r (by rw [HL.out]; omega) HVA.out.1 HMX.out.ok.1 HAG.out)
            have HW1 := Lib.hid (fun x l (h : goP p 200 0 a = some (x, l)) => goP_way HC1.out 200 0 a x l (by rw [HL.out]; omega) HVA.out h)
            clear hkn hown
            go_wp2_with fail
            refine (K2.run nb A HA len cap ca p a _ hxr har HL.out HC1.out HVA.out).mono ?_
            rintro e w5 ⟨hrt, hb5⟩
            have hb05 := hbr0.trans (hb5.mono hbr0.size)
            have hx5 := (hxr.below hb5 (Nat.le_refl _)).more hb5.size
            have hr5 := (hrr.below hb5 (Nat.le_refl _)).more hb5.size
            rcases hrt with ⟨hr, B1, B2, d1, d2, rfl⟩ | ⟨x, l, B1, B2, d1, d2, hr, rfl, hr1, hr2⟩
            · have HR := Lib.hid hr
              clear hr
              go_wp2_with fail
              refine (K2.run nb A _ len cap c3 p r _ hx5 hr5 HL.out HC1.out HVR.out).mono ?_
              rintro e w6 ⟨hrt, hb6⟩
              have hb06 := hb05.trans (hb6.mono hb05.size)
              rcases hrt with ⟨hr', B3, B4, d3, d4, rfl⟩ | ⟨x, l, B3, B4, d3, d4, hr', _⟩
              · go_wp2_with fail
                refine (ints_same B2 B4 0 d2 d4 [] _ (rdI_nilS _ _) (rdI_nilS _ _) rfl (Nat.zero_le _)).mono ?_
                rintro e w7 ⟨rfl, hb7⟩
                go_wp2
                go_ret
                exact ⟨ret_bool (by simp), hb06.trans (hb7.mono hb06.size)⟩
              · have := HGO.out
                rw [show ((0 : Nat) : Int) = 0 from rfl, HR.out, hr'] at this
                exact this.elim
            · have HR := Lib.hid hr
              obtain ⟨r0, hlr, hrw, hll, hxo⟩ := HW1.out x l hr
              clear hr hlr hrw hxo
              go_wp2_with fail
              refine (K2.run nb A _ len cap c3 p r _ hx5 hr5 HL.out HC1.out HVR.out).mono ?_
              rintro e w6 ⟨hrt, hb6⟩
              have hb06 := hb05.trans (hb6.mono hb05.size)
              have hr16 := (hr1.below hb6 (Nat.le_refl _)).more hb6.size
              have hr26 := (hr2.below hb6 (Nat.le_refl _)).more hb6.size
              rcases hrt with ⟨hr', _⟩ | ⟨y, l', B3, B4, d3, d4, hr', rfl, hr3, hr4⟩
              · have := HGO.out
                rw [show ((0 : Nat) : Int) = 0 from rfl, HR.out, hr'] at this
                exact this.elim
              · have hsg := HGO.out
                rw [show ((0 : Nat) : Int) = 0 from rfl, HR.out, hr'] at hsg
                obtain ⟨hll', hxl, hyl, hag⟩ := hsg
                subst hll'
                have hlm : l.length ≤ maxLen := by unfold maxLen; omega
                have HLM := Lib.hid hlm
                have HAL := Lib.hid hag
                have HXL := Lib.hid hxl
                have HYL := Lib.hid hyl
                rw [hxl, hyl]
                clear hr' hag hlm hll hxl hyl
                go_wp2_with fail
                refine (ints_same B2 B4 _ d2 d4 (ni l) _ hr26 hr4 (by simp [ni]) HLM.out).mono ?_
                rintro e w7 ⟨rfl, hb7⟩
                have hb07 := hb06.trans (hb7.mono hb06.size)
                have hr17 := (hr16.below hb7 (Nat.le_refl _)).more hb7.size
                have hr37 := (hr3.below hb7 (Nat.le_refl _)).more hb7.size
                go_wp2_with fail
                refine (alike_any B1 B3 nb d1 d3 want x y _ hr17 hr37 HXL.out HYL.out hn6 hw HAL.out).mono ?_
                rintro e w8 ⟨rfl, hb8⟩
                go_wp2
                go_ret
                exact ⟨ret_bool (by simp), hb07.trans (hb8.mono hb07.size)⟩
      · have HGB : Hid ((ckHave na b == 0) = false) := Lib.hid (by simp [hgb])
        clear hgb
        go_enter Try.func5, Try.ntmps5
        go_wp2_with fail
        refine HIN.out.mono ?_
        rintro e w1 ⟨A1, c1, L, rfl, hx1, hw1, hb1⟩
        have HW := Lib.hid hw1
        clear hw1
        go_wp2_with fail
        refine (HPC.out _ hb1).mono ?_
        rintro e w2 ⟨rfl, hb2⟩
        rw [HC1.out]
        have hb02 := hb1.trans (hb2.mono hb1.size)
        have ha2 := (ha.below hb02 (Nat.le_refl _)).more hb02.size
        have hbb2 := (hb.below hb02 (Nat.le_refl _)).more hb02.size
        go_wp2_with (first
          | (go_at_call 21; (with_reducible refine (refFits_is na want _ (by omega) hw).mono ?_); rw [HF.out]; rintro e w5 ⟨rfl, rfl⟩)
          | (go_at_call 26; (with_reducible refine (given_any na HA na ca a _ _ ha2 HNA.out ham).mono ?_); rw [HGA.out]; rintro e w5 ⟨rfl, rfl⟩)
          | (go_at_call 26; (with_reducible refine (given_any na HB nb cb b _ _ hbb2 HNB.out hbm).mono ?_); rw [HGB.out]; rintro e w5 ⟨rfl, rfl⟩))
        go_ret
        exact ⟨rfl, hb02⟩
    · have HGA : Hid ((ckHave n a == 0) = false) := Lib.hid (by simp [hga])
      clear hga
      go_enter Try.func5, Try.ntmps5
      go_wp2_with fail
      refine HIN.out.mono ?_
      rintro e w1 ⟨A1, c1, L, rfl, hx1, hw1, hb1⟩
      have HW := Lib.hid hw1
      clear hw1
      go_wp2_with fail
      refine (HPC.out _ hb1).mono ?_
      rintro e w2 ⟨rfl, hb2⟩
      rw [HC1.out]
      have hb02 := hb1.trans (hb2.mono hb1.size)
      have ha2 := (ha.below hb02 (Nat.le_refl _)).more hb02.size
      go_wp2_with (first
        | (go_at_call 21; (with_reducible refine (refFits_is n want _ (by omega) hw).mono ?_); rw [HF.out]; rintro e w5 ⟨rfl, rfl⟩)
        | (go_at_call 26; (with_reducible refine (given_any n HA na ca a _ _ ha2 HNA.out ham).mono ?_); rw [HGA.out]; rintro e w5 ⟨rfl, rfl⟩))
      go_ret
      exact ⟨rfl, hb02⟩
  · have HIB := Lib.hid (K.inBad vars want A len cap p w hx hl hm hin hw hc)
    by_cases h1 : ckProg vars p = 0
    · obtain ⟨b1, b2, _⟩ := ckProg_bd h1
      obtain ⟨n, rfl⟩ := Int.eq_ofNat_of_zero_le (show 0 ≤ vars by omega)
      have h2 : ¬ want < 2 ^ n := fun h => hc (ckWant_of h1 h)
      have HF := Lib.hid (decide_eq_false h2)
      have H1 := Lib.hid h1
      obtain ⟨c, hce⟩ : ∃ c, ckWant n p want = c := ⟨_, rfl⟩
      rw [hce] at HIB hc
      have hne : (c != 0) = true := by simp [hc]
      clear hc hl hin hce h1 h2
      go_enter Try.func5, Try.ntmps5
      go_wp2_with fail
      refine HIB.out.mono ?_
      rintro e w1 ⟨A1, c1, rfl, hb1⟩
      go_wp2_with fail
      refine (HPC.out _ hb1).mono ?_
      rintro e w2 ⟨rfl, hb2⟩
      rw [H1.out]
      go_wp2_with (go_at_call 21; (with_reducible refine (refFits_is n want _ (by omega) hw).mono ?_); rw [HF.out]; rintro e w5 ⟨rfl, rfl⟩)
      go_ret
      exact ⟨rfl, hb1.trans (hb2.mono hb1.size)⟩
    · have hck : ckWant vars p want = ckProg vars p := by unfold ckWant; rw [if_neg h1]
      rw [hck] at HIB
      have hne : (ckProg vars p != 0) = true := by simp [h1]
      clear hc hl hin h1 hck
      go_enter Try.func5, Try.ntmps5
      go_wp2_with fail
      refine HIB.out.mono ?_
      rintro e w1 ⟨A1, c1, rfl, hb1⟩
      go_wp2_with fail
      refine (HPC.out _ hb1).mono ?_
      rintro e w2 ⟨rfl, hb2⟩
      go_wp2_with fail
      go_ret
      exact ⟨rfl, hb1.trans (hb2.mono hb1.size)⟩

theorem lawLiveSafe_int (K : LiveIs) (K2 : GoIs) (vars : Int) (A HA HB : Option Addr) (cap ca cb : Nat) (want : Int) (p : List Bk) (a b : List Int) (w : World) (hx : RdP w w.heap.size A p) (ha : RdI w w.heap.size HA a) (hb : RdI w w.heap.size HB b) (hm : p.length ≤ maxLen) (hin : ∀ b ∈ p, InBk b) (hw : (Lit.int .u32 want).wf = true) (ham : a.length ≤ maxLen) (hbm : b.length ≤ maxLen) :
    Calls Try.prog 5 #[.int .i64 vars, .slice A p.length cap, .int .u32 want, .slice HA a.length ca, .slice HB b.length cb] w fun e w' => e = .returned (.bool true) ∧ Below w.heap.size w w' := by
  obtain ⟨n, rfl, hn⟩ := u32_lit hw
  exact lawLiveSafe_any K K2 vars A HA HB cap ca cb n p a b w hx ha hb hm hin hn ham hbm

set_option maxRecDepth 100000 in
theorem lawLiveSafe_lifted (os : Os) (started : os.Started) (H : Type) (enc : TypeId × Value → H) :
    ReturnsInHanded {} Try.checked os 5 .any (Rows.liveSafeSpec.pre6 enc Try.prog Try.f5 Rows.liveSafeRow.domain false) (Rows.liveSafeSpec.post enc Try.prog Try.f5 false true false false) := by
  refine returnsInHanded_of_change_sized (C := Try.checked) Try.own started (by kernel_rfl) Try.func5
    (ChangeSpec.witness6 (enc := enc) (C := Try.checked) false ⟨#[], #[.int .i64 0, .slice none 0 0, .int .u32 0, .slice none 0 0, .slice none 0 0], []⟩ 8 (by kernel_rfl) (by kernel_rfl) (by kernel_rfl) (by kernel_rfl)) ?_
  intro W base args ds gs before hval0 hW hcnd hsz _
  have hval : ∀ (j : Nat) t v, Try.f5.params[j]? = some t → args[j]? = some v → Value.okWide Try.prog W .any base t v := hval0
  have hW' := hW
  obtain ⟨p, q, hA0, hV, rfl, hfz, hnd⟩ := hW
  have hA : DataW.TrodAll enc Try.prog W 0 (fun _ => true) true Try.f5.params.toList args.toList ds p := hA0
  obtain ⟨hgs, _⟩ := trodVars_none hV
  rw [Try.params5] at hA hval
  obtain ⟨v0, vs0, d0, ds0, p0, q0, hargs, rfl, rfl, h0, r0⟩ := trodAll_cons hA
  obtain ⟨v1, vs1, d1, ds1, p1, q1, rfl, rfl, rfl, h1, r1⟩ := trodAll_cons r0
  obtain ⟨v2, vs2, d2, ds2, p2, q2, rfl, rfl, rfl, h2, r2⟩ := trodAll_cons r1
  obtain ⟨v3, vs3, d3, ds3, p3, q3, rfl, rfl, rfl, h3, r3⟩ := trodAll_cons r2
  obtain ⟨v4, vs4, d4, ds4, p4, q4, rfl, rfl, rfl, h4, r4⟩ := trodAll_cons r3
  obtain ⟨rfl, rfl, rfl⟩ := trodAll_nil r4
  have hargs2 : args = #[v0, v1, v2, v3, v4] := Array.toList_inj.1 hargs
  subst hargs2
  obtain ⟨a0, rfl, _, _, w0⟩ := open_int Try.underlying3 (hval 0 3 v0 rfl rfl) h0
  obtain ⟨A1, c1, l1, rfl, lc1, cm1, x1, g1⟩ := open_progA (reach_at hsz (j := 1) (t := 22) (by rw [Try.params5]; rfl) rfl) (hval 1 22 v1 rfl rfl) h1
  have b1 := len_reach Try.underlying22 (hval 1 22 _ rfl rfl) h1 hsz (j := 1) (by rw [Try.params5]; rfl) rfl
  rw [show Try.prog.bytesOf (Try.prog.elem 22) = 48 from by kernel_rfl] at b1
  obtain ⟨a2, rfl, _, _, w2⟩ := open_int Try.underlying23 (hval 2 23 v2 rfl rfl) h2
  obtain ⟨A3, c3, l3, rfl, lc3, cm3, x3, r3⟩ := open_intsA (hval 3 39 v3 rfl rfl) h3
  have b3 := len_reach Try.underlying39 (hval 3 39 _ rfl rfl) h3 hsz (j := 3) (by rw [Try.params5]; rfl) rfl
  rw [show Try.prog.bytesOf (Try.prog.elem 39) = 8 from by kernel_rfl] at b3
  obtain ⟨A4, c4, l4, rfl, lc4, cm4, x4, r4⟩ := open_intsA (hval 4 39 v4 rfl rfl) h4
  have b4 := len_reach Try.underlying39 (hval 4 39 _ rfl rfl) h4 hsz (j := 4) (by rw [Try.params5]; rfl) rfl
  rw [show Try.prog.bytesOf (Try.prog.elem 39) = 8 from by kernel_rfl] at b4
  refine (lawLiveSafe_int liveIs goIs a0 A1 A3 A4 c1 c3 c4 a2 l1 l3 l4 _ x1 x3 x4 (by omega) g1 w2 (by omega) (by omega)).mono fun e W' ⟨he, hb⟩ => ?_
  subst he
  exact ⟨_, rfl, law_post Try.laidOut rfl (by kernel_rfl) Try.underlying4 ⟨rfl, rfl, rfl⟩ (by kernel_rfl) hW' hb⟩

theorem liveSafe_holds : Rows.LiveSafeSaid :=
  OpenClaim.holds_of_wide 5 Try.f5 rfl rfl rfl rfl rfl rfl rfl ⟨rfl, rfl, rfl, rfl, rfl⟩ rfl rfl rfl rfl rfl (by kernel_rfl) Try.func5 (show joinedFacts Try.prog 5 Try.f5 Rows.liveSafeSpec Rows.liveSafeRow = true from (by unfold joinedFacts; (repeat' (with_reducible refine and_both ?_ ?_)) <;> first | (with_reducible exact may_enter) | ((with_reducible refine make_ok ?_); rfl) | ((with_reducible refine lifts_ok ?_); rfl) | kernel_rfl))
    (of_decide_eq_true (by kernel_rfl)) (by unfold Func.isWrapper; rw [if_neg (of_decide_eq_false (by kernel_rfl))]; exact ⟨rfl, rfl⟩)
    (fun os started H enc _ => lawLiveSafe_lifted os started H enc)

end Go.Proofs.Ytfhnhbkdhdocjaa
