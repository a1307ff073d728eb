/-
  codemasonref.Makes, Behind, Goings, StartCheck (L1).
-/
import Derived.Test.YtdckagledddkdaaMPure
import Derived.Test.YtdckagledddkdaaBlockDo
import Derived.Deep.RegionWith
namespace Go.Proofs.Ytdckagledddkdaa
open Go.RowKit
set_option linter.unusedSimpArgs false
set_option linter.unusedVariables false
set_option maxRecDepth 100000

set_option maxHeartbeats 4000000 in
theorem makes_any (n : Nat) (VA : Option Addr) (vc : Nat) (o t a b vv : Int) (v : List Int) (w : World) (hr : RdI w w.heap.size VA v) (hk : KOk n v) (hc : ckStep n n o t a b vv = 0) (hn : n ≤ 65536) :
    Calls Try.prog 27 #[.agg #[.int .i64 o, .int .i64 t, .int .i64 a, .int .i64 b, .int .i64 vv], .slice VA n vc] w fun e w' => e = .returned (.int .i64 (mkK ⟨o, t, a, b, vv⟩ v)) ∧ Below w.heap.size w w' := by
  obtain ⟨_, hcase⟩ := ckStep_cases hc
  have hl := hk.1
  have HK := Lib.hid hk
  clear hc hk
  rcases hcase with ⟨rfl, _⟩ | ⟨rfl, h2, h3⟩ | ⟨h1, h2, h3, h4, h5, h6⟩
  · rw [mkK_num rfl]
    clear hl
    go_enter Try.func27, Try.ntmps27
    go_wp2
    go_ret
    exact ⟨rfl, by go_grown⟩
  · obtain ⟨vn, rfl⟩ := Int.eq_ofNat_of_zero_le h2
    obtain ⟨ad, x, rfl, hbl, hx, hcx⟩ := hr.at_ (k := vn) (by omega)
    have hm : mkK ⟨2, t, a, b, (vn : Int)⟩ v = x := by rw [mkK_var rfl]; exact getD_at hx
    rw [hm]
    have hvn : vn < n := by omega
    clear hl hx hm
    go_enter Try.func27, Try.ntmps27
    go_wp2
    go_ret
    exact ⟨rfl, by go_grown⟩
  · obtain ⟨an, rfl⟩ := Int.eq_ofNat_of_zero_le h3
    obtain ⟨bn, rfl⟩ := Int.eq_ofNat_of_zero_le h5
    obtain ⟨ad, x, rfl, hbl, hx, hcx⟩ := hr.at_ (k := an) (by omega)
    obtain ⟨ad2, y, e2, hbl2, hy, hcy⟩ := hr.at_ (k := bn) (by omega)
    injection e2 with e2
    subst e2
    have hxb := HK.out.2 _ _ hx
    have hyb := HK.out.2 _ _ hy
    have hm : mkK ⟨o, t, (an : Int), (bn : Int), vv⟩ v = opK o x y := by
      rw [mkK_op h1]
      show opK o (v.getD ((an : Int)).toNat 0) (v.getD ((bn : Int)).toNat 0) = _
      rw [Int.toNat_natCast, Int.toNat_natCast, getD_at hx, getD_at hy]
    rw [hm]
    have han : an < n := by omega
    have hbn : bn < n := by omega
    have o1 : (o == 1) = false := by simp; omega
    have o2 : (o == 2) = false := by simp; omega
    clear hl hx hy hm
    by_cases hz : o = 5 ∧ (x = 0 ∨ y = 0)
    · have hop : opK o x y = 0 := by unfold opK; rw [if_pos hz]
      rw [hop]
      obtain ⟨rfl, hz⟩ := hz
      clear hop
      have hzz : (x == 0) = true ∨ ((x == 0) = false ∧ (y == 0) = true) := by
        by_cases h : x = 0
        · exact .inl (by simp [h])
        · exact .inr ⟨by simp [h], by simp; omega⟩
      clear hz
      rcases hzz with f1 | ⟨f1, f2⟩
      all_goals
        go_enter Try.func27, Try.ntmps27
        go_wp2
        go_ret
        exact ⟨rfl, by go_grown⟩
    · have hg : (o == 5) = false ∨ ((o == 5) = true ∧ (x == 0) = false ∧ (y == 0) = false) := by
        by_cases h : o = 5
        · exact .inr ⟨by simp [h], by simp; omega, by simp; omega⟩
        · exact .inl (by simp [h])
      by_cases hv : x = -1 ∨ y = -1
      · have hop : opK o x y = -1 := by unfold opK; rw [if_neg hz, if_pos hv]
        rw [hop]
        have hvv : (x == -1) = true ∨ ((x == -1) = false ∧ (y == -1) = true) := by
          by_cases h : x = -1
          · exact .inl (by simp [h])
          · exact .inr ⟨by simp [h], by simp; omega⟩
        clear hop hz hv
        rcases hg with g1 | ⟨g1, g2, g3⟩ <;> rcases hvv with f1 | ⟨f1, f2⟩
        all_goals
          go_enter Try.func27, Try.ntmps27
          go_wp2
          go_ret
          exact ⟨rfl, by go_grown⟩
      · have hop : opK o x y = opv o x y := by unfold opK; rw [if_neg hz, if_neg hv]
        rw [hop]
        have f1 : (x == -1) = false := by simp; omega
        have f2 : (y == -1) = false := by simp; omega
        have b1 : 0 ≤ x := by omega
        have b2 : 0 ≤ y := by omega
        clear hop hz hv
        rcases hg with g1 | ⟨g1, g2, g3⟩
        all_goals
          go_enter Try.func27, Try.ntmps27
          go_wp2_with (go_at_call 36; (with_reducible refine (refOp_any o x y _ (by omega) (by omega) (by omega) (by omega) (by omega) (by omega)).mono ?_); rintro e w5 ⟨rfl, rfl⟩)
          go_ret
          exact ⟨rfl, by go_grown⟩

/-- on the way: all that is left gives what the whole gives -/
def BhAt (n : Nat) (code : List St) (v : List Int) (k : Nat) (r : List Int) : Prop := KOk n r ∧ bhK code v = bhK (code.drop k) r

set_option maxHeartbeats 4000000 in
theorem behind_any (n : Nat) (A VA : Option Addr) (cl cap vcap : Nat) (code : List St) (v : List Int) (w : World) (hx : RdS w w.heap.size A code) (hv : RdI w w.heap.size VA v) (hl : code.length = cl) (hm : cl ≤ 65536) (hc : ckStepsF n n code = 0) (hok : KOk n v) (hn : 1 ≤ n) (hn6 : n ≤ 6) :
    Calls Try.prog 24 #[.slice A cl cap, .slice VA n vcap] w fun e w' => ∃ g c', e = .returned (.slice (some ⟨g, 0, none⟩) n c') ∧ w'.ownsRow w.heap.size 3 1 (.slice (some ⟨g, 0, none⟩) n c') n (iv (bhK code v)) ∧ Below w.heap.size w w' := by
  have HL := Lib.hid hl
  have HC := Lib.hid hc
  have HD0 : Hid (BhAt n code v 0 v) := Lib.hid ⟨hok, rfl⟩
  have HL1 : Hid ((iv v).length = n * 1) := Lib.hid (by simp [iv, hok.1])
  have HN1 : Hid (VA = none → n = 0) := Lib.hid fun h => by have := hv.nil h; rw [hok.1] at this; exact this
  have HNW : Hid (∀ Z : World, Below w.heap.size w Z → ∀ ad, VA = some ad → ∀ j u, (iv v)[j]? = some u → Z.cell? (ad.add j) = some u) := Lib.hid fun Z hZ => (hv.below hZ (Nat.le_refl _)).news
  have ha_ : 0 + n ≤ maxLen := by unfold maxLen; omega
  have hb_ : (0 + n) * 8 ≤ 140737488355328 := by omega
  clear hl hc hok hv
  go_enter Try.func24, Try.ntmps24
  go_wp2_with (at_builtin; refine wpList_app rfl (.tmp 7) (.tmp 8) 23 rfl w.heap.size 3 1 8 int_app [] rfl (own_empty_at _ _ _ _ (by simp) (by simp)) (iv v) rfl HL1.out HN1.out (HNW.out _ (by go_grown)) (iv_one _) ha_ hb_ (by simp) ?_; intro A1 c1 w1 hown1 hg1 hb1; rw [Nat.zero_add, List.nil_append] at hown1)
  obtain ⟨g, rfl, hg0, hg1'⟩ := own_form hown1 (by omega)
  have hbw : Below w.heap.size w w1 := ((by go_grown : Below w.heap.size w (w.alloc (.cells #[] 3)))).trans hb1
  clear hg1 hb1
  go_loopw [12] (fun i wr => ∃ (k : Nat) (r : List Int), k ≤ cl ∧ i = .int .i64 k ∧ BhAt n code v k r ∧ wr.ownsRow w.heap.size 3 1 (.slice (some ⟨g, 0, none⟩) n c1) n (iv r) ∧ Below w.heap.size w wr) (fun i _ => cl - (intOf i).toNat)
  case atStart => exact ⟨0, v, Nat.zero_le _, rfl, HD0.out, hown1, hbw⟩
  case round =>
    obtain ⟨k, r, hk, rfl, hr, hown, hb⟩ := hrel
    have HR := Lib.hid hr
    have HOW := Lib.hid hown
    have hrl := hr.1.1
    have HRL := Lib.hid hrl
    have hsz := hb.size
    have hgs := (hown.lt g rfl).2
    clear hr hrl
    by_cases hlt : k < cl
    · obtain ⟨ad, o, t, a, b, vv, rfl, hbl, hd, hc0, hc1, hc2, hc3, hc4⟩ := (RdS.below hx hb (Nat.le_refl _)).at_ (k := k) (by rw [HL.out]; exact hlt)
      have hcks := ckStepsF_at HC.out hd
      simp only [] at hcks
      have hxb := mkK_bd (s := ⟨o, t, a, b, vv⟩) hcks HR.out.1
      have hmk : ∀ Z : World, Below wr.heap.size wr Z → Calls Try.prog 27 #[.agg #[.int .i64 o, .int .i64 t, .int .i64 a, .int .i64 b, .int .i64 vv], .slice (some ⟨g, 0, none⟩) n c1] Z fun e w' => e = .returned (.int .i64 (mkK ⟨o, t, a, b, vv⟩ r)) ∧ Below Z.heap.size Z w' := fun Z hZ =>
        makes_any n _ c1 o t a b vv r Z (((own_rdI HOW.out HRL.out).below hZ (Nat.le_refl _)).more hZ.size) HR.out.1 hcks (by omega)
      have hstep : BhAt n code v (k + 1) (r.set t.toNat (mkK ⟨o, t, a, b, vv⟩ r)) := ⟨HR.out.1.set hxb, by rw [HR.out.2, bhK_drop hd]⟩
      obtain ⟨⟨ht0, ht1⟩, hcase⟩ := ckStep_cases hcks
      obtain ⟨x, hxe⟩ : ∃ x, mkK ⟨o, t, a, b, vv⟩ r = x := ⟨_, rfl⟩
      rw [hxe] at hmk hxb hstep
      have HMK := Lib.hid hmk
      have HST := Lib.hid hstep
      clear hd hmk hcks hcase hxb hxe hstep
      obtain ⟨tn, rfl⟩ := Int.eq_ofNat_of_zero_le ht0
      rw [Int.toNat_natCast] at HST
      have htn : tn < n := by omega
      have htl : tn < r.length := by rw [HRL.out]; exact htn
      have HCT := Lib.hid (iv_at (List.getElem?_eq_getElem htl))
      generalize r[tn] = xt at *
      clear hown htl
      go_wp2
      go_region_with (go_at_call 27; (with_reducible refine (HMK.out _ (by go_grown)).mono ?_); rintro e w5 ⟨rfl, hb5⟩; have hbr5 : Below wr.heap.size wr w5 := Below.trans (by go_grown) (hb5.mono (by go_size)); have q1 : w5.cell? ⟨wr.heap.size, 1, none⟩ = some (.int .i64 tn) := (hb5.cell (p := ⟨wr.heap.size, 1, none⟩) (by go_size)).trans (by simp); have hO5 := own_below HOW.out hbr5; have hct5 := (hO5.cellAt tn (by omega)).trans HCT.out; have hfz5 := hO5.frozenAt tn)
      all_goals
        have hst5 := (hO5.stored tn (.int .i64 x)).1
        rw [iv_set] at hst5
        have hb6 : Below w.heap.size w w5 := hb.trans (hbr5.mono hsz)
        go_wp2
        go_round
        case rel => exact ⟨k + 1, r.set tn x, by omega, by go_num, HST.out, hst5, hb6.setCell (show w.heap.size ≤ (⟨g, tn, none⟩ : Addr).block from hg0) _⟩
        case measure => (simp [intOf]; omega)
    · have hkl : cl = k := by omega
      have hq : bhK code v = r := by rw [HR.out.2, ← hkl, List.drop_of_length_le (by rw [HL.out]; exact Nat.le_refl _)]; rfl
      have HQ := Lib.hid hq
      clear hq hkl
      go_wp2
      go_ret
      exact ⟨g, c1, rfl, by rw [HQ.out]; exact hown, hb⟩

end Go.Proofs.Ytdckagledddkdaa
