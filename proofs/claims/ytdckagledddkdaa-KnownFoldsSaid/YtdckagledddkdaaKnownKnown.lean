/-
  codemasonref.Known (L1): the least solution.
-/
import Derived.Test.YtdckagledddkdaaKnownRows
import Derived.Test.YtdckagledddkdaaKnownGo
import Derived.Test.YtdckagledddkdaaLists
import Derived.Test.YtdckagledddkdaaTurned
import Derived.Lib.SliceRun
namespace Go.Proofs.Ytdckagledddkdaa
open Go.RowKit
set_option linter.unusedSimpArgs false
set_option linter.unusedVariables false
set_option maxRecDepth 100000

theorem Free.set {cs : List Value} {b j h n c : Nat} (hf : Free cs b) (hne : h ≠ b) : Free (cs.set j (.slice (some ⟨h, 0, none⟩) n c)) b := fun i k n' c' hc e => by
  by_cases e1 : j = i
  · subst e1
    have hjl := (List.getElem?_eq_some_iff.1 hc).1
    rw [List.length_set] at hjl
    rw [List.getElem?_set_self hjl] at hc
    injection hc with hc
    injection hc with hc _ _
    injection hc with hc
    injection hc with hc _ _
    exact hne (hc.trans e)
  · rw [List.getElem?_set_ne e1] at hc
    exact hf i k n' c' hc e

/-- what Known answers -/
def KnownTo (n : Nat) (p : List Bk) (hv : List Int) (len : Nat) (e : Ending) (w' : World) : Prop := ∃ g, e = .returned (.slice (some ⟨g, 0, none⟩) len len) ∧ ∃ X cs, KG w' g X cs ∧ Least n p hv X

set_option maxHeartbeats 32000000 in
theorem refKnown_any (n : Nat) (A VA : Option Addr) (len cap vcap : Nat) (p : List Bk) (hv : List Int) (w : World) (hx : RdP w w.heap.size A p) (hh : RdI w w.heap.size VA hv) (hl : p.length = len) (hc : ckProg n p = 0) (hok : KOk n hv) :
    Calls Try.prog 11 #[.slice A len cap, .slice VA n vcap] w fun e w' => KnownTo n p hv len e w' ∧ Below w.heap.size w w' := by
  obtain ⟨b1, b2, b3, b4, b5, _⟩ := ckProg_bd hc
  have HC := Lib.hid hc
  have HL := Lib.hid hl
  have HOK := Lib.hid hok
  rw [hl] at b3 b4
  have hn1 : 1 ≤ n := by omega
  have hn6 : n ≤ 6 := by omega
  have hmk := make_nils (P := Try.prog) 24 23 Try.underlying24 (by kernel_rfl) len (by omega)
  have qT : ∀ (w : World) (a : Option Addr) (n c n' c' : Nat), (binOp .eql 23 (.slice a n c) (.slice none n' c')).run Try.prog w = .ok (.bool a.isNone) w := fun w a n c n' c' => Lib.run_eql_slice_nil w _ _ a n c n' c' Try.underlying23
  have HL1 : Hid ((iv hv).length = n * 1) := Lib.hid (by simp [iv, hok.1])
  have HN1 : Hid (VA = none → n = 0) := Lib.hid fun h => by have := hh.nil h; rw [hok.1] at this; exact this
  have HNW : Hid (∀ Z : World, Below w.heap.size w Z → ∀ ad, VA = some ad → ∀ j u, (iv hv)[j]? = some u → Z.cell? (ad.add j) = some u) := Lib.hid fun Z hZ => (hh.below hZ (Nat.le_refl _)).news
  have ha_ : 0 + n ≤ maxLen := by unfold maxLen; omega
  have hb_ : (0 + n) * 8 ≤ 140737488355328 := by omega
  have HK0 := Lib.hid (Kl.start n p hv)
  have HY0 : Hid (∀ X, NextTo n p hv X 0 0 ((List.replicate len []).set 0 hv)) := Lib.hid fun X => by rw [← hl]; exact NextTo.start (by omega) hok
  have HREP : Hid (List.replicate p.length ([] : List Int) = List.replicate len []) := Lib.hid (by rw [hl])
  clear hl hc hok hh b1 b2
  go_enter Try.func11, Try.ntmps11
  go_wp2
  have hkg0 : KG (w.alloc (.cells (nils len).toArray 23)) w.heap.size (List.replicate len []) (nils len) := (KN.start (w := w) (n := n) (m := len)).kg
  have hbw0 : Below w.heap.size w (w.alloc (.cells (nils len).toArray 23)) := by go_grown
  go_loopw [5] (fun s wr => ∃ (g : Nat) (X : List (List Int)) (cs : List Value), s = .slice (some ⟨g, 0, none⟩) len len ∧ KG wr g X cs ∧ Kl n p hv X ∧ Below w.heap.size w wr) (fun s wr => cntK n wr s)
  case atStart => exact ⟨_, _, _, rfl, hkg0, by rw [← HREP.out]; exact HK0.out, hbw0⟩
  case round =>
    obtain ⟨g, X, cs, rfl, hkg, hkl, hb⟩ := hrel
    have hXl : X.length = len := by rw [hkl.len, HL.out]
    have HXL := Lib.hid hXl
    have HKL := Lib.hid hkl
    have HKG := Lib.hid hkg
    have hsz := hb.size
    have hgl := hkg.own.lt
    clear hXl hkl hkg hkg0 hbw0
    obtain ⟨wo, rfl⟩ : ∃ wo : World, wo = wr := ⟨_, rfl⟩
    have hkn0 := KN.start (w := wo) (n := n) (m := len)
    have HKN0 := Lib.hid hkn0
    have hG1 : (wo.alloc (.cells (nils len).toArray 23)).heap.size = wo.heap.size + 1 := by simp
    have HG1 := Lib.hid hG1
    clear hkn0 hG1
    go_wp2_with (at_builtin; refine wpList_app rfl (.tmp 19) (.tmp 20) 23 rfl (wo.heap.size + 1) 3 1 8 int_app [] rfl (own_empty_at _ _ _ _ (by simp) (by simp)) (iv hv) rfl HL1.out HN1.out (HNW.out _ (by go_grown)) (iv_one _) ha_ hb_ (by simp) ?_; intro A1 c1 w1 hown1 hg1 hb1; rw [Nat.zero_add, List.nil_append] at hown1; have hbn1 : Below (wo.alloc (.cells (nils len).toArray 23)).heap.size (wo.alloc (.cells (nils len).toArray 23)) w1 := ((by go_grown : Below (wo.alloc (.cells (nils len).toArray 23)).heap.size (wo.alloc (.cells (nils len).toArray 23)) ((wo.alloc (.cells (nils len).toArray 23)).alloc (.cells #[] 3)))).trans (by rw [HG1.out]; exact hb1); have hq1 := HKN0.out.quiet hbn1; have hc1 := hq1.own.cell (j := 0) (v := .slice none 0 0) (by rw [List.getElem?_replicate, if_pos (by omega)]); have hf1 := hq1.own.frozen 0)
    obtain ⟨h1, rfl, hh1, _⟩ := own_form hown1 (by omega)
    have hkn1 := KN.put (j := 0) HKN0.out hbn1 HOK.out.1 (by omega) hown1 (by simp; omega)
    have hbo1 : Below wo.heap.size wo (w1.setCell ⟨wo.heap.size, 0, none⟩ (.slice (some ⟨h1, 0, none⟩) n c1)) := ((by go_grown : Below wo.heap.size wo (wo.alloc (.cells (nils len).toArray 23))).trans (hbn1.mono (by rw [HG1.out]; omega))).setCell (show wo.heap.size ≤ (⟨wo.heap.size, 0, none⟩ : Addr).block from Nat.le_refl _) _
    have HKN1 := Lib.hid hkn1
    have HBO1 := Lib.hid hbo1
    obtain ⟨w2, hw2⟩ : ∃ w2, w2 = w1.setCell ⟨wo.heap.size, 0, none⟩ (.slice (some ⟨h1, 0, none⟩) n c1) := ⟨_, rfl⟩
    rw [← hw2] at HKN1 HBO1 ⊢
    clear hw2 hkn1 hbo1 hq1 hc1 hf1 hbn1 hown1 hg1 hb1 hh1 HKN0
    go_loopw [7] (fun z wr => ∃ (i : Nat) (Y : List (List Int)) (ds : List Value), i ≤ len ∧ z = .int .i64 i ∧ NextTo n p hv X i 0 Y ∧ KN wr wo.heap.size n Y ds ∧ Below wo.heap.size wo wr) (fun z _ => len - (intOf z).toNat)
    case atStart => exact ⟨0, _, _, Nat.zero_le _, rfl, HY0.out X, HKN1.out, HBO1.out⟩
    case round =>
      obtain ⟨i, Y, ds, hi, rfl, hnt, hkn, hbr⟩ := hrel
      have HNT := Lib.hid hnt
      have HKN := Lib.hid hkn
      have hszr := hbr.size
      have hGl := hkn.own.lt
      clear hnt hkn
      by_cases hit : i < len
      · have hXi : i < X.length := by rw [HXL.out]; exact hit
        obtain ⟨a, ha⟩ : ∃ a, X[i]? = some a := ⟨_, List.getElem?_eq_getElem hXi⟩
        have hkgr := HKG.out.below hbr
        have HA := Lib.hid ha
        rcases hkgr.rows i a ha with ⟨rfl, hcs⟩ | ⟨hane, ha0, ca, hcs, hra⟩
        · have q0 := hkgr.own.cell hcs
          have HSK := Lib.hid (HNT.out.skip HA.out)
          clear ha hcs hkgr
          go_wp2
          go_round
          case rel => exact ⟨i + 1, Y, ds, by omega, by go_num, HSK.out, HKN.out, hbr⟩
          case measure => (simp [intOf]; omega)
        · have hka := (HKL.out.ok i a ha).resolve_left hane
          have hal := hka.1
          have q0 := hkgr.own.cell hcs
          rw [hal] at q0
          have HKA := Lib.hid hka
          have HANE := Lib.hid hane
          have hbw := hb.trans (hbr.mono hsz)
          obtain ⟨ad, bk, Ac, cc, rfl, hbl, hd, hrow, e0, e1, e2, e3⟩ := (hx.below hbw (Nat.le_refl _)).at_ (k := i) (by rw [HL.out]; exact hit)
          have hbk := ckProg_at HC.out hd
          have hcm := manyS_le hd
          have HD := Lib.hid hd
          have HBK := Lib.hid hbk
          obtain ⟨code, te, th, el⟩ := bk
          simp only [] at e0 e1 e2 e3 hrow hcm
          have hcode := hbk.code
          simp only [] at hcode
          obtain ⟨cl, hcl⟩ : ∃ cl, code.length = cl := ⟨_, rfl⟩
          have HCL := Lib.hid hcl
          rw [hcl] at e0 hcm
          have HVB := Lib.hid (bhK_ok hcode hka)
          have HBH : Hid (∀ Z : World, Below wr.heap.size wr Z → Calls Try.prog 24 #[.slice Ac cl cc, .slice (some ⟨ha0, 0, none⟩) n ca] Z fun e w' => ∃ g8 c8, e = .returned (.slice (some ⟨g8, 0, none⟩) n c8) ∧ RdI w' w'.heap.size (some ⟨g8, 0, none⟩) (bhK code a) ∧ Z.heap.size ≤ g8 ∧ g8 < w'.heap.size ∧ Below Z.heap.size Z w') := Lib.hid fun Z hZ =>
            (behind_any n Ac _ cl cc ca code a Z (((hrow.more (Nat.le_trans hsz hszr)).below hZ (Nat.le_refl _)).more hZ.size) ((hra.below hZ (Nat.le_refl _)).more hZ.size) hcl (by omega) hcode hka hn1 hn6).mono fun e w' ⟨g8, c8, h1, h2, h3⟩ =>
              ⟨g8, c8, h1, own_rdI h2 (by rw [bhK_len, hal]), (h2.lt g8 rfl).1, (h2.lt g8 rfl).2, h3⟩
          have hblr : (ad.add (i * 4)).block < wr.heap.size := by omega
          have hgr : g < wr.heap.size := by omega
          have hKGR := Lib.hid hkgr
          obtain ⟨vb, hvb⟩ : ∃ vb, bhK code a = vb := ⟨_, rfl⟩
          rw [hvb] at HVB HBH
          have HVE := Lib.hid hvb
          clear ha hcs hkgr hka hane hra hd hbk hrow hcl hcode hvb
          go_wp2
          go_region_with (go_at_call 24; (with_reducible refine (HBH.out _ (by go_grown)).mono ?_); rintro e w5 ⟨g8, c8, rfl, hr8, hg8, hg8l, hb5⟩)
          all_goals
            have hbr5 : Below wr.heap.size wr w5 := ⟨hb5.os, hb5.tape, hb5.output, hb5.size, hb5.block⟩
            have hg8r : wr.heap.size ≤ g8 := hg8
            have hs5 := hbr5.size
            have r0 := (hbr5.cell hblr).trans e0
            have r1 := (hbr5.cell (p := ⟨(ad.add (i * 4)).block, (ad.add (i * 4)).off + 1, none⟩) hblr).trans e1
            have r2 := (hbr5.cell (p := ⟨(ad.add (i * 4)).block, (ad.add (i * 4)).off + 2, none⟩) hblr).trans e2
            have r3 := (hbr5.cell (p := ⟨(ad.add (i * 4)).block, (ad.add (i * 4)).off + 3, none⟩) hblr).trans e3
            have HGO := Lib.hid (goings_any n p.length Ac (some ⟨g8, 0, none⟩) cl cc c8 code te th el vb w5 hr8 HVB.out HBK.out)
            obtain ⟨js, hjs⟩ : ∃ js, goK ⟨code, te, th, el⟩ vb = js := ⟨_, rfl⟩
            have HJIN : Hid (∀ j ∈ js, 0 ≤ j ∧ j < len) := Lib.hid fun j hj => by
              have := goK_in HBK.out (v := vb) (by rw [hjs]; exact hj)
              rw [HL.out] at this
              exact this
            have HJE : Hid (goK ⟨code, te, th, el⟩ (bhK code a) = js) := Lib.hid (by rw [HVE.out]; exact hjs)
            have hjl : js.length ≤ 2 := by rw [← hjs]; exact goK_len _ _
            rw [hjs] at HGO
            have HR8 := Lib.hid hr8
            clear hjs hr8 hg8
            go_wp2_with (go_at_call 25; (with_reducible refine HGO.out.mono ?_); rintro e w6 ⟨Aj, ⟨cj, rfl⟩, hrj, hjn, hb6⟩)
            have hbr6 : Below wr.heap.size wr w6 := hbr5.trans (hb6.mono hs5)
            have HK6 := Lib.hid (HKN.out.quiet hbr6)
            have hr86 := (HR8.out.below hb6 (Nat.le_refl _)).more hb6.size
            have hb06 : Below wo.heap.size wo w6 := hbr.trans (hbr6.mono hszr)
            have HF8 := Lib.hid (HKN.out.free hg8r)
            have HFJ : Hid (∀ x, Aj = some x → Free ds x.block) := Lib.hid fun x hx => HKN.out.free (by have := hjn x hx; omega)
            have HGJ : Hid (∀ x, Aj = some x → x.block ≠ wo.heap.size ∧ x.block ≠ g8) := Lib.hid fun x hx => by have := hjn x hx; omega
            have hg8G : g8 ≠ wo.heap.size := by omega
            obtain ⟨wi, rfl⟩ : ∃ wi : World, wi = wr := ⟨_, rfl⟩
            go_loopw [51] (fun z wr => ∃ (m : Nat) (Y : List (List Int)) (ds : List Value), m ≤ js.length ∧ z = .int .i64 m ∧ NextTo n p hv X i m Y ∧ KN wr wo.heap.size n Y ds ∧ RdI wr wr.heap.size (some ⟨g8, 0, none⟩) vb ∧ Free ds g8 ∧ RdI wr wr.heap.size Aj js ∧ (∀ x, Aj = some x → Free ds x.block) ∧ Below wo.heap.size wo wr) (fun z _ => js.length - (intOf z).toNat)
            case atStart => exact ⟨0, Y, ds, Nat.zero_le _, rfl, HNT.out, HK6.out, hr86, HF8.out, hrj, HFJ.out, hb06⟩
            case round =>
              obtain ⟨m, Y3, ds3, hm, rfl, hnt3, hkn3, hr83, hf83, hrj3, hfj3, hbr3⟩ := hrel
              have HNT3 := Lib.hid hnt3
              have HKN3 := Lib.hid hkn3
              have hsz3 := hbr3.size
              have hGl3 := hkn3.own.lt
              clear hnt3 hkn3
              by_cases hmt : m < js.length
              · obtain ⟨aj, z, rfl, hblj, hzj, hcz⟩ := hrj3.at_ (k := m) hmt
                obtain ⟨hz0, hz1⟩ := HJIN.out z (List.mem_of_getElem? hzj)
                obtain ⟨jn, rfl⟩ := Int.eq_ofNat_of_zero_le hz0
                have hjn1 : jn < len := by omega
                have hYj : jn < Y3.length := by rw [HNT3.out.len, HL.out]; exact hjn1
                obtain ⟨r, hr⟩ : ∃ r, Y3[jn]? = some r := ⟨_, List.getElem?_eq_getElem hYj⟩
                have HEDGE : Hid (NextTo n p hv X i (m + 1) (Y3.set jn (joinR (Y3.getD jn []) vb))) := Lib.hid (by
                  have := HNT3.out.edge (j0 := jn) HC.out HD.out HA.out HANE.out HKA.out (by show (goK ⟨code, te, th, el⟩ (bhK code a))[m]? = _; rw [HJE.out]; exact hzj)
                  rw [show bhK (⟨code, te, th, el⟩ : Bk).code a = vb from HVE.out] at this
                  exact this)
                have HGD : Hid (Y3.getD jn [] = r) := Lib.hid (getD_at hr)
                have HRJ := Lib.hid hr
                have hvbl : vb.length = n := HVB.out.1
                have HVL := Lib.hid hvbl
                have hrr := HKN3.out.rows jn r hr
                have hRJN := Lib.hid (HGJ.out aj rfl)
                have hYj := hYj
                clear hr hzj hz0 hz1 hvbl
                rcases hrr with ⟨rfl, hcs⟩ | ⟨hrne, hrl, h3, c3, hcs, hor⟩
                focus
                  have q3 := HKN3.out.own.cell hcs
                  have HL2 : Hid ((iv vb).length = n * 1) := Lib.hid (by simp [iv, HVL.out])
                  have HNV : Hid (∀ Z : World, Below wr.heap.size wr Z → ∀ x, some (⟨g8, 0, none⟩ : Addr) = some x → ∀ j u, (iv vb)[j]? = some u → Z.cell? (x.add j) = some u) := Lib.hid fun Z hZ => (hr83.below hZ (Nat.le_refl _)).news
                  go_wp2_with (at_builtin; refine wpList_app rfl (.tmp 62) (.tmp 63) 23 rfl wr.heap.size 3 1 8 int_app [] rfl (own_empty_at _ _ _ _ (by simp) (by simp)) (iv vb) rfl HL2.out (fun h => by cases h) (HNV.out _ (by go_grown)) (iv_one _) ha_ hb_ (by simp) ?_; intro A9 c9 w9 hown9 hg9 hb9; rw [Nat.zero_add, List.nil_append] at hown9; have hb39 : Below wr.heap.size wr w9 := ((by go_grown : Below wr.heap.size wr (wr.alloc (.cells #[] 3)))).trans hb9; have hq9 := HKN3.out.quiet hb39; have hc9 := hq9.own.cell hcs; have hf9 := hq9.own.frozen jn)
                  obtain ⟨h4, rfl, hh4, _⟩ := own_form hown9 (by omega)
                  have hput := KN.put (j := jn) HKN3.out hb39 HVL.out (by omega) (own_mono hown9 (show wo.heap.size + 1 ≤ wr.heap.size from hGl3)) hh4
                  have hbp : Below wo.heap.size wo (w9.setCell ⟨wo.heap.size, jn, none⟩ (.slice (some ⟨h4, 0, none⟩) n c9)) := (hbr3.trans (hb39.mono hsz3)).setCell (show wo.heap.size ≤ (⟨wo.heap.size, jn, none⟩ : Addr).block from Nat.le_refl _) _
                  have hr84 : RdI (w9.setCell ⟨wo.heap.size, jn, none⟩ (.slice (some ⟨h4, 0, none⟩) n c9)) (w9.setCell ⟨wo.heap.size, jn, none⟩ (.slice (some ⟨h4, 0, none⟩) n c9)).heap.size (some ⟨g8, 0, none⟩) vb := RdI.other ((hr83.below hb39 (Nat.le_refl _)).more hb39.size) (fun x hx => by injection hx with hx; subst hx; exact hg8G)
                  have hrj4 : RdI (w9.setCell ⟨wo.heap.size, jn, none⟩ (.slice (some ⟨h4, 0, none⟩) n c9)) (w9.setCell ⟨wo.heap.size, jn, none⟩ (.slice (some ⟨h4, 0, none⟩) n c9)).heap.size (some aj) js := RdI.other ((hrj3.below hb39 (Nat.le_refl _)).more hb39.size) (fun x hx => by injection hx with hx; subst hx; exact hRJN.out.1)
                  have hh8 : h4 ≠ g8 := by
                    obtain ⟨x8, hx8, hxb, _⟩ := hr83 (by rw [HVL.out]; omega)
                    injection hx8 with hx8
                    subst hx8
                    simp only [] at hxb
                    omega
                  have hhj : h4 ≠ aj.block := by rw [addr_add_block] at hblj; omega
                  have hf84 : Free (ds3.set jn (.slice (some ⟨h4, 0, none⟩) n c9)) g8 := Free.set hf83 hh8
                  have hfj4 : Free (ds3.set jn (.slice (some ⟨h4, 0, none⟩) n c9)) aj.block := Free.set (hfj3 aj rfl) hhj
                  have hY1 : (Y3.set jn vb)[jn]? = some vb := List.getElem?_set_self hYj
                  have hD1 : (ds3.set jn (.slice (some ⟨h4, 0, none⟩) n c9))[jn]? = some (.slice (some ⟨h4, 0, none⟩) n c9) := List.getElem?_set_self (by rw [HKN3.out.len]; exact hYj)
                  have hend : ∀ q, q = joinL vb vb → (Y3.set jn vb).set jn q = Y3.set jn (joinR (Y3.getD jn []) vb) := fun q hq => by
                    rw [HGD.out, hq, joinL_self, List.set_set]
                    rfl
                  obtain ⟨wp, hwp⟩ : ∃ wp, wp = w9.setCell ⟨wo.heap.size, jn, none⟩ (.slice (some ⟨h4, 0, none⟩) n c9) := ⟨_, rfl⟩
                  rw [← hwp] at hput hbp hr84 hrj4 ⊢
                  obtain ⟨Y1, hYe⟩ : ∃ Y1, Y3.set jn vb = Y1 := ⟨_, rfl⟩
                  obtain ⟨ds1, hde⟩ : ∃ ds1, ds3.set jn (Value.slice (some ⟨h4, 0, none⟩) n c9) = ds1 := ⟨_, rfl⟩
                  rw [hYe] at hput hY1 hend
                  rw [hde] at hput hf84 hfj4 hD1
                  obtain ⟨r1, hr1⟩ : ∃ r1, r1 = vb := ⟨_, rfl⟩
                  have HY1 : Hid (Y1[jn]? = some r1) := Lib.hid (by rw [hr1]; exact hY1)
                  have HEND : Hid (∀ q, q = joinL r1 vb → Y1.set jn q = Y3.set jn (joinR (Y3.getD jn []) vb)) := Lib.hid (by rw [hr1]; exact hend)
                  have HRL : Hid (r1.length = n) := Lib.hid (by rw [hr1]; exact HVL.out)
                  have HDS := Lib.hid hD1
                  have HPUT := Lib.hid hput
                  clear hr1 hYe hde hwp hY1 hD1 hend hput hown9 hg9 hb9 hb39 hq9 hc9 hf9 q3 hcs hh4
                rotate_left
                focus
                  have hY1 := HRJ.out
                  have q3 := HKN3.out.own.cell hcs
                  obtain ⟨wp, rfl⟩ : ∃ wp : World, wp = wr := ⟨_, rfl⟩
                  have hend : ∀ q, q = joinL r vb → Y3.set jn q = Y3.set jn (joinR (Y3.getD jn []) vb) := fun q hq => by
                    rw [HGD.out, hq]
                    unfold joinR
                    rw [if_neg hrne]
                  obtain ⟨Y1, hYe⟩ : ∃ Y1, Y1 = Y3 := ⟨_, rfl⟩
                  obtain ⟨ds1, hde⟩ : ∃ ds1, ds1 = ds3 := ⟨_, rfl⟩
                  obtain ⟨r1, hr1⟩ : ∃ r1, r1 = r := ⟨_, rfl⟩
                  obtain ⟨h4, h4e⟩ : ∃ h4, h4 = h3 := ⟨_, rfl⟩
                  obtain ⟨c9, c9e⟩ : ∃ c9, c9 = c3 := ⟨_, rfl⟩
                  have HY1 : Hid (Y1[jn]? = some r1) := Lib.hid (by rw [hYe, hr1]; exact hY1)
                  have HEND : Hid (∀ q, q = joinL r1 vb → Y1.set jn q = Y3.set jn (joinR (Y3.getD jn []) vb)) := Lib.hid (by rw [hYe, hr1]; exact hend)
                  have HRL : Hid (r1.length = n) := Lib.hid (by rw [hr1]; exact hrl)
                  have HDS : Hid (ds1[jn]? = some (.slice (some ⟨h4, 0, none⟩) n c9)) := Lib.hid (by rw [hde, h4e, c9e]; exact hcs)
                  have HPUT : Hid (KN wp wo.heap.size n Y1 ds1) := Lib.hid (by rw [hYe, hde]; exact HKN3.out)
                  have hf84 : Free ds1 g8 := by rw [hde]; exact hf83
                  have hfj4 : Free ds1 aj.block := by rw [hde]; exact hfj3 aj rfl
                  have hbp := hbr3
                  have hr84 := hr83
                  have hrj4 := hrj3
                  clear hY1 hend hYe hde hr1 h4e c9e hor hrne hrl hcs
                  go_wp2
                all_goals
                  have hY1l : jn < Y1.length := (List.getElem?_eq_some_iff.1 HY1.out).1
                  have hsame : Y1.set jn r1 = Y1 := by
                    apply List.ext_getElem?
                    intro u
                    rw [List.getElem?_set]
                    split
                    · rename_i e
                      subst e
                      first | exact HY1.out.symm | rw [if_pos hY1l, HY1.out]
                    · rfl
                  have HSAME := Lib.hid hsame
                  have hh8 : h4 ≠ g8 := hf84 jn h4 n c9 HDS.out
                  have hhj : h4 ≠ aj.block := hfj4 jn h4 n c9 HDS.out
                  clear hsame
                  go_loopw [11] (fun z wr => ∃ (k : Nat) (q : List Int), k ≤ n ∧ z = .int .i64 k ∧ JoinTo r1 vb k q ∧ KN wr wo.heap.size n (Y1.set jn q) ds1 ∧ RdI wr wr.heap.size (some ⟨g8, 0, none⟩) vb ∧ RdI wr wr.heap.size (some aj) js ∧ Below wo.heap.size wo wr) (fun z _ => n - (intOf z).toNat)
                  case atStart => exact ⟨0, r1, Nat.zero_le _, rfl, JoinTo.start _ _, by rw [HSAME.out]; exact HPUT.out, hr84, hrj4, hbp⟩
                  case round =>
                    obtain ⟨k, q, hk, rfl, hjt, hkn4, hr85, hrj5, hbr4⟩ := hrel
                    have HJT := Lib.hid hjt
                    have HKN4 := Lib.hid hkn4
                    have hsz4 := hbr4.size
                    have hGl4 := hkn4.own.lt
                    have hYq : (Y1.set jn q)[jn]? = some q := List.getElem?_set_self hY1l
                    have HYQ := Lib.hid hYq
                    have g3 := hkn4.own.cell HDS.out
                    clear hjt hYq hkn4
                    by_cases hkt : k < n
                    · have hql : q.length = n := by rw [HJT.out.len, HRL.out]
                      obtain ⟨x, hx⟩ : ∃ x, q[k]? = some x := ⟨_, List.getElem?_eq_getElem (by rw [hql]; exact hkt)⟩
                      obtain ⟨a8, y, e8, hbl8, hy, hcy⟩ := hr85.at_ (k := k) (by rw [HVL.out]; exact hkt)
                      injection e8 with e8
                      subst e8
                      rw [addr_zero_add] at hcy
                      have hrows := HKN4.out.rows jn q HYQ.out
                      rcases hrows with ⟨_, hbad⟩ | ⟨_, _, h', c', hds', hor⟩
                      · rw [HDS.out] at hbad; cases hbad
                      · rw [HDS.out] at hds'
                        injection hds' with hds'
                        injection hds' with e5 _ e6
                        injection e5 with e5
                        injection e5 with e5 _ _
                        subst e5 e6
                        have hcq := (hor.cellAt k (by omega)).trans (iv_at hx)
                        have hfq := hor.frozenAt k
                        have hgx : q.getD k 0 = x := getD_at hx
                        have hgy : vb.getD k 0 = y := getD_at hy
                        have hhl := (hor.lt h4 rfl).2
                        have hgh4 : wo.heap.size ≤ h4 := by have := (hor.lt h4 rfl).1; omega
                        by_cases hxy : x = y
                        · have HJ2 : Hid (JoinTo r1 vb (k + 1) q) := Lib.hid (HJT.out.same (by rw [hgx, hgy, hxy]))
                          subst hxy
                          clear hx hy hgx hgy hor hql
                          go_wp2
                          go_quiet (fail)
                          go_wp2
                          go_round
                          case rel => exact ⟨k + 1, q, by omega, by go_num, HJ2.out, HKN4.out.quiet (below_drewNI (Below.refl _ _) _), hr85, hrj5, below_drewNI hbr4 _⟩
                          case measure => (simp [intOf]; omega)
                        · have HJ2 : Hid (JoinTo r1 vb (k + 1) (q.set k (-1))) := Lib.hid (HJT.out.diff (by rw [HRL.out]; exact hkt) (by rw [hgx, hgy]; exact hxy))
                          have hne : (x != y) = true := by simp [hxy]
                          have HPK : Hid (∀ Z : World, KN Z wo.heap.size n (Y1.set jn q) ds1 → KN (Z.setCell ⟨h4, k, none⟩ (.int .i64 (-1))) wo.heap.size n (Y1.set jn (q.set k (-1))) ds1) := Lib.hid fun Z hZ => by
                            have := hZ.poke (x := -1) HYQ.out HDS.out hkt (by omega)
                            rw [List.set_set] at this
                            exact this
                          clear hx hy hgx hgy hxy hor hql
                          go_wp2
                          go_quiet (fail)
                          go_wp2
                          go_round
                          case rel => exact ⟨k + 1, q.set k (-1), by omega, by go_num, HJ2.out, HPK.out _ (HKN4.out.quiet (below_drewNI (Below.refl _ _) _)), RdI.other (w := wr.drewN _) hr85 (fun x hx => by injection hx with hx; subst hx; exact fun e => hh8 e.symm), RdI.other (w := wr.drewN _) hrj5 (fun x hx => by injection hx with hx; subst hx; exact fun e => hhj e.symm), (below_drewNI hbr4 _).setCell (show wo.heap.size ≤ (⟨h4, k, none⟩ : Addr).block from hgh4) _⟩
                          case measure => (simp [intOf]; omega)
                    · have hkn' : k = n := by omega
                      have HQE : Hid (Y1.set jn q = Y3.set jn (joinR (Y3.getD jn []) vb)) := Lib.hid (HEND.out q (JoinTo.done (by rw [HRL.out, ← hkn']; exact HJT.out)))
                      clear hkn'
                      go_wp2
                      go_round
                      case rel => exact ⟨m + 1, Y1.set jn q, ds1, by omega, by go_num, by rw [HQE.out]; exact HEDGE.out, HKN4.out, hr85, hf84, hrj5, (fun x hx => by injection hx with hx; subst hx; exact hfj4), hbr4⟩
                      case measure => (simp [intOf]; omega)
              · have hmj : m = js.length := by omega
                have HNB : Hid (NextTo n p hv X (i + 1) 0 Y3) := Lib.hid (by
                  refine NextTo.block (b := ⟨code, te, th, el⟩) (a := a) ?_ HD.out HA.out
                  show NextTo n p hv X i (goK ⟨code, te, th, el⟩ (bhK code a)).length Y3
                  rw [HJE.out, ← hmj]
                  exact HNT3.out)
                clear hmj
                go_wp2
                go_round
                case rel => exact ⟨i + 1, Y3, ds3, by omega, by go_num, HNB.out, HKN3.out, hbr3⟩
                case measure => (simp [intOf]; omega)
      · have hil : i = len := by omega
        have hnx : NextOf n p hv X Y := NextTo.done (by rw [HL.out, ← hil]; exact HNT.out)
        have HNX := Lib.hid hnx
        have hkgX := HKG.out.below hbr
        have hkgY := HKN.out.kg
        have HKX := Lib.hid hkgX
        have HKY := Lib.hid hkgY
        have HYL : Hid (Y.length = len) := Lib.hid (by rw [hnx.len, HL.out])
        have hrow : ∀ Z : List (List Int), (∀ (j : Nat) (r : List Int), Z[j]? = some r → r = [] ∨ KOk n r) → ∀ r ∈ Z, r.length ≤ maxLen := fun Z hZ r hr => by
          obtain ⟨j, hj, rfl⟩ := List.getElem_of_mem hr
          rcases hZ j _ (List.getElem?_eq_getElem hj) with h | h
          · rw [h]; exact Nat.zero_le _
          · rw [h.1]; unfold maxLen; omega
        have HLI := Lib.hid (lists_any (some ⟨g, 0, none⟩) (some ⟨wo.heap.size, 0, none⟩) len len len X Y wr hkgX.rd hkgY.rd HXL.out HYL.out (by unfold maxLen; omega) (hrow X HKL.out.ok) (hrow Y hnx.ok))
        have hbw := hb.trans (hbr.mono hsz)
        by_cases hXY : X = Y
        · rw [decide_eq_true hXY] at HLI
          have HLE : Hid (Least n p hv X) := Lib.hid (HKL.out.done HC.out (by rw [HL.out]; omega) (by
            have := HNX.out
            rw [← hXY] at this
            exact this))
          clear hXY hil hnx hkgX hkgY hrow
          go_wp2_with (go_at_call 10; (with_reducible refine HLI.out.mono ?_); rintro e w9 ⟨rfl, hb9⟩)
          go_ret
          exact ⟨⟨g, rfl, X, cs, HKX.out.below hb9, HLE.out⟩, hbw.trans (hb9.mono (Nat.le_trans hsz hszr))⟩
        · rw [decide_eq_false hXY] at HLI
          have HLT := Lib.hid (HKL.out.less HNX.out hXY)
          have HNK := Lib.hid (HKL.out.next HC.out HNX.out)
          have HC1 : Hid (cntK n wo (.slice (some ⟨g, 0, none⟩) len len) = wtM n X) := Lib.hid (by have := cntK_eq (n := n) (c := len) HKG.out; rwa [HXL.out] at this)
          clear hXY hil hnx hkgX hkgY hrow
          go_wp2_with (go_at_call 10; (with_reducible refine HLI.out.mono ?_); rintro e w9 ⟨rfl, hb9⟩)
          have HC2 : Hid (cntK n w9 (.slice (some ⟨wo.heap.size, 0, none⟩) len len) = wtM n Y) := Lib.hid (by have := cntK_eq (n := n) (c := len) (HKY.out.below hb9); rwa [HYL.out] at this)
          go_round
          case rel => exact ⟨wo.heap.size, Y, ds, rfl, HKY.out.below hb9, HNK.out, hbw.trans (hb9.mono (Nat.le_trans hsz hszr))⟩
          case measure => rw [HC1.out, HC2.out]; exact HLT.out

end Go.Proofs.Ytdckagledddkdaa
