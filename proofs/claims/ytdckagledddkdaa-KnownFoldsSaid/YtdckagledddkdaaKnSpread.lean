/-
  known.spread, known.constantsBefore (L1).
-/
import Derived.Test.YtdckagledddkdaaKnFold
import Derived.Test.YtdckagledddkdaaBlockRun
import Derived.Test.YtdckagledddkdaaTurned
import Derived.Lib.SliceRun
namespace Go.Proofs.Ytdckagledddkdaa
open Go.RowKit
set_option linter.unusedSimpArgs false
set_option linter.unusedVariables false
set_option maxRecDepth 100000

theorem Free.put {cs : List Value} {b j h n c : Nat} (hf : Free cs b) (hne : h ≠ b) : Free (cs.set j (.slice (some ⟨h, 0, none⟩) n c)) b := fun i k n' c' hc e => by
  by_cases e1 : j = i
  · subst e1
    have hjl := (List.getElem?_eq_some_iff.1 hc).1
    rw [List.length_set] at hjl
    rw [List.getElem?_set_self hjl] at hc
    injection hc with hc
    injection hc with hc _ _
    injection hc with hc
    injection hc with hc _ _
    exact hne (hc.trans e)
  · rw [List.getElem?_set_ne e1] at hc
    exact hf i k n' c' hc e

/-- a row merged in place -/
theorem KN.joined {w w' : World} {G n j h c : Nat} {Y : List (List Int)} {cs : List Value} {a a' : List Int} (hk : KN w G n Y cs) (hw : Wrote h w w') (hj : Y[j]? = some a) (hc : cs[j]? = some (.slice (some ⟨h, 0, none⟩) n c)) (ho : w'.ownsRow (G + 1) 3 1 (.slice (some ⟨h, 0, none⟩) n c) n (iv a')) (ha : a'.length = n) (hn : 0 < n) : KN w' G n (Y.set j a') cs := by
  have hjl := (List.getElem?_eq_some_iff.1 hj).1
  have hlt := ho.lt h rfl
  refine ⟨by simp [hk.len], (hw.block G hk.own.lt (by omega)).trans hk.own, fun i b hb => ?_, hk.apart⟩
  by_cases e : j = i
  · subst e
    rw [List.getElem?_set_self hjl] at hb
    injection hb with hb
    subst hb
    exact .inr ⟨fun e => by rw [e] at ha; simp at ha; omega, ha, h, c, hc, ho⟩
  · rw [List.getElem?_set_ne e] at hb
    rcases hk.rows i b hb with h1 | ⟨h1, h2, k', c', h3, h4⟩
    · exact .inl h1
    · refine .inr ⟨h1, h2, k', c', h3, own_wroteN h4 hw ?_⟩
      intro e2
      have := ob_eq e2
      subst this
      exact hk.apart j i k' n c n c' e hc h3

theorem RdI.wrote {w w' : World} {h : Nat} {A : Option Addr} {xs : List Int} (hx : RdI w w.heap.size A xs) (hw : Wrote h w w') (hp : ∀ ad, A = some ad → ad.block ≠ h) : RdI w' w'.heap.size A xs := fun hm => by
  obtain ⟨ad, e, hb, hc⟩ := hx hm
  refine ⟨ad, e, Nat.lt_of_lt_of_le hb hw.size, fun j hj => ?_⟩
  rw [← hc j hj]
  exact hw.cell (by rw [addr_add_block]; exact hb) (by rw [addr_add_block]; exact hp ad e)

theorem joinR_ne {r v : List Int} (h : r ≠ []) : joinR r v = joinL r v := by unfold joinR; rw [if_neg h]

theorem joinR_nil (v : List Int) : joinR [] v = v := by unfold joinR; rw [if_pos rfl]

set_option maxHeartbeats 16000000 in
theorem spreadK_any (n : Nat) (A : Option Addr) (len cap G B : Nat) (p : List Bk) (hv : List Int) (X : List (List Int)) (cs : List Value) (w : World) (hx : RdP w B A p) (hBG : B ≤ G) (hl : p.length = len) (hc : ckProg n p = 0) (hkn : KN w G n X cs) (hci : Ci n p hv X) :
    Calls Try.prog 39 #[.slice A len cap, .slice (some ⟨G, 0, none⟩) len len] w fun e w' => ∃ ch Y ds, e = .returned (.bool ch) ∧ KN w' G n Y ds ∧ Turn n p hv X Y ch ∧ Below G w w' := by
  obtain ⟨b1, b2, b3, b4, b5, _⟩ := ckProg_bd hc
  have HC := Lib.hid hc
  have HL := Lib.hid hl
  rw [hl] at b3 b4
  have hn1 : 1 ≤ n := by omega
  have hn6 : n ≤ 6 := by omega
  have HT0 := Lib.hid (Tn.start hci)
  have HKN0 := Lib.hid hkn
  have hGw := hkn.own.lt
  have qT : ∀ (w : World) (a : Option Addr) (n c n' c' : Nat), (binOp .eql 23 (.slice a n c) (.slice none n' c')).run Try.prog w = .ok (.bool a.isNone) w := fun w a n c n' c' => Lib.run_eql_slice_nil w _ _ a n c n' c' Try.underlying23
  clear hl hc hci hkn b1 b2
  go_enter Try.func39, Try.ntmps39
  go_wp2
  go_loopw [5, 13] (fun z5 z13 wr => ∃ (i : Nat) (Y : List (List Int)) (ds : List Value) (ch : Bool), i ≤ len ∧ z13 = .int .i64 i ∧ z5 = .bool ch ∧ Tn n p hv X Y ch i ∧ KN wr G n Y ds ∧ Below G w wr) (fun _ z13 _ => len - (intOf z13).toNat)
  case atStart => exact ⟨0, X, cs, false, Nat.zero_le _, rfl, rfl, HT0.out, HKN0.out, Below.refl _ _⟩
  case round =>
    obtain ⟨i, Y, ds, ch, hi, rfl, rfl, htn, hkn, hbr⟩ := hrel
    have HTN := Lib.hid htn
    have HKN := Lib.hid hkn
    have hGl := hkn.own.lt
    have hYl : Y.length = len := by rw [htn.ci.len, HL.out]
    have HYL := Lib.hid hYl
    clear htn hkn hYl
    obtain ⟨wo, rfl⟩ : ∃ wo : World, wo = wr := ⟨_, rfl⟩
    by_cases hit : i < len
    · obtain ⟨ad, bk, Ac, cc, rfl, hbl, hd, hrow, e0, e1, e2, e3⟩ := (hx.below hbr hBG).at_ (k := i) (by rw [HL.out]; exact hit)
      have hbk := ckProg_at HC.out hd
      have hcm := manyS_le hd
      have HD := Lib.hid hd
      have HBK := Lib.hid hbk
      obtain ⟨code, te, th, el⟩ := bk
      simp only [] at e0 e1 e2 e3 hrow hcm
      obtain ⟨cl, hcl⟩ : ∃ cl, code.length = cl := ⟨_, rfl⟩
      have HCL := Lib.hid hcl
      rw [hcl] at e0 hcm
      have hblr : (ad.add (i * 4)).block < wo.heap.size := by omega
      have hYi : i < Y.length := by rw [HYL.out]; exact hit
      obtain ⟨a, ha⟩ : ∃ a, Y[i]? = some a := ⟨_, List.getElem?_eq_getElem hYi⟩
      have HA := Lib.hid ha
      have HROW := Lib.hid hrow
      rcases HKN.out.rows i a ha with ⟨rfl, hcs⟩ | ⟨hane, hal, h0, ca, hcs, hra⟩
      · have q0 := HKN.out.own.cell hcs
        have HSK := Lib.hid (HTN.out.skip HA.out)
        clear ha hcs hd hbk hcl hrow hYi
        go_wp2
        go_round
        case rel => exact ⟨i + 1, Y, ds, ch, by omega, by go_num, rfl, HSK.out, HKN.out.quiet (by go_grown), hbr.trans (by go_grown)⟩
        case measure => (simp [intOf]; omega)
      · have hka := (HTN.out.ci.ok i a ha).resolve_left hane
        have q0 := HKN.out.own.cell hcs
        have HKA := Lib.hid hka
        have HANE := Lib.hid hane
        have HAL := Lib.hid hal
        have HRA := Lib.hid hra
        have hh0 := (hra.lt h0 rfl).2
        have HCLN : Hid (∀ Z : World, Below wo.heap.size wo Z → Calls Try.prog 33 #[.slice (some ⟨h0, 0, none⟩) n ca] Z fun e w' => ∃ g c', e = .returned (.slice (some ⟨g, 0, none⟩) n c') ∧ w'.ownsRow Z.heap.size 3 1 (.slice (some ⟨g, 0, none⟩) n c') n (iv a) ∧ Below Z.heap.size Z w') := Lib.hid fun Z hZ =>
          clone_any _ n ca a Z ((own_rdI (own_below HRA.out hZ) HAL.out)) HAL.out hn1 (by omega)
        have hown0 : Own (wo.alloc (.cells #[.slice Ac cl cc, .int .i64 te, .int .i64 th, .int .i64 el] 44)) wo.heap.size 44 [.slice Ac cl cc, .int .i64 te, .int .i64 th, .int .i64 el] := Own.new wo _ [_, _, _, _]
        have HOWN0 := Lib.hid hown0
        have HTW := Lib.hid (Tw.start HC.out HTN.out HD.out HA.out HANE.out)
        have HGK := Lib.hid (folG_fd HBK.out hka (by omega))
        have HGIN : Hid (∀ v, ∀ j ∈ goK ⟨code, te, th, el⟩ v, 0 ≤ j ∧ j < len) := Lib.hid fun v j hj => by
          have := goK_in HBK.out hj
          rw [HL.out] at this
          exact this
        have HGLN : Hid (∀ v, (goK ⟨code, te, th, el⟩ v).length ≤ 2) := Lib.hid fun v => goK_len _ _
        simp only [] at HTW HGK
        have HVB := Lib.hid (bhK_ok HBK.out.code hka)
        simp only [] at HVB
        clear ha hcs hka hane hal hra hd hbk hrow hcl hYi hown0
        go_wp2_with fail
        refine (HCLN.out _ (by go_grown)).mono ?_
        rintro e w5 ⟨g8, c8, rfl, hown8, hb5⟩
        have hbo5 : Below wo.heap.size wo w5 := Below.trans (by go_grown) (hb5.mono (by simp))
        have hO5 := HOWN0.out.below hb5 HOWN0.out.lt
        have hg8 := (hown8.lt g8 rfl).1
        have hg8s : wo.heap.size < g8 := by simp at hg8; omega
        have k0 := hO5.cell (j := 0) rfl
        have k1 := hO5.cell (j := 1) rfl
        have k2 := hO5.cell (j := 2) rfl
        have k3 := hO5.cell (j := 3) rfl
        have hs5 := hbo5.size
        have hbs5 := hO5.lt
        have HFB := Lib.hid (foldBlock_any n p.length B (wo.heap.size + 1) g8 c8 cl cc Ac code te th el a w5 (RdS.below HROW.out hbo5 (by omega)) HCL.out (by omega) (by omega) (by omega) (own_mono hown8 (by simp)) HKA.out HBK.out hn1 hn6)
        clear hown8 hO5
        go_wp2_with fail
        refine HFB.out.mono ?_
        rintro e w6 ⟨⟨A6, c6, te', th', el', rfl, hfe, hrd6, hcap6, hA6⟩, hown6, hwr6⟩
        rw [hfe] at HGK
        have hbo6 : Below wo.heap.size wo w6 := hbo5.trans (hwr6.below (by omega) hs5)
        have hs6 := hbo6.size
        have HFL := Lib.hid (followersK_any A6 cl c6 (fdC code a) te' th' el' w6)
        rw [HGK.out] at HFL
        obtain ⟨vb, hvb⟩ : ∃ vb, bhK code a = vb := ⟨_, rfl⟩
        rw [hvb] at hown6 HTW HVB HFL
        obtain ⟨js, hjs⟩ : ∃ js, goK ⟨code, te, th, el⟩ vb = js := ⟨_, rfl⟩
        rw [hjs] at HTW HFL
        have HJIN : Hid (∀ j ∈ js, 0 ≤ j ∧ j < len) := Lib.hid fun j hj => HGIN.out vb j (by rw [hjs]; exact hj)
        have hjl : js.length ≤ 2 := by rw [← hjs]; exact HGLN.out vb
        have HOW6 := Lib.hid hown6
        clear hfe hrd6 hA6 hvb hjs hown6
        go_wp2_with fail
        refine HFL.out.mono ?_
        rintro e w7 ⟨Aj, ⟨cj, rfl⟩, hrj, hjn, hb7⟩
        have hbo7 : Below wo.heap.size wo w7 := hbo6.trans (hb7.mono hs6)
        have HK7 := Lib.hid (HKN.out.quiet hbo7)
        have hvl : vb.length = n := HVB.out.1
        have HVL := Lib.hid hvl
        have hr8 := own_rdI (own_below HOW6.out hb7) hvl
        have hbw7 : Below G w w7 := hbr.trans (hbo7.mono (by omega))
        have HF8 := Lib.hid (HKN.out.free (b := g8) (by omega))
        have HFJ : Hid (∀ x, Aj = some x → Free ds x.block) := Lib.hid fun x hx => HKN.out.free (by have := hjn x hx; omega)
        have HGJ : Hid (∀ x, Aj = some x → x.block ≠ G ∧ x.block ≠ g8) := Lib.hid fun x hx => by
          have h1 := hjn x hx
          have h2 := (HOW6.out.lt g8 rfl).2
          omega
        have hg8G : g8 ≠ G := by omega
        clear hvl hjn k0 k1 k2 k3
        go_wp2
        go_loopw [5, 33] (fun z5 z33 wr => ∃ (m : Nat) (Y : List (List Int)) (ds : List Value) (ch : Bool), m ≤ js.length ∧ z33 = .int .i64 m ∧ z5 = .bool ch ∧ Tw n p hv X Y ch i js vb m ∧ KN wr G n Y ds ∧ RdI wr wr.heap.size (some ⟨g8, 0, none⟩) vb ∧ Free ds g8 ∧ RdI wr wr.heap.size Aj js ∧ (∀ x, Aj = some x → Free ds x.block) ∧ Below G w wr) (fun _ z33 _ => js.length - (intOf z33).toNat)
        case atStart => exact ⟨0, Y, ds, ch, Nat.zero_le _, rfl, rfl, HTW.out, HK7.out, hr8, HF8.out, hrj, HFJ.out, hbw7⟩
        case round =>
          obtain ⟨m, Y3, ds3, ch3, hm, rfl, rfl, htw3, hkn3, hr83, hf83, hrj3, hfj3, hbr3⟩ := hrel
          have HTW3 := Lib.hid htw3
          have HKN3 := Lib.hid hkn3
          have HF83 := Lib.hid hf83
          have HFJ3 := Lib.hid hfj3
          have hGl3 := hkn3.own.lt
          clear htw3 hkn3 hf83 hfj3
          by_cases hmt : m < js.length
          · obtain ⟨aj, z, rfl, hblj, hzj, hcz⟩ := hrj3.at_ (k := m) hmt
            obtain ⟨hz0, hz1⟩ := HJIN.out z (List.mem_of_getElem? hzj)
            obtain ⟨jn, rfl⟩ := Int.eq_ofNat_of_zero_le hz0
            have hjn1 : jn < len := by omega
            have hYj : jn < Y3.length := by rw [HTW3.out.tn.ci.len, HL.out]; exact hjn1
            obtain ⟨r, hr⟩ : ∃ r, Y3[jn]? = some r := ⟨_, List.getElem?_eq_getElem hYj⟩
            have HR := Lib.hid hr
            have HZJ := Lib.hid hzj
            have HRJ3 := Lib.hid hrj3
            have HR83 := Lib.hid hr83
            rcases HKN3.out.rows jn r hr with ⟨rfl, hcs⟩ | ⟨hrne, hrl, h4, c4, hcs, hor⟩
            · have q3 := HKN3.out.own.cell hcs
              have HWAY : Hid (Tw n p hv X (Y3.set jn vb) (ch3 || true) i js vb (m + 1)) := Lib.hid (HTW3.out.wayTo HZJ.out HR.out (joinR_nil vb) ⟨fun _ e => by have := HVL.out; rw [e] at this; simp at this; omega, fun _ => rfl⟩)
              rw [Bool.or_true] at HWAY
              have HCS := Lib.hid hcs
              have HCL2 := Lib.hid (clone_any (some ⟨g8, 0, none⟩) n c8 vb wr hr83 HVL.out hn1 (by omega))
              clear hr hzj hz0 hz1 hYj hcs hr83 hrj3
              go_wp2_with (go_at_call 33; (with_reducible refine HCL2.out.mono ?_); rintro e w9 ⟨h9, c9, rfl, hown9, hb9⟩; have hq9 := HKN3.out.own.below hb9 hGl3; have hf9 := hq9.frozen jn; have hc9 := hq9.cell HCS.out; have hl9 := hq9.lt)
              all_goals
                have hh9 := (hown9.lt h9 rfl).1
                have hput := KN.put (j := jn) HKN3.out hb9 HVL.out (by omega) (own_mono hown9 (show G + 1 ≤ wr.heap.size from hGl3)) hh9
                have hr84 : RdI (w9.setCell ⟨G, jn, none⟩ (.slice (some ⟨h9, 0, none⟩) n c9)) (w9.setCell ⟨G, jn, none⟩ (.slice (some ⟨h9, 0, none⟩) n c9)).heap.size (some ⟨g8, 0, none⟩) vb := RdI.other ((HR83.out.below hb9 (Nat.le_refl _)).more hb9.size) (fun x hx => by injection hx with hx; subst hx; exact hg8G)
                have hrj4 : RdI (w9.setCell ⟨G, jn, none⟩ (.slice (some ⟨h9, 0, none⟩) n c9)) (w9.setCell ⟨G, jn, none⟩ (.slice (some ⟨h9, 0, none⟩) n c9)).heap.size (some aj) js := RdI.other ((HRJ3.out.below hb9 (Nat.le_refl _)).more hb9.size) (fun x hx => by injection hx with hx; subst hx; exact (HGJ.out aj rfl).1)
                have hh8 : h9 ≠ g8 := by
                  obtain ⟨x8, hx8, hxb, _⟩ := HR83.out (by rw [HVL.out]; omega)
                  injection hx8 with hx8
                  subst hx8
                  simp only [] at hxb
                  omega
                have hhj : h9 ≠ aj.block := by rw [addr_add_block] at hblj; omega
                have hbr9 : Below G w (w9.setCell ⟨G, jn, none⟩ (.slice (some ⟨h9, 0, none⟩) n c9)) := (hbr3.trans (hb9.mono (by omega))).setCell (Nat.le_refl _) _
                have HPUT := Lib.hid hput
                clear hput hown9 hb9 hq9 hf9
                go_wp2
                go_round
                case rel => exact ⟨m + 1, _, _, true, by omega, by go_num, rfl, HWAY.out, HPUT.out, hr84, HF83.out.put hh8, hrj4, (fun x hx => by injection hx with hx; subst hx; exact (HFJ3.out aj rfl).put hhj), hbr9⟩
                case measure => (simp [intOf]; omega)
            · have q3 := HKN3.out.own.cell hcs
              have hh8 : h4 ≠ g8 := HF83.out jn h4 n c4 hcs
              have hhj : h4 ≠ aj.block := HFJ3.out aj rfl jn h4 n c4 hcs
              have hh4 := (hor.lt h4 rfl).2
              have hG4 := (hor.lt h4 rfl).1
              have HMG := Lib.hid (mergeK_any h4 n c4 c8 (G + 1) (some ⟨g8, 0, none⟩) r vb wr hor hr83 (fun x hx => by injection hx with hx; subst hx; exact fun e => hh8 e.symm) hrl HVL.out (by omega))
              have HJD : Hid (∀ (Z : World), Wrote h4 wr Z → Z.ownsRow (G + 1) 3 1 (.slice (some ⟨h4, 0, none⟩) n c4) n (iv (joinL r vb)) → KN Z G n (Y3.set jn (joinL r vb)) ds3) := Lib.hid fun Z hZ ho => HKN3.out.joined hZ HR.out hcs ho (by rw [joinL_len, hrl]) (by omega)
              have HRJW : Hid (∀ (Z : World), Wrote h4 wr Z → RdI Z Z.heap.size (some ⟨g8, 0, none⟩) vb ∧ RdI Z Z.heap.size (some aj) js ∧ Below G w Z) := Lib.hid fun Z hZ => ⟨HR83.out.wrote hZ (fun x hx => by injection hx with hx; subst hx; exact fun e => hh8 e.symm), HRJ3.out.wrote hZ (fun x hx => by injection hx with hx; subst hx; exact fun e => hhj e.symm), hbr3.trans (hZ.below (by omega) (by omega))⟩
              by_cases hjn : joinL r vb = r
              · have HWAY : Hid (Tw n p hv X (Y3.set jn (joinL r vb)) (ch3 || false) i js vb (m + 1)) := Lib.hid (HTW3.out.wayTo HZJ.out HR.out (joinR_ne hrne) ⟨fun h => Bool.noConfusion h, fun h => absurd hjn h⟩)
                rw [Bool.or_false] at HWAY
                have HDE : Hid (decide (joinL r vb ≠ r) = false) := Lib.hid (by rw [decide_eq_false_iff_not]; exact fun h => h hjn)
                rw [HDE.out] at HMG
                clear hr hzj hz0 hz1 hYj hcs hr83 hrj3 hrne hrl hor hjn
                go_wp2_with (go_at_call 49; (with_reducible refine HMG.out.mono ?_); rintro e w9 ⟨rfl, hown9, hwr9⟩)
                obtain ⟨i1, i2, i3⟩ := HRJW.out _ hwr9
                go_round
                case rel => exact ⟨m + 1, _, ds3, ch3, by omega, by go_num, rfl, HWAY.out, HJD.out _ hwr9 hown9, i1, HF83.out, i2, HFJ3.out, i3⟩
                case measure => (simp [intOf]; omega)
              · have HWAY : Hid (Tw n p hv X (Y3.set jn (joinL r vb)) (ch3 || true) i js vb (m + 1)) := Lib.hid (HTW3.out.wayTo HZJ.out HR.out (joinR_ne hrne) ⟨fun _ => hjn, fun _ => rfl⟩)
                rw [Bool.or_true] at HWAY
                have HDE : Hid (decide (joinL r vb ≠ r) = true) := Lib.hid (by rw [decide_eq_true_eq]; exact hjn)
                rw [HDE.out] at HMG
                clear hr hzj hz0 hz1 hYj hcs hr83 hrj3 hrne hrl hor hjn
                go_wp2_with (go_at_call 49; (with_reducible refine HMG.out.mono ?_); rintro e w9 ⟨rfl, hown9, hwr9⟩)
                obtain ⟨i1, i2, i3⟩ := HRJW.out _ hwr9
                go_round
                case rel => exact ⟨m + 1, _, ds3, true, by omega, by go_num, rfl, HWAY.out, HJD.out _ hwr9 hown9, i1, HF83.out, i2, HFJ3.out, i3⟩
                case measure => (simp [intOf]; omega)
          · have HNB := Lib.hid (HTW3.out.block (by omega))
            go_wp2
            go_round
            case rel => exact ⟨i + 1, Y3, ds3, ch3, by omega, by go_num, rfl, HNB.out, HKN3.out, hbr3⟩
            case measure => (simp [intOf]; omega)
    · have HTU := Lib.hid (HTN.out.turn (by rw [HL.out]; omega))
      go_wp2
      go_ret
      exact ⟨ch, Y, ds, rfl, HKN.out, HTU.out, hbr⟩

end Go.Proofs.Ytdckagledddkdaa
