/-
  codemasonref.Folds (L2): the folded program.
-/
import Derived.Test.YtdckagledddkdaaKnownKnown
import Derived.Test.YtdckagledddkdaaGrownB
import Derived.Lib.SliceRun
import Derived.Deep.Cut
namespace Go.Proofs.Ytdckagledddkdaa
open Go.RowKit
set_option linter.unusedSimpArgs false
set_option linter.unusedVariables false
set_option maxRecDepth 100000

theorem cells_lit {X : World} {k : Nat} (hk : k = X.heap.size) (l : List Value) (cs : Array Value) (hcs : cs = l.toArray) (t : TypeId) : ∀ ad : Addr, some (⟨k, 0, none⟩ : Addr) = some ad → ∀ j u, l[j]? = some u → (X.alloc (.cells cs t)).cell? (ad.add j) = some u := by
  subst hcs
  exact cells_at hk l t

theorem cBk_one1 (q : Bk × Option Addr × Nat) : ∀ u ∈ cBk q, u.oneCell' = true := fun u hu => cBk_one [q] u (by simpa [rv] using hu)

theorem cSt_one1 (s : St) : ∀ u ∈ cSt s, u.oneCell' = true := fun u hu => cSt_oneL [s] u (by simpa [rv] using hu)

/-- a row under a bound stands where all below it does -/
theorem own_underF {w w' : World} {base : Nat} {e : TypeId} {size : Nat} {v : Value} {n : Nat} {xs : List Value} {B : Nat} (h : w.ownsRow base e size v n xs) (hb : Below B w w') (hv : ∀ g, v.ownBlock = some g → g < B) : w'.ownsRow base e size v n xs := by
  refine ⟨h.1, ?_⟩
  rcases h.2 with h' | ⟨k, cap, cur, h1, h2, h3, h4⟩
  · exact .inl h'
  · exact .inr ⟨k, cap, cur, h1, h2, (hb.block k (hv k (by rw [h1]; rfl))).trans h3, h4⟩

theorem ob_eqF {h n c g : Nat} (hg : (Value.slice (some ⟨h, 0, none⟩) n c).ownBlock = some g) : h = g := by
  have e : (Value.slice (some ⟨h, 0, none⟩) n c).ownBlock = some h := rfl
  rw [e] at hg
  injection hg

/-- what Folds answers -/
def FoldsTo (n : Nat) (p : List Bk) (hv : List Int) (len : Nat) (e : Ending) (w' : World) : Prop := ∃ A' c' L, e = .returned (.slice A' len c') ∧ RdP w' w'.heap.size A' (fdP p L) ∧ Least n p hv L

set_option maxHeartbeats 32000000 in
theorem refFolds_any (n : Nat) (A VA : Option Addr) (len cap vcap : Nat) (p : List Bk) (hv : List Int) (w : World) (hx : RdP w w.heap.size A p) (hh : RdI w w.heap.size VA hv) (hl : p.length = len) (hc : ckProg n p = 0) (hok : KOk n hv) :
    Calls Try.prog 14 #[.slice A len cap, .slice VA n vcap] w fun e w' => FoldsTo n p hv len e w' ∧ Below w.heap.size w w' := by
  obtain ⟨b1, b2, b3, b4, b5, _⟩ := ckProg_bd hc
  have HK := Lib.hid (refKnown_any n A VA len cap vcap p hv w hx hh hl hc hok)
  have HX := Lib.hid hx
  have HC := Lib.hid hc
  have HL := Lib.hid hl
  rw [hl] at b3 b4
  have hn1 : 1 ≤ n := by omega
  have hn6 : n ≤ 6 := by omega
  have qT : ∀ (w : World) (a : Option Addr) (n c n' c' : Nat), (binOp .eql 23 (.slice a n c) (.slice none n' c')).run Try.prog w = .ok (.bool a.isNone) w := fun w a n c n' c' => Lib.run_eql_slice_nil w _ _ a n c n' c' Try.underlying23
  have ha_ : 0 + n ≤ maxLen := by unfold maxLen; omega
  have hb_ : (0 + n) * 8 ≤ 140737488355328 := by omega
  clear hx hh hl hc hok b1 b2
  go_enter Try.func14, Try.ntmps14
  go_wp2_with fail
  refine HK.out.mono ?_
  rintro e wk ⟨⟨g, rfl, X, cs, hkg, hle⟩, hbk⟩
  have HKG := Lib.hid hkg
  have HLE := Lib.hid hle
  have hgk := hkg.own.lt
  have hXl : X.length = len := by rw [hle.sol.len, HL.out]
  have HXL := Lib.hid hXl
  have hszk := hbk.size
  have hG0 := GrB.start wk wk.heap.size
  have HT0 : Hid (([] : List (Bk × Option Addr × Nat)).map (·.1) = (fdP p X).take 0) := Lib.hid rfl
  clear hkg hle hXl HK
  go_wp2
  go_loopw [5, 16] (fun z5 z16 wr => ∃ (i : Nat) (A5 : Option Addr) (c5 : Nat) (qs : List (Bk × Option Addr × Nat)), i ≤ len ∧ z16 = .int .i64 i ∧ z5 = .slice A5 i c5 ∧ GrB wr wk.heap.size A5 i c5 qs ∧ qs.map (·.1) = (fdP p X).take i ∧ Below wk.heap.size wk wr) (fun _ z16 _ => len - (intOf z16).toNat)
  case atStart => exact ⟨0, none, 0, [], Nat.zero_le _, rfl, rfl, hG0, HT0.out, Below.refl _ _⟩
  case round =>
    obtain ⟨i, A5, c5, qs, hi, rfl, rfl, hgr, hqs, hbr⟩ := hrel
    have HGR := Lib.hid hgr
    have HQS := Lib.hid hqs
    have hszr := hbr.size
    obtain ⟨wo, rfl⟩ : ∃ wo : World, wo = wr := ⟨_, rfl⟩
    clear hgr hqs
    by_cases hit : i < len
    · have hkgr := HKG.out.below hbr
      have hXi : i < X.length := by rw [HXL.out]; exact hit
      obtain ⟨a, ha⟩ : ∃ a, X[i]? = some a := ⟨_, List.getElem?_eq_getElem hXi⟩
      have HA := Lib.hid ha
      have hbw := hbk.trans (hbr.mono hszk)
      obtain ⟨ad, bk, Ac, cc, rfl, hbl, hd, hrow, e0, e1, e2, e3⟩ := (HX.out.below hbw (Nat.le_refl _)).at_ (k := i) (by rw [HL.out]; exact hit)
      have HD := Lib.hid hd
      have h63 : i + 1 ≤ maxLen := by unfold maxLen; omega
      have hbig : (i + 1) * 48 ≤ 140737488355328 := by omega
      have hgo : g < wo.heap.size := by omega
      rcases hkgr.rows i a ha with ⟨rfl, hcs⟩ | ⟨hane, h0, ca, hcs, hra⟩
      · have q0 := hkgr.own.cell hcs
        have HE : Hid (qs.map (·.1) ++ [(⟨[], -1, -1, 0⟩ : Bk)] = (fdP p X).take (i + 1)) := Lib.hid (by rw [fdP_take HD.out HA.out, HQS.out]; unfold fdB; rw [if_pos rfl])
        clear ha hcs hd hrow hXi hkgr e0 e1 e2 e3
        go_wp2_with (at_builtin; refine wpList_app' rfl (.tmp 82) (.tmp 84) 22 rfl wk.heap.size 44 4 48 block_app (rv cBk qs) rfl (own_below HGR.out.own (by go_grown)) (cBk (⟨[], -1, -1, 0⟩, none, 0)) rfl rfl (fun h => by cases h) (cells_lit (by simp) (cBk (⟨[], -1, -1, 0⟩, none, 0)) _ rfl _) (cBk_one1 _) h63 hbig (by simp; omega) ?_; intro A8 c8 w8 hown8 hg8 hb8 hk8)
        have hbX : Below wo.heap.size wo ((wo.alloc (.cells #[.slice none 0 0, .int .i64 (-1), .int .i64 (-1), .int .i64 0] 44)).alloc (.cells #[.slice none 0 0, .int .i64 (-1), .int .i64 (-1), .int .i64 0] 44)) := by go_grown
        have hgr8 := HGR.out.app (q := (⟨[], -1, -1, 0⟩, none, 0)) hbX hszr (fun hm => by simp at hm) (Nat.le_refl _) (fun ad hA => by cases hA) hown8 hg8 hk8
        go_round
        case rel => exact ⟨i + 1, A8, c8, _, by omega, by go_num, rfl, hgr8, by rw [List.map_append]; exact HE.out, hbr.trans ((hbX.mono hszr).trans hb8)⟩
        case measure => (simp [intOf]; omega)
      · have hka := (HLE.out.sol.ok i a ha).resolve_left hane
        have hbk' := ckProg_at HC.out hd
        have hcm := manyS_le hd
        have HKA := Lib.hid hka
        have HANE := Lib.hid hane
        have HBK := Lib.hid hbk'
        have hal := hka.1
        have q0 := hkgr.own.cell hcs
        rw [hal] at q0
        obtain ⟨code, te, th, el⟩ := bk
        simp only [] at e0 e1 e2 e3 hrow hcm
        have hcode := hbk'.code
        have hte := hbk'.test
        have hel := hbk'.el
        have hth := hbk'.th
        simp only [] at hcode hte hel hth
        have HCODE := Lib.hid hcode
        have HTE := Lib.hid hte
        have HEL := Lib.hid hel
        have HTH := Lib.hid hth
        obtain ⟨cl, hcl⟩ : ∃ cl, code.length = cl := ⟨_, rfl⟩
        have HCL := Lib.hid hcl
        rw [hcl] at e0 hcm
        have hblr : (ad.add (i * 4)).block < wo.heap.size := by omega
        have HROW := Lib.hid (hrow.more (Nat.le_trans hszk hszr))
        have hh0 : h0 < wo.heap.size := by
          obtain ⟨x, hx1, hx2, _⟩ := hra (by rw [hal]; omega)
          injection hx1 with hx1
          subst hx1
          exact hx2
        have HF0 := Lib.hid (FdAt.start (code := code) hka)
        have HRA := Lib.hid hra
        have hoS : Own (wo.alloc (.cells #[.slice none 0 0, .int .i64 te, .int .i64 th, .int .i64 el] 44)) wo.heap.size 44 [.slice none 0 0, .int .i64 te, .int .i64 th, .int .i64 el] := Own.new wo _ [_, _, _, _]
        have hbS : Below wo.heap.size wo (wo.alloc (.cells #[.slice none 0 0, .int .i64 te, .int .i64 th, .int .i64 el] 44)) := by go_grown
        have hrS := (hra.below hbS (Nat.le_refl _)).more hbS.size
        clear ha hcs hd hrow hXi hkgr hka hane hbk' hal hcode hte hel hth hcl hra
        go_wp2
        go_loopw [7, 35] (fun z7 z35 wr => ∃ (k : Nat) (r : List St) (v : List Int) (A6 : Option Addr) (c6 h3 c3 : Nat), k ≤ cl ∧ z35 = .int .i64 k ∧ z7 = .slice (some ⟨h3, 0, none⟩) n c3 ∧ FdAt n code a k r v ∧ RdI wr wr.heap.size (some ⟨h3, 0, none⟩) v ∧ h3 ≠ wo.heap.size ∧ Own wr wo.heap.size 44 [.slice A6 k c6, .int .i64 te, .int .i64 th, .int .i64 el] ∧ wr.ownsRow (wo.heap.size + 1) 52 5 (.slice A6 k c6) k (rv cSt r) ∧ Below wo.heap.size wo wr) (fun _ z35 _ => cl - (intOf z35).toNat)
        case atStart => exact ⟨0, [], a, none, 0, h0, ca, Nat.zero_le _, rfl, rfl, HF0.out, hrS, by omega, hoS, World.ownsRow_nil _ _ _ _, hbS⟩
        case round =>
          obtain ⟨k, r, v, A6, c6, h3, c3, hk, rfl, rfl, hfd, hrv, hh3, hp, hcr, hbi⟩ := hrel
          have HFD := Lib.hid hfd
          have HRV := Lib.hid hrv
          have HP := Lib.hid hp
          have HCR := Lib.hid hcr
          have HVL : Hid (v.length = n) := Lib.hid hfd.ok.1
          have hps := hp.lt
          have hsi := hbi.size
          clear hfd
          by_cases hkt : k < cl
          · obtain ⟨ad2, o, t, x1, x2, vv, rfl, hbl2, hd2, hc0, hc1, hc2, hc3, hc4⟩ := (RdS.below HROW.out hbi (Nat.le_refl _)).at_ (k := k) (by rw [HCL.out]; exact hkt)
            have hcks := ckStepsF_at HCODE.out hd2
            simp only [] at hcks
            have hxb := mkK_bd (s := ⟨o, t, x1, x2, vv⟩) hcks HFD.out.ok
            have hmk : ∀ Z : World, Below wr.heap.size wr Z → Calls Try.prog 27 #[.agg #[.int .i64 o, .int .i64 t, .int .i64 x1, .int .i64 x2, .int .i64 vv], .slice (some ⟨h3, 0, none⟩) n c3] Z fun e w' => e = .returned (.int .i64 (mkK ⟨o, t, x1, x2, vv⟩ v)) ∧ Below Z.heap.size Z w' := fun Z hZ =>
              makes_any n _ c3 o t x1 x2 vv v Z ((HRV.out.below hZ (Nat.le_refl _)).more hZ.size) HFD.out.ok hcks (by omega)
            have hstep := HFD.out.step HCODE.out hd2
            have hto : (fdS ⟨o, t, x1, x2, vv⟩ v) = if 0 ≤ mkK ⟨o, t, x1, x2, vv⟩ v then ⟨1, t, 0, 0, mkK ⟨o, t, x1, x2, vv⟩ v⟩ else ⟨o, t, x1, x2, vv⟩ := rfl
            obtain ⟨⟨ht0, ht1⟩, hcase⟩ := ckStep_cases hcks
            obtain ⟨x, hxe⟩ : ∃ x, mkK ⟨o, t, x1, x2, vv⟩ v = x := ⟨_, rfl⟩
            rw [hxe] at hmk hxb hstep hto
            have HMK := Lib.hid hmk
            have HST := Lib.hid hstep
            have HTO := Lib.hid hto
            have HL1 : Hid ((iv v).length = n * 1) := Lib.hid (by simp [iv, HVL.out])
            have HNW : Hid (∀ Z : World, Below wr.heap.size wr Z → ∀ x, some (⟨h3, 0, none⟩ : Addr) = some x → ∀ j u, (iv v)[j]? = some u → Z.cell? (x.add j) = some u) := Lib.hid fun Z hZ => (HRV.out.below hZ (Nat.le_refl _)).news
            have h63s : k + 1 ≤ maxLen := by unfold maxLen; omega
            have hbigs : (k + 1) * 40 ≤ 140737488355328 := by omega
            clear hd2 hmk hcks hcase hxe hstep hto hrv hp hcr
            obtain ⟨tn, rfl⟩ := Int.eq_ofNat_of_zero_le ht0
            simp only [Int.toNat_natCast] at HST
            have htn : tn < n := by omega
            have htl : tn < v.length := by rw [HVL.out]; exact htn
            have HCT := Lib.hid (iv_at (List.getElem?_eq_getElem htl))
            generalize v[tn] = xt at *
            have hbl2r : (ad2.add (k * 5)).block < wr.heap.size := by omega
            have HS0 : Hid (Own (wr.alloc (.cells #[.int .i64 o, .int .i64 (tn : Nat), .int .i64 x1, .int .i64 x2, .int .i64 vv] 52)) wr.heap.size 52 [.int .i64 o, .int .i64 (tn : Nat), .int .i64 x1, .int .i64 x2, .int .i64 vv]) := Lib.hid (Own.new wr _ [_, _, _, _, _])
            clear htl
            have hTS : ¬ wr.heap.size = wo.heap.size := by omega
            go_upto_region 15 with (first
              | (go_at_call 27; (with_reducible refine (HMK.out _ (by go_grown)).mono ?_); rintro e w5 ⟨rfl, hb5⟩; have hbr5 : Below wr.heap.size wr w5 := Below.trans (by go_grown) (hb5.mono (by go_size)); have hS5 := HS0.out.below hb5 HS0.out.lt; have hs5 := hS5.lt; have HS5 := Lib.hid hS5; clear hS5)
              | (at_builtin; refine wpList_app rfl (.tmp 42) (.tmp 43) 23 rfl w5.heap.size 3 1 8 int_app [] rfl (own_empty_at _ _ _ _ (by simp) (by simp)) (iv v) rfl HL1.out (fun h => by cases h) (HNW.out _ (hbr5.trans ((by go_grown : Below w5.heap.size w5 _).mono hbr5.size))) (iv_one _) ha_ hb_ (by simp) ?_; intro A7 c7 w7 hown7 hg7 hb7; rw [Nat.zero_add, List.nil_append] at hown7; obtain ⟨h7, rfl, hh75, hl7⟩ := own_form hown7 (by omega); have hb57 : Below w5.heap.size w5 w7 := Below.trans (by go_grown) hb7; have hbr7 : Below wr.heap.size wr w7 := hbr5.trans (hb57.mono hbr5.size); have hh7 : wr.heap.size ≤ h7 := Nat.le_trans hbr5.size hh75; have hS7 := HS5.out.below hb57 HS5.out.lt; have hneT : ¬ h7 = wr.heap.size := (by omega); have k1 := hS7.cell (j := 1) rfl; have hct7 := (hown7.cellAt tn (by omega)).trans HCT.out; have hfz7 := hown7.frozenAt tn; have HS7 := Lib.hid hS7; have HOWN7 := Lib.hid (own_mono hown7 hbr5.size); clear hown7 hS7 hg7))
            have hneS : ¬ h7 = wo.heap.size := by omega
            have hst6 : (w7.setCell ⟨h7, tn, none⟩ (.int .i64 x)).ownsRow wr.heap.size 3 1 (.slice (some ⟨h7, 0, none⟩) n c7) n (iv (v.set tn x)) := by
              have := (HOWN7.out.stored tn (.int .i64 x)).1
              rwa [iv_set] at this
            have hS6 := HS7.out.far (p := ⟨h7, tn, none⟩) (fun e => hneT e.symm) (.int .i64 x)
            have hcr6 := ownsRow_setCell_other (own_underF HCR.out hbr7 (fun g hg => (HCR.out.lt g hg).2)) (a := ⟨h7, tn, none⟩) (fun e => Nat.not_le_of_lt (HCR.out.lt h7 e).2 hh7) (.int .i64 x)
            have hp6 := (HP.out.below hbr7 hps).far (p := ⟨h7, tn, none⟩) (fun e => hneS e.symm) (.int .i64 x)
            have hbr6 := hbr7.setCell (p := ⟨h7, tn, none⟩) hh7 (.int .i64 x)
            obtain ⟨w6, hw6⟩ : ∃ w6, w6 = w7.setCell ⟨h7, tn, none⟩ (.int .i64 x) := ⟨_, rfl⟩
            rw [← hw6] at hst6 hS6 hcr6 hp6 hbr6 ⊢
            clear hw6 k1 hct7 hfz7 hb57 hbr7 hbr5 hb5 hb7 hh75 hl7 HS7 HOWN7 HS5
            have hsS := hS6.lt
            have hh76 := (hst6.lt h7 rfl).2
            have HST6 := Lib.hid hst6
            have HS6 := Lib.hid hS6
            have HCR6 := Lib.hid hcr6
            have HP6 := Lib.hid hp6
            have hp60 := hp6.cell (j := 0) rfl
            have k0 := hS6.cell (j := 0) rfl
            have k1 := hS6.cell (j := 1) rfl
            have k2 := hS6.cell (j := 2) rfl
            have k3 := hS6.cell (j := 3) rfl
            have k4 := hS6.cell (j := 4) rfl
            clear hst6 hS6 hcr6 hp6
            by_cases hx0 : 0 ≤ x
            · have f1 : decide (0 ≤ x) = true := by simp [hx0]
              have HTE1 : Hid (fdS ⟨o, tn, x1, x2, vv⟩ v = ⟨1, tn, 0, 0, x⟩) := Lib.hid (by rw [HTO.out, if_pos hx0])
              have m0 := HS6.out.frozen 0
              have m1 := HS6.out.frozen 1
              have m2 := HS6.out.frozen 2
              have m3 := HS6.out.frozen 3
              have m4 := HS6.out.frozen 4
              clear hx0
              go_upto_region 17 with fail
              have hb67 : Below wr.heap.size w6 (((((w6.setCell ⟨wr.heap.size, 0, none⟩ (.int .i64 1)).setCell ⟨wr.heap.size, 1, none⟩ (.int .i64 (tn : Nat))).setCell ⟨wr.heap.size, 2, none⟩ (.int .i64 0)).setCell ⟨wr.heap.size, 3, none⟩ (.int .i64 0)).setCell ⟨wr.heap.size, 4, none⟩ (.int .i64 x)) := (((((Below.refl wr.heap.size w6).setCell (Nat.le_refl _) _).setCell (Nat.le_refl _) _).setCell (Nat.le_refl _) _).setCell (Nat.le_refl _) _).setCell (Nat.le_refl _) _
              have hS7 : Own (((((w6.setCell ⟨wr.heap.size, 0, none⟩ (.int .i64 1)).setCell ⟨wr.heap.size, 1, none⟩ (.int .i64 (tn : Nat))).setCell ⟨wr.heap.size, 2, none⟩ (.int .i64 0)).setCell ⟨wr.heap.size, 3, none⟩ (.int .i64 0)).setCell ⟨wr.heap.size, 4, none⟩ (.int .i64 x)) wr.heap.size 52 [.int .i64 1, .int .i64 (tn : Nat), .int .i64 0, .int .i64 0, .int .i64 x] := ((((HS6.out.set 0 (.int .i64 1)).set 1 (.int .i64 (tn : Nat))).set 2 (.int .i64 0)).set 3 (.int .i64 0)).set 4 (.int .i64 x)
              have hst7 := (ownsRow_setCell_other (ownsRow_setCell_other (ownsRow_setCell_other (ownsRow_setCell_other (ownsRow_setCell_other HST6.out (a := ⟨wr.heap.size, 0, none⟩) (fun e => hneT (ob_eqF e)) (.int .i64 1)) (a := ⟨wr.heap.size, 1, none⟩) (fun e => hneT (ob_eqF e)) (.int .i64 (tn : Nat))) (a := ⟨wr.heap.size, 2, none⟩) (fun e => hneT (ob_eqF e)) (.int .i64 0)) (a := ⟨wr.heap.size, 3, none⟩) (fun e => hneT (ob_eqF e)) (.int .i64 0)) (a := ⟨wr.heap.size, 4, none⟩) (fun e => hneT (ob_eqF e)) (.int .i64 x))
              obtain ⟨w9, hw9⟩ : ∃ w9, w9 = (((((w6.setCell ⟨wr.heap.size, 0, none⟩ (.int .i64 1)).setCell ⟨wr.heap.size, 1, none⟩ (.int .i64 (tn : Nat))).setCell ⟨wr.heap.size, 2, none⟩ (.int .i64 0)).setCell ⟨wr.heap.size, 3, none⟩ (.int .i64 0)).setCell ⟨wr.heap.size, 4, none⟩ (.int .i64 x)) := ⟨_, rfl⟩
              rw [← hw9] at hb67 hS7 hst7 ⊢
              clear hw9 k0 k1 k2 k3 k4 m0 m1 m2 m3 m4 hp60
              have hsS9 := hS7.lt
              have k0 := hS7.cell (j := 0) rfl
              have k1 := hS7.cell (j := 1) rfl
              have k2 := hS7.cell (j := 2) rfl
              have k3 := hS7.cell (j := 3) rfl
              have k4 := hS7.cell (j := 4) rfl
              have HST9 := Lib.hid hst7
              have HCR9 := Lib.hid (own_underF HCR6.out hb67 (fun g hg => (HCR.out.lt g hg).2))
              have HP9 := Lib.hid (HP6.out.below hb67 hps)
              have hp90 := HP9.out.cell (j := 0) rfl
              have hbr9 := hbr6.trans hb67
              clear hS7 hst7
              go_wp2_with (at_builtin; refine wpList_app' rfl (.tmp 57) (.tmp 59) 42 rfl (wo.heap.size + 1) 52 5 40 stepl_app (rv cSt r) rfl (own_below HCR9.out (by go_grown)) (cSt ⟨1, tn, 0, 0, x⟩) rfl rfl (fun h => by cases h) (cells_lit (by simp) (cSt ⟨1, tn, 0, 0, x⟩) _ rfl _) (cSt_one1 _) h63s hbigs (by simp; omega) ?_; intro A8 c8 w8 hown8 hg8 hb8 hk8; have hO8 : Own w8 wo.heap.size 44 [.slice A6 k c6, .int .i64 te, .int .i64 th, .int .i64 el] := Own.below (Own.alloc HP9.out _) hb8 (Nat.lt_succ_self _); have hc8 := hO8.cell (j := 0) rfl; have hf8 := hO8.frozen 0; have HO8 := Lib.hid hO8; clear hO8)
              have hv8 := (own_below HST9.out (by go_grown : Below w9.heap.size w9 (w9.alloc (.cells #[.int .i64 1, .int .i64 (tn : Nat), .int .i64 0, .int .i64 0, .int .i64 x] 52)))).kept hg8 (.inr fun e2 => Nat.not_le_of_lt (HCR.out.lt h7 e2.symm).2 hh7)
              have hv9 := own_rdI (own_farW hv8 (p := ⟨wo.heap.size, 0, none⟩) (show wo.heap.size < wr.heap.size from hps) (.slice A8 (k + 1) c8)) (by rw [List.length_set, HVL.out])
              have hb9 : Below wo.heap.size wo (w8.setCell ⟨wo.heap.size, 0, none⟩ (.slice A8 (k + 1) c8)) := ((hbi.trans ((hbr9.mono hsi).trans ((by go_grown : Below w9.heap.size w9 (w9.alloc (.cells #[.int .i64 1, .int .i64 (tn : Nat), .int .i64 0, .int .i64 0, .int .i64 x] 52))).mono (by have := hbr9.size; omega)))).trans (hb8.mono (Nat.le_succ _))).setCell (Nat.le_refl _) _
              have HV9 := Lib.hid hv9
              clear hv8 hv9
              go_round
              case rel => exact ⟨k + 1, _, _, A8, c8, h7, c7, by omega, by go_num, rfl, HST.out, HV9.out, hneS, HO8.out.set 0 (.slice A8 (k + 1) c8), own_farW (by rw [HTE1.out, rv_append, rv_one]; exact hown8) (p := ⟨wo.heap.size, 0, none⟩) (Nat.lt_succ_self _) _, hb9⟩
              case measure => (simp [intOf]; omega)
            · have f1 : decide (0 ≤ x) = false := by simp; omega
              have HTE1 : Hid (fdS ⟨o, tn, x1, x2, vv⟩ v = ⟨o, tn, x1, x2, vv⟩) := Lib.hid (by rw [HTO.out, if_neg hx0])
              clear hx0
              go_wp2_with (at_builtin; refine wpList_app' rfl (.tmp 57) (.tmp 59) 42 rfl (wo.heap.size + 1) 52 5 40 stepl_app (rv cSt r) rfl (own_below HCR6.out (by go_grown)) (cSt ⟨o, tn, x1, x2, vv⟩) rfl rfl (fun h => by cases h) (cells_lit (by simp) (cSt ⟨o, tn, x1, x2, vv⟩) _ rfl _) (cSt_one1 _) h63s hbigs (by simp; omega) ?_; intro A8 c8 w8 hown8 hg8 hb8 hk8; have hO8 : Own w8 wo.heap.size 44 [.slice A6 k c6, .int .i64 te, .int .i64 th, .int .i64 el] := Own.below (Own.alloc HP6.out _) hb8 (Nat.lt_succ_self _); have hc8 := hO8.cell (j := 0) rfl; have hf8 := hO8.frozen 0; have HO8 := Lib.hid hO8; clear hO8)
              have hv8 := (own_below HST6.out (by go_grown : Below w6.heap.size w6 (w6.alloc (.cells #[.int .i64 o, .int .i64 (tn : Nat), .int .i64 x1, .int .i64 x2, .int .i64 vv] 52)))).kept hg8 (.inr fun e2 => Nat.not_le_of_lt (HCR.out.lt h7 e2.symm).2 hh7)
              have hv9 := own_rdI (own_farW hv8 (p := ⟨wo.heap.size, 0, none⟩) (show wo.heap.size < wr.heap.size from hps) (.slice A8 (k + 1) c8)) (by rw [List.length_set, HVL.out])
              have hb9 : Below wo.heap.size wo (w8.setCell ⟨wo.heap.size, 0, none⟩ (.slice A8 (k + 1) c8)) := ((hbi.trans ((hbr6.mono hsi).trans ((by go_grown : Below w6.heap.size w6 (w6.alloc (.cells #[.int .i64 o, .int .i64 (tn : Nat), .int .i64 x1, .int .i64 x2, .int .i64 vv] 52))).mono (by have := hbr6.size; omega)))).trans (hb8.mono (Nat.le_succ _))).setCell (Nat.le_refl _) _
              have HV9 := Lib.hid hv9
              clear hv8 hv9
              go_round
              case rel => exact ⟨k + 1, _, _, A8, c8, h7, c7, by omega, by go_num, rfl, HST.out, HV9.out, hneS, HO8.out.set 0 (.slice A8 (k + 1) c8), own_farW (by rw [HTE1.out, rv_append, rv_one]; exact hown8) (p := ⟨wo.heap.size, 0, none⟩) (Nat.lt_succ_self _) _, hb9⟩
              case measure => (simp [intOf]; omega)
          · have hkl : k = cl := by omega
            subst hkl
            obtain ⟨hd1, hd2⟩ := HFD.out.done (by rw [HCL.out]; exact Nat.le_refl _)
            have HV1 := Lib.hid hd1
            have HV2 := Lib.hid hd2
            have HVOK := Lib.hid HFD.out.ok
            have HRL := Lib.hid HFD.out.len
            have HTK := Lib.hid (fdP_take HD.out HA.out)
            have HLIT : Hid (∀ te' th' el' : Int, cBk ((⟨r, te', th', el'⟩ : Bk), A6, c6) = [.slice A6 k c6, .int .i64 te', .int .i64 th', .int .i64 el']) := Lib.hid fun te' th' el' => by unfold cBk; rw [HRL.out]
            have HAPP : Hid (∀ (W w8 : World) (te' th' el' : Int) (A8 : Option Addr) (c8 : Nat), Below wo.heap.size wr W → W.ownsRow (wo.heap.size + 1) 52 5 (.slice A6 k c6) k (rv cSt r) → fdB ⟨code, te, th, el⟩ a = ⟨r, te', th', el'⟩ → w8.ownsRow wk.heap.size 44 4 (.slice A8 (i + 1) c8) (i + 1) (rv cBk qs ++ [.slice A6 k c6, .int .i64 te', .int .i64 th', .int .i64 el']) → (W.alloc (.cells #[.slice A6 k c6, .int .i64 te', .int .i64 th', .int .i64 el'] 44)).grownBy w8 (Value.slice A5 i c5).ownBlock → Below wk.heap.size (W.alloc (.cells #[.slice A6 k c6, .int .i64 te', .int .i64 th', .int .i64 el'] 44)) w8 → ((Value.slice A8 (i + 1) c8).ownBlock = (Value.slice A5 i c5).ownBlock ∨ (Value.slice A8 (i + 1) c8).ownBlock = some (W.alloc (.cells #[.slice A6 k c6, .int .i64 te', .int .i64 th', .int .i64 el'] 44)).heap.size) → GrB w8 wk.heap.size A8 (i + 1) c8 (qs ++ [((⟨r, te', th', el'⟩ : Bk), A6, c6)]) ∧ (qs ++ [((⟨r, te', th', el'⟩ : Bk), A6, c6)]).map (·.1) = (fdP p X).take (i + 1) ∧ Below wk.heap.size wk w8) := Lib.hid fun W w8 te' th' el' A8 c8 hW hrowW he hown hg hb hk => by
              have hWo := hbi.trans hW
              have hbX := hWo.trans ((by go_grown : Below W.heap.size W (W.alloc (.cells #[.slice A6 k c6, .int .i64 te', .int .i64 th', .int .i64 el'] 44))).mono hWo.size)
              refine ⟨HGR.out.app (q := (⟨r, te', th', el'⟩, A6, c6)) hbX hszr ?_ (by rw [HRL.out]; exact own_capB hrowW) ?_ (by rw [HLIT.out]; exact hown) hg hk, ?_, hbr.trans ((hbX.mono hszr).trans hb)⟩
              · exact own_rdR (own_below hrowW (by go_grown)) HRL.out
              · intro ad hA
                have hA : A6 = some ad := hA
                have := hrowW.lt ad.block (by rw [hA]; rfl)
                have h2 : W.heap.size ≤ (W.alloc (.cells #[.slice A6 k c6, .int .i64 te', .int .i64 th', .int .i64 el'] 44)).heap.size := by simp
                omega
              · rw [HTK.out, List.map_append, HQS.out, he]
                rfl
            have hbo := hbi.size
            have a0 := hp.cell (j := 0) rfl
            have a1 := hp.cell (j := 1) rfl
            have a2 := hp.cell (j := 2) rfl
            have a3 := hp.cell (j := 3) rfl
            have HHV := Lib.hid hrv
            have HHB : Hid (Below wo.heap.size wo wr) := Lib.hid hbi
            clear hd1 hd2 hp hcr hrv
            rcases HTE.out with hte | hte
            · have HQ : Hid (fdB ⟨code, te, th, el⟩ a = ⟨r, te, th, el⟩) := Lib.hid (by unfold fdB; rw [if_neg HANE.out, if_neg (fun h => by simp only [] at h; omega), HV1.out])
              have f1 : decide (0 ≤ te) = false := by simp; omega
              clear hte
              go_wp2_with (at_builtin; refine wpList_app' rfl (.tmp 82) (.tmp 84) 22 rfl wk.heap.size 44 4 48 block_app (rv cBk qs) rfl (own_below (own_below HGR.out.own (HHB.out.trans (Below.refl _ _))) (by go_grown)) [.slice A6 k c6, .int .i64 te, .int .i64 th, .int .i64 el] rfl rfl (fun h => by cases h) (cells_lit (by simp) [.slice A6 k c6, .int .i64 te, .int .i64 th, .int .i64 el] _ rfl _) (by rw [← HLIT.out]; exact cBk_one1 _) h63 hbig (by have := (HHB.out.trans (Below.refl _ _)).size; simp; omega) ?_; intro A8 c8 w8 hown8 hg8 hb8 hk8)
              obtain ⟨z1, z2, z3⟩ := HAPP.out wr w8 te th el A8 c8 (Below.refl _ _) HCR.out HQ.out hown8 hg8 hb8 hk8
              go_round
              case rel => exact ⟨i + 1, A8, c8, _, by omega, by go_num, rfl, z1, z2, z3⟩
              case measure => (simp [intOf]; omega)
            · obtain ⟨tn, rfl⟩ := Int.eq_ofNat_of_zero_le hte.1
              have htn : tn < n := by omega
              obtain ⟨a8, x, e8, hbl8, hx8, hcx⟩ := HHV.out.at_ (k := tn) (by rw [HVL.out]; exact htn)
              injection e8 with e8
              subst e8
              rw [addr_zero_add] at hcx
              have hxb := HVOK.out.2 _ _ hx8
              have HGX : Hid ((bhK code a).getD ((tn : Int)).toNat 0 = x) := Lib.hid (by rw [HV2.out, Int.toNat_natCast]; exact getD_at hx8)
              have HGV : Hid (v.getD ((tn : Int)).toNat 0 = x) := Lib.hid (by rw [Int.toNat_natCast]; exact getD_at hx8)
              have f1 : decide (0 ≤ (tn : Int)) = true := by simp
              clear hte hx8
              by_cases hx1 : x = -1
              · have HQ : Hid (fdB ⟨code, (tn : Int), th, el⟩ a = ⟨r, (tn : Int), th, el⟩) := Lib.hid (by unfold fdB; rw [if_neg HANE.out, if_neg (fun h => by simp only [HGX.out] at h; omega), HV1.out])
                have f2 : decide (0 ≤ x) = false := by simp; omega
                clear hx1
                go_wp2_with (at_builtin; refine wpList_app' rfl (.tmp 82) (.tmp 84) 22 rfl wk.heap.size 44 4 48 block_app (rv cBk qs) rfl (own_below (own_below HGR.out.own (HHB.out.trans (Below.refl _ _))) (by go_grown)) [.slice A6 k c6, .int .i64 (tn : Nat), .int .i64 th, .int .i64 el] rfl rfl (fun h => by cases h) (cells_lit (by simp) [.slice A6 k c6, .int .i64 (tn : Nat), .int .i64 th, .int .i64 el] _ rfl _) (by rw [← HLIT.out]; exact cBk_one1 _) h63 hbig (by have := (HHB.out.trans (Below.refl _ _)).size; simp; omega) ?_; intro A8 c8 w8 hown8 hg8 hb8 hk8)
                obtain ⟨z1, z2, z3⟩ := HAPP.out wr w8 (tn : Nat) th el A8 c8 (Below.refl _ _) HCR.out HQ.out hown8 hg8 hb8 hk8
                go_round
                case rel => exact ⟨i + 1, A8, c8, _, by omega, by go_num, rfl, z1, z2, z3⟩
                case measure => (simp [intOf]; omega)
              · have f2 : decide (0 ≤ x) = true := by simp; omega
                have HBR : Hid (BkOk n p.length ⟨r, (tn : Int), th, el⟩) := Lib.hid ⟨by rw [← HV1.out]; exact fdC_ok HCODE.out HKA.out, HTE.out, HTH.out, HEL.out⟩
                obtain ⟨to, HGK, HQ⟩ : ∃ to : Int, Hid (goK ⟨r, (tn : Int), th, el⟩ v = [to]) ∧ Hid (fdB ⟨code, (tn : Int), th, el⟩ a = ⟨r, -1, to, 0⟩) := by
                  by_cases hx0 : x = 0
                  · refine ⟨el, Lib.hid ?_, Lib.hid ?_⟩
                    · unfold goK
                      simp only [HGV.out]
                      rw [if_neg (by omega), if_neg (by omega), if_pos hx0]
                    · unfold fdB
                      rw [if_neg HANE.out, if_pos (by simp only [HGX.out]; omega), HV1.out]
                      have : goK ⟨code, (tn : Int), th, el⟩ (bhK code a) = [el] := by
                        unfold goK
                        simp only [HGX.out]
                        rw [if_neg (by omega), if_neg (by omega), if_pos hx0]
                      simp only [this, List.getD_cons_zero]
                  · refine ⟨th, Lib.hid ?_, Lib.hid ?_⟩
                    · unfold goK
                      simp only [HGV.out]
                      rw [if_neg (by omega), if_pos (by omega)]
                    · unfold fdB
                      rw [if_neg HANE.out, if_pos (by simp only [HGX.out]; omega), HV1.out]
                      have : goK ⟨code, (tn : Int), th, el⟩ (bhK code a) = [th] := by
                        unfold goK
                        simp only [HGX.out]
                        rw [if_neg (by omega), if_pos (by omega)]
                      simp only [this, List.getD_cons_zero]
                have HGO : Hid (Calls Try.prog 25 #[.agg #[.slice A6 k c6, .int .i64 (tn : Nat), .int .i64 th, .int .i64 el], .slice (some ⟨h3, 0, none⟩) n c3] wr fun e w' => ∃ aj cj, e = .returned (.slice (some aj) 1 cj) ∧ w'.cell? aj = some (.int .i64 to) ∧ aj.block < w'.heap.size ∧ Below wr.heap.size wr w') := Lib.hid ((goings_any n p.length A6 _ k c6 c3 r (tn : Int) th el v wr HHV.out HVOK.out HBR.out).mono fun e w' ⟨Aj, ⟨cj, h1⟩, h2, h4, h5⟩ => by
                  rw [HGK.out] at h1 h2
                  obtain ⟨aj, z, h6, h7, h8, h9⟩ := h2.at_ (k := 0) (by simp)
                  have ha0 : aj.add 0 = aj := by unfold Addr.add; split <;> simp_all
                  rw [ha0] at h7 h9
                  simp only [List.getElem?_cons_zero, Option.some.injEq] at h8
                  subst h8 h6
                  exact ⟨aj, cj, h1, h9, h7, h5⟩)
                clear hx1
                go_upto_region 23 with (go_at_call 25; (with_reducible refine HGO.out.mono ?_); rintro e w9 ⟨aj, cj, rfl, hcj, hbj, hb9⟩; have hp9 := HP.out.below hb9 hps; have g0 := hp9.cell (j := 0) rfl; have g1 := hp9.cell (j := 1) rfl; have g2 := hp9.cell (j := 2) rfl; have g3 := hp9.cell (j := 3) rfl; have y1 := hp9.frozen 1; have y2 := hp9.frozen 2; have y3 := hp9.frozen 3; have HP9 := Lib.hid hp9; clear hp9)
                have hp10 : Own (((w9.setCell ⟨wo.heap.size, 2, none⟩ (.int .i64 to)).setCell ⟨wo.heap.size, 1, none⟩ (.int .i64 (-1))).setCell ⟨wo.heap.size, 3, none⟩ (.int .i64 0)) wo.heap.size 44 [.slice A6 k c6, .int .i64 (-1), .int .i64 to, .int .i64 0] := ((HP9.out.set 2 (.int .i64 to)).set 1 (.int .i64 (-1))).set 3 (.int .i64 0)
                have hcr10 := own_farW (own_farW (own_farW (own_below HCR.out hb9) (p := ⟨wo.heap.size, 2, none⟩) (Nat.lt_succ_self _) (.int .i64 to)) (p := ⟨wo.heap.size, 1, none⟩) (Nat.lt_succ_self _) (.int .i64 (-1))) (p := ⟨wo.heap.size, 3, none⟩) (Nat.lt_succ_self _) (.int .i64 0)
                have hb10 : Below wo.heap.size wr (((w9.setCell ⟨wo.heap.size, 2, none⟩ (.int .i64 to)).setCell ⟨wo.heap.size, 1, none⟩ (.int .i64 (-1))).setCell ⟨wo.heap.size, 3, none⟩ (.int .i64 0)) := (((hb9.mono hsi).setCell (Nat.le_refl _) _).setCell (Nat.le_refl _) _).setCell (Nat.le_refl _) _
                obtain ⟨wz, hwz⟩ : ∃ wz, wz = (((w9.setCell ⟨wo.heap.size, 2, none⟩ (.int .i64 to)).setCell ⟨wo.heap.size, 1, none⟩ (.int .i64 (-1))).setCell ⟨wo.heap.size, 3, none⟩ (.int .i64 0)) := ⟨_, rfl⟩
                rw [← hwz] at hp10 hcr10 hb10 ⊢
                clear hwz g0 g1 g2 g3 y1 y2 y3 a0 a1 a2 a3 hcx HP9
                have a0 := hp10.cell (j := 0) rfl
                have a1 := hp10.cell (j := 1) rfl
                have a2 := hp10.cell (j := 2) rfl
                have a3 := hp10.cell (j := 3) rfl
                have HCR10 := Lib.hid hcr10
                have HB10 := Lib.hid hb10
                clear hp10 hcr10
                go_wp2_with (at_builtin; refine wpList_app' rfl (.tmp 82) (.tmp 84) 22 rfl wk.heap.size 44 4 48 block_app (rv cBk qs) rfl (own_below (own_below HGR.out.own (HHB.out.trans HB10.out)) (by go_grown)) [.slice A6 k c6, .int .i64 (-1), .int .i64 to, .int .i64 0] rfl rfl (fun h => by cases h) (cells_lit (by simp) [.slice A6 k c6, .int .i64 (-1), .int .i64 to, .int .i64 0] _ rfl _) (by rw [← HLIT.out]; exact cBk_one1 _) h63 hbig (by have := (HHB.out.trans HB10.out).size; simp; omega) ?_; intro A8 c8 w8 hown8 hg8 hb8 hk8)
                obtain ⟨z1, z2, z3⟩ := HAPP.out wz w8 (-1) to 0 A8 c8 HB10.out HCR10.out HQ.out hown8 hg8 hb8 hk8
                go_round
                case rel => exact ⟨i + 1, A8, c8, _, by omega, by go_num, rfl, z1, z2, z3⟩
                case measure => (simp [intOf]; omega)
    · have hil : i = len := by omega
      subst hil
      have HE : Hid (qs.map (·.1) = fdP p X) := Lib.hid (by rw [HQS.out, List.take_of_length_le (by rw [fdP_len HLE.out.sol.len, HL.out]; exact Nat.le_refl _)])
      go_wp2
      go_ret
      exact ⟨⟨A5, c5, X, rfl, by rw [← HE.out]; exact HGR.out.rd, HLE.out⟩, hbk.trans (hbr.mono hszk)⟩

end Go.Proofs.Ytdckagledddkdaa
