/-
  fact.spread, fact.alongSome, fact.Solve (I2).
-/
import Derived.Test.YtmbabbdcijgnoaaFactOpp
import Derived.Deep.RegionWith
namespace Go.Proofs.Ytmbabbdcijgnoaa
open Go.RowKit
set_option linter.unusedSimpArgs false
set_option linter.unusedVariables false
set_option maxRecDepth 100000

/-- a problem by value, its words' slices laid at A1, A2 -/
def lawV (lw : Lw) (len : Nat) (A1 : Option Addr) (c1 : Nat) (A2 : Option Addr) (c2 : Nat) : List Value := [.bool lw.bw, .bool lw.al, .slice A1 len c1, .slice A2 len c2, .int .u32 (lw.st : Nat)]

set_option maxHeartbeats 8000000 in
theorem spread_any (len : Nat) (AF : Option Addr) (cF : Nat) (fw : List Nat) (nx : List (List Int)) (R : Nat) (A1 : Option Addr) (c1 : Nat) (A2 : Option Addr) (c2 : Nat) (lw : Lw) (g : Nat) (F : List Nat) (w : World)
    (hf : RdU w g AF fw) (he : EgI nx fw (Fol nx lw.bw)) (hl : nx.length = len) (hc : ckWay nx = 0) (hR8 : R < 256) (hR : ∀ j, R.testBit j = true ↔ Com nx lw j) (hr : RdL w g A1 A2 lw)
    (hM : ∀ x ∈ lw.ma, x < 256) (hE : ∀ x ∈ lw.en, x < 256) (h1 : lw.ma.length = len) (h2 : lw.en.length = len) (hown : Own w g 24 (uv F)) (hI : FcI nx lw F) :
    Calls Try.prog 36 #[.slice AF len cF, .int .u32 (R : Nat), .agg #[.bool lw.bw, .bool lw.al, .slice A1 len c1, .slice A2 len c2, .int .u32 (lw.st : Nat)], .slice (some ⟨g, 0, none⟩) len len] w fun e w' => ∃ (ch : Bool) (F' : List Nat), e = .returned (.bool ch) ∧ Own w' g 24 (uv F') ∧ Spr nx lw F.sum F' ch (SpD len 0) ∧ Below g w w' := by
  obtain ⟨b1, b2, b3⟩ := ckWay_bd hc
  have HC := Lib.hid hc
  have HL := Lib.hid hl
  have HE := Lib.hid he
  have HFL : Hid (fw.length = len) := Lib.hid (he.len.trans hl)
  have HRC := Lib.hid hR
  have HF := Lib.hid hf
  have HRL := Lib.hid hr
  have HS0 := Lib.hid (Spr.start hI)
  have HFULL : Hid (∀ (s0 : Nat) (F : List Nat) (ch : Bool) (i : Nat), Spr nx lw s0 F ch (SpD i len) → Spr nx lw s0 F ch (SpD (i + 1) 0)) := Lib.hid fun s0 F ch i h => Spr.full hc (by rw [hl]; exact h)
  have HGO : Hid (∀ (s0 : Nat) (F : List Nat) (ch : Bool) (D E : Nat → Nat → Prop) (v t V T : Nat), Spr nx lw s0 F ch D → Com nx lw v → t ∈ sc (dirG nx lw) v → F[v]? = some V → F[t]? = some T → T ||| behW lw (v : Int) V ≠ T → Spr nx lw s0 (F.set t (T ||| behW lw (v : Int) V)) true E) := Lib.hid fun s0 F ch D E v t V T h hv ht hV hT hne => h.go hE hM hv ht hV hT hne
  have HBH := Lib.hid (fun (v s : Nat) (w2 : World) (h3 : RdL w2 w2.heap.size A1 A2 lw) (h4 : v < len) (h5 : s < 256) => behind_any A1 c1 A2 c2 lw v s w2 h3 hM hE (by omega) (by omega) (by omega) h5)
  rw [h1, h2] at HBH
  have HBL : Hid (∀ (v s : Nat), s < 256 → behW lw (v : Int) s < 256) := Lib.hid fun v s hs => behW_lt hE hM hs _
  obtain ⟨s0, hs0⟩ : ∃ s, F.sum = s := ⟨_, rfl⟩
  rw [hs0] at HS0 ⊢
  obtain ⟨st, hst⟩ : ∃ n, lw.st = n := ⟨_, rfl⟩
  obtain ⟨bw, hbw⟩ : ∃ b, lw.bw = b := ⟨_, rfl⟩
  obtain ⟨al, hal⟩ : ∃ b, lw.al = b := ⟨_, rfl⟩
  rw [hst, hbw, hal] at HBH
  rw [hst, hbw, hal]
  rw [hl] at b1 b2
  have hgl := hown.lt
  have hb0 : Below g w (w.alloc (.cells #[.bool bw, .bool al, .slice A1 len c1, .slice A2 len c2, .int .u32 (st : Nat)] 26)) := Below.mono (by go_grown : Below w.heap.size w _) (by omega)
  have hbox0 : Own (w.alloc (.cells #[.bool bw, .bool al, .slice A1 len c1, .slice A2 len c2, .int .u32 (st : Nat)] 26)) w.heap.size 26 [.bool bw, .bool al, .slice A1 len c1, .slice A2 len c2, .int .u32 (st : Nat)] := Own.new w _ _
  have hown0 := hown.alloc (.cells #[.bool bw, .bool al, .slice A1 len c1, .slice A2 len c2, .int .u32 (st : Nat)] 26)
  clear hl hc b3 he hR hf hr hM hE h1 h2 hI hs0 hst hbw hal hown
  go_enter Try.func36, Try.ntmps36
  go_wp2
  go_loopw [9, 16] (fun s z wr => ∃ (i : Nat) (ch : Bool) (F1 : List Nat), i ≤ len ∧ z = .int .i64 i ∧ s = .bool ch ∧ Spr nx lw s0 F1 ch (SpD i 0) ∧ Own wr g 24 (uv F1) ∧ Own wr w.heap.size 26 [.bool bw, .bool al, .slice A1 len c1, .slice A2 len c2, .int .u32 (st : Nat)] ∧ Below g w wr) (fun _ z _ => len - (intOf z).toNat)
  case atStart => exact ⟨0, false, F, Nat.zero_le _, rfl, rfl, HS0.out, hown0, hbox0, hb0⟩
  case round =>
    obtain ⟨i, ch, F1, hi, rfl, rfl, hsp, hown1, hbox1, hb1⟩ := hrel
    have HSP := Lib.hid hsp
    clear hsp
    by_cases hlt : i < len
    · obtain ⟨aw, W, rfl, hbW, hdW, hcW⟩ := (HF.out.below hb1 (Nat.le_refl _)).at_ (k := i) (by rw [HFL.out]; exact hlt)
      have hW8 := HE.out.lt i W hdW
      have HW := Lib.hid (HE.out.mem i W hdW)
      have hW32 : W < 4294967296 := by omega
      have hR32 : R < 4294967296 := by omega
      have hi32 : i < 32 := by omega
      obtain ⟨rt, hrt⟩ : ∃ t, R.testBit i = t := ⟨_, rfl⟩
      have HRT := Lib.hid hrt
      clear hdW hrt
      cases rt with
      | false =>
        have HN := Lib.hid (HSP.out.over fun h => by have := (HRC.out i).2 h; rw [HRT.out] at this; cases this)
        go_wp2_with (go_at_call 35; (with_reducible refine (wayHas_any R i _ hR32 hi32).mono ?_); rw [HRT.out]; rintro e w5 ⟨rfl, rfl⟩)
        go_round
        case rel => exact ⟨i + 1, ch, F1, by omega, by go_num, rfl, HN.out, hown1, hbox1, hb1⟩
        case measure => (simp [intOf]; omega)
      | true =>
        have HCOM := Lib.hid ((HRC.out i).1 HRT.out)
        obtain ⟨wi, rfl⟩ : ∃ wi : World, wi = wr := ⟨_, rfl⟩
        go_wp2_with (go_at_call 35; (with_reducible refine (wayHas_any R i _ hR32 hi32).mono ?_); rw [HRT.out]; rintro e w5 ⟨rfl, rfl⟩)
        go_loopw [9, 27] (fun s z wr => ∃ (c : Nat) (ch2 : Bool) (F2 : List Nat), c ≤ len ∧ z = .int .i64 c ∧ s = .bool ch2 ∧ Spr nx lw s0 F2 ch2 (SpD i c) ∧ Own wr g 24 (uv F2) ∧ Own wr w.heap.size 26 [.bool bw, .bool al, .slice A1 len c1, .slice A2 len c2, .int .u32 (st : Nat)] ∧ Below g w wr) (fun _ z _ => len - (intOf z).toNat)
        case atStart => exact ⟨0, ch, F1, Nat.zero_le _, rfl, rfl, HSP.out, hown1, hbox1, hb1⟩
        case round =>
          obtain ⟨c, ch2, F2, hc2, rfl, rfl, hsp2, hown2, hbox2, hb2⟩ := hrel
          have HSP2 := Lib.hid hsp2
          clear hsp2
          by_cases hct : c < len
          · have hfl : F2.length = len := HSP2.out.inv.len.trans HL.out
            obtain ⟨V, hV⟩ : ∃ V, F2[i]? = some V := ⟨_, List.getElem?_eq_getElem (by omega)⟩
            obtain ⟨T, hT⟩ : ∃ T, F2[c]? = some T := ⟨_, List.getElem?_eq_getElem (by omega)⟩
            have hV8 := HSP2.out.inv.lt i V hV
            have hT8 := HSP2.out.inv.lt c T hT
            have HV := Lib.hid hV
            have HT := Lib.hid hT
            have hgl2 := hown2.lt
            have hbl2 := hbox2.lt
            have hc32 : c < 32 := by omega
            have hb28 := HBL.out i V hV8
            have hX8 : T ||| behW lw (i : Int) V < 256 := Nat.or_lt_two_pow (n := 8) hT8 hb28
            have hor : bits .or .u32 ((T : Nat) : Int) ((behW lw (i : Int) V : Nat) : Int) = ((T ||| behW lw (i : Int) V : Nat) : Int) := u32_or_nat _ _ (by omega) (by omega)
            have hrr := ((HRL.out.below hb2 (Nat.le_refl _)).more (Nat.le_of_lt hgl2))
            have HCALL := Lib.hid (HBH.out i V wr.drew (show RdL wr.drew wr.drew.heap.size A1 A2 lw from ⟨hrr.ma, hrr.en⟩) hlt hV8)
            obtain ⟨Y, hY⟩ : ∃ Y, behW lw (i : Int) V = Y := ⟨_, rfl⟩
            rw [hY] at hor hX8 HCALL hb28
            have HY := Lib.hid hY
            obtain ⟨X, hX⟩ : ∃ X, T ||| Y = X := ⟨_, rfl⟩
            rw [hX] at hor hX8
            have HX := Lib.hid hX
            have HOR := Lib.hid hor
            have l1 := hown2.cell (uv_at hV)
            have l2 := hown2.cell (uv_at hT)
            have l3 := hown2.frozen c
            have a0 := hbox2.cell (j := 0) rfl
            have a1 := hbox2.cell (j := 1) rfl
            have a2 := hbox2.cell (j := 2) rfl
            have a3 := hbox2.cell (j := 3) rfl
            have a4 := hbox2.cell (j := 4) rfl
            have HOWN2 := Lib.hid hown2
            have HBOX2 := Lib.hid hbox2
            obtain ⟨bt, hbt⟩ : ∃ t, W.testBit c = t := ⟨_, rfl⟩
            have HBT := Lib.hid hbt
            have HSET := Lib.hid (fun (Z : World) (h : Own Z g 24 (uv F2)) => OwnU.set h c X)
            have HNO : Hid (bt = false → okF nx lw F2 i c) := Lib.hid fun e _ hd => by
              have := (HW.out c).2 ((Fol.dir HC.out).2 hd)
              rw [hbt, e] at this
              cases this
            have HEQ : Hid (X = T → okF nx lw F2 i c) := Lib.hid fun e _ _ V' T' hV' hT' => by
              rw [HV.out] at hV'
              rw [HT.out] at hT'
              injection hV' with hV'
              injection hT' with hT'
              rw [← hV', ← hT', HY.out, HX.out, e]
            have HNEW : Hid (bt = true → X ≠ T → Spr nx lw s0 (F2.set c X) true (SpD i (c + 1))) := Lib.hid fun e hne => by
              have := HGO.out s0 F2 ch2 _ (SpD i (c + 1)) i c V T HSP2.out HCOM.out ((Fol.dir HC.out).1 ((HW.out c).1 (by rw [hbt, e]))) HV.out HT.out (by rw [HY.out, HX.out]; exact hne)
              rw [HY.out, HX.out] at this
              exact this
            clear hV hT hY hX hor hfl hown2 hbox2 hbt
            go_wp2_with fail
            go_region_with ((go_at_call 27; (with_reducible refine HCALL.out.mono ?_); rintro e w5 ⟨rfl, hb5⟩; have hO5 := (show Own wr.drew g 24 (uv F2) from HOWN2.out).below hb5 hgl2; have l5 := hO5.cell (uv_at HT.out); have l6 := hO5.frozen c; have l7 := hO5.cell (uv_at HV.out)))
            all_goals
              have hO6 := (show Own wr.drew w.heap.size 26 [.bool bw, .bool al, .slice A1 len c1, .slice A2 len c2, .int .u32 (st : Nat)] from HBOX2.out).below hb5 hbl2
              have hb6 : Below g w w5 := hb2.trans (Below.mono (B := wr.heap.size) ⟨hb5.os, hb5.tape, hb5.output, hb5.size, hb5.block⟩ (Nat.le_of_lt hgl2))
              clear l1 l2 l3 a0 a1 a2 a3 a4 l7
              cases bt with
              | false =>
                have HN := Lib.hid (HSP2.out.stay (HNO.out rfl))
                go_wp2_with (go_at_call 35; (with_reducible refine (wayHas_any W c _ hW32 hc32).mono ?_); rw [HBT.out]; rintro e w7 ⟨rfl, rfl⟩)
                go_round
                case rel => exact ⟨c + 1, ch2, F2, by omega, by go_num, rfl, HN.out, hO5, hO6, hb6⟩
                case measure => (simp [intOf]; omega)
              | true =>
                by_cases hXT : X = T
                · have HN := Lib.hid (HSP2.out.stay (HEQ.out hXT))
                  have hne : (bits .or .u32 ((T : Nat) : Int) ((Y : Nat) : Int) != ((T : Nat) : Int)) = false := by rw [HOR.out]; simp [hXT]
                  clear hXT
                  go_wp2_with (go_at_call 35; (with_reducible refine (wayHas_any W c _ hW32 hc32).mono ?_); rw [HBT.out]; rintro e w7 ⟨rfl, rfl⟩)
                  go_round
                  case rel => exact ⟨c + 1, ch2, F2, by omega, by go_num, rfl, HN.out, hO5, hO6, hb6⟩
                  case measure => (simp [intOf]; omega)
                · have HN := Lib.hid (HNEW.out rfl hXT)
                  have hne : (bits .or .u32 ((T : Nat) : Int) ((Y : Nat) : Int) != ((T : Nat) : Int)) = true := by rw [HOR.out]; simp; omega
                  have HST := Lib.hid (HSET.out w5 hO5)
                  clear hXT
                  go_wp2_with (go_at_call 35; (with_reducible refine (wayHas_any W c _ hW32 hc32).mono ?_); rw [HBT.out]; rintro e w7 ⟨rfl, rfl⟩)
                  go_round
                  case rel => exact ⟨c + 1, true, F2.set c X, by omega, by go_num, rfl, HN.out, by rw [HOR.out]; exact HST.out, hO6.far (by simp; omega) _, hb6.setCell (show g ≤ (⟨g, c, none⟩ : Addr).block from Nat.le_refl _) _⟩
                  case measure => (simp [intOf]; omega)
          · have hce : c = len := by omega
            have HN := Lib.hid (HFULL.out s0 F2 ch2 i (by rw [← hce]; exact HSP2.out))
            clear hce
            go_wp2
            go_round
            case rel => exact ⟨i + 1, ch2, F2, by omega, by go_num, rfl, HN.out, hown2, hbox2, hb2⟩
            case measure => (simp [intOf]; omega)
    · have hil : i = len := by omega
      have HE2 : Hid (Spr nx lw s0 F1 ch (SpD len 0)) := Lib.hid (by rw [← hil]; exact HSP.out)
      clear hil
      go_wp2
      go_ret
      exact ⟨ch, F1, rfl, hown1, HE2.out, hb1⟩

end Go.Proofs.Ytmbabbdcijgnoaa
