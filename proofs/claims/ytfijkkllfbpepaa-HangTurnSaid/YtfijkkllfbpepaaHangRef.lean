/-
  codemasonref.ends, Sure, Hangs (H1, H2).
-/
import Derived.Test.YtfijkkllfbpepaaRuleRef
import Derived.Test.YtfijkkllfbpepaaPureHang
namespace Go.Proofs.Ytfijkkllfbpepaa
open Go.RowKit
set_option linter.unusedSimpArgs false
set_option linter.unusedVariables false
set_option maxRecDepth 100000

theorem sc_nil {nx : List (List Int)} {j : Nat} : sc nx j = [] ↔ (ni (sc nx j)).length = 0 := by simp [ni]

set_option maxHeartbeats 4000000 in
theorem refEnds_any (T : Bool) (A : Option Addr) (len cap : Nat) (nx : List (List Int)) (i : Nat) (wo : Int) (w : World) (hT : T = true ↔ EndP nx wo i) (hx : RdG w w.heap.size A nx) (hl : nx.length = len) (hc : ckWay nx = 0) (hi : i < len) :
    Calls Try.prog 21 #[.slice A len cap, .int .i64 i, .int .i64 wo] w fun e w' => e = .returned (.bool T) ∧ Below w.heap.size w w' := by
  obtain ⟨b1, b2, _⟩ := ckWay_bd hc
  have HC := Lib.hid hc
  have HL := Lib.hid hl
  have HT := Lib.hid hT
  rw [hl] at b1 b2
  clear hl hc hT
  go_enter Try.func21, Try.ntmps21
  go_wp2_with fail
  refine (refReach_any A len cap nx i wo _ hx HL.out HC.out hi).mono ?_
  rintro e w1 ⟨hs, A1, c1, hrc, rfl, hr1, hb1⟩
  have hhl := hrc.len
  rw [HL.out] at hhl
  have hx1 := (hx.below hb1 (Nat.le_refl _)).more hb1.size
  have HRC := Lib.hid hrc
  obtain ⟨n, hn⟩ : ∃ n, hs.length = n := ⟨_, rfl⟩
  rw [hn] at hhl ⊢
  have HN := Lib.hid hn
  have HNL : Hid ((ni hs).length = n) := Lib.hid (by simp [ni, hn])
  clear hrc hn
  go_wp2
  go_loop [14] (fun z => ∃ k : Nat, k ≤ n ∧ z = .int .i64 k ∧ ∀ x ∈ hs.take k, sc nx x ≠ []) (fun z => n - (intOf z).toNat)
  case atStart => exact ⟨0, Nat.zero_le _, rfl, fun x hx => by simp at hx⟩
  case round =>
    obtain ⟨k, hk, rfl, hno⟩ := hrel
    have HNO := Lib.hid hno
    clear hno
    by_cases hlt : k < n
    · obtain ⟨ad1, x', rfl, hbl1, hd1, hc1⟩ := hr1.at_ (k := k) (by rw [HNL.out]; exact hlt)
      obtain ⟨x, hxx⟩ : ∃ x, hs[k]? = some x := ⟨_, List.getElem?_eq_getElem (by rw [HN.out]; exact hlt)⟩
      rw [ni_at hxx] at hd1
      injection hd1 with hd1
      subst hd1
      have hxm := List.mem_of_getElem? hxx
      have hxl := HRC.out.lt x hxm
      rw [HL.out] at hxl
      have HXR := Lib.hid ((HRC.out.mem x).1 hxm)
      obtain ⟨ad, row, Ar, cr, rfl, hbl, hd, hcell, hrow⟩ := hx1.at_ (k := x) (by rw [HL.out]; exact hxl)
      have hrs := row_sc HC.out hd
      subst hrs
      have HTK := Lib.hid (fun y => take_mem (f := y) hxx)
      clear hd hxx hxm
      by_cases hs0 : sc nx x = []
      · have h0 : (ni (sc nx x)).length = 0 := by simp [ni, hs0]
        rw [h0] at hcell
        have HTT := Lib.hid (HT.out.2 ⟨x, HXR.out, hs0⟩)
        clear hs0 h0
        go_wp2
        go_ret
        exact ⟨ret_bool HTT.out.symm, hb1⟩
      · have h0 : ((((ni (sc nx x)).length : Nat) : Int) == 0) = false := by
          have : (ni (sc nx x)).length ≠ 0 := fun h => hs0 (sc_nil.2 h)
          simp [this]
        obtain ⟨sl, hsl⟩ : ∃ sl, (ni (sc nx x)).length = sl := ⟨_, rfl⟩
        rw [hsl] at hcell h0
        have HS0 := Lib.hid hs0
        clear hs0 hsl
        go_wp2
        go_round
        case rel =>
          refine ⟨k + 1, by omega, by go_num, fun y hy => ?_⟩
          rcases (HTK.out y).1 hy with hy | rfl
          · exact HNO.out y hy
          · exact HS0.out
        case measure => (simp [intOf]; omega)
    · have htk : hs.take k = hs := List.take_of_length_le (by rw [HN.out]; omega)
      rw [htk] at HNO
      have HTF : Hid (T = false) := Lib.hid (by
        cases h : T with
        | false => rfl
        | true =>
          obtain ⟨j, h1, h2⟩ := HT.out.1 h
          exact absurd h2 (HNO.out j ((HRC.out.mem j).2 h1)))
      clear htk
      go_wp2
      go_ret
      exact ⟨ret_bool HTF.out.symm, hb1⟩

set_option maxHeartbeats 4000000 in
theorem refSure_any (f : Nat → Nat → Bool) (A : Option Addr) (len cap : Nat) (nx : List (List Int)) (i k : Nat) (w : World) (hf : ∀ i k, f i k = true ↔ SureP nx i k) (hx : RdG w w.heap.size A nx) (hl : nx.length = len) (hc : ckWay nx = 0) (hi : i < len) :
    Calls Try.prog 10 #[.slice A len cap, .int .i64 i, .int .i64 k] w fun e w' => e = .returned (.bool (f i k)) ∧ Below w.heap.size w w' := by
  have HC := Lib.hid hc
  have HL := Lib.hid hl
  obtain ⟨b1, hb1⟩ := bool_of (EndP nx (-1) i)
  obtain ⟨b2, hb2⟩ := bool_of (EndP nx (k : Int) i)
  have hr : f i k = (b1 && (decide (i = k) || !b2)) := by
    rw [Bool.eq_iff_iff, hf]
    unfold SureP
    simp only [Bool.and_eq_true, Bool.or_eq_true, decide_eq_true_eq, Bool.not_eq_true', hb1]
    cases b2 with
    | true => simp only [true_iff] at hb2; simp [hb2]
    | false => simp only [Bool.false_eq_true, false_iff] at hb2; simp [hb2]
  rw [hr]
  have HB1 := Lib.hid hb1
  have HB2 := Lib.hid hb2
  clear hr hb1 hb2 hf hl hc
  go_enter Try.func10, Try.ntmps10
  go_wp2_with fail
  refine (refEnds_any b1 A len cap nx i (-1) _ HB1.out hx HL.out HC.out hi).mono ?_
  rintro e w1 ⟨rfl, hw1⟩
  have hx1 := (hx.below hw1 (Nat.le_refl _)).more hw1.size
  cases b1 with
  | false =>
    go_wp2
    go_ret
    exact ⟨rfl, hw1⟩
  | true =>
    by_cases hik : i = k
    · subst hik
      go_wp2
      go_ret
      exact ⟨ret_bool (by simp), hw1⟩
    · have e0 : ((i : Int) == (k : Int)) = false := by simp; omega
      have HIK := Lib.hid hik
      clear hik
      go_wp2_with fail
      refine (refEnds_any b2 A len cap nx i (k : Int) _ HB2.out hx1 HL.out HC.out hi).mono ?_
      rintro e w2 ⟨rfl, hw2⟩
      have hw12 := hw1.trans (hw2.mono hw1.size)
      go_wp2
      go_ret
      exact ⟨ret_bool (by rw [decide_eq_false HIK.out]; cases b2 <;> rfl), hw12⟩

set_option maxHeartbeats 4000000 in
theorem refHangs_any (f g : Nat → Nat → Bool) (A : Option Addr) (len cap : Nat) (nx : List (List Int)) (i k : Nat) (w : World) (hf : ∀ i k, f i k = true ↔ SureP nx i k) (hg : ∀ i k, g i k = true ↔ HangP nx i k) (hx : RdG w w.heap.size A nx) (hl : nx.length = len) (hc : ckWay nx = 0) (hi : i < len) :
    Calls Try.prog 13 #[.slice A len cap, .int .i64 i, .int .i64 k] w fun e w' => e = .returned (.bool (g i k)) ∧ Below w.heap.size w w' := by
  have HC := Lib.hid hc
  have HL := Lib.hid hl
  have HF := Lib.hid hf
  have HSL3 := Lib.hid (sc_len hc i)
  have HSLT := Lib.hid (fun x => sc_lt hc (i := i) (x := x))
  have hgk := hg i k
  generalize g i k = T at *
  have HG := Lib.hid hgk
  obtain ⟨ad, row, Ar, cr, rfl, hbl, hd, hcell, hrow⟩ := hx.at_ (k := i) (by rw [hl]; exact hi)
  have hrs := row_sc hc hd
  subst hrs
  obtain ⟨ss, hss⟩ : ∃ ss, sc nx i = ss := ⟨_, rfl⟩
  have hnl : (ni ss).length = ss.length := by simp [ni]
  rw [hss] at hrow hcell
  rw [hnl] at hcell
  obtain ⟨sl, hsl⟩ : ∃ sl, ss.length = sl := ⟨_, rfl⟩
  rw [hsl] at hcell hnl
  have HSS := Lib.hid hss
  have HSL := Lib.hid hsl
  have HNL := Lib.hid hnl
  have hsl3 : sl ≤ 3 := by have := HSL3.out; rw [hss, hsl] at this; exact this
  clear hg hgk hl hc hf hd hss hsl hnl
  go_enter Try.func13, Try.ntmps13
  go_wp2
  go_loopw [14] (fun z wr => ∃ c : Nat, c ≤ sl ∧ z = .int .i64 c ∧ (∀ j ∈ ss.take c, ¬ (SureP nx j k ∧ (i = k ∨ ¬ SureP nx i k))) ∧ Below w.heap.size w wr) (fun z _ => sl - (intOf z).toNat)
  case atStart => exact ⟨0, Nat.zero_le _, rfl, fun x hx => by simp at hx, Below.refl _ _⟩
  case round =>
    obtain ⟨c, hc', rfl, hno, hb⟩ := hrel
    have HNO := Lib.hid hno
    have hsz := hb.size
    clear hno
    by_cases hct : c < sl
    · have hrowi : RdI wr w.heap.size Ar (ni ss) := hrow.below hb (Nat.le_refl _)
      obtain ⟨ar, x', rfl, hbr, hxr2, hcx⟩ := hrowi.at_ (k := c) (by rw [HNL.out]; exact hct)
      obtain ⟨x, hxx⟩ : ∃ x, ss[c]? = some x := ⟨_, List.getElem?_eq_getElem (by rw [HSL.out]; exact hct)⟩
      rw [ni_at hxx] at hxr2
      injection hxr2 with hxr2
      subst hxr2
      have hxm := List.mem_of_getElem? hxx
      have hxl := HSLT.out x (by rw [HSS.out]; exact hxm)
      rw [HL.out] at hxl
      have HXM : Hid (x ∈ sc nx i) := Lib.hid (by rw [HSS.out]; exact hxm)
      have HTK := Lib.hid (fun y => take_mem (f := y) hxx)
      have hxi := (hx.below hb (Nat.le_refl _)).more hsz
      obtain ⟨v1, hv1⟩ : ∃ v, f x k = v := ⟨_, rfl⟩
      obtain ⟨v2, hv2⟩ : ∃ v, f i k = v := ⟨_, rfl⟩
      have HV1 := Lib.hid hv1
      have HV2 := Lib.hid hv2
      have h1 := HF.out x k
      have h2 := HF.out i k
      rw [hv1] at h1
      rw [hv2] at h2
      have hgo : (¬ (SureP nx x k ∧ (i = k ∨ ¬ SureP nx i k))) → ∀ j ∈ ss.take (c + 1), ¬ (SureP nx j k ∧ (i = k ∨ ¬ SureP nx i k)) := fun hn j hj => by
        rcases (HTK.out j).1 hj with hj | rfl
        · exact HNO.out j hj
        · exact hn
      have HGO := Lib.hid hgo
      have H1 := Lib.hid h1
      have H2 := Lib.hid h2
      clear hv1 hv2 h1 h2 hgo hxx hxm
      go_wp2_with fail
      refine (refSure_any f _ len cap nx x k _ HF.out hxi HL.out HC.out hxl).mono ?_
      rw [HV1.out]
      rintro e w5 ⟨rfl, hb5⟩
      have hb15 := hb.trans (hb5.mono hsz)
      have hsz5 := hb15.size
      have hx5 := (hx.below hb15 (Nat.le_refl _)).more hsz5
      cases v1 with
      | false =>
        have HN := Lib.hid (HGO.out (fun h => by have := H1.out.2 h.1; cases this))
        go_wp2
        go_round
        case rel => exact ⟨c + 1, by omega, by go_num, HN.out, hb15⟩
        case measure => (simp [intOf]; omega)
      | true =>
        have HS1 := Lib.hid (H1.out.1 rfl)
        by_cases hik : i = k
        · have e0 : ((i : Int) == (k : Int)) = true := by simp; omega
          have HT := Lib.hid (HG.out.2 ⟨x, HXM.out, HS1.out, .inl hik⟩)
          clear hik
          go_wp2
          go_ret
          exact ⟨ret_bool HT.out.symm, hb15⟩
        · have e0 : ((i : Int) == (k : Int)) = false := by simp; omega
          have HIK := Lib.hid hik
          clear hik
          go_wp2_with fail
          refine (refSure_any f _ len cap nx i k _ HF.out hx5 HL.out HC.out hi).mono ?_
          rw [HV2.out]
          rintro e w6 ⟨rfl, hb6⟩
          have hb16 := hb15.trans (hb6.mono hsz5)
          cases v2 with
          | true =>
            have HN := Lib.hid (HGO.out (fun h => h.2.elim HIK.out fun q => q (H2.out.1 rfl)))
            go_wp2
            go_round
            case rel => exact ⟨c + 1, by omega, by go_num, HN.out, hb16⟩
            case measure => (simp [intOf]; omega)
          | false =>
            have HT := Lib.hid (HG.out.2 ⟨x, HXM.out, HS1.out, .inr fun h => by have := H2.out.2 h; cases this⟩)
            go_wp2
            go_ret
            exact ⟨ret_bool HT.out.symm, hb16⟩
    · have htk : ss.take c = ss := List.take_of_length_le (by rw [HSL.out]; omega)
      rw [htk] at HNO
      have HTF : Hid (T = false) := Lib.hid (by
        cases h : T with
        | false => rfl
        | true =>
          obtain ⟨j, h1, h2⟩ := HG.out.1 h
          rw [HSS.out] at h1
          exact absurd h2 (HNO.out j h1))
      clear htk
      go_wp2
      go_ret
      exact ⟨ret_bool HTF.out.symm, hb⟩

end Go.Proofs.Ytfijkkllfbpepaa
