/-
  codemasonref.Rules and Edge (F1, F2).
-/
import Derived.Test.YtpbajalecfaibaaReachRef
import Derived.Test.YtpbajalecfaibaaPureRule
namespace Go.Proofs.Ytpbajalecfaibaa
open Go.RowKit
set_option linter.unusedSimpArgs false
set_option linter.unusedVariables false
set_option maxRecDepth 100000

theorem has_iff {hs : List Nat} {j : Nat} {b : Bool} (h : j ∈ hs ↔ b = true) : hasB (ni hs) (j : Int) = b := by
  rw [Bool.eq_iff_iff, hasB_iff, ni_mem]
  exact h

theorem bool_of (P : Prop) : ∃ b : Bool, b = true ↔ P := by
  by_cases h : P
  · exact ⟨true, by simp [h]⟩
  · exact ⟨false, by simp [h]⟩

set_option maxHeartbeats 4000000 in
theorem refRules_any (f : Nat → Nat → Bool) (A : Option Addr) (len cap : Nat) (nx : List (List Int)) (i j : Nat) (w : World) (hf : ∀ i j, f i j = true ↔ Dom nx i j) (hx : RdG w w.heap.size A nx) (hl : nx.length = len) (hc : ckWay nx = 0) (hi : i < len) (hj : j < len) :
    Calls Try.prog 34 #[.slice A len cap, .int .i64 i, .int .i64 j] w fun e w' => e = .returned (.bool (f i j)) ∧ Below w.heap.size w w' := by
  obtain ⟨b1, b2, _⟩ := ckWay_bd hc
  have HC := Lib.hid hc
  have HL := Lib.hid hl
  rw [hl] at b1 b2
  obtain ⟨bi, hbi⟩ := bool_of (Rea nx (-1) 0 i)
  obtain ⟨bj, hbj⟩ := bool_of (Rea nx (-1) 0 j)
  obtain ⟨bn, hbn⟩ := bool_of (Rea nx (i : Int) 0 j)
  have hij : f i j = (bi && bj && (decide (i = j) || !bn)) := by
    rw [Bool.eq_iff_iff, hf]
    unfold Dom
    simp only [Bool.and_eq_true, Bool.or_eq_true, decide_eq_true_eq, Bool.not_eq_true', hbi, hbj, and_assoc]
    cases bn with
    | true => simp only [true_iff] at hbn; simp [hbn]
    | false => simp only [Bool.false_eq_true, false_iff] at hbn; simp [hbn]
  have HBI := Lib.hid hbi
  have HBJ := Lib.hid hbj
  have HBN := Lib.hid hbn
  rw [hij]
  clear hij hbi hbj hbn hf hl hc
  by_cases hne : i = j
  · subst hne
    have hbb : bi = bj := by rw [Bool.eq_iff_iff, HBI.out, HBJ.out]
    subst hbb
    rw [show (bi && bi && (decide (i = i) || !bn)) = bi by simp]
    go_enter Try.func34, Try.ntmps34
    go_wp2_with fail
    refine (refReach_any A _ cap nx 0 (-1) _ hx HL.out HC.out b1).mono ?_
    rintro e w1 ⟨hs, A1, c1, hrc, rfl, hr1, hb1⟩
    have hhl := hrc.len
    have hE1 : hasB (ni hs) (i : Int) = bi := has_iff (by rw [hrc.mem, HBI.out])
    have E1 := Lib.hid hE1
    rw [HL.out] at hhl
    have hx1 := (hx.below hb1 (Nat.le_refl _)).more hb1.size
    clear hrc hE1
    go_wp2_with fail
    refine (has_any _ A1 _ c1 (ni hs) _ _ hr1 (by simp [ni]) (by unfold maxLen; omega)).mono ?_
    rw [E1.out]
    rintro e w2 ⟨rfl, rfl⟩
    cases bi with
    | true =>
      go_wp2_with fail
      refine (refReach_any A _ cap nx 0 (-1) _ hx1 HL.out HC.out b1).mono ?_
      rintro e w2 ⟨hs2, A2, c2, hrc, rfl, hr2, hb2⟩
      have hhl2 := hrc.len
      have hE2 : hasB (ni hs2) (i : Int) = true := has_iff (by rw [hrc.mem]; have := HBJ.out; simpa using this)
      have E2 := Lib.hid hE2
      rw [HL.out] at hhl2
      have hb12 := hb1.trans (hb2.mono hb1.size)
      clear hrc hE2
      go_wp2_with fail
      refine (has_any _ A2 _ c2 (ni hs2) _ _ hr2 (by simp [ni]) (by unfold maxLen; omega)).mono ?_
      rw [E2.out]
      rintro e w3 ⟨rfl, rfl⟩
      go_wp2
      go_ret
      exact ⟨rfl, hb12⟩
    | false =>
      go_wp2
      go_ret
      exact ⟨rfl, hb1⟩
  · rw [show (bi && bj && (decide (i = j) || !bn)) = (bi && bj && !bn) by rw [decide_eq_false hne, Bool.false_or]]
    have e0 : ((i : Int) == (j : Int)) = false := by simp; omega
    clear hne
    go_enter Try.func34, Try.ntmps34
    go_wp2_with fail
    refine (refReach_any A _ cap nx 0 (-1) _ hx HL.out HC.out b1).mono ?_
    rintro e w1 ⟨hs, A1, c1, hrc, rfl, hr1, hb1⟩
    have hhl := hrc.len
    have hE1 : hasB (ni hs) (i : Int) = bi := has_iff (by rw [hrc.mem, HBI.out])
    have E1 := Lib.hid hE1
    rw [HL.out] at hhl
    have hx1 := (hx.below hb1 (Nat.le_refl _)).more hb1.size
    clear hrc hE1
    go_wp2_with fail
    refine (has_any _ A1 _ c1 (ni hs) _ _ hr1 (by simp [ni]) (by unfold maxLen; omega)).mono ?_
    rw [E1.out]
    rintro e w2 ⟨rfl, rfl⟩
    cases bi with
    | true =>
      go_wp2_with fail
      refine (refReach_any A _ cap nx 0 (-1) _ hx1 HL.out HC.out b1).mono ?_
      rintro e w2 ⟨hs2, A2, c2, hrc, rfl, hr2, hb2⟩
      have hhl2 := hrc.len
      have hE2 : hasB (ni hs2) (j : Int) = bj := has_iff (by rw [hrc.mem, HBJ.out])
      have E2 := Lib.hid hE2
      rw [HL.out] at hhl2
      have hb12 := hb1.trans (hb2.mono hb1.size)
      have hx2 := (hx.below hb12 (Nat.le_refl _)).more hb12.size
      clear hrc hE2
      go_wp2_with fail
      refine (has_any _ A2 _ c2 (ni hs2) _ _ hr2 (by simp [ni]) (by unfold maxLen; omega)).mono ?_
      rw [E2.out]
      rintro e w3 ⟨rfl, rfl⟩
      cases bj with
      | true =>
        go_wp2_with fail
        refine (refReach_any A _ cap nx 0 (i : Int) _ hx2 HL.out HC.out b1).mono ?_
        rintro e w3 ⟨hs3, A3, c3, hrc, rfl, hr3, hb3⟩
        have hhl3 := hrc.len
        have hE3 : hasB (ni hs3) (j : Int) = bn := has_iff (by rw [hrc.mem, HBN.out])
        have E3 := Lib.hid hE3
        rw [HL.out] at hhl3
        have hb13 := hb12.trans (hb3.mono hb12.size)
        clear hrc hE3
        go_wp2_with fail
        refine (has_any _ A3 _ c3 (ni hs3) _ _ hr3 (by simp [ni]) (by unfold maxLen; omega)).mono ?_
        rw [E3.out]
        rintro e w4 ⟨rfl, rfl⟩
        go_wp2
        go_ret
        exact ⟨ret_bool (by cases bn <;> rfl), hb13⟩
      | false =>
        go_wp2
        go_ret
        exact ⟨rfl, hb12⟩
    | false =>
      go_wp2
      go_ret
      exact ⟨rfl, hb1⟩

/-- the edge of i by the first k nodes -/
def EdK (nx : List (List Int)) (i k acc : Nat) : Prop := ∀ f, acc.testBit f = true ↔ ∃ q, q < k ∧ Dom nx i q ∧ f ∈ sc nx q ∧ (f = i ∨ ¬ Dom nx i f)

/-- .. and by the first c edges of node k -/
def EdC (nx : List (List Int)) (i : Nat) (ss : List Nat) (acc c acc' : Nat) : Prop := ∀ f, acc'.testBit f = true ↔ acc.testBit f = true ∨ (f ∈ ss.take c ∧ (f = i ∨ ¬ Dom nx i f))

theorem EdK.skip {nx : List (List Int)} {i k acc : Nat} (h : EdK nx i k acc) (hd : ¬ Dom nx i k) : EdK nx i (k + 1) acc := fun f => by
  rw [h]
  constructor
  · rintro ⟨q, h1, h2⟩; exact ⟨q, by omega, h2⟩
  · rintro ⟨q, h1, h2, h3⟩
    by_cases e : q = k
    · subst e; exact absurd h2 hd
    · exact ⟨q, by omega, h2, h3⟩

theorem EdK.take {nx : List (List Int)} {i k acc acc' : Nat} (h : EdK nx i k acc) (hd : Dom nx i k) (hc : EdC nx i (sc nx k) acc (sc nx k).length acc') : EdK nx i (k + 1) acc' := fun f => by
  rw [hc, h, List.take_length]
  constructor
  · rintro (⟨q, h1, h2⟩ | ⟨h1, h2⟩)
    · exact ⟨q, by omega, h2⟩
    · exact ⟨k, by omega, hd, h1, h2⟩
  · rintro ⟨q, h1, h2, h3, h4⟩
    by_cases e : q = k
    · subst e; exact .inr ⟨h3, h4⟩
    · exact .inl ⟨q, by omega, h2, h3, h4⟩

theorem take_mem {ss : List Nat} {c x f : Nat} (h : ss[c]? = some x) : f ∈ ss.take (c + 1) ↔ f ∈ ss.take c ∨ f = x := by
  rw [List.take_add_one, h, Option.toList_some, List.mem_append, List.mem_singleton]

theorem EdC.yes {nx : List (List Int)} {i : Nat} {ss : List Nat} {acc c acc' x : Nat} (h : EdC nx i ss acc c acc') (hx : ss[c]? = some x) (hd : x = i ∨ ¬ Dom nx i x) : EdC nx i ss acc (c + 1) (acc' ||| 2 ^ x) := fun f => by
  rw [Nat.testBit_or, Bool.or_eq_true, h, Nat.testBit_two_pow, decide_eq_true_eq, take_mem hx]
  constructor
  · rintro ((h1 | ⟨h1, h2⟩) | h1)
    · exact .inl h1
    · exact .inr ⟨.inl h1, h2⟩
    · subst h1; exact .inr ⟨.inr rfl, hd⟩
  · rintro (h1 | ⟨h1 | h1, h2⟩)
    · exact .inl (.inl h1)
    · exact .inl (.inr ⟨h1, h2⟩)
    · exact .inr h1.symm

theorem EdC.no {nx : List (List Int)} {i : Nat} {ss : List Nat} {acc c acc' x : Nat} (h : EdC nx i ss acc c acc') (hx : ss[c]? = some x) (hd : ¬ (x = i ∨ ¬ Dom nx i x)) : EdC nx i ss acc (c + 1) acc' := fun f => by
  rw [h, take_mem hx]
  constructor
  · rintro (h1 | ⟨h1, h2⟩)
    · exact .inl h1
    · exact .inr ⟨.inl h1, h2⟩
  · rintro (h1 | ⟨h1 | h1, h2⟩)
    · exact .inl h1
    · exact .inr ⟨h1, h2⟩
    · subst h1; exact absurd h2 hd

theorem EdK.done {nx : List (List Int)} (hc : ckWay nx = 0) {i acc W : Nat} (h : EdK nx i nx.length acc) (hW : ∀ j, W.testBit j = true ↔ EdgeP nx i j) : acc = W := word_ext fun f => by
  rw [h, hW]
  constructor
  · rintro ⟨q, _, h2, h3⟩; exact ⟨q, h2, h3⟩
  · rintro ⟨q, h2, h3⟩; exact ⟨q, (h2.lt hc).2, h2, h3⟩

theorem or_lt8 {a x : Nat} (ha : a < 256) (hx : x < 8) : a ||| 2 ^ x < 256 := Nat.or_lt_two_pow (n := 8) ha (Nat.pow_lt_pow_right (by omega) hx)

set_option maxHeartbeats 4000000 in
theorem refEdge_any (f : Nat → Nat → Bool) (A : Option Addr) (len cap : Nat) (nx : List (List Int)) (i W : Nat) (w : World) (hf : ∀ i j, f i j = true ↔ Dom nx i j) (hW : ∀ j, W.testBit j = true ↔ EdgeP nx i j) (hx : RdG w w.heap.size A nx) (hl : nx.length = len) (hc : ckWay nx = 0) (hi : i < len) :
    Calls Try.prog 16 #[.slice A len cap, .int .i64 i] w fun e w' => e = .returned (.int .u32 (W : Nat)) ∧ Below w.heap.size w w' := by
  obtain ⟨b1, b2, _⟩ := ckWay_bd hc
  have HC := Lib.hid hc
  have HL := Lib.hid hl
  have HF := Lib.hid hf
  have HW := Lib.hid hW
  rw [hl] at b1 b2
  clear hl hc hf hW
  go_enter Try.func16, Try.ntmps16
  go_wp2
  go_loopw [5, 6] (fun y z wr => ∃ k acc : Nat, k ≤ len ∧ z = .int .i64 k ∧ y = .int .u32 (acc : Nat) ∧ acc < 256 ∧ Hid (EdK nx i k acc) ∧ Below w.heap.size w wr) (fun _ z _ => len - (intOf z).toNat)
  case atStart => exact ⟨0, 0, Nat.zero_le _, rfl, rfl, by omega, Lib.hid (fun f => ⟨fun h => by simp at h, fun ⟨q, h, _⟩ => by omega⟩), Below.refl _ _⟩
  case round =>
    obtain ⟨k, acc, hk, rfl, rfl, hacc, HE, hb⟩ := hrel
    have hsz := hb.size
    by_cases hlt : k < len
    · have hxr := (hx.below hb (Nat.le_refl _)).more hsz
      obtain ⟨v, hv⟩ : ∃ v, f i k = v := ⟨_, rfl⟩
      have hvd := HF.out i k
      rw [hv] at hvd
      have HV := Lib.hid hv
      cases v with
      | false =>
        have HN := Lib.hid (HE.out.skip (fun h => by have := hvd.2 h; cases this))
        clear hv hvd
        go_wp2_with fail
        refine (refRules_any f A _ cap nx i k _ HF.out hxr HL.out HC.out hi hlt).mono ?_
        rw [HV.out]
        rintro e w1 ⟨rfl, hb1⟩
        go_wp2
        go_round
        case rel => exact ⟨k + 1, acc, by omega, by go_num, rfl, hacc, HN, hb.trans (hb1.mono hsz)⟩
        case measure => (simp [intOf]; omega)
      | true =>
        have HD := Lib.hid (hvd.1 rfl)
        clear hv hvd
        go_wp2_with fail
        refine (refRules_any f A _ cap nx i k _ HF.out hxr HL.out HC.out hi hlt).mono ?_
        rw [HV.out]
        rintro e w1 ⟨rfl, hb1⟩
        have hb01 := hb.trans (hb1.mono hsz)
        have hs01 := hb01.size
        obtain ⟨ad, row, Ar, cr, rfl, hbl, hd, hcell, hrow⟩ := (hx.below hb01 (Nat.le_refl _)).at_ (k := k) (by rw [HL.out]; exact hlt)
        have hrs := row_sc HC.out hd
        subst hrs
        have hslt := fun x => sc_lt HC.out (i := k) (x := x)
        have HTK := Lib.hid (fun acc' => HE.out.take HD.out (acc' := acc'))
        obtain ⟨ss, hss⟩ : ∃ ss, sc nx k = ss := ⟨_, rfl⟩
        have hsl3 := sc_len HC.out k
        rw [hss] at hrow hcell hslt hsl3
        have HSS := Lib.hid hss
        obtain ⟨sl, hsl⟩ : ∃ sl, ss.length = sl := ⟨_, rfl⟩
        have hnl : (ni ss).length = sl := by simp [ni, hsl]
        rw [hnl] at hcell
        rw [hsl] at hsl3
        have HSL := Lib.hid hsl
        have HNL := Lib.hid hnl
        have HSLT := Lib.hid hslt
        clear hd hss hsl hnl hslt
        go_wp2
        go_loopw [5, 25] (fun y z wr => ∃ c acc' : Nat, c ≤ sl ∧ z = .int .i64 c ∧ y = .int .u32 (acc' : Nat) ∧ acc' < 256 ∧ Hid (EdC nx i ss acc c acc') ∧ Below w.heap.size w wr) (fun _ z _ => sl - (intOf z).toNat)
        case atStart => exact ⟨0, acc, Nat.zero_le _, rfl, rfl, hacc, Lib.hid (fun f => by simp), hb01⟩
        case round =>
          obtain ⟨c, acc', hc', rfl, rfl, hacc', HEC, hbi⟩ := hrel
          have hszi := hbi.size
          by_cases hct : c < sl
          · have hrowi : RdI wr w.heap.size Ar (ni ss) := Rd.keep hrow fun p hp => ((hbi.cell hp).trans (hb01.cell hp).symm)
            obtain ⟨ar, x', rfl, hbr, hxr2, hcx⟩ := hrowi.at_ (k := c) (by rw [HNL.out]; exact hct)
            obtain ⟨x, hxx⟩ : ∃ x, ss[c]? = some x := ⟨_, List.getElem?_eq_getElem (by rw [HSL.out]; exact hct)⟩
            rw [ni_at hxx] at hxr2
            injection hxr2 with hxr2
            subst hxr2
            have hxl := HSLT.out x (List.mem_of_getElem? hxx)
            rw [HL.out] at hxl
            have hx8 : x < 8 := by omega
            have hxi := (hx.below hbi (Nat.le_refl _)).more hszi
            have HXX := Lib.hid hxx
            have hp2 := pow_lt_32 (v := x) (by omega)
            have hpe := pow_u32' (v := x) (by omega)
            have HPE := Lib.hid hpe
            have hor : bits .or .u32 (acc' : Int) ((2 ^ x : Nat) : Int) = ((acc' ||| 2 ^ x : Nat) : Int) := u32_or_nat _ _ (by omega) (by omega)
            have HOL := Lib.hid (or_lt8 hacc' hx8)
            clear hxx hpe
            by_cases hxi' : x = i
            · have e1 : ((x : Int) == (i : Int)) = true := by simp; omega
              have HY := Lib.hid (HEC.out.yes HXX.out (.inl hxi'))
              clear hxi'
              go_wp2
              go_round
              case rel => exact ⟨c + 1, acc' ||| 2 ^ x, by omega, by go_num, by rw [← hor, HPE.out], HOL.out, HY, hbi⟩
              case measure => (simp [intOf]; omega)
            · have e1 : ((x : Int) == (i : Int)) = false := by simp; omega
              obtain ⟨v, hv⟩ : ∃ v, f i x = v := ⟨_, rfl⟩
              have hvd := HF.out i x
              rw [hv] at hvd
              have HV := Lib.hid hv
              cases v with
              | true =>
                have HN := Lib.hid (HEC.out.no HXX.out (fun h => h.elim hxi' fun h => h (hvd.1 rfl)))
                clear hv hvd hxi'
                go_wp2_with fail
                refine (refRules_any f _ _ cap nx i x _ HF.out hxi HL.out HC.out hi hxl).mono ?_
                rw [HV.out]
                rintro e w5 ⟨rfl, hb5⟩
                go_wp2
                go_round
                case rel => exact ⟨c + 1, acc', by omega, by go_num, rfl, hacc', HN, hbi.trans (hb5.mono hszi)⟩
                case measure => (simp [intOf]; omega)
              | false =>
                have HY := Lib.hid (HEC.out.yes HXX.out (.inr fun h => by have := hvd.2 h; cases this))
                clear hv hvd hxi'
                go_wp2_with fail
                refine (refRules_any f _ _ cap nx i x _ HF.out hxi HL.out HC.out hi hxl).mono ?_
                rw [HV.out]
                rintro e w5 ⟨rfl, hb5⟩
                go_wp2
                go_round
                case rel => exact ⟨c + 1, acc' ||| 2 ^ x, by omega, by go_num, by rw [← hor, HPE.out], HOL.out, HY, hbi.trans (hb5.mono hszi)⟩
                case measure => (simp [intOf]; omega)
          · have hcl : c = sl := by omega
            subst hcl
            have HN := Lib.hid (HTK.out acc' (by rw [HSS.out, HSL.out]; exact HEC.out))
            go_wp2
            go_round
            case rel => exact ⟨k + 1, acc', by omega, by go_num, rfl, hacc', HN, hbi⟩
            case measure => (simp [intOf]; omega)
    · have hkl : k = len := by omega
      subst hkl
      have HDN := Lib.hid (EdK.done HC.out (by rw [HL.out]; exact HE.out) HW.out)
      go_wp2
      go_ret
      exact ⟨by rw [← HDN.out]; rfl, hb⟩

end Go.Proofs.Ytpbajalecfaibaa
