/-
  Some pair goes back just if some part to which one comes goes round: codemasonkeep.WayRound returns true and leaves its arguments alone. No condition.
-/
import Derived.Test.YtikbblbehopcdaaLawWay
import Derived.Test.YtikbblbehopcdaaLawWayParts
namespace Go.Proofs.Ytikbblbehopcdaa
open Go.RowKit Go.ChangeShapes Go.WideShapes Go.ChangeAt Go.Deep
set_option linter.unusedSimpArgs false
set_option linter.unusedVariables false
set_option maxRecDepth 100000

theorem szW_mono {s m : Nat} : ∀ {n : Nat}, m ≤ n → szW s m ≤ szW s n
  | 0, h => by have : m = 0 := by omega
               subst this; exact Nat.le_refl _
  | n + 1, h => by
    by_cases e : m = n + 1
    · subst e; exact Nat.le_refl _
    · have := szW_mono (s := s) (show m ≤ n by omega)
      rw [szW]
      omega

theorem szW_two {s i j n : Nat} (hi : s.testBit i = true) (hj : s.testBit j = true) (hij : i < j) (hn : j < n) : 1 < szW s n := by
  have h1 : szW s (i + 1) = szW s i + 1 := by rw [szW, if_pos hi]
  have h2 : szW s (j + 1) = szW s j + 1 := by rw [szW, if_pos hj]
  have h3 := szW_mono (s := s) (show i + 1 ≤ j by omega)
  have h4 := szW_mono (s := s) (show j + 1 ≤ n by omega)
  omega

theorem szW_one {s i : Nat} (h : ∀ j, s.testBit j = true → j = i) : ∀ n, szW s n ≤ 1 ∧ (n ≤ i → szW s n = 0)
  | 0 => ⟨by simp [szW], fun _ => rfl⟩
  | n + 1 => by
    obtain ⟨h1, h2⟩ := szW_one h n
    rw [szW]
    by_cases hb : s.testBit n = true
    · have := h n hb
      rw [if_pos hb]
      exact ⟨by have := h2 (by omega); omega, fun hn => by omega⟩
    · rw [if_neg hb]
      exact ⟨by omega, fun hn => by have := h2 (by omega); omega⟩

theorem szW_more {s i : Nat} (hs : s < 2 ^ 8) (hi : s.testBit i = true) : 1 < szW s 32 ↔ ∃ j, j ≠ i ∧ s.testBit j = true := by
  have hlt : ∀ j, s.testBit j = true → j < 8 := fun j hj => by
    rcases Nat.lt_or_ge j 8 with h | h
    · exact h
    · rw [Nat.testBit_lt_two_pow (Nat.lt_of_lt_of_le hs (Nat.pow_le_pow_right (by omega) h))] at hj; cases hj
  constructor
  · intro h
    refine Classical.byContradiction fun hn => ?_
    have := (szW_one (s := s) (i := i) (fun j hj => Classical.byContradiction fun e => hn ⟨j, e, hj⟩) 32).1
    omega
  · rintro ⟨j, hne, hj⟩
    have h1 := hlt i hi
    have h2 := hlt j hj
    rcases Nat.lt_or_ge i j with h | h
    · exact szW_two hi hj h (by omega)
    · exact szW_two hj hi (by omega) (by omega)

/-- a node to which one comes that lies on a round -/
def Rnd (nx : List (List Int)) (i : Nat) : Prop := Rea nx (-1) 0 i ∧ (i ∈ sc nx i ∨ ∃ j, j ≠ i ∧ Both nx i j)

theorem rnd_next {nx : List (List Int)} {i : Nat} {b c : Bool} (h : b = true ↔ ∃ k, k < i ∧ Rnd nx k) (hc : c = true ↔ Rnd nx i) : (b || c) = true ↔ ∃ k, k < i + 1 ∧ Rnd nx k := by
  rw [Bool.or_eq_true, h, hc]
  constructor
  · rintro (⟨k, h1, h2⟩ | h1)
    · exact ⟨k, by omega, h2⟩
    · exact ⟨i, by omega, h1⟩
  · rintro ⟨k, h1, h2⟩
    by_cases hk : k < i
    · exact .inl ⟨k, hk, h2⟩
    · have : k = i := by omega
      exact .inr (this ▸ h2)

theorem rnd_all {nx : List (List Int)} (hc : ckWay nx = 0) {b : Bool} (h : b = true ↔ ∃ k, k < nx.length ∧ Rnd nx k) : b = true ↔ 0 < (bkL nx).length := by
  have h1 := round_iff hc
  have hb := ckWay_bd hc
  rw [h]
  constructor
  · rintro ⟨k, _, h2⟩
    exact List.length_pos_iff.2 (h1.2 ⟨k, h2⟩)
  · intro h2
    obtain ⟨k, h3⟩ := h1.1 (List.length_pos_iff.1 h2)
    exact ⟨k, h3.1.lt hc (by omega), h3⟩

set_option maxHeartbeats 4000000 in
theorem lawWayRound_any (K : WayIs) (A : Option Addr) (cap : Nat) (nx : List (List Int)) (w : World) (hx : RdG w w.heap.size A nx) (hm : nx.length ≤ maxLen) :
    Calls Try.prog 10 #[.slice A nx.length cap] w fun e w' => e = .returned (.bool true) ∧ Below w.heap.size w w' := by
  have HM := Lib.hid hm
  unfold maxLen at hm
  by_cases hc : ckWay nx = 0
  · have HC := Lib.hid hc
    obtain ⟨hb1', hb2', _⟩ := ckWay_bd hc
    obtain ⟨len, hlen⟩ : ∃ len, nx.length = len := ⟨_, rfl⟩
    have HLEN := Lib.hid hlen
    have HP2 : Hid (2 ^ nx.length ≤ 2 ^ 8) := Lib.hid (Nat.pow_le_pow_right (by omega) hb2')
    have hml : (bkL nx).length ≤ 64 := by
      have h1 := bkM_len nx nx.length
      have h2 : nx.length * nx.length ≤ 8 * 8 := Nat.mul_le_mul hb2' hb2'
      unfold bkL
      omega
    rw [hlen] at hb1' hb2' hm ⊢
    have HML : Hid (len ≤ maxLen) := Lib.hid (by unfold maxLen; omega)
    have hrw := reachW_lt nx
    have hrb : ∀ i : Nat, (bitB (reachW nx) (i : Int) = true ↔ Rea nx (-1) 0 i) := fun i => by
      rw [bitB_nat hrw]
      unfold reachW
      rw [if_pos hc, setW_bit, fin_mem hc]
    have HALL := Lib.hid (fun b => rnd_all hc (b := b))
    obtain ⟨R, hR⟩ : ∃ R, reachW nx = R := ⟨_, rfl⟩
    rw [hR] at hrw hrb
    have HRE := Lib.hid hR
    have HRB := Lib.hid hrb
    obtain ⟨bl, hbl⟩ : ∃ bl, (bkL nx).length = bl := ⟨_, rfl⟩
    rw [hbl] at hml
    have HBL := Lib.hid hbl
    have hR32 : R < 4294967296 := by omega
    clear hc hlen hbl hrb hR
    go_enter Try.func10, Try.ntmps10
    go_wp2_with fail
    refine (K.back A _ cap nx _ hx HLEN.out HC.out).mono ?_
    rintro e w0 ⟨A0, c0, rfl, _, hb0⟩
    rw [HBL.out]
    have hx0 := (hx.below hb0 (Nat.le_refl _)).more hb0.size
    go_wp2_with fail
    refine (K.parts A _ cap nx _ hx0 HLEN.out HC.out).mono ?_
    rintro e w1 ⟨ws, A1, c1, hpt, rfl, hr1, hb1⟩
    have hb01 := hb0.trans (hb1.mono hb0.size)
    have hx1 := (hx.below hb01 (Nat.le_refl _)).more hb01.size
    have HPT := Lib.hid hpt
    have HWL := Lib.hid (hpt.len.trans HLEN.out)
    clear hpt
    go_wp2_with fail
    refine (K.reach A _ cap nx _ hx1 HLEN.out HML.out).mono ?_
    rw [HRE.out, HC.out]
    rintro e w2 ⟨rfl, hb2⟩
    have hbw := hb01.trans (hb2.mono hb01.size)
    have hr2 := (hr1.below hb2 (Nat.le_refl _)).more hb2.size
    have hx2 := (hx1.below hb2 (Nat.le_refl _)).more hb2.size
    clear hr1 hb1 hb2 hb0 hb01 hx0 hx1
    go_wp2_with fail
    refine (may_any A _ cap nx _ hx2 HLEN.out HML.out).mono ?_
    rw [decide_eq_true HC.out]
    rintro e w3 ⟨rfl, rfl⟩
    go_wp2
    go_loop [9, 10] (fun y z => ∃ (i : Nat) (b : Bool), i ≤ len ∧ z = .int .i64 i ∧ y = .bool b ∧ Hid (b = true ↔ ∃ k, k < i ∧ Rnd nx k)) (fun _ z => len - (intOf z).toNat)
    case atStart => exact ⟨0, false, Nat.zero_le _, rfl, rfl, Lib.hid ⟨fun h => (by cases h), fun ⟨k, h, _⟩ => (by omega)⟩⟩
    case round =>
      obtain ⟨i, b, hi, rfl, rfl, HB⟩ := hrel
      by_cases hlt : i < len
      · obtain ⟨a1, W, rfl, hbl1, hW, hcx⟩ := hr2.at_ (k := i) (by rw [HWL.out]; exact hlt)
        obtain ⟨ad, row, Ar, cr, rfl, hbl2, hd, hcell, hrow⟩ := hx2.at_ (k := i) (by rw [HLEN.out]; exact hlt)
        have hrs := row_sc HC.out hd
        subst hrs
        obtain ⟨sl, hsl2⟩ : ∃ sl, (ni (sc nx i)).length = sl := ⟨_, rfl⟩
        have hsl3 : sl ≤ 3 := by have := sc_len HC.out i; rw [← hsl2]; simpa [ni] using this
        rw [hsl2] at hcell
        have HSL := Lib.hid hsl2
        have hslm : sl ≤ maxLen := by unfold maxLen; omega
        have hW8 : W < 2 ^ 8 := Nat.lt_of_lt_of_le (HPT.out.lt i W hW) HP2.out
        have hme := HPT.out.me hW
        have hmore : 1 < szW W 32 ↔ ∃ j, j ≠ i ∧ Both nx i j := by
          rw [szW_more hW8 hme]
          constructor
          · rintro ⟨j, h1, h2⟩; exact ⟨j, h1, (HPT.out.mem i W hW j).1 h2⟩
          · rintro ⟨j, h1, h2⟩; exact ⟨j, h1, (HPT.out.mem i W hW j).2 h2⟩
        have hW32 : W < 4294967296 := by omega
        have hsz32 := szW_le W 32
        obtain ⟨m, hm2⟩ : ∃ m, szW W 32 = m := ⟨_, rfl⟩
        rw [hm2] at hmore hsz32
        have HM2 := Lib.hid hm2
        obtain ⟨r, hr⟩ : ∃ r, bitB R (i : Int) = r := ⟨_, rfl⟩
        have hrr := HRB.out i
        rw [hr] at hrr
        have HR := Lib.hid hr
        obtain ⟨h, hh⟩ : ∃ h, hasB (ni (sc nx i)) (i : Int) = h := ⟨_, rfl⟩
        have hhm : h = true ↔ i ∈ sc nx i := by rw [← hh, hasB_iff, ni_mem]
        have HH := Lib.hid hh
        have HRR := Lib.hid hrr
        have HHM := Lib.hid hhm
        have HMORE := Lib.hid hmore
        clear hW hme hm2 hr hh hrr hhm hmore hd hsl2 hW8
        cases b with
        | true =>
          have HN : Hid (true = true ↔ ∃ k, k < i + 1 ∧ Rnd nx k) := Lib.hid ⟨fun _ => (by obtain ⟨k, h1, h2⟩ := HB.out.1 rfl; exact ⟨k, by omega, h2⟩), fun _ => rfl⟩
          go_wp2
          go_round
          case rel => exact ⟨i + 1, true, by omega, by go_num, rfl, Lib.hid ⟨fun _ => HN.out.1 (by trivial), fun _ => rfl⟩⟩
          case measure => (simp [intOf]; omega)
        | false =>
          have hnext : ∀ c : Bool, (c = true ↔ Rnd nx i) → (c = true ↔ ∃ k, k < i + 1 ∧ Rnd nx k) := fun c hc => by
            have := rnd_next HB.out hc
            rwa [Bool.false_or] at this
          have HNEXT := Lib.hid hnext
          clear hnext
          cases r with
          | false =>
            have HN := Lib.hid (HNEXT.out false ⟨fun h => (by cases h), fun h => absurd (HRR.out.2 h.1) (by simp)⟩)
            go_wp2_with fail
            refine (bit_any R _ _ hR32).mono ?_
            rw [HR.out]
            rintro e w5 ⟨rfl, rfl⟩
            go_wp2
            go_round
            case rel => exact ⟨i + 1, false, by omega, by go_num, rfl, HN⟩
            case measure => (simp [intOf]; omega)
          | true =>
            have hrea := HRR.out.1 rfl
            have HREA := Lib.hid hrea
            clear hrea
            by_cases hgt : 1 < m
            · have HN := Lib.hid (HNEXT.out true ⟨fun _ => ⟨HREA.out, .inr (HMORE.out.1 hgt)⟩, fun _ => rfl⟩)
              go_wp2_with fail
              refine (bit_any R _ _ hR32).mono ?_
              rw [HR.out]
              rintro e w5 ⟨rfl, rfl⟩
              go_wp2_with fail
              refine (refSize_any W _ hW32).mono ?_
              rw [HM2.out]
              rintro e w5 ⟨rfl, rfl⟩
              go_wp2
              go_round
              case rel => exact ⟨i + 1, true, by omega, by go_num, rfl, Lib.hid ⟨fun _ => HN.out.1 (by trivial), fun _ => rfl⟩⟩
              case measure => (simp [intOf]; omega)
            · have HN := Lib.hid (HNEXT.out h (by
                rw [HHM.out]
                exact ⟨fun q => ⟨HREA.out, .inl q⟩, fun q => q.2.elim id fun q => absurd (HMORE.out.2 q) hgt⟩))
              go_wp2_with fail
              refine (bit_any R _ _ hR32).mono ?_
              rw [HR.out]
              rintro e w5 ⟨rfl, rfl⟩
              go_wp2_with fail
              refine (refSize_any W _ hW32).mono ?_
              rw [HM2.out]
              rintro e w5 ⟨rfl, rfl⟩
              go_wp2_with fail
              refine (has_any _ Ar sl cr (ni (sc nx i)) _ _ hrow HSL.out hslm).mono ?_
              rw [HH.out]
              rintro e w5 ⟨rfl, rfl⟩
              go_wp2
              go_round
              case rel => exact ⟨i + 1, h, by omega, by go_num, by rw [show decide ((1 : Int) < (m : Int)) = false from by simp; omega]; rfl, HN⟩
              case measure => (simp [intOf]; omega)
      · have hil : i = len := by omega
        subst hil
        have hall := HALL.out b (by rw [HLEN.out]; exact HB.out)
        rw [HBL.out] at hall
        cases b with
        | true =>
          have h0 : 0 < bl := hall.1 rfl
          clear hall
          go_wp2
          go_ret
          exact ⟨ret_bool (by simp; try omega), hbw⟩
        | false =>
          have h0 : bl = 0 := by
            rcases Nat.eq_zero_or_pos bl with h | h
            · exact h
            · have := hall.2 h; cases this
          subst h0
          clear hall
          go_wp2
          go_ret
          exact ⟨ret_bool (by simp), hbw⟩
  · have hne : (ckWay nx != 0) = true := by simp [hc]
    have HC := Lib.hid hc
    clear hc
    go_enter Try.func10, Try.ntmps10
    go_wp2_with fail
    refine (K.backBad A _ cap nx _ hx rfl HM.out HC.out).mono ?_
    rintro e w0 ⟨A0, c0, rfl, hb0⟩
    have hx0 := (hx.below hb0 (Nat.le_refl _)).more hb0.size
    go_wp2_with fail
    refine (K.partsBad A _ cap nx _ hx0 rfl HM.out HC.out).mono ?_
    rintro e w1 ⟨A1, c1, rfl, hb1⟩
    have hb01 := hb0.trans (hb1.mono hb0.size)
    have hx1 := (hx.below hb01 (Nat.le_refl _)).more hb01.size
    go_wp2_with fail
    refine (K.reach A _ cap nx _ hx1 rfl HM.out).mono ?_
    rintro e w2 ⟨rfl, hb2⟩
    have hb02 := hb01.trans (hb2.mono hb01.size)
    have hx2 := (hx.below hb02 (Nat.le_refl _)).more hb02.size
    go_wp2_with fail
    refine (may_any A _ cap nx _ hx2 rfl HM.out).mono ?_
    rw [decide_eq_false HC.out]
    rintro e w3 ⟨rfl, rfl⟩
    go_wp2
    go_ret
    exact ⟨ret_bool (by simp), hb02⟩

set_option maxRecDepth 100000 in
theorem lawWayRound_lifted (os : Os) (started : os.Started) (H : Type) (enc : TypeId × Value → H) :
    ReturnsInHanded {} Try.checked os 10 .any (Rows.wayRoundSpec.pre6 enc Try.prog Try.f10 Rows.wayRoundRow.domain false) (Rows.wayRoundSpec.post enc Try.prog Try.f10 false true false false) := by
  refine returnsInHanded_of_change_sized (C := Try.checked) Try.own started (by kernel_rfl) Try.func10
    (ChangeSpec.witness6 (enc := enc) (C := Try.checked) false ⟨#[], #[.slice none 0 0], []⟩ 8 (by kernel_rfl) (by kernel_rfl) (by kernel_rfl) (by kernel_rfl)) ?_
  intro W base args ds gs before hval0 hW hcnd hsz _
  have hval : ∀ (j : Nat) t v, Try.f10.params[j]? = some t → args[j]? = some v → Value.okWide Try.prog W .any base t v := hval0
  have hW' := hW
  obtain ⟨p, q, hA0, hV, rfl, hfz, hnd⟩ := hW
  have hA : DataW.TrodAll enc Try.prog W 0 (fun _ => true) true Try.f10.params.toList args.toList ds p := hA0
  obtain ⟨hgs, _⟩ := trodVars_none hV
  rw [Try.params10] at hA hval
  obtain ⟨v0, vs0, d0, ds0, p0, q0, hargs, rfl, rfl, h0, r0⟩ := trodAll_cons hA
  obtain ⟨rfl, rfl, rfl⟩ := trodAll_nil r0
  have hargs2 : args = #[v0] := Array.toList_inj.1 hargs
  subst hargs2
  obtain ⟨A0, c0, l0, rfl, lc0, cm0, x0, r0⟩ := open_graphA (hval 0 22 v0 rfl rfl) h0
  have b0 := len_reach Try.underlying22 (hval 0 22 _ rfl rfl) h0 hsz (j := 0) (by rw [Try.params10]; rfl) rfl
  rw [show Try.prog.bytesOf (Try.prog.elem 22) = 24 from by kernel_rfl] at b0
  refine (lawWayRound_any wayIs A0 c0 l0 _ x0 (by omega)).mono fun e W' ⟨he, hb⟩ => ?_
  subst he
  exact ⟨_, rfl, law_post Try.laidOut rfl (by kernel_rfl) Try.underlying4 ⟨rfl, rfl, rfl⟩ (by kernel_rfl) hW' hb⟩

theorem wayRound_holds : Rows.WayRoundSaid :=
  OpenClaim.holds_of_wide 10 Try.f10 rfl rfl rfl rfl rfl rfl rfl ⟨rfl, rfl, rfl, rfl, rfl⟩ rfl rfl rfl rfl rfl (by kernel_rfl) Try.func10 (show joinedFacts Try.prog 10 Try.f10 Rows.wayRoundSpec Rows.wayRoundRow = true from (by unfold joinedFacts; (repeat' (with_reducible refine and_both ?_ ?_)) <;> first | (with_reducible exact may_enter) | ((with_reducible refine make_ok ?_); rfl) | ((with_reducible refine lifts_ok ?_); rfl) | kernel_rfl))
    (of_decide_eq_true (by kernel_rfl)) (by unfold Func.isWrapper; rw [if_neg (of_decide_eq_false (by kernel_rfl))]; exact ⟨rfl, rfl⟩)
    (fun os started H enc _ => lawWayRound_lifted os started H enc)

end Go.Proofs.Ytikbblbehopcdaa
