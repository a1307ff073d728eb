/-
  For any things that clash and any number, color.Peel returns what is left when those with fewer clashes go, or the first error (O2).
-/
import Derived.Test.YtkgahblengjkfaaLawColor
import Derived.Test.YtkgahblengjkfaaColorIs
import Derived.Test.YtkgahblengjkfaaColorPeel
import Derived.Test.YtkgahblengjkfaaColorSets
namespace Go.Proofs.Ytkgahblengjkfaa
open Go.RowKit Go.ChangeShapes Go.WideShapes Go.ChangeAt Go.Deep
set_option linter.unusedSimpArgs false
set_option linter.unusedVariables false
set_option maxRecDepth 100000

/-- how many of a set i clashes with -/
def cntT (n : Nat) (ad : Nat → Nat → Bool) (T i : Nat) : Nat := cntN n fun j => T.testBit j && ad i j

/-- is it so for those below i? -/
def corB (n : Nat) (ad : Nat → Nat → Bool) (k T : Nat) : Nat → Bool
  | 0 => true
  | i + 1 => corB n ad k T i && (!T.testBit i || decide (k ≤ cntT n ad T i))

theorem corB_iff {n k T : Nat} {ad : Nat → Nat → Bool} : ∀ {m : Nat}, corB n ad k T m = true ↔ ∀ i, i < m → T.testBit i = true → k ≤ cntT n ad T i
  | 0 => by simp [corB]
  | m + 1 => by
    unfold corB
    rw [Bool.and_eq_true, corB_iff, Bool.or_eq_true, Bool.not_eq_true', decide_eq_true_eq]
    constructor
    · rintro ⟨h1, h2⟩ i hi hb
      rcases Nat.lt_or_ge i m with h | h
      · exact h1 i h hb
      · have : i = m := by omega
        subst this
        rcases h2 with h2 | h2
        · rw [h2] at hb; cases hb
        · exact h2
    · intro h
      refine ⟨fun i hi hb => h i (by omega) hb, ?_⟩
      cases hb : T.testBit m with
      | false => exact .inl rfl
      | true => exact .inr (h m (by omega) hb)

theorem cor_core {n k T : Nat} {ad : Nat → Nat → Bool} : corB n ad k T n = true ↔ CoreW n ad k T := corB_iff

/-- all sets so far together -/
structure UniI (n : Nat) (ad : Nat → Nat → Bool) (k t V : Nat) : Prop where
  lt : V < 2 ^ n
  bit : ∀ b, V.testBit b = true ↔ ∃ T, T < t ∧ CoreW n ad k T ∧ T.testBit b = true

theorem UniI.zero (n k : Nat) (ad : Nat → Nat → Bool) : UniI n ad k 0 0 := ⟨Nat.two_pow_pos n, fun b => ⟨fun h => by simp at h, fun ⟨T, h, _⟩ => by omega⟩⟩

theorem UniI.skip {n k t V : Nat} {ad : Nat → Nat → Bool} (h : UniI n ad k t V) (hn : ¬ CoreW n ad k t) : UniI n ad k (t + 1) V := ⟨h.lt, fun b => by
  rw [h.bit]
  constructor
  · rintro ⟨T, h1, h2, h3⟩
    exact ⟨T, by omega, h2, h3⟩
  · rintro ⟨T, h1, h2, h3⟩
    rcases Nat.lt_or_ge T t with h4 | h4
    · exact ⟨T, h4, h2, h3⟩
    · have : T = t := by omega
      subst this
      exact absurd h2 hn⟩

theorem UniI.take {n k t V : Nat} {ad : Nat → Nat → Bool} (h : UniI n ad k t V) (ht : t < 2 ^ n) (hc : CoreW n ad k t) : UniI n ad k (t + 1) (V ||| t) := ⟨Nat.or_lt_two_pow h.lt ht, fun b => by
  rw [Nat.testBit_or, Bool.or_eq_true, h.bit]
  constructor
  · rintro (⟨T, h1, h2, h3⟩ | h3)
    · exact ⟨T, by omega, h2, h3⟩
    · exact ⟨t, by omega, hc, h3⟩
  · rintro ⟨T, h1, h2, h3⟩
    rcases Nat.lt_or_ge T t with h4 | h4
    · exact .inl ⟨T, h4, h2, h3⟩
    · have : T = t := by omega
      subst this
      exact .inr h3⟩

theorem UniI.peel {n k V W : Nat} {ad : Nat → Nat → Bool} (h : UniI n ad k (2 ^ n) V) (hW : PeelC n ad k W) : W = V := word_ext fun b => by
  rw [h.bit]
  constructor
  · exact fun hb => ⟨W, hW.lt, hW.core, hb⟩
  · rintro ⟨T, h1, h2, h3⟩
    exact hW.great T h1 h2 b h3

set_option maxHeartbeats 16000000 in
theorem lawColorPeels_any (K : PeelIs) (n : Int) (A : Option Addr) (cap : Nat) (l : List (Int × Int)) (k : Int) (w : World) (hx : RdM w w.heap.size A l) (hm : l.length ≤ maxLen) :
    Calls Try.prog 4 #[.int .i64 n, .slice A l.length cap, .int .i64 k] w fun e w' => e = .returned (.bool true) ∧ Below w.heap.size w w' := by
  have HM := Lib.hid hm
  clear hm
  by_cases hc : ckCl n l = 0
  · have HC := Lib.hid hc
    obtain ⟨m, q, rfl, rfl, hok⟩ := ckCl_ok hc
    obtain ⟨len, hlen⟩ : ∃ len, (mvI q).length = len := ⟨_, rfl⟩
    have HL : Hid (q.length = len) := Lib.hid (by rw [← hlen, mvI_len])
    have HLI := Lib.hid hlen
    rw [hlen] at HM ⊢
    have HOK := Lib.hid hok
    have hm8 := hok.small
    have hlen28 : len ≤ 28 := by rw [← HL.out]; exact hok.short
    clear hc hok hlen
    by_cases hk : k < 0
    · go_enter Try.func4, Try.ntmps4
      go_wp2_with fail
      refine (K.range m A len cap q k _ hx HL.out HOK.out hk).mono ?_
      rintro e w1 ⟨rfl, hb1⟩
      have hx1 := (hx.below hb1 (Nat.le_refl _)).more hb1.size
      go_wp2_with fail
      refine (clashCheck_any m A len cap (mvI q) _ hx1 HLI.out HM.out).mono ?_
      rintro e w2 ⟨rfl, hb2⟩
      rw [HC.out]
      go_wp2
      go_ret
      exact ⟨ret_bool (by simp), hb1.trans (hb2.mono hb1.size)⟩
    · obtain ⟨kk, rfl⟩ : ∃ kk : Nat, k = kk := ⟨k.toNat, by omega⟩
      have hp256 : 2 ^ m ≤ 256 := Nat.le_trans (Nat.pow_le_pow_right (by omega) hm8) (by omega)
      have hpe := pow_u32' (v := m) (by omega)
      obtain ⟨M, hM⟩ : ∃ M, 2 ^ m = M := ⟨_, rfl⟩
      have HMM := Lib.hid hM
      rw [hM] at hp256 hpe
      have HPE := Lib.hid hpe
      clear hM hpe
      obtain ⟨ad, had⟩ : ∃ ad, clP q = ad := ⟨_, rfl⟩
      have HCL : Hid (∀ (i j : Nat) (w1 : World), Below w.heap.size w w1 → Calls Try.prog 16 #[.slice A len cap, .int .i64 (i : Int), .int .i64 (j : Int)] w1 fun e w' => e = .returned (.bool (ad i j)) ∧ Below w1.heap.size w1 w') := Lib.hid fun i j w1 hb1 => by
        rw [← had]
        exact clash_any A len cap q i j w1 ((hx.below hb1 (Nat.le_refl _)).more hb1.size) HL.out (by omega)
      have HAD := Lib.hid had
      clear had
      go_enter Try.func4, Try.ntmps4
      go_wp2_with fail
      refine (K.ok m A len cap q kk _ hx HL.out HOK.out).mono ?_
      rintro e w1 ⟨⟨W, hW, rfl⟩, hb1⟩
      have hx1 := (hx.below hb1 (Nat.le_refl _)).more hb1.size
      rw [HAD.out] at hW
      have HW := Lib.hid hW
      clear hW
      go_wp2_with fail
      refine (clashCheck_any m A len cap (mvI q) _ hx1 HLI.out HM.out).mono ?_
      rintro e w2 ⟨rfl, hb2⟩
      rw [HC.out]
      have hb12 : Below w.heap.size w w2 := hb1.trans (hb2.mono hb1.size)
      have hs2 := hb12.size
      go_wp2
      go_loopw [10, 11] (fun s u wr => ∃ V t : Nat, t ≤ M ∧ V < M ∧ u = .int .u32 (t : Nat) ∧ s = .int .u32 (V : Nat) ∧ Hid (UniI m ad kk t V) ∧ Below w2.heap.size w2 wr) (fun _ u _ => M - (intOf u).toNat)
      case atStart => exact ⟨0, 0, Nat.zero_le _, by rw [← HMM.out]; exact Nat.two_pow_pos m, rfl, rfl, Lib.hid (UniI.zero _ _ _), Below.refl _ _⟩
      case round =>
        obtain ⟨V, t, ht, hV, rfl, rfl, HI, hb3⟩ := hrel
        have hsz3 := hb3.size
        by_cases hlt : t < M
        · have hlt2 : decide (((t : Nat) : Int) < (2 : Int) ^ m % 4294967296) = true := by rw [HPE.out]; simp; omega
          have HBIT : Hid (∀ (i : Nat) (w1 : World), i < 32 → Calls Try.prog 15 #[.int .u32 (t : Nat), .int .i64 (i : Int)] w1 fun e w' => e = .returned (.bool (t.testBit i)) ∧ w1 = w') := Lib.hid fun i w1 hi => by rw [← bitB_32 t hi]; exact bit_any t i w1 (by omega)
          have hor : bits .or .u32 ((V : Nat) : Int) ((t : Nat) : Int) = ((V ||| t : Nat) : Int) := u32_or_nat _ _ (by omega) (by omega)
          have HOR := Lib.hid hor
          clear hor
          obtain ⟨w3, rfl⟩ : ∃ w3 : World, w3 = wr := ⟨_, rfl⟩
          go_wp2
          go_loopw [12, 13] (fun o u wr => ∃ i : Nat, i ≤ m ∧ u = .int .i64 i ∧ o = .bool (corB m ad kk t i) ∧ Below w2.heap.size w2 wr) (fun _ u _ => m - (intOf u).toNat)
          case atStart => exact ⟨0, Nat.zero_le _, rfl, rfl, hb3⟩
          case round =>
            obtain ⟨i, hi, rfl, rfl, hb4⟩ := hrel
            have hsz4 := hb4.size
            by_cases him : i < m
            · obtain ⟨w4, rfl⟩ : ∃ w4 : World, w4 = wr := ⟨_, rfl⟩
              have HS : Hid (corB m ad kk t (i + 1) = (corB m ad kk t i && (!t.testBit i || decide (kk ≤ cntT m ad t i)))) := Lib.hid rfl
              obtain ⟨ob, hob⟩ : ∃ ob, corB m ad kk t i = ob := ⟨_, rfl⟩
              rw [hob] at HS ⊢
              clear hob
              go_wp2
              go_loopw [14, 15] (fun c u wr => ∃ j mn : Nat, j ≤ m ∧ mn ≤ j ∧ u = .int .i64 j ∧ c = .int .i64 (mn : Nat) ∧ Hid (cntN j (fun x => t.testBit x && ad i x) = mn) ∧ Below w2.heap.size w2 wr) (fun _ u _ => m - (intOf u).toNat)
              case atStart => exact ⟨0, 0, Nat.zero_le _, Nat.le_refl _, rfl, rfl, Lib.hid rfl, hb4⟩
              case round =>
                obtain ⟨j, mn, hj, hmn, rfl, rfl, HR, hb5⟩ := hrel
                have hsz5 := hb5.size
                have hb15 : Below w.heap.size w wr := hb12.trans (hb5.mono hs2)
                by_cases hjm : j < m
                · have hj32 : j < 32 := by omega
                  have HB := Lib.hid (HBIT.out j wr hj32)
                  have HCC := Lib.hid (HCL.out i j wr hb15)
                  have HN : Hid (cntN (j + 1) (fun x => t.testBit x && ad i x) = mn + (if t.testBit j && ad i j then 1 else 0)) := Lib.hid (by rw [← HR.out]; rfl)
                  obtain ⟨bj, hbj⟩ : ∃ bj, t.testBit j = bj := ⟨_, rfl⟩
                  obtain ⟨cl, hcl⟩ : ∃ cl, ad i j = cl := ⟨_, rfl⟩
                  rw [hbj] at HB HN
                  rw [hcl] at HCC HN
                  clear hbj hcl
                  cases bj
                  · have HE : Hid (cntN (j + 1) (fun x => t.testBit x && ad i x) = mn) := Lib.hid (by rw [HN.out]; rfl)
                    go_wp2_with (go_at_call 15; (with_reducible refine HB.out.mono ?_); rintro e w6 ⟨rfl, rfl⟩)
                    go_round
                    case rel => exact ⟨j + 1, mn, by omega, by omega, by go_num, rfl, HE, hb5⟩
                    case measure => (simp [intOf]; omega)
                  · cases cl
                    · have HE : Hid (cntN (j + 1) (fun x => t.testBit x && ad i x) = mn) := Lib.hid (by rw [HN.out]; rfl)
                      go_wp2_with (first
                        | (go_at_call 15; (with_reducible refine HB.out.mono ?_); rintro e w6 ⟨rfl, rfl⟩)
                        | (go_at_call 16; (with_reducible refine HCC.out.mono ?_); rintro e w6 ⟨rfl, hb6⟩))
                      go_round
                      case rel => exact ⟨j + 1, mn, by omega, by omega, by go_num, rfl, HE, hb5.trans (hb6.mono hsz5)⟩
                      case measure => (simp [intOf]; omega)
                    · have HE : Hid (cntN (j + 1) (fun x => t.testBit x && ad i x) = mn + 1) := Lib.hid (by rw [HN.out]; rfl)
                      go_wp2_with (first
                        | (go_at_call 15; (with_reducible refine HB.out.mono ?_); rintro e w6 ⟨rfl, rfl⟩)
                        | (go_at_call 16; (with_reducible refine HCC.out.mono ?_); rintro e w6 ⟨rfl, hb6⟩))
                      go_round
                      case rel => exact ⟨j + 1, mn + 1, by omega, by omega, by go_num, by go_num, HE, hb5.trans (hb6.mono hsz5)⟩
                      case measure => (simp [intOf]; omega)
                · have hjm2 : j = m := by omega
                  have HCT : Hid (cntT m ad t i = mn) := Lib.hid (by rw [← hjm2]; exact HR.out)
                  have hi32 : i < 32 := by omega
                  have HB := Lib.hid (HBIT.out i wr hi32)
                  obtain ⟨bi, hbi⟩ : ∃ bi, t.testBit i = bi := ⟨_, rfl⟩
                  rw [hbi] at HB HS
                  rw [HCT.out] at HS
                  obtain ⟨ge, hge⟩ : ∃ ge, decide (kk ≤ mn) = ge := ⟨_, rfl⟩
                  rw [hge] at HS
                  clear hbi
                  subst hjm2
                  cases ob
                  · go_wp2
                    go_round
                    case rel => exact ⟨i + 1, by omega, by go_num, by rw [HS.out]; simp, hb5⟩
                    case measure => (simp [intOf]; omega)
                  · cases bi
                    · go_wp2_with (go_at_call 15; (with_reducible refine HB.out.mono ?_); rintro e w6 ⟨rfl, rfl⟩)
                      go_round
                      case rel => exact ⟨i + 1, by omega, by go_num, by rw [HS.out]; simp, hb5⟩
                      case measure => (simp [intOf]; omega)
                    · go_wp2_with (go_at_call 15; (with_reducible refine HB.out.mono ?_); rintro e w6 ⟨rfl, rfl⟩)
                      go_round
                      case rel => exact ⟨i + 1, by omega, by go_num, by rw [HS.out]; first | (simp; done) | (simp [hge]; done) | (simp; exact hge), hb5⟩
                      case measure => (simp [intOf]; omega)
            · have him2 : i = m := by omega
              subst him2
              obtain ⟨cb, hcb⟩ : ∃ cb, corB i ad kk t i = cb := ⟨_, rfl⟩
              have HCB := Lib.hid hcb
              rw [hcb]
              clear hcb
              cases cb
              · have HN : Hid (UniI i ad kk (t + 1) V) := Lib.hid (HI.out.skip fun hc => absurd (cor_core.2 hc) (by rw [HCB.out]; simp))
                go_wp2
                go_round
                case rel => exact ⟨V, t + 1, by omega, hV, by go_num, rfl, HN, hb4⟩
                case measure => (simp [intOf]; omega)
              · have HN : Hid (UniI i ad kk (t + 1) (V ||| t)) := Lib.hid (HI.out.take (by rw [HMM.out]; exact hlt) (cor_core.1 HCB.out))
                have HVT : Hid (V ||| t < M) := Lib.hid (by rw [← HMM.out]; exact HN.out.lt)
                go_wp2
                go_round
                case rel => exact ⟨V ||| t, t + 1, by omega, HVT.out, by go_num, by rw [HOR.out], HN, hb4⟩
                case measure => (simp [intOf]; omega)
        · have hlt2 : decide (((t : Nat) : Int) < (2 : Int) ^ m % 4294967296) = false := by rw [HPE.out]; simp; omega
          have htM : t = M := by omega
          have HWV : Hid (W = V) := Lib.hid (UniI.peel (by rw [HMM.out, ← htM]; exact HI.out) HW.out)
          clear htM
          go_wp2
          go_ret
          exact ⟨ret_bool (by simp [HWV.out]), hb12.trans (hb3.mono hs2)⟩
  · have HC := Lib.hid hc
    obtain ⟨len, hlen⟩ : ∃ len, l.length = len := ⟨_, rfl⟩
    have HLI := Lib.hid hlen
    rw [hlen] at HM ⊢
    obtain ⟨x, hx0⟩ : ∃ x, ckCl n l = x := ⟨_, rfl⟩
    have HX := Lib.hid hx0
    have hne : (x != 0) = true := by rw [← hx0]; simp [hc]
    have hne2 : (x == 0) = false := by rw [← hx0]; simp [hc]
    have hxx : (x == x) = true := by simp
    clear hc hlen hx0
    go_enter Try.func4, Try.ntmps4
    go_wp2_with fail
    refine (K.bad n A len cap l k _ hx HLI.out HM.out HC.out).mono ?_
    rintro e w1 ⟨rfl, hb1⟩
    rw [HX.out]
    have hx1 := (hx.below hb1 (Nat.le_refl _)).more hb1.size
    go_wp2_with fail
    refine (clashCheck_any n A len cap l _ hx1 HLI.out HM.out).mono ?_
    rintro e w2 ⟨rfl, hb2⟩
    rw [HX.out]
    go_wp2
    go_ret
    exact ⟨ret_bool (by simp), hb1.trans (hb2.mono hb1.size)⟩

set_option maxRecDepth 100000 in
theorem lawColorPeels_lifted (os : Os) (started : os.Started) (H : Type) (enc : TypeId × Value → H) :
    ReturnsInHanded {} Try.checked os 4 .any (Rows.colorPeelsSpec.pre6 enc Try.prog Try.f4 Rows.colorPeelsRow.domain false) (Rows.colorPeelsSpec.post enc Try.prog Try.f4 false true false false) := by
  refine returnsInHanded_of_change_sized (C := Try.checked) Try.own started (by kernel_rfl) Try.func4
    (ChangeSpec.witness6 (enc := enc) (C := Try.checked) false ⟨#[], #[.int .i64 0, .slice none 0 0, .int .i64 0], []⟩ 8 (by kernel_rfl) (by kernel_rfl) (by kernel_rfl) (by kernel_rfl)) ?_
  intro W base args ds gs before hval0 hW hcnd hsz _
  have hval : ∀ (j : Nat) t v, Try.f4.params[j]? = some t → args[j]? = some v → Value.okWide Try.prog W .any base t v := hval0
  have hW' := hW
  obtain ⟨p, q, hA0, hV, rfl, hfz, hnd⟩ := hW
  have hA : DataW.TrodAll enc Try.prog W 0 (fun _ => true) true Try.f4.params.toList args.toList ds p := hA0
  obtain ⟨hgs, _⟩ := trodVars_none hV
  rw [Try.params4] at hA hval
  obtain ⟨v0, vs0, d0, ds0, p0, q0, hargs, rfl, rfl, h0, r0⟩ := trodAll_cons hA
  obtain ⟨v1, vs1, d1, ds1, p1, q1, rfl, rfl, rfl, h1, r1⟩ := trodAll_cons r0
  obtain ⟨v2, vs2, d2, ds2, p2, q2, rfl, rfl, rfl, h2, r2⟩ := trodAll_cons r1
  obtain ⟨rfl, rfl, rfl⟩ := trodAll_nil r2
  have hargs2 : args = #[v0, v1, v2] := Array.toList_inj.1 hargs
  subst hargs2
  obtain ⟨a0, rfl, _, _, w0⟩ := open_int Try.underlying3 (hval 0 3 v0 rfl rfl) h0
  obtain ⟨A1, c1, l1, rfl, lc1, cm1, x1, r1⟩ := open_pairsA (hval 1 22 v1 rfl rfl) h1
  have b1 := len_reach Try.underlying22 (hval 1 22 _ rfl rfl) h1 hsz (j := 1) (by rw [Try.params4]; rfl) rfl
  rw [show Try.prog.bytesOf (Try.prog.elem 22) = 16 from by kernel_rfl] at b1
  obtain ⟨a2, rfl, _, _, w2⟩ := open_int Try.underlying3 (hval 2 3 v2 rfl rfl) h2
  refine (lawColorPeels_any peelIs a0 A1 c1 l1 a2 _ x1 (by omega)).mono fun e W' ⟨he, hb⟩ => ?_
  subst he
  exact ⟨_, rfl, law_post Try.laidOut rfl (by kernel_rfl) Try.underlying4 ⟨rfl, rfl, rfl⟩ (by kernel_rfl) hW' hb⟩

theorem colorPeels_holds : Rows.ColorPeelsSaid :=
  OpenClaim.holds_of_wide 4 Try.f4 rfl rfl rfl rfl rfl rfl rfl ⟨rfl, rfl, rfl, rfl, rfl⟩ rfl rfl rfl rfl rfl (by kernel_rfl) Try.func4 (show joinedFacts Try.prog 4 Try.f4 Rows.colorPeelsSpec Rows.colorPeelsRow = true from (by unfold joinedFacts; (repeat' (with_reducible refine and_both ?_ ?_)) <;> first | (with_reducible exact may_enter) | ((with_reducible refine make_ok ?_); rfl) | ((with_reducible refine lifts_ok ?_); rfl) | kernel_rfl))
    (of_decide_eq_true (by kernel_rfl)) (by unfold Func.isWrapper; rw [if_neg (of_decide_eq_false (by kernel_rfl))]; exact ⟨rfl, rfl⟩)
    (fun os started H enc _ => lawColorPeels_lifted os started H enc)

end Go.Proofs.Ytkgahblengjkfaa
