/-
  For any things that clash, color.Clique returns the first of the greatest sets of which any two clash, or the first error (O1).
-/
import Derived.Test.YtkgahblengjkfaaLawColor
import Derived.Test.YtkgahblengjkfaaColorIs
import Derived.Test.YtkgahblengjkfaaColorQ
import Derived.Test.YtkgahblengjkfaaColorSets
namespace Go.Proofs.Ytkgahblengjkfaa
open Go.RowKit Go.ChangeShapes Go.WideShapes Go.ChangeAt Go.Deep
set_option linter.unusedSimpArgs false
set_option linter.unusedVariables false
set_option maxRecDepth 100000

theorem CliqueC.same {n : Nat} {ad : Nat → Nat → Bool} {W V : Nat} (h : CliqueC n ad W) (h' : CliqueC n ad V) : W = V := by
  have h1 := h.great V h'.lt h'.clq
  have h2 := h'.great W h.lt h.clq
  omega

/-- the first of the greatest so far -/
structure ClqI (n : Nat) (ad : Nat → Nat → Bool) (t V : Nat) : Prop where
  lt : V < 2 ^ n
  clq : ClqW n ad V
  great : ∀ T, T < t → ClqW n ad T → szW T n < szW V n ∨ szW T n = szW V n ∧ V ≤ T

theorem ClqI.zero (n : Nat) (ad : Nat → Nat → Bool) : ClqI n ad 0 0 := ⟨Nat.two_pow_pos n, fun i j _ _ h => by simp at h, fun T h => by omega⟩

theorem ClqI.skip {n t V : Nat} {ad : Nat → Nat → Bool} (h : ClqI n ad t V) (hn : ClqW n ad t → szW t n < szW V n ∨ szW t n = szW V n ∧ V ≤ t) : ClqI n ad (t + 1) V := ⟨h.lt, h.clq, fun T hT hc => by
  rcases Nat.lt_or_ge T t with h1 | h1
  · exact h.great T h1 hc
  · have : T = t := by omega
    subst this
    exact hn hc⟩

theorem ClqI.take {n t V : Nat} {ad : Nat → Nat → Bool} (h : ClqI n ad t V) (ht : t < 2 ^ n) (hc : ClqW n ad t) (hs : szW V n < szW t n) : ClqI n ad (t + 1) t := ⟨ht, hc, fun T hT hc' => by
  rcases Nat.lt_or_ge T t with h1 | h1
  · have := h.great T h1 hc'
    omega
  · have : T = t := by omega
    subst this
    exact .inr ⟨rfl, Nat.le_refl _⟩⟩

/-- the first so far is no later than what comes -/
structure ClqJ (n : Nat) (ad : Nat → Nat → Bool) (t V : Nat) : Prop where
  i : ClqI n ad t V
  le : V ≤ t

set_option maxHeartbeats 8000000 in
theorem lawColorCliques_any (Q : CliqueIs) (n : Int) (A : Option Addr) (cap : Nat) (l : List (Int × Int)) (w : World) (hx : RdM w w.heap.size A l) (hm : l.length ≤ maxLen) :
    Calls Try.prog 6 #[.int .i64 n, .slice A l.length cap] w fun e w' => e = .returned (.bool true) ∧ Below w.heap.size w w' := by
  have HM := Lib.hid hm
  clear hm
  by_cases hc : ckCl n l = 0
  · have HC := Lib.hid hc
    obtain ⟨m, q, rfl, rfl, hok⟩ := ckCl_ok hc
    obtain ⟨len, hlen⟩ : ∃ len, (mvI q).length = len := ⟨_, rfl⟩
    have HL : Hid (q.length = len) := Lib.hid (by rw [← hlen, mvI_len])
    have HLI := Lib.hid hlen
    rw [hlen] at HM ⊢
    have HOK := Lib.hid hok
    have hm8 := hok.small
    have hlen28 : len ≤ 28 := by rw [← HL.out]; exact hok.short
    have hp256 : 2 ^ m ≤ 256 := Nat.le_trans (Nat.pow_le_pow_right (by omega) hm8) (by omega)
    have hpe := pow_u32' (v := m) (by omega)
    have HSZ : Hid (∀ T : Nat, T < 2 ^ m → szW T 32 = szW T m) := Lib.hid fun T hT => szW_32 hT (by omega)
    obtain ⟨M, hM⟩ : ∃ M, 2 ^ m = M := ⟨_, rfl⟩
    have HMM := Lib.hid hM
    rw [hM] at hp256 hpe HSZ
    clear hc hok hlen hM
    go_enter Try.func6, Try.ntmps6
    go_wp2_with fail
    refine (Q.ok m A len cap q _ hx HL.out HOK.out).mono ?_
    rintro e w1 ⟨⟨W, hW, rfl⟩, hb1⟩
    have hx1 := (hx.below hb1 (Nat.le_refl _)).more hb1.size
    have HW := Lib.hid hW
    clear hW
    go_wp2_with fail
    refine (clashCheck_any m A len cap (mvI q) _ hx1 HLI.out HM.out).mono ?_
    rintro e w2 ⟨rfl, hb2⟩
    rw [HC.out]
    have hb12 : Below w.heap.size w w2 := hb1.trans (hb2.mono hb1.size)
    have hs2 := hb12.size
    go_wp2
    go_loopw [8, 9] (fun s u wr => ∃ V t : Nat, t ≤ M ∧ V < M ∧ u = .int .u32 (t : Nat) ∧ s = .int .u32 (V : Nat) ∧ Hid (ClqJ m (clP q) t V) ∧ Below w2.heap.size w2 wr) (fun _ u _ => M - (intOf u).toNat)
    case atStart => exact ⟨0, 0, Nat.zero_le _, by rw [← HMM.out]; exact Nat.two_pow_pos m, rfl, rfl, Lib.hid ⟨ClqI.zero _ _, Nat.le_refl _⟩, Below.refl _ _⟩
    case round =>
      obtain ⟨V, t, ht, hV, rfl, rfl, HI, hb3⟩ := hrel
      have hsz3 := hb3.size
      have hb13 : Below w.heap.size w wr := hb12.trans (hb3.mono hs2)
      by_cases hlt : t < M
      · have hlt2 : ((t : Nat) : Int) < (2 : Int) ^ m % 4294967296 := by rw [hpe]; omega
        have hst := HSZ.out t hlt
        have hsV := HSZ.out V hV
        have HB1 := Lib.hid (sizeC_any t wr (by omega))
        have HB2 := Lib.hid (sizeC_any V wr (by omega))
        rw [hst] at HB1
        rw [hsV] at HB2
        have HCQ := Lib.hid (cliques_any m A len cap q t wr ((hx.below hb13 (Nat.le_refl _)).more hb13.size) HL.out (by omega) hm8 (by omega))
        obtain ⟨a, ha⟩ : ∃ a, szW t m = a := ⟨_, rfl⟩
        obtain ⟨b, hb⟩ : ∃ b, szW V m = b := ⟨_, rfl⟩
        obtain ⟨cl, hcl⟩ : ∃ cl, clqB m (clP q) t = cl := ⟨_, rfl⟩
        have HA := Lib.hid ha
        have HBB := Lib.hid hb
        have HCLQ := Lib.hid hcl
        rw [ha] at HB1
        rw [hb] at HB2
        rw [hcl] at HCQ
        clear ha hb hcl hst hsV
        by_cases hab : b < a
        · have hab2 : decide (b < a) = true := decide_eq_true hab
          cases cl
          · have HN : Hid (ClqJ m (clP q) (t + 1) V) := Lib.hid ⟨HI.out.i.skip (fun hc => absurd ((clqB_iff HOK.out.gr).2 hc) (by rw [HCLQ.out]; simp)), Nat.le_trans HI.out.le (by omega)⟩
            clear hab
            go_wp2_with (first
              | (go_at_call 21; (with_reducible refine HB1.out.mono ?_); rintro e w5 ⟨rfl, rfl⟩)
              | (go_at_call 21; (with_reducible refine HB2.out.mono ?_); rintro e w5 ⟨rfl, rfl⟩)
              | (go_at_call 19; (with_reducible refine HCQ.out.mono ?_); rintro e w5 ⟨rfl, hb5⟩))
            go_round
            case rel => exact ⟨V, t + 1, by omega, hV, by go_num, rfl, HN, hb3.trans (hb5.mono hsz3)⟩
            case measure => (simp [intOf]; omega)
          · have HN : Hid (ClqJ m (clP q) (t + 1) t) := Lib.hid ⟨HI.out.i.take (by rw [HMM.out]; exact hlt) ((clqB_iff HOK.out.gr).1 HCLQ.out) (by rw [HA.out, HBB.out]; exact hab), by omega⟩
            clear hab
            go_wp2_with (first
              | (go_at_call 21; (with_reducible refine HB1.out.mono ?_); rintro e w5 ⟨rfl, rfl⟩)
              | (go_at_call 21; (with_reducible refine HB2.out.mono ?_); rintro e w5 ⟨rfl, rfl⟩)
              | (go_at_call 19; (with_reducible refine HCQ.out.mono ?_); rintro e w5 ⟨rfl, hb5⟩))
            go_round
            case rel => exact ⟨t, t + 1, by omega, hlt, by go_num, rfl, HN, hb3.trans (hb5.mono hsz3)⟩
            case measure => (simp [intOf]; omega)
        · have hab2 : decide (b < a) = false := decide_eq_false hab
          have HN : Hid (ClqJ m (clP q) (t + 1) V) := Lib.hid ⟨HI.out.i.skip (fun hc => (by
            rw [HA.out, HBB.out]
            have := HI.out.le
            omega)), Nat.le_trans HI.out.le (by omega)⟩
          clear hab
          go_wp2_with (first
            | (go_at_call 21; (with_reducible refine HB1.out.mono ?_); rintro e w5 ⟨rfl, rfl⟩)
            | (go_at_call 21; (with_reducible refine HB2.out.mono ?_); rintro e w5 ⟨rfl, rfl⟩))
          go_round
          case rel => exact ⟨V, t + 1, by omega, hV, by go_num, rfl, HN, hb3⟩
          case measure => (simp [intOf]; omega)
      · have hlt2 : decide (((t : Nat) : Int) < (2 : Int) ^ m % 4294967296) = false := by rw [hpe]; simp; omega
        have htM : t = M := by omega
        have HWV : Hid (W = V) := Lib.hid (HW.out.same ⟨HI.out.i.lt, HI.out.i.clq, fun T hT => HI.out.i.great T (by rw [htM, ← HMM.out]; exact hT)⟩)
        clear htM hpe
        go_wp2
        go_ret
        exact ⟨ret_bool (by simp [HWV.out]), hb13⟩
  · have HC := Lib.hid hc
    obtain ⟨len, hlen⟩ : ∃ len, l.length = len := ⟨_, rfl⟩
    have HLI := Lib.hid hlen
    rw [hlen] at HM ⊢
    obtain ⟨x, hx0⟩ : ∃ x, ckCl n l = x := ⟨_, rfl⟩
    have HX := Lib.hid hx0
    have hne : (x != 0) = true := by rw [← hx0]; simp [hc]
    have hxx : (x == x) = true := by simp
    clear hc hlen hx0
    go_enter Try.func6, Try.ntmps6
    go_wp2_with fail
    refine (Q.bad n A len cap l _ hx HLI.out HM.out HC.out).mono ?_
    rintro e w1 ⟨rfl, hb1⟩
    rw [HX.out]
    have hx1 := (hx.below hb1 (Nat.le_refl _)).more hb1.size
    go_wp2_with fail
    refine (clashCheck_any n A len cap l _ hx1 HLI.out HM.out).mono ?_
    rintro e w2 ⟨rfl, hb2⟩
    rw [HX.out]
    go_wp2
    go_ret
    exact ⟨ret_bool (by simp), hb1.trans (hb2.mono hb1.size)⟩

set_option maxRecDepth 100000 in
theorem lawColorCliques_lifted (os : Os) (started : os.Started) (H : Type) (enc : TypeId × Value → H) :
    ReturnsInHanded {} Try.checked os 6 .any (Rows.colorCliquesSpec.pre6 enc Try.prog Try.f6 Rows.colorCliquesRow.domain false) (Rows.colorCliquesSpec.post enc Try.prog Try.f6 false true false false) := by
  refine returnsInHanded_of_change_sized (C := Try.checked) Try.own started (by kernel_rfl) Try.func6
    (ChangeSpec.witness6 (enc := enc) (C := Try.checked) false ⟨#[], #[.int .i64 0, .slice none 0 0], []⟩ 8 (by kernel_rfl) (by kernel_rfl) (by kernel_rfl) (by kernel_rfl)) ?_
  intro W base args ds gs before hval0 hW hcnd hsz _
  have hval : ∀ (j : Nat) t v, Try.f6.params[j]? = some t → args[j]? = some v → Value.okWide Try.prog W .any base t v := hval0
  have hW' := hW
  obtain ⟨p, q, hA0, hV, rfl, hfz, hnd⟩ := hW
  have hA : DataW.TrodAll enc Try.prog W 0 (fun _ => true) true Try.f6.params.toList args.toList ds p := hA0
  obtain ⟨hgs, _⟩ := trodVars_none hV
  rw [Try.params6] at hA hval
  obtain ⟨v0, vs0, d0, ds0, p0, q0, hargs, rfl, rfl, h0, r0⟩ := trodAll_cons hA
  obtain ⟨v1, vs1, d1, ds1, p1, q1, rfl, rfl, rfl, h1, r1⟩ := trodAll_cons r0
  obtain ⟨rfl, rfl, rfl⟩ := trodAll_nil r1
  have hargs2 : args = #[v0, v1] := Array.toList_inj.1 hargs
  subst hargs2
  obtain ⟨a0, rfl, _, _, w0⟩ := open_int Try.underlying3 (hval 0 3 v0 rfl rfl) h0
  obtain ⟨A1, c1, l1, rfl, lc1, cm1, x1, r1⟩ := open_pairsA (hval 1 22 v1 rfl rfl) h1
  have b1 := len_reach Try.underlying22 (hval 1 22 _ rfl rfl) h1 hsz (j := 1) (by rw [Try.params6]; rfl) rfl
  rw [show Try.prog.bytesOf (Try.prog.elem 22) = 16 from by kernel_rfl] at b1
  refine (lawColorCliques_any cliqueIs a0 A1 c1 l1 _ x1 (by omega)).mono fun e W' ⟨he, hb⟩ => ?_
  subst he
  exact ⟨_, rfl, law_post Try.laidOut rfl (by kernel_rfl) Try.underlying4 ⟨rfl, rfl, rfl⟩ (by kernel_rfl) hW' hb⟩

theorem colorCliques_holds : Rows.ColorCliquesSaid :=
  OpenClaim.holds_of_wide 6 Try.f6 rfl rfl rfl rfl rfl rfl rfl ⟨rfl, rfl, rfl, rfl, rfl⟩ rfl rfl rfl rfl rfl (by kernel_rfl) Try.func6 (show joinedFacts Try.prog 6 Try.f6 Rows.colorCliquesSpec Rows.colorCliquesRow = true from (by unfold joinedFacts; (repeat' (with_reducible refine and_both ?_ ?_)) <;> first | (with_reducible exact may_enter) | ((with_reducible refine make_ok ?_); rfl) | ((with_reducible refine lifts_ok ?_); rfl) | kernel_rfl))
    (of_decide_eq_true (by kernel_rfl)) (by unfold Func.isWrapper; rw [if_neg (of_decide_eq_false (by kernel_rfl))]; exact ⟨rfl, rfl⟩)
    (fun os started H enc _ => lawColorCliques_lifted os started H enc)

end Go.Proofs.Ytkgahblengjkfaa
