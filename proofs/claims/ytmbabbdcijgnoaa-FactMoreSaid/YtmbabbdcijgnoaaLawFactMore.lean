/-
  KAM, ULLMAN: more that is so at the beginning takes nothing away: codemasonkeep.FactMore returns true for all arguments and leaves them alone. No condition.
-/
import Derived.Test.YtmbabbdcijgnoaaLawFact
import Derived.Test.YtmbabbdcijgnoaaFact
import Derived.Test.YtmbabbdcijgnoaaFactMono
import Derived.Deep.QuietTactic
namespace Go.Proofs.Ytmbabbdcijgnoaa
open Go.RowKit Go.ChangeShapes Go.WideShapes Go.ChangeAt Go.Deep
set_option linter.unusedSimpArgs false
set_option linter.unusedVariables false
set_option maxRecDepth 100000

theorem ckLaw_at {nx : List (List Int)} {lw : Lw} (h : ckLaw nx lw = 0) {s : Nat} (hs : s < 256) : ckLaw nx (lw.at_ s) = 0 := by
  unfold ckLaw Lw.at_ at *
  simp only []
  split at h
  · rename_i h1
    rw [if_pos h1]
    split at h
    · rename_i h2
      rw [if_pos h2]
      split at h
      · rename_i h3
        rw [if_pos ⟨h3.1, h3.2.1, hs⟩]
      · omega
    · omega
  · rename_i h1; exact absurd h h1

set_option maxHeartbeats 4000000 in
theorem lawFactMore_any (K : FactIs) (A : Option Addr) (cap : Nat) (nx : List (List Int)) (A1 : Option Addr) (c1 : Nat) (A2 : Option Addr) (c2 : Nat) (lw : Lw) (m : Nat) (w : World) (hx : RdG w w.heap.size A nx) (hm : nx.length ≤ maxLen) (hr : RdL w w.heap.size A1 A2 lw) (hu : U32L lw) (hm32 : m < 4294967296) :
    Calls Try.prog 6 #[.slice A nx.length cap, .agg #[.bool lw.bw, .bool lw.al, .slice A1 lw.ma.length c1, .slice A2 lw.en.length c2, .int .u32 (lw.st : Nat)], .int .u32 (m : Nat)] w fun e w' => e = .returned (.bool true) ∧ Below w.heap.size w w' := by
  have HM := Lib.hid hm
  have hmm := hm
  unfold maxLen at hm
  have hb0 : Below w.heap.size w (w.alloc (.cells #[.bool lw.bw, .bool lw.al, .slice A1 lw.ma.length c1, .slice A2 lw.en.length c2, .int .u32 (lw.st : Nat)] 26)) := by go_grown
  have hx0 := (hx.below hb0 (Nat.le_refl _)).more hb0.size
  have hr0 := (hr.below hb0 (Nat.le_refl _)).more hb0.size
  have hown := Own.new w 26 [.bool lw.bw, .bool lw.al, .slice A1 lw.ma.length c1, .slice A2 lw.en.length c2, .int .u32 (lw.st : Nat)]
  by_cases hc : ckLaw nx lw = 0
  · have HC := Lib.hid hc
    obtain ⟨hcw, hm1, hm2, _, _, hst⟩ := ckLaw_ok hc
    have hb8 := ckWay_bd hcw
    obtain ⟨s2, hs2⟩ : ∃ s2, lw.st ||| (m &&& 255) = s2 := ⟨_, rfl⟩
    have hand : bits .and .u32 (m : Int) 255 = ((m &&& 255 : Nat) : Int) := u32_and_nat m 255 hm32 (by omega)
    have hm8 : m &&& 255 < 256 := Nat.lt_of_le_of_lt Nat.and_le_right (by omega)
    have hor : bits .or .u32 (lw.st : Int) ((m &&& 255 : Nat) : Int) = (s2 : Int) := by rw [u32_or_nat _ _ (by omega) (by omega), hs2]
    have hs8 : s2 < 256 := by rw [← hs2]; exact Nat.or_lt_two_pow (n := 8) hst hm8
    have HUP : Hid (∀ f, lw.st.testBit f = true → s2.testBit f = true) := Lib.hid fun f h => by rw [← hs2, Nat.testBit_or, h, Bool.true_or]
    have hc2 := ckLaw_at hc hs8
    have hu2 : U32L (lw.at_ s2) := ⟨hu.ma, hu.en, (by omega : s2 < 4294967296), hu.lm, hu.le⟩
    obtain ⟨len, hlen⟩ : ∃ len, nx.length = len := ⟨_, rfl⟩
    have HLEN := Lib.hid hlen
    have hl8 : len ≤ 8 := by omega
    have hml : lw.ma.length = len := hm1.trans hlen
    have hel : lw.en.length = len := hm2.trans hlen
    rw [hml, hel] at hown hb0 hx0 hr0 ⊢
    have HS1 := Lib.hid (fun (w2 : World) h1 h2 => K.solve A len cap nx A1 c1 A2 c2 lw w2 h1 hlen h2 hu hc)
    have HS2 := Lib.hid (fun (w2 : World) h1 (h2 : RdL w2 w2.heap.size A1 A2 lw) => K.solve A len cap nx A1 c1 A2 c2 (lw.at_ s2) w2 h1 hlen ⟨h2.ma, h2.en⟩ hu2 hc2)
    have HLF := Lib.hid (fun (w2 : World) h1 h2 => lawful_any A len cap nx A1 c1 A2 c2 lw w2 h1 hlen h2 hu)
    rw [hml, hel] at HS1 HLF
    rw [show (lw.at_ s2).ma.length = len from hml, show (lw.at_ s2).en.length = len from hel, show (lw.at_ s2).bw = lw.bw from rfl, show (lw.at_ s2).al = lw.al from rfl, show (lw.at_ s2).st = s2 from rfl] at HS2
    rw [hlen] at hm ⊢
    generalize m &&& 255 = mm at *
    clear hc hcw hm1 hm2 hb8 hlen hml hel hs2 hc2 hu2 hst
    go_enter Try.func6, Try.ntmps6
    go_wp2_with fail
    refine (HS1.out _ hx0 hr0).mono ?_
    rintro e w1 ⟨ws, A3, c3, hsv, rfl, hr3, hfr, hb1⟩
    have hx1 := (hx0.below hb1 (Nat.le_refl _)).more hb1.size
    have hr1 := (hr0.below hb1 (Nat.le_refl _)).more hb1.size
    have hown1 := hown.below hb1 hown.lt
    have d0 := hown1.cell (j := 0) rfl
    have d1 := hown1.cell (j := 1) rfl
    have d2 := hown1.cell (j := 2) rfl
    have d3 := hown1.cell (j := 3) rfl
    have d4 := hown1.cell (j := 4) rfl
    have hl1 := hown1.lt
    have HSA := Lib.hid hsv
    have HWA := Lib.hid (hsv.len.trans HLEN.out)
    clear hsv
    go_wp2_with fail
    refine (HLF.out _ hx1 hr1).mono ?_
    rintro e w2 ⟨rfl, hb2⟩
    rw [decide_eq_true HC.out]
    have hx2 := (hx1.below hb2 (Nat.le_refl _)).more hb2.size
    have hr2 := (hr1.below hb2 (Nat.le_refl _)).more hb2.size
    have hr3' := (hr3.below hb2 (Nat.le_refl _)).more hb2.size
    have hown2 := hown1.below hb2 hl1
    have f0 := hown2.cell (j := 0) rfl
    have f1 := hown2.cell (j := 1) rfl
    have f2 := hown2.cell (j := 2) rfl
    have f3 := hown2.cell (j := 3) rfl
    have f4 := hown2.cell (j := 4) rfl
    have f5 := hown2.frozen 4
    have hbs : Below w.heap.size w2 (w2.setCell ⟨w.heap.size, 4, none⟩ (.int .u32 (s2 : Nat))) := (Below.refl _ w2).setCell (show w.heap.size ≤ (⟨w.heap.size, 4, none⟩ : Addr).block from Nat.le_refl _) _
    have hown3 := hown2.set 4 (.int .u32 (s2 : Nat))
    have hbw2 : Below w.heap.size w w2 := (hb0.trans (hb1.mono hb0.size)).trans (hb2.mono (by have := hb0.size; have := hb1.size; omega))
    obtain ⟨w3, hw3⟩ : ∃ w3, w3 = w2.setCell ⟨w.heap.size, 4, none⟩ (.int .u32 (s2 : Nat)) := ⟨_, rfl⟩
    have hbw3 : Below w.heap.size w w3 := by rw [hw3]; exact hbw2.trans hbs
    have hx3 := (hx.below hbw3 (Nat.le_refl _)).more hbw3.size
    have hr3l := (hr.below hbw3 (Nat.le_refl _)).more hbw3.size
    rw [← hw3] at hown3
    have hg1 : w.heap.size < w1.heap.size := hl1
    have hs3 : w3.heap.size = w2.heap.size := by rw [hw3]; simp
    have hrd3 : RdU w3 w3.heap.size A3 ws := by
      have h1 : RdU w3 w2.heap.size A3 ws := Rd.but hr3' (G := w.heap.size) (fun ad hA => by have := hfr ad hA; simp at this; omega) (fun p hp => by rw [hw3]; exact World.cell?_of_block (Below.heap_setCell w2 _ _ p.block hp))
      rw [hs3]
      exact h1
    have hl3 : w.heap.size < w3.heap.size := hown3.lt
    go_wp2_with fail
    rw [← hw3]
    refine (HS2.out _ hx3 hr3l).mono ?_
    rintro e w4 ⟨ws', A4, c4, hsv', rfl, hr4, _, hb4⟩
    have hra := (hrd3.below hb4 (Nat.le_refl _)).more hb4.size
    have HSB := Lib.hid hsv'
    have HWB := Lib.hid (hsv'.len.trans HLEN.out)
    have hbw4 := hbw3.trans (hb4.mono hbw3.size)
    clear hsv' hw3 hs3
    go_wp2
    go_loopw [11] (fun z wr => ∃ i : Nat, i ≤ len ∧ z = .int .i64 i ∧ Below w4.heap.size w4 wr) (fun z _ => len - (intOf z).toNat)
    case atStart => exact ⟨0, Nat.zero_le _, rfl, Below.refl _ _⟩
    case round =>
      obtain ⟨i, hi, rfl, hbr⟩ := hrel
      have hszr := hbr.size
      by_cases hlt : i < len
      · obtain ⟨a1, W, rfl, hbl1, hd1, hc1⟩ := (hra.below hbr (Nat.le_refl _)).at_ (k := i) (by rw [HWA.out]; exact hlt)
        obtain ⟨a2, V, rfl, hbl2, hd2, hc2⟩ := (hr4.below hbr (Nat.le_refl _)).at_ (k := i) (by rw [HWB.out]; exact hlt)
        have hW := HSA.out.mem i W hd1
        have hV := HSB.out.mem i V hd2
        have hsub : ∀ j, W.testBit j = true → V.testBit j = true := fun j hj => by
          obtain ⟨h1, h2⟩ := (hW.2 j).1 hj
          exact (hV.2 j).2 ⟨h1, h2.more (HUP.out j)⟩
        have hW32 : W < 4294967296 := by have := hW.1; omega
        have hV32 : V < 4294967296 := by have := hV.1; omega
        have HSUB := Lib.hid hsub
        clear hd1 hd2 hW hV hsub
        go_wp2
        go_quiet ((go_at_call 17; exact Calls.quiet_of_same (in_true HSUB.out _ hW32 hV32)))
        go_wp2
        go_round
        case rel => exact ⟨i + 1, by omega, by go_num, ⟨hbr.os, hbr.tape, hbr.output, hbr.size, hbr.block⟩⟩
        case measure => (simp [intOf]; omega)
      · have hil : i = len := by omega
        subst hil
        go_wp2
        go_ret
        exact ⟨ret_bool (by simp), hbw4.trans (hbr.mono hbw4.size)⟩
  · have hne : (ckLaw nx lw != 0) = true := by simp [hc]
    have HC := Lib.hid hc
    clear hc
    go_enter Try.func6, Try.ntmps6
    go_wp2_with fail
    refine (K.solveBad A _ cap nx A1 c1 A2 c2 lw _ hx0 rfl HM.out hr0 hu HC.out).mono ?_
    rintro e w1 ⟨A3, c3, rfl, hb1⟩
    have hx1 := (hx0.below hb1 (Nat.le_refl _)).more hb1.size
    have hr1 := (hr0.below hb1 (Nat.le_refl _)).more hb1.size
    have hown1 := hown.below hb1 hown.lt
    have d0 := hown1.cell (j := 0) rfl
    have d1 := hown1.cell (j := 1) rfl
    have d2 := hown1.cell (j := 2) rfl
    have d3 := hown1.cell (j := 3) rfl
    have d4 := hown1.cell (j := 4) rfl
    go_wp2_with fail
    refine (lawful_any A _ cap nx A1 c1 A2 c2 lw _ hx1 rfl hr1 hu).mono ?_
    rintro e w2 ⟨rfl, hb2⟩
    rw [decide_eq_false HC.out]
    go_wp2
    go_ret
    exact ⟨ret_bool (by simp), (hb0.trans (hb1.mono hb0.size)).trans (hb2.mono (by have := hb0.size; have := hb1.size; omega))⟩

theorem lawFactMore_int (K : FactIs) (A : Option Addr) (cap : Nat) (nx : List (List Int)) (A1 : Option Addr) (c1 : Nat) (A2 : Option Addr) (c2 : Nat) (lw : Lw) (m : Int) (w : World) (hx : RdG w w.heap.size A nx) (hm : nx.length ≤ maxLen) (hr : RdL w w.heap.size A1 A2 lw) (hu : U32L lw) (hs : (Lit.int .u32 m).wf = true) :
    Calls Try.prog 6 #[.slice A nx.length cap, .agg #[.bool lw.bw, .bool lw.al, .slice A1 lw.ma.length c1, .slice A2 lw.en.length c2, .int .u32 (lw.st : Nat)], .int .u32 m] w fun e w' => e = .returned (.bool true) ∧ Below w.heap.size w w' := by
  obtain ⟨h0, h1⟩ := u32_of hs
  obtain ⟨n, rfl⟩ := Int.eq_ofNat_of_zero_le h0
  exact lawFactMore_any K A cap nx A1 c1 A2 c2 lw n w hx hm hr hu (by omega)

set_option maxRecDepth 100000 in
theorem lawFactMore_lifted (os : Os) (started : os.Started) (H : Type) (enc : TypeId × Value → H) :
    ReturnsInHanded {} Try.checked os 6 .any (Rows.factMoreSpec.pre6 enc Try.prog Try.f6 Rows.factMoreRow.domain false) (Rows.factMoreSpec.post enc Try.prog Try.f6 false true false false) := by
  refine returnsInHanded_of_change_sized (C := Try.checked) Try.own started (by kernel_rfl) Try.func6
    (ChangeSpec.witness6 (enc := enc) (C := Try.checked) false ⟨#[], #[.slice none 0 0, .agg #[.bool false, .bool false, .slice none 0 0, .slice none 0 0, .int .u32 0], .int .u32 0], []⟩ 8 (by kernel_rfl) (by kernel_rfl) (by kernel_rfl) (by kernel_rfl)) ?_
  intro W base args ds gs before hval0 hW hcnd hsz _
  have hval : ∀ (j : Nat) t v, Try.f6.params[j]? = some t → args[j]? = some v → Value.okWide Try.prog W .any base t v := hval0
  have hW' := hW
  obtain ⟨p, q, hA0, hV, rfl, hfz, hnd⟩ := hW
  have hA : DataW.TrodAll enc Try.prog W 0 (fun _ => true) true Try.f6.params.toList args.toList ds p := hA0
  obtain ⟨hgs, _⟩ := trodVars_none hV
  rw [Try.params6] at hA hval
  obtain ⟨v0, vs0, d0, ds0, p0, q0, hargs, rfl, rfl, h0, r0⟩ := trodAll_cons hA
  obtain ⟨v1, vs1, d1, ds1, p1, q1, rfl, rfl, rfl, h1, r1⟩ := trodAll_cons r0
  obtain ⟨v2, vs2, d2, ds2, p2, q2, rfl, rfl, rfl, h2, r2⟩ := trodAll_cons r1
  obtain ⟨rfl, rfl, rfl⟩ := trodAll_nil r2
  have hargs2 : args = #[v0, v1, v2] := Array.toList_inj.1 hargs
  subst hargs2
  obtain ⟨A0, c0, l0, rfl, lc0, cm0, x0, r0⟩ := open_graphA (hval 0 22 v0 rfl rfl) h0
  have b0 := len_reach Try.underlying22 (hval 0 22 _ rfl rfl) h0 hsz (j := 0) (by rw [Try.params6]; rfl) rfl
  rw [show Try.prog.bytesOf (Try.prog.elem 22) = 24 from by kernel_rfl] at b0
  obtain ⟨w1, A1, c1, B1, e1, rfl, x1, u1⟩ := open_lawA (hval 1 26 v1 rfl rfl) h1
  obtain ⟨a2, rfl, _, _, w2⟩ := open_int Try.underlying24 (hval 2 24 v2 rfl rfl) h2
  refine (lawFactMore_int factIs A0 c0 l0 A1 c1 B1 e1 w1 a2 _ x0 (by omega) x1 u1 w2).mono fun e W' ⟨he, hb⟩ => ?_
  subst he
  exact ⟨_, rfl, law_post Try.laidOut rfl (by kernel_rfl) Try.underlying4 ⟨rfl, rfl, rfl⟩ (by kernel_rfl) hW' hb⟩

theorem factMore_holds : Rows.FactMoreSaid :=
  OpenClaim.holds_of_wide 6 Try.f6 rfl rfl rfl rfl rfl rfl rfl ⟨rfl, rfl, rfl, rfl, rfl⟩ rfl rfl rfl rfl rfl (by kernel_rfl) Try.func6 (show joinedFacts Try.prog 6 Try.f6 Rows.factMoreSpec Rows.factMoreRow = true from (by unfold joinedFacts; (repeat' (with_reducible refine and_both ?_ ?_)) <;> first | (with_reducible exact may_enter) | ((with_reducible refine make_ok ?_); rfl) | ((with_reducible refine lifts_ok ?_); rfl) | kernel_rfl))
    (of_decide_eq_true (by kernel_rfl)) (by unfold Func.isWrapper; rw [if_neg (of_decide_eq_false (by kernel_rfl))]; exact ⟨rfl, rfl⟩)
    (fun os started H enc _ => lawFactMore_lifted os started H enc)

end Go.Proofs.Ytmbabbdcijgnoaa
