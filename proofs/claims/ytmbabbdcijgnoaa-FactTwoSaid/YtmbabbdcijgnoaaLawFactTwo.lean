/-
  KAM, ULLMAN: what is so along all paths is so along some, where one comes: codemasonkeep.FactTwo returns true for all arguments and leaves them alone. No condition.
-/
import Derived.Test.YtmbabbdcijgnoaaLawFact
import Derived.Test.YtmbabbdcijgnoaaFactMono
import Derived.Test.YtmbabbdcijgnoaaFact
import Derived.Test.YtmbabbdcijgnoaaWayOrd
import Derived.Deep.QuietTactic
import Derived.BigQuiet
import Derived.BigRegion
namespace Go.Proofs.Ytmbabbdcijgnoaa
open Go.RowKit Go.ChangeShapes Go.WideShapes Go.ChangeAt Go.Deep
set_option linter.unusedSimpArgs false
set_option linter.unusedVariables false
set_option maxRecDepth 100000

theorem bit_told {W : Nat} {i : Int} {b : Bool} (h : bitB W i = b) (w : World) (hW : W < 4294967296) :
    Calls Try.prog 19 #[.int .u32 (W : Nat), .int .i64 i] w fun e w' => e = .returned (.bool b) ∧ w' = w :=
  (bit_any W i w hW).mono fun e w' ⟨h1, h2⟩ => ⟨by rw [h1, h], h2.symm⟩

set_option maxHeartbeats 8000000 in
theorem lawFactTwo_any (K : FactIs) (K2 : ReachIs) (A : Option Addr) (cap : Nat) (nx : List (List Int)) (A1 : Option Addr) (c1 : Nat) (A2 : Option Addr) (c2 : Nat) (lw : Lw) (w : World) (hx : RdG w w.heap.size A nx) (hm : nx.length ≤ maxLen) (hr : RdL w w.heap.size A1 A2 lw) (hu : U32L lw) :
    Calls Try.prog 7 #[.slice A nx.length cap, .agg #[.bool lw.bw, .bool lw.al, .slice A1 lw.ma.length c1, .slice A2 lw.en.length c2, .int .u32 (lw.st : Nat)]] w fun e w' => e = .returned (.bool true) ∧ Below w.heap.size w w' := by
  have HM := Lib.hid hm
  have hmm := hm
  unfold maxLen at hm
  have hown := Own.new w 26 [.bool lw.bw, .bool lw.al, .slice A1 lw.ma.length c1, .slice A2 lw.en.length c2, .int .u32 (lw.st : Nat)]
  have hb0 : Below w.heap.size w (w.alloc (.cells #[.bool lw.bw, .bool lw.al, .slice A1 lw.ma.length c1, .slice A2 lw.en.length c2, .int .u32 (lw.st : Nat)] 26)) := by go_grown
  obtain ⟨n1, hn1⟩ : ∃ n, lw.ma.length = n := ⟨_, rfl⟩
  obtain ⟨n2, hn2⟩ : ∃ n, lw.en.length = n := ⟨_, rfl⟩
  obtain ⟨len, hlen⟩ : ∃ len, nx.length = len := ⟨_, rfl⟩
  have HLEN := Lib.hid hlen
  have hua : ∀ al bw, U32L (lw.ask al bw) := fun al bw => ⟨hu.ma, hu.en, hu.st, hu.lm, hu.le⟩
  have hck : ∀ al bw, ckLaw nx (lw.ask al bw) = ckLaw nx lw := fun al bw => rfl
  have HS := Lib.hid (fun (al : Bool) (w2 : World) h1 (h2 : RdL w2 w2.heap.size A1 A2 lw) (h3 : ckLaw nx lw = 0) => K.solve A len cap nx A1 c1 A2 c2 (lw.ask al false) w2 h1 hlen ⟨h2.ma, h2.en⟩ (hua al false) ((hck al false).trans h3))
  have HSB := Lib.hid (fun (al : Bool) (w2 : World) h1 (h2 : RdL w2 w2.heap.size A1 A2 lw) (h3 : ckLaw nx lw ≠ 0) => K.solveBad A len cap nx A1 c1 A2 c2 (lw.ask al false) w2 h1 hlen (by rw [← hlen]; exact hmm) ⟨h2.ma, h2.en⟩ (hua al false) (fun e => h3 ((hck al false).symm.trans e)))
  have HLF := Lib.hid (fun (w2 : World) h1 (h2 : RdL w2 w2.heap.size A1 A2 lw) => lawful_any A len cap nx A1 c1 A2 c2 (lw.ask false false) w2 h1 hlen ⟨h2.ma, h2.en⟩ (hua false false))
  have HRE := Lib.hid (fun (w2 : World) h1 => K2.reach A len cap nx w2 h1 hlen (by rw [← hlen]; exact hmm))
  simp only [hck] at HSB HLF
  simp only [show ∀ al, (lw.ask al false).ma.length = n1 from fun _ => hn1, show ∀ al, (lw.ask al false).en.length = n2 from fun _ => hn2, show ∀ al, (lw.ask al false).bw = false from fun _ => rfl, show ∀ al, (lw.ask al false).al = al from fun _ => rfl, show ∀ al, (lw.ask al false).st = lw.st from fun _ => rfl] at HS HSB HLF
  rw [hn1, hn2] at hown hb0 ⊢
  rw [hlen] at hm ⊢
  obtain ⟨wb, hwb⟩ : ∃ wb, wb = w.alloc (.cells #[.bool false, .bool true, .slice A1 n1 c1, .slice A2 n2 c2, .int .u32 (lw.st : Nat)] 26) := ⟨_, rfl⟩
  have hs1 : Own wb w.heap.size 26 [.bool false, .bool true, .slice A1 n1 c1, .slice A2 n2 c2, .int .u32 (lw.st : Nat)] := by rw [hwb]; exact Own.new w _ _
  have hb1 : Below w.heap.size w wb := by rw [hwb]; go_grown
  have hxb := (hx.below hb1 (Nat.le_refl _)).more hb1.size
  have hrb := (hr.below hb1 (Nat.le_refl _)).more hb1.size
  have hlb := hs1.lt
  have HWB := Lib.hid hwb.symm
  by_cases hc : ckLaw nx lw = 0
  · have HC := Lib.hid hc
    obtain ⟨hcw, hm1, hm2, _⟩ := ckLaw_ok hc
    have hb8 := ckWay_bd hcw
    have hl8 : len ≤ 8 := by omega
    have HCW := Lib.hid hcw
    have HREA : Hid (∀ i, (reachW nx).testBit i = true ↔ Rea nx (-1) 0 i) := Lib.hid fun i => by
      unfold reachW
      rw [if_pos hcw, setW_bit, fin_mem hcw]
    have hrl := reachW_lt nx
    clear hc hcw hm1 hm2 hb8 hlen hn1 hn2 hown hb0 hwb
    go_enter Try.func7, Try.ntmps7
    go_wp2_with fail
    rw [HWB.out]
    refine (HS.out true _ hxb hrb HC.out).mono ?_
    rintro e w1 ⟨ws, A3, c3, hsv, rfl, hr3, hfr, hw1⟩
    have hown1 := hs1.below hw1 hlb
    have hlw1 := hown1.lt
    have d0 := hown1.cell (j := 0) rfl
    have d1 := hown1.cell (j := 1) rfl
    have d2 := hown1.cell (j := 2) rfl
    have d3 := hown1.cell (j := 3) rfl
    have d4 := hown1.cell (j := 4) rfl
    have d5 := hown1.frozen 1
    have HSA := Lib.hid hsv
    have HWA := Lib.hid (hsv.len.trans HLEN.out)
    obtain ⟨w2, hw2⟩ : ∃ w2, w2 = w1.setCell ⟨w.heap.size, 1, none⟩ (.bool false) := ⟨_, rfl⟩
    have hbw2 : Below w.heap.size w w2 := by rw [hw2]; exact (hb1.trans (hw1.mono hb1.size)).setCell (show w.heap.size ≤ (⟨w.heap.size, 1, none⟩ : Addr).block from Nat.le_refl _) _
    have hown2 := hown1.set 1 (.bool false)
    rw [← hw2] at hown2
    have hx2 := (hx.below hbw2 (Nat.le_refl _)).more hbw2.size
    have hr2 := (hr.below hbw2 (Nat.le_refl _)).more hbw2.size
    have hsz2 : w2.heap.size = w1.heap.size := by rw [hw2]; simp
    have hra : RdU w2 w2.heap.size A3 ws := by
      have h1 : RdU w2 w1.heap.size A3 ws := Rd.but hr3 (G := w.heap.size) (fun ad hA => by have := hfr ad hA; omega) (fun p hp => by rw [hw2]; exact World.cell?_of_block (Below.heap_setCell w1 _ _ p.block hp))
      rw [hsz2]
      exact h1
    have hlw2 := hown2.lt
    clear hsv hfr hr3 hsz2
    go_wp2_with fail
    rw [← hw2]
    refine (HS.out false _ hx2 hr2 HC.out).mono ?_
    rintro e w3 ⟨ws', A4, c4, hsv', rfl, hr4, _, hb3⟩
    have hown3 := hown2.below hb3 hlw2
    have hlw3 := hown3.lt
    have HSB2 := Lib.hid hsv'
    have HWB2 := Lib.hid (hsv'.len.trans HLEN.out)
    have hra3 := (hra.below hb3 (Nat.le_refl _)).more hb3.size
    have hx3 := (hx2.below hb3 (Nat.le_refl _)).more hb3.size
    have hr3 := (hr2.below hb3 (Nat.le_refl _)).more hb3.size
    have hbw3 := hbw2.trans (hb3.mono hbw2.size)
    clear hsv' hw2
    go_wp2_with fail
    refine (HRE.out _ hx3).mono ?_
    rintro e w4 ⟨rfl, hb4⟩
    rw [HCW.out]
    have hown4 := hown3.below hb4 hlw3
    have f0 := hown4.cell (j := 0) rfl
    have f1 := hown4.cell (j := 1) rfl
    have f2 := hown4.cell (j := 2) rfl
    have f3 := hown4.cell (j := 3) rfl
    have f4 := hown4.cell (j := 4) rfl
    have hx4 := (hx3.below hb4 (Nat.le_refl _)).more hb4.size
    have hr4' := (hr3.below hb4 (Nat.le_refl _)).more hb4.size
    have hbw4 := hbw3.trans (hb4.mono hbw3.size)
    go_wp2_with fail
    refine (HLF.out _ hx4 hr4').mono ?_
    rintro e w5 ⟨rfl, hb5⟩
    rw [decide_eq_true HC.out]
    have hb45 : Below w3.heap.size w3 w5 := hb4.trans (hb5.mono hb4.size)
    have hA := (hra3.below hb45 (Nat.le_refl _)).more hb45.size
    have hB := (hr4.below hb45 (Nat.le_refl _)).more hb45.size
    have hbw5 := hbw4.trans (hb5.mono hbw4.size)
    obtain ⟨S, hS⟩ : ∃ S, reachW nx = S := ⟨_, rfl⟩
    rw [hS] at hrl HREA ⊢
    have hS32 : S < 4294967296 := by omega
    clear hS
    go_wp2
    go_loopw [11] (fun z wr => ∃ i : Nat, i ≤ len ∧ z = .int .i64 i ∧ Below w5.heap.size w5 wr) (fun z _ => len - (intOf z).toNat)
    case atStart => exact ⟨0, Nat.zero_le _, rfl, Below.refl _ _⟩
    case round =>
      obtain ⟨i, hi, rfl, hbr⟩ := hrel
      have hszr := hbr.size
      by_cases hlt : i < len
      · obtain ⟨a1, W, rfl, hbl1, hd1, hc1⟩ := (hA.below hbr (Nat.le_refl _)).at_ (k := i) (by rw [HWA.out]; exact hlt)
        obtain ⟨a2, V, rfl, hbl2, hd2, hc2⟩ := (hB.below hbr (Nat.le_refl _)).at_ (k := i) (by rw [HWB2.out]; exact hlt)
        have hW := HSA.out.mem i W hd1
        have hV := HSB2.out.mem i V hd2
        have hbit : bitB S (i : Int) = S.testBit i := bitB_nat (by omega)
        have hW32 : W < 4294967296 := by have := hW.1; omega
        have hV32 : V < 4294967296 := by have := hV.1; omega
        by_cases hrea : Rea nx (-1) 0 i
        · have HBIT : Hid (bitB S (i : Int) = true) := Lib.hid (hbit.trans ((HREA.out i).2 hrea))
          have HSUB : Hid (∀ j, W.testBit j = true → V.testBit j = true) := Lib.hid fun j hj => by
            obtain ⟨h1, h2⟩ := (hW.2 j).1 hj
            exact (hV.2 j).2 ⟨h1, two_rea hrea h2⟩
          clear hd1 hd2 hW hV hbit hrea
          go_wp2
          go_quiet (first
            | (go_at_call 19; exact Calls.quiet_of_same (bit_told HBIT.out _ hS32))
            | (go_at_call 17; exact Calls.quiet_of_same (in_true HSUB.out _ hW32 hV32)))
          go_wp2
          go_round
          case rel => exact ⟨i + 1, by omega, by go_num, ⟨hbr.os, hbr.tape, hbr.output, hbr.size, hbr.block⟩⟩
          case measure => (simp [intOf]; omega)
        · have HBIT : Hid (bitB S (i : Int) = false) := Lib.hid (by
            rw [hbit]
            cases h : S.testBit i with
            | false => rfl
            | true => exact absurd ((HREA.out i).1 h) hrea)
          have hWe : W = 255 := prw_all hW fun f => two_all hrea
          have hVe : V = 0 := prw_none hV fun f => two_none hrea
          subst hWe hVe
          clear hd1 hd2 hW hV hbit hrea
          go_wp2
          go_quiet ((go_at_call 19; exact Calls.quiet_of_same (bit_told HBIT.out _ hS32)))
          go_wp2
          go_round
          case rel => exact ⟨i + 1, by omega, by go_num, ⟨hbr.os, hbr.tape, hbr.output, hbr.size, hbr.block⟩⟩
          case measure => (simp [intOf]; omega)
      · have hil : i = len := by omega
        subst hil
        go_wp2
        go_ret
        exact ⟨ret_bool (by simp), hbw5.trans (hbr.mono hbw5.size)⟩
  · have hne : (ckLaw nx lw != 0) = true := by simp [hc]
    have HC := Lib.hid hc
    clear hc hlen hn1 hn2 hown hb0 hwb
    go_enter Try.func7, Try.ntmps7
    go_wp2_with fail
    rw [HWB.out]
    refine (HSB.out true _ hxb hrb HC.out).mono ?_
    rintro e w1 ⟨A3, c3, rfl, hw1⟩
    have hown1 := hs1.below hw1 hlb
    have d0 := hown1.cell (j := 0) rfl
    have d1 := hown1.cell (j := 1) rfl
    have d2 := hown1.cell (j := 2) rfl
    have d3 := hown1.cell (j := 3) rfl
    have d4 := hown1.cell (j := 4) rfl
    have d5 := hown1.frozen 1
    obtain ⟨w2, hw2⟩ : ∃ w2, w2 = w1.setCell ⟨w.heap.size, 1, none⟩ (.bool false) := ⟨_, rfl⟩
    have hbw2 : Below w.heap.size w w2 := by rw [hw2]; exact (hb1.trans (hw1.mono hb1.size)).setCell (show w.heap.size ≤ (⟨w.heap.size, 1, none⟩ : Addr).block from Nat.le_refl _) _
    have hown2 := hown1.set 1 (.bool false)
    rw [← hw2] at hown2
    have hx2 := (hx.below hbw2 (Nat.le_refl _)).more hbw2.size
    have hr2 := (hr.below hbw2 (Nat.le_refl _)).more hbw2.size
    have hlw2 := hown2.lt
    go_wp2_with fail
    rw [← hw2]
    refine (HSB.out false _ hx2 hr2 HC.out).mono ?_
    rintro e w3 ⟨A4, c4, rfl, hb3⟩
    have hown3 := hown2.below hb3 hlw2
    have hlw3 := hown3.lt
    have hx3 := (hx2.below hb3 (Nat.le_refl _)).more hb3.size
    have hr3 := (hr2.below hb3 (Nat.le_refl _)).more hb3.size
    have hbw3 := hbw2.trans (hb3.mono hbw2.size)
    clear hw2
    go_wp2_with fail
    refine (HRE.out _ hx3).mono ?_
    rintro e w4 ⟨rfl, hb4⟩
    have hown4 := hown3.below hb4 hlw3
    have f0 := hown4.cell (j := 0) rfl
    have f1 := hown4.cell (j := 1) rfl
    have f2 := hown4.cell (j := 2) rfl
    have f3 := hown4.cell (j := 3) rfl
    have f4 := hown4.cell (j := 4) rfl
    have hx4 := (hx3.below hb4 (Nat.le_refl _)).more hb4.size
    have hr4' := (hr3.below hb4 (Nat.le_refl _)).more hb4.size
    have hbw4 := hbw3.trans (hb4.mono hbw3.size)
    go_wp2_with fail
    refine (HLF.out _ hx4 hr4').mono ?_
    rintro e w5 ⟨rfl, hb5⟩
    rw [decide_eq_false HC.out]
    go_wp2
    go_ret
    exact ⟨ret_bool (by simp), hbw4.trans (hb5.mono hbw4.size)⟩

/-- 18 -/
theorem reachIs : ReachIs := ⟨wayReach_any⟩

set_option maxRecDepth 100000 in
theorem lawFactTwo_lifted (os : Os) (started : os.Started) (H : Type) (enc : TypeId × Value → H) :
    ReturnsInHanded {} Try.checked os 7 .any (Rows.factTwoSpec.pre6 enc Try.prog Try.f7 Rows.factTwoRow.domain false) (Rows.factTwoSpec.post enc Try.prog Try.f7 false true false false) := by
  refine returnsInHanded_of_change_sized (C := Try.checked) Try.own started (by kernel_rfl) Try.func7
    (ChangeSpec.witness6 (enc := enc) (C := Try.checked) false ⟨#[], #[.slice none 0 0, .agg #[.bool false, .bool false, .slice none 0 0, .slice none 0 0, .int .u32 0]], []⟩ 8 (by kernel_rfl) (by kernel_rfl) (by kernel_rfl) (by kernel_rfl)) ?_
  intro W base args ds gs before hval0 hW hcnd hsz _
  have hval : ∀ (j : Nat) t v, Try.f7.params[j]? = some t → args[j]? = some v → Value.okWide Try.prog W .any base t v := hval0
  have hW' := hW
  obtain ⟨p, q, hA0, hV, rfl, hfz, hnd⟩ := hW
  have hA : DataW.TrodAll enc Try.prog W 0 (fun _ => true) true Try.f7.params.toList args.toList ds p := hA0
  obtain ⟨hgs, _⟩ := trodVars_none hV
  rw [Try.params7] at hA hval
  obtain ⟨v0, vs0, d0, ds0, p0, q0, hargs, rfl, rfl, h0, r0⟩ := trodAll_cons hA
  obtain ⟨v1, vs1, d1, ds1, p1, q1, rfl, rfl, rfl, h1, r1⟩ := trodAll_cons r0
  obtain ⟨rfl, rfl, rfl⟩ := trodAll_nil r1
  have hargs2 : args = #[v0, v1] := Array.toList_inj.1 hargs
  subst hargs2
  obtain ⟨A0, c0, l0, rfl, lc0, cm0, x0, r0⟩ := open_graphA (hval 0 22 v0 rfl rfl) h0
  have b0 := len_reach Try.underlying22 (hval 0 22 _ rfl rfl) h0 hsz (j := 0) (by rw [Try.params7]; rfl) rfl
  rw [show Try.prog.bytesOf (Try.prog.elem 22) = 24 from by kernel_rfl] at b0
  obtain ⟨w1, A1, c1, B1, e1, rfl, x1, u1⟩ := open_lawA (hval 1 26 v1 rfl rfl) h1
  refine (lawFactTwo_any factIs reachIs A0 c0 l0 A1 c1 B1 e1 w1 _ x0 (by omega) x1 u1).mono fun e W' ⟨he, hb⟩ => ?_
  subst he
  exact ⟨_, rfl, law_post Try.laidOut rfl (by kernel_rfl) Try.underlying4 ⟨rfl, rfl, rfl⟩ (by kernel_rfl) hW' hb⟩

theorem factTwo_holds : Rows.FactTwoSaid :=
  OpenClaim.holds_of_wide 7 Try.f7 rfl rfl rfl rfl rfl rfl rfl ⟨rfl, rfl, rfl, rfl, rfl⟩ rfl rfl rfl rfl rfl (by kernel_rfl) Try.func7 (show joinedFacts Try.prog 7 Try.f7 Rows.factTwoSpec Rows.factTwoRow = true from (by unfold joinedFacts; (repeat' (with_reducible refine and_both ?_ ?_)) <;> first | (with_reducible exact may_enter) | ((with_reducible refine make_ok ?_); rfl) | ((with_reducible refine lifts_ok ?_); rfl) | kernel_rfl))
    (of_decide_eq_true (by kernel_rfl)) (by unfold Func.isWrapper; rw [if_neg (of_decide_eq_false (by kernel_rfl))]; exact ⟨rfl, rfl⟩)
    (fun os started H enc _ => lawFactTwo_lifted os started H enc)

end Go.Proofs.Ytmbabbdcijgnoaa
