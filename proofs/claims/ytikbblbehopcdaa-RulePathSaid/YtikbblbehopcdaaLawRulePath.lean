/-
  Who dominates the last node of a path is on the path: codemasonkeep.RulePath returns true and leaves its arguments alone. No condition.
-/
import Derived.Test.YtikbblbehopcdaaLawRule
import Derived.BigRegion
namespace Go.Proofs.Ytikbblbehopcdaa
open Go.RowKit Go.ChangeShapes Go.WideShapes Go.ChangeAt Go.Deep
set_option linter.unusedSimpArgs false
set_option linter.unusedVariables false
set_option maxRecDepth 100000

set_option maxHeartbeats 1000000 in
theorem refIn_any (a b : Nat) (w : World) (ha : a < 4294967296) (hb : b < 4294967296) :
    Calls Try.prog 43 #[.int .u32 (a : Nat), .int .u32 (b : Nat)] w fun e w' => e = .returned (.bool (decide (a ||| b = b))) ∧ w = w' := by
  have hor : bits .or .u32 (a : Int) (b : Int) = ((a ||| b : Nat) : Int) := u32_or_nat _ _ ha hb
  generalize a ||| b = ab at *
  go_enter Try.func43, Try.ntmps43
  go_wp2
  go_ret
  exact ⟨ret_bool (by rw [Bool.eq_iff_iff]; simp; try omega), rfl⟩

theorem sub_or {a b : Nat} (h : ∀ j, a.testBit j = true → b.testBit j = true) : a ||| b = b := word_ext fun j => by
  rw [Nat.testBit_or, Bool.or_eq_true]
  exact ⟨fun h2 => h2.elim (h j) id, .inr⟩

/-- a path so far: where it is, which nodes it was at -/
structure Pth (nx : List (List Int)) (at_ was : Nat) : Prop where
  rea : Rea nx (-1) 0 at_
  has : was.testBit at_ = true
  out : ∀ a, ¬ was.testBit a = true → Rea nx (a : Int) 0 at_

theorem Pth.start (nx : List (List Int)) : Pth nx 0 1 := ⟨Rea.me nx 0, by simp, fun a ha => .here (int_ne fun e => ha (by rw [← e]; simp))⟩

theorem Pth.step {nx : List (List Int)} {p was q : Nat} (h : Pth nx p was) (hq : q ∈ sc nx p) : Pth nx q (was ||| 2 ^ q) := by
  refine ⟨h.rea.step hq (nat_ne q), ?_, fun a ha => ?_⟩
  · rw [Nat.testBit_or, Nat.testBit_two_pow]; simp
  · rw [Nat.testBit_or, Bool.or_eq_true, not_or, Nat.testBit_two_pow, decide_eq_true_eq] at ha
    exact (h.out a ha.1).step hq (int_ne ha.2)

theorem Pth.dom {nx : List (List Int)} {p was a : Nat} (h : Pth nx p was) (hd : Dom nx a p) : was.testBit a = true := by
  refine Classical.byContradiction fun hn => ?_
  rcases hd.2.2 with e | e
  · subst e; exact hn h.has
  · exact e (h.out a hn)

set_option maxHeartbeats 4000000 in
theorem lawRulePath_any (K : RuleIs) (A : Option Addr) (cap : Nat) (nx : List (List Int)) (PA : Option Addr) (pcap : Nat) (ps : List Int) (w : World) (hx : RdG w w.heap.size A nx) (hm : nx.length ≤ maxLen) (hp : RdB w w.heap.size PA ps) (hpm : ps.length ≤ maxLen) (hp8 : ∀ x ∈ ps, inB8 x) :
    Calls Try.prog 16 #[.slice A nx.length cap, .slice PA ps.length pcap] w fun e w' => e = .returned (.bool true) ∧ Below w.heap.size w w' := by
  have HM := Lib.hid hm
  unfold maxLen at hm hpm
  by_cases hc : ckWay nx = 0
  · have HC := Lib.hid hc
    obtain ⟨hb1', hb2', _⟩ := ckWay_bd hc
    obtain ⟨len, hlen⟩ : ∃ len, nx.length = len := ⟨_, rfl⟩
    have HLEN := Lib.hid hlen
    obtain ⟨pn, hpn⟩ : ∃ pn, ps.length = pn := ⟨_, rfl⟩
    have HPN := Lib.hid hpn
    have HP8 := Lib.hid hp8
    rw [hlen] at hb1' hb2' hm ⊢
    rw [hpn] at hpm ⊢
    have HML : Hid (len ≤ maxLen) := Lib.hid (by unfold maxLen; omega)
    clear hc hlen hpn hp8
    go_enter Try.func16, Try.ntmps16
    go_wp2_with fail
    refine (K.table A _ cap nx _ hx HLEN.out HC.out).mono ?_
    rintro e w1 ⟨ws, A1, c1, hpt, rfl, hr1, hb1⟩
    have hx1 := (hx.below hb1 (Nat.le_refl _)).more hb1.size
    have hp1 := hp.below hb1 (Nat.le_refl _)
    have hs1 := hb1.size
    have HPT := Lib.hid hpt
    have HWL := Lib.hid (hpt.len.trans HLEN.out)
    clear hpt
    obtain ⟨l0, W0, rfl, hbl0, hW0, hcl0⟩ := hr1.at_ (k := 0) (by rw [HWL.out]; exact hb1')
    have hW1 : W0 = 1 := word_ext fun j => by
      rw [HPT.out.mem 0 W0 hW0, Dom.zero_iff, show (1 : Nat) = 2 ^ 0 from rfl, Nat.testBit_two_pow, decide_eq_true_eq]
      exact eq_comm
    subst hW1
    have hcl0' : w1.cell? l0 = some (.int .u32 1) := by
      have ha : l0.add 0 = l0 := by unfold Addr.add; simp
      rw [ha] at hcl0
      exact hcl0
    clear hW0
    go_wp2_with fail
    refine (may_any A _ cap nx _ hx1 HLEN.out HML.out).mono ?_
    rw [decide_eq_true HC.out]
    rintro e w2 ⟨rfl, rfl⟩
    go_wp2
    go_loopw [7, 8, 32] (fun x y z wr => ∃ k p was : Nat, k ≤ pn ∧ z = .int .i64 k ∧ x = .int .i64 p ∧ y = .int .u32 (was : Nat) ∧ p < len ∧ was < 256 ∧ Hid (Pth nx p was) ∧ Below w1.heap.size w1 wr) (fun _ _ z _ => pn - (intOf z).toNat)
    case atStart => exact ⟨0, 0, 1, Nat.zero_le _, rfl, rfl, rfl, by omega, by omega, Lib.hid (Pth.start nx), Below.refl _ _⟩
    case round =>
      obtain ⟨k, p, was, hk, rfl, rfl, rfl, hpl, hwas, HPTH, hb⟩ := hrel
      have hsz := hb.size
      have hclr := (hb.cell (p := l0) (by have := hbl0; rw [addr_add_block] at this; exact this)).trans hcl0'
      have hclr0 := (hb.cell (p := l0.add 0) hbl0).trans hcl0
      by_cases hkt : k < pn
      · obtain ⟨pa, b, rfl, hbp, hbk, hcb⟩ := (hp1.below (hb.mono hs1) (Nat.le_refl _)).at_ (k := k) (by rw [HPN.out]; exact hkt)
        obtain ⟨hb0, hb255⟩ := HP8.out b (List.mem_of_getElem? hbk)
        obtain ⟨bn, rfl⟩ := Int.eq_ofNat_of_zero_le hb0
        obtain ⟨ad, row, Ar, cr, rfl, hbl, hd, hcell, hrow⟩ := (hx1.below hb (Nat.le_refl _)).at_ (k := p) (by rw [HLEN.out]; exact hpl)
        have hrs := row_sc HC.out hd
        subst hrs
        have hsl3 := sc_len HC.out p
        have hslt := fun x => sc_lt HC.out (i := p) (x := x)
        have HST := Lib.hid (fun q (hq : q ∈ sc nx p) => HPTH.out.step hq)
        obtain ⟨ss, hss⟩ : ∃ ss, sc nx p = ss := ⟨_, rfl⟩
        rw [hss] at hrow hcell hsl3 hslt
        have HSS := Lib.hid hss
        obtain ⟨sl, hsl⟩ : ∃ sl, ss.length = sl := ⟨_, rfl⟩
        have hnl : (ni ss).length = sl := by simp [ni, hsl]
        rw [hnl] at hcell
        rw [hsl] at hsl3
        have HSL := Lib.hid hsl
        have HNL := Lib.hid hnl
        have HSLT := Lib.hid hslt
        clear hd hss hsl hnl hslt hbk
        by_cases h0 : sl = 0
        · subst h0
          go_wp2
          go_ret
          exact ⟨ret_bool (by simp), hb1.trans (hb.mono hs1)⟩
        · have hne : ((sl : Int) == 0) = false := by simp; omega
          have hpos : 0 < sl := by omega
          have hmod : bn % sl < sl := Nat.mod_lt _ hpos
          have htm : ((bn : Int)).tmod (sl : Int) = ((bn % sl : Nat) : Int) := (Int.ofNat_tmod bn sl).symm
          have hem : ((bn : Int)) % (sl : Int) = ((bn % sl : Nat) : Int) := (Int.natCast_emod bn sl).symm
          obtain ⟨ar, q', rfl, hbr, hqr, hcq⟩ := hrow.at_ (k := bn % sl) (by rw [HNL.out]; exact hmod)
          obtain ⟨q, hqq⟩ : ∃ q, ss[bn % sl]? = some q := ⟨_, List.getElem?_eq_getElem (by rw [HSL.out]; exact hmod)⟩
          rw [ni_at hqq] at hqr
          injection hqr with hqr
          subst hqr
          have hqm := List.mem_of_getElem? hqq
          have hql := HSLT.out q hqm
          rw [HLEN.out] at hql
          have HNP := Lib.hid (HST.out q (by rw [HSS.out]; exact hqm))
          obtain ⟨lq, W, hA, hblq, hW, hclq⟩ := (hr1.below hb (Nat.le_refl _)).at_ (k := q) (by rw [HWL.out]; exact hql)
          injection hA with hA
          subst hA
          have hW8 := HPT.out.lt q W hW
          have hmem := HPT.out.mem q W hW
          have hq8 : q < 8 := by omega
          have hnw := or_lt8 hwas hq8
          have hin : W ||| (was ||| 2 ^ q) = was ||| 2 ^ q := sub_or fun j hj => HNP.out.dom ((hmem j).1 hj)
          have hbq : bitB W (q : Int) = true := by rw [bitB_nat hW8]; exact (hmem q).2 (Dom.me HNP.out.rea)
          have hbz : bitB W ((0 : Nat) : Int) = true := by rw [bitB_nat hW8]; exact (hmem 0).2 (Dom.zero HNP.out.rea)
          have HIN := Lib.hid (decide_eq_true hin)
          have HBQ := Lib.hid hbq
          have HBZ : Hid (bitB W 0 = true) := Lib.hid hbz
          have hpe := pow_u32' (v := q) (by omega)
          have hp2 := pow_lt_32 (v := q) (by omega)
          have HPE := Lib.hid hpe
          have hor : bits .or .u32 (was : Int) ((2 : Int) ^ q % 4294967296) = ((was ||| 2 ^ q : Nat) : Int) := by rw [hpe]; exact u32_or_nat _ _ (by omega) hp2
          have hW32 : W < 4294967296 := by omega
          clear hqq hqm hW hmem hin hbq hbz hpe h0
          generalize bn % sl = r at *
          generalize was ||| 2 ^ q = nw at *
          go_wp2
          go_region
          all_goals
            go_wp2_with fail
            refine (refIn_any W nw _ hW32 (by omega)).mono ?_
            rw [HIN.out]
            rintro e w3 ⟨rfl, rfl⟩
            go_wp2_with fail
            refine (bit_any W _ _ hW32).mono ?_
            rw [HBQ.out]
            rintro e w3 ⟨rfl, rfl⟩
            go_wp2_with fail
            refine (bit_any W _ _ hW32).mono ?_
            rw [HBZ.out]
            rintro e w3 ⟨rfl, rfl⟩
            go_wp2
            go_round
            case rel => exact ⟨k + 1, q, nw, by omega, by go_num, rfl, rfl, hql, hnw, HNP, by go_grown⟩
            case measure => (simp [intOf]; omega)
      · go_wp2
        go_ret
        exact ⟨ret_bool (by simp), hb1.trans (hb.mono hs1)⟩
  · have hne : (ckWay nx != 0) = true := by simp [hc]
    have HC := Lib.hid hc
    clear hc
    go_enter Try.func16, Try.ntmps16
    go_wp2_with fail
    refine (K.tableBad A _ cap nx _ hx rfl HM.out HC.out).mono ?_
    rintro e w1 ⟨A1, c1, rfl, hb1⟩
    have hx1 := (hx.below hb1 (Nat.le_refl _)).more hb1.size
    go_wp2_with fail
    refine (may_any A _ cap nx _ hx1 rfl HM.out).mono ?_
    rw [decide_eq_false HC.out]
    rintro e w2 ⟨rfl, rfl⟩
    go_wp2
    go_ret
    exact ⟨ret_bool (by simp), hb1⟩

set_option maxRecDepth 100000 in
theorem lawRulePath_lifted (os : Os) (started : os.Started) (H : Type) (enc : TypeId × Value → H) :
    ReturnsInHanded {} Try.checked os 16 .any (Rows.rulePathSpec.pre6 enc Try.prog Try.f16 Rows.rulePathRow.domain false) (Rows.rulePathSpec.post enc Try.prog Try.f16 false true false false) := by
  refine returnsInHanded_of_change_sized (C := Try.checked) Try.own started (by kernel_rfl) Try.func16
    (ChangeSpec.witness6 (enc := enc) (C := Try.checked) false ⟨#[], #[.slice none 0 0, .slice none 0 0], []⟩ 8 (by kernel_rfl) (by kernel_rfl) (by kernel_rfl) (by kernel_rfl)) ?_
  intro W base args ds gs before hval0 hW hcnd hsz _
  have hval : ∀ (j : Nat) t v, Try.f16.params[j]? = some t → args[j]? = some v → Value.okWide Try.prog W .any base t v := hval0
  have hW' := hW
  obtain ⟨p, q, hA0, hV, rfl, hfz, hnd⟩ := hW
  have hA : DataW.TrodAll enc Try.prog W 0 (fun _ => true) true Try.f16.params.toList args.toList ds p := hA0
  obtain ⟨hgs, _⟩ := trodVars_none hV
  rw [Try.params16] at hA hval
  obtain ⟨v0, vs0, d0, ds0, p0, q0, hargs, rfl, rfl, h0, r0⟩ := trodAll_cons hA
  obtain ⟨v1, vs1, d1, ds1, p1, q1, rfl, rfl, rfl, h1, r1⟩ := trodAll_cons r0
  obtain ⟨rfl, rfl, rfl⟩ := trodAll_nil r1
  have hargs2 : args = #[v0, v1] := Array.toList_inj.1 hargs
  subst hargs2
  obtain ⟨A0, c0, l0, rfl, lc0, cm0, x0, r0⟩ := open_graphA (hval 0 22 v0 rfl rfl) h0
  have b0 := len_reach Try.underlying22 (hval 0 22 _ rfl rfl) h0 hsz (j := 0) (by rw [Try.params16]; rfl) rfl
  rw [show Try.prog.bytesOf (Try.prog.elem 22) = 24 from by kernel_rfl] at b0
  obtain ⟨A1, c1, l1, rfl, lc1, cm1, x1, r1⟩ := open_bytesA (hval 1 57 v1 rfl rfl) h1
  have b1 := len_reach Try.underlying57 (hval 1 57 _ rfl rfl) h1 hsz (j := 1) (by rw [Try.params16]; rfl) rfl
  rw [show Try.prog.bytesOf (Try.prog.elem 57) = 1 from by kernel_rfl] at b1
  refine (lawRulePath_any ruleIs A0 c0 l0 A1 c1 l1 _ x0 (by omega) x1 (by omega) r1).mono fun e W' ⟨he, hb⟩ => ?_
  subst he
  exact ⟨_, rfl, law_post Try.laidOut rfl (by kernel_rfl) Try.underlying4 ⟨rfl, rfl, rfl⟩ (by kernel_rfl) hW' hb⟩

theorem rulePath_holds : Rows.RulePathSaid :=
  OpenClaim.holds_of_wide 16 Try.f16 rfl rfl rfl rfl rfl rfl rfl ⟨rfl, rfl, rfl, rfl, rfl⟩ rfl rfl rfl rfl rfl (by kernel_rfl) Try.func16 (show joinedFacts Try.prog 16 Try.f16 Rows.rulePathSpec Rows.rulePathRow = true from (by unfold joinedFacts; (repeat' (with_reducible refine and_both ?_ ?_)) <;> first | (with_reducible exact may_enter) | ((with_reducible refine make_ok ?_); rfl) | ((with_reducible refine lifts_ok ?_); rfl) | kernel_rfl))
    (of_decide_eq_true (by kernel_rfl)) (by unfold Func.isWrapper; rw [if_neg (of_decide_eq_false (by kernel_rfl))]; exact ⟨rfl, rfl⟩)
    (fun os started H enc _ => lawRulePath_lifted os started H enc)

end Go.Proofs.Ytikbblbehopcdaa
