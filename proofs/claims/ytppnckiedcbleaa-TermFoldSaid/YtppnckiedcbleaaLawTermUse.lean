/-
  A list has the same value for values that agree on the variables that it uses: codemasonkeep.TermUse returns true for all arguments and leaves them alone. No condition.
-/
import Derived.Test.YtppnckiedcbleaaUses
import Derived.Test.YtppnckiedcbleaaTermValue
import Derived.Test.YtppnckiedcbleaaTermsRef
import Derived.Test.YtppnckiedcbleaaComes
import Derived.Test.YtppnckiedcbleaaBit
import Derived.Test.YtppnckiedcbleaaLaw
import Derived.Test.YtppnckiedcbleaaTermed
namespace Go.Proofs.Ytppnckiedcbleaa
open Go.RowKit Go.ChangeShapes Go.WideShapes Go.ChangeAt Go.Deep
set_option linter.unusedSimpArgs false
set_option linter.unusedVariables false
set_option maxRecDepth 100000

/-- a store into a slice of the call's own -/
theorem own_set1 {w : World} {base : Nat} {e : TypeId} {A : Option Addr} {n c : Nat} {xs : List Value} {i : Nat} (u : Value) (h : w.ownsRow base e 1 (.slice A n c) n xs) (hi : i < n) :
    ∃ g v, A = some ⟨g, 0, none⟩ ∧ base ≤ g ∧ w.cell? ⟨g, i, none⟩ = some v ∧ w.frozen? ⟨g, i, none⟩ = false ∧ (w.setCell ⟨g, i, none⟩ u).ownsRow base e 1 (.slice A n c) n (xs.set i u) := by
  rcases h.2 with ⟨_, rfl⟩ | ⟨g, cap, cur, hv, h1, hh, h2, h3, h4, h5⟩
  · omega
  · injection hv with hA _ hc
    subst hA hc
    have hic : i < cur.size := by rw [h4]; omega
    refine ⟨g, cur[i], rfl, h1, ?_, ?_, ?_⟩
    · simp [World.cell?, hh, hic]
    · simp [World.frozen?, hh]
    · refine ⟨by simpa using h.1, .inr ⟨g, c, cur.set i u hic, rfl, h1, ?_, h2, h3, by simpa using h4, ?_⟩⟩
      · simp [World.setCell, Array.getElem?_modify, hh, Array.setIfInBounds, hic]
      · rw [Array.toList_set, Nat.mul_one, List.take_set, ← h5, Nat.mul_one]

set_option maxHeartbeats 4000000 in
theorem lawTermUse_any (vars : Int) (A XA XB : Option Addr) (cap ca cb : Nat) (l : List Tm) (a b : List Int) (w : World) (hx : RdT w w.heap.size A l) (ha : RdI w w.heap.size XA a) (hb : RdI w w.heap.size XB b) (ham : a.length * 8 ≤ 140737488351232) (hbm : b.length * 8 ≤ 140737488351232) :
    Calls Try.prog 7 #[.int .i64 vars, .slice A l.length cap, .slice XA a.length ca, .slice XB b.length cb] w fun e w' => e = .returned (.bool true) ∧ Below w.heap.size w w' := by
  generalize hl : l.length = len at *
  generalize hna : a.length = na at *
  generalize hnb : b.length = nb at *
  have HL := Lib.hid hl
  have HA := Lib.hid hna
  have HB := Lib.hid hnb
  have hm1 : na ≤ maxLen := by unfold maxLen; omega
  have hm2 : nb ≤ maxLen := by unfold maxLen; omega
  clear hl hna hnb
  go_enter Try.func7, Try.ntmps7
  go_wp2_with fail
  refine (uses_any vars A len cap l _ hx HL.out).mono ?_
  rintro e w1 ⟨rfl, hb1⟩
  have hx1 := (hx.below hb1 (Nat.le_refl _)).more hb1.size
  go_wp2_with fail
  refine (termed_any vars A len cap l _ hx1 HL.out).mono ?_
  rintro e w2 ⟨rfl, hb2⟩
  have hbw := hb1.trans (hb2.mono hb1.size)
  have hx2 := (hx.below hbw (Nat.le_refl _)).more hbw.size
  have ha2 := (ha.below hbw (Nat.le_refl _)).more hbw.size
  have hbb2 := (hb.below hbw (Nat.le_refl _)).more hbw.size
  clear hx1 hb1 hb2 hx ha hb
  by_cases h1 : ckTerms vars l = 0
  · have HC := Lib.hid h1
    have e1 : (ckTerms vars l == 0) = true := by simp [h1]
    have HU := Lib.hid (show usesR vars l = usesW l by unfold usesR; rw [if_pos h1])
    have HW := Lib.hid (usesW_lt h1)
    rw [h1]
    clear h1
    by_cases h2 : ckHave vars a = 0
    · have e2 : (ckHave vars a == 0) = true := by simp [h2]
      by_cases h3 : ckHave vars b = 0
      · have e3 : (ckHave vars b == 0) = true := by simp [h3]
        obtain ⟨a1, a2⟩ := ckHave_ok h2
        obtain ⟨b1, b2⟩ := ckHave_ok h3
        rw [HA.out] at a1
        rw [HB.out] at b1
        have H2 := Lib.hid h2
        have H3 := Lib.hid h3
        have HOA := Lib.hid a2
        have HOB := Lib.hid b2
        clear h2 h3 a2 b2
        subst b1
        have HAB : Hid (na = nb) := Lib.hid (by omega)
        have hab1 : na ≤ nb := by omega
        have hab2 : nb ≤ na := by omega
        clear a1
        rw [HU.out]
        have hl1 : (iv b).length = nb * 1 := by simp [iv, HB.out]
        have hn1 : XB = none → nb = 0 := fun h => by have := hbb2.nil h; rw [HB.out] at this; exact this
        have HL1 := Lib.hid hl1
        have HN1 := Lib.hid hn1
        have hbig : (0 + nb) * 8 ≤ 140737488355328 := by omega
        have hmx : 0 + nb ≤ maxLen := by omega
        have hsw : w2.heap.size ≤ (w2.alloc (.cells #[] 3)).heap.size := by simp
        have HNW := Lib.hid ((hbb2.below ((Below.refl w2.heap.size w2).alloc (Nat.le_refl _) (.cells #[] 3)) (Nat.le_refl _)).news)
        clear hl1 hn1
        go_wp2_with (first
          | (go_at_call 33; (with_reducible refine (given_any _ XA na ca a _ _ ha2 HA.out hm1).mono ?_); rintro e w3 ⟨rfl, rfl⟩)
          | (go_at_call 33; (with_reducible refine (given_any _ XB nb cb b _ _ hbb2 HB.out hm2).mono ?_); rintro e w3 ⟨rfl, rfl⟩)
          | (at_builtin; refine wpList_app rfl (.tmp 45) (.tmp 46) 26 rfl w2.heap.size 3 1 8 int_app [] rfl (World.ownsRow_made w2 #[] 0 (Nat.le_refl _) (Nat.zero_le _) rfl) (iv b) rfl HL1.out HN1.out HNW.out (iv_one _) hmx hbig hsw ?_; intro A1 c1 w3 hown1 hg1 hb1))
        rw [Nat.zero_add, List.nil_append] at hown1
        have hb3 : Below w2.heap.size w2 w3 := ((Below.refl _ _).alloc (Nat.le_refl _) _).trans hb1
        clear hb1 hg1
        go_loopw [12] (fun z wr => ∃ (k : Nat) (xs : List Int), k ≤ nb ∧ z = .int .i64 k ∧ MixInv (usesW l) a b k xs ∧ wr.ownsRow w2.heap.size 3 1 (.slice A1 nb c1) nb (iv xs) ∧ Below w2.heap.size w2 wr) (fun z _ => nb - (intOf z).toNat)
        case atStart => exact ⟨0, b, Nat.zero_le _, rfl, MixInv.start _ _ _, hown1, hb3⟩
        case round =>
          obtain ⟨k, xs, hk, rfl, hmi, hown, hbr⟩ := hrel
          clear hown1 hb3
          have HM := Lib.hid hmi
          clear hmi
          have hW32 : usesW l < 4294967296 := by have := HW.out; omega
          by_cases hlt : k < nb
          · have hk6 : k < 6 := by have := (ckTerms_bd HC.out).2.1; omega
            have hbk : bitB (usesW l) (k : Int) = (usesW l).testBit k := by unfold bitB; rw [decide_eq_true (by omega)]; rfl
            obtain ⟨ad, x, rfl, hbl, hd, hcx⟩ := ((ha2.below hbr (Nat.le_refl _)).more hbr.size).at_ (k := k) (by rw [HA.out]; omega)
            have HD := Lib.hid hd
            clear hd
            cases ht : (usesW l).testBit k with
            | true =>
              rw [ht] at hbk
              have HT := Lib.hid ht
              clear ht
              obtain ⟨g, v0, rfl, hg, q1, q2, q3⟩ := own_set1 (.int .i64 x) hown hlt
              have hkn : k < na := by omega
              go_wp2_with (go_at_call 34; (with_reducible refine (bit_any (usesW l) _ _ hW32).mono ?_); rintro e w4 ⟨rfl, rfl⟩)
              go_round
              case rel => exact ⟨k + 1, xs.set k x, by omega, by go_num, HM.out.yes HT.out HD.out (by rw [HB.out]; exact hlt), by rw [← iv_set]; exact q3, hbr.setCell (p := ⟨g, k, none⟩) hg _⟩
              case measure => (simp [intOf]; omega)
            | false =>
              rw [ht] at hbk
              have HT := Lib.hid ht
              clear ht
              go_wp2_with (go_at_call 34; (with_reducible refine (bit_any (usesW l) _ _ hW32).mono ?_); rintro e w4 ⟨rfl, rfl⟩)
              go_round
              case rel => exact ⟨k + 1, xs, by omega, by go_num, HM.out.no HT.out, hown, hbr⟩
              case measure => (simp [intOf]; omega)
          · have hkn : k = nb := by omega
            subst hkn
            have hm := HM.out
            have hxl : xs.length = k := by rw [hm.1, HB.out]
            have hax : valT l a = valT l xs := MixInv.agree HC.out (by rw [HB.out]) (by rw [HA.out, HB.out, HAB.out]) (by rw [HB.out]; exact hm)
            have hxo := hm.ok HOA.out HOB.out (by rw [HA.out, HB.out, HAB.out])
            have hva : ckVal (k : Int) l a = 0 := ckVal_of HC.out H2.out
            have hvx : ckVal (k : Int) l xs = 0 := ckVal_of HC.out (ckHave_of (by rw [hxl]) hxo)
            have hra : valR (k : Int) l a = valT l xs := by unfold valR; rw [if_pos hva, hax]
            have hrx : valR (k : Int) l xs = valT l xs := by unfold valR; rw [if_pos hvx]
            have hbd := valT_bd hvx
            have HVA := Lib.hid hva
            have HVX := Lib.hid hvx
            have HRA := Lib.hid hra
            have HRX := Lib.hid hrx
            have HXL := Lib.hid hxl
            clear hm hxl hax hxo hva hvx hra hrx hlt hk
            have hrdx := own_rdI hown HXL.out
            go_wp2_with fail
            with_reducible refine (value_any _ A XA len cap na ca l a _ ((hx2.below hbr (Nat.le_refl _)).more hbr.size) ((ha2.below hbr (Nat.le_refl _)).more hbr.size) HL.out HA.out hm1).mono ?_
            rintro e w4 ⟨rfl, hb4⟩
            rw [HVA.out, HRA.out]
            have hbr4 := hbr.trans (hb4.mono hbr.size)
            go_wp2_with fail
            with_reducible refine (value_any _ A A1 len cap k c1 l xs _ ((hx2.below hbr4 (Nat.le_refl _)).more hbr4.size) ((hrdx.below hb4 (Nat.le_refl _)).more hb4.size) HL.out HXL.out hm2).mono ?_
            rintro e w5 ⟨rfl, hb5⟩
            rw [HVX.out, HRX.out]
            have hbr5 := hbr4.trans (hb5.mono hbr4.size)
            have hfin : decide (0 ≤ valT l xs ∧ valT l xs ≤ 255) = true := by simp only [decide_eq_true_eq]; exact hbd
            go_wp2_with (go_at_call 35; (with_reducible refine (refValue_any _ _).mono ?_); rintro e w6 ⟨rfl, rfl⟩)
            go_ret
            exact ⟨ret_bool (by simp [hbd]), hbw.trans (hbr5.mono hbw.size)⟩
      · have e3 : (ckHave vars b == 0) = false := by simp [h3]
        clear h2 h3
        go_wp2_with (first
          | (go_at_call 33; (with_reducible refine (given_any _ XA na ca a _ _ ha2 HA.out hm1).mono ?_); rintro e w3 ⟨rfl, rfl⟩)
          | (go_at_call 33; (with_reducible refine (given_any _ XB nb cb b _ _ hbb2 HB.out hm2).mono ?_); rintro e w3 ⟨rfl, rfl⟩))
        go_ret
        exact ⟨rfl, hbw⟩
    · have e2 : (ckHave vars a == 0) = false := by simp [h2]
      clear h2
      go_wp2_with (go_at_call 33; (with_reducible refine (given_any _ XA na ca a _ _ ha2 HA.out hm1).mono ?_); rintro e w3 ⟨rfl, rfl⟩)
      go_ret
      exact ⟨rfl, hbw⟩
  · have e1 : (ckTerms vars l == 0) = false := by simp [h1]
    have HE := Lib.hid (show (ckTerms vars l != 0) = true by simp [h1])
    clear h1
    go_wp2_with fail
    go_ret
    exact ⟨ret_bool HE.out, hbw⟩

set_option maxRecDepth 100000 in
theorem lawTermUse_lifted (os : Os) (started : os.Started) (H : Type) (enc : TypeId × Value → H) :
    ReturnsInHanded {} Try.checked os 7 .any (Rows.termUseSpec.pre6 enc Try.prog Try.f7 Rows.termUseRow.domain false) (Rows.termUseSpec.post enc Try.prog Try.f7 false true false false) := by
  refine returnsInHanded_of_change_sized (C := Try.checked) Try.own started (by kernel_rfl) Try.func7
    (ChangeSpec.witness6 (enc := enc) (C := Try.checked) false ⟨#[], #[.int .i64 0, .slice none 0 0, .slice none 0 0, .slice none 0 0], []⟩ 8 (by kernel_rfl) (by kernel_rfl) (by kernel_rfl) (by kernel_rfl)) ?_
  intro W base args ds gs before hval0 hW hcnd hsz _
  have hval : ∀ (j : Nat) t v, Try.f7.params[j]? = some t → args[j]? = some v → Value.okWide Try.prog W .any base t v := hval0
  have hW' := hW
  obtain ⟨p, q, hA0, hV, rfl, hfz, hnd⟩ := hW
  have hA : DataW.TrodAll enc Try.prog W 0 (fun _ => true) true Try.f7.params.toList args.toList ds p := hA0
  obtain ⟨hgs, _⟩ := trodVars_none hV
  rw [Try.params7] at hA hval
  obtain ⟨v0, vs0, d0, ds0, p0, q0, hargs, rfl, rfl, h0, r0⟩ := trodAll_cons hA
  obtain ⟨v1, vs1, d1, ds1, p1, q1, rfl, rfl, rfl, h1, r1⟩ := trodAll_cons r0
  obtain ⟨v2, vs2, d2, ds2, p2, q2, rfl, rfl, rfl, h2, r2⟩ := trodAll_cons r1
  obtain ⟨v3, vs3, d3, ds3, p3, q3, rfl, rfl, rfl, h3, r3⟩ := trodAll_cons r2
  obtain ⟨rfl, rfl, rfl⟩ := trodAll_nil r3
  have hargs2 : args = #[v0, v1, v2, v3] := Array.toList_inj.1 hargs
  subst hargs2
  obtain ⟨a0, rfl, _, _, w0⟩ := open_int Try.underlying3 (hval 0 3 v0 rfl rfl) h0
  obtain ⟨A1, c1, l1, rfl, lc1, cm1, x1, r1⟩ := open_termsA (hval 1 22 v1 rfl rfl) h1
  have b1 := len_reach Try.underlying22 (hval 1 22 _ rfl rfl) h1 hsz (j := 1) (by rw [Try.params7]; rfl) rfl
  rw [show Try.prog.bytesOf (Try.prog.elem 22) = 32 from by kernel_rfl] at b1
  obtain ⟨A2, c2, l2, rfl, lc2, cm2, x2, r2⟩ := open_intsA (hval 2 26 v2 rfl rfl) h2
  have b2 := len_reach Try.underlying26 (hval 2 26 _ rfl rfl) h2 hsz (j := 2) (by rw [Try.params7]; rfl) rfl
  rw [show Try.prog.bytesOf (Try.prog.elem 26) = 8 from by kernel_rfl] at b2
  obtain ⟨A3, c3, l3, rfl, lc3, cm3, x3, r3⟩ := open_intsA (hval 3 26 v3 rfl rfl) h3
  have b3 := len_reach Try.underlying26 (hval 3 26 _ rfl rfl) h3 hsz (j := 3) (by rw [Try.params7]; rfl) rfl
  rw [show Try.prog.bytesOf (Try.prog.elem 26) = 8 from by kernel_rfl] at b3
  refine (lawTermUse_any a0 A1 A2 A3 c1 c2 c3 l1 l2 l3 W x1 x2 x3 b2 b3).mono fun e W' ⟨he, hb⟩ => ?_
  subst he
  exact ⟨_, rfl, law_post Try.laidOut rfl (by kernel_rfl) Try.underlying4 ⟨rfl, rfl, rfl⟩ (by kernel_rfl) hW' hb⟩

theorem termUse_holds : Rows.TermUseSaid :=
  OpenClaim.holds_of_wide 7 Try.f7 rfl rfl rfl rfl rfl rfl rfl ⟨rfl, rfl, rfl, rfl, rfl⟩ rfl rfl rfl rfl rfl (by kernel_rfl) Try.func7 (show joinedFacts Try.prog 7 Try.f7 Rows.termUseSpec Rows.termUseRow = true from (by unfold joinedFacts; (repeat' (with_reducible refine and_both ?_ ?_)) <;> first | (with_reducible exact may_enter) | ((with_reducible refine make_ok ?_); rfl) | ((with_reducible refine lifts_ok ?_); rfl) | kernel_rfl))
    (of_decide_eq_true (by kernel_rfl)) (by unfold Func.isWrapper; rw [if_neg (of_decide_eq_false (by kernel_rfl))]; exact ⟨rfl, rfl⟩)
    (fun os started H enc _ => lawTermUse_lifted os started H enc)

end Go.Proofs.Ytppnckiedcbleaa
