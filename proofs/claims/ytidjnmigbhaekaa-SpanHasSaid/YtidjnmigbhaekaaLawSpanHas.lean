/-
  For any operation, any two spans and any value of each what comes of these lies in the span that span.Do returns (R1).
-/
import Derived.Test.YtidjnmigbhaekaaLawSpanDoes
namespace Go.Proofs.Ytidjnmigbhaekaa
open Go.RowKit Go.ChangeShapes Go.WideShapes Go.ChangeAt Go.Deep
set_option linter.unusedSimpArgs false
set_option linter.unusedVariables false
set_option maxRecDepth 100000

set_option maxHeartbeats 8000000 in
theorem lawSpanHas_any (D : DoIs) (o al ah bl bh x y : Int) (w : World) :
    Calls Try.prog 5 #[.int .i64 o, .agg #[.int .i64 al, .int .i64 ah], .agg #[.int .i64 bl, .int .i64 bh], .int .i64 x, .int .i64 y] w fun e w' => e = .returned (.bool true) ∧ Below w.heap.size w w' := by
  have HB0 := Lib.hid (BxS.new w (al, ah) (bl, bh))
  have hbw : Below w.heap.size w ((w.alloc (.cells #[.int .i64 al, .int .i64 ah] 23)).alloc (.cells #[.int .i64 bl, .int .i64 bh] 23)) := by go_grown
  have hsw : ((w.alloc (.cells #[.int .i64 al, .int .i64 ah] 23)).alloc (.cells #[.int .i64 bl, .int .i64 bh] 23)).heap.size = w.heap.size + 2 := by simp
  have HIA := Lib.hid (fun Z => isSpan_any al ah Z)
  have HIB := Lib.hid (fun Z => isSpan_any bl bh Z)
  by_cases ho : o < 3 ∨ 6 < o
  · have HO := Lib.hid ho
    have ho2 : o < 3 ∨ (¬ o < 3 ∧ 6 < o) := by omega
    clear ho
    rcases ho2 with g1 | ⟨g1, g2⟩
    all_goals (
      go_enter Try.func5, Try.ntmps5
      go_wp2_with fail
      refine (D.kind o (al, ah) (bl, bh) _ HO.out).mono ?_
      rintro e w1 ⟨rfl, hb1⟩
      have hs1 : w.heap.size ≤ w1.heap.size := by have := hb1.size; omega
      go_wp2
      go_ret
      exact ⟨ret_bool (by simp), (hbw.trans (hb1.mono (by rw [hsw]; omega))).trans (by go_grown)⟩)
  · have h3 : 3 ≤ o := by omega
    have h6 : o ≤ 6 := by omega
    clear ho
    by_cases ha : SpOk (al, ah)
    · rw [decide_eq_true ha] at HIA
      by_cases hb : SpOk (bl, bh)
      · rw [decide_eq_true hb] at HIB
        have HA := Lib.hid ha
        have HB := Lib.hid hb
        obtain ⟨⟨z0, z1⟩, hz⟩ : ∃ z, doSp o (al, ah) (bl, bh) = z := ⟨_, rfl⟩
        have his := doSp_is o ha hb
        rw [hz] at his
        have HIS := Lib.hid his
        have HIZ := Lib.hid (fun Z => isSpan_any z0 z1 Z)
        rw [decide_eq_true his.ok] at HIZ
        have HD : Hid (∀ Z, Calls Try.prog 7 #[.int .i64 o, .agg #[.int .i64 al, .int .i64 ah], .agg #[.int .i64 bl, .int .i64 bh]] Z fun e w' => e = .returned (.tuple #[.agg #[.int .i64 z0, .int .i64 z1], .int .i64 0]) ∧ Below Z.heap.size Z w') := Lib.hid fun Z => by
          have := D.ok o (al, ah) (bl, bh) Z h3 h6 HA.out HB.out
          rw [hz] at this
          exact this
        obtain ⟨a00, a01, a02⟩ := ha
        obtain ⟨b00, b01, b02⟩ := hb
        simp only at a00 a01 a02 b00 b01 b02
        have HOP : Hid (∀ Z, InSp x (al, ah) → InSp y (bl, bh) → Calls Try.prog 14 #[.int .i64 o, .int .i64 x, .int .i64 y] Z fun e w' => e = .returned (.int .i64 (opv o x y)) ∧ Z = w') := Lib.hid fun Z h1 h2 => refOp_any o x y Z (by have := h1.1; simp only at this; omega) (by have := h1.2; simp only at this; omega) (by have := h2.1; simp only at this; omega) (by have := h2.2; simp only at this; omega) h3 h6
        clear hz his a00 a01 a02 b00 b01 b02
        go_enter Try.func5, Try.ntmps5
        go_wp2_with fail
        refine (HD.out _).mono ?_
        rintro e w1 ⟨rfl, hb1⟩
        have hx1 := HB0.out.below hb1
        have hbw1 : Below w.heap.size w w1 := hbw.trans (hb1.mono (by rw [hsw]; omega))
        have a0 := hx1.a.cell (j := 0) rfl
        have a1 := hx1.a.cell (j := 1) rfl
        have al1 := hx1.a.lt
        have HX1 := Lib.hid hx1
        clear hx1
        have hT : Own (w1.alloc (.cells #[.int .i64 z0, .int .i64 z1] 23)) w1.heap.size 23 [.int .i64 z0, .int .i64 z1] := Own.new w1 _ [_, _]
        have hbT : Below w1.heap.size w1 (w1.alloc (.cells #[.int .i64 z0, .int .i64 z1] 23)) := by go_grown
        have HT := Lib.hid hT
        have HXT := Lib.hid (HX1.out.below hbT)
        clear hT
        go_upto_region 6 with (first
          | (go_at_call 8; (with_reducible refine (HIA.out _).mono ?_); rintro e w2 ⟨rfl, hb2⟩; have hx2 := HXT.out.below hb2; have b0' := hx2.b.cell (j := 0) rfl; have b1' := hx2.b.cell (j := 1) rfl; have HX2 := Lib.hid hx2; have HT2 := Lib.hid (HT.out.below hb2 HT.out.lt); clear hx2)
          | (go_at_call 8; (with_reducible refine (HIB.out _).mono ?_); rintro e w3 ⟨rfl, hb3⟩; have HX3 := Lib.hid (HX2.out.below hb3); have hT3 := HT2.out.below hb3 HT2.out.lt; have t0 := hT3.cell (j := 0) rfl; have t1 := hT3.cell (j := 1) rfl; have hl3 := hT3.lt; have HT3 := Lib.hid hT3; clear hT3)
          | (go_at_call 8; (with_reducible refine (HIZ.out _).mono ?_); rintro e w4 ⟨rfl, hb4⟩))
        have hx4 := HX3.out.below hb4
        have hT4 := HT3.out.below hb4 HT3.out.lt
        have c0 := hx4.a.cell (j := 0) rfl
        have c1 := hx4.a.cell (j := 1) rfl
        have d0 := hx4.b.cell (j := 0) rfl
        have d1 := hx4.b.cell (j := 1) rfl
        have s0 := hT4.cell (j := 0) rfl
        have s1 := hT4.cell (j := 1) rfl
        have hbw4 : Below w.heap.size w w4 := by
          have h1 := hb1.size
          have h2 := hbT.size
          have h3 := hb2.size
          have h4 := hb3.size
          rw [hsw] at h1
          exact (((hbw1.trans (hbT.mono (by omega))).trans (hb2.mono (by omega))).trans (hb3.mono (by omega))).trans (hb4.mono (by omega))
        simp only at c0 c1 d0 d1
        clear hx4 hT4 a0 a1 b0' b1' t0 t1 hl3 hb1 hb2 hb3 hb4 hbT hbw1 al1
        by_cases x1 : x < al
        · go_wp2
          go_ret
          exact ⟨ret_bool (by simp), hbw4⟩
        · by_cases x2 : ah < x
          · go_wp2
            go_ret
            exact ⟨ret_bool (by simp), hbw4⟩
          · by_cases y1 : y < bl
            · go_wp2
              go_ret
              exact ⟨ret_bool (by simp), hbw4⟩
            · by_cases y2 : bh < y
              · go_wp2
                go_ret
                exact ⟨ret_bool (by simp), hbw4⟩
              · have hix : InSp x (al, ah) := ⟨by simp only; omega, by simp only; omega⟩
                have hiy : InSp y (bl, bh) := ⟨by simp only; omega, by simp only; omega⟩
                have HC := Lib.hid (HOP.out w4 hix hiy)
                obtain ⟨i1, i2⟩ := HIS.out.all x y hix hiy
                obtain ⟨v, hv⟩ : ∃ v, opv o x y = v := ⟨_, rfl⟩
                rw [hv] at HC i1 i2
                simp only at i1 i2
                clear hv hix hiy
                go_wp2_with (go_at_call 14; (with_reducible refine HC.out.mono ?_); rintro e w5 ⟨rfl, rfl⟩)
                go_ret
                exact ⟨ret_bool (by simp), hbw4⟩
      · rw [decide_eq_false hb] at HIB
        have HD : Hid (∀ Z, Calls Try.prog 7 #[.int .i64 o, .agg #[.int .i64 al, .int .i64 ah], .agg #[.int .i64 bl, .int .i64 bh]] Z fun e w' => e = .returned (.tuple #[.agg #[.int .i64 0, .int .i64 0], .int .i64 4]) ∧ Below Z.heap.size Z w') := Lib.hid fun Z => D.range o (al, ah) (bl, bh) Z h3 h6 fun h => hb h.2
        clear ha hb
        go_enter Try.func5, Try.ntmps5
        go_wp2_with fail
        refine (HD.out _).mono ?_
        rintro e w1 ⟨rfl, hb1⟩
        have hx1 := HB0.out.below hb1
        have hbw1 : Below w.heap.size w w1 := hbw.trans (hb1.mono (by rw [hsw]; omega))
        have a0 := hx1.a.cell (j := 0) rfl
        have a1 := hx1.a.cell (j := 1) rfl
        have al1 := hx1.a.lt
        have HX1 := Lib.hid hx1
        clear hx1
        have hbT : Below w1.heap.size w1 (w1.alloc (.cells #[.int .i64 0, .int .i64 0] 23)) := by go_grown
        have HXT := Lib.hid (HX1.out.below hbT)
        go_wp2_with (first
          | (go_at_call 8; (with_reducible refine (HIA.out _).mono ?_); rintro e w2 ⟨rfl, hb2⟩; have hx2 := HXT.out.below hb2; have b0' := hx2.b.cell (j := 0) rfl; have b1' := hx2.b.cell (j := 1) rfl; have hl2 := hx2.b.lt; clear hx2)
          | (go_at_call 8; (with_reducible refine (HIB.out _).mono ?_); rintro e w3 ⟨rfl, hb3⟩))
        go_ret
        exact ⟨ret_bool (by simp), by
          have h1 := hb1.size
          have h2 := hbT.size
          have h3 := hb2.size
          rw [hsw] at h1
          exact ((hbw1.trans (hbT.mono (by omega))).trans (hb2.mono (by omega))).trans (hb3.mono (by omega))⟩
    · rw [decide_eq_false ha] at HIA
      have HD : Hid (∀ Z, Calls Try.prog 7 #[.int .i64 o, .agg #[.int .i64 al, .int .i64 ah], .agg #[.int .i64 bl, .int .i64 bh]] Z fun e w' => e = .returned (.tuple #[.agg #[.int .i64 0, .int .i64 0], .int .i64 4]) ∧ Below Z.heap.size Z w') := Lib.hid fun Z => D.range o (al, ah) (bl, bh) Z h3 h6 fun h => ha h.1
      clear ha
      go_enter Try.func5, Try.ntmps5
      go_wp2_with fail
      refine (HD.out _).mono ?_
      rintro e w1 ⟨rfl, hb1⟩
      have hx1 := HB0.out.below hb1
      have hbw1 : Below w.heap.size w w1 := hbw.trans (hb1.mono (by rw [hsw]; omega))
      have a0 := hx1.a.cell (j := 0) rfl
      have a1 := hx1.a.cell (j := 1) rfl
      have al1 := hx1.a.lt
      clear hx1
      have hbT : Below w1.heap.size w1 (w1.alloc (.cells #[.int .i64 0, .int .i64 0] 23)) := by go_grown
      go_wp2_with (go_at_call 8; (with_reducible refine (HIA.out _).mono ?_); rintro e w2 ⟨rfl, hb2⟩)
      go_ret
      exact ⟨ret_bool (by simp), by
        have h1 := hb1.size
        have h2 := hbT.size
        rw [hsw] at h1
        exact (hbw1.trans (hbT.mono (by omega))).trans (hb2.mono (by omega))⟩

set_option maxRecDepth 100000 in
theorem lawSpanHas_lifted (os : Os) (started : os.Started) (H : Type) (enc : TypeId × Value → H) :
    ReturnsInHanded {} Try.checked os 5 .any (Rows.spanHasSpec.pre6 enc Try.prog Try.f5 Rows.spanHasRow.domain false) (Rows.spanHasSpec.post enc Try.prog Try.f5 false true false false) := by
  refine returnsInHanded_of_change_sized (C := Try.checked) Try.own started (by kernel_rfl) Try.func5
    (ChangeSpec.witness6 (enc := enc) (C := Try.checked) false ⟨#[], #[.int .i64 0, .agg #[.int .i64 0, .int .i64 0], .agg #[.int .i64 0, .int .i64 0], .int .i64 0, .int .i64 0], []⟩ 8 (by kernel_rfl) (by kernel_rfl) (by kernel_rfl) (by kernel_rfl)) ?_
  intro W base args ds gs before hval0 hW hcnd hsz _
  have hval : ∀ (j : Nat) t v, Try.f5.params[j]? = some t → args[j]? = some v → Value.okWide Try.prog W .any base t v := hval0
  have hW' := hW
  obtain ⟨p, q, hA0, hV, rfl, hfz, hnd⟩ := hW
  have hA : DataW.TrodAll enc Try.prog W 0 (fun _ => true) true Try.f5.params.toList args.toList ds p := hA0
  obtain ⟨hgs, _⟩ := trodVars_none hV
  rw [Try.params5] at hA hval
  obtain ⟨v0, vs0, d0, ds0, p0, q0, hargs, rfl, rfl, h0, r0⟩ := trodAll_cons hA
  obtain ⟨v1, vs1, d1, ds1, p1, q1, rfl, rfl, rfl, h1, r1⟩ := trodAll_cons r0
  obtain ⟨v2, vs2, d2, ds2, p2, q2, rfl, rfl, rfl, h2, r2⟩ := trodAll_cons r1
  obtain ⟨v3, vs3, d3, ds3, p3, q3, rfl, rfl, rfl, h3, r3⟩ := trodAll_cons r2
  obtain ⟨v4, vs4, d4, ds4, p4, q4, rfl, rfl, rfl, h4, r4⟩ := trodAll_cons r3
  obtain ⟨rfl, rfl, rfl⟩ := trodAll_nil r4
  have hargs2 : args = #[v0, v1, v2, v3, v4] := Array.toList_inj.1 hargs
  subst hargs2
  obtain ⟨a0, rfl, _, _, w0⟩ := open_int Try.underlying3 (hval 0 3 v0 rfl rfl) h0
  obtain ⟨lo1, hi1, rfl, w1, u1⟩ := open_spanA (hval 1 23 v1 rfl rfl) h1
  obtain ⟨lo2, hi2, rfl, w2, u2⟩ := open_spanA (hval 2 23 v2 rfl rfl) h2
  obtain ⟨a3, rfl, _, _, w3⟩ := open_int Try.underlying3 (hval 3 3 v3 rfl rfl) h3
  obtain ⟨a4, rfl, _, _, w4⟩ := open_int Try.underlying3 (hval 4 3 v4 rfl rfl) h4
  refine (lawSpanHas_any doIs a0 lo1 hi1 lo2 hi2 a3 a4 _).mono fun e W' ⟨he, hb⟩ => ?_
  subst he
  exact ⟨_, rfl, law_post Try.laidOut rfl (by kernel_rfl) Try.underlying4 ⟨rfl, rfl, rfl⟩ (by kernel_rfl) hW' hb⟩

theorem spanHas_holds : Rows.SpanHasSaid :=
  OpenClaim.holds_of_wide 5 Try.f5 rfl rfl rfl rfl rfl rfl rfl ⟨rfl, rfl, rfl, rfl, rfl⟩ rfl rfl rfl rfl rfl (by kernel_rfl) Try.func5 (show joinedFacts Try.prog 5 Try.f5 Rows.spanHasSpec Rows.spanHasRow = true from (by unfold joinedFacts; (repeat' (with_reducible refine and_both ?_ ?_)) <;> first | (with_reducible exact may_enter) | ((with_reducible refine make_ok ?_); rfl) | ((with_reducible refine lifts_ok ?_); rfl) | kernel_rfl))
    (of_decide_eq_true (by kernel_rfl)) (by unfold Func.isWrapper; rw [if_neg (of_decide_eq_false (by kernel_rfl))]; exact ⟨rfl, rfl⟩)
    (fun os started H enc _ => lawSpanHas_lifted os started H enc)

end Go.Proofs.Ytidjnmigbhaekaa
