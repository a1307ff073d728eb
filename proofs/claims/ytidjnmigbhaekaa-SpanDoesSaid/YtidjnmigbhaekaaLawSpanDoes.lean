/-
  For any operation and any two spans span.Do returns the least span of all that comes of them, or the first error (R1).
-/
import Derived.Test.YtidjnmigbhaekaaLawSpan
import Derived.Test.YtidjnmigbhaekaaSpanDo
import Derived.Test.YtidjnmigbhaekaaSpanSteps
namespace Go.Proofs.Ytidjnmigbhaekaa
open Go.RowKit Go.ChangeShapes Go.WideShapes Go.ChangeAt Go.Deep
set_option linter.unusedSimpArgs false
set_option linter.unusedVariables false
set_option maxRecDepth 100000

/-- two boxes that hold spans -/
structure BxS (n : Nat) (a b : Int × Int) (Z : World) : Prop where
  a : Own Z n 23 [.int .i64 a.1, .int .i64 a.2]
  b : Own Z (n + 1) 23 [.int .i64 b.1, .int .i64 b.2]

theorem BxS.below {n : Nat} {a b : Int × Int} {Z Z' : World} (h : BxS n a b Z) (hb : Below Z.heap.size Z Z') : BxS n a b Z' := ⟨h.a.below hb h.a.lt, h.b.below hb h.b.lt⟩

theorem BxS.new (w : World) (a b : Int × Int) : BxS w.heap.size a b ((w.alloc (.cells #[.int .i64 a.1, .int .i64 a.2] 23)).alloc (.cells #[.int .i64 b.1, .int .i64 b.2] 23)) :=
  ⟨(Own.new w _ [.int .i64 a.1, .int .i64 a.2]).alloc _, by simpa using Own.new (w.alloc _) 23 [.int .i64 b.1, .int .i64 b.2]⟩

set_option maxHeartbeats 8000000 in
theorem lawSpanDoes_any (D : DoIs) (o al ah bl bh : Int) (w : World) :
    Calls Try.prog 3 #[.int .i64 o, .agg #[.int .i64 al, .int .i64 ah], .agg #[.int .i64 bl, .int .i64 bh]] w fun e w' => e = .returned (.bool true) ∧ Below w.heap.size w w' := by
  have HB0 := Lib.hid (BxS.new w (al, ah) (bl, bh))
  have hbw : Below w.heap.size w ((w.alloc (.cells #[.int .i64 al, .int .i64 ah] 23)).alloc (.cells #[.int .i64 bl, .int .i64 bh] 23)) := by go_grown
  have hsw : ((w.alloc (.cells #[.int .i64 al, .int .i64 ah] 23)).alloc (.cells #[.int .i64 bl, .int .i64 bh] 23)).heap.size = w.heap.size + 2 := by simp
  have HIA := Lib.hid (fun Z => isSpan_any al ah Z)
  have HIB := Lib.hid (fun Z => isSpan_any bl bh Z)
  by_cases ho : o < 3 ∨ 6 < o
  · have HO := Lib.hid ho
    have ho2 : o < 3 ∨ (¬ o < 3 ∧ 6 < o) := by omega
    clear ho
    rcases ho2 with g1 | ⟨g1, g2⟩
    all_goals (
      go_enter Try.func3, Try.ntmps3
      go_wp2_with fail
      refine (D.kind o (al, ah) (bl, bh) _ HO.out).mono ?_
      rintro e w1 ⟨rfl, hb1⟩
      have hs1 : w.heap.size ≤ w1.heap.size := by have := hb1.size; omega
      go_wp2
      go_ret
      exact ⟨ret_bool (by simp), (hbw.trans (hb1.mono (by rw [hsw]; omega))).trans (by go_grown)⟩)
  · have h3 : 3 ≤ o := by omega
    have h6 : o ≤ 6 := by omega
    clear ho
    by_cases ha : SpOk (al, ah)
    · rw [decide_eq_true ha] at HIA
      by_cases hb : SpOk (bl, bh)
      · rw [decide_eq_true hb] at HIB
        have HA := Lib.hid ha
        have HB := Lib.hid hb
        obtain ⟨⟨z0, z1⟩, hz⟩ : ∃ z, doSp o (al, ah) (bl, bh) = z := ⟨_, rfl⟩
        have HD : Hid (∀ Z, Calls Try.prog 7 #[.int .i64 o, .agg #[.int .i64 al, .int .i64 ah], .agg #[.int .i64 bl, .int .i64 bh]] Z fun e w' => e = .returned (.tuple #[.agg #[.int .i64 z0, .int .i64 z1], .int .i64 0]) ∧ Below Z.heap.size Z w') := Lib.hid fun Z => by
          have := D.ok o (al, ah) (bl, bh) Z h3 h6 HA.out HB.out
          rw [hz] at this
          exact this
        have HDO : Hid (∀ Z : World, Calls Try.prog 9 #[.int .i64 o, .agg #[.int .i64 al, .int .i64 ah], .agg #[.int .i64 bl, .int .i64 bh]] Z fun e w' => e = .returned (.agg #[.int .i64 z0, .int .i64 z1]) ∧ Below Z.heap.size Z w') := Lib.hid fun Z => by
          have := spanDo_any o (al, ah) (bl, bh) Z h3 h6 HA.out HB.out
          rw [hz] at this
          exact this
        clear ha hb hz
        go_enter Try.func3, Try.ntmps3
        go_wp2_with fail
        refine (HD.out _).mono ?_
        rintro e w1 ⟨rfl, hb1⟩
        have hx1 := HB0.out.below hb1
        have hbw1 : Below w.heap.size w w1 := hbw.trans (hb1.mono (by rw [hsw]; omega))
        have a0 := hx1.a.cell (j := 0) rfl
        have a1 := hx1.a.cell (j := 1) rfl
        have b0 := hx1.b.cell (j := 0) rfl
        have b1 := hx1.b.cell (j := 1) rfl
        have al1 := hx1.a.lt
        have bl1 := hx1.b.lt
        have HX1 := Lib.hid hx1
        clear hx1
        have hT : Own (w1.alloc (.cells #[.int .i64 z0, .int .i64 z1] 23)) w1.heap.size 23 [.int .i64 z0, .int .i64 z1] := Own.new w1 _ [_, _]
        have hbT : Below w1.heap.size w1 (w1.alloc (.cells #[.int .i64 z0, .int .i64 z1] 23)) := by go_grown
        have HT := Lib.hid hT
        have HXT := Lib.hid (HX1.out.below hbT)
        clear hT
        go_upto_region 9 with (first
          | (go_at_call 8; (with_reducible refine (HIA.out _).mono ?_); rintro e w2 ⟨rfl, hb2⟩; have hx2 := HXT.out.below hb2; have b0' := hx2.b.cell (j := 0) rfl; have b1' := hx2.b.cell (j := 1) rfl; have HX2 := Lib.hid hx2; have HT2 := Lib.hid (HT.out.below hb2 HT.out.lt))
          | (go_at_call 8; (with_reducible refine (HIB.out _).mono ?_); rintro e w3 ⟨rfl, hb3⟩))
        have hx3 := HX2.out.below hb3
        have hT3 := HT2.out.below hb3 HT2.out.lt
        have c0 := hx3.a.cell (j := 0) rfl
        have c1 := hx3.a.cell (j := 1) rfl
        have d0 := hx3.b.cell (j := 0) rfl
        have d1 := hx3.b.cell (j := 1) rfl
        have t0 := hT3.cell (j := 0) rfl
        have t1 := hT3.cell (j := 1) rfl
        have hl1 := hx3.a.lt
        have hl2 := hx3.b.lt
        have hl3 := hT3.lt
        have hbw3 : Below w.heap.size w w3 := by
          have h1 := hb1.size
          have h2 := hbT.size
          have h3 := hb2.size
          rw [hsw] at h1
          exact ((hbw1.trans (hbT.mono (by omega))).trans (hb2.mono (by omega))).trans (hb3.mono (by omega))
        obtain ⟨b7, hb7e⟩ : ∃ b7, w1.heap.size = b7 := ⟨_, rfl⟩
        rw [hb7e] at t0 t1 hl3
        simp only [hb7e]
        obtain ⟨n0, hn0⟩ : ∃ n0, w.heap.size = n0 := ⟨_, rfl⟩
        have HN0 := Lib.hid hn0
        rw [hn0] at c0 c1 d0 d1 hl1 hl2
        simp only [hn0]
        simp only at c0 c1 d0 d1
        clear hn0
        clear hb7e hx3 hT3 a0 a1 b0 b1 b0' b1' hb1 hb2 hb3 hbT hbw1 al1 bl1
        refine wp_region_steps (X := Nat × (Unit)) (fun x w' => Below w3.heap.size w3 w') (fun x j => doneL [0, 0, 0, 0, 0, 0, 0, 1, 0, 0, 0] x.1 j) (effL [0, 0, 0, 0, 0, 0, 0, 1, 0, 0, 0]) (0, ()) (fun x => [.int .i64 0, .bool true, .bool true, .agg #[.int .i64 z0, .int .i64 z1], .int .i64 o, .agg #[.int .i64 al, .int .i64 ah], .agg #[.int .i64 bl, .int .i64 bh], .agg #[.int .i64 z0, .int .i64 z1], .bool true, .bool true, .bool true]) _ (by kernel_rfl) (by kernel_rfl) (by kernel_rfl) (fun x => by simp only [putsD, Act.put, List.setIfInBounds_toArray, List.set_cons_zero, List.set_cons_succ]; exact rfl) h0L (Below.drew (Below.refl _ _)) (fun x => ?_) (fun x wz hDz hSz => ?_)
        · refine AllS.val (by rfl) (by rfl) (fun w hSw hPw => by go_simp) ?_
          refine AllS.val (by rfl) (by rfl) (fun w hSw hPw => by go_simp) ?_
          refine AllS.val (by rfl) (by rfl) (fun w hSw hPw => by go_simp) ?_
          refine AllS.val (by rfl) (by rfl) (fun w hSw hPw => ?_) ?_
          · (try dsimp only at hSw)
            have c := (hSw.cell (p := ⟨b7, 0, none⟩) hl3).trans t0
            have c' := (hSw.cell (p := ⟨b7, 1, none⟩) hl3).trans t1
            go_simp
          refine AllS.val (by rfl) (by rfl) (fun w hSw hPw => by go_simp) ?_
          refine AllS.val (by rfl) (by rfl) (fun w hSw hPw => ?_) ?_
          · (try dsimp only at hSw)
            have c := (hSw.cell (p := ⟨n0, 0, none⟩) hl1).trans c0
            have c' := (hSw.cell (p := ⟨n0, 1, none⟩) hl1).trans c1
            go_simp
          refine AllS.val (by rfl) (by rfl) (fun w hSw hPw => ?_) ?_
          · (try dsimp only at hSw)
            have c := (hSw.cell (p := ⟨n0 + 1, 0, none⟩) hl2).trans d0
            have c' := (hSw.cell (p := ⟨n0 + 1, 1, none⟩) hl2).trans d1
            go_simp
          refine AllS.turn (fun _ _ => rfl) (by rfl) (fun w hSw hPw K hK => ?_) ?_
          · (try dsimp only at hSw)
            have h0 := leS (hPw.me rfl)
            go_simp
            go_at_call 9
            (with_reducible refine (HDO.out _).mono ?_)
            rintro e w7 ⟨rfl, hb7⟩
            go_simp
            have hx0 : x.1 = 0 := by exact Nat.le_zero.1 h0
            obtain ⟨p, y⟩ := x
            (try dsimp only at hx0)
            subst hx0
            exact hK (1, y) _ (nxtL rfl (by decide)) (below_via hSw hb7)
          refine AllS.val (by rfl) (by rfl) (fun w hSw hPw => by go_simp) ?_
          refine AllS.val (by rfl) (by rfl) (fun w hSw hPw => by go_simp) ?_
          refine AllS.val (by rfl) (by rfl) (fun w hSw hPw => by go_simp) ?_
          exact AllS.nil
        go_wp2
        go_ret
        exact ⟨ret_bool (by simp), by (try rw [← HN0.out]); exact hbw3.trans (hSz.mono hbw3.size)⟩
      · rw [decide_eq_false hb] at HIB
        have HD : Hid (∀ Z, Calls Try.prog 7 #[.int .i64 o, .agg #[.int .i64 al, .int .i64 ah], .agg #[.int .i64 bl, .int .i64 bh]] Z fun e w' => e = .returned (.tuple #[.agg #[.int .i64 0, .int .i64 0], .int .i64 4]) ∧ Below Z.heap.size Z w') := Lib.hid fun Z => D.range o (al, ah) (bl, bh) Z h3 h6 fun h => hb h.2
        clear ha hb
        go_enter Try.func3, Try.ntmps3
        go_wp2_with fail
        refine (HD.out _).mono ?_
        rintro e w1 ⟨rfl, hb1⟩
        have hx1 := HB0.out.below hb1
        have hbw1 : Below w.heap.size w w1 := hbw.trans (hb1.mono (by rw [hsw]; omega))
        have a0 := hx1.a.cell (j := 0) rfl
        have a1 := hx1.a.cell (j := 1) rfl
        have al1 := hx1.a.lt
        have HX1 := Lib.hid hx1
        clear hx1
        have hT : Own (w1.alloc (.cells #[.int .i64 0, .int .i64 0] 23)) w1.heap.size 23 [.int .i64 0, .int .i64 0] := Own.new w1 _ [_, _]
        have hbT : Below w1.heap.size w1 (w1.alloc (.cells #[.int .i64 0, .int .i64 0] 23)) := by go_grown
        have HT := Lib.hid hT
        have HXT := Lib.hid (HX1.out.below hbT)
        clear hT
        go_wp2_with (first
          | (go_at_call 8; (with_reducible refine (HIA.out _).mono ?_); rintro e w2 ⟨rfl, hb2⟩; have hx2 := HXT.out.below hb2; have b0' := hx2.b.cell (j := 0) rfl; have b1' := hx2.b.cell (j := 1) rfl; have hl2 := hx2.b.lt; have HT2 := Lib.hid (HT.out.below hb2 HT.out.lt); clear hx2)
          | (go_at_call 8; (with_reducible refine (HIB.out _).mono ?_); rintro e w3 ⟨rfl, hb3⟩; have hT3 := HT2.out.below hb3 HT2.out.lt; have t0 := hT3.cell (j := 0) rfl; have t1 := hT3.cell (j := 1) rfl; have hl3 := hT3.lt))
        go_ret
        exact ⟨ret_bool (by simp), by
          have h1 := hb1.size
          have h2 := hbT.size
          have h3 := hb2.size
          rw [hsw] at h1
          exact ((hbw1.trans (hbT.mono (by omega))).trans (hb2.mono (by omega))).trans (hb3.mono (by omega))⟩
    · rw [decide_eq_false ha] at HIA
      have HD : Hid (∀ Z, Calls Try.prog 7 #[.int .i64 o, .agg #[.int .i64 al, .int .i64 ah], .agg #[.int .i64 bl, .int .i64 bh]] Z fun e w' => e = .returned (.tuple #[.agg #[.int .i64 0, .int .i64 0], .int .i64 4]) ∧ Below Z.heap.size Z w') := Lib.hid fun Z => D.range o (al, ah) (bl, bh) Z h3 h6 fun h => ha h.1
      clear ha
      go_enter Try.func3, Try.ntmps3
      go_wp2_with fail
      refine (HD.out _).mono ?_
      rintro e w1 ⟨rfl, hb1⟩
      have hx1 := HB0.out.below hb1
      have hbw1 : Below w.heap.size w w1 := hbw.trans (hb1.mono (by rw [hsw]; omega))
      have a0 := hx1.a.cell (j := 0) rfl
      have a1 := hx1.a.cell (j := 1) rfl
      have al1 := hx1.a.lt
      have HX1 := Lib.hid hx1
      clear hx1
      have hT : Own (w1.alloc (.cells #[.int .i64 0, .int .i64 0] 23)) w1.heap.size 23 [.int .i64 0, .int .i64 0] := Own.new w1 _ [_, _]
      have hbT : Below w1.heap.size w1 (w1.alloc (.cells #[.int .i64 0, .int .i64 0] 23)) := by go_grown
      have HT := Lib.hid hT
      clear hT
      go_wp2_with (go_at_call 8; (with_reducible refine (HIA.out _).mono ?_); rintro e w2 ⟨rfl, hb2⟩; have hT2 := HT.out.below hb2 HT.out.lt; have t0 := hT2.cell (j := 0) rfl; have t1 := hT2.cell (j := 1) rfl; have hl3 := hT2.lt)
      go_ret
      exact ⟨ret_bool (by simp), by
        have h1 := hb1.size
        have h2 := hbT.size
        rw [hsw] at h1
        exact (hbw1.trans (hbT.mono (by omega))).trans (hb2.mono (by omega))⟩

set_option maxRecDepth 100000 in
theorem lawSpanDoes_lifted (os : Os) (started : os.Started) (H : Type) (enc : TypeId × Value → H) :
    ReturnsInHanded {} Try.checked os 3 .any (Rows.spanDoesSpec.pre6 enc Try.prog Try.f3 Rows.spanDoesRow.domain false) (Rows.spanDoesSpec.post enc Try.prog Try.f3 false true false false) := by
  refine returnsInHanded_of_change_sized (C := Try.checked) Try.own started (by kernel_rfl) Try.func3
    (ChangeSpec.witness6 (enc := enc) (C := Try.checked) false ⟨#[], #[.int .i64 0, .agg #[.int .i64 0, .int .i64 0], .agg #[.int .i64 0, .int .i64 0]], []⟩ 8 (by kernel_rfl) (by kernel_rfl) (by kernel_rfl) (by kernel_rfl)) ?_
  intro W base args ds gs before hval0 hW hcnd hsz _
  have hval : ∀ (j : Nat) t v, Try.f3.params[j]? = some t → args[j]? = some v → Value.okWide Try.prog W .any base t v := hval0
  have hW' := hW
  obtain ⟨p, q, hA0, hV, rfl, hfz, hnd⟩ := hW
  have hA : DataW.TrodAll enc Try.prog W 0 (fun _ => true) true Try.f3.params.toList args.toList ds p := hA0
  obtain ⟨hgs, _⟩ := trodVars_none hV
  rw [Try.params3] at hA hval
  obtain ⟨v0, vs0, d0, ds0, p0, q0, hargs, rfl, rfl, h0, r0⟩ := trodAll_cons hA
  obtain ⟨v1, vs1, d1, ds1, p1, q1, rfl, rfl, rfl, h1, r1⟩ := trodAll_cons r0
  obtain ⟨v2, vs2, d2, ds2, p2, q2, rfl, rfl, rfl, h2, r2⟩ := trodAll_cons r1
  obtain ⟨rfl, rfl, rfl⟩ := trodAll_nil r2
  have hargs2 : args = #[v0, v1, v2] := Array.toList_inj.1 hargs
  subst hargs2
  obtain ⟨a0, rfl, _, _, w0⟩ := open_int Try.underlying3 (hval 0 3 v0 rfl rfl) h0
  obtain ⟨lo1, hi1, rfl, w1, u1⟩ := open_spanA (hval 1 23 v1 rfl rfl) h1
  obtain ⟨lo2, hi2, rfl, w2, u2⟩ := open_spanA (hval 2 23 v2 rfl rfl) h2
  refine (lawSpanDoes_any doIs a0 lo1 hi1 lo2 hi2 _).mono fun e W' ⟨he, hb⟩ => ?_
  subst he
  exact ⟨_, rfl, law_post Try.laidOut rfl (by kernel_rfl) Try.underlying4 ⟨rfl, rfl, rfl⟩ (by kernel_rfl) hW' hb⟩

theorem spanDoes_holds : Rows.SpanDoesSaid :=
  OpenClaim.holds_of_wide 3 Try.f3 rfl rfl rfl rfl rfl rfl rfl ⟨rfl, rfl, rfl, rfl, rfl⟩ rfl rfl rfl rfl rfl (by kernel_rfl) Try.func3 (show joinedFacts Try.prog 3 Try.f3 Rows.spanDoesSpec Rows.spanDoesRow = true from (by unfold joinedFacts; (repeat' (with_reducible refine and_both ?_ ?_)) <;> first | (with_reducible exact may_enter) | ((with_reducible refine make_ok ?_); rfl) | ((with_reducible refine lifts_ok ?_); rfl) | kernel_rfl))
    (of_decide_eq_true (by kernel_rfl)) (by unfold Func.isWrapper; rw [if_neg (of_decide_eq_false (by kernel_rfl))]; exact ⟨rfl, rfl⟩)
    (fun os started H enc _ => lawSpanDoes_lifted os started H enc)

end Go.Proofs.Ytidjnmigbhaekaa
