/-
  value.Same tells which terms are congruent, or the first error, for all arguments: codemasonlaw.ValueSames returns true and leaves its arguments alone. No condition.
-/
import Derived.Test.YtacokdghfkpdpaaValue
import Derived.Test.YtacokdghfkpdpaaFirsts
import Derived.Test.YtacokdghfkpdpaaTermsRef
import Derived.Test.YtacokdghfkpdpaaInside
import Derived.Test.YtacokdghfkpdpaaLaw
namespace Go.Proofs.Ytacokdghfkpdpaa
open Go.RowKit Go.ChangeShapes Go.WideShapes Go.ChangeAt Go.Deep
set_option linter.unusedSimpArgs false
set_option linter.unusedVariables false
set_option maxRecDepth 100000

set_option maxHeartbeats 4000000 in
theorem lawValueSames_any (vars i j : Int) (A : Option Addr) (cap : Nat) (l : List Tm) (w : World) (hx : RdT w w.heap.size A l) :
    Calls Try.prog 6 #[.int .i64 vars, .slice A l.length cap, .int .i64 i, .int .i64 j] w fun e w' => e = .returned (.bool true) ∧ Below w.heap.size w w' := by
  generalize hl : l.length = len at *
  have HL := Lib.hid hl
  by_cases hc : ckTerms vars l = 0
  · have HC := Lib.hid hc
    by_cases hi : inB l.length i ∧ inB l.length j
    · have h0 : ckSame vars l i j = 0 := ckSame_of hc hi.1 hi.2
      have HS := Lib.hid h0
      have HR := Lib.hid (sameR_of h0)
      obtain ⟨⟨i0, i1⟩, j0, j1⟩ := hi
      obtain ⟨an, rfl⟩ := Int.eq_ofNat_of_zero_le i0
      obtain ⟨bn, rfl⟩ := Int.eq_ofNat_of_zero_le j0
      simp only [Int.toNat_natCast] at HR
      rw [hl] at i1 j1
      have han : an < len := by omega
      have hbn : bn < len := by omega
      have g : ∀ x : Nat, x < len → (ni (fsL l))[x]? = some ((fv l x : Nat) : Int) := by
        intro x hx
        have := List.getElem?_eq_getElem (show x < (fsL l).length by rw [fsL_len, hl]; exact hx)
        rw [ni_at this]
        unfold fv
        rw [List.getD_eq_getElem?_getD, this]
        rfl
      have HDD := Lib.hid (show decide (0 ≤ (an : Int) ∧ (an : Int) < (len : Int) ∧ 0 ≤ (bn : Int) ∧ (bn : Int) < (len : Int)) = true by simp; omega)
      have HFL := Lib.hid (show (fsL l).length = len by rw [fsL_len, hl])
      have G1 := Lib.hid (g an han)
      have G2 := Lib.hid (g bn hbn)
      clear hc h0 hl g i0 i1 j0 j1
      go_enter Try.func6, Try.ntmps6
      go_wp2_with fail
      refine (vsame_any vars an bn A len cap l _ hx HL.out).mono ?_
      rintro e w1 ⟨rfl, hb1⟩
      rw [HS.out, HR.out]
      go_wp2_with fail
      refine (termsCheck_any vars A len cap l _ ((hx.below hb1 (Nat.le_refl _)).more hb1.size) HL.out).mono ?_
      rintro e w2 ⟨rfl, hb2⟩
      rw [HC.out]
      have hbw := hb1.trans (hb2.mono hb1.size)
      go_wp2_with fail
      (with_reducible refine (inside2_any len an bn _ _ _ ?_ ?_).mono ?_)
      · exact cell_new (by simp) rfl
      · exact cell_new (by simp) rfl
      rintro e w3 ⟨rfl, rfl⟩
      rw [HDD.out]
      have hB2 : Below w.heap.size w (w2.alloc (.cells #[.int .i64 an, .int .i64 bn] 3)) := hbw.trans ((by go_grown : Below w2.heap.size w2 _).mono hbw.size)
      go_wp2_with fail
      refine (firsts_any vars A len cap l _ ((hx.below hB2 (Nat.le_refl _)).more hB2.size) HL.out HC.out).mono ?_
      rintro e w3 ⟨A3, c3, rfl, hr3, hb3⟩
      obtain ⟨fa, x1, rfl, m1, y1, z1⟩ := hr3.at_ (k := an) (by simp [ni]; rw [HFL.out]; exact han)
      obtain ⟨fa2, x2, hA2, m2, y2, z2⟩ := hr3.at_ (k := bn) (by simp [ni]; rw [HFL.out]; exact hbn)
      injection hA2 with hA2
      subst hA2
      rw [G1.out] at y1
      rw [G2.out] at y2
      injection y1 with y1
      injection y2 with y2
      subst y1 y2
      have e5 : ((fv l an : Int) == (fv l bn : Int)) = decide (fv l an = fv l bn) := by rw [Bool.eq_iff_iff]; simp; omega
      generalize decide (fv l an = fv l bn) = dd at *
      go_wp2
      go_region
      all_goals
        go_wp2
        go_ret
        exact ⟨ret_bool (by simp), hB2.trans (hb3.mono hB2.size).drew⟩
    · have h0 : ckSame vars l i j = 2 := by unfold ckSame; rw [if_pos hc, if_neg hi]
      have HS := Lib.hid h0
      have HR := Lib.hid (show sameR vars l i j = false by unfold sameR; rw [h0, if_neg (by omega)])
      have HDD := Lib.hid (show decide (0 ≤ i ∧ i < (len : Int) ∧ 0 ≤ j ∧ j < (len : Int)) = false by
        rw [hl] at hi
        unfold inB at hi
        simp
        omega)
      clear hc h0 hl hi
      go_enter Try.func6, Try.ntmps6
      go_wp2_with fail
      refine (vsame_any vars i j A len cap l _ hx HL.out).mono ?_
      rintro e w1 ⟨rfl, hb1⟩
      rw [HS.out, HR.out]
      go_wp2_with fail
      refine (termsCheck_any vars A len cap l _ ((hx.below hb1 (Nat.le_refl _)).more hb1.size) HL.out).mono ?_
      rintro e w2 ⟨rfl, hb2⟩
      rw [HC.out]
      have hbw := hb1.trans (hb2.mono hb1.size)
      go_wp2_with fail
      (with_reducible refine (inside2_any len i j _ _ _ ?_ ?_).mono ?_)
      · exact cell_new (by simp) rfl
      · exact cell_new (by simp) rfl
      rintro e w3 ⟨rfl, rfl⟩
      rw [HDD.out]
      go_wp2_with fail
      go_ret
      exact ⟨ret_bool (by simp), hbw.trans ((by go_grown : Below w2.heap.size w2 _).mono hbw.size)⟩
  · have h0 : ckSame vars l i j = ckTerms vars l := by unfold ckSame; rw [if_neg hc]
    have HS := Lib.hid h0
    have HR := Lib.hid (show sameR vars l i j = false by unfold sameR; rw [h0, if_neg hc])
    have e3 : (ckTerms vars l != 0) = true := by simp [hc]
    have e4 : (ckTerms vars l == 0) = false := by simp [hc]
    clear hc h0 hl
    go_enter Try.func6, Try.ntmps6
    go_wp2_with fail
    refine (vsame_any vars i j A len cap l _ hx HL.out).mono ?_
    rintro e w1 ⟨rfl, hb1⟩
    rw [HS.out, HR.out]
    go_wp2_with fail
    refine (termsCheck_any vars A len cap l _ ((hx.below hb1 (Nat.le_refl _)).more hb1.size) HL.out).mono ?_
    rintro e w2 ⟨rfl, hb2⟩
    go_wp2_with fail
    go_ret
    exact ⟨ret_bool (by simp), hb1.trans (hb2.mono hb1.size)⟩

set_option maxRecDepth 100000 in
theorem lawValueSames_lifted (os : Os) (started : os.Started) (H : Type) (enc : TypeId × Value → H) :
    ReturnsInHanded {} Try.checked os 6 .any (Rows.valueSamesSpec.pre6 enc Try.prog Try.f6 Rows.valueSamesRow.domain false) (Rows.valueSamesSpec.post enc Try.prog Try.f6 false true false false) := by
  refine returnsInHanded_of_change_sized (C := Try.checked) Try.own started (by kernel_rfl) Try.func6
    (ChangeSpec.witness6 (enc := enc) (C := Try.checked) false ⟨#[], #[.int .i64 0, .slice none 0 0, .int .i64 0, .int .i64 0], []⟩ 8 (by kernel_rfl) (by kernel_rfl) (by kernel_rfl) (by kernel_rfl)) ?_
  intro W base args ds gs before hval0 hW hcnd hsz _
  have hval : ∀ (j : Nat) t v, Try.f6.params[j]? = some t → args[j]? = some v → Value.okWide Try.prog W .any base t v := hval0
  have hW' := hW
  obtain ⟨p, q, hA0, hV, rfl, hfz, hnd⟩ := hW
  have hA : DataW.TrodAll enc Try.prog W 0 (fun _ => true) true Try.f6.params.toList args.toList ds p := hA0
  obtain ⟨hgs, _⟩ := trodVars_none hV
  rw [Try.params6] at hA hval
  obtain ⟨v0, vs0, d0, ds0, p0, q0, hargs, rfl, rfl, h0, r0⟩ := trodAll_cons hA
  obtain ⟨v1, vs1, d1, ds1, p1, q1, rfl, rfl, rfl, h1, r1⟩ := trodAll_cons r0
  obtain ⟨v2, vs2, d2, ds2, p2, q2, rfl, rfl, rfl, h2, r2⟩ := trodAll_cons r1
  obtain ⟨v3, vs3, d3, ds3, p3, q3, rfl, rfl, rfl, h3, r3⟩ := trodAll_cons r2
  obtain ⟨rfl, rfl, rfl⟩ := trodAll_nil r3
  have hargs2 : args = #[v0, v1, v2, v3] := Array.toList_inj.1 hargs
  subst hargs2
  obtain ⟨a0, rfl, _, _, w0⟩ := open_int Try.underlying3 (hval 0 3 v0 rfl rfl) h0
  obtain ⟨A1, c1, l1, rfl, lc1, cm1, x1, r1⟩ := open_termsA (hval 1 22 v1 rfl rfl) h1
  have b1 := len_reach Try.underlying22 (hval 1 22 _ rfl rfl) h1 hsz (j := 1) (by rw [Try.params6]; rfl) rfl
  rw [show Try.prog.bytesOf (Try.prog.elem 22) = 32 from by kernel_rfl] at b1
  obtain ⟨a2, rfl, _, _, w2⟩ := open_int Try.underlying3 (hval 2 3 v2 rfl rfl) h2
  obtain ⟨a3, rfl, _, _, w3⟩ := open_int Try.underlying3 (hval 3 3 v3 rfl rfl) h3
  refine (lawValueSames_any a0 a2 a3 A1 c1 l1 W x1).mono fun e W' ⟨he, hb⟩ => ?_
  subst he
  exact ⟨_, rfl, law_post Try.laidOut rfl (by kernel_rfl) Try.underlying4 ⟨rfl, rfl, rfl⟩ (by kernel_rfl) hW' hb⟩

theorem valueSames_holds : Rows.ValueSamesSaid :=
  OpenClaim.holds_of_wide 6 Try.f6 rfl rfl rfl rfl rfl rfl rfl ⟨rfl, rfl, rfl, rfl, rfl⟩ rfl rfl rfl rfl rfl (by kernel_rfl) Try.func6 (show joinedFacts Try.prog 6 Try.f6 Rows.valueSamesSpec Rows.valueSamesRow = true from (by unfold joinedFacts; (repeat' (with_reducible refine and_both ?_ ?_)) <;> first | (with_reducible exact may_enter) | ((with_reducible refine make_ok ?_); rfl) | ((with_reducible refine lifts_ok ?_); rfl) | kernel_rfl))
    (of_decide_eq_true (by kernel_rfl)) (by unfold Func.isWrapper; rw [if_neg (of_decide_eq_false (by kernel_rfl))]; exact ⟨rfl, rfl⟩)
    (fun os started H enc _ => lawValueSames_lifted os started H enc)

end Go.Proofs.Ytacokdghfkpdpaa
