/-
  Folded twice terms are as many as once, and where no variable is used one number is left: codemasonkeep.TermFold returns true for all arguments and leaves them alone. No condition.
-/
import Derived.Test.YtacokdghfkpdpaaFoldTwice
import Derived.Test.YtacokdghfkpdpaaLawTermFolds
import Derived.Test.YtacokdghfkpdpaaLawTermUse
namespace Go.Proofs.Ytacokdghfkpdpaa
open Go.RowKit Go.ChangeShapes Go.WideShapes Go.ChangeAt Go.Deep
set_option linter.unusedSimpArgs false
set_option linter.unusedVariables false
set_option maxRecDepth 100000

set_option maxHeartbeats 400000 in
theorem in_any (a b : Nat) (w : World) (ha : a < 64) (hb : b < 64) (h : a ||| b = b) :
    Calls Try.prog 16 #[.int .u32 (a : Nat), .int .u32 (b : Nat)] w fun e w' => e = .returned (.bool true) ∧ w = w' := by
  have hor : bits .or .u32 (a : Int) (b : Int) = (b : Int) := by rw [u32_or_nat _ _ (by omega) (by omega), h]
  clear h
  go_enter Try.func16, Try.ntmps16
  go_wp2_with fail
  go_ret
  exact ⟨ret_bool (by simp [*]), rfl⟩

set_option maxHeartbeats 4000000 in
theorem lawTermFold_any (vars : Int) (A : Option Addr) (cap : Nat) (l : List Tm) (w : World) (hx : RdT w w.heap.size A l) :
    Calls Try.prog 4 #[.int .i64 vars, .slice A l.length cap] w fun e w' => e = .returned (.bool true) ∧ Below w.heap.size w w' := by
  generalize hl : l.length = len at *
  have HL := Lib.hid hl
  clear hl
  by_cases h1 : ckTerms vars l = 0
  · have HC := Lib.hid h1
    have HK1 : Hid (ckTerms vars (foldL l) = 0) := Lib.hid (pr_ck (combL_ck h1))
    have HT : Hid ((foldL (foldL l)).length = (foldL l).length) := Lib.hid (fold_twice h1)
    have HO : Hid (usesW (foldL l) ||| usesW l = usesW l) := Lib.hid (fold_uses h1)
    have HN : Hid (usesW l = 0 → (foldL l).length = 1 ∧ ∃ u, (foldL l)[0]? = some u ∧ u.op = 1) := Lib.hid (fold_none h1)
    have HU1 := Lib.hid (show usesR vars l = usesW l by unfold usesR; rw [if_pos h1])
    have HU2 := Lib.hid (show usesR vars (foldL l) = usesW (foldL l) by unfold usesR; rw [if_pos HK1.out])
    have HW1 := Lib.hid (usesW_lt h1)
    have HW2 := Lib.hid (usesW_lt HK1.out)
    have e1 : (ckTerms vars l == 0) = true := by simp [h1]
    clear h1
    go_enter Try.func4, Try.ntmps4
    go_wp2_with fail
    refine (fold_any vars A len cap l _ hx HL.out HC.out).mono ?_
    rintro e w1 ⟨A1, c1, rfl, hr1, hb1⟩
    generalize foldL l = K at *
    generalize hkn : K.length = kn at *
    have HKN := Lib.hid hkn
    clear hkn
    go_wp2_with fail
    refine (uses_any vars A len cap l _ ((hx.below hb1 (Nat.le_refl _)).more hb1.size) HL.out).mono ?_
    rintro e w2 ⟨rfl, hb2⟩
    rw [HC.out, HU1.out]
    have hr2 := (hr1.below hb2 (Nat.le_refl _)).more hb2.size
    have hbw2 := hb1.trans (hb2.mono hb1.size)
    go_wp2_with fail
    refine (termed_any vars A len cap l _ ((hx.below hbw2 (Nat.le_refl _)).more hbw2.size) HL.out).mono ?_
    rintro e w3 ⟨rfl, hb3⟩
    have hr3 := (hr2.below hb3 (Nat.le_refl _)).more hb3.size
    have hbw3 := hbw2.trans (hb3.mono hbw2.size)
    go_wp2_with fail
    refine (fold_any vars A1 kn c1 K _ hr3 HKN.out HK1.out).mono ?_
    rintro e w4 ⟨A2, c2, rfl, _, hb4⟩
    rw [HT.out]
    have hr4 := (hr3.below hb4 (Nat.le_refl _)).more hb4.size
    have hbw4 := hbw3.trans (hb4.mono hbw3.size)
    clear hr1 hr2 hr3 hb1 hb2 hb3 hb4 hbw2 hbw3 hx
    go_wp2_with fail
    refine (uses_any vars A1 kn c1 K _ hr4 HKN.out).mono ?_
    rintro e w5 ⟨rfl, hb5⟩
    rw [HK1.out, HU2.out]
    have hr5 := (hr4.below hb5 (Nat.le_refl _)).more hb5.size
    have hbw5 := hbw4.trans (hb5.mono hbw4.size)
    clear hr4 hb5 hbw4
    generalize usesW l = s at *
    generalize usesW K = t at *
    go_wp2_with fail
    refine (in_any t s _ HW2.out HW1.out HO.out).mono ?_
    rintro e w6 ⟨rfl, rfl⟩
    obtain ⟨wz, rfl⟩ : ∃ wz : World, wz = w5 := ⟨_, rfl⟩
    by_cases hs : s = 0
    · subst hs
      obtain ⟨hone, u, hu, huo⟩ := HN.out rfl
      obtain rfl : kn = 1 := hone
      obtain ⟨ad, o, a, b, v, rfl, hbl, hd, p0, p1, p2, p3⟩ := hr5.at_ (k := 0) (by rw [HKN.out]; omega)
      rw [hd] at hu
      injection hu with hu
      subst hu
      obtain rfl : o = 1 := huo
      clear hd
      have hz : ad.add 0 = ad := by
        obtain ⟨bl, of, el⟩ := ad
        unfold Addr.add
        cases el <;> simp
      have p0' : wz.cell? (ad.add 0) = some (.int .i64 1) := p0
      have p0'' : wz.cell? ad = some (.int .i64 1) := by rw [← hz]; exact p0'
      go_wp2_with fail
      go_ret
      exact ⟨ret_bool (by simp), hbw5⟩
    · have e2 : (((s : Nat) : Int) != 0) = true := by simp; omega
      clear hs
      go_wp2_with fail
      go_ret
      exact ⟨ret_bool (by simp), hbw5⟩
  · have e1 : (ckTerms vars l == 0) = false := by simp [h1]
    have e2 : (ckTerms vars l != 0) = true := by simp [h1]
    have HB := Lib.hid h1
    clear h1
    go_enter Try.func4, Try.ntmps4
    go_wp2_with fail
    refine (fold_bad vars A len cap l _ hx HL.out HB.out).mono ?_
    rintro e w1 ⟨rfl, hb1⟩
    go_wp2_with fail
    refine (uses_any vars A len cap l _ ((hx.below hb1 (Nat.le_refl _)).more hb1.size) HL.out).mono ?_
    rintro e w2 ⟨rfl, hb2⟩
    have hbw2 := hb1.trans (hb2.mono hb1.size)
    go_wp2_with fail
    refine (termed_any vars A len cap l _ ((hx.below hbw2 (Nat.le_refl _)).more hbw2.size) HL.out).mono ?_
    rintro e w3 ⟨rfl, hb3⟩
    go_wp2_with fail
    go_ret
    exact ⟨ret_bool (by simp), hbw2.trans (hb3.mono hbw2.size)⟩

set_option maxRecDepth 100000 in
theorem lawTermFold_lifted (os : Os) (started : os.Started) (H : Type) (enc : TypeId × Value → H) :
    ReturnsInHanded {} Try.checked os 4 .any (Rows.termFoldSpec.pre6 enc Try.prog Try.f4 Rows.termFoldRow.domain false) (Rows.termFoldSpec.post enc Try.prog Try.f4 false true false false) := by
  refine returnsInHanded_of_change_sized (C := Try.checked) Try.own started (by kernel_rfl) Try.func4
    (ChangeSpec.witness6 (enc := enc) (C := Try.checked) false ⟨#[], #[.int .i64 0, .slice none 0 0], []⟩ 8 (by kernel_rfl) (by kernel_rfl) (by kernel_rfl) (by kernel_rfl)) ?_
  intro W base args ds gs before hval0 hW hcnd hsz _
  have hval : ∀ (j : Nat) t v, Try.f4.params[j]? = some t → args[j]? = some v → Value.okWide Try.prog W .any base t v := hval0
  have hW' := hW
  obtain ⟨p, q, hA0, hV, rfl, hfz, hnd⟩ := hW
  have hA : DataW.TrodAll enc Try.prog W 0 (fun _ => true) true Try.f4.params.toList args.toList ds p := hA0
  obtain ⟨hgs, _⟩ := trodVars_none hV
  rw [Try.params4] at hA hval
  obtain ⟨v0, vs0, d0, ds0, p0, q0, hargs, rfl, rfl, h0, r0⟩ := trodAll_cons hA
  obtain ⟨v1, vs1, d1, ds1, p1, q1, rfl, rfl, rfl, h1, r1⟩ := trodAll_cons r0
  obtain ⟨rfl, rfl, rfl⟩ := trodAll_nil r1
  have hargs2 : args = #[v0, v1] := Array.toList_inj.1 hargs
  subst hargs2
  obtain ⟨a0, rfl, _, _, w0⟩ := open_int Try.underlying3 (hval 0 3 v0 rfl rfl) h0
  obtain ⟨A1, c1, l1, rfl, lc1, cm1, x1, r1⟩ := open_termsA (hval 1 22 v1 rfl rfl) h1
  have b1 := len_reach Try.underlying22 (hval 1 22 _ rfl rfl) h1 hsz (j := 1) (by rw [Try.params4]; rfl) rfl
  rw [show Try.prog.bytesOf (Try.prog.elem 22) = 32 from by kernel_rfl] at b1
  refine (lawTermFold_any a0 A1 c1 l1 W x1).mono fun e W' ⟨he, hb⟩ => ?_
  subst he
  exact ⟨_, rfl, law_post Try.laidOut rfl (by kernel_rfl) Try.underlying4 ⟨rfl, rfl, rfl⟩ (by kernel_rfl) hW' hb⟩

theorem termFold_holds : Rows.TermFoldSaid :=
  OpenClaim.holds_of_wide 4 Try.f4 rfl rfl rfl rfl rfl rfl rfl ⟨rfl, rfl, rfl, rfl, rfl⟩ rfl rfl rfl rfl rfl (by kernel_rfl) Try.func4 (show joinedFacts Try.prog 4 Try.f4 Rows.termFoldSpec Rows.termFoldRow = true from (by unfold joinedFacts; (repeat' (with_reducible refine and_both ?_ ?_)) <;> first | (with_reducible exact may_enter) | ((with_reducible refine make_ok ?_); rfl) | ((with_reducible refine lifts_ok ?_); rfl) | kernel_rfl))
    (of_decide_eq_true (by kernel_rfl)) (by unfold Func.isWrapper; rw [if_neg (of_decide_eq_false (by kernel_rfl))]; exact ⟨rfl, rfl⟩)
    (fun os started H enc _ => lawTermFold_lifted os started H enc)

end Go.Proofs.Ytacokdghfkpdpaa
