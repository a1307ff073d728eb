/-
  Congruence is transitive, and congruent terms stand for the same, for all arguments: codemasonkeep.ValueSame returns true and leaves its arguments alone. No condition.
-/
import Derived.Test.YtacokdghfkpdpaaValue
import Derived.Test.YtacokdghfkpdpaaTermVal
import Derived.Test.YtacokdghfkpdpaaTermed
import Derived.Test.YtacokdghfkpdpaaInside3
import Derived.Test.YtacokdghfkpdpaaLaw
import Derived.Test.YtacokdghfkpdpaaRec
import Derived.IntWalk
import Derived.Test.YtacokdghfkpdpaaComb
import Derived.Deep.RegionHeld3
namespace Go.Proofs.Ytacokdghfkpdpaa
open Go.RowKit Go.ChangeShapes Go.WideShapes Go.ChangeAt Go.Deep
set_option linter.unusedSimpArgs false
set_option linter.unusedVariables false
set_option maxRecDepth 100000

theorem ckTerms_take {vars : Int} {l : List Tm} {n : Nat} (hc : ckTerms vars l = 0) (h0 : 0 < n) (hn : n ≤ l.length) : ckTerms vars (l.take n) = 0 := by
  obtain ⟨h1, h2, h3, h4⟩ := ckTerms_bd hc
  refine ckTerms_of h1 h2 (by simp; omega) (by simp; omega) fun i t hi => ?_
  rw [List.getElem?_take] at hi
  split at hi
  · exact ckTerms_at hc hi
  · cases hi

theorem valT_take {l : List Tm} {hv : List Int} {a : Nat} (h : a < l.length) : valT (l.take (a + 1)) hv = V hv l a := by
  have hl : (l.take (a + 1)).length - 1 = a := by simp; omega
  unfold valT V
  rw [hl]
  exact evAll_take (by omega) (by omega)

theorem sl_run (ad : Addr) (len cap m : Nat) (v : Int) (hv : v = (m : Int)) (h : m ≤ cap) (hc : 0 < cap) (W : World) :
    (Instr.slice 22 (.slice (some ad) len cap) none (some (.int .i64 v)) none).run Try.prog W = .ok (.slice (some ad) m cap) W := by
  subst hv
  have h1 : (m : Int) ≤ (cap : Int) := by omega
  have h2 : (0 : Int) ≤ (m : Int) := by omega
  have h3 : ¬ cap = 0 := by omega
  have hs : (sizeOf (Try.prog.elem 22)).run Try.prog W = .ok 4 W := by
    have e : Try.prog.elem 22 = 30 := by kernel_rfl
    obtain ⟨i0, hi0, hz, hsz, hb⟩ := info_parts term_info
    rw [e]
    simp [sizeOf, typeInfo, hi0, hsz]
  have ht : Try.prog.underlying 22 = some (.slice (Try.prog.elem 22)) := by
    rw [Try.underlying22]
    kernel_rfl
  rw [run_slice_h W 22 (some ad) len cap ht .i64 _ h2 h1, hs]
  simp [Result.andThen, sliced, Addr.add]

set_option maxHeartbeats 8000000 in
theorem lawValueSame_any (vars i j k : Int) (A XA : Option Addr) (cap xc : Nat) (l : List Tm) (xs : List Int) (w : World) (hx : RdT w w.heap.size A l) (hh : RdI w w.heap.size XA xs) (hcap : l.length ≤ cap) (hxm : xs.length * 8 ≤ 140737488351232) :
    Calls Try.prog 8 #[.int .i64 vars, .slice A l.length cap, .int .i64 i, .int .i64 j, .int .i64 k, .slice XA xs.length xc] w fun e w' => e = .returned (.bool true) ∧ Below w.heap.size w w' := by
  generalize hl : l.length = len at *
  generalize hnx : xs.length = nx at *
  have HL := Lib.hid hl
  have HX := Lib.hid hnx
  have hm : nx ≤ maxLen := by unfold maxLen; omega
  by_cases hc : ckTerms vars l = 0
  · have HC := Lib.hid hc
    have e0 : (ckTerms vars l == 0) = true := by simp [hc]
    by_cases hall : inB l.length i ∧ inB l.length j ∧ inB l.length k
    · obtain ⟨hi, hj, hk⟩ := hall
      have S1 := Lib.hid (ckSame_of hc hi hj)
      have S2 := Lib.hid (ckSame_of hc hj hk)
      have S3 := Lib.hid (ckSame_of hc hi hk)
      have S4 := Lib.hid (ckSame_of hc hi hi)
      have R1 := Lib.hid (sameR_of S1.out)
      have R2 := Lib.hid (sameR_of S2.out)
      have R3 := Lib.hid (sameR_of S3.out)
      have R4 := Lib.hid ((sameR_of S4.out).trans (decide_eq_true rfl))
      obtain ⟨i0, i1⟩ := hi
      obtain ⟨j0, j1⟩ := hj
      obtain ⟨k0, k1⟩ := hk
      obtain ⟨an, rfl⟩ := Int.eq_ofNat_of_zero_le i0
      obtain ⟨bn, rfl⟩ := Int.eq_ofNat_of_zero_le j0
      obtain ⟨cn, rfl⟩ := Int.eq_ofNat_of_zero_le k0
      simp only [Int.toNat_natCast] at R1 R2 R3
      have hab : an < l.length ∧ bn < l.length := by omega
      have HV : Hid (fv l an = fv l bn → valT (l.take (an + 1)) xs = valT (l.take (bn + 1)) xs) := Lib.hid fun h => by
        rw [valT_take hab.1, valT_take hab.2]
        exact V_same hc xs _ hab.1 _ hab.2 ((fv_iff hc hab.1 hab.2).1 h)
      have T1 := Lib.hid (ckTerms_take (n := an + 1) hc (by omega) (by omega))
      have T2 := Lib.hid (ckTerms_take (n := bn + 1) hc (by omega) (by omega))
      have L1 : Hid ((l.take (an + 1)).length = an + 1) := Lib.hid (by simp; omega)
      have L2 : Hid ((l.take (bn + 1)).length = bn + 1) := Lib.hid (by simp; omega)
      rw [hl] at i1 j1 k1
      have HDD := Lib.hid (show decide (0 ≤ (an : Int) ∧ (an : Int) < (len : Int) ∧ 0 ≤ (bn : Int) ∧ (bn : Int) < (len : Int) ∧ 0 ≤ (cn : Int) ∧ (cn : Int) < (len : Int)) = true by simp; omega)
      have HTR : Hid (decide (fv l an = fv l bn) = true → decide (fv l bn = fv l cn) = true → decide (fv l an = fv l cn) = true) := Lib.hid fun h1 h2 => by simp at h1 h2 ⊢; omega
      have hs1 : an + 1 ≤ cap := by omega
      have hs2 : bn + 1 ≤ cap := by omega
      have hz1 : (an : Int) + 1 ≤ (cap : Int) := by omega
      have hz2 : (bn : Int) + 1 ≤ (cap : Int) := by omega
      have hp1 : (0 : Int) ≤ (an : Int) + 1 := by omega
      have hp2 : (0 : Int) ≤ (bn : Int) + 1 := by omega
      have ht1 : ((an : Int) + 1).toNat = an + 1 := by omega
      have ht2 : ((bn : Int) + 1).toNat = bn + 1 := by omega
      have hcap0 : ¬ cap = 0 := by omega
      have h16 : len ≤ 16 := by have := ckTerms_bd hc; omega
      have han : an < len := by omega
      have hbn : bn < len := by omega
      have hwr1 : IntKind.i64.wrap ((an : Int) + 1) = (an : Int) + 1 := IntWalk.i64_in _ ⟨by omega, by omega⟩
      have hwr2 : IntKind.i64.wrap ((bn : Int) + 1) = (bn : Int) + 1 := IntWalk.i64_in _ ⟨by omega, by omega⟩
      obtain ⟨d1, hd1⟩ : ∃ d, decide (fv l an = fv l bn) = d := ⟨_, rfl⟩
      obtain ⟨d2, hd2⟩ : ∃ d, decide (fv l bn = fv l cn) = d := ⟨_, rfl⟩
      obtain ⟨d3, hd3⟩ : ∃ d, decide (fv l an = fv l cn) = d := ⟨_, rfl⟩
      rw [hd1] at R1 HTR
      rw [hd2] at R2 HTR
      rw [hd3] at R3 HTR
      have HD1 := Lib.hid hd1
      by_cases hv : ckHave vars xs = 0
      · have HH := Lib.hid hv
        have e1 : (ckHave vars xs == 0) = true := by simp [hv]
        clear hc hd1 hd2 hd3 hv i0 i1 j0 j1 k0 k1 hab hl hnx
        rcases d1 with _ | _ <;> rcases d2 with _ | _ <;> rcases d3 with _ | _
        case true.true.false => exact absurd (HTR.out rfl rfl) (by simp)
        all_goals
          go_enter Try.func8, Try.ntmps8
          go_wp2_with fail
          refine (vsame_any vars an bn A len cap l _ hx HL.out).mono ?_
          rintro e w1 ⟨rfl, hb1⟩
          rw [S1.out, R1.out]
          go_wp2_with fail
          refine (vsame_any vars bn cn A len cap l _ ((hx.below hb1 (Nat.le_refl _)).more hb1.size) HL.out).mono ?_
          rintro e w2 ⟨rfl, hb2⟩
          rw [S2.out, R2.out]
          have hB2 := hb1.trans (hb2.mono hb1.size)
          go_wp2_with fail
          refine (vsame_any vars an cn A len cap l _ ((hx.below hB2 (Nat.le_refl _)).more hB2.size) HL.out).mono ?_
          rintro e w3 ⟨rfl, hb3⟩
          rw [S3.out, R3.out]
          have hB3 := hB2.trans (hb3.mono hB2.size)
          go_wp2_with fail
          refine (termed_any vars A len cap l _ ((hx.below hB3 (Nat.le_refl _)).more hB3.size) HL.out).mono ?_
          rintro e w4 ⟨rfl, hb4⟩
          rw [e0]
          have hB4 := hB3.trans (hb4.mono hB3.size)
          clear hb1 hb2 hb3 hb4
          go_wp2_with fail
          (with_reducible refine (inside3_any len an bn cn _ _ _ ?_ ?_ ?_).mono ?_)
          · exact cell_new (by simp) rfl
          · exact cell_new (by simp) rfl
          · exact cell_new (by simp) rfl
          rintro e w5 ⟨rfl, rfl⟩
          rw [HDD.out]
          have hB5 : Below w.heap.size w (w4.alloc (.cells #[.int .i64 an, .int .i64 bn, .int .i64 cn] 3)) := hB4.trans ((by go_grown : Below w4.heap.size w4 _).mono hB4.size)
          go_wp2_with fail
          refine (vsame_any vars an an A len cap l _ ((hx.below hB5 (Nat.le_refl _)).more hB5.size) HL.out).mono ?_
          rintro e w6 ⟨rfl, hb6⟩
          rw [S4.out, R4.out]
          have hB6 := hB5.trans (hb6.mono hB5.size)
          have hh6 := (hh.below hB6 (Nat.le_refl _)).more hB6.size
          have hx6 := (hx.below hB6 (Nat.le_refl _)).more hB6.size
          first
            | (go_wp2_with fail; go_ret; exact ⟨ret_bool (by simp), hB6⟩)
            | (go_wp2_with fail
               refine (given_any vars XA nx xc xs _ _ hh6 HX.out hm).mono ?_
               rintro e w7 ⟨rfl, rfl⟩
               rw [e1]
               obtain ⟨ad0, o0, a0, b0, v0, hA0, _⟩ := hx6.at_ (k := 0) (by rw [HL.out]; omega)
               subst hA0
               have HREF : Hid (∀ (n : Nat) (Z : World), Below w6.heap.size w6 Z → (l.take n).length = n → ckTerms vars (l.take n) = 0 → Calls Try.prog 13 #[.slice (some ad0) n cap, .slice XA nx xc] Z fun e w' => e = .returned (.int .i64 (valT (l.take n) xs)) ∧ Below Z.heap.size Z w') :=
                 Lib.hid fun n Z hZ h1 h2 => by
                   rw [← HX.out]
                   exact refTerm_any vars (some ad0) XA n cap xc (l.take n) xs Z (((hx6.below hZ (Nat.le_refl _)).more hZ.size).take n) ((hh6.below hZ (Nat.le_refl _)).more hZ.size) h1 h2 HH.out
               obtain ⟨vx, hvx⟩ : ∃ vx, valT (l.take (bn + 1)) xs = vx := ⟨_, rfl⟩
               have HVB := Lib.hid hvx
               have HVA := Lib.hid ((HV.out (of_decide_eq_true HD1.out)).trans hvx)
               clear hvx hx6 hh6
               have hsl1 := sl_run ad0 len cap (an + 1) ((an : Int) + 1) (by omega) hs1 (by omega)
               have hsl2 := sl_run ad0 len cap (bn + 1) ((bn : Int) + 1) (by omega) hs2 (by omega)
               go_wp2_with fail
               go_region_held3 (fun _ => True) (trivial)
                 (first
                   | (go_at_call 13; (with_reducible refine (HREF.out (an + 1) _ (by go_grown) L1.out T1.out).mono ?_); rw [HVA.out]; rintro e wA ⟨rfl, hbA0⟩; have hbA : Below w6.heap.size w6 wA := below_via (by go_grown) hbA0; have hsA := hbA.size)
                   | (go_at_call 13; (with_reducible refine (HREF.out (bn + 1) _ (by go_grown) L2.out T2.out).mono ?_); rw [HVB.out]; rintro e wB ⟨rfl, hbB0⟩; have hbB : Below w6.heap.size w6 wB := below_via (by go_grown) hbB0; have hsB := hbB.size))
               all_goals
                 go_wp2
                 go_ret
                 exact ⟨ret_bool (by simp), hB6.trans ((by go_grown : Below w6.heap.size w6 _).mono hB6.size)⟩)
      · have e1 : (ckHave vars xs == 0) = false := by simp [hv]
        clear hc hd1 hd2 hd3 hv i0 i1 j0 j1 k0 k1 hab hl hnx
        rcases d1 with _ | _ <;> rcases d2 with _ | _ <;> rcases d3 with _ | _
        case true.true.false => exact absurd (HTR.out rfl rfl) (by simp)
        all_goals
          go_enter Try.func8, Try.ntmps8
          go_wp2_with fail
          refine (vsame_any vars an bn A len cap l _ hx HL.out).mono ?_
          rintro e w1 ⟨rfl, hb1⟩
          rw [S1.out, R1.out]
          go_wp2_with fail
          refine (vsame_any vars bn cn A len cap l _ ((hx.below hb1 (Nat.le_refl _)).more hb1.size) HL.out).mono ?_
          rintro e w2 ⟨rfl, hb2⟩
          rw [S2.out, R2.out]
          have hB2 := hb1.trans (hb2.mono hb1.size)
          go_wp2_with fail
          refine (vsame_any vars an cn A len cap l _ ((hx.below hB2 (Nat.le_refl _)).more hB2.size) HL.out).mono ?_
          rintro e w3 ⟨rfl, hb3⟩
          rw [S3.out, R3.out]
          have hB3 := hB2.trans (hb3.mono hB2.size)
          go_wp2_with fail
          refine (termed_any vars A len cap l _ ((hx.below hB3 (Nat.le_refl _)).more hB3.size) HL.out).mono ?_
          rintro e w4 ⟨rfl, hb4⟩
          rw [e0]
          have hB4 := hB3.trans (hb4.mono hB3.size)
          clear hb1 hb2 hb3 hb4
          go_wp2_with fail
          (with_reducible refine (inside3_any len an bn cn _ _ _ ?_ ?_ ?_).mono ?_)
          · exact cell_new (by simp) rfl
          · exact cell_new (by simp) rfl
          · exact cell_new (by simp) rfl
          rintro e w5 ⟨rfl, rfl⟩
          rw [HDD.out]
          have hB5 : Below w.heap.size w (w4.alloc (.cells #[.int .i64 an, .int .i64 bn, .int .i64 cn] 3)) := hB4.trans ((by go_grown : Below w4.heap.size w4 _).mono hB4.size)
          go_wp2_with fail
          refine (vsame_any vars an an A len cap l _ ((hx.below hB5 (Nat.le_refl _)).more hB5.size) HL.out).mono ?_
          rintro e w6 ⟨rfl, hb6⟩
          rw [S4.out, R4.out]
          have hB6 := hB5.trans (hb6.mono hB5.size)
          have hh6 := (hh.below hB6 (Nat.le_refl _)).more hB6.size
          have hx6 := (hx.below hB6 (Nat.le_refl _)).more hB6.size
          first
            | (go_wp2_with fail; go_ret; exact ⟨ret_bool (by simp), hB6⟩)
            | (go_wp2_with fail
               refine (given_any vars XA nx xc xs _ _ hh6 HX.out hm).mono ?_
               rintro e w7 ⟨rfl, rfl⟩
               rw [e1]
               go_wp2_with fail
               go_ret
               exact ⟨ret_bool (by simp), hB6⟩)
    · have HDD := Lib.hid (show decide (0 ≤ i ∧ i < (len : Int) ∧ 0 ≤ j ∧ j < (len : Int) ∧ 0 ≤ k ∧ k < (len : Int)) = false by
        rw [hl] at hall
        unfold inB at hall
        simp
        omega)
      obtain ⟨s1, hs1⟩ : ∃ s, ckSame vars l i j = s := ⟨_, rfl⟩
      obtain ⟨s2, hs2⟩ : ∃ s, ckSame vars l j k = s := ⟨_, rfl⟩
      have HS1 := Lib.hid hs1
      have HS2 := Lib.hid hs2
      have hor : s1 = 2 ∨ (s1 = 0 ∧ s2 = 2) := by
        unfold ckSame at hs1 hs2
        rw [if_pos hc] at hs1 hs2
        by_cases h1 : inB l.length i ∧ inB l.length j
        · rw [if_pos h1] at hs1
          rw [if_neg (fun h2 => hall ⟨h1.1, h1.2, h2.2⟩)] at hs2
          exact .inr ⟨hs1.symm, hs2.symm⟩
        · rw [if_neg h1] at hs1
          exact .inl hs1.symm
      clear hc hl hnx hall hs1 hs2
      rcases hor with rfl | ⟨rfl, rfl⟩
      all_goals
        go_enter Try.func8, Try.ntmps8
        go_wp2_with fail
        refine (vsame_any vars i j A len cap l _ hx HL.out).mono ?_
        rintro e w1 ⟨rfl, hb1⟩
        rw [HS1.out]
        go_wp2_with fail
        refine (vsame_any vars j k A len cap l _ ((hx.below hb1 (Nat.le_refl _)).more hb1.size) HL.out).mono ?_
        rintro e w2 ⟨rfl, hb2⟩
        rw [HS2.out]
        have hB2 := hb1.trans (hb2.mono hb1.size)
        go_wp2_with fail
        refine (vsame_any vars i k A len cap l _ ((hx.below hB2 (Nat.le_refl _)).more hB2.size) HL.out).mono ?_
        rintro e w3 ⟨rfl, hb3⟩
        have hB3 := hB2.trans (hb3.mono hB2.size)
        go_wp2_with fail
        refine (termed_any vars A len cap l _ ((hx.below hB3 (Nat.le_refl _)).more hB3.size) HL.out).mono ?_
        rintro e w4 ⟨rfl, hb4⟩
        rw [e0]
        have hB4 := hB3.trans (hb4.mono hB3.size)
        clear hb1 hb2 hb3 hb4
        go_wp2_with fail
        (with_reducible refine (inside3_any len i j k _ _ _ ?_ ?_ ?_).mono ?_)
        · exact cell_new (by simp) rfl
        · exact cell_new (by simp) rfl
        · exact cell_new (by simp) rfl
        rintro e w5 ⟨rfl, rfl⟩
        rw [HDD.out]
        go_wp2_with fail
        all_goals
          go_ret
          exact ⟨ret_bool (by simp), hB4.trans ((by go_grown : Below w4.heap.size w4 _).mono hB4.size)⟩
  · have e0 : (ckTerms vars l == 0) = false := by simp [hc]
    have e3 : (ckTerms vars l != 0) = true := by simp [hc]
    have HS : Hid (∀ x y : Int, ckSame vars l x y = ckTerms vars l) := Lib.hid fun x y => by unfold ckSame; rw [if_neg hc]
    clear hc hl hnx
    go_enter Try.func8, Try.ntmps8
    go_wp2_with fail
    refine (vsame_any vars i j A len cap l _ hx HL.out).mono ?_
    rintro e w1 ⟨rfl, hb1⟩
    rw [HS.out]
    go_wp2_with fail
    refine (vsame_any vars j k A len cap l _ ((hx.below hb1 (Nat.le_refl _)).more hb1.size) HL.out).mono ?_
    rintro e w2 ⟨rfl, hb2⟩
    rw [HS.out]
    have hB2 := hb1.trans (hb2.mono hb1.size)
    go_wp2_with fail
    refine (vsame_any vars i k A len cap l _ ((hx.below hB2 (Nat.le_refl _)).more hB2.size) HL.out).mono ?_
    rintro e w3 ⟨rfl, hb3⟩
    rw [HS.out]
    have hB3 := hB2.trans (hb3.mono hB2.size)
    go_wp2_with fail
    refine (termed_any vars A len cap l _ ((hx.below hB3 (Nat.le_refl _)).more hB3.size) HL.out).mono ?_
    rintro e w4 ⟨rfl, hb4⟩
    rw [e0]
    go_wp2_with fail
    go_ret
    exact ⟨ret_bool (by simp), hB3.trans (hb4.mono hB3.size)⟩

set_option maxRecDepth 100000 in
theorem lawValueSame_lifted (os : Os) (started : os.Started) (H : Type) (enc : TypeId × Value → H) :
    ReturnsInHanded {} Try.checked os 8 .any (Rows.valueSameSpec.pre6 enc Try.prog Try.f8 Rows.valueSameRow.domain false) (Rows.valueSameSpec.post enc Try.prog Try.f8 false true false false) := by
  refine returnsInHanded_of_change_sized (C := Try.checked) Try.own started (by kernel_rfl) Try.func8
    (ChangeSpec.witness6 (enc := enc) (C := Try.checked) false ⟨#[], #[.int .i64 0, .slice none 0 0, .int .i64 0, .int .i64 0, .int .i64 0, .slice none 0 0], []⟩ 8 (by kernel_rfl) (by kernel_rfl) (by kernel_rfl) (by kernel_rfl)) ?_
  intro W base args ds gs before hval0 hW hcnd hsz _
  have hval : ∀ (j : Nat) t v, Try.f8.params[j]? = some t → args[j]? = some v → Value.okWide Try.prog W .any base t v := hval0
  have hW' := hW
  obtain ⟨p, q, hA0, hV, rfl, hfz, hnd⟩ := hW
  have hA : DataW.TrodAll enc Try.prog W 0 (fun _ => true) true Try.f8.params.toList args.toList ds p := hA0
  obtain ⟨hgs, _⟩ := trodVars_none hV
  rw [Try.params8] at hA hval
  obtain ⟨v0, vs0, d0, ds0, p0, q0, hargs, rfl, rfl, h0, r0⟩ := trodAll_cons hA
  obtain ⟨v1, vs1, d1, ds1, p1, q1, rfl, rfl, rfl, h1, r1⟩ := trodAll_cons r0
  obtain ⟨v2, vs2, d2, ds2, p2, q2, rfl, rfl, rfl, h2, r2⟩ := trodAll_cons r1
  obtain ⟨v3, vs3, d3, ds3, p3, q3, rfl, rfl, rfl, h3, r3⟩ := trodAll_cons r2
  obtain ⟨v4, vs4, d4, ds4, p4, q4, rfl, rfl, rfl, h4, r4⟩ := trodAll_cons r3
  obtain ⟨v5, vs5, d5, ds5, p5, q5, rfl, rfl, rfl, h5, r5⟩ := trodAll_cons r4
  obtain ⟨rfl, rfl, rfl⟩ := trodAll_nil r5
  have hargs2 : args = #[v0, v1, v2, v3, v4, v5] := Array.toList_inj.1 hargs
  subst hargs2
  obtain ⟨a0, rfl, _, _, w0⟩ := open_int Try.underlying3 (hval 0 3 v0 rfl rfl) h0
  obtain ⟨A1, c1, l1, rfl, lc1, cm1, x1, r1⟩ := open_termsA (hval 1 22 v1 rfl rfl) h1
  have b1 := len_reach Try.underlying22 (hval 1 22 _ rfl rfl) h1 hsz (j := 1) (by rw [Try.params8]; rfl) rfl
  rw [show Try.prog.bytesOf (Try.prog.elem 22) = 32 from by kernel_rfl] at b1
  obtain ⟨a2, rfl, _, _, w2⟩ := open_int Try.underlying3 (hval 2 3 v2 rfl rfl) h2
  obtain ⟨a3, rfl, _, _, w3⟩ := open_int Try.underlying3 (hval 3 3 v3 rfl rfl) h3
  obtain ⟨a4, rfl, _, _, w4⟩ := open_int Try.underlying3 (hval 4 3 v4 rfl rfl) h4
  obtain ⟨A5, c5, l5, rfl, lc5, cm5, x5, r5⟩ := open_intsA (hval 5 23 v5 rfl rfl) h5
  have b5 := len_reach Try.underlying23 (hval 5 23 _ rfl rfl) h5 hsz (j := 5) (by rw [Try.params8]; rfl) rfl
  rw [show Try.prog.bytesOf (Try.prog.elem 23) = 8 from by kernel_rfl] at b5
  refine (lawValueSame_any a0 a2 a3 a4 A1 A5 c1 c5 l1 l5 W x1 x5 lc1 b5).mono fun e W' ⟨he, hb⟩ => ?_
  subst he
  exact ⟨_, rfl, law_post Try.laidOut rfl (by kernel_rfl) Try.underlying4 ⟨rfl, rfl, rfl⟩ (by kernel_rfl) hW' hb⟩

theorem valueSame_holds : Rows.ValueSameSaid :=
  OpenClaim.holds_of_wide 8 Try.f8 rfl rfl rfl rfl rfl rfl rfl ⟨rfl, rfl, rfl, rfl, rfl⟩ rfl rfl rfl rfl rfl (by kernel_rfl) Try.func8 (show joinedFacts Try.prog 8 Try.f8 Rows.valueSameSpec Rows.valueSameRow = true from (by unfold joinedFacts; (repeat' (with_reducible refine and_both ?_ ?_)) <;> first | (with_reducible exact may_enter) | ((with_reducible refine make_ok ?_); rfl) | ((with_reducible refine lifts_ok ?_); rfl) | kernel_rfl))
    (of_decide_eq_true (by kernel_rfl)) (by unfold Func.isWrapper; rw [if_neg (of_decide_eq_false (by kernel_rfl))]; exact ⟨rfl, rfl⟩)
    (fun os started H enc _ => lawValueSame_lifted os started H enc)

end Go.Proofs.Ytacokdghfkpdpaa
