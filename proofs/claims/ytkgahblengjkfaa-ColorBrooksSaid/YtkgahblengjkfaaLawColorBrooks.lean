/-
  For any things that clash, one of which with three others or more: if no set of which any two clash has more things than one has clashes at most, so many colors will do (O1; Brooks).
-/
import Derived.Test.YtkgahblengjkfaaLawColor
import Derived.Test.YtkgahblengjkfaaColorIs
import Derived.Test.YtkgahblengjkfaaColorLst
import Derived.Test.YtkgahblengjkfaaColorQ
import Derived.Test.YtkgahblengjkfaaColorSets
namespace Go.Proofs.Ytkgahblengjkfaa
open Go.RowKit Go.ChangeShapes Go.WideShapes Go.ChangeAt Go.Deep
set_option linter.unusedSimpArgs false
set_option linter.unusedVariables false
set_option maxRecDepth 100000

theorem LeastC.smallB {n k : Nat} {ad : Nat → Nat → Bool} {l : List Nat} (hg : Gr ad) (h : LeastC n ad k l) : k ≤ n := by
  refine h.least n (fun i => i) ⟨fun i hi => hi, fun i j _ _ ha => hg.ne ha⟩

set_option maxHeartbeats 8000000 in
theorem lawColorBrooks_any (L : LeastIs) (Q : CliqueIs) (n : Int) (A : Option Addr) (cap : Nat) (l : List (Int × Int)) (w : World) (hx : RdM w w.heap.size A l) (hm : l.length ≤ maxLen) :
    Calls Try.prog 9 #[.int .i64 n, .slice A l.length cap] w fun e w' => e = .returned (.bool true) ∧ Below w.heap.size w w' := by
  have HM := Lib.hid hm
  clear hm
  by_cases hc : ckCl n l = 0
  · have HC := Lib.hid hc
    obtain ⟨m, q, rfl, rfl, hok⟩ := ckCl_ok hc
    obtain ⟨len, hlen⟩ : ∃ len, (mvI q).length = len := ⟨_, rfl⟩
    have HL : Hid (q.length = len) := Lib.hid (by rw [← hlen, mvI_len])
    have HLI := Lib.hid hlen
    rw [hlen] at HM ⊢
    have HOK := Lib.hid hok
    have hm8 := hok.small
    have hlen28 : len ≤ 28 := by rw [← HL.out]; exact hok.short
    have HDG : Hid (∀ (i : Nat) (w1 : World), Below w.heap.size w w1 → Calls Try.prog 25 #[.int .i64 m, .slice A len cap, .int .i64 (i : Int)] w1 fun e w' => e = .returned (.int .i64 (dgN m (clP q) i : Nat)) ∧ Below w1.heap.size w1 w') := Lib.hid fun i w1 hb1 => degree_any m A len cap q i w1 ((hx.below hb1 (Nat.le_refl _)).more hb1.size) HL.out (by omega) hm8
    clear hc hok hlen
    go_enter Try.func9, Try.ntmps9
    go_wp2_with fail
    refine (L.ok m A len cap q _ hx HL.out HOK.out).mono ?_
    rintro e w1 ⟨⟨kc, c, hC, A2, c2, rfl, hr1⟩, hb1⟩
    have hx1 := (hx.below hb1 (Nat.le_refl _)).more hb1.size
    have HCC := Lib.hid hC
    have hkn := hC.smallB HOK.out.gr
    have HCV : Hid (∀ x ∈ c, x ≤ 65536) := Lib.hid fun x hx => by
      have := cof_lt hC.len (fun i hi => hC.kol.lt i hi) x hx
      omega
    have HCL : Hid (c.length = m) := Lib.hid hC.len
    clear hC
    go_wp2_with fail
    refine (Q.ok m A len cap q _ hx1 HL.out HOK.out).mono ?_
    rintro e w2 ⟨⟨W, hW, rfl⟩, hb2⟩
    have hb12 : Below w.heap.size w w2 := hb1.trans (hb2.mono hb1.size)
    have hx2 := (hx1.below hb2 (Nat.le_refl _)).more hb2.size
    have hr2 := (hr1.below hb2 (Nat.le_refl _)).more hb2.size
    have HW := Lib.hid hW
    have HWS : Hid (szW W 32 = szW W m) := Lib.hid (szW_32 hW.lt (by omega))
    have hW32 : W < 4294967296 := Nat.lt_of_lt_of_le hW.lt (Nat.le_trans (Nat.pow_le_pow_right (by omega) hm8) (by omega))
    clear hW
    go_wp2_with fail
    refine (clashes_any m A len cap (mvI q) _ hx2 HLI.out HM.out).mono ?_
    rintro e w3 ⟨rfl, hb3⟩
    rw [HC.out]
    have hb13 : Below w.heap.size w w3 := hb12.trans (hb3.mono hb12.size)
    have hr3 := (hr2.below hb3 (Nat.le_refl _)).more hb3.size
    have hs3 := hb13.size
    go_wp2
    go_loopw [9, 10] (fun s t wr => ∃ i D : Nat, i ≤ m ∧ D ≤ m ∧ t = .int .i64 i ∧ s = .int .i64 D ∧ Hid (∀ j, j < i → dgN m (clP q) j ≤ D) ∧ Below w3.heap.size w3 wr) (fun _ t _ => m - (intOf t).toNat)
    case atStart => exact ⟨0, 0, Nat.zero_le _, Nat.zero_le _, rfl, rfl, Lib.hid fun j h => by omega, Below.refl _ _⟩
    case round =>
      obtain ⟨i, D, hi, hDm, rfl, rfl, HD, hb4⟩ := hrel
      have hsz4 := hb4.size
      have hb14 : Below w.heap.size w wr := hb13.trans (hb4.mono hs3)
      by_cases hlt : i < m
      · obtain ⟨d, hd⟩ : ∃ d, dgN m (clP q) i = d := ⟨_, rfl⟩
        have HDI := Lib.hid hd
        have hdm : d ≤ m := by rw [← hd]; exact cntN_le _ _
        clear hd
        go_wp2_with fail
        refine (HDG.out i _ hb14).mono ?_
        rintro e w5 ⟨rfl, hb5⟩
        rw [HDI.out]
        have hb15 : Below w.heap.size w w5 := hb14.trans (hb5.mono hb14.size)
        have hb35 : Below w3.heap.size w3 w5 := hb4.trans (hb5.mono hsz4)
        by_cases hg : D < d
        · have hg2 : (D : Int) < (d : Int) := by omega
          have HN : Hid (∀ j, j < i + 1 → dgN m (clP q) j ≤ d) := Lib.hid fun j hj => by
            rcases Nat.lt_or_ge j i with h | h
            · exact Nat.le_trans (HD.out j h) (by omega)
            · have : j = i := by omega
              rw [this, HDI.out]
              exact Nat.le_refl _
          clear hg
          go_wp2_with fail
          refine (HDG.out i _ hb15).mono ?_
          rintro e w6 ⟨rfl, hb6⟩
          rw [HDI.out]
          go_wp2
          go_round
          case rel => exact ⟨i + 1, d, by omega, hdm, by go_num, rfl, HN, hb35.trans (hb6.mono hb35.size)⟩
          case measure => (simp [intOf]; omega)
        · have hg2 : ¬ (D : Int) < (d : Int) := by omega
          have HN : Hid (∀ j, j < i + 1 → dgN m (clP q) j ≤ D) := Lib.hid fun j hj => by
            rcases Nat.lt_or_ge j i with h | h
            · exact HD.out j h
            · have : j = i := by omega
              rw [this, HDI.out]
              omega
          clear hg
          go_wp2
          go_round
          case rel => exact ⟨i + 1, D, by omega, hDm, by go_num, rfl, HN, hb35⟩
          case measure => (simp [intOf]; omega)
      · have hr4 := (hr3.below hb4 (Nat.le_refl _)).more hb4.size
        by_cases h3 : D < 3
        · have h3' : (D : Int) < 3 := by omega
          go_wp2
          go_ret
          exact ⟨ret_bool (by simp), hb14⟩
        · have h3' : ¬ (D : Int) < 3 := by omega
          by_cases hs : D < szW W m
          · have hs' : (D : Int) < ((szW W m : Nat) : Int) := by omega
            go_wp2_with (go_at_call 21; (with_reducible refine (sizeC_any W _ hW32).mono ?_); rw [HWS.out]; rintro e w5 ⟨rfl, rfl⟩)
            go_ret
            exact ⟨ret_bool (by simp), hb14⟩
          · have hs' : ¬ (D : Int) < ((szW W m : Nat) : Int) := by omega
            have HLE : Hid (mst c ≤ D) := Lib.hid (by
              obtain ⟨c', hc'⟩ := brooks_n HOK.out.gr (by omega) (fun j hj => HD.out j (by omega)) HW.out (by omega)
              rw [HCC.out.most]
              exact HCC.out.least _ _ hc')
            have hle : ((mst c : Nat) : Int) ≤ (D : Int) := by have := HLE.out; omega
            go_wp2_with (first
              | (go_at_call 21; (with_reducible refine (sizeC_any W _ hW32).mono ?_); rw [HWS.out]; rintro e w5 ⟨rfl, rfl⟩)
              | (go_at_call 24; (with_reducible refine (most_any A2 m c2 c _ _ hr4 HCL.out (by omega) HCV.out).mono ?_); rintro e w5 ⟨rfl, rfl⟩))
            go_ret
            exact ⟨ret_bool (by simp), hb14⟩
  · have HC := Lib.hid hc
    obtain ⟨len, hlen⟩ : ∃ len, l.length = len := ⟨_, rfl⟩
    have HLI := Lib.hid hlen
    rw [hlen] at HM ⊢
    obtain ⟨x, hx0⟩ : ∃ x, ckCl n l = x := ⟨_, rfl⟩
    have HX := Lib.hid hx0
    have hne : (x != 0) = true := by rw [← hx0]; simp [hc]
    have hne2 : (x == 0) = false := by rw [← hx0]; simp [hc]
    clear hc hlen hx0
    go_enter Try.func9, Try.ntmps9
    go_wp2_with fail
    refine (L.bad n A len cap l _ hx HLI.out HM.out HC.out).mono ?_
    rintro e w1 ⟨rfl, hb1⟩
    rw [HX.out]
    have hx1 := (hx.below hb1 (Nat.le_refl _)).more hb1.size
    go_wp2_with fail
    refine (Q.bad n A len cap l _ hx1 HLI.out HM.out HC.out).mono ?_
    rintro e w2 ⟨rfl, hb2⟩
    rw [HX.out]
    have hx2 := (hx1.below hb2 (Nat.le_refl _)).more hb2.size
    have hb12 : Below w.heap.size w w2 := hb1.trans (hb2.mono hb1.size)
    go_wp2_with fail
    refine (clashes_any n A len cap l _ hx2 HLI.out HM.out).mono ?_
    rintro e w3 ⟨rfl, hb3⟩
    rw [HX.out, hne2]
    have hb13 : Below w.heap.size w w3 := hb12.trans (hb3.mono hb12.size)
    go_wp2
    go_ret
    exact ⟨rfl, hb13⟩

set_option maxRecDepth 100000 in
theorem lawColorBrooks_lifted (os : Os) (started : os.Started) (H : Type) (enc : TypeId × Value → H) :
    ReturnsInHanded {} Try.checked os 9 .any (Rows.colorBrooksSpec.pre6 enc Try.prog Try.f9 Rows.colorBrooksRow.domain false) (Rows.colorBrooksSpec.post enc Try.prog Try.f9 false true false false) := by
  refine returnsInHanded_of_change_sized (C := Try.checked) Try.own started (by kernel_rfl) Try.func9
    (ChangeSpec.witness6 (enc := enc) (C := Try.checked) false ⟨#[], #[.int .i64 0, .slice none 0 0], []⟩ 8 (by kernel_rfl) (by kernel_rfl) (by kernel_rfl) (by kernel_rfl)) ?_
  intro W base args ds gs before hval0 hW hcnd hsz _
  have hval : ∀ (j : Nat) t v, Try.f9.params[j]? = some t → args[j]? = some v → Value.okWide Try.prog W .any base t v := hval0
  have hW' := hW
  obtain ⟨p, q, hA0, hV, rfl, hfz, hnd⟩ := hW
  have hA : DataW.TrodAll enc Try.prog W 0 (fun _ => true) true Try.f9.params.toList args.toList ds p := hA0
  obtain ⟨hgs, _⟩ := trodVars_none hV
  rw [Try.params9] at hA hval
  obtain ⟨v0, vs0, d0, ds0, p0, q0, hargs, rfl, rfl, h0, r0⟩ := trodAll_cons hA
  obtain ⟨v1, vs1, d1, ds1, p1, q1, rfl, rfl, rfl, h1, r1⟩ := trodAll_cons r0
  obtain ⟨rfl, rfl, rfl⟩ := trodAll_nil r1
  have hargs2 : args = #[v0, v1] := Array.toList_inj.1 hargs
  subst hargs2
  obtain ⟨a0, rfl, _, _, w0⟩ := open_int Try.underlying3 (hval 0 3 v0 rfl rfl) h0
  obtain ⟨A1, c1, l1, rfl, lc1, cm1, x1, r1⟩ := open_pairsA (hval 1 22 v1 rfl rfl) h1
  have b1 := len_reach Try.underlying22 (hval 1 22 _ rfl rfl) h1 hsz (j := 1) (by rw [Try.params9]; rfl) rfl
  rw [show Try.prog.bytesOf (Try.prog.elem 22) = 16 from by kernel_rfl] at b1
  refine (lawColorBrooks_any leastIs cliqueIs a0 A1 c1 l1 _ x1 (by omega)).mono fun e W' ⟨he, hb⟩ => ?_
  subst he
  exact ⟨_, rfl, law_post Try.laidOut rfl (by kernel_rfl) Try.underlying4 ⟨rfl, rfl, rfl⟩ (by kernel_rfl) hW' hb⟩

theorem colorBrooks_holds : Rows.ColorBrooksSaid :=
  OpenClaim.holds_of_wide 9 Try.f9 rfl rfl rfl rfl rfl rfl rfl ⟨rfl, rfl, rfl, rfl, rfl⟩ rfl rfl rfl rfl rfl (by kernel_rfl) Try.func9 (show joinedFacts Try.prog 9 Try.f9 Rows.colorBrooksSpec Rows.colorBrooksRow = true from (by unfold joinedFacts; (repeat' (with_reducible refine and_both ?_ ?_)) <;> first | (with_reducible exact may_enter) | ((with_reducible refine make_ok ?_); rfl) | ((with_reducible refine lifts_ok ?_); rfl) | kernel_rfl))
    (of_decide_eq_true (by kernel_rfl)) (by unfold Func.isWrapper; rw [if_neg (of_decide_eq_false (by kernel_rfl))]; exact ⟨rfl, rfl⟩)
    (fun os started H enc _ => lawColorBrooks_lifted os started H enc)

end Go.Proofs.Ytkgahblengjkfaa
