/-
  For any things that clash and any number: if none is left when those with fewer clashes go, so many colors will do (O1, O2; Kempe, Chaitin).
-/
import Derived.Test.YtkgahblengjkfaaLawColor
import Derived.Test.YtkgahblengjkfaaColorIs
import Derived.Test.YtkgahblengjkfaaColorLst
import Derived.Test.YtkgahblengjkfaaColorPeel
import Derived.Test.YtkgahblengjkfaaColorSets
import Derived.Test.YtkgahblengjkfaaWords
namespace Go.Proofs.Ytkgahblengjkfaa
open Go.RowKit Go.ChangeShapes Go.WideShapes Go.ChangeAt Go.Deep
set_option linter.unusedSimpArgs false
set_option linter.unusedVariables false
set_option maxRecDepth 100000

theorem LeastC.small {n k : Nat} {ad : Nat → Nat → Bool} {l : List Nat} (hg : Gr ad) (h : LeastC n ad k l) : k ≤ n := by
  refine h.least n (fun i => i) ⟨fun i hi => hi, fun i j _ _ ha => hg.ne ha⟩

set_option maxHeartbeats 8000000 in
theorem lawColorKempe_any (K : PeelIs) (L : LeastIs) (n : Int) (A : Option Addr) (cap : Nat) (l : List (Int × Int)) (k : Int) (w : World) (hx : RdM w w.heap.size A l) (hm : l.length ≤ maxLen) :
    Calls Try.prog 7 #[.int .i64 n, .slice A l.length cap, .int .i64 k] w fun e w' => e = .returned (.bool true) ∧ Below w.heap.size w w' := by
  have HM := Lib.hid hm
  clear hm
  by_cases hc : ckCl n l = 0
  · have HC := Lib.hid hc
    obtain ⟨m, q, rfl, rfl, hok⟩ := ckCl_ok hc
    obtain ⟨len, hlen⟩ : ∃ len, (mvI q).length = len := ⟨_, rfl⟩
    have HL : Hid (q.length = len) := Lib.hid (by rw [← hlen, mvI_len])
    have HLI := Lib.hid hlen
    rw [hlen] at HM ⊢
    have HOK := Lib.hid hok
    have hm8 := hok.small
    clear hc hok hlen
    by_cases hk : k < 0
    · go_enter Try.func7, Try.ntmps7
      go_wp2_with fail
      refine (K.range m A len cap q k _ hx HL.out HOK.out hk).mono ?_
      rintro e w1 ⟨rfl, hb1⟩
      have hx1 := (hx.below hb1 (Nat.le_refl _)).more hb1.size
      go_wp2_with fail
      refine (L.ok m A len cap q _ hx1 HL.out HOK.out).mono ?_
      rintro e w2 ⟨⟨kc, c, hC, A2, c2, rfl, hr2⟩, hb2⟩
      have hx2 := (hx1.below hb2 (Nat.le_refl _)).more hb2.size
      have hb12 : Below w.heap.size w w2 := hb1.trans (hb2.mono hb1.size)
      clear hC
      go_wp2_with fail
      refine (clashes_any m A len cap (mvI q) _ hx2 HLI.out HM.out).mono ?_
      rintro e w3 ⟨rfl, hb3⟩
      rw [HC.out]
      have hb13 : Below w.heap.size w w3 := hb12.trans (hb3.mono hb12.size)
      go_wp2
      go_ret
      exact ⟨ret_bool (by simp), hb13⟩
    · obtain ⟨kk, rfl⟩ : ∃ kk : Nat, k = kk := ⟨k.toNat, by omega⟩
      go_enter Try.func7, Try.ntmps7
      go_wp2_with fail
      refine (K.ok m A len cap q kk _ hx HL.out HOK.out).mono ?_
      rintro e w1 ⟨⟨W, hW, rfl⟩, hb1⟩
      have hx1 := (hx.below hb1 (Nat.le_refl _)).more hb1.size
      have HW := Lib.hid hW
      have hWlt := hW.lt
      have hW32 : W < 4294967296 := Nat.lt_of_lt_of_le hWlt (Nat.le_trans (Nat.pow_le_pow_right (by omega) hm8) (by omega))
      have hfit : decide (W < 2 ^ m) = true := by simp [hWlt]
      have HFIT := Lib.hid hfit
      clear hW hWlt hfit
      go_wp2_with fail
      refine (L.ok m A len cap q _ hx1 HL.out HOK.out).mono ?_
      rintro e w2 ⟨⟨kc, c, hC, A2, c2, rfl, hr2⟩, hb2⟩
      have hx2 := (hx1.below hb2 (Nat.le_refl _)).more hb2.size
      have hb12 : Below w.heap.size w w2 := hb1.trans (hb2.mono hb1.size)
      have HCC := Lib.hid hC
      have hcl : c.length = m := hC.len
      have hkn := hC.small HOK.out.gr
      have HCV : Hid (∀ x ∈ c, x ≤ 65536) := Lib.hid fun x hx => by
        have := cof_lt hC.len (fun i hi => hC.kol.lt i hi) x hx
        omega
      have HCL := Lib.hid hcl
      clear hC hcl
      go_wp2_with fail
      refine (clashes_any m A len cap (mvI q) _ hx2 HLI.out HM.out).mono ?_
      rintro e w3 ⟨rfl, hb3⟩
      rw [HC.out]
      have hb13 : Below w.heap.size w w3 := hb12.trans (hb3.mono hb12.size)
      have hr3 := (hr2.below hb3 (Nat.le_refl _)).more hb3.size
      go_wp2_with fail
      refine (refFits_is m W _ (by omega) hW32).mono ?_
      rintro e w4 ⟨rfl, rfl⟩
      rw [HFIT.out]
      by_cases h0 : W = 0
      · have hb0 : (((W : Nat) : Int) != 0) = false := by simp [h0]
        have HLE : Hid (mst c ≤ kk) := Lib.hid (by
          obtain ⟨c', hc'⟩ := kempe HOK.out.gr (by have := HW.out; rw [h0] at this; exact this)
          rw [HCC.out.most]
          exact HCC.out.least _ _ hc')
        have hle := HLE.out
        clear h0
        go_wp2_with (go_at_call 24; (with_reducible refine (most_any A2 m c2 c _ _ hr3 HCL.out (by omega) HCV.out).mono ?_); rintro e w5 ⟨rfl, rfl⟩)
        go_ret
        exact ⟨ret_bool (by simp), hb13⟩
      · have hb0 : (((W : Nat) : Int) != 0) = true := by simp; omega
        clear h0
        go_wp2
        go_ret
        exact ⟨ret_bool (by simp), hb13⟩
  · have HC := Lib.hid hc
    obtain ⟨len, hlen⟩ : ∃ len, l.length = len := ⟨_, rfl⟩
    have HLI := Lib.hid hlen
    rw [hlen] at HM ⊢
    obtain ⟨x, hx0⟩ : ∃ x, ckCl n l = x := ⟨_, rfl⟩
    have HX := Lib.hid hx0
    have hne : (x != 0) = true := by rw [← hx0]; simp [hc]
    have hne2 : (x == 0) = false := by rw [← hx0]; simp [hc]
    clear hc hlen hx0
    go_enter Try.func7, Try.ntmps7
    go_wp2_with fail
    refine (K.bad n A len cap l k _ hx HLI.out HM.out HC.out).mono ?_
    rintro e w1 ⟨rfl, hb1⟩
    rw [HX.out]
    have hx1 := (hx.below hb1 (Nat.le_refl _)).more hb1.size
    go_wp2_with fail
    refine (L.bad n A len cap l _ hx1 HLI.out HM.out HC.out).mono ?_
    rintro e w2 ⟨rfl, hb2⟩
    have hx2 := (hx1.below hb2 (Nat.le_refl _)).more hb2.size
    have hb12 : Below w.heap.size w w2 := hb1.trans (hb2.mono hb1.size)
    go_wp2_with fail
    refine (clashes_any n A len cap l _ hx2 HLI.out HM.out).mono ?_
    rintro e w3 ⟨rfl, hb3⟩
    rw [HX.out, hne2]
    have hb13 : Below w.heap.size w w3 := hb12.trans (hb3.mono hb12.size)
    go_wp2
    go_ret
    exact ⟨rfl, hb13⟩

set_option maxRecDepth 100000 in
theorem lawColorKempe_lifted (os : Os) (started : os.Started) (H : Type) (enc : TypeId × Value → H) :
    ReturnsInHanded {} Try.checked os 7 .any (Rows.colorKempeSpec.pre6 enc Try.prog Try.f7 Rows.colorKempeRow.domain false) (Rows.colorKempeSpec.post enc Try.prog Try.f7 false true false false) := by
  refine returnsInHanded_of_change_sized (C := Try.checked) Try.own started (by kernel_rfl) Try.func7
    (ChangeSpec.witness6 (enc := enc) (C := Try.checked) false ⟨#[], #[.int .i64 0, .slice none 0 0, .int .i64 0], []⟩ 8 (by kernel_rfl) (by kernel_rfl) (by kernel_rfl) (by kernel_rfl)) ?_
  intro W base args ds gs before hval0 hW hcnd hsz _
  have hval : ∀ (j : Nat) t v, Try.f7.params[j]? = some t → args[j]? = some v → Value.okWide Try.prog W .any base t v := hval0
  have hW' := hW
  obtain ⟨p, q, hA0, hV, rfl, hfz, hnd⟩ := hW
  have hA : DataW.TrodAll enc Try.prog W 0 (fun _ => true) true Try.f7.params.toList args.toList ds p := hA0
  obtain ⟨hgs, _⟩ := trodVars_none hV
  rw [Try.params7] at hA hval
  obtain ⟨v0, vs0, d0, ds0, p0, q0, hargs, rfl, rfl, h0, r0⟩ := trodAll_cons hA
  obtain ⟨v1, vs1, d1, ds1, p1, q1, rfl, rfl, rfl, h1, r1⟩ := trodAll_cons r0
  obtain ⟨v2, vs2, d2, ds2, p2, q2, rfl, rfl, rfl, h2, r2⟩ := trodAll_cons r1
  obtain ⟨rfl, rfl, rfl⟩ := trodAll_nil r2
  have hargs2 : args = #[v0, v1, v2] := Array.toList_inj.1 hargs
  subst hargs2
  obtain ⟨a0, rfl, _, _, w0⟩ := open_int Try.underlying3 (hval 0 3 v0 rfl rfl) h0
  obtain ⟨A1, c1, l1, rfl, lc1, cm1, x1, r1⟩ := open_pairsA (hval 1 22 v1 rfl rfl) h1
  have b1 := len_reach Try.underlying22 (hval 1 22 _ rfl rfl) h1 hsz (j := 1) (by rw [Try.params7]; rfl) rfl
  rw [show Try.prog.bytesOf (Try.prog.elem 22) = 16 from by kernel_rfl] at b1
  obtain ⟨a2, rfl, _, _, w2⟩ := open_int Try.underlying3 (hval 2 3 v2 rfl rfl) h2
  refine (lawColorKempe_any peelIs leastIs a0 A1 c1 l1 a2 _ x1 (by omega)).mono fun e W' ⟨he, hb⟩ => ?_
  subst he
  exact ⟨_, rfl, law_post Try.laidOut rfl (by kernel_rfl) Try.underlying4 ⟨rfl, rfl, rfl⟩ (by kernel_rfl) hW' hb⟩

theorem colorKempe_holds : Rows.ColorKempeSaid :=
  OpenClaim.holds_of_wide 7 Try.f7 rfl rfl rfl rfl rfl rfl rfl ⟨rfl, rfl, rfl, rfl, rfl⟩ rfl rfl rfl rfl rfl (by kernel_rfl) Try.func7 (show joinedFacts Try.prog 7 Try.f7 Rows.colorKempeSpec Rows.colorKempeRow = true from (by unfold joinedFacts; (repeat' (with_reducible refine and_both ?_ ?_)) <;> first | (with_reducible exact may_enter) | ((with_reducible refine make_ok ?_); rfl) | ((with_reducible refine lifts_ok ?_); rfl) | kernel_rfl))
    (of_decide_eq_true (by kernel_rfl)) (by unfold Func.isWrapper; rw [if_neg (of_decide_eq_false (by kernel_rfl))]; exact ⟨rfl, rfl⟩)
    (fun os started H enc _ => lawColorKempe_lifted os started H enc)

end Go.Proofs.Ytkgahblengjkfaa
