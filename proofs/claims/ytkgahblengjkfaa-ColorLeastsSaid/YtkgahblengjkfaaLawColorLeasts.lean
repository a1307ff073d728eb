/-
  For any things that clash, color.Least returns the first of the colorings with the fewest colors, or the first error (O1).
-/
import Derived.Test.YtkgahblengjkfaaLawColor
import Derived.Test.YtkgahblengjkfaaColorIs
import Derived.Test.YtkgahblengjkfaaColorLst
import Derived.Test.YtkgahblengjkfaaColored
import Derived.Test.YtkgahblengjkfaaIntsSame
namespace Go.Proofs.Ytkgahblengjkfaa
open Go.RowKit Go.ChangeShapes Go.WideShapes Go.ChangeAt Go.Deep
set_option linter.unusedSimpArgs false
set_option linter.unusedVariables false
set_option maxRecDepth 100000

theorem LeastC.smallL {n k : Nat} {ad : Nat → Nat → Bool} {l : List Nat} (hg : Gr ad) (h : LeastC n ad k l) : k ≤ n := by
  refine h.least n (fun i => i) ⟨fun i hi => hi, fun i j _ _ ha => hg.ne ha⟩

theorem colG_zero {n : Nat} {ad : Nat → Nat → Bool} (h : 1 ≤ n) : colG ad 0 n [] = none := by
  obtain ⟨m, rfl⟩ : ∃ m, n = m + 1 := ⟨n - 1, by omega⟩
  rfl

theorem LeastC.pos {n k : Nat} {ad : Nat → Nat → Bool} {l : List Nat} (h : LeastC n ad k l) (hn : 1 ≤ n) : 1 ≤ k := by
  have := h.kol.lt 0 (show 0 < n by omega)
  omega

/-- what has been found so far -/
def SoFar (wr : World) (n K k : Nat) (ad : Nat → Nat → Bool) (l : List Nat) (s : Value) : Prop :=
  (s = .slice none 0 0 ∧ k ≤ K ∧ ∀ k', k' < k → colG ad k' n [] = none) ∨ ∃ p c, s = .slice (some p) n c ∧ RdI wr wr.heap.size (some p) (ni l)

set_option maxHeartbeats 8000000 in
theorem lawColorLeasts_any (L : LeastIs) (n : Int) (A : Option Addr) (cap : Nat) (l : List (Int × Int)) (w : World) (hx : RdM w w.heap.size A l) (hm : l.length ≤ maxLen) :
    Calls Try.prog 3 #[.int .i64 n, .slice A l.length cap] w fun e w' => e = .returned (.bool true) ∧ Below w.heap.size w w' := by
  have HM := Lib.hid hm
  clear hm
  have qT : ∀ (w : World) (a : Option Addr) (n c n' c' : Nat), (binOp .eql 23 (.slice a n c) (.slice none n' c')).run Try.prog w = .ok (.bool a.isNone) w := fun w a n c n' c' => Lib.run_eql_slice_nil w _ _ a n c n' c' Try.underlying23
  by_cases hc : ckCl n l = 0
  · have HC := Lib.hid hc
    obtain ⟨m, q, rfl, rfl, hok⟩ := ckCl_ok hc
    obtain ⟨len, hlen⟩ : ∃ len, (mvI q).length = len := ⟨_, rfl⟩
    have HL : Hid (q.length = len) := Lib.hid (by rw [← hlen, mvI_len])
    have HLI := Lib.hid hlen
    rw [hlen] at HM ⊢
    have HOK := Lib.hid hok
    have hm8 := hok.small
    have hm1 := hok.pos
    have hlen28 : len ≤ 28 := by rw [← HL.out]; exact hok.short
    clear hc hok hlen
    go_enter Try.func3, Try.ntmps3
    go_wp2_with fail
    refine (L.ok m A len cap q _ hx HL.out HOK.out).mono ?_
    rintro e w1 ⟨⟨K, c, hC, A2, c2, rfl, hr1⟩, hb1⟩
    have hx1 := (hx.below hb1 (Nat.le_refl _)).more hb1.size
    have HCC := Lib.hid hC
    have hKm := hC.smallL HOK.out.gr
    have hK1 := hC.pos hm1
    have HCL : Hid ((ni c).length = m) := Lib.hid (by rw [ni_len2]; exact hC.len)
    clear hC
    go_wp2_with fail
    refine (clashCheck_any m A len cap (mvI q) _ hx1 HLI.out HM.out).mono ?_
    rintro e w2 ⟨rfl, hb2⟩
    rw [HC.out]
    have hb12 : Below w.heap.size w w2 := hb1.trans (hb2.mono hb1.size)
    have hx2 := (hx1.below hb2 (Nat.le_refl _)).more hb2.size
    have hr2 := (hr1.below hb2 (Nat.le_refl _)).more hb2.size
    have hs2 := hb12.size
    go_wp2
    go_loopw [8, 9] (fun s t wr => ∃ k : Nat, 1 ≤ k ∧ k ≤ K + 1 ∧ t = .int .i64 k ∧ SoFar wr m K k (clP q) c s ∧ Below w2.heap.size w2 wr) (fun _ t _ => K + 2 - (intOf t).toNat)
    case atStart => exact ⟨1, Nat.le_refl _, by omega, rfl, .inl ⟨rfl, hK1, fun k' hk' => by
      have : k' = 0 := by omega
      rw [this]
      exact colG_zero hm1⟩, Below.refl _ _⟩
    case round =>
      obtain ⟨k, hk1, hkK, rfl, hsf, hb3⟩ := hrel
      have hsz3 := hb3.size
      have hb13 : Below w.heap.size w wr := hb12.trans (hb3.mono hs2)
      have hr3 := (hr2.below hb3 (Nat.le_refl _)).more hb3.size
      rcases hsf with ⟨rfl, hkK2, hno⟩ | ⟨p, c3, rfl, hrp⟩
      · have HNO := Lib.hid hno
        have hx3 := (hx2.below hb3 (Nat.le_refl _)).more hb3.size
        have HCOL := Lib.hid (colored_any m A len cap q k hm8 hm1 (by omega) HL.out (by omega) m [] none 0 0 wr hx3 (fun h => by simp [ni] at h) rfl (by omega))
        clear hno
        go_wp2_with fail
        refine HCOL.out.mono ?_
        rintro e w4 ⟨hfd, hb4⟩
        have hb34 : Below w2.heap.size w2 w4 := hb3.trans (hb4.mono hsz3)
        cases ho : colG (clP q) k m [] with
        | none =>
          rw [ho] at hfd
          have he : e = .returned (.slice none 0 0) := hfd
          subst he
          have hlt := colG_more HOK.out.gr ho HCC.out
          have HNX : Hid (∀ k', k' < k + 1 → colG (clP q) k' m [] = none) := Lib.hid fun k' hk' => by
            rcases Nat.lt_or_ge k' k with h | h
            · exact HNO.out k' h
            · have : k' = k := by omega
              rw [this]
              exact ho
          clear hfd ho
          go_wp2
          go_round
          case rel => exact ⟨k + 1, by omega, by omega, by go_num, .inl ⟨rfl, by omega, HNX.out⟩, hb34⟩
          case measure => (simp [intOf]; omega)
        | some r =>
          rw [ho] at hfd
          obtain ⟨p, c4, rfl, hr4⟩ := hfd
          have hrc : r = c := (colG_least HOK.out.gr ho HNO.out).same HCC.out
          rw [hrc] at hr4
          have HR4 := Lib.hid hr4
          clear hr4 hrc ho
          go_wp2
          go_round
          case rel => exact ⟨k + 1, by omega, by omega, by go_num, .inr ⟨p, c4, rfl, HR4.out⟩, hb34⟩
          case measure => (simp [intOf]; omega)
      · have hmm : m ≤ maxLen := by unfold maxLen; omega
        go_wp2_with (go_at_call 13; (with_reducible refine (ints_same A2 (some p) m c2 c3 (ni c) _ hr3 hrp HCL.out hmm).mono ?_); rintro e w5 ⟨rfl, hb5⟩)
        go_ret
        exact ⟨ret_bool (by simp), hb13.trans (hb5.mono hb13.size)⟩
  · have HC := Lib.hid hc
    obtain ⟨len, hlen⟩ : ∃ len, l.length = len := ⟨_, rfl⟩
    have HLI := Lib.hid hlen
    rw [hlen] at HM ⊢
    obtain ⟨x, hx0⟩ : ∃ x, ckCl n l = x := ⟨_, rfl⟩
    have HX := Lib.hid hx0
    have hne : (x != 0) = true := by rw [← hx0]; simp [hc]
    have hxx : (x == x) = true := by simp
    clear hc hlen hx0 qT
    go_enter Try.func3, Try.ntmps3
    go_wp2_with fail
    refine (L.bad n A len cap l _ hx HLI.out HM.out HC.out).mono ?_
    rintro e w1 ⟨rfl, hb1⟩
    rw [HX.out]
    have hx1 := (hx.below hb1 (Nat.le_refl _)).more hb1.size
    go_wp2_with fail
    refine (clashCheck_any n A len cap l _ hx1 HLI.out HM.out).mono ?_
    rintro e w2 ⟨rfl, hb2⟩
    rw [HX.out]
    go_wp2
    go_ret
    exact ⟨ret_bool (by simp), hb1.trans (hb2.mono hb1.size)⟩

set_option maxRecDepth 100000 in
theorem lawColorLeasts_lifted (os : Os) (started : os.Started) (H : Type) (enc : TypeId × Value → H) :
    ReturnsInHanded {} Try.checked os 3 .any (Rows.colorLeastsSpec.pre6 enc Try.prog Try.f3 Rows.colorLeastsRow.domain false) (Rows.colorLeastsSpec.post enc Try.prog Try.f3 false true false false) := by
  refine returnsInHanded_of_change_sized (C := Try.checked) Try.own started (by kernel_rfl) Try.func3
    (ChangeSpec.witness6 (enc := enc) (C := Try.checked) false ⟨#[], #[.int .i64 0, .slice none 0 0], []⟩ 8 (by kernel_rfl) (by kernel_rfl) (by kernel_rfl) (by kernel_rfl)) ?_
  intro W base args ds gs before hval0 hW hcnd hsz _
  have hval : ∀ (j : Nat) t v, Try.f3.params[j]? = some t → args[j]? = some v → Value.okWide Try.prog W .any base t v := hval0
  have hW' := hW
  obtain ⟨p, q, hA0, hV, rfl, hfz, hnd⟩ := hW
  have hA : DataW.TrodAll enc Try.prog W 0 (fun _ => true) true Try.f3.params.toList args.toList ds p := hA0
  obtain ⟨hgs, _⟩ := trodVars_none hV
  rw [Try.params3] at hA hval
  obtain ⟨v0, vs0, d0, ds0, p0, q0, hargs, rfl, rfl, h0, r0⟩ := trodAll_cons hA
  obtain ⟨v1, vs1, d1, ds1, p1, q1, rfl, rfl, rfl, h1, r1⟩ := trodAll_cons r0
  obtain ⟨rfl, rfl, rfl⟩ := trodAll_nil r1
  have hargs2 : args = #[v0, v1] := Array.toList_inj.1 hargs
  subst hargs2
  obtain ⟨a0, rfl, _, _, w0⟩ := open_int Try.underlying3 (hval 0 3 v0 rfl rfl) h0
  obtain ⟨A1, c1, l1, rfl, lc1, cm1, x1, r1⟩ := open_pairsA (hval 1 22 v1 rfl rfl) h1
  have b1 := len_reach Try.underlying22 (hval 1 22 _ rfl rfl) h1 hsz (j := 1) (by rw [Try.params3]; rfl) rfl
  rw [show Try.prog.bytesOf (Try.prog.elem 22) = 16 from by kernel_rfl] at b1
  refine (lawColorLeasts_any leastIs a0 A1 c1 l1 _ x1 (by omega)).mono fun e W' ⟨he, hb⟩ => ?_
  subst he
  exact ⟨_, rfl, law_post Try.laidOut rfl (by kernel_rfl) Try.underlying4 ⟨rfl, rfl, rfl⟩ (by kernel_rfl) hW' hb⟩

theorem colorLeasts_holds : Rows.ColorLeastsSaid :=
  OpenClaim.holds_of_wide 3 Try.f3 rfl rfl rfl rfl rfl rfl rfl ⟨rfl, rfl, rfl, rfl, rfl⟩ rfl rfl rfl rfl rfl (by kernel_rfl) Try.func3 (show joinedFacts Try.prog 3 Try.f3 Rows.colorLeastsSpec Rows.colorLeastsRow = true from (by unfold joinedFacts; (repeat' (with_reducible refine and_both ?_ ?_)) <;> first | (with_reducible exact may_enter) | ((with_reducible refine make_ok ?_); rfl) | ((with_reducible refine lifts_ok ?_); rfl) | kernel_rfl))
    (of_decide_eq_true (by kernel_rfl)) (by unfold Func.isWrapper; rw [if_neg (of_decide_eq_false (by kernel_rfl))]; exact ⟨rfl, rfl⟩)
    (fun os started H enc _ => lawColorLeasts_lifted os started H enc)

end Go.Proofs.Ytkgahblengjkfaa
