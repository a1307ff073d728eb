/-
  For any things asked for, any places and any that are to go: hold.Min tells no more misses than hold.Lru, hold.Fifo and hold.Play, nor more than there are things asked for (P1; Belady).
-/
import Derived.Test.YtjnmohphinldkaaLawHold
import Derived.Test.YtjnmohphinldkaaHold
namespace Go.Proofs.Ytjnmohphinldkaa
open Go.RowKit Go.ChangeShapes Go.WideShapes Go.ChangeAt Go.Deep
set_option linter.unusedSimpArgs false
set_option linter.unusedVariables false
set_option maxRecDepth 100000

set_option maxHeartbeats 4000000 in
theorem lawHoldBelady_any (M : MinIs) (L : LruIs) (F : FifoIs) (Y : PlayIs) (A : Option Addr) (cap : Nat) (refs : List Int) (p : Int) (A2 : Option Addr) (cap2 : Nat) (out : List Int) (w : World) (hx : RdI w w.heap.size A refs) (hlc : refs.length ≤ cap) (hcm : cap ≤ maxLen)
    (hx2 : RdI w w.heap.size A2 out) (hlc2 : out.length ≤ cap2) (hcm2 : cap2 ≤ maxLen) :
    Calls Try.prog 7 #[.slice A refs.length cap, .int .i64 p, .slice A2 out.length cap2] w fun e w' => e = .returned (.bool true) ∧ Below w.heap.size w w' := by
  have HX2 := Lib.hid hx2
  obtain ⟨len, hl⟩ : ∃ len, refs.length = len := ⟨_, rfl⟩
  obtain ⟨len2, hl2⟩ : ∃ len2, out.length = len2 := ⟨_, rfl⟩
  have HL := Lib.hid hl
  have HL2 := Lib.hid hl2
  have HM2 : Hid (len2 ≤ maxLen) := Lib.hid (by omega)
  rw [hl] at hlc ⊢
  rw [hl2] at hlc2 ⊢
  have HLC := Lib.hid hlc
  have HCM := Lib.hid hcm
  have HX := Lib.hid hx
  clear hl hl2 hx2 hx hlc2 hcm2
  rcases hbad_or len p with hb | ⟨hm, m, rfl, h1, h8⟩
  · have HB := Lib.hid hb
    have hmx : len ≤ maxLen := by omega
    clear hb
    go_enter Try.func7, Try.ntmps7
    go_wp2_with fail
    refine (M.bad A len cap p _ hmx HB.out).mono ?_
    rintro e w1 ⟨rfl, hb1⟩
    go_wp2_with fail
    refine (held_bad A len cap p _ hmx HB.out).mono ?_
    rintro e w2 ⟨rfl, rfl⟩
    go_wp2
    go_ret
    exact ⟨rfl, hb1⟩
  · have HH1 := Lib.hid h1
    go_enter Try.func7, Try.ntmps7
    go_wp2_with fail
    refine (M.ok A len cap m refs _ HX.out HL.out HLC.out HCM.out hm h1 h8).mono ?_
    rintro e w1 ⟨⟨k, hk, rfl⟩, hb1⟩
    have hkl : k ≤ len := by rw [← HL.out]; exact best_len hk
    have hka := best_lru h1 hk
    have hkb := best_fifo h1 hk
    have hx1 := Lib.hid ((HX.out.below hb1 (Nat.le_refl _)).more hb1.size)
    have HK := Lib.hid hk
    clear hk
    go_wp2_with fail
    refine (held_ok A len cap m _ hm h1 h8).mono ?_
    rintro e w2 ⟨rfl, rfl⟩
    go_wp2_with fail
    refine (L.ok A len cap m refs _ hx1.out HL.out HLC.out HCM.out hm h1 h8).mono ?_
    rintro e w3 ⟨rfl, hb3⟩
    have hb13 : Below w.heap.size w w3 := hb1.trans (hb3.mono hb1.size)
    have hx3 := Lib.hid ((HX.out.below hb13 (Nat.le_refl _)).more hb13.size)
    go_wp2_with fail
    refine (F.ok A len cap m refs _ hx3.out HL.out hm h1 h8).mono ?_
    rintro e w4 ⟨rfl, hb4⟩
    have hb14 : Below w.heap.size w w4 := hb13.trans (hb4.mono hb13.size)
    have hx4 := Lib.hid ((HX.out.below hb14 (Nat.le_refl _)).more hb14.size)
    have hy4 := Lib.hid ((HX2.out.below hb14 (Nat.le_refl _)).more hb14.size)
    obtain ⟨a, ha⟩ : ∃ a, lruG m [] refs = a := ⟨_, rfl⟩
    obtain ⟨b, hb⟩ : ∃ b, fifoG m [] refs = b := ⟨_, rfl⟩
    rw [ha] at hka ⊢
    rw [hb] at hkb ⊢
    clear ha hb
    go_wp2_with fail
    refine (Y.ok A len cap m refs A2 len2 cap2 out _ hx4.out HL.out hy4.out HL2.out HM2.out hm h1 h8).mono ?_
    rintro e w5 ⟨rfl, hb5⟩
    have hb15 : Below w.heap.size w w5 := hb14.trans (hb5.mono hb14.size)
    cases hp : playG m [] out 0 refs with
    | none =>
      rw [missR]
      clear hp
      go_wp2
      go_ret
      exact ⟨ret_bool (by simp), hb15⟩
    | some q =>
      rw [missR]
      have hkq := best_play HH1.out HK.out hp
      clear hp
      go_wp2
      go_ret
      exact ⟨ret_bool (by simp), hb15⟩

set_option maxRecDepth 100000 in
theorem lawHoldBelady_lifted (os : Os) (started : os.Started) (H : Type) (enc : TypeId × Value → H) :
    ReturnsInHanded {} Try.checked os 7 .any (Rows.holdBeladySpec.pre6 enc Try.prog Try.f7 Rows.holdBeladyRow.domain false) (Rows.holdBeladySpec.post enc Try.prog Try.f7 false true false false) := by
  refine returnsInHanded_of_change_sized (C := Try.checked) Try.own started (by kernel_rfl) Try.func7
    (ChangeSpec.witness6 (enc := enc) (C := Try.checked) false ⟨#[], #[.slice none 0 0, .int .i64 0, .slice none 0 0], []⟩ 8 (by kernel_rfl) (by kernel_rfl) (by kernel_rfl) (by kernel_rfl)) ?_
  intro W base args ds gs before hval0 hW hcnd hsz _
  have hval : ∀ (j : Nat) t v, Try.f7.params[j]? = some t → args[j]? = some v → Value.okWide Try.prog W .any base t v := hval0
  have hW' := hW
  obtain ⟨p, q, hA0, hV, rfl, hfz, hnd⟩ := hW
  have hA : DataW.TrodAll enc Try.prog W 0 (fun _ => true) true Try.f7.params.toList args.toList ds p := hA0
  obtain ⟨hgs, _⟩ := trodVars_none hV
  rw [Try.params7] at hA hval
  obtain ⟨v0, vs0, d0, ds0, p0, q0, hargs, rfl, rfl, h0, r0⟩ := trodAll_cons hA
  obtain ⟨v1, vs1, d1, ds1, p1, q1, rfl, rfl, rfl, h1, r1⟩ := trodAll_cons r0
  obtain ⟨v2, vs2, d2, ds2, p2, q2, rfl, rfl, rfl, h2, r2⟩ := trodAll_cons r1
  obtain ⟨rfl, rfl, rfl⟩ := trodAll_nil r2
  have hargs2 : args = #[v0, v1, v2] := Array.toList_inj.1 hargs
  subst hargs2
  obtain ⟨A0, c0, l0, rfl, lc0, cm0, x0, r0⟩ := open_intsA (hval 0 22 v0 rfl rfl) h0
  have b0 := len_reach Try.underlying22 (hval 0 22 _ rfl rfl) h0 hsz (j := 0) (by rw [Try.params7]; rfl) rfl
  rw [show Try.prog.bytesOf (Try.prog.elem 22) = 8 from by kernel_rfl] at b0
  obtain ⟨a1, rfl, _, _, w1⟩ := open_int Try.underlying3 (hval 1 3 v1 rfl rfl) h1
  obtain ⟨A2, c2, l2, rfl, lc2, cm2, x2, r2⟩ := open_intsA (hval 2 22 v2 rfl rfl) h2
  have b2 := len_reach Try.underlying22 (hval 2 22 _ rfl rfl) h2 hsz (j := 2) (by rw [Try.params7]; rfl) rfl
  rw [show Try.prog.bytesOf (Try.prog.elem 22) = 8 from by kernel_rfl] at b2
  refine (lawHoldBelady_any minIs lruIs fifoIs playIs A0 c0 l0 a1 A2 c2 l2 _ x0 lc0 cm0 x2 lc2 cm2).mono fun e W' ⟨he, hb⟩ => ?_
  subst he
  exact ⟨_, rfl, law_post Try.laidOut rfl (by kernel_rfl) Try.underlying4 ⟨rfl, rfl, rfl⟩ (by kernel_rfl) hW' hb⟩

theorem holdBelady_holds : Rows.HoldBeladySaid :=
  OpenClaim.holds_of_wide 7 Try.f7 rfl rfl rfl rfl rfl rfl rfl ⟨rfl, rfl, rfl, rfl, rfl⟩ rfl rfl rfl rfl rfl (by kernel_rfl) Try.func7 (show joinedFacts Try.prog 7 Try.f7 Rows.holdBeladySpec Rows.holdBeladyRow = true from (by unfold joinedFacts; (repeat' (with_reducible refine and_both ?_ ?_)) <;> first | (with_reducible exact may_enter) | ((with_reducible refine make_ok ?_); rfl) | ((with_reducible refine lifts_ok ?_); rfl) | kernel_rfl))
    (of_decide_eq_true (by kernel_rfl)) (by unfold Func.isWrapper; rw [if_neg (of_decide_eq_false (by kernel_rfl))]; exact ⟨rfl, rfl⟩)
    (fun os started H enc _ => lawHoldBelady_lifted os started H enc)

end Go.Proofs.Ytjnmohphinldkaa
