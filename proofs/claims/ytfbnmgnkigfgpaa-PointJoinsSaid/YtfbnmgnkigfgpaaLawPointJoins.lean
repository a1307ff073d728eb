/-
  For any number of variables and any pointer assignments, point.Joined returns the sets that unification asks for, or the first error (V2).
-/
import Derived.Test.YtfbnmgnkigfgpaaLawPoint
import Derived.Test.YtfbnmgnkigfgpaaPtJd
import Derived.Test.YtfbnmgnkigfgpaaPtJit
namespace Go.Proofs.Ytfbnmgnkigfgpaa
open Go.RowKit Go.ChangeShapes Go.WideShapes Go.ChangeAt Go.Deep
set_option linter.unusedSimpArgs false
set_option linter.unusedVariables false
set_option maxRecDepth 100000

set_option maxHeartbeats 4000000 in
theorem lawPointJoins_any (n : Int) (A : Option Addr) (cap : Nat) (l : List Pz) (w : World) (hx : RdPz w w.heap.size A l) (hm : l.length ≤ maxLen) :
    Calls Try.prog 4 #[.int .i64 n, .slice A l.length cap] w fun e w' => e = .returned (.bool true) ∧ Below w.heap.size w w' := by
  obtain ⟨len, hlen⟩ : ∃ len, l.length = len := ⟨_, rfl⟩
  have HLI := Lib.hid hlen
  rw [hlen] at hm ⊢
  have HM := Lib.hid hm
  by_cases hc : ckPz n l = 0
  · have HC := Lib.hid hc
    obtain ⟨k, q, rfl, k1, k8, rfl, q12, hq⟩ := ckPz_ok hc
    have hql : q.length = len := by rw [← qI_len]; exact hlen
    rw [hql] at q12
    have HR := Lib.hid (joined_any k A len cap q w hx hql hq k1 k8 q12)
    have HP := Lib.hid (fun (Z : World) (h1 : RdPz Z Z.heap.size A (qI q)) => refJoined_any k A len cap q Z h1 hql hq k1 k8 q12)
    have HK : Hid (k ≤ maxLen) := Lib.hid (by unfold maxLen; omega)
    clear hc hlen hm hql hq q12
    go_enter Try.func4, Try.ntmps4
    go_wp2_with fail
    refine HR.out.mono ?_
    rintro e w1 ⟨S, A3, c3, hT3, rfl, hr3, hb1⟩
    have hx1 := (hx.below hb1 (Nat.le_refl _)).more hb1.size
    have HT3 := Lib.hid hT3
    clear hT3
    go_wp2_with fail
    refine (pointCheck_nil k A len cap (qI q) _ hx1 HLI.out HM.out).mono ?_
    rintro e w2 ⟨rfl, hb2⟩
    rw [HC.out]
    have hx2 := (hx1.below hb2 (Nat.le_refl _)).more hb2.size
    have hr3b := (hr3.below hb2 (Nat.le_refl _)).more hb2.size
    go_wp2_with fail
    refine (HP.out _ hx2).mono ?_
    rintro e w3 ⟨S', A4, c4, hT4, rfl, hr4, hb3⟩
    have hSS : S' = S := hT4.one HT3.out fun _ _ _ => Iff.rfl
    subst hSS
    have HT4 := Lib.hid hT4
    clear hT4
    have hr3c := (hr3b.below hb3 (Nat.le_refl _)).more hb3.size
    go_wp2_with fail
    refine (wordsQ_same A3 A4 k c3 c4 _ _ hr3c hr4 HT4.out.len HK.out).mono ?_
    rintro e w4 ⟨rfl, hb4⟩
    go_wp2
    go_ret
    exact ⟨ret_bool (by simp), hb1.trans ((hb2.trans ((hb3.trans (hb4.mono hb3.size)).mono hb2.size)).mono hb1.size)⟩
  · have HR := Lib.hid (joined_bad n A len cap l w hx hlen hm hc)
    obtain ⟨x, hx0⟩ : ∃ x, ckPz n l = x := ⟨_, rfl⟩
    have HX := Lib.hid hx0
    have hne : (x != 0) = true := by rw [← hx0]; simp [hc]
    have hxx : (x == x) = true := by simp
    rw [hx0] at HR
    clear hc hlen hx0 hm
    go_enter Try.func4, Try.ntmps4
    go_wp2_with fail
    refine HR.out.mono ?_
    rintro e w1 ⟨rfl, hb1⟩
    have hx1 := (hx.below hb1 (Nat.le_refl _)).more hb1.size
    go_wp2_with fail
    refine (pointCheck_nil n A len cap l _ hx1 HLI.out HM.out).mono ?_
    rintro e w2 ⟨rfl, hb2⟩
    rw [HX.out]
    go_wp2
    go_ret
    exact ⟨ret_bool (by simp), hb1.trans (hb2.mono hb1.size)⟩

set_option maxRecDepth 100000 in
theorem lawPointJoins_lifted (os : Os) (started : os.Started) (H : Type) (enc : TypeId × Value → H) :
    ReturnsInHanded {} Try.checked os 4 .any (Rows.pointJoinsSpec.pre6 enc Try.prog Try.f4 Rows.pointJoinsRow.domain false) (Rows.pointJoinsSpec.post enc Try.prog Try.f4 false true false false) := by
  refine returnsInHanded_of_change_sized (C := Try.checked) Try.own started (by kernel_rfl) Try.func4
    (ChangeSpec.witness6 (enc := enc) (C := Try.checked) false ⟨#[], #[.int .i64 0, .slice none 0 0], []⟩ 8 (by kernel_rfl) (by kernel_rfl) (by kernel_rfl) (by kernel_rfl)) ?_
  intro W base args ds gs before hval0 hW hcnd hsz _
  have hval : ∀ (j : Nat) t v, Try.f4.params[j]? = some t → args[j]? = some v → Value.okWide Try.prog W .any base t v := hval0
  have hW' := hW
  obtain ⟨p, q, hA0, hV, rfl, hfz, hnd⟩ := hW
  have hA : DataW.TrodAll enc Try.prog W 0 (fun _ => true) true Try.f4.params.toList args.toList ds p := hA0
  obtain ⟨hgs, _⟩ := trodVars_none hV
  rw [Try.params4] at hA hval
  obtain ⟨v0, vs0, d0, ds0, p0, q0, hargs, rfl, rfl, h0, r0⟩ := trodAll_cons hA
  obtain ⟨v1, vs1, d1, ds1, p1, q1, rfl, rfl, rfl, h1, r1⟩ := trodAll_cons r0
  obtain ⟨rfl, rfl, rfl⟩ := trodAll_nil r1
  have hargs2 : args = #[v0, v1] := Array.toList_inj.1 hargs
  subst hargs2
  obtain ⟨a0, rfl, _, _, w0⟩ := open_int Try.underlying3 (hval 0 3 v0 rfl rfl) h0
  obtain ⟨A1, c1, l1, rfl, lc1, cm1, x1, r1⟩ := open_pointsA (hval 1 22 v1 rfl rfl) h1
  have b1 := len_reach Try.underlying22 (hval 1 22 _ rfl rfl) h1 hsz (j := 1) (by rw [Try.params4]; rfl) rfl
  rw [show Try.prog.bytesOf (Try.prog.elem 22) = 24 from by kernel_rfl] at b1
  refine (lawPointJoins_any a0 A1 c1 l1 _ x1 (by unfold maxLen; omega)).mono fun e W' ⟨he, hb⟩ => ?_
  subst he
  exact ⟨_, rfl, law_post Try.laidOut rfl (by kernel_rfl) Try.underlying4 ⟨rfl, rfl, rfl⟩ (by kernel_rfl) hW' hb⟩

theorem pointJoins_holds : Rows.PointJoinsSaid :=
  OpenClaim.holds_of_wide 4 Try.f4 rfl rfl rfl rfl rfl rfl rfl ⟨rfl, rfl, rfl, rfl, rfl⟩ rfl rfl rfl rfl rfl (by kernel_rfl) Try.func4 (show joinedFacts Try.prog 4 Try.f4 Rows.pointJoinsSpec Rows.pointJoinsRow = true from (by unfold joinedFacts; (repeat' (with_reducible refine and_both ?_ ?_)) <;> first | (with_reducible exact may_enter) | ((with_reducible refine make_ok ?_); rfl) | ((with_reducible refine lifts_ok ?_); rfl) | kernel_rfl))
    (of_decide_eq_true (by kernel_rfl)) (by unfold Func.isWrapper; rw [if_neg (of_decide_eq_false (by kernel_rfl))]; exact ⟨rfl, rfl⟩)
    (fun os started H enc _ => lawPointJoins_lifted os started H enc)

end Go.Proofs.Ytfbnmgnkigfgpaa
