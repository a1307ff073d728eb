/-
  stack.Deep returns the greatest height that C1 gives, or the first error, for all arguments: codemasonlaw.StackDeeps returns true and leaves its arguments alone. No condition.
-/
import Derived.Test.YtppnckiedcbleaaLawStack
namespace Go.Proofs.Ytppnckiedcbleaa
open Go.RowKit Go.ChangeShapes Go.WideShapes Go.ChangeAt Go.Deep
set_option linter.unusedSimpArgs false
set_option linter.unusedVariables false
set_option maxRecDepth 100000

set_option maxHeartbeats 4000000 in
theorem lawStackDeeps_any (A : Option Addr) (cap : Nat) (c : List So) (w : World) (hx : RdO w w.heap.size A c) :
    Calls Try.prog 18 #[.slice A c.length cap] w fun e w' => e = .returned (.bool true) ∧ Below w.heap.size w w' := by
  generalize hl : c.length = len at *
  have HL := Lib.hid hl
  by_cases h : ckStack (-1) c = 0
  · have HC := Lib.hid h
    have e0 : deepR c = (dpF c 0 0 : Nat) := by unfold deepR; rw [if_pos h]
    have HE := Lib.hid e0
    have hcf : ckSoF (-1) 0 c = 0 ∧ c.length ≤ 40 := by unfold ckStack at h; split at h <;> omega
    have HF := Lib.hid hcf.1
    have h40 := hcf.2
    rw [hl] at h40
    clear h e0 hl hcf
    go_enter Try.func18, Try.ntmps18
    go_wp2_with fail
    refine (sdeep_any A len cap c _ hx HL.out).mono ?_
    rintro e w0 ⟨rfl, hb0⟩
    rw [HC.out]
    go_wp2_with fail
    refine (stackCheck_any (-1) A len cap c _ ((hx.below hb0 (Nat.le_refl _)).more hb0.size) HL.out).mono ?_
    rintro e w1 ⟨rfl, hb1⟩
    rw [HC.out]
    have hbw := hb0.trans (hb1.mono hb0.size)
    have hx1 := (hx.below hbw (Nat.le_refl _)).more hbw.size
    go_wp2_with fail
    go_loopw [6, 7, 28] (fun mv dv i wr => ∃ k d m : Nat, k ≤ len ∧ i = .int .i64 k ∧ dv = .int .i64 d ∧ mv = .int .i64 m ∧ d ≤ k ∧ m ≤ k ∧ Hid (DpAt (-1) c k d m) ∧ Below w1.heap.size w1 wr) (fun _ _ i _ => len - (intOf i).toNat)
    case atStart => exact ⟨0, 0, 0, Nat.zero_le _, rfl, rfl, rfl, Nat.le_refl _, Nat.le_refl _, Lib.hid (DpAt.start HF.out), Below.refl _ _⟩
    case round =>
      obtain ⟨k, d, m, hk, rfl, rfl, rfl, hdk, hmk, HR, hb⟩ := hrel
      have hsz := hb.size
      by_cases hlt : k < len
      · obtain ⟨ad, o, v, rfl, hbl, hd, hc0, hc1⟩ := (hx1.below hb (Nat.le_refl _)).at_ (k := k) (by rw [HL.out]; exact hlt)
        have HD := Lib.hid (drop_at hd)
        have hcase := ckSo_cases (HR.out.ck HD.out)
        clear hd
        by_cases ho : 3 ≤ o
        · have hd2 : 2 ≤ d := by omega
          have hcv : (d : Int) + 1 - 2 = ((d - 1 : Nat) : Int) := by omega
          have HN : Hid (d - 1 = nxD d o) := Lib.hid (by unfold nxD; rw [if_pos ho])
          by_cases hm : m < d - 1
          · have hm' : (m : Int) < ((d - 1 : Nat) : Int) := by omega
            have hmz : (m : Int) < (d : Int) - 1 := by omega
            go_wp2
            go_round
            case rel => exact ⟨k + 1, d - 1, d - 1, by omega, by go_num, by go_num, by go_num, by omega, by omega, Lib.hid (HR.out.step HD.out HN.out (by omega)), by go_grown⟩
            case measure => (simp [intOf]; omega)
          · have hm' : ¬ (m : Int) < ((d - 1 : Nat) : Int) := by omega
            have hmz : ¬ (m : Int) < (d : Int) - 1 := by omega
            go_wp2
            go_round
            case rel => exact ⟨k + 1, d - 1, m, by omega, by go_num, by go_num, rfl, by omega, by omega, Lib.hid (HR.out.step HD.out HN.out (by omega)), by go_grown⟩
            case measure => (simp [intOf]; omega)
        · have HN : Hid (d + 1 = nxD d o) := Lib.hid (by unfold nxD; rw [if_neg ho])
          by_cases hm : m < d + 1
          · have hm' : (m : Int) < (d : Int) + 1 := by omega
            go_wp2
            go_round
            case rel => exact ⟨k + 1, d + 1, d + 1, by omega, by go_num, by go_num, by go_num, by omega, by omega, Lib.hid (HR.out.step HD.out HN.out (by omega)), by go_grown⟩
            case measure => (simp [intOf]; omega)
          · have hm' : ¬ (m : Int) < (d : Int) + 1 := by omega
            go_wp2
            go_round
            case rel => exact ⟨k + 1, d + 1, m, by omega, by go_num, by go_num, rfl, by omega, by omega, Lib.hid (HR.out.step HD.out HN.out (by omega)), by go_grown⟩
            case measure => (simp [intOf]; omega)
      · have hkl : k = len := by omega
        subst hkl
        have hq := HR.out
        rw [← HL.out] at hq
        have HM := Lib.hid hq.done
        go_wp2
        go_ret
        exact ⟨ret_bool (by rw [HE.out, HM.out]; simp), hbw.trans (hb.mono hbw.size)⟩
  · have e0 : deepR c = 0 := by unfold deepR; rw [if_neg h]
    have HE := Lib.hid e0
    have e1 : (ckStack (-1) c != 0) = true := by simp [h]
    clear h e0 hl
    go_enter Try.func18, Try.ntmps18
    go_wp2_with fail
    refine (sdeep_any A len cap c _ hx HL.out).mono ?_
    rintro e w0 ⟨rfl, hb0⟩
    rw [HE.out]
    go_wp2_with fail
    refine (stackCheck_any (-1) A len cap c _ ((hx.below hb0 (Nat.le_refl _)).more hb0.size) HL.out).mono ?_
    rintro e w1 ⟨rfl, hb1⟩
    go_wp2_with fail
    go_ret
    exact ⟨ret_bool (by simp), hb0.trans (hb1.mono hb0.size)⟩

set_option maxRecDepth 100000 in
theorem lawStackDeeps_lifted (os : Os) (started : os.Started) (H : Type) (enc : TypeId × Value → H) :
    ReturnsInHanded {} Try.checked os 18 .any (Rows.stackDeepsSpec.pre6 enc Try.prog Try.f18 Rows.stackDeepsRow.domain false) (Rows.stackDeepsSpec.post enc Try.prog Try.f18 false true false false) := by
  refine returnsInHanded_of_change_sized (C := Try.checked) Try.own started (by kernel_rfl) Try.func18
    (ChangeSpec.witness6 (enc := enc) (C := Try.checked) false ⟨#[], #[.slice none 0 0], []⟩ 8 (by kernel_rfl) (by kernel_rfl) (by kernel_rfl) (by kernel_rfl)) ?_
  intro W base args ds gs before hval0 hW hcnd hsz _
  have hval : ∀ (j : Nat) t v, Try.f18.params[j]? = some t → args[j]? = some v → Value.okWide Try.prog W .any base t v := hval0
  have hW' := hW
  obtain ⟨p, q, hA0, hV, rfl, hfz, hnd⟩ := hW
  have hA : DataW.TrodAll enc Try.prog W 0 (fun _ => true) true Try.f18.params.toList args.toList ds p := hA0
  obtain ⟨hgs, _⟩ := trodVars_none hV
  rw [Try.params18] at hA hval
  obtain ⟨v0, vs0, d0, ds0, p0, q0, hargs, rfl, rfl, h0, r0⟩ := trodAll_cons hA
  obtain ⟨rfl, rfl, rfl⟩ := trodAll_nil r0
  have hargs2 : args = #[v0] := Array.toList_inj.1 hargs
  subst hargs2
  obtain ⟨A0, c0, l0, rfl, lc0, cm0, x0, r0⟩ := open_sopsA (hval 0 66 v0 rfl rfl) h0
  have b0 := len_reach Try.underlying66 (hval 0 66 _ rfl rfl) h0 hsz (j := 0) (by rw [Try.params18]; rfl) rfl
  rw [show Try.prog.bytesOf (Try.prog.elem 66) = 16 from by kernel_rfl] at b0
  refine (lawStackDeeps_any A0 c0 l0 W x0).mono fun e W' ⟨he, hb⟩ => ?_
  subst he
  exact ⟨_, rfl, law_post Try.laidOut rfl (by kernel_rfl) Try.underlying4 ⟨rfl, rfl, rfl⟩ (by kernel_rfl) hW' hb⟩

theorem stackDeeps_holds : Rows.StackDeepsSaid :=
  OpenClaim.holds_of_wide 18 Try.f18 rfl rfl rfl rfl rfl rfl rfl ⟨rfl, rfl, rfl, rfl, rfl⟩ rfl rfl rfl rfl rfl (by kernel_rfl) Try.func18 (show joinedFacts Try.prog 18 Try.f18 Rows.stackDeepsSpec Rows.stackDeepsRow = true from (by unfold joinedFacts; (repeat' (with_reducible refine and_both ?_ ?_)) <;> first | (with_reducible exact may_enter) | ((with_reducible refine make_ok ?_); rfl) | ((with_reducible refine lifts_ok ?_); rfl) | kernel_rfl))
    (of_decide_eq_true (by kernel_rfl)) (by unfold Func.isWrapper; rw [if_neg (of_decide_eq_false (by kernel_rfl))]; exact ⟨rfl, rfl⟩)
    (fun os started H enc _ => lawStackDeeps_lifted os started H enc)

end Go.Proofs.Ytppnckiedcbleaa
