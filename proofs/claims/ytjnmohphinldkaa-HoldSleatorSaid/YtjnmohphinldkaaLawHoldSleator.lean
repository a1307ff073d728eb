/-
  For any things asked for, any places and no more others: hold.Lru's misses, less those others, are within the stated factor of hold.Min's with those others (P1; Sleator and Tarjan).
-/
import Derived.Test.YtjnmohphinldkaaLawHold
import Derived.Test.YtjnmohphinldkaaHold
namespace Go.Proofs.Ytjnmohphinldkaa
open Go.RowKit Go.ChangeShapes Go.WideShapes Go.ChangeAt Go.Deep
set_option linter.unusedSimpArgs false
set_option linter.unusedVariables false
set_option maxRecDepth 100000

theorem mul_small {x y : Int} (h1 : 1 ≤ x) (h2 : x ≤ 8) (h3 : -8 ≤ y) (h4 : y ≤ 20) : -64 ≤ x * y ∧ x * y ≤ 160 := by
  have e1 : x * y ≤ x * 20 := Int.mul_le_mul_of_nonneg_left h4 (by omega)
  have e2 : x * (-8) ≤ x * y := Int.mul_le_mul_of_nonneg_left h3 (by omega)
  omega

set_option maxHeartbeats 4000000 in
theorem lawHoldSleator_any (M : MinIs) (L : LruIs) (A : Option Addr) (cap : Nat) (refs : List Int) (p o : Int) (w : World) (hx : RdI w w.heap.size A refs) (hlc : refs.length ≤ cap) (hcm : cap ≤ maxLen) :
    Calls Try.prog 9 #[.slice A refs.length cap, .int .i64 p, .int .i64 o] w fun e w' => e = .returned (.bool true) ∧ Below w.heap.size w w' := by
  obtain ⟨len, hl⟩ : ∃ len, refs.length = len := ⟨_, rfl⟩
  have HL := Lib.hid hl
  rw [hl] at hlc ⊢
  have HLC := Lib.hid hlc
  have HCM := Lib.hid hcm
  have HX := Lib.hid hx
  have hmx : len ≤ maxLen := by omega
  have HB0 := Lib.hid (L.bad A len cap 0 w hmx (.inr (.inl (by omega))))
  clear hl hx
  rcases hbad_or len p with hb | ⟨hm, m, rfl, h1, h8⟩
  · have HB := Lib.hid hb
    clear hb
    go_enter Try.func9, Try.ntmps9
    go_wp2_with fail
    refine (held_bad A len cap p _ hmx HB.out).mono ?_
    rintro e w2 ⟨rfl, rfl⟩
    go_wp2_with fail
    refine HB0.out.mono ?_
    rintro e w1 ⟨rfl, hb1⟩
    go_wp2
    go_ret
    exact ⟨rfl, hb1⟩
  · rcases hbad_or len o with hb | ⟨_, q, rfl, g1, g8⟩
    · have HB := Lib.hid hb
      clear hb
      go_enter Try.func9, Try.ntmps9
      go_wp2_with fail
      refine (held_ok A len cap m _ hm h1 h8).mono ?_
      rintro e w2 ⟨rfl, rfl⟩
      go_wp2_with fail
      refine (held_bad A len cap o _ hmx HB.out).mono ?_
      rintro e w2 ⟨rfl, rfl⟩
      go_wp2_with fail
      refine HB0.out.mono ?_
      rintro e w1 ⟨rfl, hb1⟩
      go_wp2
      go_ret
      exact ⟨rfl, hb1⟩
    · by_cases hqm : q ≤ m
      · have HH1 := Lib.hid h1
        have hal := lru_len h1 refs
        rw [HL.out] at hal
        have HSL : Hid (∀ k, Best q refs k → ((m : Int) - q + 1) * ((lruG m [] refs : Nat) - (q : Int)) ≤ (m : Int) * (k : Int)) := Lib.hid fun k hk => sleator g1 hqm hk
        have HKL : Hid (∀ k, Best q refs k → k ≤ len) := Lib.hid fun k hk => by rw [← HL.out]; exact best_len hk
        go_enter Try.func9, Try.ntmps9
        go_wp2_with fail
        refine (held_ok A len cap m _ hm h1 h8).mono ?_
        rintro e w2 ⟨rfl, rfl⟩
        go_wp2_with fail
        refine (held_ok A len cap q _ hm g1 g8).mono ?_
        rintro e w2 ⟨rfl, rfl⟩
        go_wp2_with fail
        refine (L.ok A len cap m refs _ HX.out HL.out HLC.out HCM.out hm h1 h8).mono ?_
        rintro e w1 ⟨rfl, hb1⟩
        have hx1 := Lib.hid ((HX.out.below hb1 (Nat.le_refl _)).more hb1.size)
        obtain ⟨a, ha⟩ : ∃ a, lruG m [] refs = a := ⟨_, rfl⟩
        rw [ha] at hal HSL ⊢
        clear ha
        go_wp2_with fail
        refine (M.ok A len cap q refs _ hx1.out HL.out HLC.out HCM.out hm g1 g8).mono ?_
        rintro e w3 ⟨⟨k, hk, rfl⟩, hb3⟩
        have hb13 : Below w.heap.size w w3 := hb1.trans (hb3.mono hb1.size)
        have hkl := HKL.out k hk
        have hsl := HSL.out k hk
        have hw1 : IntKind.i64.wrap (((m : Int) - (q : Int) + 1) * ((a : Int) - (q : Int))) = ((m : Int) - (q : Int) + 1) * ((a : Int) - (q : Int)) := by
          have := mul_small (x := (m : Int) - (q : Int) + 1) (y := (a : Int) - (q : Int)) (by omega) (by omega) (by omega) (by omega)
          exact IntWalk.i64_in _ ⟨by omega, by omega⟩
        have hw2 : IntKind.i64.wrap ((m : Int) * (k : Int)) = (m : Int) * (k : Int) := by
          have := mul_small (x := (m : Int)) (y := (k : Int)) (by omega) (by omega) (by omega) (by omega)
          exact IntWalk.i64_in _ ⟨by omega, by omega⟩
        clear hk
        go_wp2
        go_ret
        exact ⟨ret_bool (by simp), hb13⟩
      · go_enter Try.func9, Try.ntmps9
        go_wp2_with fail
        refine (held_ok A len cap m _ hm h1 h8).mono ?_
        rintro e w2 ⟨rfl, rfl⟩
        go_wp2_with fail
        refine (held_ok A len cap q _ hm g1 g8).mono ?_
        rintro e w2 ⟨rfl, rfl⟩
        go_wp2_with fail
        refine HB0.out.mono ?_
        rintro e w1 ⟨rfl, hb1⟩
        go_wp2
        go_ret
        exact ⟨rfl, hb1⟩

set_option maxRecDepth 100000 in
theorem lawHoldSleator_lifted (os : Os) (started : os.Started) (H : Type) (enc : TypeId × Value → H) :
    ReturnsInHanded {} Try.checked os 9 .any (Rows.holdSleatorSpec.pre6 enc Try.prog Try.f9 Rows.holdSleatorRow.domain false) (Rows.holdSleatorSpec.post enc Try.prog Try.f9 false true false false) := by
  refine returnsInHanded_of_change_sized (C := Try.checked) Try.own started (by kernel_rfl) Try.func9
    (ChangeSpec.witness6 (enc := enc) (C := Try.checked) false ⟨#[], #[.slice none 0 0, .int .i64 0, .int .i64 0], []⟩ 8 (by kernel_rfl) (by kernel_rfl) (by kernel_rfl) (by kernel_rfl)) ?_
  intro W base args ds gs before hval0 hW hcnd hsz _
  have hval : ∀ (j : Nat) t v, Try.f9.params[j]? = some t → args[j]? = some v → Value.okWide Try.prog W .any base t v := hval0
  have hW' := hW
  obtain ⟨p, q, hA0, hV, rfl, hfz, hnd⟩ := hW
  have hA : DataW.TrodAll enc Try.prog W 0 (fun _ => true) true Try.f9.params.toList args.toList ds p := hA0
  obtain ⟨hgs, _⟩ := trodVars_none hV
  rw [Try.params9] at hA hval
  obtain ⟨v0, vs0, d0, ds0, p0, q0, hargs, rfl, rfl, h0, r0⟩ := trodAll_cons hA
  obtain ⟨v1, vs1, d1, ds1, p1, q1, rfl, rfl, rfl, h1, r1⟩ := trodAll_cons r0
  obtain ⟨v2, vs2, d2, ds2, p2, q2, rfl, rfl, rfl, h2, r2⟩ := trodAll_cons r1
  obtain ⟨rfl, rfl, rfl⟩ := trodAll_nil r2
  have hargs2 : args = #[v0, v1, v2] := Array.toList_inj.1 hargs
  subst hargs2
  obtain ⟨A0, c0, l0, rfl, lc0, cm0, x0, r0⟩ := open_intsA (hval 0 22 v0 rfl rfl) h0
  have b0 := len_reach Try.underlying22 (hval 0 22 _ rfl rfl) h0 hsz (j := 0) (by rw [Try.params9]; rfl) rfl
  rw [show Try.prog.bytesOf (Try.prog.elem 22) = 8 from by kernel_rfl] at b0
  obtain ⟨a1, rfl, _, _, w1⟩ := open_int Try.underlying3 (hval 1 3 v1 rfl rfl) h1
  obtain ⟨a2, rfl, _, _, w2⟩ := open_int Try.underlying3 (hval 2 3 v2 rfl rfl) h2
  refine (lawHoldSleator_any minIs lruIs A0 c0 l0 a1 a2 _ x0 lc0 cm0).mono fun e W' ⟨he, hb⟩ => ?_
  subst he
  exact ⟨_, rfl, law_post Try.laidOut rfl (by kernel_rfl) Try.underlying4 ⟨rfl, rfl, rfl⟩ (by kernel_rfl) hW' hb⟩

theorem holdSleator_holds : Rows.HoldSleatorSaid :=
  OpenClaim.holds_of_wide 9 Try.f9 rfl rfl rfl rfl rfl rfl rfl ⟨rfl, rfl, rfl, rfl, rfl⟩ rfl rfl rfl rfl rfl (by kernel_rfl) Try.func9 (show joinedFacts Try.prog 9 Try.f9 Rows.holdSleatorSpec Rows.holdSleatorRow = true from (by unfold joinedFacts; (repeat' (with_reducible refine and_both ?_ ?_)) <;> first | (with_reducible exact may_enter) | ((with_reducible refine make_ok ?_); rfl) | ((with_reducible refine lifts_ok ?_); rfl) | kernel_rfl))
    (of_decide_eq_true (by kernel_rfl)) (by unfold Func.isWrapper; rw [if_neg (of_decide_eq_false (by kernel_rfl))]; exact ⟨rfl, rfl⟩)
    (fun os started H enc _ => lawHoldSleator_lifted os started H enc)

end Go.Proofs.Ytjnmohphinldkaa
