/-
  For any things asked for and any places, with one more place hold.Lru and hold.Min tell no more misses (P1; Mattson, Gecsei, Slutz and Traiger).
-/
import Derived.Test.YtjnmohphinldkaaLawHold
import Derived.Test.YtjnmohphinldkaaHold
namespace Go.Proofs.Ytjnmohphinldkaa
open Go.RowKit Go.ChangeShapes Go.WideShapes Go.ChangeAt Go.Deep
set_option linter.unusedSimpArgs false
set_option linter.unusedVariables false
set_option maxRecDepth 100000

set_option maxHeartbeats 4000000 in
theorem lawHoldMore_any (M : MinIs) (L : LruIs) (A : Option Addr) (cap : Nat) (refs : List Int) (p : Int) (w : World) (hx : RdI w w.heap.size A refs) (hlc : refs.length ≤ cap) (hcm : cap ≤ maxLen) :
    Calls Try.prog 8 #[.slice A refs.length cap, .int .i64 p] w fun e w' => e = .returned (.bool true) ∧ Below w.heap.size w w' := by
  obtain ⟨len, hl⟩ : ∃ len, refs.length = len := ⟨_, rfl⟩
  have HL := Lib.hid hl
  rw [hl] at hlc ⊢
  have HLC := Lib.hid hlc
  have HCM := Lib.hid hcm
  have HX := Lib.hid hx
  clear hl hx
  rcases hbad_or len p with hb | ⟨hm, m, rfl, h1, h8⟩
  · have HB := Lib.hid hb
    have hmx : len ≤ maxLen := by omega
    clear hb
    go_enter Try.func8, Try.ntmps8
    go_wp2_with fail
    refine (held_bad A len cap p _ hmx HB.out).mono ?_
    rintro e w2 ⟨rfl, rfl⟩
    go_wp2_with fail
    refine (L.bad A len cap p _ hmx HB.out).mono ?_
    rintro e w1 ⟨rfl, hb1⟩
    go_wp2
    go_ret
    exact ⟨rfl, hb1⟩
  · have HH1 := Lib.hid h1
    have hs0 : Below w.heap.size w w := Below.refl _ _
    go_enter Try.func8, Try.ntmps8
    go_wp2_with fail
    refine (held_ok A len cap m _ hm h1 h8).mono ?_
    rintro e w2 ⟨rfl, rfl⟩
    go_wp2_with fail
    refine (L.ok A len cap m refs _ HX.out HL.out HLC.out HCM.out hm h1 h8).mono ?_
    rintro e w1 ⟨rfl, hb1⟩
    have hx1 := Lib.hid ((HX.out.below hb1 (Nat.le_refl _)).more hb1.size)
    have HML := Lib.hid (lru_more h1 refs [] [] List.nodup_nil (.inl ⟨rfl, by simp⟩))
    obtain ⟨a, ha⟩ : ∃ a, lruG m [] refs = a := ⟨_, rfl⟩
    rw [ha] at HML ⊢
    clear ha
    go_wp2_with fail
    refine (M.ok A len cap m refs _ hx1.out HL.out HLC.out HCM.out hm h1 h8).mono ?_
    rintro e w3 ⟨⟨k, hk, rfl⟩, hb3⟩
    have hb13 : Below w.heap.size w w3 := hb1.trans (hb3.mono hb1.size)
    have HK := Lib.hid hk
    clear hk
    by_cases h88 : m = 8
    · have hbe : ((m : Int) == 8) = true := by simp; omega
      go_wp2
      go_ret
      exact ⟨rfl, hb13⟩
    · have hbe : ((m : Int) == 8) = false := by simp; omega
      have hx3 := Lib.hid ((HX.out.below hb13 (Nat.le_refl _)).more hb13.size)
      have HL2 := Lib.hid (L.ok A len cap (m + 1) refs _ hx3.out HL.out HLC.out HCM.out hm (by omega) (by omega))
      have hcast : ((m + 1 : Nat) : Int) = (m : Int) + 1 := by omega
      rw [hcast] at HL2
      rw [show ([] : List Int) ++ [] = [] from rfl] at HML
      have hba := HML.out
      obtain ⟨b, hb⟩ : ∃ b, lruG (m + 1) [] refs = b := ⟨_, rfl⟩
      rw [hb] at HL2 hba
      clear hb
      go_wp2_with fail
      refine HL2.out.mono ?_
      rintro e w4 ⟨rfl, hb4⟩
      have hb14 : Below w.heap.size w w4 := hb13.trans (hb4.mono hb13.size)
      have hx4 := Lib.hid ((HX.out.below hb14 (Nat.le_refl _)).more hb14.size)
      have HM2 := Lib.hid (M.ok A len cap (m + 1) refs _ hx4.out HL.out HLC.out HCM.out hm (by omega) (by omega))
      rw [hcast] at HM2
      go_wp2_with fail
      refine HM2.out.mono ?_
      rintro e w5 ⟨⟨k2, hk2, rfl⟩, hb5⟩
      have hb15 : Below w.heap.size w w5 := hb14.trans (hb5.mono hb14.size)
      have hkk := HK.out.more hk2
      clear hk2 hcast
      go_wp2
      go_ret
      exact ⟨ret_bool (by simp), hb15⟩

set_option maxRecDepth 100000 in
theorem lawHoldMore_lifted (os : Os) (started : os.Started) (H : Type) (enc : TypeId × Value → H) :
    ReturnsInHanded {} Try.checked os 8 .any (Rows.holdMoreSpec.pre6 enc Try.prog Try.f8 Rows.holdMoreRow.domain false) (Rows.holdMoreSpec.post enc Try.prog Try.f8 false true false false) := by
  refine returnsInHanded_of_change_sized (C := Try.checked) Try.own started (by kernel_rfl) Try.func8
    (ChangeSpec.witness6 (enc := enc) (C := Try.checked) false ⟨#[], #[.slice none 0 0, .int .i64 0], []⟩ 8 (by kernel_rfl) (by kernel_rfl) (by kernel_rfl) (by kernel_rfl)) ?_
  intro W base args ds gs before hval0 hW hcnd hsz _
  have hval : ∀ (j : Nat) t v, Try.f8.params[j]? = some t → args[j]? = some v → Value.okWide Try.prog W .any base t v := hval0
  have hW' := hW
  obtain ⟨p, q, hA0, hV, rfl, hfz, hnd⟩ := hW
  have hA : DataW.TrodAll enc Try.prog W 0 (fun _ => true) true Try.f8.params.toList args.toList ds p := hA0
  obtain ⟨hgs, _⟩ := trodVars_none hV
  rw [Try.params8] at hA hval
  obtain ⟨v0, vs0, d0, ds0, p0, q0, hargs, rfl, rfl, h0, r0⟩ := trodAll_cons hA
  obtain ⟨v1, vs1, d1, ds1, p1, q1, rfl, rfl, rfl, h1, r1⟩ := trodAll_cons r0
  obtain ⟨rfl, rfl, rfl⟩ := trodAll_nil r1
  have hargs2 : args = #[v0, v1] := Array.toList_inj.1 hargs
  subst hargs2
  obtain ⟨A0, c0, l0, rfl, lc0, cm0, x0, r0⟩ := open_intsA (hval 0 22 v0 rfl rfl) h0
  have b0 := len_reach Try.underlying22 (hval 0 22 _ rfl rfl) h0 hsz (j := 0) (by rw [Try.params8]; rfl) rfl
  rw [show Try.prog.bytesOf (Try.prog.elem 22) = 8 from by kernel_rfl] at b0
  obtain ⟨a1, rfl, _, _, w1⟩ := open_int Try.underlying3 (hval 1 3 v1 rfl rfl) h1
  refine (lawHoldMore_any minIs lruIs A0 c0 l0 a1 _ x0 lc0 cm0).mono fun e W' ⟨he, hb⟩ => ?_
  subst he
  exact ⟨_, rfl, law_post Try.laidOut rfl (by kernel_rfl) Try.underlying4 ⟨rfl, rfl, rfl⟩ (by kernel_rfl) hW' hb⟩

theorem holdMore_holds : Rows.HoldMoreSaid :=
  OpenClaim.holds_of_wide 8 Try.f8 rfl rfl rfl rfl rfl rfl rfl ⟨rfl, rfl, rfl, rfl, rfl⟩ rfl rfl rfl rfl rfl (by kernel_rfl) Try.func8 (show joinedFacts Try.prog 8 Try.f8 Rows.holdMoreSpec Rows.holdMoreRow = true from (by unfold joinedFacts; (repeat' (with_reducible refine and_both ?_ ?_)) <;> first | (with_reducible exact may_enter) | ((with_reducible refine make_ok ?_); rfl) | ((with_reducible refine lifts_ok ?_); rfl) | kernel_rfl))
    (of_decide_eq_true (by kernel_rfl)) (by unfold Func.isWrapper; rw [if_neg (of_decide_eq_false (by kernel_rfl))]; exact ⟨rfl, rfl⟩)
    (fun os started H enc _ => lawHoldMore_lifted os started H enc)

end Go.Proofs.Ytjnmohphinldkaa
