/-
  For any things asked for and as many places as there are different ones, hold.Min, hold.Lru, hold.Fifo and hold.Play tell that each misses once (P1).
-/
import Derived.Test.YtjnmohphinldkaaLawHold
import Derived.Test.YtjnmohphinldkaaHold
import Derived.Test.YtjnmohphinldkaaHasC
import Derived.Test.YtjnmohphinldkaaPureNm
namespace Go.Proofs.Ytjnmohphinldkaa
open Go.RowKit Go.ChangeShapes Go.WideShapes Go.ChangeAt Go.Deep
set_option linter.unusedSimpArgs false
set_option linter.unusedVariables false
set_option maxRecDepth 100000

theorem best_new {p k : Nat} {rs : List Int} (h : Best p rs k) : (nmF [] rs).length ≤ k := by
  obtain ⟨d, hd⟩ := h.run
  have := hd.new
  rw [nmF_len]
  simp
  omega

theorem best_all {p k : Nat} {rs : List Int} (h : Best p rs k) (hn : (nmF [] rs).length ≤ p) : k = (nmF [] rs).length := by
  obtain ⟨d, hd⟩ := h.run
  rw [nmF_len] at hn ⊢
  simp at hn ⊢
  exact hd.all (by simp; exact hn)

theorem lru_all {p : Nat} {rs : List Int} (hp : 1 ≤ p) (hn : (nmF [] rs).length ≤ p) : lruG p [] rs = (nmF [] rs).length := by
  obtain ⟨d, hd⟩ := lru_run hp rs [] List.nodup_nil (by simp)
  rw [nmF_len] at hn ⊢
  simp at hn ⊢
  exact hd.all (by simp; exact hn)

theorem fifo_all {p : Nat} {rs : List Int} (hp : 1 ≤ p) (hn : (nmF [] rs).length ≤ p) : fifoG p [] rs = (nmF [] rs).length := by
  obtain ⟨d, hd⟩ := fifo_run hp rs [] List.nodup_nil (by simp)
  rw [nmF_len] at hn ⊢
  simp at hn ⊢
  exact hd.all (by simp; exact hn)

theorem play_all {p : Nat} {rs : List Int} (hn : (nmF [] rs).length ≤ p) : playG p [] [] 0 rs = some (nmF [] rs).length := by
  rw [nmF_len] at hn ⊢
  simp at hn ⊢
  have := playG_all rs [] [] 0 (p := p) (by simp; exact hn)
  rw [Nat.zero_add] at this
  exact this

set_option maxHeartbeats 8000000 in
theorem lawHoldAll_any (M : MinIs) (L : LruIs) (F : FifoIs) (Y : PlayIs) (A : Option Addr) (cap : Nat) (refs : List Int) (p : Int) (w : World) (hx : RdI w w.heap.size A refs) (hlc : refs.length ≤ cap) (hcm : cap ≤ maxLen) (hbig : refs.length * 8 ≤ 140737488355328) :
    Calls Try.prog 10 #[.slice A refs.length cap, .int .i64 p] w fun e w' => e = .returned (.bool true) ∧ Below w.heap.size w w' := by
  obtain ⟨len, hl⟩ : ∃ len, refs.length = len := ⟨_, rfl⟩
  have HL := Lib.hid hl
  rw [hl] at hlc hbig ⊢
  have HLC := Lib.hid hlc
  have HCM := Lib.hid hcm
  have HX := Lib.hid hx
  have hmx : len ≤ maxLen := by omega
  have HMX := Lib.hid hmx
  obtain ⟨NM, hNM⟩ : ∃ NM, nmF [] refs = NM := ⟨_, rfl⟩
  have HNM := Lib.hid hNM
  have hml : len ≤ 9223372036854775807 := by unfold maxLen at hmx; omega
  clear hl hx hNM hlc hcm
  go_enter Try.func10, Try.ntmps10
  go_wp2
  go_loopw [5, 18] (fun s i wr => ∃ (A1 : Option Addr) (c1 n k : Nat) (C : List Int), k ≤ len ∧ i = .int .i64 k ∧ s = .slice A1 n c1 ∧ n ≤ k ∧ Hid (C.length = n) ∧ Hid (nmF C (refs.drop k) = NM) ∧ wr.ownsRow w.heap.size 3 1 (.slice A1 n c1) n (iv C) ∧ Below w.heap.size w wr) (fun _ i _ => len - (intOf i).toNat)
  case atStart => exact ⟨none, 0, 0, 0, [], Nat.zero_le _, rfl, rfl, Nat.le_refl _, Lib.hid rfl, Lib.hid (by rw [List.drop_zero]; exact HNM.out), World.ownsRow_nil _ _ _ _, Below.refl _ _⟩
  case round =>
    obtain ⟨A1, c1, n, k, C, hk, rfl, rfl, hnk, HCL, HG, hown, hb⟩ := hrel
    have hsz := hb.size
    by_cases hlt : k < len
    · obtain ⟨ad, r, rfl, hbl, hd, hcell⟩ := (HX.out.below hb (Nat.le_refl _)).at_ (k := k) (by rw [HL.out]; exact hlt)
      have HDR := Lib.hid (drop_ref hd)
      have HH := Lib.hid (refHas_any A1 n c1 C r _ wr (own_rdI hown HCL.out) HCL.out (by unfold maxLen; omega))
      clear hd
      by_cases hr : r ∈ C
      · rw [decide_eq_true hr] at HH
        have HG2 : Hid (nmF C (refs.drop (k + 1)) = NM) := Lib.hid (by rw [← HG.out, HDR.out, nmF_in hr])
        clear hr
        go_wp2_with (go_at_call 18; (with_reducible refine HH.out.mono ?_); rintro e w1 ⟨rfl, rfl⟩)
        go_round
        case rel => exact ⟨A1, c1, n, k + 1, C, by omega, by go_num, rfl, by omega, HCL, HG2, hown, hb⟩
        case measure => (simp [intOf]; omega)
      · rw [decide_eq_false hr] at HH
        have HG2 : Hid (nmF (C ++ [r]) (refs.drop (k + 1)) = NM) := Lib.hid (by rw [← HG.out, HDR.out, nmF_new hr])
        have h63 : n + 1 ≤ maxLen := by unfold maxLen; omega
        have hbg : (n + 1) * 8 ≤ 140737488355328 := by omega
        clear hr
        go_wp2_with (first | (go_at_call 18; (with_reducible refine HH.out.mono ?_); rintro e w1 ⟨rfl, rfl⟩) | (at_builtin; refine wpList_app' rfl (.tmp 26) (.tmp 28) 22 rfl w.heap.size 3 1 8 int_app (iv C) rfl (own_below hown (by go_grown)) [.int .i64 r] rfl rfl (fun h => by cases h) (cells_at (by simp) _ _) (one_cell _) h63 hbg (by simp; omega) ?_; intro A5 c5 w5 hown5 hg5 hb5 hk5))
        go_round
        case rel => exact ⟨A5, c5, n + 1, k + 1, C ++ [r], by omega, by go_num, rfl, by omega, Lib.hid (by rw [List.length_append, HCL.out]; rfl), HG2, by rw [show iv (C ++ [r]) = iv C ++ [.int .i64 r] by simp [iv]]; exact hown5, hb.trans ((by go_grown : Below w.heap.size wr _).trans hb5)⟩
        case measure => (simp [intOf]; omega)
    · have hkn : k = len := by omega
      subst hkn
      have HCN : Hid (nmF [] refs = C) := Lib.hid (by rw [HNM.out, ← HG.out, ← HL.out, List.drop_length]; rfl)
      have hx0 := Lib.hid ((HX.out.below hb (Nat.le_refl _)).more hb.size)
      clear HG hown
      rcases hbad_or k p with hbd | ⟨hm, m, rfl, h1, h8⟩
      · have HB := Lib.hid hbd
        clear hbd
        go_wp2_with fail
        refine (M.bad A k cap p _ HMX.out HB.out).mono ?_
        rintro e w1 ⟨rfl, hb1⟩
        go_wp2_with fail
        refine (held_bad A k cap p _ HMX.out HB.out).mono ?_
        rintro e w2 ⟨rfl, rfl⟩
        go_wp2
        go_ret
        exact ⟨rfl, hb.trans (hb1.mono hsz)⟩
      · have HH1 := Lib.hid h1
        go_wp2_with fail
        refine (M.ok A k cap m refs _ hx0.out HL.out HLC.out HCM.out hm h1 h8).mono ?_
        rintro e w1 ⟨⟨q, hq, rfl⟩, hb1⟩
        have hb01 : Below w.heap.size w w1 := hb.trans (hb1.mono hsz)
        have hx1 := Lib.hid ((HX.out.below hb01 (Nat.le_refl _)).more hb01.size)
        have hnq : n ≤ q := by have := best_new hq; rw [HCN.out, HCL.out] at this; exact this
        have HQ : Hid (n ≤ m → q = n) := Lib.hid fun h => by have := best_all hq (by rw [HCN.out, HCL.out]; exact h); rw [HCN.out, HCL.out] at this; exact this
        have HLU : Hid (n ≤ m → lruG m [] refs = n) := Lib.hid fun h => by have := lru_all h1 (rs := refs) (by rw [HCN.out, HCL.out]; exact h); rw [HCN.out, HCL.out] at this; exact this
        have HFI : Hid (n ≤ m → fifoG m [] refs = n) := Lib.hid fun h => by have := fifo_all h1 (rs := refs) (by rw [HCN.out, HCL.out]; exact h); rw [HCN.out, HCL.out] at this; exact this
        have HPL : Hid (n ≤ m → playG m [] [] 0 refs = some n) := Lib.hid fun h => by have := play_all (rs := refs) (p := m) (by rw [HCN.out, HCL.out]; exact h); rw [HCN.out, HCL.out] at this; exact this
        clear hq
        go_wp2_with fail
        refine (held_ok A k cap m _ hm h1 h8).mono ?_
        rintro e w2 ⟨rfl, rfl⟩
        go_wp2_with fail
        refine (L.ok A k cap m refs _ hx1.out HL.out HLC.out HCM.out hm h1 h8).mono ?_
        rintro e w3 ⟨rfl, hb3⟩
        have hb03 : Below w.heap.size w w3 := hb01.trans (hb3.mono hb01.size)
        have hx3 := Lib.hid ((HX.out.below hb03 (Nat.le_refl _)).more hb03.size)
        go_wp2_with fail
        refine (F.ok A k cap m refs _ hx3.out HL.out hm h1 h8).mono ?_
        rintro e w4 ⟨rfl, hb4⟩
        have hb04 : Below w.heap.size w w4 := hb03.trans (hb4.mono hb03.size)
        have hx4 := Lib.hid ((HX.out.below hb04 (Nat.le_refl _)).more hb04.size)
        obtain ⟨a, ha⟩ : ∃ a, lruG m [] refs = a := ⟨_, rfl⟩
        obtain ⟨b, hb'⟩ : ∃ b, fifoG m [] refs = b := ⟨_, rfl⟩
        rw [ha] at HLU ⊢
        rw [hb'] at HFI ⊢
        clear ha hb'
        go_wp2_with fail
        refine (Y.ok A k cap m refs none 0 0 [] _ hx4.out HL.out (fun h => by simp at h) rfl (Nat.zero_le _) hm h1 h8).mono ?_
        rintro e w5 ⟨rfl, hb5⟩
        have hb05 : Below w.heap.size w w5 := hb04.trans (hb5.mono hb04.size)
        by_cases hnm : n ≤ m
        · have hqn := HQ.out hnm
          have han := HLU.out hnm
          have hbn := HFI.out hnm
          rw [HPL.out hnm, missR]
          subst hqn han hbn
          clear HQ HLU HFI HPL
          go_wp2
          go_ret
          exact ⟨ret_bool (by simp), hb05⟩
        · cases hp : playG m [] [] 0 refs with
          | none =>
            rw [missR]
            clear hp
            go_wp2
            go_ret
            exact ⟨ret_bool (by simp), hb05⟩
          | some s =>
            rw [missR]
            clear hp
            go_wp2
            go_ret
            exact ⟨ret_bool (by simp), hb05⟩

set_option maxRecDepth 100000 in
theorem lawHoldAll_lifted (os : Os) (started : os.Started) (H : Type) (enc : TypeId × Value → H) :
    ReturnsInHanded {} Try.checked os 10 .any (Rows.holdAllSpec.pre6 enc Try.prog Try.f10 Rows.holdAllRow.domain false) (Rows.holdAllSpec.post enc Try.prog Try.f10 false true false false) := by
  refine returnsInHanded_of_change_sized (C := Try.checked) Try.own started (by kernel_rfl) Try.func10
    (ChangeSpec.witness6 (enc := enc) (C := Try.checked) false ⟨#[], #[.slice none 0 0, .int .i64 0], []⟩ 8 (by kernel_rfl) (by kernel_rfl) (by kernel_rfl) (by kernel_rfl)) ?_
  intro W base args ds gs before hval0 hW hcnd hsz _
  have hval : ∀ (j : Nat) t v, Try.f10.params[j]? = some t → args[j]? = some v → Value.okWide Try.prog W .any base t v := hval0
  have hW' := hW
  obtain ⟨p, q, hA0, hV, rfl, hfz, hnd⟩ := hW
  have hA : DataW.TrodAll enc Try.prog W 0 (fun _ => true) true Try.f10.params.toList args.toList ds p := hA0
  obtain ⟨hgs, _⟩ := trodVars_none hV
  rw [Try.params10] at hA hval
  obtain ⟨v0, vs0, d0, ds0, p0, q0, hargs, rfl, rfl, h0, r0⟩ := trodAll_cons hA
  obtain ⟨v1, vs1, d1, ds1, p1, q1, rfl, rfl, rfl, h1, r1⟩ := trodAll_cons r0
  obtain ⟨rfl, rfl, rfl⟩ := trodAll_nil r1
  have hargs2 : args = #[v0, v1] := Array.toList_inj.1 hargs
  subst hargs2
  obtain ⟨A0, c0, l0, rfl, lc0, cm0, x0, r0⟩ := open_intsA (hval 0 22 v0 rfl rfl) h0
  have b0 := len_reach Try.underlying22 (hval 0 22 _ rfl rfl) h0 hsz (j := 0) (by rw [Try.params10]; rfl) rfl
  rw [show Try.prog.bytesOf (Try.prog.elem 22) = 8 from by kernel_rfl] at b0
  obtain ⟨a1, rfl, _, _, w1⟩ := open_int Try.underlying3 (hval 1 3 v1 rfl rfl) h1
  refine (lawHoldAll_any minIs lruIs fifoIs playIs A0 c0 l0 a1 _ x0 lc0 cm0 (by omega)).mono fun e W' ⟨he, hb⟩ => ?_
  subst he
  exact ⟨_, rfl, law_post Try.laidOut rfl (by kernel_rfl) Try.underlying4 ⟨rfl, rfl, rfl⟩ (by kernel_rfl) hW' hb⟩

theorem holdAll_holds : Rows.HoldAllSaid :=
  OpenClaim.holds_of_wide 10 Try.f10 rfl rfl rfl rfl rfl rfl rfl ⟨rfl, rfl, rfl, rfl, rfl⟩ rfl rfl rfl rfl rfl (by kernel_rfl) Try.func10 (show joinedFacts Try.prog 10 Try.f10 Rows.holdAllSpec Rows.holdAllRow = true from (by unfold joinedFacts; (repeat' (with_reducible refine and_both ?_ ?_)) <;> first | (with_reducible exact may_enter) | ((with_reducible refine make_ok ?_); rfl) | ((with_reducible refine lifts_ok ?_); rfl) | kernel_rfl))
    (of_decide_eq_true (by kernel_rfl)) (by unfold Func.isWrapper; rw [if_neg (of_decide_eq_false (by kernel_rfl))]; exact ⟨rfl, rfl⟩)
    (fun os started H enc _ => lawHoldAll_lifted os started H enc)

end Go.Proofs.Ytjnmohphinldkaa
