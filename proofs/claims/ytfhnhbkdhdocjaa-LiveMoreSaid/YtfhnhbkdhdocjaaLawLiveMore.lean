/-
  What is live for two sets of variables together is what is live for either (K1): codemasonkeep.LiveMore returns true and leaves its arguments alone. No condition.
-/
import Derived.Test.YtfhnhbkdhdocjaaLawLive
import Derived.Test.YtfhnhbkdhdocjaaLiveTrimC
namespace Go.Proofs.Ytfhnhbkdhdocjaa
open Go.RowKit Go.ChangeShapes Go.WideShapes Go.ChangeAt Go.Deep
set_option linter.unusedSimpArgs false
set_option linter.unusedVariables false
set_option maxRecDepth 100000

set_option maxHeartbeats 8000000 in
theorem lawLiveMore_any (K : LiveIs) (vars : Int) (A : Option Addr) (cap a b : Nat) (p : List Bk) (w : World) (hx : RdP w w.heap.size A p) (hm : p.length ≤ maxLen) (hin : ∀ b ∈ p, InBk b) (ha : a < 4294967296) (hb : b < 4294967296) :
    Calls Try.prog 7 #[.int .i64 vars, .slice A p.length cap, .int .u32 (a : Nat), .int .u32 (b : Nat)] w fun e w' => e = .returned (.bool true) ∧ Below w.heap.size w w' := by
  obtain ⟨len, hl⟩ : ∃ len, p.length = len := ⟨_, rfl⟩
  have HL := Lib.hid hl
  have HIN := Lib.hid hin
  rw [hl] at hm ⊢
  have hor : bits .or .u32 ((a : Nat) : Int) ((b : Nat) : Int) = ((a ||| b : Nat) : Int) := u32_or_nat _ _ ha hb
  have hab : a ||| b < 4294967296 := Nat.or_lt_two_pow (n := 32) ha hb
  have HPC := Lib.hid (fun (Z : World) (hZ : Below w.heap.size w Z) => refProgCheck_any vars A len cap p Z ((hx.below hZ (Nat.le_refl _)).more hZ.size) hl hm hin)
  -- told, or its code
  have HIG : Hid (∀ (c : Nat) (Z : World), c < 4294967296 → Below w.heap.size w Z → Calls Try.prog 17 #[.int .i64 vars, .slice A len cap, .int .u32 (c : Nat)] Z fun e w' => ∃ A' n' c', e = .returned (.tuple #[.slice A' n' c', .int .i64 (ckWant vars p c)]) ∧ Below Z.heap.size Z w') := Lib.hid fun c Z hc hZ => by
    by_cases hck : ckWant vars p c = 0
    · obtain ⟨n, rfl, _, _, h1, h2⟩ := ckWant_ok hck
      rw [hck]
      refine (K.in_ n c A len cap p Z ((hx.below hZ (Nat.le_refl _)).more hZ.size) hl h1 h2).mono ?_
      rintro e w' ⟨A', c', L, h3, _, _, h4⟩
      exact ⟨A', len, c', h3, h4⟩
    · refine (K.inBad vars c A len cap p Z ((hx.below hZ (Nat.le_refl _)).more hZ.size) hl hm hin hc hck).mono ?_
      rintro e w' ⟨A', c', h3, h4⟩
      exact ⟨A', 0, c', h3, h4⟩
  by_cases h1 : ckProg vars p = 0
  · obtain ⟨b1, b2, b3, b4, _⟩ := ckProg_bd h1
    obtain ⟨n, rfl⟩ := Int.eq_ofNat_of_zero_le (show 0 ≤ vars by omega)
    have hn : n ≤ 6 := by omega
    have HIO : Hid (∀ (c : Nat) (Z : World), c < 2 ^ n → Below w.heap.size w Z → Calls Try.prog 17 #[.int .i64 n, .slice A len cap, .int .u32 (c : Nat)] Z fun e w' => ∃ A' c' L, e = .returned (.tuple #[.slice A' len c', .int .i64 0]) ∧ RdU w' w'.heap.size A' L ∧ LvW n p c L ∧ Below Z.heap.size Z w') := Lib.hid fun c Z hc hZ =>
      K.in_ n c A len cap p Z ((hx.below hZ (Nat.le_refl _)).more hZ.size) hl h1 hc
    rw [hl] at b4
    have H1 := Lib.hid h1
    have HCK : Hid (∀ c, ckWant n p c = if c < 2 ^ n then 0 else 4) := Lib.hid fun c => by unfold ckWant; rw [if_pos h1, Int.toNat_natCast]
    clear h1 hl hin b1 b2 b3
    by_cases h2 : a ||| b < 2 ^ n
    · have hal : a < 2 ^ n := by
        have : a ≤ a ||| b := Nat.left_le_or
        omega
      have hbl : b < 2 ^ n := by
        have : b ≤ a ||| b := Nat.right_le_or
        omega
      have HF := Lib.hid (decide_eq_true h2)
      have H2 := Lib.hid h2
      have HAL := Lib.hid hal
      have HBL := Lib.hid hbl
      clear h2 hal hbl
      go_enter Try.func7, Try.ntmps7
      go_wp2_with fail
      refine (HIO.out a _ HAL.out (Below.refl _ _)).mono ?_
      rintro e w1 ⟨A1, c1, X, rfl, hx1, hw1, hb1⟩
      go_wp2_with fail
      refine (HIO.out b _ HBL.out hb1).mono ?_
      rintro e w2 ⟨A2, c2, Y, rfl, hx2, hw2, hb2⟩
      have hb02 := hb1.trans (hb2.mono hb1.size)
      go_wp2_with fail
      refine (HIO.out (a ||| b) _ H2.out hb02).mono ?_
      rintro e w3 ⟨A3, c3, Z, rfl, hx3, hw3, hb3⟩
      have hb03 := hb02.trans (hb3.mono hb02.size)
      have hx13 := ((hx1.below hb2 (Nat.le_refl _)).more hb2.size).below hb3 (Nat.le_refl _) |>.more hb3.size
      have hx23 := (hx2.below hb3 (Nat.le_refl _)).more hb3.size
      go_wp2_with fail
      refine (HPC.out _ hb03).mono ?_
      rintro e w4 ⟨rfl, hb4⟩
      rw [H1.out]
      have hb04 := hb03.trans (hb4.mono hb03.size)
      have hx14 := (hx13.below hb4 (Nat.le_refl _)).more hb4.size
      have hx24 := (hx23.below hb4 (Nat.le_refl _)).more hb4.size
      have hx34 := (hx3.below hb4 (Nat.le_refl _)).more hb4.size
      have HX := Lib.hid hw1
      have HY := Lib.hid hw2
      have HZ := Lib.hid hw3
      clear hx1 hx2 hx3 hx13 hx23 hw1 hw2 hw3
      go_wp2_with (go_at_call 21; (with_reducible refine (refFits_is n (a ||| b) _ (by omega) hab).mono ?_); rw [HF.out]; rintro e w5 ⟨rfl, rfl⟩)
      go_loopw [15] (fun z wr => ∃ i : Nat, i ≤ len ∧ z = .int .i64 i ∧ Below w4.heap.size w4 wr) (fun z _ => len - (intOf z).toNat)
      case atStart => exact ⟨0, Nat.zero_le _, rfl, Below.refl _ _⟩
      case round =>
        obtain ⟨i, hi, rfl, hbr⟩ := hrel
        have hsz := hbr.size
        by_cases hlt : i < len
        · obtain ⟨a1, x, rfl, hbl1, hd1, hcx⟩ := (hx14.below hbr (Nat.le_refl _)).at_ (k := i) (by rw [HX.out.len, HL.out]; exact hlt)
          obtain ⟨a2, y, rfl, hbl2, hd2, hcy⟩ := (hx24.below hbr (Nat.le_refl _)).at_ (k := i) (by rw [HY.out.len, HL.out]; exact hlt)
          obtain ⟨a3, z, rfl, hbl3, hd3, hcz⟩ := (hx34.below hbr (Nat.le_refl _)).at_ (k := i) (by rw [HZ.out.len, HL.out]; exact hlt)
          have hxyz := lvW_or HX.out HY.out HZ.out hd1 hd2 hd3
          have hx32 := want_small (HX.out.lt i x hd1) hn
          have hy32 := want_small (HY.out.lt i y hd2) hn
          have horx : bits .or .u32 ((x : Nat) : Int) ((y : Nat) : Int) = ((x ||| y : Nat) : Int) := u32_or_nat _ _ hx32 hy32
          subst hxyz
          clear hd1 hd2 hd3
          go_wp2
          go_quiet (fail)
          go_wp2
          go_round
          case rel => exact ⟨i + 1, by omega, by go_num, below_drewNL hbr _⟩
          case measure => (simp [intOf]; omega)
        · go_wp2
          go_ret
          exact ⟨rfl, hb04.trans (hbr.mono hb04.size)⟩
    · have hbig : ckWant n p a ≠ 0 ∨ (ckWant n p a = 0 ∧ ckWant n p b ≠ 0) := by
        rw [HCK.out, HCK.out]
        by_cases h3 : a < 2 ^ n
        · by_cases h4 : b < 2 ^ n
          · exact absurd (Nat.or_lt_two_pow h3 h4) h2
          · exact .inr ⟨by rw [if_pos h3], by rw [if_neg h4]; decide⟩
        · exact .inl (by rw [if_neg h3]; decide)
      have HF := Lib.hid (decide_eq_false h2)
      have HIA := Lib.hid (HIG.out a)
      have HIB := Lib.hid (HIG.out b)
      obtain ⟨ca, hca⟩ : ∃ c, ckWant n p a = c := ⟨_, rfl⟩
      obtain ⟨cb, hcb⟩ : ∃ c, ckWant n p b = c := ⟨_, rfl⟩
      rw [hca, hcb] at hbig
      rw [hca] at HIA
      rw [hcb] at HIB
      clear h2 hca hcb
      have hfl : (ca != 0) = true ∨ ((ca != 0) = false ∧ (cb != 0) = true) := by
        rcases hbig with h | ⟨h, h'⟩
        · exact .inl (by simp [h])
        · exact .inr ⟨by simp [h], by simp [h']⟩
      clear hbig
      rcases hfl with f1 | ⟨f1, f2⟩
      all_goals
        go_enter Try.func7, Try.ntmps7
        go_wp2_with fail
        refine (HIA.out _ ha (Below.refl _ _)).mono ?_
        rintro e w1 ⟨A1, n1, c1, rfl, hb1⟩
        go_wp2_with fail
        refine (HIB.out _ hb hb1).mono ?_
        rintro e w2 ⟨A2, n2, c2, rfl, hb2⟩
        have hb02 := hb1.trans (hb2.mono hb1.size)
        go_wp2_with fail
        refine (HIG.out (a ||| b) _ hab hb02).mono ?_
        rintro e w3 ⟨A3, n3, c3, rfl, hb3⟩
        have hb03 := hb02.trans (hb3.mono hb02.size)
        go_wp2_with fail
        refine (HPC.out _ hb03).mono ?_
        rintro e w4 ⟨rfl, hb4⟩
        rw [H1.out]
        have hb04 := hb03.trans (hb4.mono hb03.size)
        go_wp2_with (go_at_call 21; (with_reducible refine (refFits_is n (a ||| b) _ (by omega) hab).mono ?_); rw [HF.out]; rintro e w5 ⟨rfl, rfl⟩)
        go_ret
        exact ⟨rfl, hb04⟩
  · have hck : ∀ c, ckWant vars p c = ckProg vars p := fun c => by unfold ckWant; rw [if_neg h1]
    have HIA := Lib.hid (HIG.out a)
    have HIB := Lib.hid (HIG.out b)
    have HIC := Lib.hid (HIG.out (a ||| b))
    rw [hck] at HIA HIB HIC
    have f1 : (ckProg vars p != 0) = true := by simp [h1]
    clear hck h1
    go_enter Try.func7, Try.ntmps7
    go_wp2_with fail
    refine (HIA.out _ ha (Below.refl _ _)).mono ?_
    rintro e w1 ⟨A1, n1, c1, rfl, hb1⟩
    go_wp2_with fail
    refine (HIB.out _ hb hb1).mono ?_
    rintro e w2 ⟨A2, n2, c2, rfl, hb2⟩
    have hb02 := hb1.trans (hb2.mono hb1.size)
    go_wp2_with fail
    refine (HIC.out _ hab hb02).mono ?_
    rintro e w3 ⟨A3, n3, c3, rfl, hb3⟩
    have hb03 := hb02.trans (hb3.mono hb02.size)
    go_wp2_with fail
    refine (HPC.out _ hb03).mono ?_
    rintro e w4 ⟨rfl, hb4⟩
    have hb04 := hb03.trans (hb4.mono hb03.size)
    go_wp2_with fail
    go_ret
    exact ⟨rfl, hb04⟩

theorem lawLiveMore_int (K : LiveIs) (vars : Int) (A : Option Addr) (cap : Nat) (a b : Int) (p : List Bk) (w : World) (hx : RdP w w.heap.size A p) (hm : p.length ≤ maxLen) (hin : ∀ b ∈ p, InBk b) (ha : (Lit.int .u32 a).wf = true) (hb : (Lit.int .u32 b).wf = true) :
    Calls Try.prog 7 #[.int .i64 vars, .slice A p.length cap, .int .u32 a, .int .u32 b] w fun e w' => e = .returned (.bool true) ∧ Below w.heap.size w w' := by
  obtain ⟨n, rfl, hn⟩ := u32_lit ha
  obtain ⟨m, rfl, hm'⟩ := u32_lit hb
  exact lawLiveMore_any K vars A cap n m p w hx hm hin hn hm'

set_option maxRecDepth 100000 in
theorem lawLiveMore_lifted (os : Os) (started : os.Started) (H : Type) (enc : TypeId × Value → H) :
    ReturnsInHanded {} Try.checked os 7 .any (Rows.liveMoreSpec.pre6 enc Try.prog Try.f7 Rows.liveMoreRow.domain false) (Rows.liveMoreSpec.post enc Try.prog Try.f7 false true false false) := by
  refine returnsInHanded_of_change_sized (C := Try.checked) Try.own started (by kernel_rfl) Try.func7
    (ChangeSpec.witness6 (enc := enc) (C := Try.checked) false ⟨#[], #[.int .i64 0, .slice none 0 0, .int .u32 0, .int .u32 0], []⟩ 8 (by kernel_rfl) (by kernel_rfl) (by kernel_rfl) (by kernel_rfl)) ?_
  intro W base args ds gs before hval0 hW hcnd hsz _
  have hval : ∀ (j : Nat) t v, Try.f7.params[j]? = some t → args[j]? = some v → Value.okWide Try.prog W .any base t v := hval0
  have hW' := hW
  obtain ⟨p, q, hA0, hV, rfl, hfz, hnd⟩ := hW
  have hA : DataW.TrodAll enc Try.prog W 0 (fun _ => true) true Try.f7.params.toList args.toList ds p := hA0
  obtain ⟨hgs, _⟩ := trodVars_none hV
  rw [Try.params7] at hA hval
  obtain ⟨v0, vs0, d0, ds0, p0, q0, hargs, rfl, rfl, h0, r0⟩ := trodAll_cons hA
  obtain ⟨v1, vs1, d1, ds1, p1, q1, rfl, rfl, rfl, h1, r1⟩ := trodAll_cons r0
  obtain ⟨v2, vs2, d2, ds2, p2, q2, rfl, rfl, rfl, h2, r2⟩ := trodAll_cons r1
  obtain ⟨v3, vs3, d3, ds3, p3, q3, rfl, rfl, rfl, h3, r3⟩ := trodAll_cons r2
  obtain ⟨rfl, rfl, rfl⟩ := trodAll_nil r3
  have hargs2 : args = #[v0, v1, v2, v3] := Array.toList_inj.1 hargs
  subst hargs2
  obtain ⟨a0, rfl, _, _, w0⟩ := open_int Try.underlying3 (hval 0 3 v0 rfl rfl) h0
  obtain ⟨A1, c1, l1, rfl, lc1, cm1, x1, g1⟩ := open_progA (reach_at hsz (j := 1) (t := 22) (by rw [Try.params7]; rfl) rfl) (hval 1 22 v1 rfl rfl) h1
  have b1 := len_reach Try.underlying22 (hval 1 22 _ rfl rfl) h1 hsz (j := 1) (by rw [Try.params7]; rfl) rfl
  rw [show Try.prog.bytesOf (Try.prog.elem 22) = 48 from by kernel_rfl] at b1
  obtain ⟨a2, rfl, _, _, w2⟩ := open_int Try.underlying23 (hval 2 23 v2 rfl rfl) h2
  obtain ⟨a3, rfl, _, _, w3⟩ := open_int Try.underlying23 (hval 3 23 v3 rfl rfl) h3
  refine (lawLiveMore_int liveIs a0 A1 c1 a2 a3 l1 _ x1 (by omega) g1 w2 w3).mono fun e W' ⟨he, hb⟩ => ?_
  subst he
  exact ⟨_, rfl, law_post Try.laidOut rfl (by kernel_rfl) Try.underlying4 ⟨rfl, rfl, rfl⟩ (by kernel_rfl) hW' hb⟩

theorem liveMore_holds : Rows.LiveMoreSaid :=
  OpenClaim.holds_of_wide 7 Try.f7 rfl rfl rfl rfl rfl rfl rfl ⟨rfl, rfl, rfl, rfl, rfl⟩ rfl rfl rfl rfl rfl (by kernel_rfl) Try.func7 (show joinedFacts Try.prog 7 Try.f7 Rows.liveMoreSpec Rows.liveMoreRow = true from (by unfold joinedFacts; (repeat' (with_reducible refine and_both ?_ ?_)) <;> first | (with_reducible exact may_enter) | ((with_reducible refine make_ok ?_); rfl) | ((with_reducible refine lifts_ok ?_); rfl) | kernel_rfl))
    (of_decide_eq_true (by kernel_rfl)) (by unfold Func.isWrapper; rw [if_neg (of_decide_eq_false (by kernel_rfl))]; exact ⟨rfl, rfl⟩)
    (fun os started H enc _ => lawLiveMore_lifted os started H enc)

end Go.Proofs.Ytfhnhbkdhdocjaa
