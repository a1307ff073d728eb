/-
  What is needed for some variables is needed for more (T1): codemasonkeep.CutMore returns true and leaves its arguments alone. No condition.
-/
import Derived.Test.YtfhnhbkdhdocjaaCutIs
import Derived.BigQuiet
import Derived.Test.YtfhnhbkdhdocjaaCut
namespace Go.Proofs.Ytfhnhbkdhdocjaa
open Go.RowKit Go.ChangeShapes Go.WideShapes Go.ChangeAt Go.Deep
set_option linter.unusedSimpArgs false
set_option linter.unusedVariables false
set_option maxRecDepth 100000

set_option maxHeartbeats 1000000 in
theorem in_trueC {a b : Nat} (h : ∀ j, a.testBit j = true → b.testBit j = true) (w : World) (ha : a < 4294967296) (hb : b < 4294967296) :
    Calls Try.prog 45 #[.int .u32 (a : Nat), .int .u32 (b : Nat)] w fun e w' => e = .returned (.bool true) ∧ w' = w := by
  have hab : a ||| b = b := Nat.eq_of_testBit_eq fun j => by
    rw [Nat.testBit_or]
    cases h1 : a.testBit j with
    | false => simp
    | true => rw [h j h1]; rfl
  have hor : bits .or .u32 (a : Int) (b : Int) = (b : Int) := by rw [u32_or_nat _ _ ha hb, hab]
  clear hab h
  go_enter Try.func45, Try.ntmps45
  go_wp2
  go_ret
  exact ⟨ret_bool (by simp), rfl⟩

theorem or_u32 {a b : Nat} (ha : a < 4294967296) (hb : b < 4294967296) : a ||| b < 4294967296 := Nat.or_lt_two_pow (n := 32) ha hb

theorem mkS_row {ms : List (List Bool)} {i k : Nat} {r : List Bool} {m : Bool} (h1 : ms[i]? = some r) (h2 : r[k]? = some m) : mkS ms i k ↔ m = true := by
  unfold mkS
  have e1 : ms.getD i [] = r := by rw [List.getD_eq_getElem?_getD, h1]; rfl
  rw [e1, List.getD_eq_getElem?_getD, h2, Option.getD_some]

set_option maxHeartbeats 8000000 in
theorem lawCutMore_any (K : CutIs) (vars : Int) (A : Option Addr) (cap a b : Nat) (p : List Bk) (w : World) (hx : RdP w w.heap.size A p) (hm : p.length ≤ maxLen) (hin : ∀ b ∈ p, InBk b) (ha : a < 4294967296) (hb : b < 4294967296) :
    Calls Try.prog 15 #[.int .i64 vars, .slice A p.length cap, .int .u32 (a : Nat), .int .u32 (b : Nat)] w fun e w' => e = .returned (.bool true) ∧ Below w.heap.size w w' := by
  obtain ⟨len, hl⟩ : ∃ len, p.length = len := ⟨_, rfl⟩
  have HL := Lib.hid hl
  rw [hl] at hm ⊢
  obtain ⟨T, hT⟩ := stops_bool (nxP p)
  have HRP := Lib.hid (fun (Z : World) (hZ : Below w.heap.size w Z) => (RdP.below hx hZ (Nat.le_refl _)).more hZ.size)
  have hor : bits .or .u32 (a : Int) (b : Int) = ((a ||| b : Nat) : Int) := u32_or_nat _ _ ha hb
  have hab := or_u32 ha hb
  have HSUB : Hid (∀ v, a.testBit v = true → (a ||| b).testBit v = true) := Lib.hid fun v h => by rw [Nat.testBit_or, h]; rfl
  obtain ⟨d, hd⟩ : ∃ d, a ||| b = d := ⟨_, rfl⟩
  rw [hd] at hor hab HSUB
  have H2 : Hid (∀ Z : World, Below w.heap.size w Z → Calls Try.prog 40 #[.int .i64 vars, .slice A len cap, .int .u32 (d : Nat)] Z fun e w' => (∃ (A' : Option Addr) (l' c' t : Nat) (x : Int), e = .returned (.tuple #[.slice A' l' c', .int .u32 (t : Nat), .int .i64 x])) ∧ Below Z.heap.size Z w') := Lib.hid fun Z hZ => by
    by_cases h1 : ckCut vars p d T = 0
    · obtain ⟨rfl, n, rfl, _, _, hc1, hc2⟩ := ckCut_ok h1
      refine (K.needs n d A len cap p Z (HRP.out Z hZ) hl hc1 hc2 (hT.1 rfl)).mono ?_
      rintro e w' ⟨A', c', t, q, rfl, _, _, hb⟩
      exact ⟨⟨A', len, c', t, 0, rfl⟩, hb⟩
    · refine (K.needsBad vars d A len cap p T Z (HRP.out Z hZ) hl hm hin hab hT h1).mono ?_
      rintro e w' ⟨A', c', rfl, hb⟩
      exact ⟨⟨A', 0, c', 0, _, rfl⟩, hb⟩
  by_cases hc : ckCut vars p a T = 0
  · obtain ⟨rfl, n, rfl, hn1, hn6, hc1, hc2⟩ := ckCut_ok hc
    obtain ⟨_, _, b3, b4, _⟩ := ckProg_bd hc1
    rw [hl] at b3 b4
    have HC1 := Lib.hid hc1
    have HTR := Lib.hid (K.needs n a A len cap p w hx hl hc1 hc2 (hT.1 rfl))
    have H20 : Hid (∀ (i : Nat) (b : Bk), p[i]? = some b → b.code.length ≤ 20) := Lib.hid fun i b hb => by
      have := manyS_le hb
      have := (ckProg_bd HC1.out).2.2.2.2.1
      omega
    by_cases hcd : ckCut n p d true = 0
    · obtain ⟨_, n', hnn, _, _, _, hc3⟩ := ckCut_ok hcd
      have hnn' : n' = n := by omega
      subst hnn'
      have HTR2 := Lib.hid (fun (Z : World) (hZ : Below w.heap.size w Z) => K.needs n' d A len cap p Z (HRP.out Z hZ) hl hc1 hc3 (hT.1 rfl))
      clear hc hc1 hc2 hc3 hcd hin hT hnn hd
      go_enter Try.func15, Try.ntmps15
      go_wp2_with fail
      refine HTR.out.mono ?_
      rintro e w1 ⟨A1, c1, t, ms, rfl, hnd, hx1, hb1⟩
      go_wp2_with fail
      refine (HTR2.out _ hb1).mono ?_
      rintro e w2 ⟨A2, c2, t2, ms2, rfl, hnd2, hx2, hb2⟩
      obtain ⟨hs, ht⟩ := hnd.nd.more HSUB.out hnd2.nd
      have HS := Lib.hid hs
      have HI := Lib.hid (in_trueC ht w2 hnd.lt hnd2.lt)
      have HML : Hid (ms.length = len) := Lib.hid (by rw [hnd.sl, HL.out])
      have HML2 : Hid (ms2.length = len) := Lib.hid (by rw [hnd2.sl, HL.out])
      have HR1 := Lib.hid hnd.rl
      have HR2 := Lib.hid hnd2.rl
      have HX0 := Lib.hid (fun (Z : World) (hZ : Below w2.heap.size w2 Z) => HRP.out Z (below_via (below_via hb1 hb2) hZ))
      have HX1 := Lib.hid (fun (Z : World) (hZ : Below w2.heap.size w2 Z) => (RdM2.below hx1 (below_via hb2 hZ) (Nat.le_refl _)).more (below_via hb2 hZ).size)
      have HX2 := Lib.hid (fun (Z : World) (hZ : Below w2.heap.size w2 Z) => (RdM2.below hx2 hZ (Nat.le_refl _)).more hZ.size)
      have HB02 := Lib.hid (below_via hb1 hb2)
      clear hnd hnd2 hx1 hx2 hs ht hb1 hb2 hl
      go_wp2_with (go_at_call 45; (with_reducible refine HI.out.mono ?_); rintro e w5 ⟨rfl, rfl⟩)
      go_loopw [69] (fun z wr => ∃ i : Nat, i ≤ len ∧ z = .int .i64 i ∧ Hid (Below w5.heap.size w5 wr)) (fun z _ => len - (intOf z).toNat)
      case atStart => exact ⟨0, Nat.zero_le _, rfl, Lib.hid (Below.refl _ _)⟩
      case round =>
        obtain ⟨i, hi, rfl, HB⟩ := hrel
        by_cases hlt : i < len
        · obtain ⟨ad0, b0, Ac0, cc0, rfl, hbl0, hd0, _, x0, _, _, _⟩ := (HX0.out wr HB.out).at_ (k := i) (by rw [HL.out]; exact hlt)
          obtain ⟨ad1, r1, Ar1, cr1, rfl, hbl1, hr1, x1, hrd1⟩ := (HX1.out wr HB.out).at_ (k := i) (by rw [HML.out]; exact hlt)
          obtain ⟨ad2, r2, Ar2, cr2, rfl, hbl2, hr2, x2, hrd2⟩ := (HX2.out wr HB.out).at_ (k := i) (by rw [HML2.out]; exact hlt)
          have e1 := HR1.out i b0 r1 hd0 hr1
          have e2 := HR2.out i b0 r2 hd0 hr2
          have h3 := H20.out i b0 hd0
          obtain ⟨l0, e0⟩ : ∃ l, b0.code.length = l := ⟨_, rfl⟩
          rw [e0] at x0 e1 e2 h3
          rw [e1] at x1
          rw [e2] at x2
          have HL1 := Lib.hid e1
          have HL2 := Lib.hid e2
          have HM1 := Lib.hid (fun (k : Nat) (m : Bool) (h : r1[k]? = some m) => mkS_row hr1 h)
          have HM2 := Lib.hid (fun (k : Nat) (m : Bool) (h : r2[k]? = some m) => mkS_row hr2 h)
          have HC1 := Lib.hid x1
          have HC2 := Lib.hid x2
          have HRD1 := Lib.hid hrd1
          have HRD2 := Lib.hid hrd2
          obtain ⟨wo, rfl⟩ : ∃ wo : World, wo = wr := ⟨_, rfl⟩
          clear hd0 hr1 hr2 e0 e1 e2 hrd1 hrd2
          go_wp2_with fail
          go_quiet (fail)
          go_wp2_with fail
          go_loopw [103] (fun z wr => ∃ k : Nat, k ≤ l0 ∧ z = .int .i64 k ∧ Hid (Below wo.heap.size wo wr)) (fun z _ => l0 - (intOf z).toNat)
          case atStart => exact ⟨0, Nat.zero_le _, rfl, Lib.hid (below_drewNL (Below.refl _ _) _)⟩
          case round =>
            obtain ⟨k, hk, rfl, HBI⟩ := hrel
            have y1 := (HBI.out.cell (p := ad1.add i) hbl1).trans HC1.out
            have y2 := (HBI.out.cell (p := ad2.add i) hbl2).trans HC2.out
            by_cases hkt : k < l0
            · obtain ⟨ra, m1, rfl, hb5, hm5, hc5⟩ := (RdBo.below HRD1.out HBI.out (Nat.le_refl _)).at_ (k := k) (by rw [HL1.out]; exact hkt)
              obtain ⟨ra2, m2, rfl, hb6, hm6, hc6⟩ := (RdBo.below HRD2.out HBI.out (Nat.le_refl _)).at_ (k := k) (by rw [HL2.out]; exact hkt)
              have him : m1 = true → m2 = true := fun h => (HM2.out k m2 hm6).1 (HS.out i k ((HM1.out k m1 hm5).2 h))
              clear hm5 hm6
              have hsz := HBI.out.size
              have z1 : (ad1.add i).block < wr.heap.size := by omega
              have z2 : (ad2.add i).block < wr.heap.size := by omega
              cases m1 with
              | false =>
                clear him
                go_wp2
                go_round
                case rel => exact ⟨k + 1, by omega, by go_num, HBI⟩
                case measure => (simp [intOf]; omega)
              | true =>
                have := him rfl
                subst this
                clear him
                go_wp2
                go_round
                case rel => exact ⟨k + 1, by omega, by go_num, HBI⟩
                case measure => (simp [intOf]; omega)
            · go_wp2
              go_round
              case rel => exact ⟨i + 1, by omega, by go_num, Lib.hid (below_via HB.out HBI.out)⟩
              case measure => (simp [intOf]; omega)
        · go_wp2
          go_ret
          exact ⟨rfl, below_via HB02.out HB.out⟩
    · have HTR2 := Lib.hid (fun (Z : World) (hZ : Below w.heap.size w Z) => K.needsBad n d A len cap p true Z (HRP.out Z hZ) hl hm hin hab hT hcd)
      obtain ⟨c, hce⟩ : ∃ c, ckCut n p d true = c := ⟨_, rfl⟩
      rw [hce] at HTR2 hcd
      have hne : (c != 0) = true := by simp [hcd]
      have hle : ((len : Int) == 0) = false := by simp; omega
      clear hc hc1 hc2 hcd hin hT hd hce hl
      go_enter Try.func15, Try.ntmps15
      go_wp2_with fail
      refine HTR.out.mono ?_
      rintro e w1 ⟨A1, c1, t, ms, rfl, hnd, hx1, hb1⟩
      clear hnd hx1
      go_wp2_with fail
      refine (HTR2.out _ hb1).mono ?_
      rintro e w2 ⟨A2, c2, rfl, hb2⟩
      go_wp2
      go_ret
      exact ⟨ret_bool (by simp), hb1.trans (hb2.mono hb1.size)⟩
  · have HIB := Lib.hid (K.needsBad vars a A len cap p T w hx hl hm hin ha hT hc)
    obtain ⟨c, hce⟩ : ∃ c, ckCut vars p a T = c := ⟨_, rfl⟩
    rw [hce] at HIB hc
    have hne : (c != 0) = true := by simp [hc]
    clear hc hl hin hce hT hd
    go_enter Try.func15, Try.ntmps15
    go_wp2_with fail
    refine HIB.out.mono ?_
    rintro e w1 ⟨A1, c1, rfl, hb1⟩
    go_wp2_with fail
    refine (H2.out _ hb1).mono ?_
    rintro e w2 ⟨⟨A2, l2, c2, t2, x2, rfl⟩, hb2⟩
    go_wp2
    go_ret
    exact ⟨ret_bool (by simp), hb1.trans (hb2.mono hb1.size)⟩

theorem lawCutMore_int (K : CutIs) (vars : Int) (A : Option Addr) (cap : Nat) (a b : Int) (p : List Bk) (w : World) (hx : RdP w w.heap.size A p) (hm : p.length ≤ maxLen) (hin : ∀ b ∈ p, InBk b) (ha : (Lit.int .u32 a).wf = true) (hb : (Lit.int .u32 b).wf = true) :
    Calls Try.prog 15 #[.int .i64 vars, .slice A p.length cap, .int .u32 a, .int .u32 b] w fun e w' => e = .returned (.bool true) ∧ Below w.heap.size w w' := by
  obtain ⟨n, rfl, hn⟩ := u32_lit ha
  obtain ⟨m, rfl, hm2⟩ := u32_lit hb
  exact lawCutMore_any K vars A cap n m p w hx hm hin hn hm2

set_option maxRecDepth 100000 in
theorem lawCutMore_lifted (os : Os) (started : os.Started) (H : Type) (enc : TypeId × Value → H) :
    ReturnsInHanded {} Try.checked os 15 .any (Rows.cutMoreSpec.pre6 enc Try.prog Try.f15 Rows.cutMoreRow.domain false) (Rows.cutMoreSpec.post enc Try.prog Try.f15 false true false false) := by
  refine returnsInHanded_of_change_sized (C := Try.checked) Try.own started (by kernel_rfl) Try.func15
    (ChangeSpec.witness6 (enc := enc) (C := Try.checked) false ⟨#[], #[.int .i64 0, .slice none 0 0, .int .u32 0, .int .u32 0], []⟩ 8 (by kernel_rfl) (by kernel_rfl) (by kernel_rfl) (by kernel_rfl)) ?_
  intro W base args ds gs before hval0 hW hcnd hsz _
  have hval : ∀ (j : Nat) t v, Try.f15.params[j]? = some t → args[j]? = some v → Value.okWide Try.prog W .any base t v := hval0
  have hW' := hW
  obtain ⟨p, q, hA0, hV, rfl, hfz, hnd⟩ := hW
  have hA : DataW.TrodAll enc Try.prog W 0 (fun _ => true) true Try.f15.params.toList args.toList ds p := hA0
  obtain ⟨hgs, _⟩ := trodVars_none hV
  rw [Try.params15] at hA hval
  obtain ⟨v0, vs0, d0, ds0, p0, q0, hargs, rfl, rfl, h0, r0⟩ := trodAll_cons hA
  obtain ⟨v1, vs1, d1, ds1, p1, q1, rfl, rfl, rfl, h1, r1⟩ := trodAll_cons r0
  obtain ⟨v2, vs2, d2, ds2, p2, q2, rfl, rfl, rfl, h2, r2⟩ := trodAll_cons r1
  obtain ⟨v3, vs3, d3, ds3, p3, q3, rfl, rfl, rfl, h3, r3⟩ := trodAll_cons r2
  obtain ⟨rfl, rfl, rfl⟩ := trodAll_nil r3
  have hargs2 : args = #[v0, v1, v2, v3] := Array.toList_inj.1 hargs
  subst hargs2
  obtain ⟨a0, rfl, _, _, w0⟩ := open_int Try.underlying3 (hval 0 3 v0 rfl rfl) h0
  obtain ⟨A1, c1, l1, rfl, lc1, cm1, x1, g1⟩ := open_progA (reach_at hsz (j := 1) (t := 22) (by rw [Try.params15]; rfl) rfl) (hval 1 22 v1 rfl rfl) h1
  have b1 := len_reach Try.underlying22 (hval 1 22 _ rfl rfl) h1 hsz (j := 1) (by rw [Try.params15]; rfl) rfl
  rw [show Try.prog.bytesOf (Try.prog.elem 22) = 48 from by kernel_rfl] at b1
  obtain ⟨a2, rfl, _, _, w2⟩ := open_int Try.underlying23 (hval 2 23 v2 rfl rfl) h2
  obtain ⟨a3, rfl, _, _, w3⟩ := open_int Try.underlying23 (hval 3 23 v3 rfl rfl) h3
  refine (lawCutMore_int cutIs a0 A1 c1 a2 a3 l1 _ x1 (by omega) g1 w2 w3).mono fun e W' ⟨he, hb⟩ => ?_
  subst he
  exact ⟨_, rfl, law_post Try.laidOut rfl (by kernel_rfl) Try.underlying4 ⟨rfl, rfl, rfl⟩ (by kernel_rfl) hW' hb⟩

theorem cutMore_holds : Rows.CutMoreSaid :=
  OpenClaim.holds_of_wide 15 Try.f15 rfl rfl rfl rfl rfl rfl rfl ⟨rfl, rfl, rfl, rfl, rfl⟩ rfl rfl rfl rfl rfl (by kernel_rfl) Try.func15 (show joinedFacts Try.prog 15 Try.f15 Rows.cutMoreSpec Rows.cutMoreRow = true from (by unfold joinedFacts; (repeat' (with_reducible refine and_both ?_ ?_)) <;> first | (with_reducible exact may_enter) | ((with_reducible refine make_ok ?_); rfl) | ((with_reducible refine lifts_ok ?_); rfl) | kernel_rfl))
    (of_decide_eq_true (by kernel_rfl)) (by unfold Func.isWrapper; rw [if_neg (of_decide_eq_false (by kernel_rfl))]; exact ⟨rfl, rfl⟩)
    (fun os started H enc _ => lawCutMore_lifted os started H enc)

end Go.Proofs.Ytfhnhbkdhdocjaa
