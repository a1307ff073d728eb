/-
  For any blocks and any spans in.Span tells the least spans ahead of each block, or the first error (R2).
-/
import Derived.Test.YtidjnmigbhaekaaLawSpan
import Derived.Test.YtidjnmigbhaekaaSpanIn
import Derived.Test.YtidjnmigbhaekaaSpans
import Derived.Test.YtidjnmigbhaekaaBlockRef
import Derived.Deep.RegionWith
namespace Go.Proofs.Ytidjnmigbhaekaa
open Go.RowKit Go.ChangeShapes Go.WideShapes Go.ChangeAt Go.Deep
set_option linter.unusedSimpArgs false
set_option linter.unusedVariables false
set_option maxRecDepth 100000

/-- the code, span by span -/
def xS (x0 : Int) (hv : List (Int × Int)) (i : Nat) : Int := if x0 ≠ 0 then x0 else if ∀ s ∈ hv.take i, SpOk s then 0 else 4

theorem xS_zero (x0 : Int) (hv : List (Int × Int)) : xS x0 hv 0 = x0 := by
  unfold xS
  split
  · rfl
  · rw [if_pos (by simp)]; omega

theorem xS_next {x0 : Int} {hv : List (Int × Int)} {i : Nat} {s : Int × Int} (h : hv[i]? = some s) : xS x0 hv (i + 1) = if xS x0 hv i = 0 ∧ ¬ SpOk s then 4 else xS x0 hv i := by
  have ht : hv.take (i + 1) = hv.take i ++ [s] := by rw [List.take_add_one, h]; rfl
  unfold xS
  rw [ht]
  by_cases h0 : x0 ≠ 0
  · rw [if_pos h0, if_pos h0, if_neg (fun e => h0 e.1)]
  · rw [if_neg h0, if_neg h0]
    by_cases h1 : ∀ s ∈ hv.take i, SpOk s
    · rw [if_pos h1]
      by_cases h2 : SpOk s
      · rw [if_pos, if_neg (fun e => e.2 h2)]
        intro t ht
        rcases List.mem_append.1 ht with ht | ht
        · exact h1 t ht
        · rw [List.mem_singleton.1 ht]; exact h2
      · rw [if_neg (fun e => h2 (e s (by simp))), if_pos ⟨rfl, h2⟩]
    · rw [if_neg h1, if_neg (fun e => h1 fun t ht => e t (List.mem_append_left _ ht)), if_neg (by simp)]

theorem xS_all (vars : Int) (p : List Bk) (hv : List (Int × Int)) : ckSpan vars p hv = xS (if ckProg vars p ≠ 0 then ckProg vars p else if (hv.length : Int) ≠ vars then 3 else 0) hv hv.length := by
  unfold ckSpan xS
  rw [List.take_length]
  by_cases h1 : ckProg vars p ≠ 0
  · rw [if_pos h1, if_pos h1, if_pos h1]
  · rw [if_neg h1, if_neg h1]
    by_cases h2 : (hv.length : Int) ≠ vars
    · rw [if_pos h2, if_pos h2, if_pos (by omega)]
    · rw [if_neg h2, if_neg h2]
      exact (if_neg (by decide)).symm

set_option maxHeartbeats 16000000 in
theorem lawSpanTells_any (K : SpInIs) (vars : Int) (A VA : Option Addr) (cap vcap : Nat) (p : List Bk) (hv : List (Int × Int)) (w : World) (hx : RdP w w.heap.size A p) (hh : RdM w w.heap.size VA hv) (hm : p.length ≤ maxLen) (hin : ∀ b ∈ p, InBk b) (hvm : hv.length ≤ maxLen) :
    Calls Try.prog 4 #[.int .i64 vars, .slice A p.length cap, .slice VA hv.length vcap] w fun e w' => e = .returned (.bool true) ∧ Below w.heap.size w w' := by
  obtain ⟨len, hl⟩ : ∃ len, p.length = len := ⟨_, rfl⟩
  have HL := Lib.hid hl
  obtain ⟨vl, hvl⟩ : ∃ vl, hv.length = vl := ⟨_, rfl⟩
  have HVL := Lib.hid hvl
  rw [hl] at hm ⊢
  rw [hvl] at hvm ⊢
  have HP := Lib.hid (fun (Z : World) (hZ : Below w.heap.size w Z) => (hx.below hZ (Nat.le_refl _)).more hZ.size)
  have HH := Lib.hid (fun (Z : World) (hZ : Below w.heap.size w Z) => (RdM.below hh hZ (Nat.le_refl _)).more hZ.size)
  have HPC := Lib.hid (fun (Z : World) (hZ : Below w.heap.size w Z) => refProgCheck_any vars A len cap p Z (HP.out Z hZ) hl hm hin)
  obtain ⟨ck, hck⟩ : ∃ ck, ckSpan vars p hv = ck := ⟨_, rfl⟩
  have HCK := Lib.hid hck
  have HIN : Hid (Calls Try.prog 10 #[.int .i64 vars, .slice A len cap, .slice VA vl vcap] w fun e w' => (∃ A' c' L, e = .returned (.tuple #[.slice A' L.length c', .int .i64 ck]) ∧ (ck = 0 → RdGS w' w'.heap.size A' L ∧ LeastG (spF vl p hv) L) ∧ (ck ≠ 0 → L = [])) ∧ Below w.heap.size w w') := Lib.hid (by
    by_cases h0 : ck = 0
    · obtain ⟨n, rfl, hn1, hn6, hc1, hk⟩ := ckSpan_ok (hck.trans h0)
      obtain rfl : n = vl := by rw [← hvl]; exact hk.1.symm
      refine (K.in_ n A VA len cap vcap p hv w hx hh hl hc1 hk).mono ?_
      rintro e w1 ⟨⟨A1, c1, L, rfl, h1, h2⟩, hb⟩
      have hLl : L.length = len := by rw [h2.sol.ok.1]; exact hl
      exact ⟨⟨A1, c1, L, by rw [hLl, h0], fun _ => ⟨h1, h2⟩, fun h => absurd h0 h⟩, hb⟩
    · refine (K.inBad vars A VA len cap vl vcap p hv w hx hh hl hm hin hvl hvm (by rw [hck]; exact h0)).mono ?_
      rintro e w1 ⟨⟨A1, c1, rfl⟩, hb⟩
      exact ⟨⟨A1, c1, [], by rw [hck]; rfl, fun h => absurd h h0, fun _ => rfl⟩, hb⟩)
  have HXA := Lib.hid ((xS_all vars p hv).symm.trans hck)
  obtain ⟨cp, hcp⟩ : ∃ cp, ckProg vars p = cp := ⟨_, rfl⟩
  rw [hcp] at HPC HXA
  rw [hvl] at HXA
  have hvm2 := hvm
  unfold maxLen at hvm2
  clear hl hvl hck hx hh hin hcp
  go_enter Try.func4, Try.ntmps4
  go_wp2_with fail
  refine HIN.out.mono ?_
  rintro e w1 ⟨⟨A1, c1, L, rfl, hL0, hL1⟩, hb1⟩
  have HL0 := Lib.hid hL0
  have HL1 := Lib.hid hL1
  obtain ⟨ll, hll⟩ : ∃ ll, L.length = ll := ⟨_, rfl⟩
  have HLL := Lib.hid hll
  rw [hll]
  clear hL0 hL1 hll
  go_wp2_with fail
  refine (HPC.out _ hb1).mono ?_
  rintro e w2 ⟨rfl, hb2⟩
  have hb02 := hb1.trans (hb2.mono hb1.size)
  have hs2 := hb02.size
  have h3 : (∃ x0, Hid (xS x0 hv 0 = cp) ∧ Hid (xS x0 hv vl = ck) ∧ (cp == 0) = false) ∨ (cp = 0 ∧ ∃ x0, Hid (xS x0 hv 0 = 3) ∧ Hid (xS x0 hv vl = ck) ∧ ((vl : Int) != vars) = true) ∨ (cp = 0 ∧ ∃ x0, Hid (xS x0 hv 0 = 0) ∧ Hid (xS x0 hv vl = ck) ∧ ((vl : Int) != vars) = false) := by
    have hX := HXA.out
    by_cases h1 : cp = 0
    · rw [if_neg (by simp [h1])] at hX
      by_cases h2 : (vl : Int) = vars
      · rw [if_neg (by simp [h2])] at hX
        exact .inr (.inr ⟨h1, 0, Lib.hid (xS_zero _ _), Lib.hid hX, by simp [h2]⟩)
      · rw [if_pos h2] at hX
        exact .inr (.inl ⟨h1, 3, Lib.hid (xS_zero _ _), Lib.hid hX, by simp [h2]⟩)
    · rw [if_pos h1] at hX
      exact .inl ⟨cp, Lib.hid (xS_zero _ _), Lib.hid hX, by simp [h1]⟩
  have HB2 := Lib.hid hb2
  clear hb1 hb2
  rcases h3 with ⟨x0, HX0, HX1, hq⟩ | ⟨rfl, x0, HX0, HX1, hq⟩ | ⟨rfl, x0, HX0, HX1, hq⟩
  all_goals (
    focus go_wp2
    go_loopw [9, 34] (fun x z wr => ∃ i : Nat, i ≤ vl ∧ z = .int .i64 i ∧ x = .int .i64 (xS x0 hv i) ∧ Below w2.heap.size w2 wr) (fun _ z _ => vl - (intOf z).toNat)
    case atStart => exact ⟨0, Nat.zero_le _, rfl, by rw [HX0.out], Below.refl _ _⟩
    case round =>
      obtain ⟨i, hi, rfl, rfl, hb⟩ := hrel
      clear hq
      have hsz := hb.size
      have hb0 : Below w.heap.size w wr := hb02.trans (hb.mono hs2)
      by_cases hlt : i < vl
      · obtain ⟨ad, s0, s1, rfl, hbl, hd, hc0, hc1⟩ := RdM.at_ (HH.out wr hb0) (k := i) (by rw [HVL.out]; exact hlt)
        have hnx := xS_next (x0 := x0) hd
        obtain ⟨xv, hxv⟩ : ∃ xv, xS x0 hv i = xv := ⟨_, rfl⟩
        rw [hxv] at hnx ⊢
        have HIS := Lib.hid (fun Z => isSpan_any s0 s1 Z)
        clear hd hxv
        by_cases hx0 : xv = 0
        · subst hx0
          by_cases hok : SpOk (s0, s1)
          · rw [if_neg (fun e => e.2 hok)] at hnx
            rw [decide_eq_true hok] at HIS
            have HNX := Lib.hid hnx
            clear hok hnx
            go_wp2_with (go_at_call 8; (with_reducible refine (HIS.out _).mono ?_); rintro e w3 ⟨rfl, hb3⟩)
            go_round
            case rel => exact ⟨i + 1, by omega, by go_num, by rw [HNX.out], hb.trans (below_via (by go_grown) hb3 |>.mono hsz)⟩
            case measure => (simp [intOf]; omega)
          · rw [if_pos ⟨rfl, hok⟩] at hnx
            rw [decide_eq_false hok] at HIS
            have HNX := Lib.hid hnx
            clear hok hnx
            go_wp2_with (go_at_call 8; (with_reducible refine (HIS.out _).mono ?_); rintro e w3 ⟨rfl, hb3⟩)
            go_round
            case rel => exact ⟨i + 1, by omega, by go_num, by rw [HNX.out], hb.trans (below_via (by go_grown) hb3 |>.mono hsz)⟩
            case measure => (simp [intOf]; omega)
        · rw [if_neg (fun e => hx0 e.1)] at hnx
          have HNX := Lib.hid hnx
          have hxb : (xv == 0) = false := by simp [hx0]
          clear hnx hx0
          go_wp2
          go_round
          case rel => exact ⟨i + 1, by omega, by go_num, by rw [HNX.out], hb.trans (by go_grown)⟩
          case measure => (simp [intOf]; omega)
      · obtain rfl : i = vl := by omega
        rw [HX1.out]
        by_cases hc0 : ck = 0
        · subst hc0
          obtain ⟨n, rfl, hn1, hn6, hc1, hk⟩ := ckSpan_ok HCK.out
          obtain rfl : n = i := by rw [← HVL.out]; exact hk.1.symm
          have HLE := Lib.hid (HL0.out rfl)
          have HSP := Lib.hid (spans_any n A VA len cap vcap p hv wr (HP.out wr hb0) (HH.out wr hb0) HL.out hc1 hk)
          obtain rfl : ll = len := by rw [← HLL.out, (HL0.out rfl).2.sol.ok.1]; exact HL.out
          have HCKP := Lib.hid hc1
          have HRS := Lib.hid hk
          clear hc1 hk
          go_wp2_with (go_at_call 12; (with_reducible refine HSP.out.mono ?_); rintro e w3 ⟨⟨g, X, cs, rfl, hkn, hle⟩, hb3⟩)
          have hXL : L = X := LeastG.one (spF_ok HCKP.out HRS.out) HLE.out.2 hle
          have HOK := Lib.hid hle.sol.ok
          subst hXL
          obtain ⟨wo, rfl⟩ : ∃ wo : World, wo = wr := ⟨_, rfl⟩
          have hb12 : Below w1.heap.size w1 w3 := (HB2.out.trans (hb.mono HB2.out.size)).trans (hb3.mono (Nat.le_trans HB2.out.size hsz))
          have hb03 : Below w.heap.size w w3 := hb0.trans (hb3.mono hb0.size)
          have HRD := Lib.hid ((HLE.out.1.below hb12 (Nat.le_refl _)).more hb12.size)
          have HKN := Lib.hid hkn
          have hm2 := hm
          unfold maxLen at hm2
          have hs3 := hb03.size
          clear hkn hb12 hlt
          go_wp2
          go_loopw [13] (fun z wr => ∃ j : Nat, j ≤ ll ∧ z = .int .i64 j ∧ Below w3.heap.size w3 wr) (fun z _ => ll - (intOf z).toNat)
          case atStart => exact ⟨0, Nat.zero_le _, rfl, Below.refl _ _⟩
          case round =>
            obtain ⟨j, hj, rfl, hb4⟩ := hrel
            have hs4 := hb4.size
            by_cases hjt : j < ll
            · obtain ⟨ad, row, Ar, cr, rfl, hbl, hr, hcl, hrow⟩ := ((HRD.out.below hb4 (Nat.le_refl _)).more hs4).at_ (k := j) (by rw [HLL.out]; exact hjt)
              have hkn := HKN.out.below hb4
              obtain ⟨Aw, cw, hcs, hrw⟩ := hkn.row hr
              have q2 := hkn.own.cell hcs
              have hql2 := hkn.own.lt
              have hrl : row.length ≤ maxLen := by
                have := HOK.out.2 j
                rw [List.getD_eq_getElem?_getD, hr] at this
                rcases this with h | h
                · have h : row = [] := h; rw [h]; exact Nat.zero_le _
                · have h : RSp n row := h; rw [h.1]; unfold maxLen; omega
              have HSL := Lib.hid (fun (Z : World) (hZ : Below wr.heap.size wr Z) => spanLists_any Ar Aw row.length row.length cr cw row row Z ((RdM.below hrow hZ (Nat.le_refl _)).more hZ.size) ((RdM.below hrw hZ (Nat.le_refl _)).more hZ.size) rfl rfl hrl hrl)
              rw [decide_eq_true (rfl : row = row)] at HSL
              obtain ⟨rl, hrl2⟩ : ∃ rl, row.length = rl := ⟨_, rfl⟩
              rw [hrl2] at q2 hcl HSL
              clear hr hkn hcs hrow hrw hrl hrl2
              go_upto_region 7 with fail
              go_region_with (go_at_call 13; (with_reducible refine (HSL.out _ (by go_grown)).mono ?_); rintro e w7 ⟨rfl, hb7⟩; have hb17 : Below wr.heap.size wr w7 := below_via (by go_grown) hb7)
              all_goals (
                go_wp2
                go_round
                case rel => exact ⟨j + 1, by omega, by go_num, hb4.trans (hb17.mono hs4)⟩
                case measure => (simp [intOf]; omega))
            · go_wp2
              go_ret
              exact ⟨ret_bool (by simp), hb03.trans (hb4.mono hs3)⟩
        · have HN := Lib.hid (HL1.out hc0)
          obtain rfl : ll = 0 := by rw [← HLL.out, HN.out]; rfl
          have hcb : (ck != 0) = true := by simp [hc0]
          clear hc0
          go_wp2
          go_ret
          exact ⟨ret_bool (by simp), hb0⟩)

set_option maxRecDepth 100000 in
theorem lawSpanTells_lifted (os : Os) (started : os.Started) (H : Type) (enc : TypeId × Value → H) :
    ReturnsInHanded {} Try.checked os 4 .any (Rows.spanTellsSpec.pre6 enc Try.prog Try.f4 Rows.spanTellsRow.domain false) (Rows.spanTellsSpec.post enc Try.prog Try.f4 false true false false) := by
  refine returnsInHanded_of_change_sized (C := Try.checked) Try.own started (by kernel_rfl) Try.func4
    (ChangeSpec.witness6 (enc := enc) (C := Try.checked) false ⟨#[], #[.int .i64 0, .slice none 0 0, .slice none 0 0], []⟩ 8 (by kernel_rfl) (by kernel_rfl) (by kernel_rfl) (by kernel_rfl)) ?_
  intro W base args ds gs before hval0 hW hcnd hsz _
  have hval : ∀ (j : Nat) t v, Try.f4.params[j]? = some t → args[j]? = some v → Value.okWide Try.prog W .any base t v := hval0
  have hW' := hW
  obtain ⟨p, q, hA0, hV, rfl, hfz, hnd⟩ := hW
  have hA : DataW.TrodAll enc Try.prog W 0 (fun _ => true) true Try.f4.params.toList args.toList ds p := hA0
  obtain ⟨hgs, _⟩ := trodVars_none hV
  rw [Try.params4] at hA hval
  obtain ⟨v0, vs0, d0, ds0, p0, q0, hargs, rfl, rfl, h0, r0⟩ := trodAll_cons hA
  obtain ⟨v1, vs1, d1, ds1, p1, q1, rfl, rfl, rfl, h1, r1⟩ := trodAll_cons r0
  obtain ⟨v2, vs2, d2, ds2, p2, q2, rfl, rfl, rfl, h2, r2⟩ := trodAll_cons r1
  obtain ⟨rfl, rfl, rfl⟩ := trodAll_nil r2
  have hargs2 : args = #[v0, v1, v2] := Array.toList_inj.1 hargs
  subst hargs2
  obtain ⟨a0, rfl, _, _, w0⟩ := open_int Try.underlying3 (hval 0 3 v0 rfl rfl) h0
  obtain ⟨A1, c1, l1, rfl, lc1, cm1, x1, g1⟩ := open_progA (reach_at hsz (j := 1) (t := 30) (by rw [Try.params4]; rfl) rfl) (hval 1 30 v1 rfl rfl) h1
  have b1 := len_reach Try.underlying30 (hval 1 30 _ rfl rfl) h1 hsz (j := 1) (by rw [Try.params4]; rfl) rfl
  rw [show Try.prog.bytesOf (Try.prog.elem 30) = 48 from by kernel_rfl] at b1
  obtain ⟨A2, c2, l2, rfl, lc2, cm2, x2, r2⟩ := open_spansA (hval 2 31 v2 rfl rfl) h2
  have b2 := len_reach Try.underlying31 (hval 2 31 _ rfl rfl) h2 hsz (j := 2) (by rw [Try.params4]; rfl) rfl
  rw [show Try.prog.bytesOf (Try.prog.elem 31) = 16 from by kernel_rfl] at b2
  refine (lawSpanTells_any spInIs a0 A1 A2 c1 c2 l1 l2 _ x1 x2 (by omega) g1 (by omega)).mono fun e W' ⟨he, hb⟩ => ?_
  subst he
  exact ⟨_, rfl, law_post Try.laidOut rfl (by kernel_rfl) Try.underlying4 ⟨rfl, rfl, rfl⟩ (by kernel_rfl) hW' hb⟩

theorem spanTells_holds : Rows.SpanTellsSaid :=
  OpenClaim.holds_of_wide 4 Try.f4 rfl rfl rfl rfl rfl rfl rfl ⟨rfl, rfl, rfl, rfl, rfl⟩ rfl rfl rfl rfl rfl (by kernel_rfl) Try.func4 (show joinedFacts Try.prog 4 Try.f4 Rows.spanTellsSpec Rows.spanTellsRow = true from (by unfold joinedFacts; (repeat' (with_reducible refine and_both ?_ ?_)) <;> first | (with_reducible exact may_enter) | ((with_reducible refine make_ok ?_); rfl) | ((with_reducible refine lifts_ok ?_); rfl) | kernel_rfl))
    (of_decide_eq_true (by kernel_rfl)) (by unfold Func.isWrapper; rw [if_neg (of_decide_eq_false (by kernel_rfl))]; exact ⟨rfl, rfl⟩)
    (fun os started H enc _ => lawSpanTells_lifted os started H enc)

end Go.Proofs.Ytidjnmigbhaekaa
