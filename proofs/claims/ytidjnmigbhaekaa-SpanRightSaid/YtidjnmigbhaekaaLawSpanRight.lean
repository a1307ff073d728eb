/-
  Whatever lies in the spans at the beginning lies, wherever a run comes, in the spans that span.In tells there (R2).
-/
import Derived.Test.YtidjnmigbhaekaaLawSpan
import Derived.Test.YtidjnmigbhaekaaSpanIn
import Derived.Test.YtidjnmigbhaekaaBlockRef
import Derived.Test.YtidjnmigbhaekaaBlockIs
import Derived.Test.YtidjnmigbhaekaaBlockDo
import Derived.Test.YtidjnmigbhaekaaTermed
import Derived.Deep.RegionWith
import Derived.BigQuiet
namespace Go.Proofs.Ytidjnmigbhaekaa
open Go.RowKit Go.ChangeShapes Go.WideShapes Go.ChangeAt Go.Deep
set_option linter.unusedSimpArgs false
set_option linter.unusedVariables false
set_option maxRecDepth 100000

theorem getD_spI {α : Type} {l : List α} {i : Nat} {a d : α} (h : l[i]? = some a) : l.getD i d = a := by rw [List.getD_eq_getElem?_getD, h]; rfl

theorem below_drewS {B : Nat} {X Y : World} (h : Below B X Y) (q : Nat) : Below B X (Y.drewN q) := ⟨h.os, h.tape, h.output, h.size, h.block⟩

/-- on the way of a run: what is left of it begins here, with values within what is told -/
def OnSp (n : Nat) (p : List Bk) (L : List (List (Int × Int))) (l : List Nat) (k : Nat) (v : List Int) : Prop :=
  ValsOk n v ∧ ∀ i : Nat, l[k]? = some i → i < p.length ∧ AsIn L i v ∧ ∃ (f : Nat) (x : List Int), goP p f (i : Int) v = some (x, l.drop k)

theorem OnSp.start {n : Nat} {p : List Bk} {st : List (Int × Int)} {L : List (List (Int × Int))} {hv x : List Int} {l : List Nat} (hp : ckProg n p = 0) (hk : RSp n st) (hs : SolG (spF n p st) L) (hvo : ValsOk n hv) (hin : InRow hv st) (h : goP p 200 0 hv = some (x, l)) : OnSp n p L l 0 hv := by
  have hpl : 0 < p.length := by
    have := (ckProg_bd hp).2.2.1
    omega
  refine ⟨hvo, fun i hi => ?_⟩
  obtain ⟨r, rfl, _⟩ := goP_way hp 200 0 hv x l hpl hvo h
  simp at hi
  subst hi
  exact ⟨hpl, AsIn.start hp hk hs hin, 200, x, h⟩

theorem OnSp.step {n : Nat} {p : List Bk} {st : List (Int × Int)} {L : List (List (Int × Int))} {v : List Int} {l : List Nat} {k i : Nat} {b : Bk} (hp : ckProg n p = 0) (hs : SolG (spF n p st) L) (h : OnSp n p L l k v) (hi : l[k]? = some i) (hb : p[i]? = some b) : OnSp n p L l (k + 1) (doS b.code v) := by
  obtain ⟨hvo, h⟩ := h
  obtain ⟨hip, hak, f, x, hg⟩ := h i hi
  have hok := ckProg_at hp hb
  have hvo2 := doS_ok hok.code hvo
  refine ⟨hvo2, fun j hj => ?_⟩
  have hd : l.drop k = i :: l.drop (k + 1) := by
    rw [List.drop_eq_getElem_cons (List.getElem?_eq_some_iff.1 hi).1, (List.getElem?_eq_some_iff.1 hi).2]
  cases f with
  | zero => rw [goP_zero] at hg; cases hg
  | succ f =>
    rw [goP_step hb, hd] at hg
    cases hg2 : goP p f (goB b (doS b.code v)) (doS b.code v) with
    | none => rw [hg2] at hg; cases hg
    | some y =>
      obtain ⟨x2, l2⟩ := y
      rw [hg2] at hg
      simp only [Option.map_some, Option.some.injEq, Prod.mk.injEq, List.cons.injEq, true_and] at hg
      obtain ⟨rfl, rfl⟩ := hg
      rcases goB_lt hok (doS b.code v) with e | ⟨j2, e, hj2⟩
      · rw [e, goP_stop] at hg2
        simp only [Option.some.injEq, Prod.mk.injEq] at hg2
        have h0 : (l.drop (k + 1))[0]? = some j := by rw [List.getElem?_drop]; exact hj
        rw [← hg2.2] at h0
        simp at h0
      · rw [e] at hg2
        obtain ⟨r, hr, _⟩ := goP_way hp f j2 _ _ _ hj2 hvo2 hg2
        have h0 : (l.drop (k + 1))[0]? = some j := by rw [List.getElem?_drop]; exact hj
        rw [hr] at h0
        simp at h0
        subst h0
        exact ⟨hj2, AsIn.next hp hs hb hak e, f, _, hg2⟩

set_option maxHeartbeats 16000000 in
theorem lawSpanRight_any (K : SpInIs) (K2 : GoIs) (vars : Int) (A SA HA : Option Addr) (cap sc hc : Nat) (p : List Bk) (st : List (Int × Int)) (hv : List Int) (w : World) (hx : RdP w w.heap.size A p) (hs : RdM w w.heap.size SA st) (hh : RdI w w.heap.size HA hv) (hm : p.length ≤ maxLen) (hin : ∀ b ∈ p, InBk b) (hsm : st.length ≤ maxLen) (hhm : hv.length ≤ maxLen) :
    Calls Try.prog 6 #[.int .i64 vars, .slice A p.length cap, .slice SA st.length sc, .slice HA hv.length hc] w fun e w' => e = .returned (.bool true) ∧ Below w.heap.size w w' := by
  obtain ⟨len, hl⟩ : ∃ len, p.length = len := ⟨_, rfl⟩
  have HL := Lib.hid hl
  rw [hl] at hm ⊢
  obtain ⟨sl, hsl⟩ : ∃ k, st.length = k := ⟨_, rfl⟩
  have HSL := Lib.hid hsl
  rw [hsl] at hsm ⊢
  obtain ⟨hl2, hhl⟩ : ∃ k, hv.length = k := ⟨_, rfl⟩
  have HHL := Lib.hid hhl
  rw [hhl] at hhm ⊢
  by_cases hck : ckSpan vars p st = 0
  · obtain ⟨n, rfl, hn1, hn6, hc1, hk⟩ := ckSpan_ok hck
    obtain ⟨_, _, b3, b4, b5, _⟩ := ckProg_bd hc1
    rw [hl] at b3 b4
    obtain rfl : n = sl := by rw [← hsl]; exact hk.1.symm
    have HC1 := Lib.hid hc1
    have HK := Lib.hid hk
    have HIN := Lib.hid (K.in_ n A SA len cap sc p st w hx hs hl hc1 hk)
    have HPC := Lib.hid (fun (Z : World) (hZ : Below w.heap.size w Z) => refProgCheck_any n A len cap p Z ((hx.below hZ (Nat.le_refl _)).more hZ.size) hl hm hin)
    rw [hc1] at HPC
    have HX := Lib.hid (fun (Z : World) (hZ : Below w.heap.size w Z) => (hx.below hZ (Nat.le_refl _)).more hZ.size)
    have HS := Lib.hid (fun (Z : World) (hZ : Below w.heap.size w Z) => (RdM.below hs hZ (Nat.le_refl _)).more hZ.size)
    have HH := Lib.hid (fun (Z : World) (hZ : Below w.heap.size w Z) => (hh.below hZ (Nat.le_refl _)).more hZ.size)
    clear hck hc1 hk hl hin hsl hhl hx hs hh
    by_cases hg : ckHave n hv = 0
    · have hvo := valsOk_of hg
      have HVO := Lib.hid hvo
      obtain rfl : n = hl2 := by rw [← HHL.out]; exact hvo.1.symm
      have hgb : (ckHave n hv == 0) = true := by simp [hg]
      have HGV := Lib.hid (fun (Z : World) (hZ : Below w.heap.size w Z) => given_any n HA n hc hv Z.heap.size Z (HH.out Z hZ) HHL.out hhm)
      rw [hgb] at HGV
      clear hvo hg hgb
      go_enter Try.func6, Try.ntmps6
      go_wp2_with fail
      refine HIN.out.mono ?_
      rintro e w1 ⟨⟨A1, c1, L, rfl, hrg, hle⟩, hb1⟩
      have HLS := Lib.hid hle.sol
      obtain ⟨ll, hll⟩ : ∃ ll, L.length = ll := ⟨_, rfl⟩
      obtain rfl : ll = len := by rw [← hll, hle.sol.ok.1]; exact HL.out
      have HLL := Lib.hid hll
      have HRG := Lib.hid hrg
      try rw [hll]
      clear hll hrg hle
      have hs1 := hb1.size
      go_wp2_with (go_at_call 11; (with_reducible refine (HPC.out _ hb1).mono ?_); rintro e w2 ⟨rfl, hb2⟩; have hb02 := hb1.trans (hb2.mono hs1))
      refine (HGV.out _ hb02).mono ?_
      rintro e w2' ⟨rfl, rfl⟩
      have hs2 := hb02.size
      have HB12 := Lib.hid hb2
      clear hb1 hb2
      go_wp2
      go_loopw [55] (fun z wr => ∃ i : Nat, i ≤ n ∧ z = .int .i64 i ∧ Hid (∀ j, j < i → InSp (hv.getD j 0) (st.getD j spD)) ∧ Below w2.heap.size w2 wr) (fun z _ => n - (intOf z).toNat)
      case atStart => exact ⟨0, Nat.zero_le _, rfl, Lib.hid (fun j h => absurd h (Nat.not_lt_zero _)), Below.refl _ _⟩
      case round =>
        obtain ⟨i, hi, rfl, HI, hb⟩ := hrel
        have hsz := hb.size
        have hb0 : Below w.heap.size w wr := hb02.trans (hb.mono hs2)
        by_cases hlt : i < n
        · obtain ⟨ad, s0, s1, rfl, hbl, hd, hc0, hc1⟩ := RdM.at_ (HS.out wr hb0) (k := i) (by rw [HSL.out]; exact hlt)
          obtain ⟨ad2, x, rfl, hbl2, hd2, hc2⟩ := (HH.out wr hb0).at_ (k := i) (by rw [HHL.out]; exact hlt)
          by_cases x1 : x < s0
          · have f1 : decide (x < s0) = true := by simp [x1]
            clear hd hd2 x1
            go_wp2
            go_quiet (fail)
            go_wp2
            go_ret
            exact ⟨ret_bool (by simp), hb0.trans (below_drewS (by go_grown) _)⟩
          · have f1 : decide (x < s0) = false := by simp; omega
            by_cases x2 : s1 < x
            · have f2 : decide (s1 < x) = true := by simp [x2]
              clear hd hd2 x1 x2
              go_wp2
              go_quiet (fail)
              go_wp2
              go_ret
              exact ⟨ret_bool (by simp), hb0.trans (below_drewS (by go_grown) _)⟩
            · have f2 : decide (s1 < x) = false := by simp; omega
              have HI2 : Hid (∀ j, j < i + 1 → InSp (hv.getD j 0) (st.getD j spD)) := Lib.hid fun j hj => by
                rcases Nat.lt_or_ge j i with h | h
                · exact HI.out j h
                · obtain rfl : j = i := by omega
                  rw [getD_spI hd2, getD_spI hd]
                  exact ⟨by simp only; omega, by simp only; omega⟩
              clear hd hd2 x1 x2
              go_wp2
              go_quiet (fail)
              go_wp2
              go_round
              case rel => exact ⟨i + 1, by omega, by go_num, HI2, hb.trans (below_drewS (by go_grown) _)⟩
              case measure => (simp [intOf]; omega)
        · have HIR : Hid (InRow hv st) := Lib.hid ⟨by rw [HHL.out, HSL.out], fun k hk => HI.out k (by rw [HSL.out] at hk; omega)⟩
          obtain ⟨wo, rfl⟩ : ∃ wo : World, wo = wr := ⟨_, rfl⟩
          have hso := hb0.size
          go_wp2_with fail
          refine (K2.run n A HA ll cap hc p hv _ (HX.out _ hb0) (HH.out _ hb0) HL.out HC1.out HVO.out).mono ?_
          rintro e w3 ⟨hrt, hb3⟩
          have hb03 : Below w.heap.size w w3 := hb0.trans (hb3.mono hso)
          have hs3 := hb03.size
          have hb13 : Below w1.heap.size w1 w3 := (HB12.out.trans (hb.mono HB12.out.size)).trans (hb3.mono (Nat.le_trans HB12.out.size hsz))
          have HRD := Lib.hid ((HRG.out.below hb13 (Nat.le_refl _)).more hb13.size)
          have HP3 := Lib.hid (HX.out _ hb03)
          clear hb13 hlt hi
          rcases hrt with ⟨hr, B1, B2, d1, d2, rfl⟩ | ⟨x, l, B1, B2, d1, d2, hr, rfl, hr1, hr2⟩
          · go_wp2
            go_ret
            exact ⟨ret_bool (by simp), hb03⟩
          · obtain ⟨r0, hlr, hrw, hll, hxo⟩ := goP_way HC1.out 200 0 hv x l (by rw [HL.out]; omega) HVO.out hr
            have HOW := Lib.hid (OnSp.start HC1.out HK.out HLS.out HVO.out HIR.out hr)
            obtain ⟨lw, hlw⟩ : ∃ lw, l.length = lw := ⟨_, rfl⟩
            have HLW := Lib.hid hlw
            have HR2 := Lib.hid hr2
            have hrv3 := HH.out _ hb03
            rw [hlw] at hll ⊢
            clear hr hlr hrw hxo hlw hr1 hr2
            go_wp2
            go_loopw [89, 3] (fun z va wr => ∃ (k : Nat) (v : List Int) (VA : Option Addr) (vc : Nat), k ≤ lw ∧ z = .int .i64 k ∧ va = .slice VA n vc ∧ OnSp n p L l k v ∧ RdI wr wr.heap.size VA v ∧ Below w3.heap.size w3 wr) (fun z _ _ => lw - (intOf z).toNat)
            case atStart => exact ⟨0, hv, HA, hc, Nat.zero_le _, rfl, rfl, HOW.out, hrv3, Below.refl _ _⟩
            case round =>
              obtain ⟨wp, rfl⟩ : ∃ wp, wp = wr := ⟨_, rfl⟩
              obtain ⟨k, v, VA, vc, hk, rfl, rfl, how, hrv, hbo⟩ := hrel
              have HO := Lib.hid how
              have HVL := Lib.hid how.1.1
              have hszo := hbo.size
              clear how hrv3
              by_cases hlt : k < lw
              · obtain ⟨i, hi⟩ : ∃ i, l[k]? = some i := ⟨_, List.getElem?_eq_getElem (by rw [HLW.out]; exact hlt)⟩
                obtain ⟨hil, hak, _⟩ := HO.out.2 i hi
                rw [HL.out] at hil
                obtain ⟨ap, x1, rfl, hbl1, hd1, hcl1⟩ := (HR2.out.below hbo (Nat.le_refl _)).at_ (k := k) (by simp [ni, HLW.out]; omega)
                rw [ni_at hi] at hd1
                injection hd1 with hd1
                subst hd1
                obtain ⟨an, row, Ar, cr, rfl, hbl3, hd3, hcl3, hrow3⟩ := ((HRD.out.below hbo (Nat.le_refl _)).more hszo).at_ (k := i) (by rw [HLL.out]; exact hil)
                have hrow := hak.2
                rw [getD_spI hd3] at hrow
                have hrl : row.length = n := by rw [← hrow.1]; exact HVL.out
                rw [hrl] at hcl3
                have HRL := Lib.hid hrl
                have HROW := Lib.hid hrow
                obtain ⟨ab, ⟨code, te, th, el⟩, Ac, cc, rfl, hbl4, hd4, hrow4, hq0, hq1, hq2, hq3⟩ := ((HP3.out.below hbo (Nat.le_refl _)).more hszo).at_ (k := i) (by rw [HL.out]; exact hil)
                have hnext := HO.out.step HC1.out HLS.out hi hd4
                have hcode := (ckProg_at HC1.out hd4).code
                have hcm := manyS_le hd4
                simp only [] at hq0 hcm hcode hrow4 hnext
                have HNX := Lib.hid hnext
                have HCD := Lib.hid hcode
                obtain ⟨cl, hcl⟩ : ∃ cl, code.length = cl := ⟨_, rfl⟩
                rw [hcl] at hq0 hcm
                have HCL := Lib.hid hcl
                have hclm : cl ≤ 65536 := by omega
                have HRW3 := Lib.hid hrow3
                have HRW4 := Lib.hid hrow4
                have HRV := Lib.hid hrv
                have hblp : (ab.add (i * 4)).block < wp.heap.size := hbl4
                clear hi hak hd3 hd4 hrow hrl hnext hcode hcl hrow3 hrow4 hq1 hq2 hq3 hrv
                go_wp2
                go_loopw [105] (fun z wr => ∃ j : Nat, j ≤ n ∧ z = .int .i64 j ∧ Below wp.heap.size wp wr) (fun z _ => n - (intOf z).toNat)
                case atStart => exact ⟨0, Nat.zero_le _, rfl, Below.refl _ _⟩
                case round =>
                  obtain ⟨j, hj, rfl, hbj⟩ := hrel
                  have hsj := hbj.size
                  by_cases hjt : j < n
                  · obtain ⟨ad, s0, s1, rfl, hbl5, hd5, hc0, hc1⟩ := RdM.at_ ((RdM.below HRW3.out hbj (Nat.le_refl _)).more hsj) (k := j) (by rw [HRL.out]; exact hjt)
                    obtain ⟨ad2, y, rfl, hbl6, hd6, hc2⟩ := ((HRV.out.below hbj (Nat.le_refl _)).more hsj).at_ (k := j) (by rw [HVL.out]; exact hjt)
                    have hxy := HROW.out.2 j (by rw [HRL.out]; exact hjt)
                    rw [getD_spI hd6, getD_spI hd5] at hxy
                    have hxy1 : s0 ≤ y := hxy.1
                    have hxy2 : y ≤ s1 := hxy.2
                    have f1 : decide (y < s0) = false := by simp; omega
                    have f2 : decide (s1 < y) = false := by simp; omega
                    clear hd5 hd6 hxy
                    go_wp2
                    go_quiet (fail)
                    go_wp2
                    go_round
                    case rel => exact ⟨j + 1, by omega, by go_num, hbj.trans (below_drewS (by go_grown) _)⟩
                    case measure => (simp [intOf]; omega)
                  · have hb3j : Below w3.heap.size w3 wr := hbo.trans (hbj.mono hszo)
                    have hq0' := (hbj.cell hblp).trans hq0
                    have hblw := Nat.lt_of_lt_of_le hblp hsj
                    have hr4 := (HRW4.out.below hbj (Nat.le_refl _)).more hsj
                    have hrv4 := (HRV.out.below hbj (Nat.le_refl _)).more hsj
                    clear hq0
                    go_wp2_with fail
                    refine (refDoing_any n Ac VA cl cc vc code v _ hr4 hrv4 HCL.out hclm HCD.out HO.out.1 hn1 (by omega)).mono ?_
                    rintro e w9 ⟨g9, c9, rfl, hown9, hb9⟩
                    have hrd9 : RdI w9 w9.heap.size (some ⟨g9, 0, none⟩) (doS code v) := own_rdI hown9 HNX.out.1.1
                    clear hown9
                    go_wp2
                    go_round
                    case rel => exact ⟨k + 1, _, _, c9, by omega, by go_num, rfl, HNX.out, hrd9, hb3j.trans (hb9.mono (Nat.le_trans hszo hsj))⟩
                    case measure => (simp [intOf]; omega)
              · go_wp2
                go_ret
                exact ⟨ret_bool (by simp), hb03.trans (hbo.mono hs3)⟩
    · have hgb : (ckHave n hv == 0) = false := by simp [hg]
      have HGV := Lib.hid (fun (Z : World) (hZ : Below w.heap.size w Z) => given_any n HA hl2 hc hv Z.heap.size Z (HH.out Z hZ) HHL.out hhm)
      rw [hgb] at HGV
      clear hg hgb
      go_enter Try.func6, Try.ntmps6
      go_wp2_with fail
      refine HIN.out.mono ?_
      rintro e w1 ⟨⟨A1, c1, L, rfl, hrg, hle⟩, hb1⟩
      obtain ⟨ll, hll⟩ : ∃ ll, L.length = ll := ⟨_, rfl⟩
      obtain rfl : ll = len := by rw [← hll, hle.sol.ok.1]; exact HL.out
      try rw [hll]
      clear hll hrg hle
      have hs1 := hb1.size
      go_wp2_with (go_at_call 11; (with_reducible refine (HPC.out _ hb1).mono ?_); rintro e w2 ⟨rfl, hb2⟩; have hb02 := hb1.trans (hb2.mono hs1))
      refine (HGV.out _ hb02).mono ?_
      rintro e w2' ⟨rfl, rfl⟩
      go_wp2
      go_ret
      exact ⟨ret_bool (by simp), hb02⟩
  · have HIB := Lib.hid (K.inBad vars A SA len cap sl sc p st w hx hs hl hm hin hsl hsm hck)
    obtain ⟨c, hce⟩ : ∃ c, ckSpan vars p st = c := ⟨_, rfl⟩
    rw [hce] at HIB hck
    have hne : (c != 0) = true := by simp [hck]
    clear hck hl hin hce hsl hhl
    go_enter Try.func6, Try.ntmps6
    go_wp2_with fail
    refine HIB.out.mono ?_
    rintro e w1 ⟨⟨A1, c1, rfl⟩, hb1⟩
    go_wp2
    go_ret
    exact ⟨ret_bool (by simp), hb1⟩

set_option maxRecDepth 100000 in
theorem lawSpanRight_lifted (os : Os) (started : os.Started) (H : Type) (enc : TypeId × Value → H) :
    ReturnsInHanded {} Try.checked os 6 .any (Rows.spanRightSpec.pre6 enc Try.prog Try.f6 Rows.spanRightRow.domain false) (Rows.spanRightSpec.post enc Try.prog Try.f6 false true false false) := by
  refine returnsInHanded_of_change_sized (C := Try.checked) Try.own started (by kernel_rfl) Try.func6
    (ChangeSpec.witness6 (enc := enc) (C := Try.checked) false ⟨#[], #[.int .i64 0, .slice none 0 0, .slice none 0 0, .slice none 0 0], []⟩ 8 (by kernel_rfl) (by kernel_rfl) (by kernel_rfl) (by kernel_rfl)) ?_
  intro W base args ds gs before hval0 hW hcnd hsz _
  have hval : ∀ (j : Nat) t v, Try.f6.params[j]? = some t → args[j]? = some v → Value.okWide Try.prog W .any base t v := hval0
  have hW' := hW
  obtain ⟨p, q, hA0, hV, rfl, hfz, hnd⟩ := hW
  have hA : DataW.TrodAll enc Try.prog W 0 (fun _ => true) true Try.f6.params.toList args.toList ds p := hA0
  obtain ⟨hgs, _⟩ := trodVars_none hV
  rw [Try.params6] at hA hval
  obtain ⟨v0, vs0, d0, ds0, p0, q0, hargs, rfl, rfl, h0, r0⟩ := trodAll_cons hA
  obtain ⟨v1, vs1, d1, ds1, p1, q1, rfl, rfl, rfl, h1, r1⟩ := trodAll_cons r0
  obtain ⟨v2, vs2, d2, ds2, p2, q2, rfl, rfl, rfl, h2, r2⟩ := trodAll_cons r1
  obtain ⟨v3, vs3, d3, ds3, p3, q3, rfl, rfl, rfl, h3, r3⟩ := trodAll_cons r2
  obtain ⟨rfl, rfl, rfl⟩ := trodAll_nil r3
  have hargs2 : args = #[v0, v1, v2, v3] := Array.toList_inj.1 hargs
  subst hargs2
  obtain ⟨a0, rfl, _, _, w0⟩ := open_int Try.underlying3 (hval 0 3 v0 rfl rfl) h0
  obtain ⟨A1, c1, l1, rfl, lc1, cm1, x1, g1⟩ := open_progA (reach_at hsz (j := 1) (t := 30) (by rw [Try.params6]; rfl) rfl) (hval 1 30 v1 rfl rfl) h1
  have b1 := len_reach Try.underlying30 (hval 1 30 _ rfl rfl) h1 hsz (j := 1) (by rw [Try.params6]; rfl) rfl
  rw [show Try.prog.bytesOf (Try.prog.elem 30) = 48 from by kernel_rfl] at b1
  obtain ⟨A2, c2, l2, rfl, lc2, cm2, x2, r2⟩ := open_spansA (hval 2 31 v2 rfl rfl) h2
  have b2 := len_reach Try.underlying31 (hval 2 31 _ rfl rfl) h2 hsz (j := 2) (by rw [Try.params6]; rfl) rfl
  rw [show Try.prog.bytesOf (Try.prog.elem 31) = 16 from by kernel_rfl] at b2
  obtain ⟨A3, c3, l3, rfl, lc3, cm3, x3, r3⟩ := open_intsA (hval 3 41 v3 rfl rfl) h3
  have b3 := len_reach Try.underlying41 (hval 3 41 _ rfl rfl) h3 hsz (j := 3) (by rw [Try.params6]; rfl) rfl
  rw [show Try.prog.bytesOf (Try.prog.elem 41) = 8 from by kernel_rfl] at b3
  refine (lawSpanRight_any spInIs goIs a0 A1 A2 A3 c1 c2 c3 l1 l2 l3 _ x1 x2 x3 (by omega) g1 (by omega) (by omega)).mono fun e W' ⟨he, hb⟩ => ?_
  subst he
  exact ⟨_, rfl, law_post Try.laidOut rfl (by kernel_rfl) Try.underlying4 ⟨rfl, rfl, rfl⟩ (by kernel_rfl) hW' hb⟩

theorem spanRight_holds : Rows.SpanRightSaid :=
  OpenClaim.holds_of_wide 6 Try.f6 rfl rfl rfl rfl rfl rfl rfl ⟨rfl, rfl, rfl, rfl, rfl⟩ rfl rfl rfl rfl rfl (by kernel_rfl) Try.func6 (show joinedFacts Try.prog 6 Try.f6 Rows.spanRightSpec Rows.spanRightRow = true from (by unfold joinedFacts; (repeat' (with_reducible refine and_both ?_ ?_)) <;> first | (with_reducible exact may_enter) | ((with_reducible refine make_ok ?_); rfl) | ((with_reducible refine lifts_ok ?_); rfl) | kernel_rfl))
    (of_decide_eq_true (by kernel_rfl)) (by unfold Func.isWrapper; rw [if_neg (of_decide_eq_false (by kernel_rfl))]; exact ⟨rfl, rfl⟩)
    (fun os started H enc _ => lawSpanRight_lifted os started H enc)

end Go.Proofs.Ytidjnmigbhaekaa
