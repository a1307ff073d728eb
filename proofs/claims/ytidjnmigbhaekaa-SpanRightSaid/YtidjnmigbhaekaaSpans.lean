/-
  codemasonref.Spans (R2): the least solution.
-/
import Derived.Test.YtidjnmigbhaekaaSpanStep
import Derived.Deep.RegionWith
namespace Go.Proofs.Ytidjnmigbhaekaa
open Go.RowKit
set_option linter.unusedSimpArgs false
set_option linter.unusedVariables false
set_option maxRecDepth 100000

/-! ### weights, out of the world -/

def cntSp (w : World) (ad : Addr) (m : Nat) : Nat := ((List.range m).map fun j => match w.cell? (ad.add (j * 2)), w.cell? (ad.add (j * 2 + 1)) with
  | some (.int .i64 lo), some (.int .i64 hi) => (255 + lo - hi).toNat
  | _, _ => 0).sum

def cntSG (top : Nat) (w : World) : Value → Nat
  | .slice (some ad) len _ => ((List.range len).map fun i => match w.cell? (ad.add i) with
    | some (.slice (some a) m _) => cntSp w a m
    | _ => top).sum
  | _ => 0

theorem cntSp_eq {w : World} {h : Nat} {a : List (Int × Int)} (hr : RdM w w.heap.size (some ⟨h, 0, none⟩) a) : cntSp w ⟨h, 0, none⟩ a.length = wtSp a := by
  unfold cntSp wtSp
  refine congrArg List.sum ?_
  apply List.ext_getElem?
  intro i
  rcases Nat.lt_or_ge i a.length with hi | hi
  · rw [List.getElem?_map, List.getElem?_range hi, List.getElem?_map, List.getElem?_eq_getElem hi]
    simp only [Option.map_some, Option.some.injEq]
    obtain ⟨ad, x, y, e, _, hx, hc0, hc1⟩ := RdM.at_ hr (k := i) hi
    injection e with e
    subst e
    rw [addr_zeroS] at hc0 hc1
    rw [addr_zeroS, addr_zeroS, hc0, hc1]
    rw [List.getElem?_eq_getElem hi] at hx
    injection hx with hx
    rw [hx]
  · rw [List.getElem?_eq_none (by simpa using hi), List.getElem?_eq_none (by simpa using hi)]

theorem cntSG_eq {w : World} {n g c : Nat} {p : List Bk} {st : List (Int × Int)} {X : List (List (Int × Int))} {cs : List Value} (h : KNS w g X cs) : cntSG (n * 255 + 1) w (.slice (some ⟨g, 0, none⟩) X.length c) = wtMG (spF n p st) X := by
  unfold cntSG wtMG
  refine congrArg List.sum ?_
  apply List.ext_getElem?
  intro i
  rcases Nat.lt_or_ge i X.length with hi | hi
  · rw [List.getElem?_map, List.getElem?_range hi, List.getElem?_map, List.getElem?_eq_getElem hi]
    simp only [Option.map_some, Option.some.injEq]
    rcases h.rows i _ (List.getElem?_eq_getElem hi) with ⟨h1, h2⟩ | ⟨h1, k, c', h2, _, _, h3⟩
    · rw [addr_zeroS, h.own.cell h2, h1]
      rfl
    · rw [addr_zeroS, h.own.cell h2]
      simp only []
      rw [cntSp_eq h3]
      unfold wtG
      rw [if_neg h1]
      rfl
  · rw [List.getElem?_eq_none (by simpa using hi), List.getElem?_eq_none (by simpa using hi)]

/-- what Spans answers -/
def SpansTo (n : Nat) (p : List Bk) (st : List (Int × Int)) (len : Nat) (e : Ending) (w' : World) : Prop := ∃ g X cs, e = .returned (.slice (some ⟨g, 0, none⟩) len len) ∧ KNS w' g X cs ∧ LeastG (spF n p st) X

/-- a row as it lies -/
theorem KNS.row {w : World} {g i : Nat} {X : List (List (Int × Int))} {cs : List Value} {a : List (Int × Int)} (h : KNS w g X cs) (ha : X[i]? = some a) : ∃ A c, cs[i]? = some (.slice A a.length c) ∧ RdM w w.heap.size A a := by
  rcases h.rows i a ha with ⟨rfl, h2⟩ | ⟨_, k, c, h2, _, _, h3⟩
  · exact ⟨none, 0, h2, fun h => by simp at h⟩
  · exact ⟨_, c, h2, h3⟩

set_option maxHeartbeats 16000000 in
theorem spans_any (n : Nat) (A VA : Option Addr) (len cap vcap : Nat) (p : List Bk) (st : List (Int × Int)) (w : World) (hx : RdP w w.heap.size A p) (hh : RdM w w.heap.size VA st) (hl : p.length = len) (hc : ckProg n p = 0) (hok : RSp n st) :
    Calls Try.prog 12 #[.slice A len cap, .slice VA n vcap] w fun e w' => SpansTo n p st len e w' ∧ Below w.heap.size w w' := by
  obtain ⟨b1, b2, b3, b4, b5, _⟩ := ckProg_bd hc
  rw [hl] at b3 b4
  have hn6 : n ≤ 6 := by omega
  have HF := Lib.hid (spF_ok hc hok)
  have HL := Lib.hid hl
  have HST := Lib.hid (fun (g : Nat) (X : List (List (Int × Int))) (cs : List Value) (Z : World) (hZ : Below w.heap.size w Z) (hk : KNS Z g X cs) (hX : MatOk (spF n p st) X) => spanStep_any n A VA len cap vcap g p st X cs Z ((hx.below hZ (Nat.le_refl _)).more hZ.size) ((RdM.below hh hZ (Nat.le_refl _)).more hZ.size) hk hl hc hok hX)
  have hmk := make_nils (P := Try.prog) 32 31 Try.underlying32 (by kernel_rfl) len (by omega)
  have HK0 := Lib.hid (KlG.start HF.out)
  have HREP : Hid (List.replicate (spF n p st).m ([] : List (Int × Int)) = List.replicate len []) := Lib.hid (by rw [← hl]; rfl)
  rw [HREP.out] at HK0
  have hkn0 := KNS.start w len
  clear hl hc hok hx hh
  go_enter Try.func12, Try.ntmps12
  go_wp2
  go_loopw [5] (fun s wr => ∃ (g : Nat) (X : List (List (Int × Int))) (cs : List Value), s = .slice (some ⟨g, 0, none⟩) len len ∧ KNS wr g X cs ∧ Hid (KlG (spF n p st) X) ∧ Below w.heap.size w wr) (fun s wr => cntSG (n * 255 + 1) wr s)
  case atStart => exact ⟨_, _, _, rfl, hkn0, HK0, by go_grown⟩
  case round =>
    obtain ⟨g, X, cs, rfl, hkn, HK, hb⟩ := hrel
    have HKN := Lib.hid hkn
    have hsz := hb.size
    have hgl := hkn.own.lt
    have HSTE := Lib.hid (HST.out g X cs wr hb hkn HK.out.ok)
    have HXL : Hid (X.length = len) := Lib.hid (by rw [HK.out.ok.1]; exact HL.out)
    clear hkn hkn0
    obtain ⟨wo, rfl⟩ : ∃ wo : World, wo = wr := ⟨_, rfl⟩
    go_wp2_with (go_at_call 26; (with_reducible refine HSTE.out.mono ?_); rintro e w1 ⟨⟨G, ds, rfl, hkn1⟩, hb1⟩)
    have HYE : Hid ((spF n p st).m = len) := Lib.hid HL.out
    obtain ⟨Y, hY⟩ : ∃ Y, stpN (spF n p st) X len = Y := ⟨_, rfl⟩
    have HY : Hid (stpN (spF n p st) X (spF n p st).m = Y) := Lib.hid (by rw [HYE.out]; exact hY)
    rw [hY] at hkn1
    have HYO : Hid (MatOk (spF n p st) Y) := Lib.hid (by rw [← HY.out]; exact (stpG HF.out HK.out.ok (Nat.le_refl _)).1)
    have HYL : Hid (Y.length = len) := Lib.hid (by rw [HYO.out.1]; exact HL.out)
    have HX1 := Lib.hid (HKN.out.below hb1)
    have HY1 := Lib.hid hkn1
    have hs1 := hb1.size
    have hGl := hkn1.own.lt
    have hgl1 := HX1.out.own.lt
    clear hY hkn1
    go_wp2
    go_loopw [7, 8] (fun s z wr => ∃ (i : Nat) (b : Bool), i ≤ len ∧ z = .int .i64 i ∧ s = .bool b ∧ Hid (b = true ↔ X.take i = Y.take i) ∧ Below w1.heap.size w1 wr) (fun _ z _ => len - (intOf z).toNat)
    case atStart => exact ⟨0, true, Nat.zero_le _, rfl, rfl, Lib.hid (by simp), Below.refl _ _⟩
    case round =>
      obtain ⟨i, b, hi, rfl, rfl, HB, hb2⟩ := hrel
      have hs2 := hb2.size
      by_cases hil : i < len
      · obtain ⟨a, ha⟩ : ∃ a, X[i]? = some a := ⟨_, List.getElem?_eq_getElem (by rw [HXL.out]; exact hil)⟩
        obtain ⟨c, hc⟩ : ∃ c, Y[i]? = some c := ⟨_, List.getElem?_eq_getElem (by rw [HYL.out]; exact hil)⟩
        have HTK : Hid (X.take (i + 1) = Y.take (i + 1) ↔ X.take i = Y.take i ∧ a = c) := Lib.hid (by
          rw [List.take_add_one, List.take_add_one, ha, hc]
          constructor
          · intro h
            have := List.append_inj h (by rw [List.length_take, List.length_take, HXL.out, HYL.out])
            exact ⟨this.1, by simpa using this.2⟩
          · rintro ⟨h1, h2⟩
            rw [h1, h2])
        cases b with
        | false =>
          have HB2 : Hid (false = true ↔ X.take (i + 1) = Y.take (i + 1)) := Lib.hid (by
            rw [HTK.out]
            exact ⟨fun h => (by cases h), fun h => HB.out.2 h.1⟩)
          clear ha hc
          go_wp2
          go_region
          all_goals (
            go_wp2
            go_round
            case rel => exact ⟨i + 1, false, by omega, by go_num, rfl, HB2, hb2.trans (by go_grown)⟩
            case measure => (simp [intOf]; omega))
        | true =>
          have hkx := HX1.out.below hb2
          have hky := HY1.out.below hb2
          obtain ⟨A1, c1, hc1, hr1⟩ := hkx.row ha
          obtain ⟨A2, c2, hc2, hr2⟩ := hky.row hc
          have q1 := hkx.own.cell hc1
          have q2 := hky.own.cell hc2
          have hql1 := hkx.own.lt
          have hql2 := hky.own.lt
          have hla : a.length ≤ maxLen := by
            have := HK.out.ok.2 i
            rw [List.getD_eq_getElem?_getD, ha] at this
            rcases this with h | h
            · have h : a = [] := h; rw [h]; exact Nat.zero_le _
            · have h : RSp n a := h; rw [h.1]; unfold maxLen; omega
          have hlc : c.length ≤ maxLen := by
            have := HYO.out.2 i
            rw [List.getD_eq_getElem?_getD, hc] at this
            rcases this with h | h
            · have h : c = [] := h; rw [h]; exact Nat.zero_le _
            · have h : RSp n c := h; rw [h.1]; unfold maxLen; omega
          have HSL := Lib.hid (fun (Z : World) (hZ : Below wr.heap.size wr Z) => spanLists_any A1 A2 a.length c.length c1 c2 a c Z ((RdM.below hr1 hZ (Nat.le_refl _)).more hZ.size) ((RdM.below hr2 hZ (Nat.le_refl _)).more hZ.size) rfl rfl hla hlc)
          obtain ⟨v, hv⟩ : ∃ v, decide (a = c) = v := ⟨_, rfl⟩
          rw [hv] at HSL
          have HB2 : Hid (v = true ↔ X.take (i + 1) = Y.take (i + 1)) := Lib.hid (by
            rw [HTK.out, ← hv, decide_eq_true_eq]
            exact ⟨fun h => ⟨HB.out.1 rfl, h⟩, fun h => h.2⟩)
          obtain ⟨l1, hl1⟩ : ∃ l1, a.length = l1 := ⟨_, rfl⟩
          obtain ⟨l2, hl2⟩ : ∃ l2, c.length = l2 := ⟨_, rfl⟩
          rw [hl1] at q1 HSL
          rw [hl2] at q2 HSL
          clear ha hc hkx hky hc1 hc2 hr1 hr2 hla hlc hv hl1 hl2
          go_upto_region 7 with fail
          go_region_with (go_at_call 13; (with_reducible refine (HSL.out _ (by go_grown)).mono ?_); rintro e w7 ⟨rfl, hb7⟩; have hb17 : Below wr.heap.size wr w7 := below_via (by go_grown) hb7)
          all_goals (
            go_wp2
            go_round
            case rel => exact ⟨i + 1, v, by omega, by go_num, rfl, HB2, hb2.trans (hb17.mono hs2)⟩
            case measure => (simp [intOf]; omega))
      · have hin : i = len := by omega
        have HXY : Hid (b = true ↔ X = Y) := Lib.hid (by
          rw [HB.out, hin, List.take_of_length_le (by rw [HXL.out]; exact Nat.le_refl _), List.take_of_length_le (by rw [HYL.out]; exact Nat.le_refl _)])
        have hb02 : Below wo.heap.size wo wr := hb1.trans (hb2.mono hs1)
        have HX2 := Lib.hid (HX1.out.below hb2)
        have HY2 := Lib.hid (HY1.out.below hb2)
        clear hin
        cases b with
        | true =>
          have HLE : Hid (LeastG (spF n p st) X) := Lib.hid (HK.out.done HF.out (by rw [HY.out]; exact HXY.out.1 rfl))
          go_wp2
          go_ret
          exact ⟨⟨g, X, cs, rfl, HX2.out, HLE.out⟩, hb.trans (hb02.mono hsz)⟩
        | false =>
          have HNE : Hid (X ≠ stpN (spF n p st) X (spF n p st).m) := Lib.hid fun h => by
            rw [HY.out] at h
            have := HXY.out.2 h
            cases this
          have HNK : Hid (KlG (spF n p st) Y) := Lib.hid (by rw [← HY.out]; exact HK.out.next HF.out)
          have HLT : Hid (wtMG (spF n p st) Y < wtMG (spF n p st) X) := Lib.hid (by
            have := HK.out.less HF.out HNE.out
            rwa [HY.out] at this)
          have HC1 : Hid (cntSG (n * 255 + 1) wo (.slice (some ⟨g, 0, none⟩) len len) = wtMG (spF n p st) X) := Lib.hid (by have := cntSG_eq (n := n) (c := len) (p := p) (st := st) HKN.out; rwa [HXL.out] at this)
          have HC2 : Hid (cntSG (n * 255 + 1) wr (.slice (some ⟨G, 0, none⟩) len len) = wtMG (spF n p st) Y) := Lib.hid (by have := cntSG_eq (n := n) (c := len) (p := p) (st := st) HY2.out; rwa [HYL.out] at this)
          go_wp2
          go_round
          case rel => exact ⟨G, Y, ds, rfl, HY2.out, HNK, hb.trans (hb02.mono hsz)⟩
          case measure => rw [HC1.out, HC2.out]; exact HLT.out

end Go.Proofs.Ytidjnmigbhaekaa
