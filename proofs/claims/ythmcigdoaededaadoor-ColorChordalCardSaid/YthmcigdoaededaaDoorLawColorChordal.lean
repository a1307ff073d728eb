/-
  For any things that clash and have a perfect list: colored from its end on they need as many colors as the greatest set of which any two clash has things; others need no fewer (O1, O2; Gavril; Rose, Tarjan and Lueker).
  Condition: when the call begins, math/bits.deBruijn32tab reads as its initialiser lays it; the card ties that to the program's text (of the pruned copy beside the seat: the packages that these roots load, no test file).
-/
import Derived.Test.YthmcigdoaededaaDoorLawColor
import Derived.Test.YthmcigdoaededaaDoorTie
import Derived.Test.YthmcigdoaededaaDoorCards
import Derived.SevenTiedAt
import Derived.ProofKit
import Derived.OpenShut
import Derived.Stop.Joined
import Derived.Test.YthmcigdoaededaaDoorColorIs
import Derived.Test.YthmcigdoaededaaDoorColorLst
import Derived.Test.YthmcigdoaededaaDoorColorQ
import Derived.Test.YthmcigdoaededaaDoorColorPeel
import Derived.Test.YthmcigdoaededaaDoorColorGrd
import Derived.Test.YthmcigdoaededaaDoorColorSets
namespace Go.Proofs.YthmcigdoaededaaDoor
open Go.RowKit Go.ChangeShapes Go.WideShapes Go.ChangeAt Go.Deep
set_option linter.unusedSimpArgs false
set_option linter.unusedVariables false
set_option maxRecDepth 100000

theorem LeastC.smallH {n k : Nat} {ad : Nat → Nat → Bool} {l : List Nat} (hg : Gr ad) (h : LeastC n ad k l) : k ≤ n := by
  refine h.least n (fun i => i) ⟨fun i hi => hi, fun i j _ _ ha => hg.ne ha⟩

theorem rev_take {l : List Nat} {k x : Nat} (hk : k < l.length) (h : l[l.length - 1 - k]? = some x) : l.reverse.take (k + 1) = l.reverse.take k ++ [x] := by
  have e : l.reverse[k]? = some x := by rw [List.getElem?_reverse hk, h]
  rw [List.take_add_one, e]
  rfl

set_option maxHeartbeats 16000000 in
theorem lawColorChordal_any (K : PerfectIs) (Q : CliqueIs) (L : LeastIs) (G : GreedyIs) (n : Int) (A : Option Addr) (cap : Nat) (l : List (Int × Int)) (w : World) (hz : TzT w) (hx : RdM w w.heap.size A l) (hm : l.length ≤ maxLen) :
    Calls Tryd.prog 5 #[.int .i64 n, .slice A l.length cap] w fun e w' => e = .returned (.bool true) ∧ Below w.heap.size w w' := by
  have HZT := Lib.hid hz
  have HM := Lib.hid hm
  clear hz
  clear hm
  by_cases hc : ckCl n l = 0
  · have HC := Lib.hid hc
    obtain ⟨m, q, rfl, rfl, hok⟩ := ckCl_ok hc
    obtain ⟨len, hlen⟩ : ∃ len, (mvI q).length = len := ⟨_, rfl⟩
    have HL : Hid (q.length = len) := Lib.hid (by rw [← hlen, mvI_len])
    have HLI := Lib.hid hlen
    rw [hlen] at HM ⊢
    have HOK := Lib.hid hok
    have hm8 := hok.small
    have hlen28 : len ≤ 28 := by rw [← HL.out]; exact hok.short
    clear hc hok hlen
    -- what all ways share: the clique, the least
    cases hp : pfL m (clP q) m [] with
    | none =>
      have HP := Lib.hid hp
      clear hp
      go_enter Tryd.func5, Tryd.ntmps5
      go_wp2_with fail
      refine (K.stuck m A len cap q _ hx HL.out HOK.out HP.out).mono ?_
      rintro e w1 ⟨rfl, hb1⟩
      have hx1 := (hx.below hb1 (Nat.le_refl _)).more hb1.size
      go_wp2_with fail
      refine (Q.ok m A len cap q _ hx1 HL.out HOK.out).mono ?_
      rintro e w2 ⟨⟨W, hW, rfl⟩, hb2⟩
      have hb12 : Below w.heap.size w w2 := hb1.trans (hb2.mono hb1.size)
      have hx2 := (hx1.below hb2 (Nat.le_refl _)).more hb2.size
      have HW := Lib.hid hW
      have HWS : Hid (szW W 32 = szW W m) := Lib.hid (szW_32 hW.lt (by omega))
      have hW32 : W < 4294967296 := Nat.lt_of_lt_of_le hW.lt (Nat.le_trans (Nat.pow_le_pow_right (by omega) hm8) (by omega))
      clear hW
      go_wp2_with fail
      refine (L.ok m A len cap q _ hx2 HL.out HOK.out).mono ?_
      rintro e w3 ⟨⟨kc, c, hC, A3, c3, rfl, hr3⟩, hb3⟩
      have hb13 : Below w.heap.size w w3 := hb12.trans (hb3.mono hb12.size)
      have hx3 := (hx2.below hb3 (Nat.le_refl _)).more hb3.size
      have HCC := Lib.hid hC
      have hkn := hC.smallH HOK.out.gr
      have HCV : Hid (∀ x ∈ c, x ≤ 65536) := Lib.hid fun x hx => by
        have := cof_lt hC.len (fun i hi => hC.kol.lt i hi) x hx
        omega
      have HCL : Hid (c.length = m) := Lib.hid hC.len
      have hle : szW W m ≤ mst c := by rw [hC.most]; exact HW.out.le hC.kol
      obtain ⟨sz, hsz⟩ : ∃ sz, szW W m = sz := ⟨_, rfl⟩
      obtain ⟨mc, hmc⟩ : ∃ mc, mst c = mc := ⟨_, rfl⟩
      have HMC := Lib.hid hmc
      rw [hsz] at hle HWS
      rw [hmc] at hle
      clear hC hsz hmc
      go_wp2_with fail
      refine (clashes_any m A len cap (mvI q) _ hx3 HLI.out HM.out).mono ?_
      rintro e w4 ⟨rfl, hb4⟩
      rw [HC.out]
      have hb14 : Below w.heap.size w w4 := hb13.trans (hb4.mono hb13.size)
      have hr4 := (hr3.below hb4 (Nat.le_refl _)).more hb4.size
      have hlt : ¬ ((mc : Int) < (sz : Int)) := by omega
      go_wp2_with (first
        | (go_at_call 13; (with_reducible refine (most_any A3 m c3 c _ _ hr4 HCL.out (by omega) HCV.out).mono ?_); rw [HMC.out]; rintro e w6 ⟨rfl, rfl⟩)
        | (go_at_call 16; (with_reducible refine (sizeC_any W _ hW32).mono ?_); rw [HWS.out]; rintro e w5 ⟨rfl, rfl⟩))
      go_ret
      exact ⟨ret_bool (by simp), hb14⟩
    | some pl =>
      have HP := Lib.hid hp
      have HPL := Lib.hid (pfL_perf PfI.nil (by simp) hp)
      clear hp
      go_enter Tryd.func5, Tryd.ntmps5
      go_wp2_with fail
      refine (K.ok m A len cap q pl _ hx HL.out HOK.out HP.out).mono ?_
      rintro e w1 ⟨⟨A1, c1, rfl, hr1⟩, hb1⟩
      have hx1 := (hx.below hb1 (Nat.le_refl _)).more hb1.size
      go_wp2_with fail
      refine (Q.ok m A len cap q _ hx1 HL.out HOK.out).mono ?_
      rintro e w2 ⟨⟨W, hW, rfl⟩, hb2⟩
      have hb12 : Below w.heap.size w w2 := hb1.trans (hb2.mono hb1.size)
      have hx2 := (hx1.below hb2 (Nat.le_refl _)).more hb2.size
      have hr12 := (hr1.below hb2 (Nat.le_refl _)).more hb2.size
      have HW := Lib.hid hW
      have HWS : Hid (szW W 32 = szW W m) := Lib.hid (szW_32 hW.lt (by omega))
      have hW32 : W < 4294967296 := Nat.lt_of_lt_of_le hW.lt (Nat.le_trans (Nat.pow_le_pow_right (by omega) hm8) (by omega))
      clear hW
      go_wp2_with fail
      refine (L.ok m A len cap q _ hx2 HL.out HOK.out).mono ?_
      rintro e w3 ⟨⟨kc, c, hC, A3, c3, rfl, hr3⟩, hb3⟩
      have hb13 : Below w.heap.size w w3 := hb12.trans (hb3.mono hb12.size)
      have hx3 := (hx2.below hb3 (Nat.le_refl _)).more hb3.size
      have hr13 := (hr12.below hb3 (Nat.le_refl _)).more hb3.size
      have HCC := Lib.hid hC
      have hkn := hC.smallH HOK.out.gr
      have HCV : Hid (∀ x ∈ c, x ≤ 65536) := Lib.hid fun x hx => by
        have := cof_lt hC.len (fun i hi => hC.kol.lt i hi) x hx
        omega
      have HCL : Hid (c.length = m) := Lib.hid hC.len
      have hle : szW W m ≤ mst c := by rw [hC.most]; exact HW.out.le hC.kol
      obtain ⟨sz, hsz⟩ : ∃ sz, szW W m = sz := ⟨_, rfl⟩
      obtain ⟨mc, hmc⟩ : ∃ mc, mst c = mc := ⟨_, rfl⟩
      have HMC := Lib.hid hmc
      have HSZ := Lib.hid hsz
      rw [hsz] at hle HWS
      rw [hmc] at hle
      clear hC hsz hmc
      go_wp2_with fail
      refine (clashes_any m A len cap (mvI q) _ hx3 HLI.out HM.out).mono ?_
      rintro e w4 ⟨rfl, hb4⟩
      rw [HC.out]
      have hb14 : Below w.heap.size w w4 := hb13.trans (hb4.mono hb13.size)
      have hr4 := (hr3.below hb4 (Nat.le_refl _)).more hb4.size
      have hr14 := (hr13.below hb4 (Nat.le_refl _)).more hb4.size
      have hx4 := (hx3.below hb4 (Nat.le_refl _)).more hb4.size
      have hlt : decide ((mc : Int) < (sz : Int)) = false := by simp; omega
      have hlt2 : decide (mc < sz) = false := by simp; omega
      have HPN : Hid ((ni pl).length = m) := Lib.hid (by rw [ni_len2]; exact HPL.out.ord.len)
      have HPLN : Hid (pl.length = m) := Lib.hid HPL.out.ord.len
      have hs4 := hb14.size
      go_wp2_with (first
        | (go_at_call 13; (with_reducible refine (most_any A3 m c3 c _ _ hr4 HCL.out (by omega) HCV.out).mono ?_); rw [HMC.out]; rintro e w6 ⟨rfl, rfl⟩)
        | (go_at_call 16; (with_reducible refine (sizeC_any W _ hW32).mono ?_); rw [HWS.out]; rintro e w5 ⟨rfl, rfl⟩))
      go_loopw [11, 12] (fun s u wr => ∃ (k : Nat) (A5 : Option Addr) (c5 : Nat), k ≤ m ∧ u = .int .i64 ((m : Int) - 1 - (k : Int)) ∧ s = .slice A5 k c5 ∧ wr.ownsRow w4.heap.size 3 1 (.slice A5 k c5) k (iv (ni (pl.reverse.take k))) ∧ Below w4.heap.size w4 wr) (fun _ u _ => (intOf u + 1).toNat)
      case atStart => exact ⟨0, none, 0, Nat.zero_le _, by go_num, rfl, World.ownsRow_nil _ _ _ _, Below.refl _ _⟩
      case round =>
        obtain ⟨k, A5, c5, hk, rfl, rfl, hown, hb5⟩ := hrel
        have hsz5 := hb5.size
        by_cases hkm : k < m
        · have hie : ((m : Int) - 1 - (k : Int)) = ((m - 1 - k : Nat) : Int) := by omega
          rw [hie]
          obtain ⟨i, hi⟩ : ∃ i, m - 1 - k = i := ⟨_, rfl⟩
          rw [hi]
          have him : i < m := by omega
          have HIK : Hid ((i : Int) - 1 = (m : Int) - 1 - ((k + 1 : Nat) : Int)) := Lib.hid (by omega)
          obtain ⟨ad, x', rfl, hbl, hd, hcell⟩ := (hr14.below hb5 (Nat.le_refl _)).at_ (k := i) (by rw [HPN.out]; exact him)
          obtain ⟨x, hxx⟩ : ∃ x, pl[i]? = some x := ⟨_, List.getElem?_eq_getElem (by rw [HPLN.out]; exact him)⟩
          rw [ni_at hxx] at hd
          injection hd with hd
          subst hd
          have HT : Hid (iv (ni (pl.reverse.take (k + 1))) = iv (ni (pl.reverse.take k)) ++ [.int .i64 (x : Int)]) := Lib.hid (by
            rw [rev_take (x := x) (by rw [HPLN.out]; exact hkm) (by rw [HPLN.out, hi]; exact hxx), ni_append, iv_append]
            rfl)
          have ha_ : k + 1 ≤ maxLen := by unfold maxLen; omega
          have hb_ : (k + 1) * 8 ≤ 140737488355328 := by omega
          clear hie hi hxx
          go_wp2_with (at_builtin; refine wpList_app rfl (.tmp 78) (.tmp 83) 23 rfl w4.heap.size 3 1 8 int_app _ rfl (own_below hown (by go_grown)) [.int .i64 (x : Int)] rfl rfl (fun h => by cases h) (cells_at rfl _ _) (one_cell _) ha_ hb_ (by simp; omega) ?_; intro A6 c6 w6 hown6 hg6 hb6)
          go_round
          case rel => exact ⟨k + 1, A6, c6, by omega, by rw [← HIK.out], rfl, by rw [HT.out]; exact hown6, (hb5.trans (by go_grown)).trans hb6⟩
          case measure => (simp [intOf])
        · have hkm2 : k = m := by omega
          subst hkm2
          rw [List.take_of_length_le (by rw [List.length_reverse, HPLN.out]; exact Nat.le_refl _)] at hown
          have hrb := own_rdI hown (by rw [ni_len2, List.length_reverse]; exact HPLN.out)
          have HRO : Hid (OrdK k pl.reverse) := Lib.hid HPL.out.ord.rev
          have hb15 : Below w.heap.size w wr := hb14.trans (hb5.mono hs4)
          have hx5 := (hx4.below hb5 (Nat.le_refl _)).more hb5.size
          have hr5 := (hr4.below hb5 (Nat.le_refl _)).more hb5.size
          obtain ⟨w5, rfl⟩ : ∃ w5 : World, w5 = wr := ⟨_, rfl⟩
          clear hown
          go_wp2_with fail
          refine (G.ok k A len cap q A5 k c5 pl.reverse _ (HZT.out.below hb15) hx5 HL.out HOK.out hrb HRO.out.len HRO.out).mono ?_
          rintro e w6 ⟨⟨d, hG, A6, c6, rfl, hr6⟩, hb6⟩
          have hb16 : Below w.heap.size w w6 := hb15.trans (hb6.mono hb15.size)
          have hr56 := (hr5.below hb6 (Nat.le_refl _)).more hb6.size
          have HDL : Hid (d.length = k) := Lib.hid hG.len
          have h1 := HPL.out.most HOK.out.gr hG HW.out
          have h2 := HCC.out.least _ _ (hG.kol HOK.out.gr HRO.out)
          have HDV : Hid (∀ x ∈ d, x ≤ 65536) := Lib.hid fun x hx => by
            have h3 := mst_lt hx
            have h4 := szW_le W k
            omega
          have HMD : Hid (mst d = sz) := Lib.hid (by
            have h3 := HCC.out.most
            rw [HMC.out] at h3
            rw [HSZ.out] at h1
            omega)
          have HMS : Hid (mc = sz) := Lib.hid (by
            have h3 := HCC.out.most
            have h4 := HMD.out
            rw [HMC.out] at h3
            omega)
          have hbe : ((mc : Int) == (sz : Int)) = true := by simp [HMS.out]
          clear hG h1 h2
          go_wp2_with (first
            | (go_at_call 13; (with_reducible refine (most_any A6 k c6 d _ _ hr6 HDL.out (by omega) HDV.out).mono ?_); rw [HMD.out]; rintro e w7 ⟨rfl, rfl⟩)
            | (go_at_call 13; (with_reducible refine (most_any A3 k c3 c _ _ hr56 HCL.out (by omega) HCV.out).mono ?_); rw [HMC.out]; rintro e w7 ⟨rfl, rfl⟩)
            | (go_at_call 16; (with_reducible refine (sizeC_any W _ hW32).mono ?_); rw [HWS.out]; rintro e w7 ⟨rfl, rfl⟩))
          go_ret
          exact ⟨ret_bool (by simp [HMS.out]), hb16⟩
  · have HC := Lib.hid hc
    obtain ⟨len, hlen⟩ : ∃ len, l.length = len := ⟨_, rfl⟩
    have HLI := Lib.hid hlen
    rw [hlen] at HM ⊢
    obtain ⟨x, hx0⟩ : ∃ x, ckCl n l = x := ⟨_, rfl⟩
    have HX := Lib.hid hx0
    have hne : (x != 0) = true := by rw [← hx0]; simp [hc]
    have hne2 : (x == 0) = false := by rw [← hx0]; simp [hc]
    clear hc hlen hx0
    go_enter Tryd.func5, Tryd.ntmps5
    go_wp2_with fail
    refine (K.bad n A len cap l _ hx HLI.out HM.out HC.out).mono ?_
    rintro e w1 ⟨rfl, hb1⟩
    rw [HX.out]
    have hx1 := (hx.below hb1 (Nat.le_refl _)).more hb1.size
    go_wp2_with fail
    refine (Q.bad n A len cap l _ hx1 HLI.out HM.out HC.out).mono ?_
    rintro e w2 ⟨rfl, hb2⟩
    rw [HX.out]
    have hb12 : Below w.heap.size w w2 := hb1.trans (hb2.mono hb1.size)
    have hx2 := (hx1.below hb2 (Nat.le_refl _)).more hb2.size
    go_wp2_with fail
    refine (L.bad n A len cap l _ hx2 HLI.out HM.out HC.out).mono ?_
    rintro e w3 ⟨rfl, hb3⟩
    rw [HX.out]
    have hb13 : Below w.heap.size w w3 := hb12.trans (hb3.mono hb12.size)
    have hx3 := (hx2.below hb3 (Nat.le_refl _)).more hb3.size
    go_wp2_with fail
    refine (clashes_any n A len cap l _ hx3 HLI.out HM.out).mono ?_
    rintro e w4 ⟨rfl, hb4⟩
    rw [HX.out, hne2]
    go_wp2
    go_ret
    exact ⟨rfl, hb13.trans (hb4.mono hb13.size)⟩

set_option maxRecDepth 100000 in
theorem lawColorChordal_lifted (os : Os) (started : os.Started) (H : Type) (enc : TypeId × Value → H) :
    ReturnsInHanded {} Tryd.checked os 5 .any (fun w args => (Rows.colorChordalSpec.pre enc Tryd.prog Tryd.f5 [] false w args ∧ laidMetH Tryd.prog Rows.colorChordalRow.laid w) ∧ sizedMet enc Tryd.prog Tryd.f5 (OpenSpec.ofChange Rows.colorChordalSpec) false w args) (Rows.colorChordalSpec.post enc Tryd.prog Tryd.f5 false true false false) := by
  refine returnsInHanded_of_change_and (C := Tryd.checked) (X := fun w _ => laidMetH Tryd.prog Rows.colorChordalRow.laid w) (fun _ _ _ hh h => h.of_heap hh) Tryd.own started (by kernel_rfl) Tryd.func5
    (ChangeSpec.witness_shaped (enc := enc) (C := Tryd.checked) (os := os) (X := fun w _ => laidMetH Tryd.prog Rows.colorChordalRow.laid w) false (World.doorLaid Tryd.prog 400 os) #[.int .i64 0, .slice none 0 0] 8 rfl (World.shaped_of_RefB (by kernel_rfl) (by kernel_rfl)) (by kernel_rfl) (by kernel_rfl) (by kernel_rfl) (door_met os _)) ?_
  intro W base args ds gs before hval0 hW hcnd hsz hL _
  have hval : ∀ (j : Nat) t v, Tryd.f5.params[j]? = some t → args[j]? = some v → Value.okWide Tryd.prog W .any base t v := hval0
  have hW' := hW
  obtain ⟨p, q, hA0, hV, rfl, hfz, hnd⟩ := hW
  have hA : DataW.TrodAll enc Tryd.prog W 0 (fun _ => true) true Tryd.f5.params.toList args.toList ds p := hA0
  obtain ⟨hgs, _⟩ := trodVars_none hV
  rw [Tryd.params5] at hA hval
  obtain ⟨v0, vs0, d0, ds0, p0, q0, hargs, rfl, rfl, h0, r0⟩ := trodAll_cons hA
  obtain ⟨v1, vs1, d1, ds1, p1, q1, rfl, rfl, rfl, h1, r1⟩ := trodAll_cons r0
  obtain ⟨rfl, rfl, rfl⟩ := trodAll_nil r1
  have hargs2 : args = #[v0, v1] := Array.toList_inj.1 hargs
  subst hargs2
  obtain ⟨a0, rfl, _, _, w0⟩ := open_int Tryd.underlying3 (hval 0 3 v0 rfl rfl) h0
  obtain ⟨A1, c1, l1, rfl, lc1, cm1, x1, r1⟩ := open_pairsA (hval 1 22 v1 rfl rfl) h1
  have b1 := len_reach Tryd.underlying22 (hval 1 22 _ rfl rfl) h1 hsz (j := 1) (by rw [Tryd.params5]; rfl) rfl
  rw [show Tryd.prog.bytesOf (Tryd.prog.elem 22) = 16 from by kernel_rfl] at b1
  refine (lawColorChordal_any perfectIs cliqueIs leastIs greedyIs a0 A1 c1 l1 _ (tz_laid hL) x1 (by omega)).mono fun e W' ⟨he, hb⟩ => ?_
  subst he
  exact ⟨_, rfl, law_post Tryd.laidOut rfl (by kernel_rfl) Tryd.underlying4 ⟨rfl, rfl, rfl⟩ (by kernel_rfl) hW' hb⟩

theorem colorChordal_holds : Rows.ColorChordalSaid :=
  OpenClaim.holds_of_wide 5 Tryd.f5 rfl rfl rfl rfl rfl rfl rfl ⟨rfl, rfl, rfl, rfl, rfl⟩ rfl rfl rfl rfl rfl (by kernel_rfl) Tryd.func5 (show joinedFacts Tryd.prog 5 Tryd.f5 Rows.colorChordalSpec Rows.colorChordalRow = true from (by unfold joinedFacts; (repeat' (with_reducible refine and_both ?_ ?_)) <;> first | (with_reducible exact may_enter) | ((with_reducible refine make_ok ?_); rfl) | ((with_reducible refine lifts_ok ?_); rfl) | kernel_rfl))
    (of_decide_eq_true (by kernel_rfl)) (by unfold Func.isWrapper; rw [if_neg (of_decide_eq_false (by kernel_rfl))]; exact ⟨rfl, rfl⟩)
    (fun os started H enc _ => lawColorChordal_lifted os started H enc)

set_option maxRecDepth 100000 in
theorem colorChordalCard_holds : Rows.ColorChordalCardSaid :=
  Claim7.holds_tied_plain_at .later [] [.data] true _ false
    colorChordal_holds (fun _ h => by cases h) (by kernel_rfl) (fun _ h => by cases h) colorChordal_row_tie rfl ⟨rfl, rfl⟩ (by kernel_rfl) rfl
    (fun f fn hf hfn => by
      obtain rfl : f = 5 := Option.some.inj ((show Tryd.prog.funcNamed "codemason/codemasonkeep.ColorChordal" = some 5 by kernel_rfl).symm.trans hf) |>.symm
      obtain rfl : fn = Tryd.f5 := (Option.some.inj (Tryd.func5.symm.trans hfn)).symm
      exact ⟨by kernel_rfl, fun j t ht => by
        rw [Tryd.params5] at ht
        have hm : t ∈ [3, 22] := by simpa using Array.mem_of_getElem? ht
        have hall : ([3, 22].all fun u => !Tryd.prog.wantsStandIn u) = true := by kernel_rfl
        exact (show Tryd.prog.wantsStandIn t = false by simpa using List.all_eq_true.1 hall t hm)⟩)
    (by kernel_rfl)

end Go.Proofs.YthmcigdoaededaaDoor
