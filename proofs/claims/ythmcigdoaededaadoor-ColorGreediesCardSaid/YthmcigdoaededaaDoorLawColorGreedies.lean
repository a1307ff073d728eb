/-
  For any things that clash, in any order, color.Greedy gives the least color to each in its turn, or the first error (O1).
  Condition: when the call begins, math/bits.deBruijn32tab reads as its initialiser lays it; the card ties that to the program's text (of the pruned copy beside the seat: the packages that these roots load, no test file).
-/
import Derived.Test.YthmcigdoaededaaDoorLawColor
import Derived.Test.YthmcigdoaededaaDoorTie
import Derived.Test.YthmcigdoaededaaDoorCards
import Derived.SevenTiedAt
import Derived.ProofKit
import Derived.OpenShut
import Derived.Stop.Joined
import Derived.Test.YthmcigdoaededaaDoorColorIs
import Derived.Test.YthmcigdoaededaaDoorColorGrd
import Derived.Test.YthmcigdoaededaaDoorOnceNat
namespace Go.Proofs.YthmcigdoaededaaDoor
open Go.RowKit Go.ChangeShapes Go.WideShapes Go.ChangeAt Go.Deep
set_option linter.unusedSimpArgs false
set_option linter.unusedVariables false
set_option maxRecDepth 100000

def bNat : Value → Nat
  | .bool true => 1
  | _ => 0

set_option maxHeartbeats 16000000 in
theorem lawColorGreedies_any (G : GreedyIs) (n : Int) (A : Option Addr) (cap : Nat) (l : List (Int × Int)) (Ao : Option Addr) (co : Nat) (o : List Int) (w : World) (hz : TzT w) (hx : RdM w w.heap.size A l) (hm : l.length ≤ maxLen) (hxo : RdI w w.heap.size Ao o) (hmo : o.length ≤ maxLen) (hco : o.length ≤ co) :
    Calls Tryd.prog 3 #[.int .i64 n, .slice A l.length cap, .slice Ao o.length co] w fun e w' => e = .returned (.bool true) ∧ Below w.heap.size w w' := by
  have HZT := Lib.hid hz
  have HM := Lib.hid hm
  have HMO := Lib.hid hmo
  clear hz
  clear hm hmo
  by_cases hc : ckCl n l = 0
  · have HC := Lib.hid hc
    obtain ⟨m, q, rfl, rfl, hok⟩ := ckCl_ok hc
    obtain ⟨len, hlen⟩ : ∃ len, (mvI q).length = len := ⟨_, rfl⟩
    have HL : Hid (q.length = len) := Lib.hid (by rw [← hlen, mvI_len])
    have HLI := Lib.hid hlen
    rw [hlen] at HM ⊢
    obtain ⟨lo, hlo⟩ : ∃ lo, o.length = lo := ⟨_, rfl⟩
    have HLO := Lib.hid hlo
    rw [hlo] at HMO hco ⊢
    have HOK := Lib.hid hok
    have hm8 := hok.small
    have hlen28 : len ≤ 28 := by rw [← HL.out]; exact hok.short
    clear hc hok hlen hlo
    by_cases hon : OnceI m o
    · obtain ⟨od, rfl, hod⟩ := once_natG hon
      have hoB : onceB m (ni od) = true := onceB_iff.2 hon
      have HOB := Lib.hid hoB
      have HOD := Lib.hid hod
      have hlom : lo = m := by rw [← HLO.out, ni_len2]; exact hod.len
      subst hlom
      have HLD : Hid (od.length = lo) := Lib.hid hod.len
      have HCL : Hid (∀ (i j : Nat) (w1 : World), Below w.heap.size w w1 → Calls Tryd.prog 9 #[.slice A len cap, .int .i64 (i : Int), .int .i64 (j : Int)] w1 fun e w' => e = .returned (.bool (clP q i j)) ∧ Below w1.heap.size w1 w') := Lib.hid fun i j w1 hb1 => clash_any A len cap q i j w1 ((hx.below hb1 (Nat.le_refl _)).more hb1.size) HL.out (by omega)
      clear hon hoB hod
      go_enter Tryd.func3, Tryd.ntmps3
      go_wp2_with fail
      refine (G.ok lo A len cap q Ao lo co od _ HZT.out hx HL.out HOK.out hxo HLD.out HOD.out).mono ?_
      rintro e w1 ⟨⟨r, hG, A2, c2, rfl, hr1⟩, hb1⟩
      have hx1 := (hx.below hb1 (Nat.le_refl _)).more hb1.size
      have hxo1 := (hxo.below hb1 (Nat.le_refl _)).more hb1.size
      have HG := Lib.hid hG
      have HRL : Hid (r.length = lo) := Lib.hid hG.len
      clear hG
      go_wp2_with fail
      refine (clashCheck_any lo A len cap (mvI q) _ hx1 HLI.out HM.out).mono ?_
      rintro e w2 ⟨rfl, hb2⟩
      rw [HC.out]
      have hb12 : Below w.heap.size w w2 := hb1.trans (hb2.mono hb1.size)
      have hr2 := (hr1.below hb2 (Nat.le_refl _)).more hb2.size
      have hxo2 := (hxo1.below hb2 (Nat.le_refl _)).more hb2.size
      have hs2 := hb12.size
      go_wp2_with (go_at_call 8; (with_reducible refine (refOnce_any lo Ao lo co (ni od) _ _ hxo2 HLO.out HMO.out).mono ?_); rw [HOB.out]; rintro e w3 ⟨rfl, rfl⟩)
      go_loopw [54] (fun t wr => ∃ k : Nat, k ≤ lo ∧ t = .int .i64 k ∧ Below w2.heap.size w2 wr) (fun t _ => lo - (intOf t).toNat)
      case atStart => exact ⟨0, Nat.zero_le _, rfl, Below.refl _ _⟩
      case round =>
        obtain ⟨k, hk, rfl, hb3⟩ := hrel
        have hsz3 := hb3.size
        by_cases hlt : k < lo
        · obtain ⟨ad, x', rfl, hbl, hd, hcell⟩ := (hxo2.below hb3 (Nat.le_refl _)).at_ (k := k) (by rw [HLO.out]; exact hlt)
          obtain ⟨i, hi⟩ : ∃ i, od[k]? = some i := ⟨_, List.getElem?_eq_getElem (by rw [HLD.out]; exact hlt)⟩
          rw [ni_at hi] at hd
          injection hd with hd
          subst hd
          have HI := Lib.hid hi
          have hin : i < lo := HOD.out.nodup.2 i (List.mem_of_getElem? hi)
          clear hi
          obtain ⟨ad2, y', rfl, hbl2, hd2, hcell2⟩ := (hr2.below hb3 (Nat.le_refl _)).at_ (k := i) (by rw [ni_len2, HRL.out]; exact hin)
          obtain ⟨ri, hri⟩ : ∃ ri, r[i]? = some ri := ⟨_, List.getElem?_eq_getElem (by rw [HRL.out]; exact hin)⟩
          rw [ni_at hri] at hd2
          injection hd2 with hd2
          subst hd2
          have HRI : Hid (cof r i = ri) := Lib.hid (cof_at hri)
          have hri8 : ri ≤ 8 := by
            have h1 := HG.out.deg HOD.out hin
            have h2 := cntN_le (clP q i) lo
            rw [HRI.out] at h1
            unfold dgN at h1
            omega
          clear hri
          have hkc1 : (k : Int) ≤ (co : Int) := by omega
          have hcc : co ≠ 0 := by omega
          have hb13 : Below w.heap.size w wr := hb12.trans (hb3.mono hs2)
          obtain ⟨w3, rfl⟩ : ∃ w3 : World, w3 = wr := ⟨_, rfl⟩
          have hs3 := hb13.size
          have hbl3 : (ad2.add i).block < w3.heap.size := by omega
          go_wp2
          go_loopw [12, 13] (fun s a wr => ∃ (c : Nat) (b : Bool), c ≤ ri ∧ s = .int .i64 c ∧ a = .bool b ∧ Hid (b = false → ∀ j ∈ od.take k, clP q i j = true → cof r j ≠ c) ∧ Below w3.heap.size w3 wr) (fun s a _ => 2 * (ri - (intOf s).toNat) + bNat a)
          case atStart => exact ⟨0, true, Nat.zero_le _, rfl, rfl, Lib.hid fun h => (by cases h), Below.refl _ _⟩
          case round =>
            obtain ⟨c, b, hcr, rfl, rfl, HNO, hb4⟩ := hrel
            have hsz4 := hb4.size
            cases b
            · have HCE : Hid (c = ri) := Lib.hid (by
                rcases Nat.lt_or_ge c ri with h | h
                · obtain ⟨j, hj, ha, he⟩ := HG.out.low k i HI.out c (by rw [HRI.out]; exact h)
                  exact absurd he (HNO.out rfl j hj ha)
                · omega)
              have hcell3 := (hb4.cell hbl3).trans hcell2
              have hbe : ((ri : Int) != (c : Int)) = false := by simp [HCE.out]
              go_wp2
              go_round
              case rel => exact ⟨k + 1, by omega, by go_num, hb3.trans (hb4.mono hsz3)⟩
              case measure => (simp [intOf]; omega)
            · obtain ⟨w4, rfl⟩ : ∃ w4 : World, w4 = wr := ⟨_, rfl⟩
              go_wp2
              go_loopw [12, 13, 64] (fun s a u wr => ∃ (t c' : Nat) (b' : Bool), t ≤ k ∧ c' ≤ ri ∧ c ≤ c' ∧ u = .int .i64 t ∧ s = .int .i64 c' ∧ a = .bool b' ∧ (b' = true → c < c') ∧ Hid (b' = false → c' = c ∧ ∀ j ∈ od.take t, clP q i j = true → cof r j ≠ c) ∧ Below w3.heap.size w3 wr) (fun _ _ u _ => k - (intOf u).toNat)
              case atStart => exact ⟨0, c, false, Nat.zero_le _, hcr, Nat.le_refl _, rfl, rfl, rfl, fun h => (by cases h), Lib.hid fun _ => ⟨rfl, fun j hj => absurd hj (by simp)⟩, hb4⟩
              case round =>
                obtain ⟨t, c', b', ht, hcr', hcc', rfl, rfl, rfl, hup, HB, hb5⟩ := hrel
                have hsz5 := hb5.size
                by_cases htk : t < k
                · have hb25 : Below w2.heap.size w2 wr := hb3.trans (hb5.mono hsz3)
                  have hb15 : Below w.heap.size w wr := hb12.trans (hb25.mono hs2)
                  obtain ⟨ad', x', hA', hbl', hd', hcell'⟩ := (hxo2.below hb25 (Nat.le_refl _)).at_ (k := t) (by rw [HLO.out]; omega)
                  injection hA' with hA'
                  subst hA'
                  obtain ⟨j, hj⟩ : ∃ j, od[t]? = some j := ⟨_, List.getElem?_eq_getElem (by rw [HLD.out]; omega)⟩
                  rw [ni_at hj] at hd'
                  injection hd' with hd'
                  subst hd'
                  have hjm := List.mem_of_getElem? hj
                  have hjn : j < lo := HOD.out.nodup.2 j hjm
                  have HJK : Hid (j ∈ od.take k) := Lib.hid (mem_take_of hj htk)
                  have HTK : Hid (∀ x ∈ od.take (t + 1), x ∈ od.take t ∨ x = j) := Lib.hid fun x hx => by
                    rw [List.take_add_one, hj, Option.toList_some, List.mem_append] at hx
                    rcases hx with h | h
                    · exact .inl h
                    · exact .inr (by simpa using h)
                  obtain ⟨ad3, y', hA3, hbl3', hd3, hcell3⟩ := (hr2.below hb25 (Nat.le_refl _)).at_ (k := j) (by rw [ni_len2, HRL.out]; exact hjn)
                  injection hA3 with hA3
                  subst hA3
                  obtain ⟨rj, hrj⟩ : ∃ rj, r[j]? = some rj := ⟨_, List.getElem?_eq_getElem (by rw [HRL.out]; exact hjn)⟩
                  rw [ni_at hrj] at hd3
                  injection hd3 with hd3
                  subst hd3
                  have HRJ : Hid (cof r j = rj) := Lib.hid (cof_at hrj)
                  clear hj hjm hrj
                  have HCC := Lib.hid (HCL.out i j wr hb15)
                  have hblw : (ad2.add j).block < wr.heap.size := by have := hb25.size; omega
                  obtain ⟨cl, hcl⟩ : ∃ cl, clP q i j = cl := ⟨_, rfl⟩
                  have HCQ := Lib.hid hcl
                  rw [hcl] at HCC
                  clear hcl
                  cases cl
                  · have HB2 : Hid (b' = false → c' = c ∧ ∀ j ∈ od.take (t + 1), clP q i j = true → cof r j ≠ c) := Lib.hid fun h => by
                      obtain ⟨h1, h2⟩ := HB.out h
                      refine ⟨h1, fun x hx ha => ?_⟩
                      rcases HTK.out x hx with h3 | h3
                      · exact h2 x h3 ha
                      · rw [h3, HCQ.out] at ha; cases ha
                    go_wp2_with (go_at_call 9; (with_reducible refine HCC.out.mono ?_); rintro e w6 ⟨rfl, hb6⟩)
                    go_round
                    case rel => exact ⟨t + 1, c', b', by omega, hcr', hcc', by go_num, rfl, rfl, hup, HB2, hb5.trans (hb6.mono hsz5)⟩
                    case measure => (simp [intOf]; omega)
                  · by_cases hrc : rj = c'
                    · have hlt2 : c' < ri := by
                        have h1 := HG.out.ne k i HI.out j HJK.out HCQ.out
                        rw [HRJ.out, HRI.out] at h1
                        omega
                      have hbe : ((rj : Int) == (c' : Int)) = true := by simp [hrc]
                      clear hrc
                      go_wp2_with (go_at_call 9; (with_reducible refine HCC.out.mono ?_); rintro e w6 ⟨rfl, hb6⟩; have hcell6 := (hb6.cell hblw).trans hcell3)
                      go_round
                      case rel => exact ⟨t + 1, c' + 1, true, by omega, by omega, by omega, by go_num, by go_num, rfl, fun _ => by omega, Lib.hid fun h => (by cases h), hb5.trans (hb6.mono hsz5)⟩
                      case measure => (simp [intOf]; omega)
                    · have hbe : ((rj : Int) == (c' : Int)) = false := by simp; omega
                      have HB2 : Hid (b' = false → c' = c ∧ ∀ j ∈ od.take (t + 1), clP q i j = true → cof r j ≠ c) := Lib.hid fun h => by
                        obtain ⟨h1, h2⟩ := HB.out h
                        refine ⟨h1, fun x hx ha => ?_⟩
                        rcases HTK.out x hx with h3 | h3
                        · exact h2 x h3 ha
                        · rw [h3, HRJ.out, ← h1]; exact hrc
                      clear hrc
                      go_wp2_with (go_at_call 9; (with_reducible refine HCC.out.mono ?_); rintro e w6 ⟨rfl, hb6⟩; have hcell6 := (hb6.cell hblw).trans hcell3)
                      go_round
                      case rel => exact ⟨t + 1, c', b', by omega, hcr', hcc', by go_num, rfl, rfl, hup, HB2, hb5.trans (hb6.mono hsz5)⟩
                      case measure => (simp [intOf]; omega)
                · have htk2 : t = k := by omega
                  subst htk2
                  have HB2 : Hid (b' = false → ∀ j ∈ od.take t, clP q i j = true → cof r j ≠ c') := Lib.hid fun h => by
                    obtain ⟨h1, h2⟩ := HB.out h
                    rw [h1]
                    exact h2
                  have HUP := Lib.hid hup
                  clear hup
                  go_wp2
                  go_round
                  case rel => exact ⟨c', b', hcr', rfl, rfl, HB2, hb5⟩
                  case measure =>
                    have h1 := HUP.out
                    cases b'
                    · simp [intOf, bNat]; omega
                    · have := h1 rfl
                      simp [intOf, bNat]; omega
        · go_wp2
          go_ret
          exact ⟨rfl, hb12.trans (hb3.mono hs2)⟩
    · have hoB := onceB_no hon
      have HOB := Lib.hid hoB
      have HON := Lib.hid hon
      clear hon hoB
      go_enter Tryd.func3, Tryd.ntmps3
      go_wp2_with fail
      refine (G.form m A len cap q Ao lo co o _ hx HL.out HOK.out hxo HLO.out HMO.out HON.out).mono ?_
      rintro e w1 ⟨rfl, hb1⟩
      have hx1 := (hx.below hb1 (Nat.le_refl _)).more hb1.size
      have hxo1 := (hxo.below hb1 (Nat.le_refl _)).more hb1.size
      go_wp2_with fail
      refine (clashCheck_any m A len cap (mvI q) _ hx1 HLI.out HM.out).mono ?_
      rintro e w2 ⟨rfl, hb2⟩
      rw [HC.out]
      have hxo2 := (hxo1.below hb2 (Nat.le_refl _)).more hb2.size
      go_wp2_with (go_at_call 8; (with_reducible refine (refOnce_any m Ao lo co o _ _ hxo2 HLO.out HMO.out).mono ?_); rw [HOB.out]; rintro e w3 ⟨rfl, rfl⟩)
      go_ret
      exact ⟨ret_bool (by simp), hb1.trans (hb2.mono hb1.size)⟩
  · have HC := Lib.hid hc
    obtain ⟨len, hlen⟩ : ∃ len, l.length = len := ⟨_, rfl⟩
    have HLI := Lib.hid hlen
    rw [hlen] at HM ⊢
    obtain ⟨lo, hlo⟩ : ∃ lo, o.length = lo := ⟨_, rfl⟩
    have HLO := Lib.hid hlo
    rw [hlo] at HMO hco ⊢
    obtain ⟨x, hx0⟩ : ∃ x, ckCl n l = x := ⟨_, rfl⟩
    have HX := Lib.hid hx0
    have hne : (x != 0) = true := by rw [← hx0]; simp [hc]
    have hne2 : (x == 0) = false := by rw [← hx0]; simp [hc]
    have hxx : (x == x) = true := by simp
    clear hc hlen hx0 hlo
    go_enter Tryd.func3, Tryd.ntmps3
    go_wp2_with fail
    refine (G.bad n A len cap l Ao lo co o _ hx HLI.out HM.out hxo HLO.out HMO.out HC.out).mono ?_
    rintro e w1 ⟨rfl, hb1⟩
    rw [HX.out]
    have hx1 := (hx.below hb1 (Nat.le_refl _)).more hb1.size
    go_wp2_with fail
    refine (clashCheck_any n A len cap l _ hx1 HLI.out HM.out).mono ?_
    rintro e w2 ⟨rfl, hb2⟩
    rw [HX.out]
    go_wp2
    go_ret
    exact ⟨ret_bool (by simp), hb1.trans (hb2.mono hb1.size)⟩

set_option maxRecDepth 100000 in
theorem lawColorGreedies_lifted (os : Os) (started : os.Started) (H : Type) (enc : TypeId × Value → H) :
    ReturnsInHanded {} Tryd.checked os 3 .any (fun w args => (Rows.colorGreediesSpec.pre enc Tryd.prog Tryd.f3 [] false w args ∧ laidMetH Tryd.prog Rows.colorGreediesRow.laid w) ∧ sizedMet enc Tryd.prog Tryd.f3 (OpenSpec.ofChange Rows.colorGreediesSpec) false w args) (Rows.colorGreediesSpec.post enc Tryd.prog Tryd.f3 false true false false) := by
  refine returnsInHanded_of_change_and (C := Tryd.checked) (X := fun w _ => laidMetH Tryd.prog Rows.colorGreediesRow.laid w) (fun _ _ _ hh h => h.of_heap hh) Tryd.own started (by kernel_rfl) Tryd.func3
    (ChangeSpec.witness_shaped (enc := enc) (C := Tryd.checked) (os := os) (X := fun w _ => laidMetH Tryd.prog Rows.colorGreediesRow.laid w) false (World.doorLaid Tryd.prog 400 os) #[.int .i64 0, .slice none 0 0, .slice none 0 0] 8 rfl (World.shaped_of_RefB (by kernel_rfl) (by kernel_rfl)) (by kernel_rfl) (by kernel_rfl) (by kernel_rfl) (door_met os _)) ?_
  intro W base args ds gs before hval0 hW hcnd hsz hL _
  have hval : ∀ (j : Nat) t v, Tryd.f3.params[j]? = some t → args[j]? = some v → Value.okWide Tryd.prog W .any base t v := hval0
  have hW' := hW
  obtain ⟨p, q, hA0, hV, rfl, hfz, hnd⟩ := hW
  have hA : DataW.TrodAll enc Tryd.prog W 0 (fun _ => true) true Tryd.f3.params.toList args.toList ds p := hA0
  obtain ⟨hgs, _⟩ := trodVars_none hV
  rw [Tryd.params3] at hA hval
  obtain ⟨v0, vs0, d0, ds0, p0, q0, hargs, rfl, rfl, h0, r0⟩ := trodAll_cons hA
  obtain ⟨v1, vs1, d1, ds1, p1, q1, rfl, rfl, rfl, h1, r1⟩ := trodAll_cons r0
  obtain ⟨v2, vs2, d2, ds2, p2, q2, rfl, rfl, rfl, h2, r2⟩ := trodAll_cons r1
  obtain ⟨rfl, rfl, rfl⟩ := trodAll_nil r2
  have hargs2 : args = #[v0, v1, v2] := Array.toList_inj.1 hargs
  subst hargs2
  obtain ⟨a0, rfl, _, _, w0⟩ := open_int Tryd.underlying3 (hval 0 3 v0 rfl rfl) h0
  obtain ⟨A1, c1, l1, rfl, lc1, cm1, x1, r1⟩ := open_pairsA (hval 1 22 v1 rfl rfl) h1
  have b1 := len_reach Tryd.underlying22 (hval 1 22 _ rfl rfl) h1 hsz (j := 1) (by rw [Tryd.params3]; rfl) rfl
  rw [show Tryd.prog.bytesOf (Tryd.prog.elem 22) = 16 from by kernel_rfl] at b1
  obtain ⟨A2, c2, l2, rfl, lc2, cm2, x2, r2⟩ := open_intsA (hval 2 23 v2 rfl rfl) h2
  have b2 := len_reach Tryd.underlying23 (hval 2 23 _ rfl rfl) h2 hsz (j := 2) (by rw [Tryd.params3]; rfl) rfl
  rw [show Tryd.prog.bytesOf (Tryd.prog.elem 23) = 8 from by kernel_rfl] at b2
  refine (lawColorGreedies_any greedyIs a0 A1 c1 l1 A2 c2 l2 _ (tz_laid hL) x1 (by omega) x2 (by omega) lc2).mono fun e W' ⟨he, hb⟩ => ?_
  subst he
  exact ⟨_, rfl, law_post Tryd.laidOut rfl (by kernel_rfl) Tryd.underlying4 ⟨rfl, rfl, rfl⟩ (by kernel_rfl) hW' hb⟩

theorem colorGreedies_holds : Rows.ColorGreediesSaid :=
  OpenClaim.holds_of_wide 3 Tryd.f3 rfl rfl rfl rfl rfl rfl rfl ⟨rfl, rfl, rfl, rfl, rfl⟩ rfl rfl rfl rfl rfl (by kernel_rfl) Tryd.func3 (show joinedFacts Tryd.prog 3 Tryd.f3 Rows.colorGreediesSpec Rows.colorGreediesRow = true from (by unfold joinedFacts; (repeat' (with_reducible refine and_both ?_ ?_)) <;> first | (with_reducible exact may_enter) | ((with_reducible refine make_ok ?_); rfl) | ((with_reducible refine lifts_ok ?_); rfl) | kernel_rfl))
    (of_decide_eq_true (by kernel_rfl)) (by unfold Func.isWrapper; rw [if_neg (of_decide_eq_false (by kernel_rfl))]; exact ⟨rfl, rfl⟩)
    (fun os started H enc _ => lawColorGreedies_lifted os started H enc)

set_option maxRecDepth 100000 in
theorem colorGreediesCard_holds : Rows.ColorGreediesCardSaid :=
  Claim7.holds_tied_plain_at .later [] [.data] true _ false
    colorGreedies_holds (fun _ h => by cases h) (by kernel_rfl) (fun _ h => by cases h) colorGreedies_row_tie rfl ⟨rfl, rfl⟩ (by kernel_rfl) rfl
    (fun f fn hf hfn => by
      obtain rfl : f = 3 := Option.some.inj ((show Tryd.prog.funcNamed "codemason/codemasonlaw.ColorGreedies" = some 3 by kernel_rfl).symm.trans hf) |>.symm
      obtain rfl : fn = Tryd.f3 := (Option.some.inj (Tryd.func3.symm.trans hfn)).symm
      exact ⟨by kernel_rfl, fun j t ht => by
        rw [Tryd.params3] at ht
        have hm : t ∈ [3, 22, 23] := by simpa using Array.mem_of_getElem? ht
        have hall : ([3, 22, 23].all fun u => !Tryd.prog.wantsStandIn u) = true := by kernel_rfl
        exact (show Tryd.prog.wantsStandIn t = false by simpa using List.all_eq_true.1 hall t hm)⟩)
    (by kernel_rfl)

end Go.Proofs.YthmcigdoaededaaDoor
