/-
  For any things that clash, in any order: no two that clash get one color from color.Greedy; there are no more colors than one clashes with things at most, and one; and no fewer than the fewest (O1; Welsh and Powell).
  Condition: when the call begins, math/bits.deBruijn32tab reads as its initialiser lays it; the card ties that to the program's text (of the pruned copy beside the seat: the packages that these roots load, no test file).
-/
import Derived.Test.YthmcigdoaededaaDoorLawColor
import Derived.Test.YthmcigdoaededaaDoorTie
import Derived.Test.YthmcigdoaededaaDoorCards
import Derived.SevenTiedAt
import Derived.ProofKit
import Derived.OpenShut
import Derived.Stop.Joined
import Derived.Test.YthmcigdoaededaaDoorColorIs
import Derived.Test.YthmcigdoaededaaDoorColorLst
import Derived.Test.YthmcigdoaededaaDoorColorGrd
import Derived.Test.YthmcigdoaededaaDoorColorSets
import Derived.Test.YthmcigdoaededaaDoorOnceNat
import Derived.Test.YthmcigdoaededaaDoorRegionAll
namespace Go.Proofs.YthmcigdoaededaaDoor
open Go.RowKit Go.ChangeShapes Go.WideShapes Go.ChangeAt Go.Deep
set_option linter.unusedSimpArgs false
set_option linter.unusedVariables false
set_option maxRecDepth 100000

theorem LeastC.smallG {n k : Nat} {ad : Nat → Nat → Bool} {l : List Nat} (hg : Gr ad) (h : LeastC n ad k l) : k ≤ n := by
  refine h.least n (fun i => i) ⟨fun i hi => hi, fun i j _ _ ha => hg.ne ha⟩

set_option maxHeartbeats 16000000 in
theorem lawColorGreedy_any (G : GreedyIs) (L : LeastIs) (n : Int) (A : Option Addr) (cap : Nat) (l : List (Int × Int)) (Ao : Option Addr) (co : Nat) (o : List Int) (w : World) (hz : TzT w) (hx : RdM w w.heap.size A l) (hm : l.length ≤ maxLen) (hxo : RdI w w.heap.size Ao o) (hmo : o.length ≤ maxLen) :
    Calls Tryd.prog 4 #[.int .i64 n, .slice A l.length cap, .slice Ao o.length co] w fun e w' => e = .returned (.bool true) ∧ Below w.heap.size w w' := by
  have HZT := Lib.hid hz
  have HM := Lib.hid hm
  have HMO := Lib.hid hmo
  clear hz
  clear hm hmo
  by_cases hc : ckCl n l = 0
  · have HC := Lib.hid hc
    obtain ⟨m, q, rfl, rfl, hok⟩ := ckCl_ok hc
    obtain ⟨len, hlen⟩ : ∃ len, (mvI q).length = len := ⟨_, rfl⟩
    have HL : Hid (q.length = len) := Lib.hid (by rw [← hlen, mvI_len])
    have HLI := Lib.hid hlen
    rw [hlen] at HM ⊢
    obtain ⟨lo, hlo⟩ : ∃ lo, o.length = lo := ⟨_, rfl⟩
    have HLO := Lib.hid hlo
    rw [hlo] at HMO ⊢
    have HOK := Lib.hid hok
    have hm8 := hok.small
    have hlen28 : len ≤ 28 := by rw [← HL.out]; exact hok.short
    clear hc hok hlen hlo
    by_cases hon : OnceI m o
    · obtain ⟨od, rfl, hod⟩ := once_natG hon
      have hoB : onceB m (ni od) = true := onceB_iff.2 hon
      have HOB := Lib.hid hoB
      have HOD := Lib.hid hod
      have hlom : lo = m := by rw [← HLO.out, ni_len2]; exact hod.len
      subst hlom
      have HLD : Hid (od.length = lo) := Lib.hid hod.len
      have HCL : Hid (∀ (i j : Nat) (w1 : World), Below w.heap.size w w1 → Calls Tryd.prog 9 #[.slice A len cap, .int .i64 (i : Int), .int .i64 (j : Int)] w1 fun e w' => e = .returned (.bool (clP q i j)) ∧ Below w1.heap.size w1 w') := Lib.hid fun i j w1 hb1 => clash_any A len cap q i j w1 ((hx.below hb1 (Nat.le_refl _)).more hb1.size) HL.out (by omega)
      have HDG : Hid (∀ (i : Nat) (w1 : World), Below w.heap.size w w1 → Calls Tryd.prog 12 #[.int .i64 lo, .slice A len cap, .int .i64 (i : Int)] w1 fun e w' => e = .returned (.int .i64 (dgN lo (clP q) i : Nat)) ∧ Below w1.heap.size w1 w') := Lib.hid fun i w1 hb1 => degree_any lo A len cap q i w1 ((hx.below hb1 (Nat.le_refl _)).more hb1.size) HL.out (by omega) hm8
      clear hon hoB hod
      go_enter Tryd.func4, Tryd.ntmps4
      go_wp2_with fail
      refine (G.ok lo A len cap q Ao lo co od _ HZT.out hx HL.out HOK.out hxo HLD.out HOD.out).mono ?_
      rintro e w1 ⟨⟨r, hG, A2, c2, rfl, hr1⟩, hb1⟩
      have hx1 := (hx.below hb1 (Nat.le_refl _)).more hb1.size
      have hxo1 := (hxo.below hb1 (Nat.le_refl _)).more hb1.size
      have HG := Lib.hid hG
      have HRL : Hid (r.length = lo) := Lib.hid hG.len
      have HRK := Lib.hid (hG.kol HOK.out.gr HOD.out)
      clear hG
      go_wp2_with (first
        | (go_at_call 10; (with_reducible refine (clashes_any lo A len cap (mvI q) _ hx1 HLI.out HM.out).mono ?_); rintro e w2 ⟨rfl, hb2⟩; rw [HC.out]; have hxo2 := (hxo1.below hb2 (Nat.le_refl _)).more hb2.size; have hx2 := (hx1.below hb2 (Nat.le_refl _)).more hb2.size; have hr2 := (hr1.below hb2 (Nat.le_refl _)).more hb2.size; have hb12 : Below w.heap.size w w2 := hb1.trans (hb2.mono hb1.size))
        | (go_at_call 8; (with_reducible refine (refOnce_any lo Ao lo co (ni od) _ _ hxo2 HLO.out HMO.out).mono ?_); rw [HOB.out]; rintro e w3 ⟨rfl, rfl⟩)
        | (go_at_call 11; (with_reducible refine (L.ok lo A len cap q _ hx2 HL.out HOK.out).mono ?_); rintro e w4 ⟨⟨kc, c, hC, A4, c4, rfl, hr4⟩, hb4⟩; have hkn := hC.smallG HOK.out.gr; have HCC := Lib.hid hC; clear hC))
      have hb14 : Below w.heap.size w w4 := hb12.trans (hb4.mono hb12.size)
      have hr24 := (hr2.below hb4 (Nat.le_refl _)).more hb4.size
      have hs4 := hb14.size
      go_loopw [11, 12] (fun s t wr => ∃ i D : Nat, i ≤ lo ∧ D ≤ lo ∧ t = .int .i64 i ∧ s = .int .i64 D ∧ Hid (∀ j, j < i → dgN lo (clP q) j ≤ D) ∧ Below w4.heap.size w4 wr) (fun _ t _ => lo - (intOf t).toNat)
      case atStart => exact ⟨0, 0, Nat.zero_le _, Nat.zero_le _, rfl, rfl, Lib.hid fun j h => by omega, Below.refl _ _⟩
      case round =>
        obtain ⟨i, D, hi, hDm, rfl, rfl, HD, hb5⟩ := hrel
        have hsz5 := hb5.size
        have hb15 : Below w.heap.size w wr := hb14.trans (hb5.mono hs4)
        by_cases hlt : i < lo
        · obtain ⟨d, hd⟩ : ∃ d, dgN lo (clP q) i = d := ⟨_, rfl⟩
          have HDI := Lib.hid hd
          have hdm : d ≤ lo := by rw [← hd]; exact cntN_le _ _
          clear hd
          go_wp2_with fail
          refine (HDG.out i _ hb15).mono ?_
          rintro e w5 ⟨rfl, hb6⟩
          rw [HDI.out]
          have hb16 : Below w.heap.size w w5 := hb15.trans (hb6.mono hb15.size)
          have hb46 : Below w4.heap.size w4 w5 := hb5.trans (hb6.mono hsz5)
          obtain ⟨D', hD'⟩ : ∃ D', (if D < d then d else D) = D' := ⟨_, rfl⟩
          have HN : Hid (∀ j, j < i + 1 → dgN lo (clP q) j ≤ D') := Lib.hid fun j hj => by
            rcases Nat.lt_or_ge j i with h | h
            · have := HD.out j h
              rw [← hD']
              split <;> omega
            · have : j = i := by omega
              rw [this, HDI.out, ← hD']
              split <;> omega
          have hDm' : D' ≤ lo := by rw [← hD']; split <;> omega
          by_cases hg : D < d
          · have hg2 : decide (D < d) = true := decide_eq_true hg
            rw [if_pos hg] at hD'
            subst hD'
            clear hg
            go_wp2_with fail
            refine (HDG.out i _ hb16).mono ?_
            rintro e w6 ⟨rfl, hb7⟩
            rw [HDI.out]
            have hb47 : Below w4.heap.size w4 w6 := hb46.trans (hb7.mono hb46.size)
            clear hg2
            have hb1W : Below w.heap.size w w6 := hb14.trans (hb47.mono hs4)
            have hsW := hb47.size
            go_wp2
            go_loopw [13] (fun t wr => ∃ j : Nat, j ≤ i ∧ t = .int .i64 j ∧ Below w4.heap.size w4 wr) (fun t _ => i - (intOf t).toNat)
            case atStart => exact ⟨0, Nat.zero_le _, rfl, hb47⟩
            case round =>
              obtain ⟨j, hj, rfl, hb9⟩ := hrel
              have hsz9 := hb9.size
              have hb19 : Below w.heap.size w wr := hb14.trans (hb9.mono hs4)
              by_cases hji : j < i
              · obtain ⟨ad2, y', rfl, hbl2, hd2, hcell2⟩ := (hr24.below hb9 (Nat.le_refl _)).at_ (k := i) (by rw [ni_len2, HRL.out]; exact hlt)
                obtain ⟨ri, hri⟩ : ∃ ri, r[i]? = some ri := ⟨_, List.getElem?_eq_getElem (by rw [HRL.out]; exact hlt)⟩
                rw [ni_at hri] at hd2
                injection hd2 with hd2
                subst hd2
                obtain ⟨ad3, y', hA3, hbl3, hd3, hcell3⟩ := (hr24.below hb9 (Nat.le_refl _)).at_ (k := j) (by rw [ni_len2, HRL.out]; omega)
                injection hA3 with hA3
                subst hA3
                obtain ⟨rj, hrj⟩ : ∃ rj, r[j]? = some rj := ⟨_, List.getElem?_eq_getElem (by rw [HRL.out]; omega)⟩
                rw [ni_at hrj] at hd3
                injection hd3 with hd3
                subst hd3
                have hne := HRK.out.ne i j hlt (show j < lo by omega)
                rw [cof_at hri, cof_at hrj] at hne
                clear hri hrj
                have hbli : (ad2.add i).block < wr.heap.size := by omega
                have hblj : (ad2.add j).block < wr.heap.size := by omega
                have hci : wr.drew.cell? (ad2.add i) = some (.int .i64 (ri : Int)) := hcell2
                have hcj : wr.drew.cell? (ad2.add j) = some (.int .i64 (rj : Int)) := hcell3
                have hil : (i : Int) < (lo : Int) := by omega
                have hjl : (j : Int) < (lo : Int) := by omega
                have hil2 : i < lo := hlt
                have hjl2 : j < lo := by omega
                have HCQ : Hid (∀ w1 : World, Below wr.heap.size wr w1 → Calls Tryd.prog 9 #[.slice A len cap, .int .i64 (i : Int), .int .i64 (j : Int)] w1 fun e w' => e = .returned (.bool (clP q i j)) ∧ Below w1.heap.size w1 w') := Lib.hid fun w1 h1 => HCL.out i j w1 (hb19.trans (h1.mono hb19.size))
                obtain ⟨cl, hcl⟩ : ∃ cl, clP q i j = cl := ⟨_, rfl⟩
                rw [hcl] at HCQ hne
                clear hcl
                cases cl
                · go_wp2
                  refine wp_region_each (X := Unit) (fun w' => Below wr.heap.size wr w') () (fun x => [.slice A len cap, .int .i64 (i : Int), .int .i64 (j : Int), .bool false, .bool false, undef, undef, undef, undef, undef, undef, undef, undef, undef, .bool false]) _ (by kernel_rfl) (by kernel_rfl) (by kernel_rfl) (fun x => by simp only [putsD, Act.put, List.setIfInBounds_toArray, List.set_cons_zero, List.set_cons_succ]; exact rfl) (Below.drew (Below.refl _ _)) (fun x => ?_) (fun x wz hSz => ?_)
                  · refine AllV.val (by rfl) (fun w hSw => by ((try dsimp only at hSw); go_simp)) ?_
                    refine AllV.val (by rfl) (fun w hSw => by ((try dsimp only at hSw); go_simp)) ?_
                    refine AllV.val (by rfl) (fun w hSw => by ((try dsimp only at hSw); go_simp)) ?_
                    refine AllV.call (fun _ _ => rfl) (by rfl) (fun w hSw K hK => ?_) ?_
                    · (try dsimp only at hSw)
                      go_simp
                      go_at_call 9
                      (with_reducible refine (HCQ.out _ hSw).mono ?_)
                      rintro e w8 ⟨rfl, hb8⟩
                      go_simp
                      exact hK x _ (hSw.trans (hb8.mono hSw.size))
                    refine AllV.val (by rfl) (fun w hSw => by ((try dsimp only at hSw); go_simp)) ?_
                    refine AllV.no (by rfl) ?_
                    refine AllV.no (by rfl) ?_
                    refine AllV.no (by rfl) ?_
                    refine AllV.no (by rfl) ?_
                    refine AllV.no (by rfl) ?_
                    refine AllV.no (by rfl) ?_
                    refine AllV.no (by rfl) ?_
                    refine AllV.no (by rfl) ?_
                    refine AllV.no (by rfl) ?_
                    refine AllV.val (by rfl) (fun w hSw => by ((try dsimp only at hSw); go_simp)) ?_
                    exact AllV.nil
                  go_wp2
                  go_round
                  case rel => exact ⟨j + 1, by omega, by go_num, hb9.trans (hSz.mono hsz9)⟩
                  case measure => (simp [intOf]; omega)
                · have hrr : ((ri : Int) == (rj : Int)) = false := by have := hne rfl; simp; omega
                  clear hne
                  go_wp2
                  refine wp_region_each (X := Unit) (fun w' => Below wr.heap.size wr w' ∧ w'.cell? (ad2.add i) = some (.int .i64 (ri : Int)) ∧ w'.cell? (ad2.add j) = some (.int .i64 (rj : Int))) () (fun x => [.slice A len cap, .int .i64 (i : Int), .int .i64 (j : Int), .bool true, .bool true, .slice (some ad2) lo c2, .int .i64 (i : Int), .pointer (some (ad2.add i)), .int .i64 (ri : Int), .slice (some ad2) lo c2, .int .i64 (j : Int), .pointer (some (ad2.add j)), .int .i64 (rj : Int), .bool false, .bool false]) _ (by kernel_rfl) (by kernel_rfl) (by kernel_rfl) (fun x => by simp only [putsD, Act.put, List.setIfInBounds_toArray, List.set_cons_zero, List.set_cons_succ]; exact rfl) ⟨Below.drew (Below.refl _ _), hci, hcj⟩ (fun x => ?_) (fun x wz hSz => ?_)
                  · refine AllV.val (by rfl) (fun w hSw => by ((try dsimp only at hSw); go_simp)) ?_
                    refine AllV.val (by rfl) (fun w hSw => by ((try dsimp only at hSw); go_simp)) ?_
                    refine AllV.val (by rfl) (fun w hSw => by ((try dsimp only at hSw); go_simp)) ?_
                    refine AllV.call (fun _ _ => rfl) (by rfl) (fun w hSw K hK => ?_) ?_
                    · (try dsimp only at hSw)
                      go_simp
                      go_at_call 9
                      (with_reducible refine (HCQ.out _ hSw.1).mono ?_)
                      rintro e w8 ⟨rfl, hb8⟩
                      go_simp
                      have hb9 : Below wr.heap.size wr w8 := hSw.1.trans (hb8.mono hSw.1.size)
                      exact hK x _ ⟨hb9, (hb9.cell hbli).trans hci, (hb9.cell hblj).trans hcj⟩
                    refine AllV.val (by rfl) (fun w hSw => by ((try dsimp only at hSw); go_simp)) ?_
                    refine AllV.val (by rfl) (fun w hSw => by ((try dsimp only at hSw); go_simp)) ?_
                    refine AllV.val (by rfl) (fun w hSw => by ((try dsimp only at hSw); go_simp)) ?_
                    refine AllV.val (by rfl) (fun w hSw => by ((try dsimp only at hSw); go_simp)) ?_
                    refine AllV.val (by rfl) (fun w hSw => by ((try dsimp only at hSw); go_simp)) ?_
                    refine AllV.val (by rfl) (fun w hSw => by ((try dsimp only at hSw); go_simp)) ?_
                    refine AllV.val (by rfl) (fun w hSw => by ((try dsimp only at hSw); go_simp)) ?_
                    refine AllV.val (by rfl) (fun w hSw => by ((try dsimp only at hSw); go_simp)) ?_
                    refine AllV.val (by rfl) (fun w hSw => by ((try dsimp only at hSw); go_simp)) ?_
                    refine AllV.val (by rfl) (fun w hSw => by ((try dsimp only at hSw); go_simp)) ?_
                    refine AllV.val (by rfl) (fun w hSw => by ((try dsimp only at hSw); go_simp)) ?_
                    exact AllV.nil
                  have hSb := hSz.1
                  clear hSz
                  go_wp2
                  go_round
                  case rel => exact ⟨j + 1, by omega, by go_num, hb9.trans (hSb.mono hsz9)⟩
                  case measure => (simp [intOf]; omega)
              · go_wp2
                go_round
                case rel => exact ⟨i + 1, d, by omega, hDm', by go_num, rfl, HN, hb9⟩
                case measure => (simp [intOf]; omega)
          · have hg2 : decide (D < d) = false := decide_eq_false hg
            rw [if_neg hg] at hD'
            subst hD'
            clear hg
            have hb1W : Below w.heap.size w w5 := hb14.trans (hb46.mono hs4)
            have hsW := hb46.size
            go_wp2
            clear hg2
            go_loopw [13] (fun t wr => ∃ j : Nat, j ≤ i ∧ t = .int .i64 j ∧ Below w4.heap.size w4 wr) (fun t _ => i - (intOf t).toNat)
            case atStart => exact ⟨0, Nat.zero_le _, rfl, hb46⟩
            case round =>
              obtain ⟨j, hj, rfl, hb9⟩ := hrel
              have hsz9 := hb9.size
              have hb19 : Below w.heap.size w wr := hb14.trans (hb9.mono hs4)
              by_cases hji : j < i
              · obtain ⟨ad2, y', rfl, hbl2, hd2, hcell2⟩ := (hr24.below hb9 (Nat.le_refl _)).at_ (k := i) (by rw [ni_len2, HRL.out]; exact hlt)
                obtain ⟨ri, hri⟩ : ∃ ri, r[i]? = some ri := ⟨_, List.getElem?_eq_getElem (by rw [HRL.out]; exact hlt)⟩
                rw [ni_at hri] at hd2
                injection hd2 with hd2
                subst hd2
                obtain ⟨ad3, y', hA3, hbl3, hd3, hcell3⟩ := (hr24.below hb9 (Nat.le_refl _)).at_ (k := j) (by rw [ni_len2, HRL.out]; omega)
                injection hA3 with hA3
                subst hA3
                obtain ⟨rj, hrj⟩ : ∃ rj, r[j]? = some rj := ⟨_, List.getElem?_eq_getElem (by rw [HRL.out]; omega)⟩
                rw [ni_at hrj] at hd3
                injection hd3 with hd3
                subst hd3
                have hne := HRK.out.ne i j hlt (show j < lo by omega)
                rw [cof_at hri, cof_at hrj] at hne
                clear hri hrj
                have hbli : (ad2.add i).block < wr.heap.size := by omega
                have hblj : (ad2.add j).block < wr.heap.size := by omega
                have hci : wr.drew.cell? (ad2.add i) = some (.int .i64 (ri : Int)) := hcell2
                have hcj : wr.drew.cell? (ad2.add j) = some (.int .i64 (rj : Int)) := hcell3
                have hil : (i : Int) < (lo : Int) := by omega
                have hjl : (j : Int) < (lo : Int) := by omega
                have hil2 : i < lo := hlt
                have hjl2 : j < lo := by omega
                have HCQ : Hid (∀ w1 : World, Below wr.heap.size wr w1 → Calls Tryd.prog 9 #[.slice A len cap, .int .i64 (i : Int), .int .i64 (j : Int)] w1 fun e w' => e = .returned (.bool (clP q i j)) ∧ Below w1.heap.size w1 w') := Lib.hid fun w1 h1 => HCL.out i j w1 (hb19.trans (h1.mono hb19.size))
                obtain ⟨cl, hcl⟩ : ∃ cl, clP q i j = cl := ⟨_, rfl⟩
                rw [hcl] at HCQ hne
                clear hcl
                cases cl
                · go_wp2
                  refine wp_region_each (X := Unit) (fun w' => Below wr.heap.size wr w') () (fun x => [.slice A len cap, .int .i64 (i : Int), .int .i64 (j : Int), .bool false, .bool false, undef, undef, undef, undef, undef, undef, undef, undef, undef, .bool false]) _ (by kernel_rfl) (by kernel_rfl) (by kernel_rfl) (fun x => by simp only [putsD, Act.put, List.setIfInBounds_toArray, List.set_cons_zero, List.set_cons_succ]; exact rfl) (Below.drew (Below.refl _ _)) (fun x => ?_) (fun x wz hSz => ?_)
                  · refine AllV.val (by rfl) (fun w hSw => by ((try dsimp only at hSw); go_simp)) ?_
                    refine AllV.val (by rfl) (fun w hSw => by ((try dsimp only at hSw); go_simp)) ?_
                    refine AllV.val (by rfl) (fun w hSw => by ((try dsimp only at hSw); go_simp)) ?_
                    refine AllV.call (fun _ _ => rfl) (by rfl) (fun w hSw K hK => ?_) ?_
                    · (try dsimp only at hSw)
                      go_simp
                      go_at_call 9
                      (with_reducible refine (HCQ.out _ hSw).mono ?_)
                      rintro e w8 ⟨rfl, hb8⟩
                      go_simp
                      exact hK x _ (hSw.trans (hb8.mono hSw.size))
                    refine AllV.val (by rfl) (fun w hSw => by ((try dsimp only at hSw); go_simp)) ?_
                    refine AllV.no (by rfl) ?_
                    refine AllV.no (by rfl) ?_
                    refine AllV.no (by rfl) ?_
                    refine AllV.no (by rfl) ?_
                    refine AllV.no (by rfl) ?_
                    refine AllV.no (by rfl) ?_
                    refine AllV.no (by rfl) ?_
                    refine AllV.no (by rfl) ?_
                    refine AllV.no (by rfl) ?_
                    refine AllV.val (by rfl) (fun w hSw => by ((try dsimp only at hSw); go_simp)) ?_
                    exact AllV.nil
                  go_wp2
                  go_round
                  case rel => exact ⟨j + 1, by omega, by go_num, hb9.trans (hSz.mono hsz9)⟩
                  case measure => (simp [intOf]; omega)
                · have hrr : ((ri : Int) == (rj : Int)) = false := by have := hne rfl; simp; omega
                  clear hne
                  go_wp2
                  refine wp_region_each (X := Unit) (fun w' => Below wr.heap.size wr w' ∧ w'.cell? (ad2.add i) = some (.int .i64 (ri : Int)) ∧ w'.cell? (ad2.add j) = some (.int .i64 (rj : Int))) () (fun x => [.slice A len cap, .int .i64 (i : Int), .int .i64 (j : Int), .bool true, .bool true, .slice (some ad2) lo c2, .int .i64 (i : Int), .pointer (some (ad2.add i)), .int .i64 (ri : Int), .slice (some ad2) lo c2, .int .i64 (j : Int), .pointer (some (ad2.add j)), .int .i64 (rj : Int), .bool false, .bool false]) _ (by kernel_rfl) (by kernel_rfl) (by kernel_rfl) (fun x => by simp only [putsD, Act.put, List.setIfInBounds_toArray, List.set_cons_zero, List.set_cons_succ]; exact rfl) ⟨Below.drew (Below.refl _ _), hci, hcj⟩ (fun x => ?_) (fun x wz hSz => ?_)
                  · refine AllV.val (by rfl) (fun w hSw => by ((try dsimp only at hSw); go_simp)) ?_
                    refine AllV.val (by rfl) (fun w hSw => by ((try dsimp only at hSw); go_simp)) ?_
                    refine AllV.val (by rfl) (fun w hSw => by ((try dsimp only at hSw); go_simp)) ?_
                    refine AllV.call (fun _ _ => rfl) (by rfl) (fun w hSw K hK => ?_) ?_
                    · (try dsimp only at hSw)
                      go_simp
                      go_at_call 9
                      (with_reducible refine (HCQ.out _ hSw.1).mono ?_)
                      rintro e w8 ⟨rfl, hb8⟩
                      go_simp
                      have hb9 : Below wr.heap.size wr w8 := hSw.1.trans (hb8.mono hSw.1.size)
                      exact hK x _ ⟨hb9, (hb9.cell hbli).trans hci, (hb9.cell hblj).trans hcj⟩
                    refine AllV.val (by rfl) (fun w hSw => by ((try dsimp only at hSw); go_simp)) ?_
                    refine AllV.val (by rfl) (fun w hSw => by ((try dsimp only at hSw); go_simp)) ?_
                    refine AllV.val (by rfl) (fun w hSw => by ((try dsimp only at hSw); go_simp)) ?_
                    refine AllV.val (by rfl) (fun w hSw => by ((try dsimp only at hSw); go_simp)) ?_
                    refine AllV.val (by rfl) (fun w hSw => by ((try dsimp only at hSw); go_simp)) ?_
                    refine AllV.val (by rfl) (fun w hSw => by ((try dsimp only at hSw); go_simp)) ?_
                    refine AllV.val (by rfl) (fun w hSw => by ((try dsimp only at hSw); go_simp)) ?_
                    refine AllV.val (by rfl) (fun w hSw => by ((try dsimp only at hSw); go_simp)) ?_
                    refine AllV.val (by rfl) (fun w hSw => by ((try dsimp only at hSw); go_simp)) ?_
                    refine AllV.val (by rfl) (fun w hSw => by ((try dsimp only at hSw); go_simp)) ?_
                    refine AllV.val (by rfl) (fun w hSw => by ((try dsimp only at hSw); go_simp)) ?_
                    exact AllV.nil
                  have hSb := hSz.1
                  clear hSz
                  go_wp2
                  go_round
                  case rel => exact ⟨j + 1, by omega, by go_num, hb9.trans (hSb.mono hsz9)⟩
                  case measure => (simp [intOf]; omega)
              · go_wp2
                go_round
                case rel => exact ⟨i + 1, D, by omega, hDm', by go_num, rfl, HN, hb9⟩
                case measure => (simp [intOf]; omega)
        · have HMX : Hid (mst r ≤ D + 1 ∧ mst c ≤ mst r) := Lib.hid ⟨HG.out.most HOD.out fun j hj => HD.out j (by omega), by rw [HCC.out.most]; exact HCC.out.least _ _ HRK.out⟩
          have hr25 := (hr24.below hb5 (Nat.le_refl _)).more hb5.size
          have hr45 := (hr4.below hb5 (Nat.le_refl _)).more hb5.size
          have HRV : Hid (∀ x ∈ r, x ≤ 65536) := Lib.hid fun x hx => by
            have h1 := mst_lt hx
            have h2 := HMX.out.1
            omega
          have HCV : Hid (∀ x ∈ c, x ≤ 65536) := Lib.hid fun x hx => by
            have := cof_lt HCC.out.len (fun i hi => HCC.out.kol.lt i hi) x hx
            omega
          have HCLN : Hid (c.length = lo) := Lib.hid HCC.out.len
          obtain ⟨mr, hmr⟩ : ∃ mr, mst r = mr := ⟨_, rfl⟩
          obtain ⟨mc, hmc⟩ : ∃ mc, mst c = mc := ⟨_, rfl⟩
          have HMR := Lib.hid hmr
          have HMC := Lib.hid hmc
          rw [hmr, hmc] at HMX
          obtain ⟨k1, k2⟩ := HMX.out
          have k1' : (mr : Int) ≤ (D : Int) + 1 := by omega
          have k2' : (mc : Int) ≤ (mr : Int) := by omega
          clear hmr hmc
          go_wp2_with (first
            | (go_at_call 13; (with_reducible refine (most_any A2 lo c2 r _ _ hr25 HRL.out (by omega) HRV.out).mono ?_); rw [HMR.out]; rintro e w6 ⟨rfl, rfl⟩)
            | (go_at_call 13; (with_reducible refine (most_any A4 lo c4 c _ _ hr45 HCLN.out (by omega) HCV.out).mono ?_); rw [HMC.out]; rintro e w6 ⟨rfl, rfl⟩))
          go_ret
          exact ⟨ret_bool (by simp), hb15⟩
    · have hoB := onceB_no hon
      have HOB := Lib.hid hoB
      have HON := Lib.hid hon
      clear hon hoB
      go_enter Tryd.func4, Tryd.ntmps4
      go_wp2_with fail
      refine (G.form m A len cap q Ao lo co o _ hx HL.out HOK.out hxo HLO.out HMO.out HON.out).mono ?_
      rintro e w1 ⟨rfl, hb1⟩
      have hx1 := (hx.below hb1 (Nat.le_refl _)).more hb1.size
      have hxo1 := (hxo.below hb1 (Nat.le_refl _)).more hb1.size
      go_wp2_with (first
        | (go_at_call 10; (with_reducible refine (clashes_any m A len cap (mvI q) _ hx1 HLI.out HM.out).mono ?_); rintro e w2 ⟨rfl, hb2⟩; rw [HC.out]; have hxo2 := (hxo1.below hb2 (Nat.le_refl _)).more hb2.size)
        | (go_at_call 8; (with_reducible refine (refOnce_any m Ao lo co o _ _ hxo2 HLO.out HMO.out).mono ?_); rw [HOB.out]; rintro e w3 ⟨rfl, rfl⟩))
      go_ret
      exact ⟨rfl, hb1.trans (hb2.mono hb1.size)⟩
  · have HC := Lib.hid hc
    obtain ⟨len, hlen⟩ : ∃ len, l.length = len := ⟨_, rfl⟩
    have HLI := Lib.hid hlen
    rw [hlen] at HM ⊢
    obtain ⟨lo, hlo⟩ : ∃ lo, o.length = lo := ⟨_, rfl⟩
    have HLO := Lib.hid hlo
    rw [hlo] at HMO ⊢
    obtain ⟨x, hx0⟩ : ∃ x, ckCl n l = x := ⟨_, rfl⟩
    have HX := Lib.hid hx0
    have hne : (x != 0) = true := by rw [← hx0]; simp [hc]
    have hne2 : (x == 0) = false := by rw [← hx0]; simp [hc]
    clear hc hlen hx0 hlo
    go_enter Tryd.func4, Tryd.ntmps4
    go_wp2_with fail
    refine (G.bad n A len cap l Ao lo co o _ hx HLI.out HM.out hxo HLO.out HMO.out HC.out).mono ?_
    rintro e w1 ⟨rfl, hb1⟩
    rw [HX.out]
    have hx1 := (hx.below hb1 (Nat.le_refl _)).more hb1.size
    go_wp2_with fail
    refine (clashes_any n A len cap l _ hx1 HLI.out HM.out).mono ?_
    rintro e w2 ⟨rfl, hb2⟩
    rw [HX.out, hne2]
    go_wp2
    go_ret
    exact ⟨rfl, hb1.trans (hb2.mono hb1.size)⟩

set_option maxRecDepth 100000 in
theorem lawColorGreedy_lifted (os : Os) (started : os.Started) (H : Type) (enc : TypeId × Value → H) :
    ReturnsInHanded {} Tryd.checked os 4 .any (fun w args => (Rows.colorGreedySpec.pre enc Tryd.prog Tryd.f4 [] false w args ∧ laidMetH Tryd.prog Rows.colorGreedyRow.laid w) ∧ sizedMet enc Tryd.prog Tryd.f4 (OpenSpec.ofChange Rows.colorGreedySpec) false w args) (Rows.colorGreedySpec.post enc Tryd.prog Tryd.f4 false true false false) := by
  refine returnsInHanded_of_change_and (C := Tryd.checked) (X := fun w _ => laidMetH Tryd.prog Rows.colorGreedyRow.laid w) (fun _ _ _ hh h => h.of_heap hh) Tryd.own started (by kernel_rfl) Tryd.func4
    (ChangeSpec.witness_shaped (enc := enc) (C := Tryd.checked) (os := os) (X := fun w _ => laidMetH Tryd.prog Rows.colorGreedyRow.laid w) false (World.doorLaid Tryd.prog 400 os) #[.int .i64 0, .slice none 0 0, .slice none 0 0] 8 rfl (World.shaped_of_RefB (by kernel_rfl) (by kernel_rfl)) (by kernel_rfl) (by kernel_rfl) (by kernel_rfl) (door_met os _)) ?_
  intro W base args ds gs before hval0 hW hcnd hsz hL _
  have hval : ∀ (j : Nat) t v, Tryd.f4.params[j]? = some t → args[j]? = some v → Value.okWide Tryd.prog W .any base t v := hval0
  have hW' := hW
  obtain ⟨p, q, hA0, hV, rfl, hfz, hnd⟩ := hW
  have hA : DataW.TrodAll enc Tryd.prog W 0 (fun _ => true) true Tryd.f4.params.toList args.toList ds p := hA0
  obtain ⟨hgs, _⟩ := trodVars_none hV
  rw [Tryd.params4] at hA hval
  obtain ⟨v0, vs0, d0, ds0, p0, q0, hargs, rfl, rfl, h0, r0⟩ := trodAll_cons hA
  obtain ⟨v1, vs1, d1, ds1, p1, q1, rfl, rfl, rfl, h1, r1⟩ := trodAll_cons r0
  obtain ⟨v2, vs2, d2, ds2, p2, q2, rfl, rfl, rfl, h2, r2⟩ := trodAll_cons r1
  obtain ⟨rfl, rfl, rfl⟩ := trodAll_nil r2
  have hargs2 : args = #[v0, v1, v2] := Array.toList_inj.1 hargs
  subst hargs2
  obtain ⟨a0, rfl, _, _, w0⟩ := open_int Tryd.underlying3 (hval 0 3 v0 rfl rfl) h0
  obtain ⟨A1, c1, l1, rfl, lc1, cm1, x1, r1⟩ := open_pairsA (hval 1 22 v1 rfl rfl) h1
  have b1 := len_reach Tryd.underlying22 (hval 1 22 _ rfl rfl) h1 hsz (j := 1) (by rw [Tryd.params4]; rfl) rfl
  rw [show Tryd.prog.bytesOf (Tryd.prog.elem 22) = 16 from by kernel_rfl] at b1
  obtain ⟨A2, c2, l2, rfl, lc2, cm2, x2, r2⟩ := open_intsA (hval 2 23 v2 rfl rfl) h2
  have b2 := len_reach Tryd.underlying23 (hval 2 23 _ rfl rfl) h2 hsz (j := 2) (by rw [Tryd.params4]; rfl) rfl
  rw [show Tryd.prog.bytesOf (Tryd.prog.elem 23) = 8 from by kernel_rfl] at b2
  refine (lawColorGreedy_any greedyIs leastIs a0 A1 c1 l1 A2 c2 l2 _ (tz_laid hL) x1 (by omega) x2 (by omega)).mono fun e W' ⟨he, hb⟩ => ?_
  subst he
  exact ⟨_, rfl, law_post Tryd.laidOut rfl (by kernel_rfl) Tryd.underlying4 ⟨rfl, rfl, rfl⟩ (by kernel_rfl) hW' hb⟩

theorem colorGreedy_holds : Rows.ColorGreedySaid :=
  OpenClaim.holds_of_wide 4 Tryd.f4 rfl rfl rfl rfl rfl rfl rfl ⟨rfl, rfl, rfl, rfl, rfl⟩ rfl rfl rfl rfl rfl (by kernel_rfl) Tryd.func4 (show joinedFacts Tryd.prog 4 Tryd.f4 Rows.colorGreedySpec Rows.colorGreedyRow = true from (by unfold joinedFacts; (repeat' (with_reducible refine and_both ?_ ?_)) <;> first | (with_reducible exact may_enter) | ((with_reducible refine make_ok ?_); rfl) | ((with_reducible refine lifts_ok ?_); rfl) | kernel_rfl))
    (of_decide_eq_true (by kernel_rfl)) (by unfold Func.isWrapper; rw [if_neg (of_decide_eq_false (by kernel_rfl))]; exact ⟨rfl, rfl⟩)
    (fun os started H enc _ => lawColorGreedy_lifted os started H enc)

set_option maxRecDepth 100000 in
theorem colorGreedyCard_holds : Rows.ColorGreedyCardSaid :=
  Claim7.holds_tied_plain_at .later [] [.data] true _ false
    colorGreedy_holds (fun _ h => by cases h) (by kernel_rfl) (fun _ h => by cases h) colorGreedy_row_tie rfl ⟨rfl, rfl⟩ (by kernel_rfl) rfl
    (fun f fn hf hfn => by
      obtain rfl : f = 4 := Option.some.inj ((show Tryd.prog.funcNamed "codemason/codemasonkeep.ColorGreedy" = some 4 by kernel_rfl).symm.trans hf) |>.symm
      obtain rfl : fn = Tryd.f4 := (Option.some.inj (Tryd.func4.symm.trans hfn)).symm
      exact ⟨by kernel_rfl, fun j t ht => by
        rw [Tryd.params4] at ht
        have hm : t ∈ [3, 22, 23] := by simpa using Array.mem_of_getElem? ht
        have hall : ([3, 22, 23].all fun u => !Tryd.prog.wantsStandIn u) = true := by kernel_rfl
        exact (show Tryd.prog.wantsStandIn t = false by simpa using List.all_eq_true.1 hall t hm)⟩)
    (by kernel_rfl)

end Go.Proofs.YthmcigdoaededaaDoor
