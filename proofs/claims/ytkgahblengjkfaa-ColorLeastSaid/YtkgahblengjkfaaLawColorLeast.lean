/-
  For any things that clash: no two that clash get one color from color.Least; and each color but 0 is that of one that clashes with one of each lesser color (O1).
-/
import Derived.Test.YtkgahblengjkfaaLawColor
import Derived.Test.YtkgahblengjkfaaColorIs
import Derived.Test.YtkgahblengjkfaaColorLst
import Derived.Test.YtkgahblengjkfaaColorSets
import Derived.Test.YtkgahblengjkfaaRegionAll
namespace Go.Proofs.Ytkgahblengjkfaa
open Go.RowKit Go.ChangeShapes Go.WideShapes Go.ChangeAt Go.Deep
set_option linter.unusedSimpArgs false
set_option linter.unusedVariables false
set_option maxRecDepth 100000

theorem LeastC.smallE {n k : Nat} {ad : Nat → Nat → Bool} {l : List Nat} (hg : Gr ad) (h : LeastC n ad k l) : k ≤ n := by
  refine h.least n (fun i => i) ⟨fun i hi => hi, fun i j _ _ ha => hg.ne ha⟩

/-- i has color k, and clashes with one of each lesser color -/
def Frc (n : Nat) (ad : Nat → Nat → Bool) (c : List Nat) (k i : Nat) : Prop := cof c i = k ∧ ∀ low, low < k → ∃ j, j < n ∧ cof c j = low ∧ ad i j = true

set_option maxHeartbeats 32000000 in
theorem lawColorLeast_any (L : LeastIs) (n : Int) (A : Option Addr) (cap : Nat) (l : List (Int × Int)) (w : World) (hx : RdM w w.heap.size A l) (hm : l.length ≤ maxLen) :
    Calls Try.prog 8 #[.int .i64 n, .slice A l.length cap] w fun e w' => e = .returned (.bool true) ∧ Below w.heap.size w w' := by
  have HM := Lib.hid hm
  clear hm
  by_cases hc : ckCl n l = 0
  · have HC := Lib.hid hc
    obtain ⟨m, q, rfl, rfl, hok⟩ := ckCl_ok hc
    obtain ⟨len, hlen⟩ : ∃ len, (mvI q).length = len := ⟨_, rfl⟩
    have HL : Hid (q.length = len) := Lib.hid (by rw [← hlen, mvI_len])
    have HLI := Lib.hid hlen
    rw [hlen] at HM ⊢
    have HOK := Lib.hid hok
    have hm8 := hok.small
    have hlen28 : len ≤ 28 := by rw [← HL.out]; exact hok.short
    obtain ⟨ad0, had⟩ : ∃ ad0, clP q = ad0 := ⟨_, rfl⟩
    have HGR : Hid (Gr ad0) := Lib.hid (by rw [← had]; exact hok.gr)
    have HCL : Hid (∀ (i j : Nat) (w1 : World), Below w.heap.size w w1 → Calls Try.prog 16 #[.slice A len cap, .int .i64 (i : Int), .int .i64 (j : Int)] w1 fun e w' => e = .returned (.bool (ad0 i j)) ∧ Below w1.heap.size w1 w') := Lib.hid fun i j w1 hb1 => by
      rw [← had]
      exact clash_any A len cap q i j w1 ((hx.below hb1 (Nat.le_refl _)).more hb1.size) HL.out (by omega)
    have HAD := Lib.hid had
    clear hc hok hlen had
    go_enter Try.func8, Try.ntmps8
    go_wp2_with fail
    refine (L.ok m A len cap q _ hx HL.out HOK.out).mono ?_
    rintro e w1 ⟨⟨K, r, hC, A2, c2, rfl, hr1⟩, hb1⟩
    rw [HAD.out] at hC
    have hx1 := (hx.below hb1 (Nat.le_refl _)).more hb1.size
    have HCC := Lib.hid hC
    have hKm := hC.smallE HGR.out
    have HRL : Hid (r.length = m) := Lib.hid hC.len
    have HRV : Hid (∀ x ∈ r, x ≤ 65536) := Lib.hid fun x hx => by
      have := cof_lt hC.len (fun i hi => hC.kol.lt i hi) x hx
      omega
    have HMK : Hid (mst r = K) := Lib.hid hC.most
    clear hC
    go_wp2_with fail
    refine (clashes_any m A len cap (mvI q) _ hx1 HLI.out HM.out).mono ?_
    rintro e w2 ⟨rfl, hb2⟩
    rw [HC.out]
    have hb12 : Below w.heap.size w w2 := hb1.trans (hb2.mono hb1.size)
    have hr2 := (hr1.below hb2 (Nat.le_refl _)).more hb2.size
    have hs2 := hb12.size
    go_wp2
    go_loopw [7] (fun u wr => ∃ i : Nat, i ≤ m ∧ u = .int .i64 i ∧ Below w2.heap.size w2 wr) (fun u _ => m - (intOf u).toNat)
    case atStart => exact ⟨0, Nat.zero_le _, rfl, Below.refl _ _⟩
    case round =>
      obtain ⟨i, hi, rfl, hb3⟩ := hrel
      have hsz3 := hb3.size
      by_cases hlt : i < m
      · obtain ⟨w3, rfl⟩ : ∃ w3 : World, w3 = wr := ⟨_, rfl⟩
        go_wp2
        go_loopw [8] (fun u wr => ∃ j : Nat, j ≤ i ∧ u = .int .i64 j ∧ Below w2.heap.size w2 wr) (fun u _ => i - (intOf u).toNat)
        case atStart => exact ⟨0, Nat.zero_le _, rfl, hb3⟩
        case round =>
          obtain ⟨j, hj, rfl, hb9⟩ := hrel
          have hsz9 := hb9.size
          have hb19 : Below w.heap.size w wr := hb12.trans (hb9.mono hs2)
          by_cases hji : j < i
          · obtain ⟨ad2, y', rfl, hbl2, hd2, hcell2⟩ := (hr2.below hb9 (Nat.le_refl _)).at_ (k := i) (by rw [ni_len2, HRL.out]; exact hlt)
            obtain ⟨ri, hri⟩ : ∃ ri, r[i]? = some ri := ⟨_, List.getElem?_eq_getElem (by rw [HRL.out]; exact hlt)⟩
            rw [ni_at hri] at hd2
            injection hd2 with hd2
            subst hd2
            obtain ⟨ad3, y', hA3, hbl3, hd3, hcell3⟩ := (hr2.below hb9 (Nat.le_refl _)).at_ (k := j) (by rw [ni_len2, HRL.out]; omega)
            injection hA3 with hA3
            subst hA3
            obtain ⟨rj, hrj⟩ : ∃ rj, r[j]? = some rj := ⟨_, List.getElem?_eq_getElem (by rw [HRL.out]; omega)⟩
            rw [ni_at hrj] at hd3
            injection hd3 with hd3
            subst hd3
            have hne := HCC.out.kol.ne i j hlt (show j < m by omega)
            rw [cof_at hri, cof_at hrj] at hne
            clear hri hrj
            have hbli : (ad2.add i).block < wr.heap.size := by omega
            have hblj : (ad2.add j).block < wr.heap.size := by omega
            have hci : wr.drew.cell? (ad2.add i) = some (.int .i64 (ri : Int)) := hcell2
            have hcj : wr.drew.cell? (ad2.add j) = some (.int .i64 (rj : Int)) := hcell3
            have hil : (i : Int) < (m : Int) := by omega
            have hjl : (j : Int) < (m : Int) := by omega
            have hjl2 : j < m := by omega
            have HCQ : Hid (∀ w1 : World, Below wr.heap.size wr w1 → Calls Try.prog 16 #[.slice A len cap, .int .i64 (i : Int), .int .i64 (j : Int)] w1 fun e w' => e = .returned (.bool (ad0 i j)) ∧ Below w1.heap.size w1 w') := Lib.hid fun w1 h1 => HCL.out i j w1 (hb19.trans (h1.mono hb19.size))
            obtain ⟨cl, hcl⟩ : ∃ cl, ad0 i j = cl := ⟨_, rfl⟩
            rw [hcl] at HCQ hne
            clear hcl
            cases cl
            · go_wp2
              refine wp_region_each (X := Unit) (fun w' => Below wr.heap.size wr w') () (fun x => [.slice A len cap, .int .i64 (i : Int), .int .i64 (j : Int), .bool false, .bool false, undef, undef, undef, undef, undef, undef, undef, undef, undef, .bool false]) _ (by kernel_rfl) (by kernel_rfl) (by kernel_rfl) (fun x => by simp only [putsD, Act.put, List.setIfInBounds_toArray, List.set_cons_zero, List.set_cons_succ]; exact rfl) (Below.drew (Below.refl _ _)) (fun x => ?_) (fun x wz hSz => ?_)
              · refine AllV.val (by rfl) (fun w hSw => by ((try dsimp only at hSw); go_simp)) ?_
                refine AllV.val (by rfl) (fun w hSw => by ((try dsimp only at hSw); go_simp)) ?_
                refine AllV.val (by rfl) (fun w hSw => by ((try dsimp only at hSw); go_simp)) ?_
                refine AllV.call (fun _ _ => rfl) (by rfl) (fun w hSw K hK => ?_) ?_
                · (try dsimp only at hSw)
                  go_simp
                  go_at_call 16
                  (with_reducible refine (HCQ.out _ hSw).mono ?_)
                  rintro e w8 ⟨rfl, hb8⟩
                  go_simp
                  exact hK x _ (hSw.trans (hb8.mono hSw.size))
                refine AllV.val (by rfl) (fun w hSw => by ((try dsimp only at hSw); go_simp)) ?_
                refine AllV.no (by rfl) ?_
                refine AllV.no (by rfl) ?_
                refine AllV.no (by rfl) ?_
                refine AllV.no (by rfl) ?_
                refine AllV.no (by rfl) ?_
                refine AllV.no (by rfl) ?_
                refine AllV.no (by rfl) ?_
                refine AllV.no (by rfl) ?_
                refine AllV.no (by rfl) ?_
                refine AllV.val (by rfl) (fun w hSw => by ((try dsimp only at hSw); go_simp)) ?_
                exact AllV.nil
              go_wp2
              go_round
              case rel => exact ⟨j + 1, by omega, by go_num, hb9.trans (hSz.mono hsz9)⟩
              case measure => (simp [intOf]; omega)
            · have hrr : ((ri : Int) == (rj : Int)) = false := by have := hne rfl; simp; omega
              clear hne
              go_wp2
              refine wp_region_each (X := Unit) (fun w' => Below wr.heap.size wr w' ∧ w'.cell? (ad2.add i) = some (.int .i64 (ri : Int)) ∧ w'.cell? (ad2.add j) = some (.int .i64 (rj : Int))) () (fun x => [.slice A len cap, .int .i64 (i : Int), .int .i64 (j : Int), .bool true, .bool true, .slice (some ad2) m c2, .int .i64 (i : Int), .pointer (some (ad2.add i)), .int .i64 (ri : Int), .slice (some ad2) m c2, .int .i64 (j : Int), .pointer (some (ad2.add j)), .int .i64 (rj : Int), .bool false, .bool false]) _ (by kernel_rfl) (by kernel_rfl) (by kernel_rfl) (fun x => by simp only [putsD, Act.put, List.setIfInBounds_toArray, List.set_cons_zero, List.set_cons_succ]; exact rfl) ⟨Below.drew (Below.refl _ _), hci, hcj⟩ (fun x => ?_) (fun x wz hSz => ?_)
              · refine AllV.val (by rfl) (fun w hSw => by ((try dsimp only at hSw); go_simp)) ?_
                refine AllV.val (by rfl) (fun w hSw => by ((try dsimp only at hSw); go_simp)) ?_
                refine AllV.val (by rfl) (fun w hSw => by ((try dsimp only at hSw); go_simp)) ?_
                refine AllV.call (fun _ _ => rfl) (by rfl) (fun w hSw K hK => ?_) ?_
                · (try dsimp only at hSw)
                  go_simp
                  go_at_call 16
                  (with_reducible refine (HCQ.out _ hSw.1).mono ?_)
                  rintro e w8 ⟨rfl, hb8⟩
                  go_simp
                  have hb9 : Below wr.heap.size wr w8 := hSw.1.trans (hb8.mono hSw.1.size)
                  exact hK x _ ⟨hb9, (hb9.cell hbli).trans hci, (hb9.cell hblj).trans hcj⟩
                refine AllV.val (by rfl) (fun w hSw => by ((try dsimp only at hSw); go_simp)) ?_
                refine AllV.val (by rfl) (fun w hSw => by ((try dsimp only at hSw); go_simp)) ?_
                refine AllV.val (by rfl) (fun w hSw => by ((try dsimp only at hSw); go_simp)) ?_
                refine AllV.val (by rfl) (fun w hSw => by ((try dsimp only at hSw); go_simp)) ?_
                refine AllV.val (by rfl) (fun w hSw => by ((try dsimp only at hSw); go_simp)) ?_
                refine AllV.val (by rfl) (fun w hSw => by ((try dsimp only at hSw); go_simp)) ?_
                refine AllV.val (by rfl) (fun w hSw => by ((try dsimp only at hSw); go_simp)) ?_
                refine AllV.val (by rfl) (fun w hSw => by ((try dsimp only at hSw); go_simp)) ?_
                refine AllV.val (by rfl) (fun w hSw => by ((try dsimp only at hSw); go_simp)) ?_
                refine AllV.val (by rfl) (fun w hSw => by ((try dsimp only at hSw); go_simp)) ?_
                refine AllV.val (by rfl) (fun w hSw => by ((try dsimp only at hSw); go_simp)) ?_
                exact AllV.nil
              have hSb := hSz.1
              clear hSz
              go_wp2
              go_round
              case rel => exact ⟨j + 1, by omega, by go_num, hb9.trans (hSb.mono hsz9)⟩
              case measure => (simp [intOf]; omega)
          · go_wp2
            go_round
            case rel => exact ⟨i + 1, by omega, by go_num, hb9⟩
            case measure => (simp [intOf]; omega)
      · obtain ⟨w3, rfl⟩ : ∃ w3 : World, w3 = wr := ⟨_, rfl⟩
        have hb13 : Below w.heap.size w w3 := hb12.trans (hb3.mono hs2)
        have hr3 := (hr2.below hb3 (Nat.le_refl _)).more hb3.size
        have hs3 := hb13.size
        go_wp2
        go_loopw [9] (fun u wr => ∃ k : Nat, 1 ≤ k ∧ k ≤ K + 1 ∧ u = .int .i64 k ∧ Below w3.heap.size w3 wr) (fun u _ => K + 1 - (intOf u).toNat)
        case atStart => exact ⟨1, Nat.le_refl _, by omega, rfl, Below.refl _ _⟩
        case round =>
          obtain ⟨k, hk1, hkK, rfl, hb4⟩ := hrel
          have hsz4 := hb4.size
          have hr4 := (hr3.below hb4 (Nat.le_refl _)).more hb4.size
          have HMS := Lib.hid (most_any A2 m c2 r _ wr hr4 HRL.out (by omega) HRV.out)
          rw [HMK.out] at HMS
          by_cases hkk : k < K
          · have hkk2 : decide ((k : Int) < (K : Int)) = true := by simp; omega
            have hkk3 : decide (k < K) = true := by simp; omega
            have HF : Hid (∃ i, i < m ∧ Frc m ad0 r k i) := Lib.hid (by
              obtain ⟨i, h1, h2, h3⟩ := HCC.out.forced HGR.out hkk
              exact ⟨i, h1, h2, h3⟩)
            obtain ⟨w4, rfl⟩ : ∃ w4 : World, w4 = wr := ⟨_, rfl⟩
            go_wp2_with fail
            refine HMS.out.mono ?_
            rintro e w5 ⟨rfl, rfl⟩
            go_wp2
            go_loopw [10, 11] (fun s u wr => ∃ (i : Nat) (b : Bool), i ≤ m ∧ u = .int .i64 i ∧ s = .bool b ∧ Hid (∀ i', i' < i → Frc m ad0 r k i' → b = true) ∧ Below w3.heap.size w3 wr) (fun _ u _ => m - (intOf u).toNat)
            case atStart => exact ⟨0, false, Nat.zero_le _, rfl, rfl, Lib.hid fun i' h => by omega, hb4⟩
            case round =>
              obtain ⟨i2, b, hi2, rfl, rfl, HB, hb5⟩ := hrel
              have hsz5 := hb5.size
              by_cases him : i2 < m
              · obtain ⟨w5, rfl⟩ : ∃ w5 : World, w5 = wr := ⟨_, rfl⟩
                obtain ⟨ad2, y', rfl, hbl2, hd2, hcell2⟩ := (hr3.below hb5 (Nat.le_refl _)).at_ (k := i2) (by rw [ni_len2, HRL.out]; exact him)
                obtain ⟨ri, hri⟩ : ∃ ri, r[i2]? = some ri := ⟨_, List.getElem?_eq_getElem (by rw [HRL.out]; exact him)⟩
                rw [ni_at hri] at hd2
                injection hd2 with hd2
                subst hd2
                have HRI : Hid (cof r i2 = ri) := Lib.hid (cof_at hri)
                obtain ⟨a0, ha0⟩ : ∃ a0, ((ri : Int) == (k : Int)) = a0 := ⟨_, rfl⟩
                have HA0 : Hid (Frc m ad0 r k i2 → a0 = true) := Lib.hid fun h => by
                  rw [← ha0, ← HRI.out, h.1]
                  simp
                have HA := Lib.hid ha0
                clear hri
                go_wp2
                clear ha0
                go_loopw [12, 13] (fun a u wr => ∃ (low : Nat) (aa : Bool), low ≤ k ∧ u = .int .i64 low ∧ a = .bool aa ∧ Hid (Frc m ad0 r k i2 → aa = true) ∧ Below w3.heap.size w3 wr) (fun _ u _ => k - (intOf u).toNat)
                case atStart => exact ⟨0, a0, Nat.zero_le _, rfl, rfl, HA0, hb5⟩
                case round =>
                  obtain ⟨low, aa, hlow, rfl, rfl, HAA, hb6⟩ := hrel
                  have hsz6 := hb6.size
                  by_cases hlk : low < k
                  · cases aa
                    · have HF2 : Hid (Frc m ad0 r k i2 → false = true) := HAA
                      cases b
                      · have HN : Hid (∀ i', i' < i2 + 1 → Frc m ad0 r k i' → false = true) := Lib.hid fun i' hi' h => by
                          rcases Nat.lt_or_ge i' i2 with h1 | h1
                          · exact HB.out i' h1 h
                          · have : i' = i2 := by omega
                            rw [this] at h
                            exact HF2.out h
                        go_wp2
                        go_round
                        case rel => exact ⟨i2 + 1, false, by omega, by go_num, by rfl, HN, hb6⟩
                        case measure => (simp [intOf]; omega)
                      · go_wp2
                        go_round
                        case rel => exact ⟨i2 + 1, true, by omega, by go_num, by rfl, Lib.hid fun _ _ _ => rfl, hb6⟩
                        case measure => (simp [intOf]; omega)
                    · obtain ⟨w6, rfl⟩ : ∃ w6 : World, w6 = wr := ⟨_, rfl⟩
                      go_wp2
                      go_loopw [14, 15] (fun s u wr => ∃ (j : Nat) (sm : Bool), j ≤ m ∧ u = .int .i64 j ∧ s = .bool sm ∧ Hid (∀ j', j' < j → cof r j' = low → ad0 i2 j' = true → sm = true) ∧ Below w3.heap.size w3 wr) (fun _ u _ => m - (intOf u).toNat)
                      case atStart => exact ⟨0, false, Nat.zero_le _, rfl, rfl, Lib.hid fun j' h => by omega, hb6⟩
                      case round =>
                        obtain ⟨j, sm, hj, rfl, rfl, HSM, hb7⟩ := hrel
                        have hsz7 := hb7.size
                        by_cases hjm : j < m
                        · obtain ⟨ad3, y', hA3, hbl3, hd3, hcell3⟩ := (hr3.below hb7 (Nat.le_refl _)).at_ (k := j) (by rw [ni_len2, HRL.out]; exact hjm)
                          injection hA3 with hA3
                          subst hA3
                          obtain ⟨rj, hrj⟩ : ∃ rj, r[j]? = some rj := ⟨_, List.getElem?_eq_getElem (by rw [HRL.out]; exact hjm)⟩
                          rw [ni_at hrj] at hd3
                          injection hd3 with hd3
                          subst hd3
                          have HRJ : Hid (cof r j = rj) := Lib.hid (cof_at hrj)
                          have hb17 : Below w.heap.size w wr := hb13.trans (hb7.mono hs3)
                          have HC2 := Lib.hid (HCL.out i2 j wr hb17)
                          obtain ⟨cl, hcl⟩ : ∃ cl, ad0 i2 j = cl := ⟨_, rfl⟩
                          have HCLL := Lib.hid hcl
                          rw [hcl] at HC2
                          clear hrj hcl
                          cases sm
                          · by_cases hjl : rj = low
                            · have hbe : ((rj : Int) == (low : Int)) = true := by simp [hjl]
                              cases cl
                              · have HN : Hid (∀ j', j' < j + 1 → cof r j' = low → ad0 i2 j' = true → false = true) := Lib.hid fun j' hj' h1 h2 => by
                                  rcases Nat.lt_or_ge j' j with h | h
                                  · exact HSM.out j' h h1 h2
                                  · have : j' = j := by omega
                                    rw [this, HCLL.out] at h2
                                    exact h2
                                clear hjl
                                go_wp2_with (go_at_call 16; (with_reducible refine HC2.out.mono ?_); rintro e w8 ⟨rfl, hb8⟩)
                                go_round
                                case rel => exact ⟨j + 1, false, by omega, by go_num, by rfl, HN, hb7.trans (hb8.mono hsz7)⟩
                                case measure => (simp [intOf]; omega)
                              · clear hjl
                                go_wp2_with (go_at_call 16; (with_reducible refine HC2.out.mono ?_); rintro e w8 ⟨rfl, hb8⟩)
                                go_round
                                case rel => exact ⟨j + 1, true, by omega, by go_num, by rfl, Lib.hid fun _ _ _ _ => rfl, hb7.trans (hb8.mono hsz7)⟩
                                case measure => (simp [intOf]; omega)
                            · have hbe : ((rj : Int) == (low : Int)) = false := by simp; omega
                              have HN : Hid (∀ j', j' < j + 1 → cof r j' = low → ad0 i2 j' = true → false = true) := Lib.hid fun j' hj' h1 h2 => by
                                rcases Nat.lt_or_ge j' j with h | h
                                · exact HSM.out j' h h1 h2
                                · have : j' = j := by omega
                                  rw [this, HRJ.out] at h1
                                  exact absurd h1 hjl
                              clear hjl
                              go_wp2
                              go_round
                              case rel => exact ⟨j + 1, false, by omega, by go_num, by rfl, HN, hb7⟩
                              case measure => (simp [intOf]; omega)
                          · go_wp2
                            go_round
                            case rel => exact ⟨j + 1, true, by omega, by go_num, by rfl, Lib.hid fun _ _ _ _ => rfl, hb7⟩
                            case measure => (simp [intOf]; omega)
                        · have HN : Hid (Frc m ad0 r k i2 → sm = true) := Lib.hid fun h => by
                            obtain ⟨j', h1, h2, h3⟩ := h.2 low hlk
                            exact HSM.out j' (by omega) h2 h3
                          go_wp2
                          go_round
                          case rel => exact ⟨low + 1, sm, by omega, by go_num, rfl, HN, hb7⟩
                          case measure => (simp [intOf]; omega)
                  · have hlk2 : low = k := by omega
                    cases aa
                    · have HF2 : Hid (Frc m ad0 r k i2 → false = true) := HAA
                      cases b
                      · have HN : Hid (∀ i', i' < i2 + 1 → Frc m ad0 r k i' → false = true) := Lib.hid fun i' hi' h => by
                          rcases Nat.lt_or_ge i' i2 with h1 | h1
                          · exact HB.out i' h1 h
                          · have : i' = i2 := by omega
                            rw [this] at h
                            exact HF2.out h
                        go_wp2
                        go_round
                        case rel => exact ⟨i2 + 1, false, by omega, by go_num, by rfl, HN, hb6⟩
                        case measure => (simp [intOf]; omega)
                      · go_wp2
                        go_round
                        case rel => exact ⟨i2 + 1, true, by omega, by go_num, by rfl, Lib.hid fun _ _ _ => rfl, hb6⟩
                        case measure => (simp [intOf]; omega)
                    · cases b
                      all_goals (
                        go_wp2
                        go_round
                        case rel => exact ⟨i2 + 1, true, by omega, by go_num, by rfl, Lib.hid fun _ _ _ => rfl, hb6⟩
                        case measure => (simp [intOf]; omega))
              · have him2 : i2 = m := by omega
                have HBT : Hid (b = true) := Lib.hid (by
                  obtain ⟨i', h1, h2⟩ := HF.out
                  exact HB.out i' (by omega) h2)
                cases b
                · exact absurd HBT.out (by simp)
                · go_wp2
                  go_round
                  case rel => exact ⟨k + 1, by omega, by omega, by go_num, hb5⟩
                  case measure => (simp [intOf]; omega)
          · have hkk2 : decide ((k : Int) < (K : Int)) = false := by simp; omega
            have hkk3 : decide (k < K) = false := by simp; omega
            go_wp2_with fail
            refine HMS.out.mono ?_
            rintro e w5 ⟨rfl, rfl⟩
            go_wp2
            go_ret
            exact ⟨rfl, hb13.trans (hb4.mono hs3)⟩
  · have HC := Lib.hid hc
    obtain ⟨len, hlen⟩ : ∃ len, l.length = len := ⟨_, rfl⟩
    have HLI := Lib.hid hlen
    rw [hlen] at HM ⊢
    obtain ⟨x, hx0⟩ : ∃ x, ckCl n l = x := ⟨_, rfl⟩
    have HX := Lib.hid hx0
    have hne : (x != 0) = true := by rw [← hx0]; simp [hc]
    have hne2 : (x == 0) = false := by rw [← hx0]; simp [hc]
    clear hc hlen hx0
    go_enter Try.func8, Try.ntmps8
    go_wp2_with fail
    refine (L.bad n A len cap l _ hx HLI.out HM.out HC.out).mono ?_
    rintro e w1 ⟨rfl, hb1⟩
    rw [HX.out]
    have hx1 := (hx.below hb1 (Nat.le_refl _)).more hb1.size
    go_wp2_with fail
    refine (clashes_any n A len cap l _ hx1 HLI.out HM.out).mono ?_
    rintro e w2 ⟨rfl, hb2⟩
    rw [HX.out, hne2]
    go_wp2
    go_ret
    exact ⟨rfl, hb1.trans (hb2.mono hb1.size)⟩

set_option maxRecDepth 100000 in
theorem lawColorLeast_lifted (os : Os) (started : os.Started) (H : Type) (enc : TypeId × Value → H) :
    ReturnsInHanded {} Try.checked os 8 .any (Rows.colorLeastSpec.pre6 enc Try.prog Try.f8 Rows.colorLeastRow.domain false) (Rows.colorLeastSpec.post enc Try.prog Try.f8 false true false false) := by
  refine returnsInHanded_of_change_sized (C := Try.checked) Try.own started (by kernel_rfl) Try.func8
    (ChangeSpec.witness6 (enc := enc) (C := Try.checked) false ⟨#[], #[.int .i64 0, .slice none 0 0], []⟩ 8 (by kernel_rfl) (by kernel_rfl) (by kernel_rfl) (by kernel_rfl)) ?_
  intro W base args ds gs before hval0 hW hcnd hsz _
  have hval : ∀ (j : Nat) t v, Try.f8.params[j]? = some t → args[j]? = some v → Value.okWide Try.prog W .any base t v := hval0
  have hW' := hW
  obtain ⟨p, q, hA0, hV, rfl, hfz, hnd⟩ := hW
  have hA : DataW.TrodAll enc Try.prog W 0 (fun _ => true) true Try.f8.params.toList args.toList ds p := hA0
  obtain ⟨hgs, _⟩ := trodVars_none hV
  rw [Try.params8] at hA hval
  obtain ⟨v0, vs0, d0, ds0, p0, q0, hargs, rfl, rfl, h0, r0⟩ := trodAll_cons hA
  obtain ⟨v1, vs1, d1, ds1, p1, q1, rfl, rfl, rfl, h1, r1⟩ := trodAll_cons r0
  obtain ⟨rfl, rfl, rfl⟩ := trodAll_nil r1
  have hargs2 : args = #[v0, v1] := Array.toList_inj.1 hargs
  subst hargs2
  obtain ⟨a0, rfl, _, _, w0⟩ := open_int Try.underlying3 (hval 0 3 v0 rfl rfl) h0
  obtain ⟨A1, c1, l1, rfl, lc1, cm1, x1, r1⟩ := open_pairsA (hval 1 22 v1 rfl rfl) h1
  have b1 := len_reach Try.underlying22 (hval 1 22 _ rfl rfl) h1 hsz (j := 1) (by rw [Try.params8]; rfl) rfl
  rw [show Try.prog.bytesOf (Try.prog.elem 22) = 16 from by kernel_rfl] at b1
  refine (lawColorLeast_any leastIs a0 A1 c1 l1 _ x1 (by omega)).mono fun e W' ⟨he, hb⟩ => ?_
  subst he
  exact ⟨_, rfl, law_post Try.laidOut rfl (by kernel_rfl) Try.underlying4 ⟨rfl, rfl, rfl⟩ (by kernel_rfl) hW' hb⟩

theorem colorLeast_holds : Rows.ColorLeastSaid :=
  OpenClaim.holds_of_wide 8 Try.f8 rfl rfl rfl rfl rfl rfl rfl ⟨rfl, rfl, rfl, rfl, rfl⟩ rfl rfl rfl rfl rfl (by kernel_rfl) Try.func8 (show joinedFacts Try.prog 8 Try.f8 Rows.colorLeastSpec Rows.colorLeastRow = true from (by unfold joinedFacts; (repeat' (with_reducible refine and_both ?_ ?_)) <;> first | (with_reducible exact may_enter) | ((with_reducible refine make_ok ?_); rfl) | ((with_reducible refine lifts_ok ?_); rfl) | kernel_rfl))
    (of_decide_eq_true (by kernel_rfl)) (by unfold Func.isWrapper; rw [if_neg (of_decide_eq_false (by kernel_rfl))]; exact ⟨rfl, rfl⟩)
    (fun os started H enc _ => lawColorLeast_lifted os started H enc)

end Go.Proofs.Ytkgahblengjkfaa
