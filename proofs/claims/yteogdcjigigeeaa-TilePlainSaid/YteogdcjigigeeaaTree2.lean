/-
  codemasonref.Tree, Need; need.needs; codemasonkeep.leaves: trees and their register need (B2).
-/
import Derived.Test.YteogdcjigigeeaaTree
namespace Go.Proofs.Yteogdcjigigeeaa
open Go.RowKit
set_option linter.unusedSimpArgs false
set_option linter.unusedVariables false
set_option maxRecDepth 100000

set_option maxHeartbeats 4000000 in
theorem refTree_any (vars : Int) (A : Option Addr) (len cap : Nat) (l : List Tm) (w : World) (hx : RdT w w.heap.size A l) (hl : l.length = len) (hc : ckTerms vars l = 0) :
    Calls Try.prog 21 #[.slice A len cap] w fun e w' => e = .returned (.bool (treeB l)) ∧ Below w.heap.size w w' := by
  obtain ⟨b1, b2, b3, b4⟩ := ckTerms_bd hc
  have HL := Lib.hid hl
  have HC := Lib.hid hc
  have HB : Hid (∀ k j, (usedN (l.take k) j : Int) ≤ 32) := Lib.hid fun k j => UsesAt.bd b4
  have HZ : Hid (usedN l (len - 1) = 0) := Lib.hid (by rw [← hl]; exact used_last hc)
  rw [hl] at b3 b4
  clear hl hc
  go_enter Try.func21, Try.ntmps21
  go_wp2
  go_loopw [3] (fun i wr => ∃ k : Nat, k ≤ len ∧ i = .int .i64 k ∧ Hid (∀ j, j < k → j < len - 1 → usedN l j = 1) ∧ Below w.heap.size w wr) (fun i _ => len - (intOf i).toNat)
  case atStart => exact ⟨0, Nat.zero_le _, rfl, Lib.hid fun j hj => by omega, Below.refl _ _⟩
  case round =>
    obtain ⟨k, hk, rfl, HM, hb⟩ := hrel
    have hsz := hb.size
    by_cases hlt : k < len
    · obtain ⟨wo, rfl⟩ : ∃ x, x = wr := ⟨_, rfl⟩
      go_wp2
      go_loopw [4, 15] (fun m i wr => ∃ k2 : Nat, k2 ≤ len ∧ i = .int .i64 k2 ∧ m = .int .i64 (usedN (l.take k2) k : Nat) ∧ Below w.heap.size w wr) (fun _ i _ => len - (intOf i).toNat)
      case atStart => exact ⟨0, Nat.zero_le _, rfl, rfl, hb⟩
      case round =>
        obtain ⟨k2, hk2, rfl, rfl, hb2⟩ := hrel
        have hsz2 := hb2.size
        by_cases hlt2 : k2 < len
        · obtain ⟨ad, o, a, b, v, rfl, hbl, hd, hc0, hc1, hc2, hc3⟩ := (hx.below hb2 (Nat.le_refl _)).at_ (k := k2) (by rw [HL.out]; exact hlt2)
          have HS := Lib.hid (usedN_take hd k)
          have hub := HB.out k2 k
          clear hd
          generalize usedN (l.take k2) k = u1 at *
          by_cases ho : 3 ≤ o
          · by_cases ha : a = (k : Int)
            all_goals by_cases hb0 : b = (k : Int)
            all_goals
              first | subst ha | (have ha' : (a == (k : Int)) = false := by simp [ha])
              first | subst hb0 | (have hb' : (b == (k : Int)) = false := by simp [hb0])
              go_wp2
              go_round
              case rel =>
                refine ⟨k2 + 1, by omega, by go_num, ?_, by go_grown⟩
                rw [HS.out, if_pos ho]
                simp only []
                first | rw [if_pos rfl] | rw [if_neg ha] | skip
                first | rw [if_pos rfl] | rw [if_neg hb0] | skip
                first | rfl | go_num
              case measure => (simp [intOf]; omega)
          · go_wp2
            go_round
            case rel =>
              refine ⟨k2 + 1, by omega, by go_num, ?_, by go_grown⟩
              rw [HS.out, if_neg (by simp only []; omega)]
              rfl
            case measure => (simp [intOf]; omega)
        · have hkl : k2 = len := by omega
          subst hkl
          have hub := HB.out k2 k
          have htk : l.take k2 = l := List.take_of_length_le (by rw [HL.out]; omega)
          rw [htk] at hub ⊢
          clear htk
          by_cases h1 : k < k2 - 1
          · have h1' : (k : Int) < (k2 : Int) - 1 := by omega
            by_cases h2 : usedN l k = 1
            · have H2 := Lib.hid h2
              have h2' : ((usedN l k : Int) != 1) = false := by simp [h2]
              clear h2
              go_wp2
              go_round
              case rel => exact ⟨k + 1, by omega, by go_num, Lib.hid fun j hj hj2 => by
                by_cases e : j = k
                · rw [e]; exact H2.out
                · exact HM.out j (by omega) hj2, hb2⟩
              case measure => (simp [intOf]; omega)
            · have h2' : ((usedN l k : Int) != 1) = true := by simp; omega
              have H2 := Lib.hid h2
              clear h2
              go_wp2
              go_ret
              exact ⟨ret_bool (treeB_no (j := k) (by rw [HL.out]; exact h1) H2.out).symm, hb2⟩
          · have h1' : ¬ (k : Int) < (k2 : Int) - 1 := by omega
            have hk1 : k = k2 - 1 := by omega
            subst hk1
            have hz : ((usedN l (k2 - 1) : Int) != 0) = false := by rw [HZ.out]; rfl
            go_wp2
            go_round
            case rel => exact ⟨k2 - 1 + 1, by omega, by go_num, Lib.hid fun j hj hj2 => HM.out j (by omega) hj2, hb2⟩
            case measure => (simp [intOf]; omega)
    · go_wp2
      go_ret
      exact ⟨ret_bool (treeB_yes fun j hj => HM.out j (by rw [HL.out] at hj; omega) (by rw [HL.out] at hj; exact hj)).symm, hb⟩

/-- needs on the way -/
def NdAt (l : List Tm) (k : Nat) (r : List Int) : Prop := r.length = l.length ∧ ∀ j, j < k → r.getD j 0 = (ndA l j : Int)

theorem NdAt.start (l : List Tm) : NdAt l 0 (List.replicate l.length 0) := ⟨by simp, fun j hj => by omega⟩

theorem NdAt.step {l : List Tm} {k : Nat} {r : List Int} {x : Int} (h : NdAt l k r) (hk : k < l.length) (hx : x = (ndA l k : Int)) : NdAt l (k + 1) (r.set k x) := by
  refine ⟨by simp [h.1], fun j hj => ?_⟩
  rw [set_getD (by rw [h.1]; exact hk)]
  by_cases e : k = j
  · rw [if_pos e, ← e, hx]
  · rw [if_neg e, h.2 j (by omega)]

theorem NdAt.at_ {l : List Tm} {k j : Nat} {r : List Int} (h : NdAt l k r) (hj : j < k) (hk : k ≤ l.length) : r[j]? = some (ndA l j : Int) := by
  have h1 := h.2 j hj
  have hl : j < r.length := by rw [h.1]; omega
  rw [List.getD_eq_getElem?_getD, List.getElem?_eq_getElem hl, Option.getD_some] at h1
  rw [List.getElem?_eq_getElem hl, h1]

theorem NdAt.done {l : List Tm} {r : List Int} (h : NdAt l l.length r) : r = ni (ndL l) := by
  apply List.ext_getElem?
  intro j
  rcases Nat.lt_or_ge j l.length with hj | hj
  · rw [h.at_ hj (Nat.le_refl _)]
    have hl : j < (ndL l).length := by rw [ndL_len]; exact hj
    rw [ni_at (List.getElem?_eq_getElem hl)]
    unfold ndA
    rw [List.getD_eq_getElem?_getD, List.getElem?_eq_getElem hl, Option.getD_some]
  · rw [List.getElem?_eq_none (by rw [h.1]; exact hj), List.getElem?_eq_none (by simp [ni, ndL_len]; exact hj)]

theorem ndA_le {vars : Int} {l : List Tm} (hc : ckTerms vars l = 0) : ∀ i, i < l.length → ndA l i ≤ i + 1 := by
  refine tm_ind hc (fun i t h ho => ?_) fun i t h ho h1 h2 h3 h4 => ?_
  · rw [ndA_at hc h, if_pos ho]; omega
  · rw [ndA_at hc h, if_neg (by omega)]
    unfold ndN
    (repeat' split) <;> omega

set_option maxHeartbeats 4000000 in
theorem needs2_any (vars : Int) (A : Option Addr) (len cap : Nat) (l : List Tm) (w : World) (hx : RdT w w.heap.size A l) (hl : l.length = len) (hc : ckTerms vars l = 0) :
    Calls Try.prog 38 #[.slice A len cap] w fun e w' => e = .returned (.slice (some ⟨w.heap.size, 0, none⟩) len len) ∧ Own w' w.heap.size 3 (iv (ni (ndL l))) ∧ Below w.heap.size w w' := by
  obtain ⟨b1, b2, b3, b4⟩ := ckTerms_bd hc
  have HL := Lib.hid hl
  have HC := Lib.hid hc
  have HN : Hid (∀ i, i < len → ndA l i ≤ i + 1) := Lib.hid (by rw [← hl]; exact ndA_le hc)
  rw [hl] at b3 b4
  clear hl hc
  have hmk := make_ints (P := Try.prog) 30 3 Try.underlying30 int_info len (by omega)
  go_enter Try.func38, Try.ntmps38
  go_wp2
  go_loopw [11] (fun i wr => ∃ (k : Nat) (r : List Int), k ≤ len ∧ i = .int .i64 k ∧ NdAt l k r ∧ Below w.heap.size w wr ∧ Own wr w.heap.size 3 (iv r)) (fun i _ => len - (intOf i).toNat)
  case atStart => exact ⟨0, _, Nat.zero_le _, rfl, by rw [← HL.out]; exact NdAt.start _, by go_grown, Own.new _ _ _⟩
  case round =>
    obtain ⟨k, r, hk, rfl, hr, hb, hown⟩ := hrel
    have HR := Lib.hid hr
    clear hr
    have hsz := hown.lt
    by_cases hlt : k < len
    · obtain ⟨ad, o, a, b, v, rfl, hbl, hd, hc0, hc1, hc2, hc3⟩ := (hx.below hb (Nat.le_refl _)).at_ (k := k) (by rw [HL.out]; exact hlt)
      have hcase := ckTerms_cases HC.out hd
      have HA := Lib.hid (ndA_at HC.out hd)
      clear hd hmk
      have hfz := hown.frozen k
      have hkr : k < r.length := by rw [HR.out.1, HL.out]; exact hlt
      have hck := hown.cell (iv_at (List.getElem?_eq_getElem hkr))
      generalize r[k] = xk at *
      by_cases ho : o < 3
      · have hlf : leafB' o = true := by unfold leafB'; simp; omega
        clear hcase
        go_wp2_with (go_at_call 27; (with_reducible refine (isLeaf_any _ _).mono ?_); rintro e w1 ⟨rfl, rfl⟩)
        go_round
        case rel => exact ⟨k + 1, r.set k 1, by omega, by go_num, HR.out.step (by rw [HL.out]; exact hlt) (by rw [HA.out, if_pos ho]; rfl), by go_grown, (OwnI.set hown k _).alloc _⟩
        case measure => (simp [intOf]; omega)
      · have hlf : leafB' o = false := by unfold leafB'; simp; omega
        obtain ⟨ha0, ha1, hb0, hb1⟩ : 0 ≤ a ∧ a < k ∧ 0 ≤ b ∧ b < k := by omega
        obtain ⟨an, rfl⟩ := Int.eq_ofNat_of_zero_le ha0
        obtain ⟨bn, rfl⟩ := Int.eq_ofNat_of_zero_le hb0
        have hak : an < k := by omega
        have hbk : bn < k := by omega
        have han : an < len := by omega
        have hbn : bn < len := by omega
        have hca := hown.cell (iv_at (HR.out.at_ hak (by rw [HL.out]; exact hk)))
        have hcb := hown.cell (iv_at (HR.out.at_ hbk (by rw [HL.out]; exact hk)))
        have hna := HN.out an han
        have hnb := HN.out bn hbn
        rw [if_neg ho] at HA
        simp only [Int.toNat_natCast] at HA
        clear hcase
        generalize ndA l an = na at *
        generalize ndA l bn = nb at *
        rcases Nat.lt_trichotomy na nb with h | h | h
        · have e1 : ((na : Int) == (nb : Int)) = false := by simp; omega
          have e2 : (na : Int) < nb := by omega
          have HX : Hid ((nb : Int) = (ndA l k : Int)) := Lib.hid (by rw [HA.out]; unfold ndN; rw [if_neg (by omega), if_neg (by omega)])
          clear h
          go_wp2_with (go_at_call 27; (with_reducible refine (isLeaf_any _ _).mono ?_); rintro e w1 ⟨rfl, rfl⟩)
          go_region
          all_goals
            go_wp2
            (refine still_tail 14 (by kernel_rfl) (by kernel_rfl) ?_; simp only [List.take_succ_cons, List.take_zero, List.drop_succ_cons, List.drop_zero]; repeat still_step)
            ((repeat still_step); refine wpStill_nil ?_)
            go_wp2
            go_round
            case rel => exact ⟨k + 1, r.set k nb, by omega, by go_num, HR.out.step (by rw [HL.out]; exact hlt) HX.out, by go_grown, (((OwnI.set hown k _).alloc _).drew).drew⟩
            case measure => (simp [intOf]; omega)
        · subst h
          have HX : Hid ((na : Int) + 1 = (ndA l k : Int)) := Lib.hid (by rw [HA.out]; unfold ndN; rw [if_pos rfl]; rfl)
          go_wp2_with (go_at_call 27; (with_reducible refine (isLeaf_any _ _).mono ?_); rintro e w1 ⟨rfl, rfl⟩)
          go_region
          all_goals
            go_wp2
            go_round
            case rel => exact ⟨k + 1, r.set k ((na : Int) + 1), by omega, by go_num, HR.out.step (by rw [HL.out]; exact hlt) HX.out, by go_grown, ((OwnI.set hown k _).alloc _).drew⟩
            case measure => (simp [intOf]; omega)
        · have e1 : ((na : Int) == (nb : Int)) = false := by simp; omega
          have e2 : (nb : Int) < na := by omega
          have HX : Hid ((na : Int) = (ndA l k : Int)) := Lib.hid (by rw [HA.out]; unfold ndN; rw [if_neg (by omega), if_pos (by omega)])
          clear h
          go_wp2_with (go_at_call 27; (with_reducible refine (isLeaf_any _ _).mono ?_); rintro e w1 ⟨rfl, rfl⟩)
          go_region
          all_goals
            go_wp2
            (refine still_tail 14 (by kernel_rfl) (by kernel_rfl) ?_; simp only [List.take_succ_cons, List.take_zero, List.drop_succ_cons, List.drop_zero]; repeat still_step)
            ((repeat still_step); refine wpStill_nil ?_)
            go_wp2
            go_round
            case rel => exact ⟨k + 1, r.set k na, by omega, by go_num, HR.out.step (by rw [HL.out]; exact hlt) HX.out, by go_grown, (((OwnI.set hown k _).alloc _).drew).drew⟩
            case measure => (simp [intOf]; omega)
    · have hkl : k = len := by omega
      subst hkl
      go_wp2
      go_ret
      have hq := HR.out
      rw [← HL.out] at hq
      rw [← hq.done]
      exact ⟨rfl, hown, hb⟩

theorem leavesL_take {l : List Tm} {k : Nat} {t : Tm} (h : l[k]? = some t) : leavesL (l.take (k + 1)) = leavesL (l.take k) + (if t.op < 3 then 1 else 0) := by
  obtain ⟨hk, rfl⟩ := List.getElem?_eq_some_iff.1 h
  unfold leavesL
  rw [List.take_succ_eq_append_getElem hk, wSum_append]
  simp [wSum]

end Go.Proofs.Yteogdcjigigeeaa
