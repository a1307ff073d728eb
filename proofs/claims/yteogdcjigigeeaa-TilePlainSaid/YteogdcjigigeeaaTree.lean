/-
  need.isTree, need.needs; codemasonref.Tree, Need; codemasonkeep.leaves: trees and their register need (B2).
-/
import Derived.Test.YteogdcjigigeeaaMBase
import Derived.Test.YteogdcjigigeeaaCombine
import Derived.Test.YteogdcjigigeeaaTermVal
namespace Go.Proofs.Yteogdcjigigeeaa
open Go.RowKit
set_option linter.unusedSimpArgs false
set_option linter.unusedVariables false
set_option maxRecDepth 100000

def treeB (l : List Tm) : Bool := decide (treeL l)

theorem treeB_yes {l : List Tm} (h : treeL l) : treeB l = true := by unfold treeB; exact decide_eq_true h

theorem treeB_no {l : List Tm} {j : Nat} (hj : j < l.length - 1) (h : usedN l j ≠ 1) : treeB l = false := by
  unfold treeB
  exact decide_eq_false fun ht => h (ht j hj)

theorem treeB_iff {l : List Tm} : treeB l = true ↔ treeL l := by unfold treeB; exact decide_eq_true_iff

/-- how often each term is an operand of the first k -/
def UsesAt (l : List Tm) (k : Nat) (r : List Int) : Prop := r.length = l.length ∧ ∀ j, j < l.length → r.getD j 0 = (usedN (l.take k) j : Int)

theorem usedN_snoc (l : List Tm) (t : Tm) (j : Nat) : usedN (l ++ [t]) j = usedN l j + (if 3 ≤ t.op then (if t.a = (j : Int) then 1 else 0) + (if t.b = (j : Int) then 1 else 0) else 0) := by
  rw [usedN_append]; simp [usedN]

theorem usedN_take {l : List Tm} {k : Nat} {t : Tm} (h : l[k]? = some t) (j : Nat) : usedN (l.take (k + 1)) j = usedN (l.take k) j + (if 3 ≤ t.op then (if t.a = (j : Int) then 1 else 0) + (if t.b = (j : Int) then 1 else 0) else 0) := by
  obtain ⟨hk, rfl⟩ := List.getElem?_eq_some_iff.1 h
  rw [List.take_succ_eq_append_getElem hk, usedN_snoc]

theorem usedN_le (l : List Tm) (j : Nat) : usedN l j ≤ 2 * l.length := by
  induction l with
  | nil => exact Nat.le_refl _
  | cons t r ih =>
    rw [usedN, List.length_cons]
    (repeat' split) <;> omega

theorem UsesAt.start (l : List Tm) : UsesAt l 0 (List.replicate l.length 0) := ⟨by simp, fun j hj => by simp [usedN, hj]⟩

theorem UsesAt.at_ {l : List Tm} {k j : Nat} {r : List Int} (h : UsesAt l k r) (hj : j < l.length) : r[j]? = some (usedN (l.take k) j : Int) := by
  have h1 := h.2 j hj
  have hl : j < r.length := by rw [h.1]; exact hj
  rw [List.getD_eq_getElem?_getD, List.getElem?_eq_getElem hl, Option.getD_some] at h1
  rw [List.getElem?_eq_getElem hl, h1]

theorem UsesAt.bd {l : List Tm} {k j : Nat} (hl : l.length ≤ 16) : (usedN (l.take k) j : Int) ≤ 32 := by
  have h1 := usedN_le (l.take k) j
  have h2 : (l.take k).length ≤ l.length := by simp; omega
  omega

theorem UsesAt.leaf {l : List Tm} {k : Nat} {r : List Int} {t : Tm} (h : UsesAt l k r) (ht : l[k]? = some t) (ho : t.op < 3) : UsesAt l (k + 1) r :=
  ⟨h.1, fun j hj => by rw [h.2 j hj, usedN_take ht, if_neg (by omega), Nat.add_zero]⟩

theorem UsesAt.op {l : List Tm} {k a b : Nat} {r : List Int} {o v : Int} (h : UsesAt l k r) (ht : l[k]? = some ⟨o, a, b, v⟩) (ho : 3 ≤ o) (hne : a ≠ b) (ha : a < l.length) (hb : b < l.length) :
    UsesAt l (k + 1) ((r.set a ((usedN (l.take k) a : Int) + 1)).set b ((usedN (l.take k) b : Int) + 1)) := by
  refine ⟨by simp [h.1], fun j hj => ?_⟩
  rw [usedN_take ht, if_pos ho, set_getD (by simp [h.1]; exact hb), set_getD (by rw [h.1]; exact ha), h.2 j hj]
  simp only []
  by_cases e1 : b = j
  · subst e1
    rw [if_pos rfl, if_neg (by omega), if_pos rfl]
    omega
  · rw [if_neg e1]
    by_cases e2 : a = j
    · subst e2
      rw [if_pos rfl, if_pos rfl, if_neg (by omega)]
      omega
    · rw [if_neg e2, if_neg (by omega), if_neg (by omega)]
      omega

theorem UsesAt.op2 {l : List Tm} {k a : Nat} {r : List Int} {o v : Int} (h : UsesAt l k r) (ht : l[k]? = some ⟨o, a, a, v⟩) (ho : 3 ≤ o) (ha : a < l.length) :
    UsesAt l (k + 1) ((r.set a ((usedN (l.take k) a : Int) + 1)).set a ((usedN (l.take k) a : Int) + 1 + 1)) := by
  refine ⟨by simp [h.1], fun j hj => ?_⟩
  rw [usedN_take ht, if_pos ho, set_getD (by simp [h.1]; exact ha), set_getD (by rw [h.1]; exact ha), h.2 j hj]
  simp only []
  by_cases e1 : a = j
  · subst e1
    rw [if_pos rfl, if_pos rfl]
    omega
  · rw [if_neg e1, if_neg e1, if_neg (by omega)]
    omega

set_option maxHeartbeats 4000000 in
theorem isTree_any (vars : Int) (A : Option Addr) (len cap : Nat) (l : List Tm) (w : World) (hx : RdT w w.heap.size A l) (hl : l.length = len) (hc : ckTerms vars l = 0) :
    Calls Try.prog 37 #[.slice A len cap] w fun e w' => e = .returned (.bool (treeB l)) ∧ Below w.heap.size w w' := by
  obtain ⟨b1, b2, b3, b4⟩ := ckTerms_bd hc
  have HL := Lib.hid hl
  have HC := Lib.hid hc
  have HB : Hid (∀ k j, (usedN (l.take k) j : Int) ≤ 32) := Lib.hid fun k j => UsesAt.bd b4
  rw [hl] at b3 b4
  clear hl hc
  have hmk := make_ints (P := Try.prog) 30 3 Try.underlying30 int_info len (by omega)
  go_enter Try.func37, Try.ntmps37
  go_wp2
  go_loopw [13] (fun i wr => ∃ (k : Nat) (r : List Int), k ≤ len ∧ i = .int .i64 k ∧ UsesAt l k r ∧ Below w.heap.size w wr ∧ Own wr w.heap.size 3 (iv r)) (fun i _ => len - (intOf i).toNat)
  case atStart => exact ⟨0, _, Nat.zero_le _, rfl, by rw [← HL.out]; exact UsesAt.start _, by go_grown, Own.new _ _ _⟩
  case round =>
    obtain ⟨k, r, hk, rfl, hr, hb, hown⟩ := hrel
    have HR := Lib.hid hr
    clear hr
    have hsz := hown.lt
    by_cases hlt : k < len
    · obtain ⟨ad, o, a, b, v, rfl, hbl, hd, hc0, hc1, hc2, hc3⟩ := (hx.below hb (Nat.le_refl _)).at_ (k := k) (by rw [HL.out]; exact hlt)
      have hcase := ckTerms_cases HC.out hd
      have HD := Lib.hid hd
      clear hd
      by_cases ho : o < 3
      · have hlf : leafB' o = true := by unfold leafB'; simp; omega
        clear hcase
        go_wp2_with (go_at_call 27; (with_reducible refine (isLeaf_any _ _).mono ?_); rintro e w1 ⟨rfl, rfl⟩)
        go_round
        case rel => exact ⟨k + 1, r, by omega, by go_num, HR.out.leaf HD.out ho, by go_grown, hown.alloc _⟩
        case measure => (simp [intOf]; omega)
      · have hlf : leafB' o = false := by unfold leafB'; simp; omega
        obtain ⟨ha0, ha1, hb0, hb1⟩ : 0 ≤ a ∧ a < k ∧ 0 ≤ b ∧ b < k := by omega
        obtain ⟨an, rfl⟩ := Int.eq_ofNat_of_zero_le ha0
        obtain ⟨bn, rfl⟩ := Int.eq_ofNat_of_zero_le hb0
        have han : an < len := by omega
        have hbn : bn < len := by omega
        have ho3 : 3 ≤ o := by omega
        have hca := hown.cell (iv_at (HR.out.at_ (j := an) (by rw [HL.out]; exact han)))
        have hcb := hown.cell (iv_at (HR.out.at_ (j := bn) (by rw [HL.out]; exact hbn)))
        have hfa := hown.frozen an
        have hfb := hown.frozen bn
        have hba := HB.out k an
        have hbb := HB.out k bn
        clear hcase
        by_cases hab : an = bn
        · subst hab
          have HS : Hid _ := Lib.hid (HR.out.op2 HD.out ho3 (by rw [HL.out]; exact han))
          generalize usedN (l.take k) an = ua at *
          go_wp2_with (go_at_call 27; (with_reducible refine (isLeaf_any _ _).mono ?_); rintro e w1 ⟨rfl, rfl⟩)
          go_round
          case rel => exact ⟨k + 1, _, by omega, by go_num, HS.out, by go_grown, (OwnI.set (OwnI.set hown an _) an _).alloc _⟩
          case measure => (simp [intOf]; omega)
        · have HS : Hid _ := Lib.hid (HR.out.op HD.out ho3 hab (by rw [HL.out]; exact han) (by rw [HL.out]; exact hbn))
          have hab' : bn ≠ an := fun e => hab e.symm
          generalize usedN (l.take k) an = ua at *
          generalize usedN (l.take k) bn = ub at *
          go_wp2_with (go_at_call 27; (with_reducible refine (isLeaf_any _ _).mono ?_); rintro e w1 ⟨rfl, rfl⟩)
          go_round
          case rel => exact ⟨k + 1, _, by omega, by go_num, HS.out, by go_grown, (OwnI.set (OwnI.set hown an _) bn _).alloc _⟩
          case measure => (simp [intOf]; omega)
    · have hkl : k = len := by omega
      subst hkl
      have HU : Hid (∀ j, j < k → r[j]? = some (usedN l j : Int)) := Lib.hid fun j hj => by
        have := HR.out.at_ (j := j) (by rw [HL.out]; exact hj)
        rwa [List.take_of_length_le (by rw [HL.out]; omega)] at this
      have hcv : (k : Int) - 1 = ((k - 1 : Nat) : Int) := by omega
      clear hmk
      obtain ⟨wo, rfl⟩ : ∃ x, x = wr := ⟨_, rfl⟩
      go_wp2
      go_loop [42] (fun i => ∃ m : Nat, m ≤ k - 1 ∧ i = .int .i64 m ∧ Hid (∀ j, j < m → usedN l j = 1)) (fun i => k - (intOf i).toNat)
      case atStart => exact ⟨0, Nat.zero_le _, rfl, Lib.hid fun j hj => by omega⟩
      case round =>
        obtain ⟨m, hm, rfl, HM⟩ := hrel
        by_cases hlm : m < k - 1
        · have hcm := hown.cell (iv_at (HU.out m (by omega)))
          by_cases h1 : usedN l m = 1
          · have H1 := Lib.hid h1
            rw [h1] at hcm
            clear h1
            go_wp2
            go_round
            case rel => exact ⟨m + 1, by omega, by go_num, Lib.hid fun j hj => by
              by_cases e : j = m
              · rw [e]; exact H1.out
              · exact HM.out j (by omega)⟩
            case measure => simp [intOf]; omega
          · have hne : ((usedN l m : Int) != 1) = true := by simp; omega
            have H1 := Lib.hid h1
            clear h1
            go_wp2
            go_ret
            exact ⟨ret_bool (treeB_no (j := m) (by rw [HL.out]; exact hlm) H1.out).symm, hb⟩
        · go_wp2
          go_ret
          exact ⟨ret_bool (treeB_yes fun j hj => HM.out j (by rw [HL.out] at hj; omega)).symm, hb⟩

end Go.Proofs.Yteogdcjigigeeaa
