/-
  codemasonref.Stack: what stack code leaves (C1).
-/
import Derived.Test.YtppnckiedcbleaaSo
import Derived.Test.YtppnckiedcbleaaInts
import Derived.Test.YtppnckiedcbleaaTermVal
import Derived.IntWalk
namespace Go.Proofs.Ytppnckiedcbleaa
open Go.RowKit
set_option linter.unusedSimpArgs false
set_option linter.unusedVariables false
set_option maxRecDepth 100000

/-- a stack on the way: all that is left gives what the whole gives, and is fit -/
def StkAt (hv : List Int) (vars : Int) (c : List So) (k : Nat) (s : List Int) : Prop :=
  stkF hv c [] = stkF hv (c.drop k) s ∧ ckSoF vars s.length (c.drop k) = 0 ∧ s.length ≤ k ∧ ∀ (j : Nat) (x : Int), s[j]? = some x → 0 ≤ x ∧ x ≤ 255

theorem StkAt.start {hv : List Int} {vars : Int} {c : List So} (h : ckSoF vars 0 c = 0) : StkAt hv vars c 0 [] := ⟨rfl, h, Nat.le_refl _, fun j x h => by simp at h⟩

theorem StkAt.ck {hv : List Int} {vars : Int} {c : List So} {k : Nat} {s : List Int} {o v : Int} (h : StkAt hv vars c k s) (hd : c.drop k = ⟨o, v⟩ :: c.drop (k + 1)) : ckSo vars s.length o v = 0 := by
  have h2 := h.2.1
  rw [hd] at h2
  unfold ckSoF at h2
  split at h2
  · assumption
  · exact absurd h2 (by assumption)

theorem stkStep_len {hv s : List Int} {o v : Int} (ho : 1 ≤ o) (h2 : 3 ≤ o → 2 ≤ s.length) : (stkStep hv ⟨o, v⟩ s).length = nxD s.length o := by
  unfold stkStep nxD
  simp only []
  by_cases h3 : 3 ≤ o
  · have := h2 h3
    rw [if_neg (by omega), if_neg (by omega), if_pos h3]
    simp; omega
  · rw [if_neg h3]
    split
    · simp
    · rw [if_pos (by omega)]; simp

theorem StkAt.step {hv : List Int} {vars : Int} {c : List So} {k : Nat} {s : List Int} {o v x : Int} {s1 : List Int} (h : StkAt hv vars c k s) (hd : c.drop k = ⟨o, v⟩ :: c.drop (k + 1)) (hs : s1 ++ [x] = stkStep hv ⟨o, v⟩ s) (hsub : ∀ (j : Nat) (y : Int), s1[j]? = some y → s[j]? = some y) (hx : 0 ≤ x ∧ x ≤ 255) :
    StkAt hv vars c (k + 1) (s1 ++ [x]) := by
  have hck := h.ck hd
  have hcs := ckSo_cases hck
  obtain ⟨h1, h2, h3, h4⟩ := h
  have hlen := stkStep_len (hv := hv) (s := s) (o := o) (v := v) (by omega) (by omega)
  rw [← hs] at hlen
  refine ⟨by rw [h1, hd, stkF, hs], ?_, ?_, fun j y hy => ?_⟩
  · rw [hd, ckSoF_go hck, ← hlen] at h2
    exact h2
  · rw [hlen]; unfold nxD; split <;> omega
  · rw [List.getElem?_append] at hy
    split at hy
    · exact h4 j y (hsub j y hy)
    · have : y = x := by
        rcases Nat.eq_zero_or_pos (j - s1.length) with h0 | h0
        · rw [h0] at hy; simp at hy; exact hy.symm
        · rw [List.getElem?_eq_none (by simp; omega)] at hy; cases hy
      omega

theorem StkAt.done {hv : List Int} {vars : Int} {c : List So} {s : List Int} (h : StkAt hv vars c c.length s) : s = stkF hv c [] := by
  rw [h.1, List.drop_of_length_le (Nat.le_refl _)]; rfl

theorem RdI.take {w : World} {B : Nat} {A : Option Addr} {xs : List Int} (h : RdI w B A xs) (k : Nat) : RdI w B A (xs.take k) := fun hm => by
  have hk : (xs.take k).length ≤ xs.length := by simp; omega
  obtain ⟨ad, e, hb, hc⟩ := h (by omega)
  refine ⟨ad, e, hb, fun j hj => ?_⟩
  rw [hc j (by omega)]
  have h2 : j < k := by simp at hj; omega
  simp only [ic, List.getD_eq_getElem?_getD, List.getElem?_take, if_pos h2]

theorem own_cap {w : World} {base : Nat} {e : TypeId} {size : Nat} {A : Option Addr} {n c : Nat} {xs : List Value} (h : w.ownsRow base e size (.slice A n c) n xs) : n ≤ c := by
  rcases h.2 with ⟨hv, hn⟩ | ⟨g, cap, cur, hv, _, _, hnc, _⟩
  · injection hv with _ _ hc; omega
  · injection hv with _ _ hc; omega

theorem own_empty (X : World) (base g : Nat) (e : TypeId) (hg : g = X.heap.size) (hb : base ≤ X.heap.size) : (X.alloc (.cells #[] e)).ownsRow base e 1 (.slice (some ⟨g, 0, none⟩) 0 0) 0 [] := by
  subst hg
  exact World.ownsRow_made X #[] 0 hb (Nat.zero_le _) rfl

theorem rdI_nil (w : World) : RdI w w.heap.size none [] := fun h => by simp at h

set_option maxHeartbeats 4000000 in
theorem refStack_any (vars : Int) (A HA : Option Addr) (len cap hcap : Nat) (c : List So) (xs0 : List Int) (w : World) (hx : RdO w w.heap.size A c) (hh : RdI w w.heap.size HA xs0) (hl : c.length = len) (hv0 : 0 ≤ vars) (hl40 : len ≤ 40) (hc : ckSoF vars 0 c = 0) (hv : ckHave vars xs0 = 0) :
    Calls Try.prog 55 #[.slice A len cap, .slice HA xs0.length hcap] w fun e w' =>
      ∃ A' c', e = .returned (.slice A' (stkF xs0 c []).length c') ∧ RdI w' w'.heap.size A' (stkF xs0 c []) ∧ Below w.heap.size w w' := by
  obtain ⟨hv1, hv2⟩ := ckHave_ok hv
  have HL := Lib.hid hl
  have HC := Lib.hid hc
  have hvl : vars ≤ xs0.length := by omega
  clear hl hc hv hv1
  go_enter Try.func55, Try.ntmps55
  go_wp2
  go_loopw [5, 11] (fun sv i wr => ∃ (k : Nat) (s : List Int) (sn : Nat) (SA : Option Addr) (sc : Nat), k ≤ len ∧ i = .int .i64 k ∧ sv = .slice SA sn sc ∧ s.length = sn ∧ sn ≤ sc ∧ StkAt xs0 vars c k s ∧ RdI wr wr.heap.size SA s ∧ Below w.heap.size w wr) (fun _ i _ => len - (intOf i).toNat)
  case atStart => exact ⟨0, [], 0, none, 0, Nat.zero_le _, rfl, rfl, rfl, Nat.le_refl _, StkAt.start HC.out, rdI_nil _, Below.refl _ _⟩
  case round =>
    obtain ⟨k, s, sn, SA, sc, hk, rfl, rfl, hsl, hsc, hr, hrd, hb⟩ := hrel
    have hsk := hr.2.2.1
    rw [hsl] at hsk
    have HR := Lib.hid hr
    have HSL := Lib.hid hsl
    clear hr hsl
    have hsz := hb.size
    by_cases hlt : k < len
    · obtain ⟨ad, o, v, rfl, hbl, hd, hc0, hc1⟩ := (hx.below hb (Nat.le_refl _)).at_ (k := k) (by rw [HL.out]; exact hlt)
      have HD := Lib.hid (drop_at hd)
      have hcase := ckSo_cases (HR.out.ck HD.out)
      rw [HSL.out] at hcase
      clear hd
      have ha_ : 0 + sn ≤ maxLen := by unfold maxLen; omega
      have hb_ : (0 + sn) * 8 ≤ 140737488355328 := by omega
      have hc_ : sn + 1 ≤ maxLen := by unfold maxLen; omega
      have hd_ : (sn + 1) * 8 ≤ 140737488355328 := by omega
      have ga_ : 0 + (sn - 2) ≤ maxLen := by unfold maxLen; omega
      have gb_ : (0 + (sn - 2)) * 8 ≤ 140737488355328 := by omega
      have gc_ : sn - 2 + 1 ≤ maxLen := by unfold maxLen; omega
      have gd_ : (sn - 2 + 1) * 8 ≤ 140737488355328 := by omega
      rcases hcase with ⟨rfl, hv0⟩ | ⟨rfl, hv0⟩ | ⟨ho0, ho1, ho2⟩
      · have HL1 : Hid ((iv s).length = sn * 1) := Lib.hid (by simp [iv, HSL.out])
        have HN1 : Hid (SA = none → sn = 0) := Lib.hid fun h => by have := hrd.nil h; rw [HSL.out] at this; omega
        have HNW : Hid (∀ X, Below wr.heap.size wr X → ∀ ad, SA = some ad → ∀ j u, (iv s)[j]? = some u → X.cell? (ad.add j) = some u) := Lib.hid fun X hX => (hrd.below hX (Nat.le_refl _)).news
        go_wp2_with (first
          | (at_builtin; refine wpList_app rfl (.tmp 48) (.tmp 49) 26 rfl w.heap.size 3 1 8 int_app [] rfl (own_empty _ _ _ _ (by simp) (by simp; omega)) (iv s) rfl HL1.out HN1.out (HNW.out _ (by go_grown)) (iv_one _) ha_ hb_ (by simp; omega) ?_; intro A1 c1 w3 hown1 hg1 hb1; rw [Nat.zero_add, List.nil_append] at hown1)
          | (at_builtin; refine wpList_app rfl (.tmp 50) (.tmp 52) 26 rfl w.heap.size 3 1 8 int_app _ rfl (own_below hown1 (by go_grown)) [.int .i64 v] rfl rfl (fun h => by cases h) (cells_at (by simp) _ _) (one_cell _) hc_ hd_ (by have := hb1.size; simp at this ⊢; omega) ?_; intro A2 c2 w4 hown2 hg2 hb2))
        go_round
        case rel =>
          have hs3 : w.heap.size ≤ w3.heap.size := by have := hb1.size; simp at this; omega
          have hown3 : w4.ownsRow w.heap.size 3 1 (.slice A2 (sn + 1) c2) (sn + 1) (iv (s ++ [v])) := by rw [iv_append]; exact hown2
          have hlen : (s ++ [v]).length = sn + 1 := by simp [HSL.out]
          refine ⟨k + 1, s ++ [v], sn + 1, A2, c2, by omega, by go_num, rfl, hlen, own_cap hown3, HR.out.step HD.out (by simp [stkStep]) (fun j y h => h) (hv0 (by omega)), own_rdI hown3 hlen, ?_⟩
          exact ((by go_grown : Below w.heap.size w _).trans hb1).trans ((by go_grown : Below w.heap.size w3 _).trans hb2)
        case measure => (simp [intOf]; omega)
      · obtain ⟨hv3, hv4⟩ := hv0 (by omega)
        clear hv0
        obtain ⟨vn, rfl⟩ := Int.eq_ofNat_of_zero_le hv3
        obtain ⟨hd2, x, rfl, hbl2, hx2, hcx⟩ := ((hh.below hb (Nat.le_refl _)).more hb.size).at_ (k := vn) (by omega)
        have hxb := okVals_at hv2 hx2
        have HX := Lib.hid hx2
        have hvn : vn < xs0.length := by omega
        clear hx2
        have HL1 : Hid ((iv s).length = sn * 1) := Lib.hid (by simp [iv, HSL.out])
        have HN1 : Hid (SA = none → sn = 0) := Lib.hid fun h => by have := hrd.nil h; rw [HSL.out] at this; omega
        have HNW : Hid (∀ X, Below wr.heap.size wr X → ∀ ad, SA = some ad → ∀ j u, (iv s)[j]? = some u → X.cell? (ad.add j) = some u) := Lib.hid fun X hX => (hrd.below hX (Nat.le_refl _)).news
        go_wp2_with (first
          | (at_builtin; refine wpList_app rfl (.tmp 48) (.tmp 49) 26 rfl w.heap.size 3 1 8 int_app [] rfl (own_empty _ _ _ _ (by simp) (by simp; omega)) (iv s) rfl HL1.out HN1.out (HNW.out _ (by go_grown)) (iv_one _) ha_ hb_ (by simp; omega) ?_; intro A1 c1 w3 hown1 hg1 hb1; rw [Nat.zero_add, List.nil_append] at hown1)
          | (at_builtin; refine wpList_app rfl (.tmp 50) (.tmp 52) 26 rfl w.heap.size 3 1 8 int_app _ rfl (own_below hown1 (by go_grown)) [.int .i64 x] rfl rfl (fun h => by cases h) (cells_at (by simp) _ _) (one_cell _) hc_ hd_ (by have := hb1.size; simp at this ⊢; omega) ?_; intro A2 c2 w4 hown2 hg2 hb2))
        go_round
        case rel =>
          have hs3 : w.heap.size ≤ w3.heap.size := by have := hb1.size; simp at this; omega
          have hown3 : w4.ownsRow w.heap.size 3 1 (.slice A2 (sn + 1) c2) (sn + 1) (iv (s ++ [x])) := by rw [iv_append]; exact hown2
          have hlen : (s ++ [x]).length = sn + 1 := by simp [HSL.out]
          refine ⟨k + 1, s ++ [x], sn + 1, A2, c2, by omega, by go_num, rfl, hlen, own_cap hown3, HR.out.step HD.out (by simp [stkStep, HX.out]) (fun j y h => h) hxb, own_rdI hown3 hlen, ?_⟩
          exact ((by go_grown : Below w.heap.size w _).trans hb1).trans ((by go_grown : Below w.heap.size w3 _).trans hb2)
        case measure => (simp [intOf]; omega)
      · have hs1 : sn - 1 < s.length := by rw [HSL.out]; omega
        have hs2 : sn - 2 < s.length := by rw [HSL.out]; omega
        obtain ⟨sa, xb, rfl, hblb, hxb, hcb⟩ := hrd.at_ (k := sn - 1) hs1
        obtain ⟨sa2, xa, hsa, hbla, hxa, hca⟩ := hrd.at_ (k := sn - 2) hs2
        injection hsa with hsa
        subst hsa
        have hba := HR.out.2.2.2 _ _ hxa
        have hbb := HR.out.2.2.2 _ _ hxb
        have HST : Hid (s.take (sn - 2) ++ [opv o xa xb] = stkStep xs0 ⟨o, v⟩ s) := Lib.hid (by
          unfold stkStep
          simp only []
          rw [if_neg (by omega), if_neg (by omega), HSL.out, List.getD_eq_getElem?_getD, List.getD_eq_getElem?_getD, hxa, hxb]
          rfl)
        have hcv1 : (sn : Int) - 1 = ((sn - 1 : Nat) : Int) := by omega
        have hcv2 : (sn : Int) - 2 = ((sn - 2 : Nat) : Int) := by omega
        have hi1 : sn - 1 < sn := by omega
        have hi2 : sn - 2 < sn := by omega
        have hw1 : IntKind.i64.wrap ((sn - 1 : Nat) : Int) = ((sn - 1 : Nat) : Int) := IntWalk.i64_in _ ⟨by omega, by omega⟩
        have hw2 : IntKind.i64.wrap ((sn - 2 : Nat) : Int) = ((sn - 2 : Nat) : Int) := IntWalk.i64_in _ ⟨by omega, by omega⟩
        have hj1 : ((sn - 1 : Nat) : Int) < (sn : Int) := by omega
        have hj2 : ((sn - 2 : Nat) : Int) < (sn : Int) := by omega
        clear hxa hxb hs1 hs2
        have HL1 : Hid ((iv (s.take (sn - 2))).length = (sn - 2) * 1) := Lib.hid (by simp [iv, HSL.out]; try omega)
        have HN1 : Hid ((some sa : Option Addr) = none → (sn - 2) = 0) := Lib.hid fun h => by have := hrd.nil h; rw [HSL.out] at this; omega
        have HNW : Hid (∀ X, Below wr.heap.size wr X → ∀ ad, (some sa : Option Addr) = some ad → ∀ j u, (iv (s.take (sn - 2)))[j]? = some u → X.cell? (ad.add j) = some u) := Lib.hid fun X hX => ((hrd.take _).below hX (Nat.le_refl _)).news
        go_wp2
        (refine still_tail 15 (by kernel_rfl) (by kernel_rfl) ?_; simp only [List.take_succ_cons, List.take_zero, List.drop_succ_cons, List.drop_zero]; repeat still_step)
        still_call ((refOp_any _ _ _ _ (by omega) (by omega) (by omega) (by omega) (by omega) (by omega)).mono fun _ _ h => ⟨h.1, h.2.symm⟩)
        ((repeat still_step); refine wpStill_nil ?_)
        go_wp2_with (first
          | (at_builtin; refine wpList_app rfl (.tmp 48) (.tmp 49) 26 rfl w.heap.size 3 1 8 int_app [] rfl (own_empty _ _ _ _ (by simp) (by simp; omega)) (iv (s.take (sn - 2))) rfl HL1.out HN1.out (HNW.out _ (by go_grown)) (iv_one _) ga_ gb_ (by simp; omega) ?_; intro A1 c1 w3 hown1 hg1 hb1; rw [Nat.zero_add, List.nil_append] at hown1)
          | (at_builtin; refine wpList_app rfl (.tmp 50) (.tmp 52) 26 rfl w.heap.size 3 1 8 int_app _ rfl (own_below hown1 (by go_grown)) [.int .i64 (opv o xa xb)] rfl rfl (fun h => by cases h) (cells_at (by simp) _ _) (one_cell _) gc_ gd_ (by have := hb1.size; simp at this ⊢; omega) ?_; intro A2 c2 w4 hown2 hg2 hb2))
        go_round
        case rel =>
          have hs3 : w.heap.size ≤ w3.heap.size := by have := hb1.size; simp at this; omega
          have hown3 : w4.ownsRow w.heap.size 3 1 (.slice A2 (sn - 2 + 1) c2) (sn - 2 + 1) (iv (s.take (sn - 2) ++ [opv o xa xb])) := by rw [iv_append]; exact hown2
          have hlen : (s.take (sn - 2) ++ [opv o xa xb]).length = sn - 2 + 1 := by simp [HSL.out]; try omega
          refine ⟨k + 1, s.take (sn - 2) ++ [opv o xa xb], sn - 2 + 1, A2, c2, by omega, by go_num, rfl, hlen, own_cap hown3, HR.out.step HD.out HST.out (fun j y h => by rw [List.getElem?_take] at h; split at h; exact h; cases h) (opv_bd _ _ _), own_rdI hown3 hlen, ?_⟩
          exact ((by go_grown : Below w.heap.size w _).trans hb1).trans ((by go_grown : Below w.heap.size w3 _).trans hb2)
        case measure => (simp [intOf]; omega)
    · have hkl : k = len := by omega
      subst hkl
      have hq := HR.out
      rw [← HL.out] at hq
      have hdone := hq.done
      subst hdone
      have HS2 := HSL.out
      clear HSL hq
      subst HS2
      go_wp2
      go_ret
      exact ⟨SA, sc, rfl, hrd, hb⟩

end Go.Proofs.Ytppnckiedcbleaa
