/-
  codemasonref.Backs: the terms of stack code, and whether one value is left (C2).
-/
import Derived.Test.YtppnckiedcbleaaStackRef
import Derived.Maps.OwnRows
namespace Go.Proofs.Ytppnckiedcbleaa
open Go.RowKit
set_option linter.unusedSimpArgs false
set_option linter.unusedVariables false
set_option maxRecDepth 100000

theorem termb_app : AppTy Try.prog 22 37 4 32 := appTy_of (z := .agg #[.int .i64 0, .int .i64 0, .int .i64 0, .int .i64 0]) Try.underlying22 (by kernel_rfl) rfl (by omega)

theorem own_kept {w w' : World} {base : Nat} {e : TypeId} {size : Nat} {v : Value} {n : Nat} {xs : List Value} {row : Option Nat} (h : w.ownsRow base e size v n xs) (hg : w.grownBy w' row) (hne : ∀ k, row = some k → k < base) : w'.ownsRow base e size v n xs := by
  refine ⟨h.1, ?_⟩
  rcases h.2 with h2 | ⟨g, cap, cur, h1, h2, h3, h4⟩
  · exact .inl h2
  · have hlt : g < w.heap.size := by
      rcases Nat.lt_or_ge g w.heap.size with hl | hl
      · exact hl
      · rw [Array.getElem?_eq_none hl] at h3; cases h3
    exact .inr ⟨g, cap, cur, h1, h2, (hg.block g hlt (fun e => by have := hne g e.symm; omega)).trans h3, h4⟩

/-- terms and stack on the way -/
def BkAt (vars : Int) (c : List So) (k : Nat) (l : List Tm) (s : List Nat) : Prop :=
  bkF c [] [] = bkF (c.drop k) l s ∧ ckSoF vars s.length (c.drop k) = 0 ∧ l.length = k ∧ s.length ≤ k

theorem BkAt.start {vars : Int} {c : List So} (h : ckSoF vars 0 c = 0) : BkAt vars c 0 [] [] := ⟨rfl, h, rfl, Nat.le_refl _⟩

theorem BkAt.ck {vars : Int} {c : List So} {k : Nat} {l : List Tm} {s : List Nat} {o v : Int} (h : BkAt vars c k l s) (hd : c.drop k = ⟨o, v⟩ :: c.drop (k + 1)) : ckSo vars s.length o v = 0 := by
  have h2 := h.2.1
  rw [hd] at h2
  unfold ckSoF at h2
  split at h2
  · assumption
  · exact absurd h2 (by assumption)

theorem BkAt.step {vars : Int} {c : List So} {k : Nat} {l : List Tm} {s : List Nat} {o v : Int} {t : Tm} {s1 : List Nat} (h : BkAt vars c k l s) (hd : c.drop k = ⟨o, v⟩ :: c.drop (k + 1)) (ht : t = bkT ⟨o, v⟩ s) (hs : s1 = bkN ⟨o, v⟩ k s) : BkAt vars c (k + 1) (l ++ [t]) s1 := by
  have hck := h.ck hd
  have hcs := ckSo_cases hck
  obtain ⟨h1, h2, h3, h4⟩ := h
  have hlen : s1.length = nxD s.length o := by rw [hs]; exact bkN_len rfl (by intro ho; simp only [] at ho; omega)
  refine ⟨by rw [h1, hd, bkF, ht, hs, h3], ?_, by simp [h3], ?_⟩
  · rw [hd, ckSoF_go hck, ← hlen] at h2
    exact h2
  · rw [hlen]; unfold nxD; split <;> omega

theorem BkAt.done {vars : Int} {c : List So} {l : List Tm} {s : List Nat} (h : BkAt vars c c.length l s) : l = bkL c ∧ s = bkR c := by
  unfold bkL bkR
  rw [h.1, List.drop_of_length_le (Nat.le_refl _)]
  exact ⟨rfl, rfl⟩

theorem ni_len (s : List Nat) : (ni s).length = s.length := by simp [ni]

theorem ni_take (s : List Nat) (k : Nat) : ni (s.take k) = (ni s).take k := by simp [ni, List.map_take]

theorem ni_get {s : List Nat} {k : Nat} (h : k < s.length) : (ni s)[k]? = some ((s.getD k 0 : Nat) : Int) := by
  rw [ni_at (List.getElem?_eq_getElem h), List.getD_eq_getElem?_getD, List.getElem?_eq_getElem h]
  rfl

theorem own_less {w : World} {base : Nat} {e : TypeId} {A : Option Addr} {n c : Nat} {xs : List Int} (h : w.ownsRow base e 1 (.slice A n c) n (iv xs)) {m : Nat} (hm : m ≤ n) : w.ownsRow base e 1 (.slice A m c) m (iv (xs.take m)) := by
  have h1 := h.1
  rw [Nat.mul_one] at h1
  have hl : (iv xs).length = xs.length := by simp [iv]
  refine ⟨by simp [iv]; omega, ?_⟩
  rcases h.2 with ⟨hv, hn⟩ | ⟨g, cap, cur, hv, h2, h3, h4, h5, h6, h7⟩
  · left
    have hm0 : m = 0 := by omega
    injection hv with ha hb hc
    subst ha hc hm0
    exact ⟨rfl, rfl⟩
  · right
    injection hv with ha hb hc
    subst ha hc
    refine ⟨g, c, cur, rfl, h2, h3, by omega, h5, h6, ?_⟩
    have e1 : iv (xs.take m) = (iv xs).take m := by simp [iv, List.map_take]
    rw [e1, ← h7, Nat.mul_one, Nat.mul_one, List.take_take, Nat.min_eq_left hm]

set_option maxHeartbeats 4000000 in
theorem refBacks_any (vars : Int) (A : Option Addr) (len cap : Nat) (c : List So) (w : World) (hx : RdO w w.heap.size A c) (hl : c.length = len) (hl40 : len ≤ 40) (hc : ckSoF vars 0 c = 0) :
    Calls Try.prog 59 #[.slice A len cap] w fun e w' =>
      ∃ A' c', e = .returned (.tuple #[.slice A' len c', .bool (decide ((bkR c).length = 1))]) ∧ RdT w' w'.heap.size A' (bkL c) ∧ Below w.heap.size w w' := by
  have HL := Lib.hid hl
  have HC := Lib.hid hc
  clear hl hc
  go_enter Try.func59, Try.ntmps59
  go_wp2
  go_loopw [4, 5, 11] (fun lv sv i wr => ∃ (k : Nat) (l : List Tm) (s : List Nat) (sn sb : Nat) (LA : Option Addr) (lc : Nat) (SA : Option Addr) (sc : Nat), k ≤ len ∧ i = .int .i64 k ∧ lv = .slice LA k lc ∧ sv = .slice SA sn sc ∧ Hid (s.length = sn) ∧ Hid (BkAt vars c k l s) ∧
    wr.ownsRow w.heap.size 37 4 (.slice LA k lc) k (tv l) ∧ wr.ownsRow sb 3 1 (.slice SA sn sc) sn (iv (ni s)) ∧ w.heap.size ≤ sb ∧ Hid (∀ j, (Value.slice LA k lc).ownBlock = some j → j < sb) ∧ Below w.heap.size w wr) (fun _ _ i _ => len - (intOf i).toNat)
  case atStart => exact ⟨0, [], [], 0, w.heap.size, none, 0, none, 0, Nat.zero_le _, rfl, rfl, rfl, Lib.hid rfl, Lib.hid (BkAt.start HC.out), World.ownsRow_nil _ _ _ _, World.ownsRow_nil _ _ _ _, Nat.le_refl _, Lib.hid (fun j h => by cases h), Below.refl _ _⟩
  case round =>
    obtain ⟨k, l, s, sn, sb, LA, lc, SA, sc, hk, rfl, rfl, rfl, HSL, HR, hown, howns, hsb, HNE, hb⟩ := hrel
    have hsk := HR.out.2.2.2
    rw [HSL.out] at hsk
    have hsz := hb.size
    have hsc := own_cap howns
    by_cases hlt : k < len
    · obtain ⟨ad, o, v, rfl, hbl, hd, hc0, hc1⟩ := (hx.below hb (Nat.le_refl _)).at_ (k := k) (by rw [HL.out]; exact hlt)
      have HD := Lib.hid (drop_at hd)
      have hcase := ckSo_cases (HR.out.ck HD.out)
      rw [HSL.out] at hcase
      clear hd
      have hk63 : k + 1 ≤ maxLen := by unfold maxLen; omega
      have hkbig : (k + 1) * 32 ≤ 140737488355328 := by omega
      by_cases ho : 3 ≤ o
      · obtain ⟨ho6, ho2⟩ : o ≤ 6 ∧ 2 ≤ sn := by omega
        obtain ⟨xa, hxa⟩ : ∃ x, s[sn - 2]? = some x := ⟨_, List.getElem?_eq_getElem (by rw [HSL.out]; omega)⟩
        obtain ⟨xb, hxb⟩ : ∃ x, s[sn - 1]? = some x := ⟨_, List.getElem?_eq_getElem (by rw [HSL.out]; omega)⟩
        have hrs0 := own_rdI howns (by rw [ni_len]; exact HSL.out)
        obtain ⟨sa, ya, hsa, hbla, hya, hca⟩ := hrs0.at_ (k := sn - 2) (by rw [ni_len, HSL.out]; omega)
        obtain ⟨sa2, yb, hsa2, hblb, hyb, hcb⟩ := hrs0.at_ (k := sn - 1) (by rw [ni_len, HSL.out]; omega)
        subst hsa
        injection hsa2 with hsa2
        subst hsa2
        rw [ni_at hxa] at hya
        rw [ni_at hxb] at hyb
        injection hya with hya
        injection hyb with hyb
        subst hya hyb
        have hT : Hid ((⟨o, xa, xb, 0⟩ : Tm) = bkT ⟨o, v⟩ s) := Lib.hid (by
          unfold bkT
          rw [if_pos ho, HSL.out, List.getD_eq_getElem?_getD, List.getD_eq_getElem?_getD, hxa, hxb]
          rfl)
        have hN : Hid (s.take (sn - 2) ++ [k] = bkN ⟨o, v⟩ k s) := Lib.hid (by unfold bkN; rw [if_pos ho, HSL.out])
        have hlo := own_less howns (m := sn - 2) (by omega)
        rw [← ni_take] at hlo
        have HTL : Hid ((s.take (sn - 2)).length = sn - 2) := Lib.hid (by rw [List.length_take, HSL.out]; omega)
        have ha_ : 0 + (sn - 2) ≤ maxLen := by unfold maxLen; omega
        have hb_ : (0 + (sn - 2)) * 8 ≤ 140737488355328 := by omega
        have hc_ : sn - 2 + 1 ≤ maxLen := by unfold maxLen; omega
        have hd_ : (sn - 2 + 1) * 8 ≤ 140737488355328 := by omega
        have hcv1 : (sn : Int) - 1 = ((sn - 1 : Nat) : Int) := by omega
        have hcv2 : (sn : Int) - 2 = ((sn - 2 : Nat) : Int) := by omega
        have hi1 : sn - 1 < sn := by omega
        have hi2 : sn - 2 < sn := by omega
        have hw1 : IntKind.i64.wrap ((sn - 1 : Nat) : Int) = ((sn - 1 : Nat) : Int) := IntWalk.i64_in _ ⟨by omega, by omega⟩
        have hw2 : IntKind.i64.wrap ((sn - 2 : Nat) : Int) = ((sn - 2 : Nat) : Int) := IntWalk.i64_in _ ⟨by omega, by omega⟩
        have hj1 : ((sn - 1 : Nat) : Int) < (sn : Int) := by omega
        have hj2 : ((sn - 2 : Nat) : Int) < (sn : Int) := by omega
        have hbla1 : (sa.add (sn - 2)).block < wr.heap.size + 1 := by omega
        have hblb1 : (sa.add (sn - 1)).block < wr.heap.size + 1 := by omega
        clear hxa hxb hrs0
        go_wp2
        (refine still_tail 15 (by kernel_rfl) (by kernel_rfl) ?_; simp only [List.take_succ_cons, List.take_zero, List.drop_succ_cons, List.drop_zero]; repeat still_step)
        ((repeat still_step); refine wpStill_nil ?_)
        go_wp2_with (first
          | (at_builtin; refine wpList_app' rfl (.tmp 44) (.tmp 46) 22 rfl w.heap.size 37 4 32 termb_app _ rfl (own_below hown (by go_grown)) [.int .i64 o, .int .i64 xa, .int .i64 xb, .int .i64 0] rfl rfl (fun h => by cases h) (cells_at (by simp) _ _) (tv1_one _ _ _ _) hk63 hkbig (by simp; omega) ?_; intro A1 c1 w1 hown1 hg1 hb1 hk1; have howns1 := own_kept (own_below hlo (by go_grown)) hg1 HNE.out; have hrs := own_rdI howns1 (by rw [ni_len]; exact HTL.out); have hs1 : w.heap.size ≤ w1.heap.size := by have := hb1.size; simp at this; omega)
          | (at_builtin; refine wpList_app rfl (.tmp 48) (.tmp 49) 26 rfl w1.heap.size 3 1 8 int_app [] rfl (own_empty _ _ _ _ (by simp) (by simp)) (iv (ni (s.take (sn - 2)))) rfl (by rw [show (iv (ni (s.take (sn - 2)))).length = (s.take (sn - 2)).length from by simp [iv, ni], HTL.out, Nat.mul_one]) (fun h => by have := hrs.nil h; rw [ni_len, HTL.out] at this; exact this) (RdI.news (hrs.below (by go_grown : Below w1.heap.size w1 _) (Nat.le_refl _))) (iv_one _) ha_ hb_ (by simp) ?_; intro A2 c2 w2 hown2 hg2 hb2; rw [Nat.zero_add, List.nil_append] at hown2; have hs2 : w1.heap.size ≤ w2.heap.size := by have := hb2.size; simp at this; omega)
          | (at_builtin; refine wpList_app rfl (.tmp 50) (.tmp 52) 26 rfl w1.heap.size 3 1 8 int_app _ rfl (own_below hown2 (by go_grown)) [.int .i64 (k : Int)] rfl rfl (fun h => by cases h) (cells_at (by simp) _ _) (one_cell _) hc_ hd_ (by simp; omega) ?_; intro A3 c3 w3 hown3 hg3 hb3))
        go_round
        case rel =>
          have hB : Below w1.heap.size w1 w3 := ((by go_grown : Below w1.heap.size w1 _).trans hb2).trans ((by go_grown : Below w1.heap.size w2 _).trans hb3)
          refine ⟨k + 1, l ++ [⟨o, xa, xb, 0⟩], s.take (sn - 2) ++ [k], sn - 2 + 1, w1.heap.size, A1, c1, A3, c3, by omega, by go_num, rfl, rfl, Lib.hid (by rw [List.length_append, HTL.out]; rfl), Lib.hid (HR.out.step HD.out hT.out hN.out), ?_, ?_, hs1, Lib.hid ?_, ?_⟩
          · rw [tv_append]; exact own_below hown1 hB
          · rw [ni_append, iv_append]; exact hown3
          · exact fun j hj => (hown1.lt j hj).2
          · exact ((by go_grown : Below w.heap.size w _).trans hb1).trans (hB.mono hs1)
        case measure => (simp [intOf]; omega)
      · have hT : Hid ((⟨o, 0, 0, v⟩ : Tm) = bkT ⟨o, v⟩ s) := Lib.hid (by unfold bkT; rw [if_neg (by simp only []; omega)])
        have hN : Hid (s ++ [k] = bkN ⟨o, v⟩ k s) := Lib.hid (by unfold bkN; rw [if_neg (by simp only []; omega)])
        have ha_ : 0 + sn ≤ maxLen := by unfold maxLen; omega
        have hb_ : (0 + sn) * 8 ≤ 140737488355328 := by omega
        have hc_ : sn + 1 ≤ maxLen := by unfold maxLen; omega
        have hd_ : (sn + 1) * 8 ≤ 140737488355328 := by omega
        go_wp2_with (first
          | (at_builtin; refine wpList_app' rfl (.tmp 44) (.tmp 46) 22 rfl w.heap.size 37 4 32 termb_app _ rfl (own_below hown (by go_grown)) [.int .i64 o, .int .i64 0, .int .i64 0, .int .i64 v] rfl rfl (fun h => by cases h) (cells_at (by simp) _ _) (tv1_one _ _ _ _) hk63 hkbig (by simp; omega) ?_; intro A1 c1 w1 hown1 hg1 hb1 hk1; have howns1 := own_kept (own_below howns (by go_grown)) hg1 HNE.out; have hrs := own_rdI howns1 (by rw [ni_len]; exact HSL.out); have hs1 : w.heap.size ≤ w1.heap.size := by have := hb1.size; simp at this; omega)
          | (at_builtin; refine wpList_app rfl (.tmp 48) (.tmp 49) 26 rfl w1.heap.size 3 1 8 int_app [] rfl (own_empty _ _ _ _ (by simp) (by simp)) (iv (ni s)) rfl (by simp [iv, ni_len, HSL.out]) (fun h => by have := hrs.nil h; rw [ni_len, HSL.out] at this; exact this) (RdI.news (hrs.below (by go_grown : Below w1.heap.size w1 _) (Nat.le_refl _))) (iv_one _) ha_ hb_ (by simp) ?_; intro A2 c2 w2 hown2 hg2 hb2; rw [Nat.zero_add, List.nil_append] at hown2; have hs2 : w1.heap.size ≤ w2.heap.size := by have := hb2.size; simp at this; omega)
          | (at_builtin; refine wpList_app rfl (.tmp 50) (.tmp 52) 26 rfl w1.heap.size 3 1 8 int_app _ rfl (own_below hown2 (by go_grown)) [.int .i64 (k : Int)] rfl rfl (fun h => by cases h) (cells_at (by simp) _ _) (one_cell _) hc_ hd_ (by simp; omega) ?_; intro A3 c3 w3 hown3 hg3 hb3))
        go_round
        case rel =>
          have hB : Below w1.heap.size w1 w3 := ((by go_grown : Below w1.heap.size w1 _).trans hb2).trans ((by go_grown : Below w1.heap.size w2 _).trans hb3)
          refine ⟨k + 1, l ++ [⟨o, 0, 0, v⟩], s ++ [k], sn + 1, w1.heap.size, A1, c1, A3, c3, by omega, by go_num, rfl, rfl, Lib.hid (by simp [HSL.out]), Lib.hid (HR.out.step HD.out hT.out hN.out), ?_, ?_, hs1, Lib.hid ?_, ?_⟩
          · rw [tv_append]; exact own_below hown1 hB
          · rw [ni_append, iv_append]; exact hown3
          · exact fun j hj => (hown1.lt j hj).2
          · exact ((by go_grown : Below w.heap.size w _).trans hb1).trans (hB.mono hs1)
        case measure => (simp [intOf]; omega)
    · have hkl : k = len := by omega
      subst hkl
      have hq := HR.out
      rw [← HL.out] at hq
      obtain ⟨e1, e2⟩ := hq.done
      have HE := Lib.hid (show (bkR c).length = sn by rw [← e2]; exact HSL.out)
      subst e1
      go_wp2
      go_ret2
      refine ⟨LA, lc, ?_, own_rdT hown (by rw [HR.out.2.2.1]), hb⟩
      rw [HE.out]
      refine congrArg (fun b => Ending.returned (.tuple #[_, .bool b])) ?_
      rw [Bool.eq_iff_iff]
      simp
      try omega

end Go.Proofs.Ytppnckiedcbleaa
