/-
  What term.prune's list is: it keeps A1, stands for the same, and needs all.
-/
import Derived.Test.YtfhnhbkdhdocjaaPrune
import Derived.Test.YtfhnhbkdhdocjaaPureV
namespace Go.Proofs.Ytfhnhbkdhdocjaa
open Go.RowKit
set_option linter.unusedSimpArgs false
set_option linter.unusedVariables false

structure PInv (c : List Tm) (k : Nat) (K : List Tm) (p : List Int) : Prop where
  len : p.length = c.length
  fwd : ∀ (j : Nat) (t : Tm), j < k → (needL c).getD j false = true → c[j]? = some t → ∃ r : Nat, p[j]? = some (r : Int) ∧ K[r]? = some (renT p t)
  back : ∀ r : Nat, r < K.length → ∃ j, j < k ∧ (needL c).getD j false = true ∧ p[j]? = some (r : Int)
  mono : ∀ (i j : Nat) (r s : Int), i < j → j < k → (needL c).getD i false = true → (needL c).getD j false = true → p[i]? = some r → p[j]? = some s → r < s

theorem renT_set {vars : Int} {p : List Int} {t : Tm} {j k : Nat} {x : Int} (h : ckTerm vars j t.op t.a t.b t.v = 0) (hj : j ≤ k) : renT (p.set k x) t = renT p t := by
  unfold renT
  split
  · rfl
  · have hc := ckTerm_cases h
    have ha : k ≠ t.a.toNat := by omega
    have hb : k ≠ t.b.toNat := by omega
    simp only [List.getD_eq_getElem?_getD, List.getElem?_set_ne ha, List.getElem?_set_ne hb]

theorem prS_inv {vars : Int} {c : List Tm} (hc : ckTerms vars c = 0) : ∀ k, k ≤ c.length → PInv c k (prS c k).1 (prS c k).2
  | 0, _ => ⟨by simp [prS], fun j t h => by omega, fun r h => by simp [prS] at h, fun i j r s _ h => by omega⟩
  | k + 1, hk => by
    have ih := prS_inv hc k (by omega)
    have hkc := List.getElem?_eq_getElem (show k < c.length by omega)
    unfold prS
    split
    · rename_i hn
      generalize prS c k = s at *
      obtain ⟨K, p⟩ := s
      simp only at ih ⊢
      have hgd : c.getD k tz = c[k] := by rw [List.getD_eq_getElem?_getD, hkc]; rfl
      have hpk : k < p.length := by rw [ih.len]; omega
      rw [hgd]
      refine ⟨by rw [List.length_set]; exact ih.len, fun j t hj hjn ht => ?_, fun r hr => ?_, fun i j r s hij hj hin hjn hr hs => ?_⟩
      · by_cases hjk : j = k
        · subst hjk
          rw [hkc] at ht
          injection ht with ht
          subst ht
          refine ⟨K.length, by rw [List.getElem?_set_self hpk], ?_⟩
          rw [List.getElem?_append_right (Nat.le_refl _), Nat.sub_self, renT_set (ckTerms_at hc hkc) (Nat.le_refl _)]
          rfl
        · obtain ⟨r, h1, h2⟩ := ih.fwd j t (by omega) hjn ht
          have hr := (List.getElem?_eq_some_iff.1 h2).1
          exact ⟨r, by rw [List.getElem?_set_ne (by omega)]; exact h1, by rw [List.getElem?_append_left hr, renT_set (ckTerms_at hc ht) (by omega)]; exact h2⟩
      · by_cases hrk : r < K.length
        · obtain ⟨j, h1, h2, h3⟩ := ih.back r hrk
          exact ⟨j, by omega, h2, by rw [List.getElem?_set_ne (by omega)]; exact h3⟩
        · have : r = K.length := by simp at hr; omega
          subst this
          exact ⟨k, by omega, hn, by rw [List.getElem?_set_self hpk]⟩
      · rw [List.getElem?_set_ne (by omega)] at hr
        by_cases hjk : j = k
        · subst hjk
          rw [List.getElem?_set_self hpk] at hs
          injection hs with hs
          obtain ⟨r', h1, h2⟩ := ih.fwd i c[i] hij hin (List.getElem?_eq_getElem (by omega))
          have h3 := (List.getElem?_eq_some_iff.1 h2).1
          rw [h1] at hr
          injection hr with hr
          omega
        · rw [List.getElem?_set_ne (by omega)] at hs
          exact ih.mono i j r s hij (by omega) hin hjn hr hs
    · rename_i hn
      refine ⟨ih.len, fun j t hj hjn ht => ?_, fun r hr => ?_, fun i j r s hij hj hin hjn hr hs => ?_⟩
      · have : j ≠ k := fun h => hn (h ▸ hjn)
        exact ih.fwd j t (by omega) hjn ht
      · obtain ⟨j, h1, h2, h3⟩ := ih.back r hr
        exact ⟨j, by omega, h2, h3⟩
      · have : j ≠ k := fun h => hn (h ▸ hjn)
        exact ih.mono i j r s hij (by omega) hin hjn hr hs

/-- what becomes of a needed term -/
theorem pr_fwd {vars : Int} {c : List Tm} (hc : ckTerms vars c = 0) {j : Nat} {t : Tm} (hn : (needL c).getD j false = true) (ht : c[j]? = some t) :
    ∃ r : Nat, (prS c c.length).2[j]? = some (r : Int) ∧ ∃ u : Tm, (prL c)[r]? = some u ∧ u.op = t.op ∧ u.v = t.v ∧
      (((t.op = 1 ∨ t.op = 2) ∧ u = t) ∨ (3 ≤ t.op ∧ t.op ≤ 6 ∧ ∃ an bn ra rb : Nat, t.a = an ∧ t.b = bn ∧ an < j ∧ bn < j ∧ (needL c).getD an false = true ∧ (needL c).getD bn false = true ∧
        (prS c c.length).2[an]? = some (ra : Int) ∧ (prS c c.length).2[bn]? = some (rb : Int) ∧ ra < r ∧ rb < r ∧ u.a = ra ∧ u.b = rb)) := by
  have hI := prS_inv hc c.length (Nat.le_refl _)
  have hj := (List.getElem?_eq_some_iff.1 ht).1
  obtain ⟨r, h1, h2⟩ := hI.fwd j t hj hn ht
  refine ⟨r, h1, _, h2, ?_⟩
  have hcase := ckTerm_cases (ckTerms_at hc ht)
  by_cases hl : t.op = 1 ∨ t.op = 2
  · have e : renT (prS c c.length).2 t = t := by unfold renT; rw [if_pos hl]
    rw [e]
    exact ⟨rfl, rfl, .inl ⟨hl, rfl⟩⟩
  · obtain ⟨g1, g2, g3, g4, g5, g6⟩ : 3 ≤ t.op ∧ t.op ≤ 6 ∧ 0 ≤ t.a ∧ t.a < j ∧ 0 ≤ t.b ∧ t.b < j := by omega
    obtain ⟨na, nb⟩ := need_closed hc hn ht hl
    obtain ⟨an, ha⟩ := Int.eq_ofNat_of_zero_le g3
    obtain ⟨bn, hb⟩ := Int.eq_ofNat_of_zero_le g5
    rw [ha, Int.toNat_natCast] at na
    rw [hb, Int.toNat_natCast] at nb
    have hal : an < c.length := by omega
    have hbl : bn < c.length := by omega
    obtain ⟨ra, a1, _⟩ := hI.fwd an c[an] hal na (List.getElem?_eq_getElem hal)
    obtain ⟨rb, b1, _⟩ := hI.fwd bn c[bn] hbl nb (List.getElem?_eq_getElem hbl)
    have m1 := hI.mono an j _ _ (by omega) hj na hn a1 h1
    have m2 := hI.mono bn j _ _ (by omega) hj nb hn b1 h1
    have e : renT (prS c c.length).2 t = ⟨t.op, ra, rb, t.v⟩ := by
      unfold renT
      rw [if_neg hl, ha, hb, Int.toNat_natCast, Int.toNat_natCast, List.getD_eq_getElem?_getD, List.getD_eq_getElem?_getD, a1, b1]
      rfl
    rw [e]
    exact ⟨rfl, rfl, .inr ⟨g1, g2, an, bn, ra, rb, ha, hb, by omega, by omega, na, nb, a1, b1, by omega, by omega, rfl, rfl⟩⟩

theorem pr_back {vars : Int} {c : List Tm} (hc : ckTerms vars c = 0) {r : Nat} (hr : r < (prL c).length) : ∃ (j : Nat) (t : Tm), (needL c).getD j false = true ∧ c[j]? = some t ∧ (prS c c.length).2[j]? = some (r : Int) := by
  have hI := prS_inv hc c.length (Nat.le_refl _)
  obtain ⟨j, h1, h2, h3⟩ := hI.back r hr
  exact ⟨j, c[j], h2, List.getElem?_eq_getElem h1, h3⟩

theorem pr_last {vars : Int} {c : List Tm} (hc : ckTerms vars c = 0) : 0 < (prL c).length ∧ (prS c c.length).2[c.length - 1]? = some (((prL c).length - 1 : Nat) : Int) := by
  have hI := prS_inv hc c.length (Nat.le_refl _)
  have hb := ckTerms_bd hc
  have hn := need_last (l := c) (by omega)
  obtain ⟨r, h1, h2⟩ := hI.fwd (c.length - 1) c[c.length - 1] (by omega) hn (List.getElem?_eq_getElem (by omega))
  have hr := (List.getElem?_eq_some_iff.1 h2).1
  have hK : 0 < (prL c).length := by unfold prL; omega
  refine ⟨hK, ?_⟩
  obtain ⟨j, g1, g2, g3⟩ := hI.back ((prL c).length - 1) (by unfold prL at *; omega)
  by_cases hj : j = c.length - 1
  · rw [← hj]; exact g3
  · have := hI.mono j (c.length - 1) _ _ (by omega) (by omega) g2 hn g3 h1
    unfold prL at *
    omega

theorem pr_ck {vars : Int} {c : List Tm} (hc : ckTerms vars c = 0) : ckTerms vars (prL c) = 0 := by
  obtain ⟨h1, h2, h3, h4⟩ := ckTerms_bd hc
  have hl := (prS_len c c.length).1
  refine ckTerms_of h1 h2 (pr_last hc).1 (by unfold prL; omega) fun r u hu => ?_
  obtain ⟨j, t, hn, ht, hp⟩ := pr_back hc (List.getElem?_eq_some_iff.1 hu).1
  obtain ⟨r', h5, u', h6, h7, h8, h9⟩ := pr_fwd hc hn ht
  rw [hp] at h5
  injection h5 with h5
  obtain rfl : r = r' := by omega
  rw [hu] at h6
  injection h6 with h6
  subst h6
  have hcase := ckTerm_cases (ckTerms_at hc ht)
  rcases h9 with ⟨g1, rfl⟩ | ⟨g1, g2, an, bn, ra, rb, _, _, _, _, _, _, _, _, g3, g4, g5, g6⟩
  · unfold ckTerm
    (repeat' split) <;> omega
  · unfold ckTerm
    (repeat' split) <;> omega

theorem pr_val {vars : Int} {hv : List Int} {c : List Tm} (hc : ckTerms vars c = 0) : ∀ (j r : Nat), (needL c).getD j false = true → j < c.length → (prS c c.length).2[j]? = some (r : Int) → V hv (prL c) r = V hv c j := by
  intro j
  induction j using Nat.strongRecOn with
  | _ j ih =>
    intro r hn hj hp
    have ht := List.getElem?_eq_getElem hj
    obtain ⟨r', h5, u, h6, h7, h8, h9⟩ := pr_fwd hc hn ht
    rw [hp] at h5
    injection h5 with h5
    obtain rfl : r = r' := by omega
    generalize c[j] = t at *
    rcases h9 with ⟨g1 | g1, rfl⟩ | ⟨g1, g2, an, bn, ra, rb, e1, e2, e3, e4, e5, e6, e7, e8, g3, g4, g5, g6⟩
    · rw [V_num h6 g1, V_num ht g1]
    · rw [V_var h6 g1, V_var ht g1]
    · rw [V_op h6 (by omega) (by omega) (by omega), V_op ht g1 (by omega) (by omega), h7, g5, g6, e1, e2]
      simp only [Int.toNat_natCast]
      rw [ih an e3 ra e5 (by omega) e7, ih bn e4 rb e6 (by omega) e8]

theorem valT_pr {vars : Int} {hv : List Int} {c : List Tm} (hc : ckTerms vars c = 0) : valT (prL c) hv = valT c hv := by
  have hb := ckTerms_bd hc
  exact pr_val hc (c.length - 1) ((prL c).length - 1) (need_last (by omega)) (by omega) (pr_last hc).2

theorem pr_all {vars : Int} {c : List Tm} (hc : ckTerms vars c = 0) {r : Nat} (hr : r < (prL c).length) : (needL (prL c)).getD r false = true := by
  have hb := ckTerms_bd hc
  have hk := pr_ck hc
  have hcl : Closed c fun j => (needL c).getD j false = true ∧ ∃ s : Nat, (prS c c.length).2[j]? = some (s : Int) ∧ (needL (prL c)).getD s false = true := by
    refine ⟨⟨need_last (by omega), _, (pr_last hc).2, need_last (pr_last hc).1⟩, fun j t ⟨hn, s, hs, hsn⟩ ht ho => ?_⟩
    obtain ⟨r', h5, u, h6, h7, h8, h9⟩ := pr_fwd hc hn ht
    rw [hs] at h5
    injection h5 with h5
    obtain rfl : s = r' := by omega
    rcases h9 with ⟨g1, _⟩ | ⟨g1, g2, an, bn, ra, rb, e1, e2, e3, e4, e5, e6, e7, e8, g3, g4, g5, g6⟩
    · exact absurd g1 ho
    · have := need_closed hk hsn h6 (by omega)
      rw [g5, g6, Int.toNat_natCast, Int.toNat_natCast] at this
      rw [e1, e2, Int.toNat_natCast, Int.toNat_natCast]
      exact ⟨⟨e5, ra, e7, this.1⟩, ⟨e6, rb, e8, this.2⟩⟩
  obtain ⟨j, t, hn, ht, hp⟩ := pr_back hc hr
  obtain ⟨_, s, hs, hsn⟩ := needL_sub hcl j hn
  rw [hp] at hs
  injection hs with hs
  obtain rfl : r = s := by omega
  exact hsn

theorem comesL_pr {vars : Int} {c : List Tm} (hc : ckTerms vars c = 0) : (comesL (prL c)).length = (prL c).length := by
  have h : ∀ x ∈ List.range (prL c).length, (needL (prL c)).getD x false = true := fun x hx => pr_all hc (List.mem_range.1 hx)
  unfold comesL outL
  rw [List.filter_eq_self.2 h, List.length_range]

theorem pr_no {vars : Int} {c : List Tm} (hc : ckTerms vars c = 0) (h : ∀ (i : Nat) (u : Tm), c[i]? = some u → 3 ≤ u.op → ¬ ((c.getD u.a.toNat tz).op = 1 ∧ (c.getD u.b.toNat tz).op = 1)) {r : Nat} {u : Tm} (hu : (prL c)[r]? = some u) (ho : 3 ≤ u.op) :
    ¬ (((prL c).getD u.a.toNat tz).op = 1 ∧ ((prL c).getD u.b.toNat tz).op = 1) := by
  obtain ⟨j, t, hn, ht, hp⟩ := pr_back hc (List.getElem?_eq_some_iff.1 hu).1
  obtain ⟨r', h5, u', h6, h7, h8, h9⟩ := pr_fwd hc hn ht
  rw [hp] at h5
  injection h5 with h5
  obtain rfl : r = r' := by omega
  rw [hu] at h6
  injection h6 with h6
  subst h6
  rcases h9 with ⟨g1, rfl⟩ | ⟨g1, g2, an, bn, ra, rb, e1, e2, e3, e4, e5, e6, e7, e8, g3, g4, g5, g6⟩
  · omega
  · have hj := (List.getElem?_eq_some_iff.1 ht).1
    have ta := List.getElem?_eq_getElem (show an < c.length by omega)
    have tb := List.getElem?_eq_getElem (show bn < c.length by omega)
    obtain ⟨ra', a1, ua, a2, a3, _⟩ := pr_fwd hc e5 ta
    obtain ⟨rb', b1, ub, b2, b3, _⟩ := pr_fwd hc e6 tb
    rw [e7] at a1
    rw [e8] at b1
    injection a1 with a1
    injection b1 with b1
    obtain rfl : ra = ra' := by omega
    obtain rfl : rb = rb' := by omega
    have hh := h j t ht g1
    rw [e1, e2, Int.toNat_natCast, Int.toNat_natCast, List.getD_eq_getElem?_getD, List.getD_eq_getElem?_getD, ta, tb] at hh
    rw [g5, g6, Int.toNat_natCast, Int.toNat_natCast, List.getD_eq_getElem?_getD, List.getD_eq_getElem?_getD, a2, b2]
    simp only [Option.getD_some] at hh ⊢
    rw [a3, b3]
    exact hh

end Go.Proofs.Ytfhnhbkdhdocjaa
