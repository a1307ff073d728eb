/-
  Folded twice a list is as long as once; it uses no more variables; where it uses none, one number is left.
-/
import Derived.Test.YtacokdghfkpdpaaPrunePure
namespace Go.Proofs.Ytacokdghfkpdpaa
open Go.RowKit
set_option linter.unusedSimpArgs false
set_option linter.unusedVariables false

theorem pow_or {W v : Nat} (h : W.testBit v = true) : 2 ^ v ||| W = W := by
  refine Nat.eq_of_testBit_eq fun i => ?_
  rw [Nat.testBit_or, Nat.testBit_two_pow]
  by_cases hv : v = i
  · subst hv; simp [h]
  · simp [hv]

theorem usW_sub {W : Nat} : ∀ (bs : List Bool) (ts : List Tm) (acc : Nat), acc ||| W = W → (∀ (j : Nat) (t : Tm), bs[j]? = some true → ts[j]? = some t → t.op = 2 → W.testBit t.v.toNat = true) → usW bs ts acc ||| W = W
  | [], _, _, h, _ => by simpa [usW] using h
  | _ :: _, [], _, h, _ => by simpa [usW] using h
  | b :: bs, t :: ts, acc, h, hw => by
    simp only [usW]
    refine usW_sub bs ts _ ?_ (fun j u hb hu => hw (j + 1) u (by simpa using hb) (by simpa using hu))
    split
    · rename_i hc
      rw [Nat.or_assoc, pow_or (hw 0 t (by simp [hc.1]) rfl hc.2), h]
    · exact h

theorem getD_some {l : List Bool} {j : Nat} (h : l.getD j false = true) : l[j]? = some true := by
  rw [List.getD_eq_getElem?_getD] at h
  cases hh : l[j]? with
  | none => rw [hh] at h; simp at h
  | some b => rw [hh] at h; simp at h; rw [h]

theorem some_getD {l : List Bool} {j : Nat} (h : l[j]? = some true) : l.getD j false = true := by rw [List.getD_eq_getElem?_getD, h]; rfl

/-- what the combined list needs, the list needs -/
theorem comb_need {vars : Int} {l : List Tm} (hc : ckTerms vars l = 0) : ∀ j, (needL (combL l)).getD j false = true → (needL l).getD j false = true := by
  have hb := ckTerms_bd hc
  refine needL_sub ⟨by rw [combL_len]; exact need_last (by omega), fun j t hj ht ho => ?_⟩
  have hi : j < l.length := by
    have := (List.getElem?_eq_some_iff.1 ht).1
    rwa [combL_len] at this
  have hd := List.getElem?_eq_getElem hi
  rw [combL_at hd] at ht
  injection ht with ht
  generalize l[j] = u at *
  unfold combT at ht
  split at ht
  · rename_i h0
    subst ht
    exact absurd h0 ho
  · rename_i h0
    split at ht
    · subst ht; exact absurd (.inl rfl) ho
    · subst ht; exact need_closed (t := u) hc hj hd h0

theorem fold_uses {vars : Int} {l : List Tm} (hc : ckTerms vars l = 0) : usesW (foldL l) ||| usesW l = usesW l := by
  have hck := combL_ck hc
  refine usW_sub _ _ _ (by simp) fun r u hr hu ho => ?_
  obtain ⟨j, t, hn, ht, hp⟩ := pr_back hck (List.getElem?_eq_some_iff.1 hu).1
  obtain ⟨r', h5, u', h6, h7, h8, h9⟩ := pr_fwd hck hn ht
  rw [hp] at h5
  injection h5 with h5
  obtain rfl : r = r' := by omega
  unfold foldL at hu
  rw [hu] at h6
  injection h6 with h6
  subst h6
  have hi : j < l.length := by
    have := (List.getElem?_eq_some_iff.1 ht).1
    rwa [combL_len] at this
  have hd := List.getElem?_eq_getElem hi
  rw [combL_at hd] at ht
  injection ht with ht
  have hn' := getD_some (comb_need hc j hn)
  rw [h8]
  unfold combT at ht
  split at ht
  · subst ht
    exact usW_has _ _ _ j l[j] hn' hd (by simp only at h7; omega)
  · split at ht
    · subst ht; simp only at h7; omega
    · rename_i h0 _
      subst ht
      simp only at h7
      omega

/-- where no variable is used, all that is needed is combined to numbers -/
theorem comb_nums {vars : Int} {l : List Tm} (hc : ckTerms vars l = 0) (h0 : usesW l = 0) : ∀ (j : Nat) (u : Tm), (needL l).getD j false = true → (combL l)[j]? = some u → u.op = 1 := by
  intro j
  induction j using Nat.strongRecOn with
  | _ j ih =>
    intro u hn hu
    have hi : j < l.length := by
      have := (List.getElem?_eq_some_iff.1 hu).1
      rwa [combL_len] at this
    have hd := List.getElem?_eq_getElem hi
    have hcase := ckTerm_cases (ckTerms_at hc hd)
    rw [combL_at hd] at hu
    injection hu with hu
    subst hu
    unfold combT
    generalize l[j] = t at *
    rcases hcase with ⟨ho, _⟩ | ⟨ho, _⟩ | ⟨h1, h2, h3, h4, h5, h6⟩
    · rw [if_pos (.inl ho)]; exact ho
    · have h := usW_has _ _ 0 j t (getD_some hn) hd ho
      have h0' : usW (needL l) l 0 = 0 := h0
      rw [h0'] at h
      simp at h
    · obtain ⟨na, nb⟩ := need_closed hc hn hd (by omega)
      have la : t.a.toNat < (combL l).length := by rw [combL_len]; omega
      have lb : t.b.toNat < (combL l).length := by rw [combL_len]; omega
      have ia := ih _ (by omega) _ na (List.getElem?_eq_getElem la)
      have ib := ih _ (by omega) _ nb (List.getElem?_eq_getElem lb)
      rw [if_neg (by omega), combL_pre (by omega) (by omega), combL_pre (by omega) (by omega), List.getD_eq_getElem?_getD, List.getD_eq_getElem?_getD, List.getElem?_eq_getElem la, List.getElem?_eq_getElem lb]
      simp only [Option.getD_some]
      rw [if_pos ⟨ia, ib⟩]

theorem fold_none {vars : Int} {l : List Tm} (hc : ckTerms vars l = 0) (h0 : usesW l = 0) : (foldL l).length = 1 ∧ ∃ u, (foldL l)[0]? = some u ∧ u.op = 1 := by
  have hck := combL_ck hc
  have hb := ckTerms_bd hck
  have hnl := need_last (l := l) (by have := ckTerms_bd hc; omega)
  have hln := combL_len l
  have hcl : (combL l).length - 1 < (combL l).length := by omega
  have hu := comb_nums hc h0 ((combL l).length - 1) _ (by rw [hln]; exact hnl) (List.getElem?_eq_getElem hcl)
  have hS : ∀ j, (needL (combL l)).getD j false = true → j = (combL l).length - 1 := needL_sub ⟨rfl, fun j t hj ht ho => by
    subst hj
    rw [List.getElem?_eq_getElem hcl] at ht
    injection ht with ht
    subst ht
    exact absurd (.inl hu) ho⟩
  have hlast := pr_last hck
  have hlen : (prL (combL l)).length = 1 := by
    obtain ⟨j, t, hn, ht, hp⟩ := pr_back hck (r := 0) (by omega)
    have hj := hS j hn
    rw [hj, hlast.2] at hp
    injection hp with hp
    omega
  refine ⟨hlen, ?_⟩
  obtain ⟨r, h5, u, h6, h7, _, _⟩ := pr_fwd hck (need_last (by omega)) (List.getElem?_eq_getElem hcl)
  have hr := (List.getElem?_eq_some_iff.1 h6).1
  obtain rfl : r = 0 := by omega
  exact ⟨u, h6, by rw [h7]; exact hu⟩

/-- fields that a term does not use are 0 -/
def clean (t : Tm) : Prop := if t.op = 1 ∨ t.op = 2 then t.a = 0 ∧ t.b = 0 else t.v = 0

theorem combT_clean (t : Tm) (bf : List Tm) : clean (combT t bf) := by
  unfold combT
  split
  · unfold clean; rw [if_pos ‹_›]; exact ⟨rfl, rfl⟩
  · split
    · unfold clean; rw [if_pos (.inl rfl)]; exact ⟨rfl, rfl⟩
    · unfold clean; rw [if_neg ‹_›]

theorem fold_clean {vars : Int} {l : List Tm} (hc : ckTerms vars l = 0) {r : Nat} {u : Tm} (hu : (foldL l)[r]? = some u) : clean u := by
  have hck := combL_ck hc
  obtain ⟨j, t, hn, ht, hp⟩ := pr_back hck (List.getElem?_eq_some_iff.1 hu).1
  obtain ⟨r', h5, u', h6, h7, h8, h9⟩ := pr_fwd hck hn ht
  rw [hp] at h5
  injection h5 with h5
  obtain rfl : r = r' := by omega
  unfold foldL at hu
  rw [hu] at h6
  injection h6 with h6
  subst h6
  have hi : j < l.length := by
    have := (List.getElem?_eq_some_iff.1 ht).1
    rwa [combL_len] at this
  have hd := List.getElem?_eq_getElem hi
  have hcl : clean t := by
    rw [combL_at hd] at ht
    injection ht with ht
    rw [← ht]
    exact combT_clean _ _
  rcases h9 with ⟨g1, rfl⟩ | ⟨g1, g2, _⟩
  · exact hcl
  · unfold clean at *
    rw [if_neg (by omega)] at hcl ⊢
    omega

theorem comb_same {vars : Int} {K : List Tm} (hc : ckTerms vars K = 0) (h1 : ∀ (r : Nat) (u : Tm), K[r]? = some u → clean u)
    (h2 : ∀ (r : Nat) (u : Tm), K[r]? = some u → 3 ≤ u.op → ¬ ((K.getD u.a.toNat tz).op = 1 ∧ (K.getD u.b.toNat tz).op = 1)) : ∀ i, i ≤ K.length → combL (K.take i) = K.take i
  | 0, _ => by simp [combL]
  | i + 1, hi => by
    have ih := comb_same hc h1 h2 i (by omega)
    have hd := List.getElem?_eq_getElem (show i < K.length by omega)
    rw [List.take_succ_eq_append_getElem (by omega), combL_snoc, ih]
    congr 1
    have g1 := h1 i _ hd
    have g2 := h2 i _ hd
    have hcase := ckTerm_cases (ckTerms_at hc hd)
    generalize K[i] = t at *
    unfold combT
    unfold clean at g1
    by_cases hl : t.op = 1 ∨ t.op = 2
    · rw [if_pos hl] at g1 ⊢
      obtain ⟨e1, e2⟩ := g1
      cases t
      simp only at e1 e2
      rw [e1, e2]
    · rw [if_neg hl] at g1 ⊢
      have ea : (K.take i).getD t.a.toNat tz = K.getD t.a.toNat tz := by rw [List.getD_eq_getElem?_getD, List.getD_eq_getElem?_getD, List.getElem?_take, if_pos (by omega)]
      have eb : (K.take i).getD t.b.toNat tz = K.getD t.b.toNat tz := by rw [List.getD_eq_getElem?_getD, List.getD_eq_getElem?_getD, List.getElem?_take, if_pos (by omega)]
      rw [ea, eb, if_neg (g2 (by omega))]
      cases t
      simp only at g1
      rw [g1]

theorem prS_all {K : List Tm} (h : ∀ r, r < K.length → (needL K).getD r false = true) : ∀ k, k ≤ K.length → (prS K k).1.length = k
  | 0, _ => by simp [prS]
  | k + 1, hk => by
    have ih := prS_all h k (by omega)
    unfold prS
    rw [if_pos (h k (by omega))]
    simp [ih]

theorem fold_twice {vars : Int} {l : List Tm} (hc : ckTerms vars l = 0) : (foldL (foldL l)).length = (foldL l).length := by
  have hck := combL_ck hc
  have hk : ckTerms vars (foldL l) = 0 := pr_ck hck
  have hs := comb_same hk (fun r u hu => fold_clean hc hu) (fun r u hu ho => pr_no hck (fun i u hu ho => comb_no hc hu ho) hu ho) _ (Nat.le_refl _)
  rw [List.take_length] at hs
  have h : ∀ K : List Tm, combL K = K → (∀ r, r < K.length → (needL K).getD r false = true) → (foldL K).length = K.length := fun K e hn => by
    unfold foldL prL
    rw [e]
    exact prS_all hn _ (Nat.le_refl _)
  exact h _ hs fun r hr => pr_all hck hr

end Go.Proofs.Ytacokdghfkpdpaa
