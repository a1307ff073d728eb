/-
  What term.Fold's list is: it keeps A1, is no longer, stands for the same, needs all, and reckons nothing of two numbers.
-/
import Derived.Test.YtacokdghfkpdpaaFold
namespace Go.Proofs.Ytacokdghfkpdpaa
open Go.RowKit
set_option linter.unusedSimpArgs false
set_option linter.unusedVariables false

theorem evAll_pref (hv : List Int) : ∀ (l : List Tm) (vs : List Int), ∃ r, evAll hv l vs = vs ++ r
  | [], vs => ⟨[], by simp [evAll]⟩
  | t :: r, vs => by
    obtain ⟨s, hs⟩ := evAll_pref hv r (vs ++ [evT hv t vs])
    exact ⟨evT hv t vs :: s, by simp only [evAll]; rw [hs]; simp⟩

theorem evAll_take {hv : List Int} {l : List Tm} {i a : Nat} (ha : a < i) (hi : i ≤ l.length) : (evAll hv (l.take i) []).getD a 0 = (evAll hv l []).getD a 0 := by
  have e : evAll hv l [] = evAll hv (l.drop i) (evAll hv (l.take i) []) := by rw [← evAll_append, List.take_append_drop]
  obtain ⟨r, hr⟩ := evAll_pref hv (l.drop i) (evAll hv (l.take i) [])
  have hl : (evAll hv (l.take i) []).length = i := by rw [evAll_len]; simp; omega
  rw [e, hr, List.getD_eq_getElem?_getD, List.getD_eq_getElem?_getD, List.getElem?_append_left (by omega)]

theorem evAll_at {hv : List Int} {l : List Tm} {i : Nat} {t : Tm} (h : l[i]? = some t) : (evAll hv l []).getD i 0 = evT hv t (evAll hv (l.take i) []) := by
  obtain ⟨hi, rfl⟩ := List.getElem?_eq_some_iff.1 h
  have hl : (evAll hv (l.take i) []).length = i := by rw [evAll_len]; simp; omega
  rw [← evAll_take (i := i + 1) (by omega) (by omega), List.take_succ_eq_append_getElem hi, evAll_append]
  simp only [evAll]
  rw [List.getD_eq_getElem?_getD, List.getElem?_append_right (by omega), hl, Nat.sub_self]
  rfl

/-- the value of a term of a list -/
def V (hv : List Int) (l : List Tm) (i : Nat) : Int := (evAll hv l []).getD i 0

theorem V_num {hv : List Int} {l : List Tm} {i : Nat} {t : Tm} (h : l[i]? = some t) (ho : t.op = 1) : V hv l i = t.v := by
  unfold V; rw [evAll_at h]; unfold evT; rw [if_pos ho]

theorem V_var {hv : List Int} {l : List Tm} {i : Nat} {t : Tm} (h : l[i]? = some t) (ho : t.op = 2) : V hv l i = hv.getD t.v.toNat 0 := by
  unfold V; rw [evAll_at h]; unfold evT; rw [if_neg (by omega), if_pos ho]

theorem V_op {hv : List Int} {l : List Tm} {i : Nat} {t : Tm} (h : l[i]? = some t) (ho : 3 ≤ t.op) (ha : t.a.toNat < i) (hb : t.b.toNat < i) : V hv l i = opv t.op (V hv l t.a.toNat) (V hv l t.b.toNat) := by
  have hi := (List.getElem?_eq_some_iff.1 h).1
  unfold V
  rw [evAll_at h]
  unfold evT
  rw [if_neg (by omega), if_neg (by omega), evAll_take ha (by omega), evAll_take hb (by omega)]

theorem combL_pre {l : List Tm} {i a : Nat} (ha : a < i) (hi : i ≤ l.length) : (combL (l.take i)).getD a tz = (combL l).getD a tz := by
  have h1 := List.getElem?_eq_getElem (show a < l.length by omega)
  have h2 : (l.take i)[a]? = some l[a] := by rw [List.getElem?_take, if_pos ha, h1]
  rw [List.getD_eq_getElem?_getD, List.getD_eq_getElem?_getD, combL_at h1, combL_at h2, List.take_take, Nat.min_eq_left (by omega)]

theorem comb_val {vars : Int} {hv : List Int} {l : List Tm} (hc : ckTerms vars l = 0) : ∀ (i : Nat), i < l.length → V hv (combL l) i = V hv l i := by
  intro i
  induction i using Nat.strongRecOn with
  | _ i ih =>
    intro hi
    have hd := List.getElem?_eq_getElem hi
    have hcd := combL_at hd
    have hcase := ckTerm_cases (ckTerms_at hc hd)
    generalize l[i] = t at *
    rcases hcase with ⟨ho, _⟩ | ⟨ho, _⟩ | ⟨h1, h2, h3, h4, h5, h6⟩
    · have e : combT t (combL (l.take i)) = ⟨t.op, 0, 0, t.v⟩ := by unfold combT; rw [if_pos (.inl ho)]
      rw [e] at hcd
      rw [V_num hd ho, V_num hcd ho]
    · have e : combT t (combL (l.take i)) = ⟨t.op, 0, 0, t.v⟩ := by unfold combT; rw [if_pos (.inr ho)]
      rw [e] at hcd
      rw [V_var hd ho, V_var hcd ho]
    · have ha : t.a.toNat < i := by omega
      have hb : t.b.toNat < i := by omega
      have ea := combL_pre (l := l) ha (by omega)
      have eb := combL_pre (l := l) hb (by omega)
      have ia := ih _ ha (by omega)
      have ib := ih _ hb (by omega)
      rw [V_op hd h1 ha hb, ← ia, ← ib]
      unfold combT at hcd
      rw [if_neg (by omega), ea, eb] at hcd
      have ga : (combL l)[t.a.toNat]? = some ((combL l).getD t.a.toNat tz) := by
        have hl : t.a.toNat < (combL l).length := by rw [combL_len]; omega
        rw [List.getD_eq_getElem?_getD, List.getElem?_eq_getElem hl]; rfl
      have gb : (combL l)[t.b.toNat]? = some ((combL l).getD t.b.toNat tz) := by
        have hl : t.b.toNat < (combL l).length := by rw [combL_len]; omega
        rw [List.getD_eq_getElem?_getD, List.getElem?_eq_getElem hl]; rfl
      split at hcd
      · rename_i hh
        rw [V_num hcd rfl, V_num ga hh.1, V_num gb hh.2]
      · rw [V_op hcd h1 ha hb]

theorem comb_no {vars : Int} {l : List Tm} (hc : ckTerms vars l = 0) {i : Nat} {u : Tm} (hu : (combL l)[i]? = some u) (ho : 3 ≤ u.op) : ¬ (((combL l).getD u.a.toNat tz).op = 1 ∧ ((combL l).getD u.b.toNat tz).op = 1) := by
  have hi : i < l.length := by
    have := (List.getElem?_eq_some_iff.1 hu).1
    rwa [combL_len] at this
  have hd := List.getElem?_eq_getElem hi
  have hcase := ckTerm_cases (ckTerms_at hc hd)
  rw [combL_at hd] at hu
  generalize l[i] = t at *
  injection hu with hu
  unfold combT at hu
  split at hu
  · subst hu; simp only at ho; omega
  · rename_i h0
    split at hu
    · subst hu; simp only at ho; omega
    · rename_i hh
      subst hu
      simp only at ho ⊢
      rwa [combL_pre (by omega) (by omega), combL_pre (by omega) (by omega)] at hh

theorem valT_comb {vars : Int} {hv : List Int} {l : List Tm} (hc : ckTerms vars l = 0) : valT (combL l) hv = valT l hv := by
  have h := comb_val (hv := hv) hc (l.length - 1) (by have := ckTerms_bd hc; omega)
  unfold valT
  rw [combL_len]
  exact h

end Go.Proofs.Ytacokdghfkpdpaa
