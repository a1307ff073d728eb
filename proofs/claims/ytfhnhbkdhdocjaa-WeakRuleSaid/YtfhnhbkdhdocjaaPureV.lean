/-
  The value of a term of a list (A1): no program's text.
-/
import Derived.Test.YtfhnhbkdhdocjaaMPure
namespace Go.Proofs.Ytfhnhbkdhdocjaa
set_option linter.unusedSimpArgs false
set_option linter.unusedVariables false

theorem evAll_pref (hv : List Int) : ∀ (l : List Tm) (vs : List Int), ∃ r, evAll hv l vs = vs ++ r
  | [], vs => ⟨[], by simp [evAll]⟩
  | t :: r, vs => by
    obtain ⟨s, hs⟩ := evAll_pref hv r (vs ++ [evT hv t vs])
    exact ⟨evT hv t vs :: s, by simp only [evAll]; rw [hs]; simp⟩

theorem evAll_take {hv : List Int} {l : List Tm} {i a : Nat} (ha : a < i) (hi : i ≤ l.length) : (evAll hv (l.take i) []).getD a 0 = (evAll hv l []).getD a 0 := by
  have e : evAll hv l [] = evAll hv (l.drop i) (evAll hv (l.take i) []) := by rw [← evAll_append, List.take_append_drop]
  obtain ⟨r, hr⟩ := evAll_pref hv (l.drop i) (evAll hv (l.take i) [])
  have hl : (evAll hv (l.take i) []).length = i := by rw [evAll_len]; simp; omega
  rw [e, hr, List.getD_eq_getElem?_getD, List.getD_eq_getElem?_getD, List.getElem?_append_left (by omega)]

theorem evAll_at {hv : List Int} {l : List Tm} {i : Nat} {t : Tm} (h : l[i]? = some t) : (evAll hv l []).getD i 0 = evT hv t (evAll hv (l.take i) []) := by
  obtain ⟨hi, rfl⟩ := List.getElem?_eq_some_iff.1 h
  have hl : (evAll hv (l.take i) []).length = i := by rw [evAll_len]; simp; omega
  rw [← evAll_take (i := i + 1) (by omega) (by omega), List.take_succ_eq_append_getElem hi, evAll_append]
  simp only [evAll]
  rw [List.getD_eq_getElem?_getD, List.getElem?_append_right (by omega), hl, Nat.sub_self]
  rfl

/-- the value of a term of a list -/
def V (hv : List Int) (l : List Tm) (i : Nat) : Int := (evAll hv l []).getD i 0

theorem V_num {hv : List Int} {l : List Tm} {i : Nat} {t : Tm} (h : l[i]? = some t) (ho : t.op = 1) : V hv l i = t.v := by
  unfold V; rw [evAll_at h]; unfold evT; rw [if_pos ho]

theorem V_var {hv : List Int} {l : List Tm} {i : Nat} {t : Tm} (h : l[i]? = some t) (ho : t.op = 2) : V hv l i = hv.getD t.v.toNat 0 := by
  unfold V; rw [evAll_at h]; unfold evT; rw [if_neg (by omega), if_pos ho]

theorem V_op {hv : List Int} {l : List Tm} {i : Nat} {t : Tm} (h : l[i]? = some t) (ho : 3 ≤ t.op) (ha : t.a.toNat < i) (hb : t.b.toNat < i) : V hv l i = opv t.op (V hv l t.a.toNat) (V hv l t.b.toNat) := by
  have hi := (List.getElem?_eq_some_iff.1 h).1
  unfold V
  rw [evAll_at h]
  unfold evT
  rw [if_neg (by omega), if_neg (by omega), evAll_take ha (by omega), evAll_take hb (by omega)]

end Go.Proofs.Ytfhnhbkdhdocjaa
