/-
  term.Fold: the list combined and pruned, or the code of a list that is none.
-/
import Derived.Test.YtacokdghfkpdpaaPrune
import Derived.Test.YtacokdghfkpdpaaTermCheck
namespace Go.Proofs.Ytacokdghfkpdpaa
open Go.RowKit
set_option linter.unusedSimpArgs false
set_option linter.unusedVariables false
set_option maxRecDepth 100000

/-- what term.Fold makes of a list that keeps A1 -/
def foldL (l : List Tm) : List Tm := prL (combL l)

theorem combL_at : ∀ {l : List Tm} {i : Nat} {t : Tm}, l[i]? = some t → (combL l)[i]? = some (combT t (combL (l.take i))) := by
  intro l i t h
  obtain ⟨hi, rfl⟩ := List.getElem?_eq_some_iff.1 h
  have hk : ∀ n, i < n → n ≤ l.length → (combL (l.take n))[i]? = some (combT l[i] (combL (l.take i))) := by
    intro n
    induction n with
    | zero => intro h; omega
    | succ n ih =>
      intro h1 h2
      rw [List.take_succ_eq_append_getElem (by omega), combL_snoc]
      have hl : (combL (l.take n)).length = n := by rw [combL_len, List.length_take]; omega
      by_cases hin : i = n
      · subst hin
        rw [List.getElem?_append_right (by omega), hl, Nat.sub_self]
        rfl
      · rw [List.getElem?_append_left (by omega)]
        exact ih (by omega) (by omega)
  have := hk l.length hi (Nat.le_refl _)
  rwa [List.take_length] at this

theorem combT_ck {vars : Int} {k : Nat} {t : Tm} {bf : List Tm} (h : ckTerm vars k t.op t.a t.b t.v = 0) : ckTerm vars k (combT t bf).op (combT t bf).a (combT t bf).b (combT t bf).v = 0 := by
  have hc := ckTerm_cases h
  unfold combT
  split
  · simp only []
    unfold ckTerm
    (repeat' split) <;> omega
  · split
    · have := opv_bd t.op (bf.getD t.a.toNat tz).v (bf.getD t.b.toNat tz).v
      simp only []
      unfold ckTerm
      (repeat' split) <;> omega
    · simp only []
      unfold ckTerm
      (repeat' split) <;> omega

theorem combL_ck {vars : Int} {l : List Tm} (hc : ckTerms vars l = 0) : ckTerms vars (combL l) = 0 := by
  obtain ⟨h1, h2, h3, h4⟩ := ckTerms_bd hc
  refine ckTerms_of h1 h2 (by rw [combL_len]; exact h3) (by rw [combL_len]; exact h4) fun i t ht => ?_
  have hi : i < l.length := by
    have := (List.getElem?_eq_some_iff.1 ht).1
    rwa [combL_len] at this
  have hd := List.getElem?_eq_getElem hi
  rw [combL_at hd] at ht
  injection ht with ht
  subst ht
  exact combT_ck (ckTerms_at hc hd)

set_option maxHeartbeats 4000000 in
theorem fold_any (vars : Int) (A : Option Addr) (len cap : Nat) (l : List Tm) (w : World) (hx : RdT w w.heap.size A l) (hl : l.length = len) (hc : ckTerms vars l = 0) :
    Calls Try.prog 9 #[.int .i64 vars, .slice A len cap] w fun e w' => ∃ A' c', e = .returned (.tuple #[.slice A' (foldL l).length c', .int .i64 0]) ∧ RdT w' w'.heap.size A' (foldL l) ∧ Below w.heap.size w w' := by
  have HL := Lib.hid hl
  have HC := Lib.hid hc
  clear hl hc
  go_enter Try.func9, Try.ntmps9
  go_wp2_with fail
  refine (check_any vars A len cap l _ hx HL.out).mono ?_
  rintro e w1 ⟨rfl, hb1⟩
  rw [HC.out]
  go_wp2_with fail
  refine (combine_any vars A len cap l _ ((hx.below hb1 (Nat.le_refl _)).more hb1.size) HL.out HC.out).mono ?_
  rintro e w2 ⟨rfl, hown, hb2⟩
  have hrd := OwnT.rd hown
  go_wp2_with fail
  refine (prune_any vars (some ⟨w1.heap.size, 0, none⟩) len len (combL l) _ (hrd.more (Own.lt hown)) (by rw [combL_len, HL.out]) (combL_ck HC.out)).mono ?_
  rintro e w3 ⟨A3, c3, rfl, hrd3, hb3⟩
  go_wp2
  go_returns
  exact ⟨A3, c3, rfl, hrd3, (hb1.trans (hb2.mono hb1.size)).trans (hb3.mono (Nat.le_trans hb1.size hb2.size))⟩

end Go.Proofs.Ytacokdghfkpdpaa
