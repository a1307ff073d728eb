/-
  Plain mathematics: the different things asked for, in the order in which they are first asked for.
-/
import Derived.Test.YtjnmohphinldkaaPureHoldP
namespace Go.Proofs.Ytjnmohphinldkaa
set_option linter.unusedSimpArgs false
set_option linter.unusedVariables false

/-- the different ones, first come first -/
def nmF : List Int → List Int → List Int
  | s, [] => s
  | s, r :: rs => if r ∈ s then nmF s rs else nmF (s ++ [r]) rs

theorem nmF_len : ∀ (rs s : List Int), (nmF s rs).length = s.length + newD s rs
  | [], s => rfl
  | r :: rs, s => by
    unfold nmF newD
    by_cases hr : r ∈ s
    · rw [if_pos hr, if_pos hr]
      exact nmF_len rs s
    · have hs : newD (s ++ [r]) rs = newD (r :: s) rs := newD_set fun x => by simp [or_comm]
      rw [if_neg hr, if_neg hr, nmF_len rs, hs, List.length_append, List.length_singleton]
      omega

theorem nmF_nodup : ∀ (rs s : List Int), s.Nodup → (nmF s rs).Nodup
  | [], s, h => h
  | r :: rs, s, h => by
    unfold nmF
    by_cases hr : r ∈ s
    · rw [if_pos hr]
      exact nmF_nodup rs s h
    · rw [if_neg hr]
      exact nmF_nodup rs _ (perm_nodup (snoc_perm _ _) (List.nodup_cons.2 ⟨hr, h⟩))

theorem nmF_mem : ∀ (rs s : List Int) (x : Int), x ∈ s ∨ x ∈ rs → x ∈ nmF s rs
  | [], s, x, h => h.resolve_right (by simp)
  | r :: rs, s, x, h => by
    unfold nmF
    by_cases hr : r ∈ s
    · rw [if_pos hr]
      refine nmF_mem rs s x ?_
      rcases h with h | h
      · exact .inl h
      · rcases List.mem_cons.1 h with e | h
        · exact .inl (by rw [e]; exact hr)
        · exact .inr h
    · rw [if_neg hr]
      refine nmF_mem rs _ x ?_
      rcases h with h | h
      · exact .inl (List.mem_append_left _ h)
      · rcases List.mem_cons.1 h with e | h
        · exact .inl (by rw [e]; simp)
        · exact .inr h

theorem nmF_in {s rs : List Int} {r : Int} (h : r ∈ s) : nmF s (r :: rs) = nmF s rs := by rw [nmF, if_pos h]

theorem nmF_new {s rs : List Int} {r : Int} (h : r ∉ s) : nmF s (r :: rs) = nmF (s ++ [r]) rs := by rw [nmF, if_neg h]

theorem nmF_le (rs : List Int) : (nmF [] rs).length ≤ rs.length := by
  have key : ∀ (rs s : List Int), newD s rs ≤ rs.length := by
    intro rs
    induction rs with
    | nil => exact fun s => Nat.le_refl _
    | cons r rs ih =>
      intro s
      unfold newD
      have h1 := ih s
      have h2 := ih (r :: s)
      split <;> simp <;> omega
  rw [nmF_len]
  have := key rs []
  simp
  omega

end Go.Proofs.Ytjnmohphinldkaa
