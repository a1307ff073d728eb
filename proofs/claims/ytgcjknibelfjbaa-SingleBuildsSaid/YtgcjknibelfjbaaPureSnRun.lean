/-
  Plain mathematics of a named program's run (M1), step by step: no program's text.
-/
import Derived.Test.YtgcjknibelfjbaaMPure
namespace Go.Proofs.Ytgcjknibelfjbaa
set_option linter.unusedSimpArgs false
set_option linter.unusedVariables false

theorem runN_zero (l : List Sg) (i : Nat) (last : Int) (v : List Int) : runN l 0 i last v = none := rfl

theorem runN_step {l : List Sg} {f i : Nat} {last : Int} {v row : List Int} {s : Sg} (hs : l[i]? = some s) (hr : (frP l)[i]? = some row) :
    runN l (f + 1) i last v = if goB (bareS s) (doS s.code (jnsS v last row s.joins v)) = -1 then some (s.last.map fun n => (doS s.code (jnsS v last row s.joins v)).getD n.toNat 0)
      else runN l f (goB (bareS s) (doS s.code (jnsS v last row s.joins v))).toNat (i : Int) (doS s.code (jnsS v last row s.joins v)) := by
  have e1 : l.getD i ⟨[], [], -1, -1, 0, []⟩ = s := by rw [List.getD_eq_getElem?_getD, hs]; rfl
  have e2 : (frP l).getD i [] = row := by rw [List.getD_eq_getElem?_getD, hr]; rfl
  rw [runN]
  simp only [e1, e2]

/-- what joins read and write are names -/
theorem jnS_len (v : List Int) (last : Int) (to : Nat) : ∀ (ss ns w : List Int), (jnS v last to ss ns w).length = w.length
  | [], _, _ => by unfold jnS; rfl
  | _ :: _, [], _ => by unfold jnS; rfl
  | f :: ss, n :: ns, w => by rw [jnS, jnS_len v last to ss ns]; split <;> simp

/-- a checked block's end, as a block's -/
theorem SgOk.bare {vars n k : Nat} {s : Sg} (h : SgOk vars n k s) : BkOk 128 n (bareS s) := by
  obtain ⟨_, h1, h2, h3, _, _, _⟩ := h
  exact ⟨rfl, by simp only [bareS]; omega, h2, h3⟩

/-- from where one comes: the beginning to 0, a block to those with which it goes on -/
theorem frG_zero {nx : List (List Int)} {row : List Int} (h : (frG nx)[0]? = some row) : row[0]? = some (-1) := by
  unfold frG at h
  split at h
  · simp at h
  · simp at h
    subst h
    rfl

theorem turnG_at {nx : List (List Int)} {j : Nat} (h : j < nx.length) : (turnG nx)[j]? = some (ni ((List.range nx.length).filter fun i => decide (j ∈ sc nx i))) := by
  unfold turnG
  rw [List.getElem?_map, List.getElem?_range h]
  rfl

theorem frG_row {nx : List (List Int)} {j : Nat} {row : List Int} (h : (frG nx)[j]? = some row) : row = (if j = 0 then [-1] else []) ++ ni ((List.range nx.length).filter fun i => decide (j ∈ sc nx i)) := by
  have hj : j < nx.length := by rw [← frG_len nx]; exact (List.getElem?_eq_some_iff.1 h).1
  have ht := turnG_at hj
  unfold frG at h
  split at h
  · simp at h
  · rename_i r t e
    rw [e] at ht
    cases j with
    | zero =>
      simp at h ht
      rw [← h, ht]
      simp
    | succ j =>
      simp only [List.getElem?_cons_succ] at h ht
      rw [ht] at h
      injection h with h
      rw [← h]
      simp

theorem frG_mem {nx : List (List Int)} {j : Nat} {row : List Int} (h : (frG nx)[j]? = some row) {f : Int} : f ∈ row ↔ (j = 0 ∧ f = -1) ∨ ∃ i : Nat, f = (i : Int) ∧ i < nx.length ∧ j ∈ sc nx i := by
  rw [frG_row h, List.mem_append]
  constructor
  · rintro (h1 | h1)
    · split at h1
      · rename_i h0; exact .inl ⟨h0, by simpa using h1⟩
      · cases h1
    · obtain ⟨i, hi, rfl⟩ := List.mem_map.1 h1
      rw [List.mem_filter, List.mem_range, decide_eq_true_eq] at hi
      exact .inr ⟨i, rfl, hi.1, hi.2⟩
  · rintro (⟨h0, rfl⟩ | ⟨i, rfl, h1, h2⟩)
    · left; rw [if_pos h0]; exact List.mem_singleton_self _
    · right
      exact List.mem_map.2 ⟨i, by rw [List.mem_filter, List.mem_range, decide_eq_true_eq]; exact ⟨h1, h2⟩, rfl⟩

theorem ni_nodup : ∀ {l : List Nat}, l.Nodup → (ni l).Nodup
  | [], _ => List.nodup_nil
  | x :: l, h => by
    rw [List.nodup_cons] at h
    show ((x : Int) :: ni l).Nodup
    rw [List.nodup_cons]
    refine ⟨fun hm => ?_, ni_nodup h.2⟩
    obtain ⟨y, hy, e⟩ := List.mem_map.1 hm
    have : y = x := by omega
    exact h.1 (this ▸ hy)

theorem frG_nodup {nx : List (List Int)} {j : Nat} {row : List Int} (h : (frG nx)[j]? = some row) : row.Nodup := by
  rw [frG_row h]
  have hn : (ni ((List.range nx.length).filter fun i => decide (j ∈ sc nx i))).Nodup := ni_nodup (List.nodup_range.filter _)
  split
  · show ((-1 : Int) :: _).Nodup
    rw [List.nodup_cons]
    refine ⟨fun hm => ?_, hn⟩
    obtain ⟨i, _, e⟩ := List.mem_map.1 hm
    omega
  · exact hn

/-- one goes on to a block which this one is a source of -/
theorem next_src {l : List Sg} {vars k i j : Nat} {s : Sg} {row v : List Int} (hs : l[i]? = some s) (hok : SgOk vars l.length k s) (hj : goB (bareS s) v = (j : Int)) (hr : (frP l)[j]? = some row) : (i : Int) ∈ row := by
  have h1 := goB_nx hok.bare hj
  have hil := (List.getElem?_eq_some_iff.1 hs).1
  have hn : (nxP (bareP l))[i]? = some (nxB (bareS s)) := by
    unfold nxP bareP
    rw [List.getElem?_map, List.getElem?_map, hs]
    rfl
  refine (frG_mem hr).2 (.inr ⟨i, rfl, by simp [nxP, bareP]; exact hil, ?_⟩)
  rw [sc_at hn]
  exact List.mem_map.2 ⟨_, h1, by simp⟩

theorem frP_get {l : List Sg} {j : Nat} (h : j < l.length) : ∃ row, (frP l)[j]? = some row := ⟨_, List.getElem?_eq_getElem (by rw [frP_len]; exact h)⟩

/-- what names have at the beginning -/
theorem beginS_ok {n : Nat} {hv : List Int} (h : ValsOk n hv) (hn : n ≤ 128) : ValsOk 128 (beginS hv) := by
  unfold beginS
  refine ⟨by simp [h.1]; omega, fun j x hx => ?_⟩
  rw [List.getElem?_append] at hx
  split at hx
  · exact h.2 j x hx
  · rw [List.getElem?_replicate] at hx
    split at hx
    · injection hx with hx; omega
    · cases hx

end Go.Proofs.Ytgcjknibelfjbaa
