/-
  Plain mathematics of the reference's two rules: what is there, and when each came or was asked for (P1).
-/
import Derived.Test.YtjnmohphinldkaaPureHoldP
namespace Go.Proofs.Ytjnmohphinldkaa
set_option linter.unusedSimpArgs false
set_option linter.unusedVariables false

def polC (b : Bool) (p : Nat) (c : List Int) (r : Int) : List Int := if b then lruC p c r else fifoC p c r

def polG (b : Bool) (p : Nat) (c rs : List Int) : Nat := if b then lruG p c rs else fifoG p c rs

theorem polG_cons (b : Bool) (p : Nat) (c : List Int) (r : Int) (rs : List Int) : polG b p c (r :: rs) = lruM c r + polG b p (polC b p c r) rs := by cases b <;> rfl

theorem set_perm {α : Type} : ∀ {L : List α} {i : Nat} {s s' : α}, L[i]? = some s → (L.set i s').Perm (s' :: L.eraseIdx i) ∧ L.Perm (s :: L.eraseIdx i)
  | [], i, s, s', h => by simp at h
  | x :: t, 0, s, s', h => by
    have : x = s := by simpa using h
    subst this
    exact ⟨by simp, by simp⟩
  | x :: t, i + 1, s, s', h => by
    obtain ⟨h1, h2⟩ := set_perm (s' := s') (show t[i]? = some s by simpa using h)
    rw [List.set_cons_succ, List.eraseIdx_cons_succ]
    exact ⟨(h1.cons x).trans (List.Perm.swap _ _ _), (h2.cons x).trans (List.Perm.swap _ _ _)⟩

theorem map_erase_fst : ∀ {S : List (Int × Nat)} {s : Int × Nat}, s ∈ S → (S.map Prod.fst).Nodup → (S.erase s).map Prod.fst = (S.map Prod.fst).erase s.1
  | y :: t, s, h, hd => by
    rw [List.map_cons, List.nodup_cons] at hd
    by_cases hy : y = s
    · subst hy
      rw [List.erase_cons_head, List.map_cons, List.erase_cons_head]
    · have hs : s ∈ t := (List.mem_cons.1 h).resolve_left (fun e => hy e.symm)
      have hne : y.1 ≠ s.1 := fun e => hd.1 (by rw [e]; exact List.mem_map.2 ⟨s, hs, rfl⟩)
      rw [List.erase_cons_tail (by simpa using hy), List.map_cons, List.map_cons, List.erase_cons_tail (by simpa using hne), map_erase_fst hs hd.2]

/-- what is there, with what stands by it, and so many misses, ahead of the k-th -/
def RefI (b : Bool) (p : Nat) (refs : List Int) (k : Nat) (L : List (Int × Nat)) (m : Nat) : Prop :=
  ∃ S : List (Int × Nat), L.Perm S ∧ S.Pairwise (fun x y => x.2 < y.2) ∧ (∀ s ∈ S, s.2 < k) ∧ (S.map Prod.fst).Nodup ∧ S.length ≤ p ∧ m + polG b p (S.map Prod.fst) (refs.drop k) = polG b p [] refs

theorem RefI.start (b : Bool) (p : Nat) (refs : List Int) : RefI b p refs 0 [] 0 := ⟨[], List.Perm.refl _, List.Pairwise.nil, by simp, by simp, by simp, by simp⟩

theorem RefI.fin {b : Bool} {p : Nat} {refs : List Int} {L : List (Int × Nat)} {m : Nat} (h : RefI b p refs refs.length L m) : m = polG b p [] refs := by
  obtain ⟨S, _, _, _, _, _, h⟩ := h
  rw [List.drop_length] at h
  cases b <;> exact h

theorem RefI.small {b : Bool} {p k : Nat} {refs : List Int} {L : List (Int × Nat)} {m : Nat} (h : RefI b p refs k L m) : L.length ≤ p ∧ ∀ s ∈ L, s.2 < k := by
  obtain ⟨S, h1, _, h3, _, h5, _⟩ := h
  exact ⟨by rw [h1.length_eq]; exact h5, fun s hs => h3 s (h1.mem_iff.1 hs)⟩

theorem mem_fst {L S : List (Int × Nat)} (h : L.Perm S) (r : Int) : r ∈ L.map Prod.fst ↔ r ∈ S.map Prod.fst := (h.map Prod.fst).mem_iff

theorem RefI.same {p k m : Nat} {refs : List Int} {L : List (Int × Nat)} {r : Int} (h : RefI false p refs k L m) (hr : refs[k]? = some r) (hm : r ∈ L.map Prod.fst) : RefI false p refs (k + 1) L m := by
  obtain ⟨S, h1, h2, h3, h4, h5, h6⟩ := h
  refine ⟨S, h1, h2, fun s hs => Nat.lt_succ_of_lt (h3 s hs), h4, h5, ?_⟩
  have hm2 := (mem_fst h1 r).1 hm
  rw [drop_ref hr, polG_cons, lruM, if_pos hm2, Nat.zero_add, show polC false p (S.map Prod.fst) r = S.map Prod.fst from if_pos hm2] at h6
  exact h6

theorem RefI.again {p k m i t : Nat} {refs : List Int} {L : List (Int × Nat)} {r : Int} (h : RefI true p refs k L m) (hr : refs[k]? = some r) (hi : L[i]? = some (r, t)) : RefI true p refs (k + 1) (L.set i (r, k)) m := by
  obtain ⟨S, h1, h2, h3, h4, h5, h6⟩ := h
  obtain ⟨q1, q2⟩ := set_perm (s' := (r, k)) hi
  have hs : (r, t) ∈ S := h1.mem_iff.1 (List.mem_of_getElem? hi)
  have hsub : (S.erase (r, t)).Sublist S := List.erase_sublist
  have hm2 : r ∈ S.map Prod.fst := List.mem_map.2 ⟨_, hs, rfl⟩
  have hme := map_erase_fst hs h4
  refine ⟨S.erase (r, t) ++ [(r, k)], ?_, ?_, ?_, ?_, ?_, ?_⟩
  · have q3 : (L.eraseIdx i).Perm (S.erase (r, t)) := List.Perm.cons_inv (a := (r, t)) ((q2.symm.trans h1).trans (List.perm_cons_erase hs))
    exact (q1.trans (q3.cons _)).trans (List.perm_append_comm (l₁ := S.erase (r, t)) (l₂ := [(r, k)])).symm
  · rw [List.pairwise_append]
    exact ⟨List.Pairwise.sublist hsub h2, List.pairwise_singleton _ _, fun x hx y hy => by rw [List.mem_singleton.1 hy]; exact h3 x (hsub.subset hx)⟩
  · intro s hs2
    rcases List.mem_append.1 hs2 with h7 | h7
    · exact Nat.lt_succ_of_lt (h3 s (hsub.subset h7))
    · rw [List.mem_singleton.1 h7]; exact Nat.lt_succ_self k
  · rw [List.map_append, hme]
    exact perm_nodup (snoc_perm _ _) (List.nodup_cons.2 ⟨List.Nodup.not_mem_erase h4, h4.erase _⟩)
  · rw [List.length_append, List.length_erase_of_mem hs, List.length_singleton]
    have := List.length_pos_of_mem hs
    omega
  · rw [drop_ref hr, polG_cons, lruM, if_pos hm2, Nat.zero_add, show polC true p (S.map Prod.fst) r = (S.map Prod.fst).erase r ++ [r] from if_pos hm2] at h6
    rw [List.map_append, hme]
    exact h6

theorem RefI.room {b : Bool} {p k m : Nat} {refs : List Int} {L : List (Int × Nat)} {r : Int} (h : RefI b p refs k L m) (hr : refs[k]? = some r) (hm : r ∉ L.map Prod.fst) (hl : L.length ≠ p) : RefI b p refs (k + 1) (L ++ [(r, k)]) (m + 1) := by
  obtain ⟨S, h1, h2, h3, h4, h5, h6⟩ := h
  have hm2 : r ∉ S.map Prod.fst := fun e => hm ((mem_fst h1 r).2 e)
  have hlt : S.length < p := by have := h1.length_eq; omega
  refine ⟨S ++ [(r, k)], List.Perm.append_right _ h1, ?_, ?_, ?_, by simp; omega, ?_⟩
  · rw [List.pairwise_append]
    exact ⟨h2, List.pairwise_singleton _ _, fun x hx y hy => by rw [List.mem_singleton.1 hy]; exact h3 x hx⟩
  · intro s hs2
    rcases List.mem_append.1 hs2 with h7 | h7
    · exact Nat.lt_succ_of_lt (h3 s h7)
    · rw [List.mem_singleton.1 h7]; exact Nat.lt_succ_self k
  · rw [List.map_append]
    exact perm_nodup (snoc_perm _ _) (List.nodup_cons.2 ⟨hm2, h4⟩)
  · have hp : polC b p (S.map Prod.fst) r = S.map Prod.fst ++ [r] := by
      unfold polC lruC fifoC
      rw [if_neg hm2, if_neg hm2, List.length_map, if_pos hlt]
      cases b <;> rfl
    rw [drop_ref hr, polG_cons, lruM, if_neg hm2, hp] at h6
    rw [List.map_append, ← h6]
    simp only [List.map_cons, List.map_nil]
    omega

theorem RefI.out {b : Bool} {p k m i t : Nat} {refs : List Int} {L : List (Int × Nat)} {r x : Int} (h : RefI b p refs k L m) (hr : refs[k]? = some r) (hm : r ∉ L.map Prod.fst) (hl : L.length = p) (hi : L[i]? = some (x, t)) (ht : ∀ s ∈ L, t ≤ s.2) : RefI b p refs (k + 1) (L.set i (r, k)) (m + 1) := by
  obtain ⟨S, h1, h2, h3, h4, h5, h6⟩ := h
  obtain ⟨q1, q2⟩ := set_perm (s' := (r, k)) hi
  have hs : (x, t) ∈ S := h1.mem_iff.1 (List.mem_of_getElem? hi)
  have hm2 : r ∉ S.map Prod.fst := fun e => hm ((mem_fst h1 r).2 e)
  have hlt : S.length = p := by rw [← h1.length_eq]; exact hl
  cases S with
  | nil => simp at hs
  | cons y T =>
    have hy : (x, t) = y := by
      rcases List.mem_cons.1 hs with e | e
      · exact e
      · have g1 := (List.pairwise_cons.1 h2).1 _ e
        have g2 := ht y (h1.mem_iff.2 (by simp))
        simp only at g1
        omega
    subst hy
    have hd := h4
    rw [List.map_cons, List.nodup_cons] at hd
    have hrT : r ∉ T.map Prod.fst := fun e => hm2 (by rw [List.map_cons]; exact List.mem_cons_of_mem _ e)
    refine ⟨T ++ [(r, k)], ?_, ?_, ?_, ?_, by simp at hlt ⊢; omega, ?_⟩
    · have q3 : (L.eraseIdx i).Perm T := List.Perm.cons_inv (a := (x, t)) (q2.symm.trans h1)
      exact (q1.trans (q3.cons _)).trans (List.perm_append_comm (l₁ := T) (l₂ := [(r, k)])).symm
    · rw [List.pairwise_append]
      exact ⟨(List.pairwise_cons.1 h2).2, List.pairwise_singleton _ _, fun x hx y hy => by rw [List.mem_singleton.1 hy]; exact h3 x (List.mem_cons_of_mem _ hx)⟩
    · intro s hs2
      rcases List.mem_append.1 hs2 with h7 | h7
      · exact Nat.lt_succ_of_lt (h3 s (List.mem_cons_of_mem _ h7))
      · rw [List.mem_singleton.1 h7]; exact Nat.lt_succ_self k
    · rw [List.map_append]
      exact perm_nodup (snoc_perm _ _) (List.nodup_cons.2 ⟨hrT, hd.2⟩)
    · have hp : polC b p (((x, t) :: T).map Prod.fst) r = T.map Prod.fst ++ [r] := by
        unfold polC lruC fifoC
        have hnl : ¬ ((x, t) :: T).length < p := by omega
        rw [if_neg hm2, if_neg hm2, List.length_map, if_neg hnl]
        cases b <;> rfl
      rw [drop_ref hr, polG_cons, lruM, if_neg hm2, hp] at h6
      rw [List.map_append, ← h6]
      simp only [List.map_cons, List.map_nil]
      omega

end Go.Proofs.Ytjnmohphinldkaa
