/-
  Plain mathematics of color.Greedy (O1): colors given one by one, -1 where there is none yet; the least color that is free.
-/
import Derived.Test.YthmcigdoaededaaDoorPureColorP
import Derived.Lib.TrailingZeros
namespace Go.Proofs.YthmcigdoaededaaDoor
set_option linter.unusedSimpArgs false
set_option linter.unusedVariables false

/-- a thing's color, 0 where there is none -/
def czf (cs : List Int) (v : Nat) : Nat := (cs.getD v 0).toNat

theorem czf_at {cs : List Int} {v c : Nat} (h : cs[v]? = some (c : Int)) : czf cs v = c := by unfold czf; rw [List.getD_eq_getElem?_getD, h]; rfl

/-- the first t of the order have their colors -/
structure GvnI (n : Nat) (ad : Nat → Nat → Bool) (o : List Nat) (t : Nat) (cs : List Int) : Prop where
  len : cs.length = n
  no : ∀ v : Nat, v < n → v ∉ o.take t → cs[v]? = some (-1)
  has : ∀ v : Nat, v ∈ o.take t → ∃ c : Nat, cs[v]? = some (c : Int) ∧ c < 8
  ne : ∀ s i : Nat, s < t → o[s]? = some i → ∀ j ∈ o.take s, ad i j = true → czf cs j ≠ czf cs i
  low : ∀ s i : Nat, s < t → o[s]? = some i → ∀ c, c < czf cs i → ∃ j ∈ o.take s, ad i j = true ∧ czf cs j = c

theorem GvnI.zero (n : Nat) (ad : Nat → Nat → Bool) (o : List Nat) : GvnI n ad o 0 (List.replicate n (-1)) := by
  refine ⟨List.length_replicate, fun v hv _ => by simp [hv], fun v hv => by simp at hv, fun s i h => by omega, fun s i h => by omega⟩

theorem GvnI.cells {n t : Nat} {ad : Nat → Nat → Bool} {o : List Nat} {cs : List Int} (h : GvnI n ad o t cs) : ∀ x ∈ cs, x = -1 ∨ 0 ≤ x ∧ x < 8 := fun x hx => by
  obtain ⟨v, hv⟩ := List.getElem?_of_mem hx
  have hvn : v < n := by rw [← h.len]; exact (List.getElem?_eq_some_iff.1 hv).1
  by_cases hm : v ∈ o.take t
  · obtain ⟨c, hc, hc8⟩ := h.has v hm
    rw [hv] at hc
    injection hc with hc
    exact .inr (by omega)
  · have := h.no v hvn hm
    rw [hv] at this
    injection this with this
    exact .inl this

theorem ord_not {n t i : Nat} {o : List Nat} (ho : OrdK n o) (h : o[t]? = some i) : i ∉ o.take t := by
  intro hm
  have hsp : o = o.take t ++ i :: o.drop (t + 1) := by rw [← drop_at h, List.take_append_drop]
  have hnd := ho.nodup.1
  rw [hsp] at hnd
  exact (List.nodup_append.1 hnd).2.2 _ hm _ List.mem_cons_self rfl

/-- a color more -/
theorem GvnI.put {n t i W s c : Nat} {ad : Nat → Nat → Bool} {o : List Nat} {cs : List Int} (h : GvnI n ad o t cs) (ho : OrdK n o) (hn : n ≤ 8) (hi : o[t]? = some i) (hW : ∀ j, W.testBit j = ad i j) (hT : TakN W cs n s)
    (hf : s.testBit c = false) (hl : ∀ d, d < c → s.testBit d = true) : c < 8 ∧ GvnI n ad o (t + 1) (cs.set i (c : Int)) := by
  have hnot := ord_not ho hi
  have hin : i < n := ho.nodup.2 i (List.mem_of_getElem? hi)
  have htk : o.take (t + 1) = o.take t ++ [i] := by rw [List.take_add_one, hi]; rfl
  have htl : t < o.length := (List.getElem?_eq_some_iff.1 hi).1
  have hlow : ∀ d, d < c → ∃ j ∈ o.take t, ad i j = true ∧ czf cs j = d := fun d hd => by
    obtain ⟨v, hv, hb, hc⟩ := (hT.bit d).1 (hl d hd)
    have hm : v ∈ o.take t := Classical.byContradiction fun hm => by
      rw [h.no v hv hm] at hc
      injection hc with hc
      omega
    exact ⟨v, hm, by rw [← hW]; exact hb, czf_at hc⟩
  have hfree : ∀ j ∈ o.take t, ad i j = true → czf cs j ≠ c := fun j hj ha he => by
    obtain ⟨d, hd, hd8⟩ := h.has j hj
    have hjn : j < n := ho.nodup.2 j (List.mem_of_mem_take hj)
    have hdc : d = c := by rw [← he, czf_at hd]
    subst hdc
    have := (hT.bit d).2 ⟨j, hjn, by rw [hW]; exact ha, hd⟩
    rw [hf] at this
    cases this
  have hc8 : c < 8 := by
    have := all_len (k := c) (xs := (o.take t).map (czf cs)) fun d hd => by
      obtain ⟨j, hj, _, he⟩ := hlow d hd
      exact List.mem_map.2 ⟨j, hj, he⟩
    rw [List.length_map, List.length_take] at this
    have := ho.len
    omega
  have hset : ∀ v, v ≠ i → (cs.set i (c : Int))[v]? = cs[v]? := fun v hv => by rw [List.getElem?_set, if_neg fun e => hv e.symm]
  have hczi : czf (cs.set i (c : Int)) i = c := czf_at (by rw [List.getElem?_set, if_pos rfl, if_pos (by rw [h.len]; exact hin)])
  have hcz : ∀ v, v ≠ i → czf (cs.set i (c : Int)) v = czf cs v := fun v hv => by unfold czf; rw [List.getD_eq_getElem?_getD, List.getD_eq_getElem?_getD, hset v hv]
  have hne : ∀ j ∈ o.take t, j ≠ i := fun j hj e => hnot (by rw [← e]; exact hj)
  refine ⟨hc8, by rw [List.length_set]; exact h.len, fun v hv hm => ?_, fun v hm => ?_, fun s' i' hs hi' j hj ha => ?_, fun s' i' hs hi' d hd => ?_⟩
  · rw [htk, List.mem_append, List.mem_singleton, not_or] at hm
    rw [hset v hm.2]
    exact h.no v hv hm.1
  · rw [htk, List.mem_append, List.mem_singleton] at hm
    by_cases hv : v = i
    · subst hv
      exact ⟨c, by rw [List.getElem?_set, if_pos rfl, if_pos (by rw [h.len]; exact hin)], hc8⟩
    · rw [hset v hv]
      exact h.has v (hm.resolve_right hv)
  · rcases Nat.lt_or_ge s' t with h1 | h1
    · have hji : j ≠ i := hne j (List.mem_of_mem_take (i := s') (by rw [List.take_take, Nat.min_eq_left (by omega)]; exact hj))
      have hii : i' ≠ i := hne i' (mem_take_of hi' h1)
      rw [hcz _ hji, hcz _ hii]
      exact h.ne s' i' h1 hi' j hj ha
    · have he : s' = t := by omega
      subst he
      rw [hi] at hi'
      injection hi' with hi'
      subst hi'
      rw [hcz _ (hne j hj), hczi]
      exact hfree j hj ha
  · rcases Nat.lt_or_ge s' t with h1 | h1
    · have hii : i' ≠ i := hne i' (mem_take_of hi' h1)
      rw [hcz _ hii] at hd
      obtain ⟨j, hj, ha, he⟩ := h.low s' i' h1 hi' d hd
      have hji : j ≠ i := hne j (List.mem_of_mem_take (i := s') (by rw [List.take_take, Nat.min_eq_left (by omega)]; exact hj))
      exact ⟨j, hj, ha, by rw [hcz _ hji]; exact he⟩
    · have he : s' = t := by omega
      subst he
      rw [hi] at hi'
      injection hi' with hi'
      subst hi'
      rw [hczi] at hd
      obtain ⟨j, hj, ha, he⟩ := hlow d hd
      exact ⟨j, hj, ha, by rw [hcz _ (hne j hj)]; exact he⟩

/-- all have their colors -/
theorem GvnI.done {n : Nat} {ad : Nat → Nat → Bool} {o : List Nat} {cs : List Int} (h : GvnI n ad o n cs) (ho : OrdK n o) : ∃ l : List Nat, cs = l.map (fun x : Nat => (x : Int)) ∧ GrdC n ad o l := by
  have hol : o.take n = o := List.take_of_length_le (by rw [ho.len]; exact Nat.le_refl _)
  have hall : ∀ x ∈ cs, 0 ≤ x := fun x hx => by
    obtain ⟨v, hv⟩ := List.getElem?_of_mem hx
    have hvn : v < n := by rw [← h.len]; exact (List.getElem?_eq_some_iff.1 hv).1
    obtain ⟨c, hc, _⟩ := h.has v (by rw [hol]; exact ho.all v hvn)
    rw [hv] at hc
    injection hc with hc
    omega
  have he : cs = (cs.map Int.toNat).map (fun x : Nat => (x : Int)) := by
    rw [List.map_map]
    have : cs.map ((fun x : Nat => (x : Int)) ∘ Int.toNat) = cs.map id := List.map_congr_left fun x hx => by
      have := hall x hx
      simp only [Function.comp, id]
      omega
    rw [this, List.map_id]
  have hcof : ∀ v, cof (cs.map Int.toNat) v = czf cs v := fun v => by
    unfold cof czf
    rw [List.getD_eq_getElem?_getD, List.getD_eq_getElem?_getD, List.getElem?_map]
    cases cs[v]? <;> rfl
  refine ⟨cs.map Int.toNat, he, by rw [List.length_map]; exact h.len, fun t i ht j hj ha => ?_, fun t i ht c hc => ?_⟩
  · have htl := (List.getElem?_eq_some_iff.1 ht).1
    rw [hcof, hcof]
    exact h.ne t i (by rw [← ho.len]; exact htl) ht j hj ha
  · have htl := (List.getElem?_eq_some_iff.1 ht).1
    rw [hcof] at hc
    obtain ⟨j, hj, ha, he⟩ := h.low t i (by rw [← ho.len]; exact htl) ht c hc
    exact ⟨j, hj, ha, by rw [hcof]; exact he⟩

/-- the least bit that is not set: how many zero bits the other word ends in -/
theorem ctz_free : ∀ s : Fin 256, Lib.ctz 32 (4294967295 - s.val) < 9 ∧ s.val.testBit (Lib.ctz 32 (4294967295 - s.val)) = false ∧ ∀ d : Fin 9, d.val < Lib.ctz 32 (4294967295 - s.val) → s.val.testBit d.val = true := by decide +kernel

theorem ctz_least {s : Nat} (hs : s < 256) : s.testBit (Lib.ctz 32 (4294967295 - s)) = false ∧ ∀ d, d < Lib.ctz 32 (4294967295 - s) → s.testBit d = true := by
  obtain ⟨h1, h2, h3⟩ := ctz_free ⟨s, hs⟩
  exact ⟨h2, fun d hd => h3 ⟨d, by simp only at h1; omega⟩ hd⟩

end Go.Proofs.YthmcigdoaededaaDoor
