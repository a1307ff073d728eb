/-
  Plain mathematics of tasks taken by a list (Q1): turn by turn the first that may be done.
-/
import Derived.Test.YthmcigdoaededaaPurePlanB
namespace Go.Proofs.Ythmcigdoaededaa
set_option linter.unusedSimpArgs false
set_option linter.unusedVariables false

/-- may i be done, where those are? -/
def mayB (ps : List (Nat × Nat)) (done : List Nat) (i : Nat) : Bool := decide (i ∉ done) && ps.all fun p => decide (p.2 ≠ i ∨ p.1 ∈ done)

theorem mayB_iff {ps : List (Nat × Nat)} {done : List Nat} {i : Nat} : mayB ps done i = true ↔ i ∉ done ∧ ∀ a, (a, i) ∈ ps → a ∈ done := by
  unfold mayB
  rw [Bool.and_eq_true, decide_eq_true_eq, List.all_eq_true]
  constructor
  · rintro ⟨h1, h2⟩
    exact ⟨h1, fun a ha => by
      have := of_decide_eq_true (h2 (a, i) ha)
      exact this.resolve_left (by simp)⟩
  · rintro ⟨h1, h2⟩
    exact ⟨h1, fun p hp => decide_eq_true (by
      by_cases he : p.2 = i
      · exact .inr (h2 p.1 (by rw [← he]; exact hp))
      · exact .inl he)⟩

/-- what is done in one turn: the first of the list that may be, no more than the hands -/
def nowL (m : Nat) (ps : List (Nat × Nat)) (od done : List Nat) : List Nat := (od.filter (mayB ps done)).take m

/-- one more of the list looked at -/
theorem nowL_step {m : Nat} {ps : List (Nat × Nat)} {od done : List Nat} {k i : Nat} (h : od[k]? = some i) : nowL m ps (od.take (k + 1)) done = if mayB ps done i = true ∧ (nowL m ps (od.take k) done).length < m then nowL m ps (od.take k) done ++ [i] else nowL m ps (od.take k) done := by
  unfold nowL
  rw [List.take_add_one, h, Option.toList_some, List.filter_append, List.take_append]
  cases hb : mayB ps done i with
  | false => simp [hb]
  | true =>
    rw [List.filter_cons_of_pos (by simpa using hb), List.filter_nil, List.length_take]
    by_cases hl : ((od.take k).filter (mayB ps done)).length < m
    · rw [if_pos ⟨rfl, by omega⟩, List.take_of_length_le (l := [i]) (by simp; omega)]
    · rw [if_neg (by rintro ⟨_, h2⟩; omega), show m - ((od.take k).filter (mayB ps done)).length = 0 by omega]
      simp

/-- turn by turn -/
inductive Trn (m : Nat) (ps : List (Nat × Nat)) (od : List Nat) : List Nat → List (List Nat) → Prop
  | stop {done} : od.length ≤ done.length → Trn m ps od done []
  | go {done T} : done.length < od.length → Trn m ps od (done ++ nowL m ps od done) T → Trn m ps od done (nowL m ps od done :: T)

theorem Trn.same {m : Nat} {ps : List (Nat × Nat)} {od done : List Nat} {T T' : List (List Nat)} (h : Trn m ps od done T) : Trn m ps od done T' → T = T' := by
  induction h generalizing T' with
  | stop h1 =>
    intro h'
    cases h' with
    | stop => rfl
    | go h2 => omega
  | go h1 _ ih =>
    intro h'
    cases h' with
    | stop h2 => omega
    | go _ h3 => rw [ih h3]

/-- in which turn -/
def turnOf : List (List Nat) → Nat → Nat
  | [], _ => 0
  | a :: T, i => if i ∈ a then 0 else turnOf T i + 1

/-- those that are not done, of one turn -/
def ofT (n : Nat) (T : List (List Nat)) (done : List Nat) (u : Nat) : List Nat := (List.range n).filter fun i => decide (i ∉ done ∧ turnOf T i = u)

theorem mem_ofT {n u i : Nat} {T : List (List Nat)} {done : List Nat} : i ∈ ofT n T done u ↔ i < n ∧ i ∉ done ∧ turnOf T i = u := by
  unfold ofT
  rw [List.mem_filter, List.mem_range, decide_eq_true_eq]

theorem ofT_nodup {n u : Nat} {T : List (List Nat)} {done : List Nat} : (ofT n T done u).Nodup := List.nodup_range.sublist List.filter_sublist

structure TrnI (n m : Nat) (ps : List (Nat × Nat)) (od done : List Nat) (T : List (List Nat)) : Prop where
  fin : ∀ i, i < n → i ∉ done → turnOf T i < T.length
  few : ∀ u, (ofT n T done u).length ≤ m
  some : ∀ u, u < T.length → ∃ i, i ∈ ofT n T done u
  bef : ∀ a b, a < n → (a, b) ∈ ps → b < n → b ∉ done → a ∈ done ∨ turnOf T a < turnOf T b
  full : ∀ u i, i < n → i ∉ done → u < turnOf T i → (∀ p, (p, i) ∈ ps → p ∈ done ∨ turnOf T p < u) → (ofT n T done u).length = m ∧ ∀ R : Nat → Nat → Prop, od.Pairwise R → ∀ j, j ∈ ofT n T done u → R j i

/-- a list of all tasks, each once; chains do not close -/
structure Ord (n m : Nat) (ps : List (Nat × Nat)) (od : List Nat) : Prop where
  nd : od.Nodup
  mem : ∀ i, i ∈ od ↔ i < n
  lt : ∀ p ∈ ps, p.1 < n ∧ p.2 < n
  lev : ∃ l, Lev n (fun a b => (a, b) ∈ ps) l
  hands : 1 ≤ m

theorem Ord.len {n m : Nat} {ps : List (Nat × Nat)} {od : List Nat} (h : Ord n m ps od) : od.length = n := by
  have h1 := sub_len h.nd (b := List.range n) fun i hi => List.mem_range.2 ((h.mem i).1 hi)
  have h2 := sub_len List.nodup_range (b := od) fun i hi => (h.mem i).2 (List.mem_range.1 hi)
  rw [List.length_range] at h1 h2
  omega

/-- what is done so far -/
structure DoneI (n : Nat) (ps : List (Nat × Nat)) (done : List Nat) : Prop where
  nd : done.Nodup
  lt : ∀ i ∈ done, i < n
  down : ∀ a b, (a, b) ∈ ps → b ∈ done → a ∈ done

theorem DoneI.nil (n : Nat) (ps : List (Nat × Nat)) : DoneI n ps [] := ⟨List.nodup_nil, by simp, by simp⟩

theorem mem_nowL {m i : Nat} {ps : List (Nat × Nat)} {od done : List Nat} (h : i ∈ nowL m ps od done) : i ∈ od ∧ mayB ps done i = true := List.mem_filter.1 (List.mem_of_mem_take h)

theorem DoneI.next {n m : Nat} {ps : List (Nat × Nat)} {od done : List Nat} (ho : Ord n m ps od) (h : DoneI n ps done) : DoneI n ps (done ++ nowL m ps od done) := by
  refine ⟨?_, fun i hi => ?_, fun a b hp hb => ?_⟩
  · rw [List.nodup_append]
    exact ⟨h.nd, (ho.nd.sublist List.filter_sublist).sublist (List.take_sublist _ _), fun a ha b hb e => (mayB_iff.1 (mem_nowL hb).2).1 (e ▸ ha)⟩
  · rcases List.mem_append.1 hi with hi | hi
    · exact h.lt i hi
    · exact (ho.mem i).1 (mem_nowL hi).1
  · rcases List.mem_append.1 hb with hb | hb
    · exact List.mem_append_left _ (h.down a b hp hb)
    · exact List.mem_append_left _ ((mayB_iff.1 (mem_nowL hb).2).2 a hp)

/-- in each turn something is done -/
theorem nowL_some {n m : Nat} {ps : List (Nat × Nat)} {od done : List Nat} (ho : Ord n m ps od) (h : DoneI n ps done) (hl : done.length < n) : ∃ i, i ∈ nowL m ps od done := by
  obtain ⟨l, hL⟩ := ho.lev
  have hx : ∃ i, i < n ∧ (setW done).testBit i = false := by
    refine Classical.byContradiction fun hno => ?_
    have h1 := sub_len (b := done) List.nodup_range fun i hi => by
      refine Classical.byContradiction fun h2 => hno ⟨i, List.mem_range.1 hi, ?_⟩
      rw [Bool.eq_false_iff]
      exact fun h3 => h2 (setW_bit.1 h3)
    rw [List.length_range] at h1
    omega
  obtain ⟨i, hi, hd, hp⟩ := may_some hL hx
  have hok : i ∈ od.filter (mayB ps done) := List.mem_filter.2 ⟨(ho.mem i).2 hi, mayB_iff.2 ⟨fun h2 => (by rw [setW_bit.2 h2] at hd; cases hd), fun a ha => setW_bit.1 (hp a (ho.lt _ ha).1 ha)⟩⟩
  unfold nowL
  cases hf : od.filter (mayB ps done) with
  | nil => rw [hf] at hok; cases hok
  | cons x t =>
    obtain ⟨q, hq⟩ : ∃ q, m = q + 1 := ⟨m - 1, by have := ho.hands; omega⟩
    rw [hq, List.take_succ_cons]
    exact ⟨x, by simp⟩

theorem trn_ex {n m : Nat} {ps : List (Nat × Nat)} {od : List Nat} (ho : Ord n m ps od) : ∀ (q : Nat) (done : List Nat), DoneI n ps done → n ≤ done.length + q → ∃ T, Trn m ps od done T
  | 0, done, h, hq => ⟨[], .stop (by rw [ho.len]; omega)⟩
  | q + 1, done, h, hq => by
    rcases Nat.lt_or_ge done.length n with hl | hl
    · obtain ⟨i, hi⟩ := nowL_some ho h hl
      have := List.length_pos_of_mem hi
      obtain ⟨T, hT⟩ := trn_ex ho q (done ++ nowL m ps od done) (h.next ho) (by rw [List.length_append]; omega)
      exact ⟨_, .go (by rw [ho.len]; exact hl) hT⟩
    · exact ⟨[], .stop (by rw [ho.len]; exact hl)⟩

theorem Trn.info {n m : Nat} {ps : List (Nat × Nat)} {od done : List Nat} {T : List (List Nat)} (ho : Ord n m ps od) (h : Trn m ps od done T) : DoneI n ps done → TrnI n m ps od done T := by
  induction h with
  | @stop done hs =>
    intro hd
    have hall : ∀ i, i < n → i ∈ done := fun i hi => by
      refine Classical.byContradiction fun h2 => ?_
      have h3 := sub_len (a := i :: done) (b := List.range n) (List.nodup_cons.2 ⟨h2, hd.nd⟩) fun x hx => by
        rcases List.mem_cons.1 hx with e | hx
        · subst e; exact List.mem_range.2 hi
        · exact List.mem_range.2 (hd.lt x hx)
      rw [List.length_range, List.length_cons] at h3
      rw [ho.len] at hs
      omega
    have h0 : ∀ u, ofT n [] done u = [] := fun u => List.filter_eq_nil_iff.2 fun i hi => by simp [hall i (List.mem_range.1 hi)]
    exact ⟨fun i hi h2 => absurd (hall i hi) h2, fun u => by rw [h0]; exact Nat.zero_le _, fun u hu => absurd hu (by simp), fun a b _ _ hb h2 => absurd (hall b hb) h2, fun u i hi h2 => absurd (hall i hi) h2⟩
  | @go done T hl hT ih =>
    intro hd
    have I := ih (hd.next ho)
    have hnd : (nowL m ps od done).Nodup := (ho.nd.sublist List.filter_sublist).sublist (List.take_sublist _ _)
    have hnm : (nowL m ps od done).length ≤ m := by unfold nowL; rw [List.length_take]; omega
    have hnot : ∀ i, i ∈ nowL m ps od done → i ∉ done ∧ i < n := fun i hi => ⟨(mayB_iff.1 (mem_nowL hi).2).1, (ho.mem i).1 (mem_nowL hi).1⟩
    have ht0 : ∀ i, i ∈ nowL m ps od done → turnOf (nowL m ps od done :: T) i = 0 := fun i hi => if_pos hi
    have ht1 : ∀ i, i ∉ nowL m ps od done → turnOf (nowL m ps od done :: T) i = turnOf T i + 1 := fun i hi => if_neg hi
    have hz : ∀ i, i ∈ ofT n (nowL m ps od done :: T) done 0 ↔ i ∈ nowL m ps od done := fun i => by
      rw [mem_ofT]
      constructor
      · rintro ⟨_, _, h3⟩
        refine Classical.byContradiction fun h4 => ?_
        rw [ht1 i h4] at h3
        omega
      · exact fun h => ⟨(hnot i h).2, (hnot i h).1, ht0 i h⟩
    have hs : ∀ u i, i ∈ ofT n (nowL m ps od done :: T) done (u + 1) ↔ i ∈ ofT n T (done ++ nowL m ps od done) u := fun u i => by
      rw [mem_ofT, mem_ofT, List.mem_append, not_or]
      by_cases h : i ∈ nowL m ps od done
      · rw [ht0 i h]
        exact ⟨fun h2 => absurd h2.2.2 (by omega), fun h2 => absurd h h2.2.1.2⟩
      · rw [ht1 i h]
        exact ⟨fun h2 => ⟨h2.1, ⟨h2.2.1, h⟩, by omega⟩, fun h2 => ⟨h2.1, h2.2.1.1, by omega⟩⟩
    have hz2 : (ofT n (nowL m ps od done :: T) done 0).length = (nowL m ps od done).length := Nat.le_antisymm (sub_len ofT_nodup fun i hi => (hz i).1 hi) (sub_len hnd fun i hi => (hz i).2 hi)
    have hs2 : ∀ u, (ofT n (nowL m ps od done :: T) done (u + 1)).length = (ofT n T (done ++ nowL m ps od done) u).length := fun u => Nat.le_antisymm (sub_len ofT_nodup fun i hi => (hs u i).1 hi) (sub_len ofT_nodup fun i hi => (hs u i).2 hi)
    refine ⟨fun i hi h2 => ?_, fun u => ?_, fun u hu => ?_, fun a b ha hp hb h2 => ?_, fun u i hi h2 hu hav => ?_⟩
    · by_cases h : i ∈ nowL m ps od done
      · rw [ht0 i h]; simp
      · rw [ht1 i h, List.length_cons]
        have := I.fin i hi (by rw [List.mem_append, not_or]; exact ⟨h2, h⟩)
        omega
    · cases u with
      | zero => rw [hz2]; exact hnm
      | succ u => rw [hs2]; exact I.few u
    · cases u with
      | zero =>
        obtain ⟨i, hi⟩ := nowL_some ho hd (by rw [← ho.len]; exact hl)
        exact ⟨i, (hz i).2 hi⟩
      | succ u =>
        obtain ⟨i, hi⟩ := I.some u (by rw [List.length_cons] at hu; omega)
        exact ⟨i, (hs u i).2 hi⟩
    · by_cases h : b ∈ nowL m ps od done
      · exact .inl ((mayB_iff.1 (mem_nowL h).2).2 a hp)
      · by_cases ha2 : a ∈ done
        · exact .inl ha2
        · right
          rw [ht1 b h]
          by_cases ha3 : a ∈ nowL m ps od done
          · rw [ht0 a ha3]; omega
          · rw [ht1 a ha3]
            rcases I.bef a b ha hp hb (by rw [List.mem_append, not_or]; exact ⟨h2, h⟩) with h4 | h4
            · exact absurd h4 (by rw [List.mem_append, not_or]; exact ⟨ha2, ha3⟩)
            · omega
    · have hin : i ∉ nowL m ps od done := fun h => by rw [ht0 i h] at hu; omega
      cases u with
      | zero =>
        have hok : i ∈ od.filter (mayB ps done) := List.mem_filter.2 ⟨(ho.mem i).2 hi, mayB_iff.2 ⟨h2, fun a ha => (hav a ha).resolve_right (by omega)⟩⟩
        have hdrop : i ∈ (od.filter (mayB ps done)).drop m := by
          have := List.take_append_drop m (od.filter (mayB ps done))
          rw [← this] at hok
          exact (List.mem_append.1 hok).resolve_left hin
        have hlen : m < (od.filter (mayB ps done)).length := by
          have := List.length_pos_of_mem hdrop
          rw [List.length_drop] at this
          omega
        refine ⟨?_, fun R hR j hj => ?_⟩
        · rw [hz2]; unfold nowL; rw [List.length_take]; omega
        · have h5 := List.Pairwise.sublist List.filter_sublist hR (l₁ := od.filter (mayB ps done))
          rw [← List.take_append_drop m (od.filter (mayB ps done)), List.pairwise_append] at h5
          exact h5.2.2 j ((hz j).1 hj) i hdrop
      | succ u =>
        rw [ht1 i hin] at hu
        obtain ⟨h6, h7⟩ := I.full u i hi (by rw [List.mem_append, not_or]; exact ⟨h2, hin⟩) (by omega) fun p hp => by
          rcases hav p hp with h8 | h8
          · exact .inl (List.mem_append_left _ h8)
          · by_cases h9 : p ∈ nowL m ps od done
            · exact .inl (List.mem_append_right _ h9)
            · rw [ht1 p h9] at h8
              exact .inr (by omega)
        exact ⟨by rw [hs2]; exact h6, fun R hR j hj => h7 R hR j ((hs u j).1 hj)⟩

/-- the plan of a list: no hand rests while a task may be done -/
theorem Trn.grd {n m : Nat} {ps : List (Nat × Nat)} {od : List Nat} {T : List (List Nat)} (ho : Ord n m ps od) (h : Trn m ps od [] T) : Grd n m (fun a b => (a, b) ∈ ps) T.length (turnOf T) := by
  have I := h.info ho (DoneI.nil n ps)
  have he : ∀ u, ofT n T [] u = atL (turnOf T) u (List.range n) := fun u => by
    unfold ofT atL
    apply List.filter_congr
    intro i _
    simp
  refine ⟨⟨fun i hi => I.fin i hi (by simp), fun a b ha hb hp => (I.bef a b ha hp hb (by simp)).resolve_left (by simp), fun t => by rw [← he]; exact I.few t⟩, fun t ht => ?_, fun t i hi ht hav => ?_⟩
  · obtain ⟨i, hi⟩ := I.some t ht
    obtain ⟨h1, _, h2⟩ := mem_ofT.1 hi
    exact ⟨i, h1, h2⟩
  · rw [← he]
    exact (I.full t i hi (by simp) ht fun p hp => .inr (hav p (ho.lt _ hp).1 hp)).1

/-- by falling levels -/
theorem Trn.fall {n m : Nat} {ps : List (Nat × Nat)} {od : List Nat} {T : List (List Nat)} {l : Nat → Nat} (ho : Ord n m ps od) (h : Trn m ps od [] T) (hl : od.Pairwise fun a b => l b ≤ l a) : Fall n (fun a b => (a, b) ∈ ps) (turnOf T) l := by
  have I := h.info ho (DoneI.nil n ps)
  intro t i j hav ht hj hjt
  exact (I.full t i hav.1 (by simp) ht fun p hp => .inr (hav.2.2 p (ho.lt _ hp).1 hp)).2 _ hl j (mem_ofT.2 ⟨hj, by simp, hjt⟩)

end Go.Proofs.Ythmcigdoaededaa
