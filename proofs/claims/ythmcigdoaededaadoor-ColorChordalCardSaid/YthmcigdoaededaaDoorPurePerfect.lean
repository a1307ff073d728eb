/-
  Plain mathematics of the first perfect list and of the first coloring with k colors, found by search (O1, O2).
-/
import Derived.Test.YthmcigdoaededaaDoorPureColor
namespace Go.Proofs.YthmcigdoaededaaDoor
set_option linter.unusedSimpArgs false
set_option linter.unusedVariables false

section
variable {n : Nat} {ad : Nat → Nat → Bool}

/-- what of those not done i clashes with -/
def nbB (n : Nat) (ad : Nat → Nat → Bool) (done : List Nat) (i : Nat) : List Nat := (List.range n).filter fun j => !decide (j ∈ done) && ad i j

def simB (n : Nat) (ad : Nat → Nat → Bool) (done : List Nat) (i : Nat) : Bool := !decide (i ∈ done) && (nbB n ad done i).all fun j => (nbB n ad done i).all fun j' => j == j' || ad j j'

theorem nbB_mem {done : List Nat} {i j : Nat} : j ∈ nbB n ad done i ↔ j < n ∧ j ∉ done ∧ ad i j = true := by
  unfold nbB
  rw [List.mem_filter, List.mem_range]
  simp

theorem simB_iff {done : List Nat} {i : Nat} : simB n ad done i = true ↔ SimP n ad done i := by
  unfold simB SimP
  rw [Bool.and_eq_true, List.all_eq_true]
  simp only [List.all_eq_true, nbB_mem, Bool.not_eq_true', decide_eq_false_iff_not, Bool.or_eq_true, beq_iff_eq]
  constructor
  · rintro ⟨h1, h2⟩
    exact ⟨h1, fun j j' hj hj' hd hd' ha ha' hne => (h2 j ⟨hj, hd, ha⟩ j' ⟨hj', hd', ha'⟩).resolve_left hne⟩
  · rintro ⟨h1, h2⟩
    refine ⟨h1, fun j hj j' hj' => ?_⟩
    by_cases he : j = j'
    · exact .inl he
    · exact .inr (h2 j j' hj.1 hj'.1 hj.2.1 hj'.2.1 hj.2.2 hj'.2.2 he)

/-- the least that may come next -/
def simL (n : Nat) (ad : Nat → Nat → Bool) (done : List Nat) : Option Nat := (List.range n).find? (simB n ad done)

/-- the first perfect list that goes on so -/
def pfL (n : Nat) (ad : Nat → Nat → Bool) : Nat → List Nat → Option (List Nat)
  | 0, done => some done
  | m + 1, done => match simL n ad done with
    | none => none
    | some i => pfL n ad m (done ++ [i])

theorem simL_some {done : List Nat} {i : Nat} (h : simL n ad done = some i) : i < n ∧ simB n ad done i = true ∧ ∀ j, j < i → simB n ad done j = false := by
  unfold simL at h
  rw [List.find?_range_eq_some] at h
  exact ⟨List.mem_range.1 h.2.1, h.1, fun j hj => by simpa using h.2.2 j hj⟩

theorem simL_of {done : List Nat} {i : Nat} (hi : i < n) (h1 : simB n ad done i = true) (h2 : ∀ j, j < i → simB n ad done j = false) : simL n ad done = some i := by
  unfold simL
  rw [List.find?_range_eq_some]
  exact ⟨h1, List.mem_range.2 hi, fun j hj => by simp [h2 j hj]⟩

theorem simL_none {done : List Nat} (h : ∀ j, j < n → simB n ad done j = false) : simL n ad done = none := by
  unfold simL
  rw [List.find?_range_eq_none]
  intro j hj
  simp [h j hj]

/-- so far -/
structure PfI (n : Nat) (ad : Nat → Nat → Bool) (done : List Nat) : Prop where
  nd : done.Nodup
  lt : ∀ x ∈ done, x < n
  sim : ∀ t i, done[t]? = some i → SimP n ad (done.take t) i

theorem PfI.nil : PfI n ad [] := ⟨by simp, fun x h => absurd h (by simp), fun t i h => by simp at h⟩

theorem PfI.snoc {done : List Nat} (h : PfI n ad done) {i : Nat} (hi : i < n) (hs : SimP n ad done i) : PfI n ad (done ++ [i]) := by
  refine ⟨?_, fun x hx => ?_, fun t x hx => ?_⟩
  · rw [List.nodup_append]
    exact ⟨h.nd, by simp, fun a ha b hb e => by
      simp at hb
      subst hb
      rw [e] at ha
      exact hs.1 ha⟩
  · rcases List.mem_append.1 hx with h1 | h1
    · exact h.lt x h1
    · simp at h1
      rw [h1]
      exact hi
  · rcases Nat.lt_or_ge t done.length with h1 | h1
    · rw [List.getElem?_append_left h1] at hx
      rw [List.take_append_of_le_length (by omega)]
      exact h.sim t x hx
    · rw [List.getElem?_append_right h1] at hx
      have h2 : t = done.length := by
        rcases Nat.eq_or_lt_of_le h1 with h3 | h3
        · exact h3.symm
        · have h4 : t - done.length = (t - done.length - 1) + 1 := by omega
          rw [h4] at hx
          simp at hx
      subst h2
      simp at hx
      subst hx
      rw [List.take_left]
      exact hs

theorem pfL_perf : ∀ {m : Nat} {done l : List Nat}, PfI n ad done → done.length + m = n → pfL n ad m done = some l → PerfL n ad l
  | 0, done, l, h, hl, he => by
    injection he with he
    subst he
    refine ⟨⟨by omega, ?_⟩, h.sim⟩
    intro i hi
    refine Classical.byContradiction fun hn => ?_
    have := nodup_len (hs := i :: done) (n := n) (List.nodup_cons.2 ⟨hn, h.nd⟩) fun x hx => by
      rcases List.mem_cons.1 hx with h1 | h1
      · rw [h1]; exact hi
      · exact h.lt x h1
    rw [List.length_cons] at this
    omega
  | m + 1, done, l, h, hl, he => by
    unfold pfL at he
    cases hs : simL n ad done with
    | none => rw [hs] at he; cases he
    | some i =>
      rw [hs] at he
      obtain ⟨h1, h2, _⟩ := simL_some hs
      exact pfL_perf (h.snoc h1 (simB_iff.1 h2)) (by rw [List.length_append, List.length_singleton]; omega) he

/-! ### The first coloring with k colors -/

def okC (ad : Nat → Nat → Bool) (l : List Nat) (c : Nat) : Bool := (List.range l.length).all fun j => !(cof l j == c && ad j l.length)

def tryC (f : Nat → Option (List Nat)) : Nat → Nat → Option (List Nat)
  | 0, _ => none
  | j + 1, c => match f c with
    | some r => some r
    | none => tryC f j (c + 1)

def colG (ad : Nat → Nat → Bool) (k : Nat) : Nat → List Nat → Option (List Nat)
  | 0, l => some l
  | m + 1, l => tryC (fun c => if okC ad l c then colG ad k m (l ++ [c]) else none) k 0

theorem tryC_some {f : Nat → Option (List Nat)} {r : List Nat} : ∀ {j c : Nat}, tryC f j c = some r → ∃ d, c ≤ d ∧ d < c + j ∧ f d = some r ∧ ∀ e, c ≤ e → e < d → f e = none
  | 0, c, h => by cases h
  | j + 1, c, h => by
    unfold tryC at h
    cases hf : f c with
    | some q =>
      rw [hf] at h
      exact ⟨c, Nat.le_refl _, by omega, by rw [hf]; exact h, fun e h1 h2 => by omega⟩
    | none =>
      rw [hf] at h
      obtain ⟨d, h1, h2, h3, h4⟩ := tryC_some h
      refine ⟨d, by omega, by omega, h3, fun e h5 h6 => ?_⟩
      rcases Nat.eq_or_lt_of_le h5 with h7 | h7
      · rw [← h7]; exact hf
      · exact h4 e h7 h6

theorem tryC_none {f : Nat → Option (List Nat)} : ∀ {j c : Nat}, tryC f j c = none → ∀ d, c ≤ d → d < c + j → f d = none
  | 0, c, _, d, h1, h2 => by omega
  | j + 1, c, h, d, h1, h2 => by
    unfold tryC at h
    cases hf : f c with
    | some q => rw [hf] at h; cases h
    | none =>
      rw [hf] at h
      rcases Nat.eq_or_lt_of_le h1 with h7 | h7
      · rw [← h7]; exact hf
      · exact tryC_none h d h7 (by omega)

theorem okC_iff {l : List Nat} {c : Nat} : okC ad l c = true ↔ ∀ j, j < l.length → ad j l.length = true → cof l j ≠ c := by
  unfold okC
  rw [List.all_eq_true]
  constructor
  · intro h j hj ha he
    have := h j (List.mem_range.2 hj)
    rw [ha, he] at this
    simp at this
  · intro h j hj
    have hj := List.mem_range.1 hj
    cases ha : ad j l.length with
    | false => simp
    | true => simp [h j hj ha]

theorem cof_left {l r : List Nat} {i : Nat} (h : i < l.length) : cof (l ++ r) i = cof l i := by
  unfold cof
  rw [List.getD_eq_getElem?_getD, List.getD_eq_getElem?_getD, List.getElem?_append_left h]

theorem cof_snoc (l : List Nat) (c : Nat) : cof (l ++ [c]) l.length = c := cof_at (by rw [List.getElem?_append_right (Nat.le_refl _), Nat.sub_self]; rfl)

theorem kol_snoc {k : Nat} (hg : Gr ad) {l : List Nat} {c : Nat} (h : Kol l.length ad k (cof l)) (hc : c < k) (ho : okC ad l c = true) : Kol (l ++ [c]).length ad k (cof (l ++ [c])) := by
  rw [okC_iff] at ho
  refine ⟨fun i hi => ?_, fun i j hi hj ha => ?_⟩
  · have hi : i < (l ++ [c]).length := hi
    rw [List.length_append, List.length_singleton] at hi
    rcases Nat.lt_or_ge i l.length with h1 | h1
    · rw [cof_left h1]; exact h.lt i h1
    · have : i = l.length := by omega
      rw [this, cof_snoc]
      exact hc
  · have hi : i < (l ++ [c]).length := hi
    have hj : j < (l ++ [c]).length := hj
    rw [List.length_append, List.length_singleton] at hi hj
    rcases Nat.lt_or_ge i l.length with h1 | h1
    · rw [cof_left h1]
      rcases Nat.lt_or_ge j l.length with h2 | h2
      · rw [cof_left h2]; exact h.ne i j h1 h2 ha
      · have e : j = l.length := by omega
        rw [e, cof_snoc]
        rw [e] at ha
        exact ho i h1 ha
    · have e : i = l.length := by omega
      rw [e, cof_snoc]
      rcases Nat.lt_or_ge j l.length with h2 | h2
      · rw [cof_left h2]
        rw [e] at ha
        exact fun he => ho j h2 (hg.symm _ _ ha) he.symm
      · exact absurd (show i = j by omega) (hg.ne ha)

/-- a coloring that goes on from l -/
def Ons (ad : Nat → Nat → Bool) (k m : Nat) (l r : List Nat) : Prop := r.length = l.length + m ∧ Kol (l.length + m) ad k (cof r) ∧ r.take l.length = l

theorem Ons.next {k m : Nat} {l r : List Nat} (h : Ons ad k (m + 1) l r) : ∃ c, c < k ∧ r[l.length]? = some c ∧ okC ad l c = true ∧ Ons ad k m (l ++ [c]) r := by
  obtain ⟨h1, h2, h3⟩ := h
  have hlt : l.length < r.length := by omega
  have hg := cof_get hlt
  have hle : ∀ j, j < l.length → cof r j = cof l j := fun j hj => by
    rw [← h3]
    unfold cof
    rw [List.getD_eq_getElem?_getD, List.getD_eq_getElem?_getD, List.getElem?_take, if_pos hj]
  refine ⟨cof r l.length, h2.lt _ (by omega), hg, okC_iff.2 fun j hj ha => ?_, ?_, ?_, ?_⟩
  · rw [← hle j hj]
    exact h2.ne j l.length (by omega) (by omega) ha
  · rw [List.length_append, List.length_singleton]; omega
  · rw [List.length_append, List.length_singleton]
    have e : l.length + 1 + m = l.length + (m + 1) := by omega
    rw [e]
    exact h2
  · rw [List.length_append, List.length_singleton, List.take_add_one, hg, h3]
    rfl

theorem colG_none (hg : Gr ad) : ∀ {k m : Nat} {l : List Nat}, Kol l.length ad k (cof l) → colG ad k m l = none → ∀ r, ¬ Ons ad k m l r
  | k, 0, l, _, h, _, _ => by cases h
  | k, m + 1, l, hk, h, r, hr => by
    obtain ⟨c, hc, hrc, ho, hn⟩ := hr.next
    have h1 : (if okC ad l c then colG ad k m (l ++ [c]) else none) = none := tryC_none h c (Nat.zero_le _) (by omega)
    rw [if_pos ho] at h1
    exact colG_none hg (kol_snoc hg hk hc ho) h1 r hn

theorem colG_some (hg : Gr ad) : ∀ {k m : Nat} {l r : List Nat}, Kol l.length ad k (cof l) → colG ad k m l = some r → Ons ad k m l r ∧ ∀ q, Ons ad k m l q → LexLe r q
  | k, 0, l, r, hk, h => by
    injection h with h
    subst h
    refine ⟨⟨rfl, hk, List.take_length⟩, fun q hq => .inl ?_⟩
    have := hq.2.2
    rw [List.take_of_length_le (by rw [hq.1]; exact Nat.le_refl _)] at this
    exact this.symm
  | k, m + 1, l, r, hk, h => by
    obtain ⟨c, _, hck, hf, hbefore⟩ := tryC_some h
    have hck : c < k := by omega
    have hf : (if okC ad l c then colG ad k m (l ++ [c]) else none) = some r := hf
    have ho : okC ad l c = true := by
      cases ho : okC ad l c with
      | true => rfl
      | false => rw [ho] at hf; cases hf
    rw [if_pos ho] at hf
    obtain ⟨h1, h2⟩ := colG_some hg (kol_snoc hg hk hck ho) hf
    obtain ⟨g1, g2, g3⟩ := h1
    rw [List.length_append, List.length_singleton] at g1 g2 g3
    have e : l.length + 1 + m = l.length + (m + 1) := by omega
    have hrl : r.take l.length = l := by
      have : (r.take (l.length + 1)).take l.length = (l ++ [c]).take l.length := by rw [g3]
      rw [List.take_take, List.take_left] at this
      rwa [Nat.min_eq_left (by omega)] at this
    have hrc : r[l.length]? = some c := by
      have : (r.take (l.length + 1))[l.length]? = (l ++ [c])[l.length]? := by rw [g3]
      rw [List.getElem?_take, if_pos (by omega), List.getElem?_append_right (Nat.le_refl _), Nat.sub_self] at this
      exact this
    refine ⟨⟨by omega, by rw [← e]; exact g2, hrl⟩, fun q hq => ?_⟩
    obtain ⟨d, hd, hqd, hod, hnd⟩ := hq.next
    rcases Nat.lt_trichotomy c d with h3 | h3 | h3
    · refine .inr ⟨l.length, fun j hj => ?_, c, d, hrc, hqd, h3⟩
      have h4 : (r.take l.length)[j]? = (q.take l.length)[j]? := by rw [hrl, hq.2.2]
      rwa [List.getElem?_take, List.getElem?_take, if_pos hj, if_pos hj] at h4
    · subst h3
      exact h2 q hnd
    · exfalso
      have h4 : (if okC ad l d then colG ad k m (l ++ [d]) else none) = none := hbefore d (Nat.zero_le _) h3
      rw [if_pos hod] at h4
      exact colG_none hg (kol_snoc hg hk hd hod) h4 q hnd

theorem Ons.of {k : Nat} {r : List Nat} (hl : r.length = n) (h : Kol n ad k (cof r)) : Ons ad k n [] r := ⟨by simp [hl], by simpa using h, rfl⟩

theorem kol_nil (k : Nat) : Kol ([] : List Nat).length ad k (cof []) := ⟨fun i hi => absurd hi (by simp), fun i j hi => absurd hi (by simp)⟩

theorem kol_list {k : Nat} {c : Nat → Nat} (h : Kol n ad k c) : Kol n ad k (cof ((List.range n).map c)) := by
  have e : ∀ i, i < n → cof ((List.range n).map c) i = c i := fun i hi => cof_at (by simp [hi])
  refine ⟨fun i hi => ?_, fun i j hi hj ha => ?_⟩
  · rw [e i hi]; exact h.lt i hi
  · rw [e i hi, e j hj]; exact h.ne i j hi hj ha

theorem kol_more {k k' : Nat} {c : Nat → Nat} (h : Kol n ad k c) (hk : k ≤ k') : Kol n ad k' c := ⟨fun i hi => Nat.lt_of_lt_of_le (h.lt i hi) hk, h.ne⟩

/-- found with k, with no number before it: the first of those with the fewest -/
theorem colG_least (hg : Gr ad) {k : Nat} {l : List Nat} (h : colG ad k n [] = some l) (hno : ∀ k', k' < k → colG ad k' n [] = none) : LeastC n ad k l := by
  obtain ⟨h1, h2⟩ := colG_some hg (kol_nil k) h
  have hl : l.length = n := by simpa using h1.1
  refine ⟨hl, by simpa using h1.2.1, fun k' c hc => ?_, fun r hr hk => h2 r (Ons.of hr hk)⟩
  rcases Nat.lt_or_ge k' k with h3 | h3
  · exact absurd (Ons.of (n := n) (by simp) (kol_list hc)) (colG_none hg (kol_nil k') (hno k' h3) _)
  · exact h3

/-- none with k: more are wanted -/
theorem colG_more (hg : Gr ad) {k K : Nat} {l : List Nat} (h : colG ad k n [] = none) (hK : LeastC n ad K l) : k < K := by
  rcases Nat.lt_or_ge k K with h1 | h1
  · exact h1
  · exact absurd (Ons.of hK.len (kol_more hK.kol h1)) (colG_none hg (kol_nil k) h _)

end

end Go.Proofs.YthmcigdoaededaaDoor
