/-
  Plain mathematics of the fewest turns, by all that can have been done after each turn; the parts of a word in falling order (Q1).
-/
import Derived.Test.YthmcigdoaededaaPlanReady
import Derived.Test.YthmcigdoaededaaFewSize
namespace Go.Proofs.Ythmcigdoaededaa
set_option linter.unusedSimpArgs false
set_option linter.unusedVariables false

/-! ### parts of a word -/

/-- S is a part of R -/
def SubW (S R : Nat) : Prop := ∀ i, S.testBit i = true → R.testBit i = true

theorem SubW.and {S R : Nat} (h : SubW S R) : S &&& R = S := Nat.eq_of_testBit_eq fun i => by
  rw [Nat.testBit_and]
  cases hs : S.testBit i with
  | false => rfl
  | true => rw [h i hs]; rfl

theorem SubW.le {S R : Nat} (h : SubW S R) : S ≤ R := by
  rw [← h.and]
  exact Nat.and_le_right

theorem SubW.half {S R : Nat} (h : SubW S R) : SubW (S / 2) (R / 2) := fun i hi => by
  rw [Nat.testBit_div_two] at hi ⊢
  exact h _ hi

theorem SubW.low {S R : Nat} (h : SubW S R) : S % 2 ≤ R % 2 := by
  have := h 0
  rw [Nat.testBit_zero, Nat.testBit_zero] at this
  simp only [decide_eq_true_eq] at this
  omega

theorem sub_and (a R : Nat) : SubW (a &&& R) R := fun i hi => by
  rw [Nat.testBit_and, Bool.and_eq_true] at hi
  exact hi.2

theorem and_two (a b : Nat) : (a &&& b) % 2 = if a % 2 = 1 ∧ b % 2 = 1 then 1 else 0 := by
  have h : (a &&& b).testBit 0 = (a.testBit 0 && b.testBit 0) := Nat.testBit_and a b 0
  rw [Nat.testBit_zero, Nat.testBit_zero, Nat.testBit_zero] at h
  by_cases hc : a % 2 = 1 ∧ b % 2 = 1
  · rw [if_pos hc]
    rw [decide_eq_true hc.1, decide_eq_true hc.2] at h
    exact of_decide_eq_true h
  · rw [if_neg hc]
    have : ¬ (a &&& b) % 2 = 1 := fun h3 => by
      rw [decide_eq_true h3] at h
      have h4 := Bool.and_eq_true_iff.1 h.symm
      exact hc ⟨of_decide_eq_true h4.1, of_decide_eq_true h4.2⟩
    omega

theorem and_half (a b : Nat) : (a &&& b) / 2 = a / 2 &&& b / 2 := Nat.eq_of_testBit_eq fun i => by
  rw [Nat.testBit_div_two, Nat.testBit_and, Nat.testBit_and, Nat.testBit_div_two, Nat.testBit_div_two]

/-- the next part below c is the greatest one -/
theorem sub_next : ∀ (q : Nat) {c S R : Nat}, c ≤ q → SubW c R → SubW S R → S < c → S ≤ (c - 1) &&& R
  | 0, c, S, R, hq, _, _, h => by omega
  | q + 1, c, S, R, hq, hc, hS, h => by
    have e1 := and_half (c - 1) R
    have e2 := and_two (c - 1) R
    have l1 := hc.low
    have l2 := hS.low
    by_cases hodd : c % 2 = 1
    · have h1 : (c - 1) / 2 = c / 2 := by omega
      rw [h1, (hc.half).and] at e1
      omega
    · have h1 : (c - 1) / 2 = c / 2 - 1 := by omega
      have h2 : S / 2 < c / 2 := by omega
      have h3 := sub_next q (c := c / 2) (by omega) hc.half hS.half h2
      rw [h1] at e1
      have h4 : (c - 1) % 2 = 1 := by omega
      by_cases hr : R % 2 = 1
      · rw [if_pos ⟨h4, hr⟩] at e2
        omega
      · rw [if_neg fun h => hr h.2] at e2
        omega

theorem sub_next_lt {c R : Nat} (h : c ≠ 0) : (c - 1) &&& R < c := by
  have := Nat.and_le_left (n := c - 1) (m := R)
  omega

/-! ### how many -/

theorem szW_list (S : Nat) : ∀ n, szW S n = ((List.range n).filter fun i => S.testBit i).length
  | 0 => rfl
  | n + 1 => by
    rw [List.range_succ, List.filter_append, List.length_append, ← szW_list S n, szW]
    cases h : S.testBit n with
    | true => rw [List.filter_cons_of_pos (by simpa using h)]; rfl
    | false => rw [List.filter_cons_of_neg (by simp [h])]; rfl

/-! ### turn by turn -/

/-- one turn: what is done after it -/
def StepTo (n m : Nat) (ps : List (Nat × Nat)) (D W : Nat) : Prop := ∃ S, SubW S (rdW n ps D) ∧ 0 < S ∧ szW S 8 ≤ m ∧ W = D ||| S

/-- what can have been done after t turns -/
inductive RchT (n m : Nat) (ps : List (Nat × Nat)) : Nat → Nat → Prop
  | start : RchT n m ps 0 0
  | step {t D W : Nat} : RchT n m ps t D → StepTo n m ps D W → RchT n m ps (t + 1) W

theorem rch_zero {n m W : Nat} {ps : List (Nat × Nat)} : RchT n m ps 0 W ↔ W = 0 :=
  ⟨fun h => by cases h; rfl, fun h => by subst h; exact .start⟩

theorem rch_succ {n m t W : Nat} {ps : List (Nat × Nat)} : RchT n m ps (t + 1) W ↔ ∃ D, RchT n m ps t D ∧ StepTo n m ps D W :=
  ⟨fun h => by cases h with | step h1 h2 => exact ⟨_, h1, h2⟩, fun ⟨_, h1, h2⟩ => .step h1 h2⟩

theorem RchT.lt {n m t W : Nat} {ps : List (Nat × Nat)} (h : RchT n m ps t W) : W < 2 ^ n := by
  induction h with
  | start => exact Nat.two_pow_pos n
  | step _ h2 ih =>
    obtain ⟨S, h3, _, _, rfl⟩ := h2
    exact Nat.or_lt_two_pow ih (Nat.lt_of_le_of_lt h3.le (rdW_lt _ _ _))

theorem can_more {n m D S t : Nat} {pr : Nat → Nat → Prop} (hS : ∀ i, S.testBit i = true → MayW n pr D i) (hl : ((List.range n).filter fun i => S.testBit i).length ≤ m) (h : Can n m pr (D ||| S) t) : Can n m pr D (t + 1) := by
  obtain ⟨f, h1, h2, h3⟩ := h
  refine ⟨fun i => if S.testBit i = true then 0 else f i + 1, fun i hi hD => ?_, fun a b ha hb hp hDa hDb => ?_, fun u => ?_⟩
  · show (if S.testBit i = true then 0 else f i + 1) < t + 1
    cases hs : S.testBit i with
    | true => rw [if_pos rfl]; omega
    | false =>
      have := h1 i hi (by rw [Nat.testBit_or, hD, hs]; rfl)
      rw [if_neg (by simp)]
      omega
  · show (if S.testBit a = true then 0 else f a + 1) < (if S.testBit b = true then 0 else f b + 1)
    cases hsb : S.testBit b with
    | true =>
      have := (hS b hsb).2.2 a ha hp
      rw [this] at hDa
      cases hDa
    | false =>
      cases hsa : S.testBit a with
      | true => rw [if_pos rfl, if_neg (by simp)]; omega
      | false =>
        have := h2 a b ha hb hp (by rw [Nat.testBit_or, hDa, hsa]; rfl) (by rw [Nat.testBit_or, hDb, hsb]; rfl)
        rw [if_neg (by simp), if_neg (by simp)]
        omega
  · cases u with
    | zero =>
      refine Nat.le_trans (sub_len (atL_nodup (unL_nodup n D)) fun i hi => ?_) hl
      obtain ⟨h4, h5⟩ := mem_atL.1 hi
      cases hs : S.testBit i with
      | true => exact List.mem_filter.2 ⟨List.mem_range.2 (mem_unL.1 h4).1, hs⟩
      | false => simp [hs] at h5
    | succ u =>
      refine Nat.le_trans (sub_len (atL_nodup (unL_nodup n D)) fun i hi => ?_) (h3 u)
      obtain ⟨h4, h5⟩ := mem_atL.1 hi
      obtain ⟨h6, h7⟩ := mem_unL.1 h4
      cases hs : S.testBit i with
      | true => simp [hs] at h5
      | false =>
        simp [hs] at h5
        exact mem_atL.2 ⟨mem_unL.2 ⟨h6, by rw [Nat.testBit_or, h7, hs]; rfl⟩, h5⟩

theorem rd_MayW {n D i : Nat} {ps : List (Nat × Nat)} (hin : ∀ p ∈ ps, p.1 < n ∧ p.2 < n) : (rdW n ps D).testBit i = true ↔ MayW n (fun a b => (a, b) ∈ ps) D i := by
  rw [rdW_bit, mayE_iff]
  exact ⟨fun ⟨h1, h2, h3⟩ => ⟨h1, h2, fun p _ hp => h3 p hp⟩, fun ⟨h1, h2, h3⟩ => ⟨h1, h2, fun a ha => h3 a (hin _ ha).1 ha⟩⟩

theorem szW_8 {n S : Nat} (hn : n ≤ 8) (h : S < 2 ^ n) : szW S 8 = szW S n := by
  have := szW_moreF h (8 - n)
  rwa [show n + (8 - n) = 8 by omega] at this

/-- what was done turn by turn is a plan -/
theorem RchT.can {n m t D : Nat} {ps : List (Nat × Nat)} (hn : n ≤ 8) (hin : ∀ p ∈ ps, p.1 < n ∧ p.2 < n) (h : RchT n m ps t D) : ∀ k, Can n m (fun a b => (a, b) ∈ ps) D k → Can n m (fun a b => (a, b) ∈ ps) 0 (t + k) := by
  induction h with
  | start => intro k h; rw [Nat.zero_add]; exact h
  | @step t D W h1 h2 ih =>
    intro k hk
    obtain ⟨S, h3, _, h4, rfl⟩ := h2
    have hS : S < 2 ^ n := Nat.lt_of_le_of_lt h3.le (rdW_lt _ _ _)
    have := ih (k + 1) (can_more (fun i hi => (rd_MayW hin).1 (h3 i hi)) (by rw [← szW_list, ← szW_8 hn hS]; exact h4) hk)
    rwa [show t + 1 + k = t + (k + 1) by omega]

theorem RchT.fewest {n m t k : Nat} {ps : List (Nat × Nat)} (hn : n ≤ 8) (hin : ∀ p ∈ ps, p.1 < n ∧ p.2 < n) (h : RchT n m ps t (2 ^ n - 1)) (hF : Fewest n m (fun a b => (a, b) ∈ ps) k) : k ≤ t := by
  have h1 := h.can hn hin 0 (can_done fun i hi => by rw [Nat.testBit_two_pow_sub_one]; simpa using hi)
  obtain ⟨f, hf⟩ := can_start.1 h1
  exact hF.least _ _ hf

/-- in the shortest plan something is done in each turn -/
theorem Fewest.some {n m k : Nat} {pr : Nat → Nat → Prop} {f : Nat → Nat} (h : Fewest n m pr k) (hf : Sch n m pr k f) {t : Nat} (ht : t < k) : ∃ i, i < n ∧ f i = t := by
  refine Classical.byContradiction fun hno => ?_
  have hne : ∀ i, i < n → f i ≠ t := fun i hi he => hno ⟨i, hi, he⟩
  have := h.least (k - 1) (fun i => if t < f i then f i - 1 else f i) ⟨fun i hi => ?_, fun a b ha hb hp => ?_, fun u => ?_⟩
  · omega
  · have h1 := hf.lt i hi
    have h2 := hne i hi
    show (if t < f i then f i - 1 else f i) < k - 1
    split <;> omega
  · have h1 := hf.before a b ha hb hp
    have h2 := hne a ha
    have h3 := hne b hb
    show (if t < f a then f a - 1 else f a) < (if t < f b then f b - 1 else f b)
    split <;> split <;> omega
  · by_cases hu : u < t
    · refine Nat.le_trans (sub_len (atL_nodup List.nodup_range) fun i hi => ?_) (hf.few u)
      obtain ⟨h4, h5⟩ := mem_atL.1 hi
      refine mem_atL.2 ⟨h4, ?_⟩
      have h2 := hne i (List.mem_range.1 h4)
      split at h5 <;> omega
    · refine Nat.le_trans (sub_len (atL_nodup List.nodup_range) fun i hi => ?_) (hf.few (u + 1))
      obtain ⟨h4, h5⟩ := mem_atL.1 hi
      refine mem_atL.2 ⟨h4, ?_⟩
      have h2 := hne i (List.mem_range.1 h4)
      split at h5 <;> omega

/-- what is done ahead of turn t -/
def doW (n : Nat) (f : Nat → Nat) (t : Nat) : Nat := setW (loL f t (List.range n))

theorem doW_bit {n t i : Nat} {f : Nat → Nat} : (doW n f t).testBit i = true ↔ i < n ∧ f i < t := by
  unfold doW
  rw [setW_bit, mem_loL, List.mem_range]

theorem Fewest.rch {n m k : Nat} {ps : List (Nat × Nat)} {f : Nat → Nat} (hn : n ≤ 8) (hin : ∀ p ∈ ps, p.1 < n ∧ p.2 < n) (h : Fewest n m (fun a b => (a, b) ∈ ps) k) (hf : Sch n m (fun a b => (a, b) ∈ ps) k f) : ∀ t, t ≤ k → RchT n m ps t (doW n f t)
  | 0, _ => by
    rw [rch_zero]
    refine Nat.eq_of_testBit_eq fun i => ?_
    rw [Nat.zero_testBit, Bool.eq_false_iff]
    exact fun h => by have := (doW_bit.1 h).2; omega
  | t + 1, ht => by
    refine .step (Fewest.rch hn hin h hf t (by omega)) ⟨setW (atL f t (List.range n)), fun i hi => ?_, ?_, ?_, ?_⟩
    · obtain ⟨h1, h2⟩ := mem_atL.1 (setW_bit.1 hi)
      have h3 := List.mem_range.1 h1
      refine (rd_MayW hin).2 ⟨h3, ?_, fun p hp hpp => ?_⟩
      · rw [Bool.eq_false_iff]
        exact fun h4 => by have := (doW_bit.1 h4).2; omega
      · have := hf.before p i hp h3 hpp
        exact doW_bit.2 ⟨hp, by omega⟩
    · obtain ⟨i, hi, he⟩ := h.some hf (t := t) (by omega)
      rcases Nat.eq_zero_or_pos (setW (atL f t (List.range n))) with h0 | h0
      · have : (setW (atL f t (List.range n))).testBit i = true := setW_bit.2 (mem_atL.2 ⟨List.mem_range.2 hi, he⟩)
        rw [h0] at this
        simp at this
      · exact h0
    · have hlt : setW (atL f t (List.range n)) < 2 ^ n := setW_lt fun x hx => List.mem_range.1 (mem_atL.1 hx).1
      rw [szW_8 hn hlt, szW_list]
      refine Nat.le_trans (sub_len (List.nodup_range.sublist List.filter_sublist) fun i hi => ?_) (hf.few t)
      exact setW_bit.1 (List.mem_filter.1 hi).2
    · refine word_ext fun i => ?_
      rw [doW_bit, Nat.testBit_or, Bool.or_eq_true, doW_bit, setW_bit, mem_atL, List.mem_range]
      constructor
      · rintro ⟨h1, h2⟩
        by_cases h3 : f i = t
        · exact .inr ⟨h1, h3⟩
        · exact .inl ⟨h1, by omega⟩
      · rintro (⟨h1, h2⟩ | ⟨h1, h2⟩)
        · exact ⟨h1, by omega⟩
        · exact ⟨h1, by omega⟩

theorem Fewest.full {n m k : Nat} {ps : List (Nat × Nat)} (hn : n ≤ 8) (hin : ∀ p ∈ ps, p.1 < n ∧ p.2 < n) (h : Fewest n m (fun a b => (a, b) ∈ ps) k) : RchT n m ps k (2 ^ n - 1) := by
  obtain ⟨f, hf⟩ := h.can
  have h1 := h.rch hn hin hf k (Nat.le_refl _)
  have h2 : doW n f k = 2 ^ n - 1 := word_ext fun i => by
    rw [doW_bit, Nat.testBit_two_pow_sub_one, decide_eq_true_eq]
    exact ⟨fun h => h.1, fun h => ⟨h, hf.lt i h⟩⟩
  rwa [h2] at h1

end Go.Proofs.Ythmcigdoaededaa
