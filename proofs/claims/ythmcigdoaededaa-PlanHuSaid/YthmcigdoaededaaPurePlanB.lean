/-
  Plain mathematics of plans (Q1): levels are there where no chain closes; the fewest turns by all choices.
-/
import Derived.Test.YthmcigdoaededaaPurePlan
import Derived.Test.YthmcigdoaededaaMPure
namespace Go.Proofs.Ythmcigdoaededaa
set_option linter.unusedSimpArgs false
set_option linter.unusedVariables false

/-! ### levels are there -/

/-- a rank: where what is behind never comes round -/
theorem rank_of {n : Nat} {pr T : Nat → Nat → Prop} (h1 : ∀ a b, pr a b → T a b) (h2 : ∀ a b c, pr a b → T b c → T a c) (h3 : ∀ a, a < n → ¬ T a a) : ∃ r : Nat → Nat, (∀ i, r i ≤ n) ∧ ∀ a b, a < n → b < n → pr a b → r b < r a := by
  haveI : ∀ a b, Decidable (T a b) := fun a b => Classical.propDecidable _
  refine ⟨fun i => ((List.range n).filter fun j => decide (T i j)).length, fun i => ?_, fun a b ha hb hp => ?_⟩
  · have := (List.filter_sublist (l := List.range n) (p := fun j => decide (T i j))).length_le
    rwa [List.length_range] at this
  · exact filter_lt List.nodup_range (fun x _ hx => decide_eq_true (h2 a b x hp (of_decide_eq_true hx))) (List.mem_range.2 hb) (decide_eq_false (h3 b hb)) (decide_eq_true (h1 a b hp))

/-- the greatest -/
def mxL (l : List Nat) : Nat := l.foldl max 0

theorem foldl_max : ∀ (l : List Nat) (a : Nat), a ≤ l.foldl max a ∧ (∀ x ∈ l, x ≤ l.foldl max a) ∧ (l.foldl max a = a ∨ l.foldl max a ∈ l)
  | [], a => ⟨Nat.le_refl _, by simp, .inl rfl⟩
  | y :: l, a => by
    obtain ⟨h1, h2, h3⟩ := foldl_max l (max a y)
    rw [List.foldl_cons]
    refine ⟨Nat.le_trans (Nat.le_max_left a y) h1, fun x hx => ?_, ?_⟩
    · rcases List.mem_cons.1 hx with e | hx
      · subst e; exact Nat.le_trans (Nat.le_max_right a x) h1
      · exact h2 x hx
    · rcases h3 with h3 | h3
      · rw [h3]
        rcases Nat.le_total a y with h | h
        · rw [Nat.max_eq_right h]; exact .inr (by simp)
        · rw [Nat.max_eq_left h]; exact .inl rfl
      · exact .inr (List.mem_cons_of_mem _ h3)

theorem mxL_ge {l : List Nat} {x : Nat} (h : x ∈ l) : x ≤ mxL l := (foldl_max l 0).2.1 x h

theorem mxL_in (l : List Nat) : mxL l = 0 ∨ mxL l ∈ l := (foldl_max l 0).2.2

theorem mxL_snoc (l : List Nat) (x : Nat) : mxL (l ++ [x]) = max (mxL l) x := by unfold mxL; rw [List.foldl_append]; rfl

/-- levels, as far as the fuel goes -/
def levF (su : Nat → List Nat) : Nat → Nat → Nat
  | 0, _ => 0
  | q + 1, i => mxL ((su i).map (levF su q)) + 1

theorem levF_same {n : Nat} {su : Nat → List Nat} {r : Nat → Nat} (hl : ∀ a b, b ∈ su a → b < n) (hr : ∀ a b, a < n → b ∈ su a → r b < r a) : ∀ (q i : Nat), i < n → r i ≤ q → ∀ k k', r i < k → r i < k' → levF su k i = levF su k' i := by
  intro q
  induction q with
  | zero =>
    intro i hi hq k k' hk hk'
    obtain ⟨a, rfl⟩ : ∃ a, k = a + 1 := ⟨k - 1, by omega⟩
    obtain ⟨b, rfl⟩ : ∃ b, k' = b + 1 := ⟨k' - 1, by omega⟩
    have : su i = [] := by
      cases hs : su i with
      | nil => rfl
      | cons x t =>
        have := hr i x hi (by rw [hs]; simp)
        omega
    rw [levF, levF, this]
    rfl
  | succ q ih =>
    intro i hi hq k k' hk hk'
    obtain ⟨a, rfl⟩ : ∃ a, k = a + 1 := ⟨k - 1, by omega⟩
    obtain ⟨b, rfl⟩ : ∃ b, k' = b + 1 := ⟨k' - 1, by omega⟩
    rw [levF, levF]
    congr 2
    apply List.map_congr_left
    intro j hj
    have h1 := hr i j hi hj
    exact ih j (hl i j hj) (by omega) a b (by omega) (by omega)

/-- the level of each, by one step -/
theorem levF_step {n : Nat} {su : Nat → List Nat} {r : Nat → Nat} (hl : ∀ a b, b ∈ su a → b < n) (hr : ∀ a b, a < n → b ∈ su a → r b < r a) (hn : ∀ i, r i ≤ n) {i : Nat} (hi : i < n) : levF su (n + 1) i = mxL ((su i).map (levF su (n + 1))) + 1 := by
  rw [levF]
  congr 2
  apply List.map_congr_left
  intro j hj
  have h1 := hr i j hi hj
  have h2 := hn i
  have h3 := hn j
  exact levF_same hl hr n j (hl i j hj) h3 n (n + 1) (by omega) (by omega)

theorem lev_of {n : Nat} {pr : Nat → Nat → Prop} {su : Nat → List Nat} {r : Nat → Nat} (hl : ∀ a b, b ∈ su a → b < n) (hr : ∀ a b, a < n → b ∈ su a → r b < r a) (hn : ∀ i, r i ≤ n) (hp : ∀ a b, a < n → b < n → (pr a b ↔ b ∈ su a)) : Lev n pr (levF su (n + 1)) := by
  refine ⟨fun i hi => ?_, fun a b ha hb hab => ?_, fun a ha => ?_⟩
  · rw [levF]; omega
  · rw [levF_step hl hr hn ha]
    have := mxL_ge (List.mem_map.2 ⟨b, (hp a b ha hb).1 hab, rfl⟩ : levF su (n + 1) b ∈ (su a).map (levF su (n + 1)))
    omega
  · rw [levF_step hl hr hn ha]
    rcases mxL_in ((su a).map (levF su (n + 1))) with h | h
    · exact .inl (by rw [h])
    · obtain ⟨b, hb, he⟩ := List.mem_map.1 h
      exact .inr ⟨b, hl a b hb, (hp a b ha (hl a b hb)).2 hb, by rw [he]⟩

/-! ### the fewest turns by all choices -/

/-- those that are not done -/
def unL (n D : Nat) : List Nat := (List.range n).filter fun i => !D.testBit i

theorem mem_unL {n D i : Nat} : i ∈ unL n D ↔ i < n ∧ D.testBit i = false := by unfold unL; rw [List.mem_filter, List.mem_range, Bool.not_eq_true']

theorem unL_nodup (n D : Nat) : (unL n D).Nodup := List.nodup_range.sublist List.filter_sublist

/-- can what is not done be done in t turns? -/
def Can (n m : Nat) (pr : Nat → Nat → Prop) (D t : Nat) : Prop :=
  ∃ f : Nat → Nat, (∀ i, i < n → D.testBit i = false → f i < t) ∧ (∀ a b, a < n → b < n → pr a b → D.testBit a = false → D.testBit b = false → f a < f b) ∧ ∀ u, (atL f u (unL n D)).length ≤ m

theorem unL_zero (n : Nat) : unL n 0 = List.range n := List.filter_eq_self.2 fun i _ => by simp

theorem can_start {n m t : Nat} {pr : Nat → Nat → Prop} : Can n m pr 0 t ↔ ∃ f, Sch n m pr t f := by
  unfold Can
  rw [unL_zero]
  constructor
  · rintro ⟨f, h1, h2, h3⟩
    exact ⟨f, fun i hi => h1 i hi (by simp), fun a b ha hb hp => h2 a b ha hb hp (by simp) (by simp), h3⟩
  · rintro ⟨f, h⟩
    exact ⟨f, fun i hi _ => h.lt i hi, fun a b ha hb hp _ _ => h.before a b ha hb hp, h.few⟩

theorem can_done {n m D t : Nat} {pr : Nat → Nat → Prop} (h : ∀ i, i < n → D.testBit i = true) : Can n m pr D t := by
  have h0 : unL n D = [] := List.filter_eq_nil_iff.2 fun i hi => by simp [h i (List.mem_range.1 hi)]
  exact ⟨fun _ => 0, fun i hi hf => by (rw [h i hi] at hf; cases hf), fun a b ha _ _ hf _ => by (rw [h a ha] at hf; cases hf), fun u => by rw [h0]; exact Nat.zero_le _⟩

theorem can_zero {n m D : Nat} {pr : Nat → Nat → Prop} (h : Can n m pr D 0) : ∀ i, i < n → D.testBit i = true := by
  obtain ⟨f, h1, _⟩ := h
  intro i hi
  cases hd : D.testBit i with
  | true => rfl
  | false => have := h1 i hi hd; omega

theorem can_few {n m D t : Nat} {pr : Nat → Nat → Prop} (h : Can n m pr D t) : (unL n D).length ≤ m * t := by
  obtain ⟨f, h1, _, h3⟩ := h
  have : ∀ u, (loL f u (unL n D)).length ≤ m * u := by
    intro u
    induction u with
    | zero => rw [lo_zero]; exact Nat.zero_le _
    | succ u ih =>
      have := h3 u
      rw [lo_succ, Nat.mul_succ]
      omega
  have h4 := this t
  rwa [lo_all fun i hi => h1 i (mem_unL.1 hi).1 (mem_unL.1 hi).2] at h4

/-- those that may be done now -/
def MayW (n : Nat) (pr : Nat → Nat → Prop) (D i : Nat) : Prop := i < n ∧ D.testBit i = false ∧ ∀ p, p < n → pr p i → D.testBit p = true

/-- one turn: as many as may be, and as there are hands -/
theorem can_step {n m D t : Nat} {pr : Nat → Nat → Prop} {may : List Nat} (hd : may.Nodup) (hm : ∀ i, i ∈ may ↔ MayW n pr D i) :
    Can n m pr D (t + 1) ↔ ∃ S : Nat, (∀ i, S.testBit i = true → i ∈ may) ∧ (may.filter fun i => S.testBit i).length = min m may.length ∧ Can n m pr (D ||| S) t := by
  constructor
  · rintro ⟨f, h1, h2, h3⟩
    -- those of the first turn may be done now
    have h0 : ∀ i ∈ atL f 0 (unL n D), i ∈ may := fun i hi => by
      obtain ⟨h4, h5⟩ := mem_atL.1 hi
      obtain ⟨h6, h7⟩ := mem_unL.1 h4
      refine (hm i).2 ⟨h6, h7, fun p hp hpp => ?_⟩
      cases hdp : D.testBit p with
      | true => rfl
      | false => have := h2 p i hp h6 hpp hdp h7; omega
    -- and more of them
    obtain ⟨Q, hQ⟩ : ∃ Q, Q = atL f 0 (unL n D) ++ (may.filter fun i => decide (i ∉ atL f 0 (unL n D))).take (min m may.length - (atL f 0 (unL n D)).length) := ⟨_, rfl⟩
    have hfl : (may.filter fun i => decide (i ∉ atL f 0 (unL n D))).length + (atL f 0 (unL n D)).length = may.length := by
      have e1 : ∀ (l : List Nat) (p : Nat → Bool), (l.filter p).length + (l.filter fun i => !p i).length = l.length := by
        intro l p
        induction l with
        | nil => rfl
        | cons x l ih =>
          rw [List.filter_cons, List.filter_cons]
          cases p x <;> simp <;> omega
      have e2 := e1 may (fun i => decide (i ∉ atL f 0 (unL n D)))
      have e3 : (may.filter fun i => !decide (i ∉ atL f 0 (unL n D))).length = (atL f 0 (unL n D)).length := Nat.le_antisymm
        (sub_len (hd.sublist List.filter_sublist) fun i hi => by have := (List.mem_filter.1 hi).2; simpa using this)
        (sub_len (atL_nodup (unL_nodup n D)) fun i hi => List.mem_filter.2 ⟨h0 i hi, by simpa using hi⟩)
      omega
    have hle : (atL f 0 (unL n D)).length ≤ min m may.length := by
      have := h3 0
      omega
    have hQl : Q.length = min m may.length := by
      rw [hQ, List.length_append, List.length_take]
      omega
    have hQs : ∀ i ∈ Q, i ∈ may := fun i hi => by
      rw [hQ] at hi
      rcases List.mem_append.1 hi with h | h
      · exact h0 i h
      · exact (List.mem_filter.1 (List.mem_of_mem_take h)).1
    have hQd : Q.Nodup := by
      rw [hQ, List.nodup_append]
      refine ⟨atL_nodup (unL_nodup n D), (hd.sublist List.filter_sublist).sublist (List.take_sublist _ _), fun a ha b hb e => ?_⟩
      have := (List.mem_filter.1 (List.mem_of_mem_take hb)).2
      rw [e] at ha
      simp [ha] at this
    have hbit : ∀ i, (setW Q).testBit i = true ↔ i ∈ Q := fun i => setW_bit
    refine ⟨setW Q, fun i hi => hQs i ((hbit i).1 hi), ?_, fun i => f i - 1, fun i hi hD => ?_, fun a b ha hb hp hDa hDb => ?_, fun u => ?_⟩
    · rw [← hQl]
      exact Nat.le_antisymm (sub_len (hd.sublist List.filter_sublist) fun i hi => (hbit i).1 (List.mem_filter.1 hi).2) (sub_len hQd fun i hi => List.mem_filter.2 ⟨hQs i hi, (hbit i).2 hi⟩)
    · rw [Nat.testBit_or, Bool.or_eq_false_iff] at hD
      have h4 := h1 i hi hD.1
      have h5 : f i ≠ 0 := fun e => by
        have : i ∈ Q := by rw [hQ]; exact List.mem_append_left _ (mem_atL.2 ⟨mem_unL.2 ⟨hi, hD.1⟩, e⟩)
        rw [(hbit i).2 this] at hD
        exact absurd hD.2 (by simp)
      show f i - 1 < t
      omega
    · rw [Nat.testBit_or, Bool.or_eq_false_iff] at hDa hDb
      have h4 := h2 a b ha hb hp hDa.1 hDb.1
      have h5 : f a ≠ 0 := fun e => by
        have : a ∈ Q := by rw [hQ]; exact List.mem_append_left _ (mem_atL.2 ⟨mem_unL.2 ⟨ha, hDa.1⟩, e⟩)
        rw [(hbit a).2 this] at hDa
        exact absurd hDa.2 (by simp)
      show f a - 1 < f b - 1
      omega
    · refine Nat.le_trans (sub_len (atL_nodup (unL_nodup n _)) fun i hi => ?_) (h3 (u + 1))
      obtain ⟨h4, h5⟩ := mem_atL.1 hi
      obtain ⟨h6, h7⟩ := mem_unL.1 h4
      rw [Nat.testBit_or, Bool.or_eq_false_iff] at h7
      have h8 : f i ≠ 0 := fun e => by
        have : i ∈ Q := by rw [hQ]; exact List.mem_append_left _ (mem_atL.2 ⟨mem_unL.2 ⟨h6, h7.1⟩, e⟩)
        rw [(hbit i).2 this] at h7
        exact absurd h7.2 (by simp)
      exact mem_atL.2 ⟨mem_unL.2 ⟨h6, h7.1⟩, by omega⟩
  · rintro ⟨S, hS, hSl, f, h1, h2, h3⟩
    have hSm : ∀ i, S.testBit i = true → MayW n pr D i := fun i hi => (hm i).1 (hS i hi)
    refine ⟨fun i => if S.testBit i = true then 0 else f i + 1, fun i hi hD => ?_, fun a b ha hb hp hDa hDb => ?_, fun u => ?_⟩
    · show (if S.testBit i = true then 0 else f i + 1) < t + 1
      cases hs : S.testBit i with
      | true => rw [if_pos rfl]; omega
      | false =>
        have := h1 i hi (by rw [Nat.testBit_or, hD, hs]; rfl)
        rw [if_neg (by simp)]
        omega
    · show (if S.testBit a = true then 0 else f a + 1) < (if S.testBit b = true then 0 else f b + 1)
      cases hsb : S.testBit b with
      | true =>
        have := (hSm b hsb).2.2 a ha hp
        rw [this] at hDa
        cases hDa
      | false =>
        cases hsa : S.testBit a with
        | true => rw [if_pos rfl, if_neg (by simp)]; omega
        | false =>
          have := h2 a b ha hb hp (by rw [Nat.testBit_or, hDa, hsa]; rfl) (by rw [Nat.testBit_or, hDb, hsb]; rfl)
          rw [if_neg (by simp), if_neg (by simp)]
          omega
    · cases u with
      | zero =>
        have : (atL (fun i => if S.testBit i = true then 0 else f i + 1) 0 (unL n D)).length ≤ (may.filter fun i => S.testBit i).length := sub_len (atL_nodup (unL_nodup n D)) fun i hi => by
          obtain ⟨_, h5⟩ := mem_atL.1 hi
          cases hs : S.testBit i with
          | true => exact List.mem_filter.2 ⟨hS i hs, hs⟩
          | false => simp [hs] at h5
        omega
      | succ u =>
        refine Nat.le_trans (sub_len (atL_nodup (unL_nodup n D)) fun i hi => ?_) (h3 u)
        obtain ⟨h4, h5⟩ := mem_atL.1 hi
        obtain ⟨h6, h7⟩ := mem_unL.1 h4
        cases hs : S.testBit i with
        | true => simp [hs] at h5
        | false =>
          simp [hs] at h5
          exact mem_atL.2 ⟨mem_unL.2 ⟨h6, by rw [Nat.testBit_or, h7, hs]; rfl⟩, h5⟩

/-- where some are not done one may be done -/
theorem may_some {n D : Nat} {pr : Nat → Nat → Prop} {l : Nat → Nat} (hL : Lev n pr l) (h : ∃ i, i < n ∧ D.testBit i = false) : ∃ i, MayW n pr D i := by
  obtain ⟨i0, h0, hd0⟩ := h
  have : ∀ (q i : Nat), i < n → D.testBit i = false → (∀ j, j < n → l j ≤ l i + q) → ∃ i, MayW n pr D i := by
    intro q
    induction q with
    | zero =>
      intro i hi hd hq
      refine ⟨i, hi, hd, fun p hp hpp => ?_⟩
      have h1 := hL.down p i hp hi hpp
      have h2 := hq p hp
      omega
    | succ q ih =>
      intro i hi hd hq
      by_cases hav : ∀ p, p < n → pr p i → D.testBit p = true
      · exact ⟨i, hi, hd, hav⟩
      · obtain ⟨p, hp⟩ := Classical.not_forall.1 hav
        obtain ⟨hpn, hp⟩ := Classical.not_imp.1 hp
        obtain ⟨hpp, hp⟩ := Classical.not_imp.1 hp
        have h1 := hL.down p i hpn hi hpp
        exact ih p hpn (by simpa using hp) fun j hj => by have := hq j hj; omega
  refine this (mxL ((List.range n).map l)) i0 h0 hd0 fun j hj => ?_
  have := mxL_ge (List.mem_map.2 ⟨j, List.mem_range.2 hj, rfl⟩ : l j ∈ (List.range n).map l)
  omega

end Go.Proofs.Ythmcigdoaededaa
