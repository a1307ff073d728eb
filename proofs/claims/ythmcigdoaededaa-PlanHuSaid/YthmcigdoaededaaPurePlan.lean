/-
  Plain mathematics of plans for tasks (Q1): plans, levels, the fewest turns; lists (Graham's bound); falling levels (Hu's theorem).
-/
import Derived.Test.YthmcigdoaededaaMPure
namespace Go.Proofs.Ythmcigdoaededaa
set_option linter.unusedSimpArgs false
set_option linter.unusedVariables false

/-! ### counting -/

/-- one-to-one into b -/
theorem inj_len {α β : Type} [DecidableEq β] {R : α → β → Prop} : ∀ {a : List α} {b : List β}, a.Nodup → (∀ x ∈ a, ∃ y ∈ b, R x y) → (∀ x x' y, x ∈ a → x' ∈ a → R x y → R x' y → x = x') → a.length ≤ b.length
  | [], _, _, _, _ => Nat.zero_le _
  | x :: a, b, hd, hm, hi => by
    obtain ⟨h1, h2⟩ := List.nodup_cons.1 hd
    obtain ⟨y, hy, hR⟩ := hm x (by simp)
    have h3 : a.length ≤ (b.erase y).length := inj_len h2 (fun x' hx' => by
      obtain ⟨y', hy', hR'⟩ := hm x' (List.mem_cons_of_mem _ hx')
      refine ⟨y', (List.mem_erase_of_ne fun e => ?_).2 hy', hR'⟩
      rw [e] at hR'
      have := hi x x' y (by simp) (List.mem_cons_of_mem _ hx') hR hR'
      rw [this] at h1
      exact h1 hx') (fun u v w hu hv => hi u v w (List.mem_cons_of_mem _ hu) (List.mem_cons_of_mem _ hv))
    rw [List.length_erase_of_mem hy] at h3
    have := List.length_pos_of_mem hy
    rw [List.length_cons]
    omega

theorem sub_len {a b : List Nat} (hd : a.Nodup) (hs : ∀ x ∈ a, x ∈ b) : a.length ≤ b.length := inj_len (R := Eq) hd (fun x hx => ⟨x, hs x hx, rfl⟩) (fun x x' y _ _ h1 h2 => h1.trans h2.symm)

/-- those of l that are done at t -/
def atL (f : Nat → Nat) (t : Nat) (l : List Nat) : List Nat := l.filter fun i => decide (f i = t)

/-- those of l that are done ahead of t -/
def loL (f : Nat → Nat) (t : Nat) (l : List Nat) : List Nat := l.filter fun i => decide (f i < t)

theorem mem_atL {f : Nat → Nat} {t i : Nat} {l : List Nat} : i ∈ atL f t l ↔ i ∈ l ∧ f i = t := by unfold atL; rw [List.mem_filter, decide_eq_true_eq]

theorem mem_loL {f : Nat → Nat} {t i : Nat} {l : List Nat} : i ∈ loL f t l ↔ i ∈ l ∧ f i < t := by unfold loL; rw [List.mem_filter, decide_eq_true_eq]

theorem atL_nodup {f : Nat → Nat} {t : Nat} {l : List Nat} (h : l.Nodup) : (atL f t l).Nodup := h.sublist List.filter_sublist

theorem lo_succ (f : Nat → Nat) (t : Nat) : ∀ l : List Nat, (loL f (t + 1) l).length = (loL f t l).length + (atL f t l).length
  | [] => rfl
  | i :: l => by
    have ih := lo_succ f t l
    unfold loL atL at ih ⊢
    rw [List.filter_cons, List.filter_cons, List.filter_cons]
    by_cases h1 : f i < t
    · rw [if_pos (by simp; omega), if_pos (by simpa using h1), if_neg (by simp; omega), List.length_cons, List.length_cons, ih]
      omega
    · by_cases h2 : f i = t
      · rw [if_pos (by simp; omega), if_neg (by simpa using h1), if_pos (by simpa using h2), List.length_cons, List.length_cons, ih]
        omega
      · rw [if_neg (by simp; omega), if_neg (by simpa using h1), if_neg (by simpa using h2), ih]

theorem lo_zero (f : Nat → Nat) (l : List Nat) : (loL f 0 l).length = 0 := by
  rw [List.length_eq_zero_iff]
  exact List.filter_eq_nil_iff.2 fun i _ => by simp

theorem lo_all {f : Nat → Nat} {t : Nat} {l : List Nat} (h : ∀ i ∈ l, f i < t) : loL f t l = l := List.filter_eq_self.2 fun i hi => decide_eq_true (h i hi)

/-! ### plans -/

/-- a plan: k turns, so many hands -/
structure Sch (n m : Nat) (pr : Nat → Nat → Prop) (k : Nat) (f : Nat → Nat) : Prop where
  lt : ∀ i, i < n → f i < k
  before : ∀ a b, a < n → b < n → pr a b → f a < f b
  few : ∀ t, (atL f t (List.range n)).length ≤ m

section
variable {n m k : Nat} {pr : Nat → Nat → Prop} {f : Nat → Nat}

theorem Sch.part (h : Sch n m pr k f) {l : List Nat} (hd : l.Nodup) (hl : ∀ i ∈ l, i < n) : ∀ t, (loL f t l).length ≤ m * t
  | 0 => by rw [lo_zero]; exact Nat.zero_le _
  | t + 1 => by
    have h1 := Sch.part h hd hl t
    have h2 : (atL f t l).length ≤ (atL f t (List.range n)).length := sub_len (atL_nodup hd) fun i hi => mem_atL.2 ⟨List.mem_range.2 (hl i (mem_atL.1 hi).1), (mem_atL.1 hi).2⟩
    have h3 := h.few t
    rw [lo_succ, Nat.mul_succ]
    omega

/-- what is done ahead of turn t is no more than the hands by t -/
theorem Sch.bound (h : Sch n m pr k f) {l : List Nat} (hd : l.Nodup) (hl : ∀ i ∈ l, i < n) {t : Nat} (ht : ∀ i ∈ l, f i < t) : l.length ≤ m * t := by
  have := h.part hd hl t
  rwa [lo_all ht] at this

theorem Sch.all (h : Sch n m pr k f) : n ≤ m * k := by
  have := h.bound List.nodup_range (fun i hi => List.mem_range.1 hi) (t := k) fun i hi => h.lt i (List.mem_range.1 hi)
  rwa [List.length_range] at this

theorem Sch.hands {m' : Nat} (h : Sch n m pr k f) (hm : m ≤ m') : Sch n m' pr k f := ⟨h.lt, h.before, fun t => Nat.le_trans (h.few t) hm⟩

theorem Sch.turns {k' : Nat} (h : Sch n m pr k f) (hk : k ≤ k') : Sch n m pr k' f := ⟨fun i hi => Nat.lt_of_lt_of_le (h.lt i hi) hk, h.before, h.few⟩

/-- the fewest turns -/
structure Fewest (n m : Nat) (pr : Nat → Nat → Prop) (k : Nat) : Prop where
  can : ∃ f, Sch n m pr k f
  least : ∀ k' f, Sch n m pr k' f → k ≤ k'

theorem Fewest.same {k' : Nat} (h : Fewest n m pr k) (h' : Fewest n m pr k') : k = k' := by
  obtain ⟨f, hf⟩ := h.can
  obtain ⟨f', hf'⟩ := h'.can
  exact Nat.le_antisymm (h.least _ _ hf') (h'.least _ _ hf)

theorem Fewest.more {m' k' : Nat} (h : Fewest n m pr k) (h' : Fewest n m' pr k') (hm : m ≤ m') : k' ≤ k := by
  obtain ⟨f, hf⟩ := h.can
  exact h'.least _ _ (hf.hands hm)

/-! ### levels -/

/-- how many stand on the longest chain from each on -/
structure Lev (n : Nat) (pr : Nat → Nat → Prop) (l : Nat → Nat) : Prop where
  pos : ∀ i, i < n → 1 ≤ l i
  down : ∀ a b, a < n → b < n → pr a b → l b < l a
  step : ∀ a, a < n → l a = 1 ∨ ∃ b, b < n ∧ pr a b ∧ l a = l b + 1

theorem Lev.chain {l : Nat → Nat} (h : Lev n pr l) (hs : Sch n m pr k f) : ∀ (q a : Nat), a < n → l a ≤ q → f a + l a ≤ k
  | 0, a, ha, hq => by have := h.pos a ha; omega
  | q + 1, a, ha, hq => by
    rcases h.step a ha with h1 | ⟨b, hb, hp, h1⟩
    · have := hs.lt a ha
      omega
    · have h2 := h.chain hs q b hb (by omega)
      have h3 := hs.before a b ha hb hp
      omega

theorem Lev.same {l l' : Nat → Nat} (h : Lev n pr l) (h' : Lev n pr l') : ∀ (q a : Nat), a < n → l a ≤ q → l a ≤ l' a
  | 0, a, ha, hq => by omega
  | q + 1, a, ha, hq => by
    rcases h.step a ha with h1 | ⟨b, hb, hp, h1⟩
    · have := h'.pos a ha
      omega
    · have h2 := h.same h' q b hb (by omega)
      have h3 := h'.down a b ha hb hp
      omega

theorem Lev.eq {l l' : Nat → Nat} (h : Lev n pr l) (h' : Lev n pr l') {a : Nat} (ha : a < n) : l a = l' a := Nat.le_antisymm (h.same h' _ a ha (Nat.le_refl _)) (h'.same h _ a ha (Nat.le_refl _))

/-! ### one behind the other; each as early as its level lets it -/

/-- how many come ahead of i: those of a higher level, and those of its level that are smaller -/
def lineF (n : Nat) (l : Nat → Nat) (i : Nat) : Nat := ((List.range n).filter fun j => decide (l i < l j ∨ l j = l i ∧ j < i)).length

theorem filter_lt {p q : Nat → Bool} {l : List Nat} (hd : l.Nodup) (h : ∀ x ∈ l, p x = true → q x = true) {y : Nat} (hy : y ∈ l) (hp : p y = false) (hq : q y = true) : (l.filter p).length < (l.filter q).length := by
  have h1 : (y :: l.filter p).length ≤ (l.filter q).length := sub_len (List.nodup_cons.2 ⟨fun h2 => (by rw [(List.mem_filter.1 h2).2] at hp; cases hp), hd.sublist List.filter_sublist⟩) fun x hx => by
    rcases List.mem_cons.1 hx with e | hx
    · subst e
      exact List.mem_filter.2 ⟨hy, hq⟩
    · obtain ⟨h2, h3⟩ := List.mem_filter.1 hx
      exact List.mem_filter.2 ⟨h2, h x h2 h3⟩
  rw [List.length_cons] at h1
  omega

theorem lineF_lt {l : Nat → Nat} {i j : Nat} (hi : i < n) (h : l j < l i ∨ l i = l j ∧ i < j) : lineF n l i < lineF n l j := by
  refine filter_lt List.nodup_range (fun x _ hx => ?_) (List.mem_range.2 hi) ?_ ?_
  · simp only [decide_eq_true_eq] at hx ⊢
    omega
  · simp
  · simp only [decide_eq_true_eq]
    omega

theorem sch_line {l : Nat → Nat} (h : Lev n pr l) (hm : 1 ≤ m) : Sch n m pr n (lineF n l) := by
  refine ⟨fun i hi => ?_, fun a b ha hb hp => lineF_lt ha (.inl (h.down a b ha hb hp)), fun t => ?_⟩
  · have h1 : (i :: (List.range n).filter fun j => decide (l i < l j ∨ l j = l i ∧ j < i)).length ≤ (List.range n).length := sub_len (List.nodup_cons.2 ⟨fun h2 => by
      have := (List.mem_filter.1 h2).2
      simp at this, List.nodup_range.sublist List.filter_sublist⟩) fun x hx => by
      rcases List.mem_cons.1 hx with e | hx
      · subst e; exact List.mem_range.2 hi
      · exact (List.mem_filter.1 hx).1
    rw [List.length_cons, List.length_range] at h1
    exact h1
  · have h1 : (atL (lineF n l) t (List.range n)).length ≤ [()].length := inj_len (R := fun _ _ => True) (atL_nodup List.nodup_range) (fun x _ => ⟨(), by simp, trivial⟩) fun x x' _ hx hx' _ _ => by
      obtain ⟨h2, h3⟩ := mem_atL.1 hx
      obtain ⟨h4, h5⟩ := mem_atL.1 hx'
      have a1 := List.mem_range.1 h2
      have a2 := List.mem_range.1 h4
      rcases Nat.lt_trichotomy (l x) (l x') with e | e | e
      · have := lineF_lt (n := n) (l := l) (i := x') (j := x) a2 (.inl e); omega
      · rcases Nat.lt_trichotomy x x' with e2 | e2 | e2
        · have := lineF_lt (n := n) (l := l) (i := x) (j := x') a1 (.inr ⟨e, e2⟩); omega
        · exact e2
        · have := lineF_lt (n := n) (l := l) (i := x') (j := x) a2 (.inr ⟨e.symm, e2⟩); omega
      · have := lineF_lt (n := n) (l := l) (i := x) (j := x') a1 (.inl e); omega
    exact Nat.le_trans h1 hm

theorem sch_level {l : Nat → Nat} (h : Lev n pr l) {H : Nat} (hH : ∀ i, i < n → l i ≤ H) : Sch n n pr H (fun i => H - l i) := by
  refine ⟨fun i hi => ?_, fun a b ha hb hp => ?_, fun t => ?_⟩
  · have h1 := h.pos i hi
    have h2 := hH i hi
    show H - l i < H
    omega
  · have h1 := h.down a b ha hb hp
    have h2 := hH a ha
    show H - l a < H - l b
    omega
  · have := (List.filter_sublist (l := List.range n) (p := fun i => decide (H - l i = t))).length_le
    rwa [List.length_range] at this

/-! ### lists: Graham's bound -/

/-- no hand rests while a task may be done -/
structure Grd (n m : Nat) (pr : Nat → Nat → Prop) (L : Nat) (f : Nat → Nat) : Prop where
  sch : Sch n m pr L f
  some : ∀ t, t < L → ∃ i, i < n ∧ f i = t
  full : ∀ t i, i < n → t < f i → (∀ p, p < n → pr p i → f p < t) → (atL f t (List.range n)).length = m

/-- how many turns ahead of t have a hand that rests -/
def paF (n m : Nat) (f : Nat → Nat) : Nat → Nat
  | 0 => 0
  | t + 1 => paF n m f t + if (atL f t (List.range n)).length < m then 1 else 0

theorem paF_mono {t : Nat} : ∀ d, paF n m f t ≤ paF n m f (t + d)
  | 0 => Nat.le_refl _
  | d + 1 => Nat.le_trans (paF_mono d) (Nat.le_add_right _ _)

theorem paF_last : ∀ t, paF n m f t = 0 ∨ ∃ u, u < t ∧ (atL f u (List.range n)).length < m ∧ paF n m f t = paF n m f u + 1
  | 0 => .inl rfl
  | t + 1 => by
    rw [show paF n m f (t + 1) = paF n m f t + (if (atL f t (List.range n)).length < m then 1 else 0) from rfl]
    by_cases h : (atL f t (List.range n)).length < m
    · exact .inr ⟨t, Nat.lt_succ_self t, h, by rw [if_pos h]⟩
    · rw [if_neg h, Nat.add_zero]
      rcases paF_last t with h1 | ⟨u, h1, h2, h3⟩
      · exact .inl h1
      · exact .inr ⟨u, by omega, h2, h3⟩

theorem Grd.rest {L : Nat} (h : Grd n m pr L f) {s : Nat → Nat} (hs : Sch n m pr k s) : ∀ (q x : Nat), f x ≤ q → x < n → paF n m f (f x) ≤ s x := by
  intro q
  induction q with
  | zero =>
    intro x hq hx
    rw [show f x = 0 by omega]
    exact Nat.zero_le _
  | succ q ih =>
    intro x hq hx
    rcases paF_last (n := n) (m := m) (f := f) (f x) with h1 | ⟨u, h1, h2, h3⟩
    · omega
    · by_cases hav : ∀ p, p < n → pr p x → f p < u
      · have := h.full u x hx h1 hav
        omega
      · obtain ⟨p, hp⟩ := Classical.not_forall.1 hav
        obtain ⟨hpn, hp⟩ := Classical.not_imp.1 hp
        obtain ⟨hpp, hp⟩ := Classical.not_imp.1 hp
        have h4 := h.sch.before p x hpn hx hpp
        have h5 := ih p (by omega) hpn
        have h6 := hs.before p x hpn hx hpp
        have h7 := paF_mono (n := n) (m := m) (f := f) (t := u) (f p - u)
        rw [show u + (f p - u) = f p by omega] at h7
        omega

theorem Grd.work {L : Nat} (h : Grd n m pr L f) : ∀ t, t ≤ L → ∃ φ, φ + paF n m f t = t ∧ m * φ + paF n m f t ≤ (loL f t (List.range n)).length
  | 0, _ => ⟨0, rfl, by rw [lo_zero]; exact Nat.le_refl _⟩
  | t + 1, ht => by
    obtain ⟨φ, h1, h2⟩ := h.work t (by omega)
    rw [lo_succ]
    unfold paF
    by_cases hp : (atL f t (List.range n)).length < m
    · rw [if_pos hp]
      obtain ⟨i, hi, hit⟩ := h.some t (by omega)
      have := List.length_pos_of_mem (mem_atL.2 ⟨List.mem_range.2 hi, hit⟩)
      exact ⟨φ, by omega, by omega⟩
    · rw [if_neg hp]
      have h3 := h.sch.few t
      exact ⟨φ + 1, by omega, by rw [Nat.mul_succ]; omega⟩

/-- GRAHAM -/
theorem Grd.graham {L : Nat} (h : Grd n m pr L f) {s : Nat → Nat} (hs : Sch n m pr k s) (hm : 1 ≤ m) : m * L ≤ (2 * m - 1) * k := by
  obtain ⟨φ, h1, h2⟩ := h.work L (Nat.le_refl _)
  have h3 : (loL f L (List.range n)).length = n := by rw [lo_all fun i hi => h.sch.lt i (List.mem_range.1 hi), List.length_range]
  have h4 := hs.all
  have h5 : paF n m f L ≤ k := by
    rcases paF_last (n := n) (m := m) (f := f) L with e | ⟨u, e1, e2, e3⟩
    · omega
    · obtain ⟨x, hx, hxu⟩ := h.some u e1
      have h6 := h.rest hs (f x) x (Nat.le_refl _) hx
      have h7 := hs.lt x hx
      rw [hxu] at h6
      omega
  obtain ⟨P, hP⟩ : ∃ P, paF n m f L = P := ⟨_, rfl⟩
  rw [hP] at h1 h2 h5
  obtain ⟨q, rfl⟩ : ∃ q, m = q + 1 := ⟨m - 1, by omega⟩
  have h8 : q * P ≤ q * k := Nat.mul_le_mul_left q h5
  have h9 : (2 * (q + 1) - 1) * k = q * k + (q + 1) * k := by rw [← Nat.add_mul]; congr 1; omega
  have h10 : (q + 1) * L = (q + 1) * φ + (q * P + P) := by rw [← h1, Nat.mul_add, Nat.succ_mul q P]
  omega

theorem Grd.least {L : Nat} (h : Grd n m pr L f) (hF : Fewest n m pr k) : k ≤ L := hF.least _ _ h.sch

/-! ### falling levels: Hu's theorem -/

/-- may i be done at t? -/
def Av (n : Nat) (pr : Nat → Nat → Prop) (f : Nat → Nat) (t i : Nat) : Prop := i < n ∧ t ≤ f i ∧ ∀ p, p < n → pr p i → f p < t

/-- taken by falling levels -/
def Fall (n : Nat) (pr : Nat → Nat → Prop) (f l : Nat → Nat) : Prop := ∀ t i j, Av n pr f t i → t < f i → j < n → f j = t → l i ≤ l j

/-- those of level H or above that are done at u -/
def hiL (n : Nat) (f l : Nat → Nat) (H u : Nat) : List Nat := (atL f u (List.range n)).filter fun i => decide (H ≤ l i)

theorem mem_hiL {l : Nat → Nat} {H u i : Nat} : i ∈ hiL n f l H u ↔ i < n ∧ f i = u ∧ H ≤ l i := by
  unfold hiL
  rw [List.mem_filter, mem_atL, List.mem_range, decide_eq_true_eq, and_assoc]

theorem hiL_nodup {l : Nat → Nat} {H u : Nat} : (hiL n f l H u).Nodup := (atL_nodup List.nodup_range).sublist List.filter_sublist

/-- all of level H or above that may be done at u are done, and a hand is left for another -/
def Wide (n m : Nat) (pr : Nat → Nat → Prop) (f l : Nat → Nat) (H u : Nat) : Prop := (∀ i, Av n pr f u i → H ≤ l i → f i = u) ∧ (hiL n f l H u).length < m

theorem wide_next {l : Nat → Nat} {L H u : Nat} (h : Grd n m pr L f) (hL : Lev n pr l) (hf : Fall n pr f l) (h1 : ∀ a b c, a < n → b < n → c < n → pr a b → pr a c → b = c) (hw : Wide n m pr f l H u) : Wide n m pr f l H (u + 1) := by
  -- those that may be done next are behind those that are done now
  have key : ∀ S : List Nat, S.Nodup → (∀ i ∈ S, Av n pr f (u + 1) i ∧ H ≤ l i) → S.length < m := fun S hd hS => by
    refine Nat.lt_of_le_of_lt (inj_len (R := fun i p => pr p i ∧ p < n ∧ i < n) hd (fun i hi => ?_) (fun x x' y _ _ hx hx' => h1 y x x' hx.2.1 hx.2.2 hx'.2.2 hx.1 hx'.1)) hw.2
    obtain ⟨⟨hin, hiu, hia⟩, hil⟩ := hS i hi
    by_cases hav : ∀ p, p < n → pr p i → f p < u
    · have := hw.1 i ⟨hin, by omega, hav⟩ hil
      omega
    · obtain ⟨p, hp⟩ := Classical.not_forall.1 hav
      obtain ⟨hpn, hp⟩ := Classical.not_imp.1 hp
      obtain ⟨hpp, hp⟩ := Classical.not_imp.1 hp
      have h2 := hia p hpn hpp
      have h3 := hL.down p i hpn hin hpp
      exact ⟨p, mem_hiL.2 ⟨hpn, by omega, by omega⟩, hpp, hpn, hin⟩
  have hhi : (hiL n f l H (u + 1)).length < m := key _ hiL_nodup fun i hi => by
    obtain ⟨a1, a2, a3⟩ := mem_hiL.1 hi
    exact ⟨⟨a1, by omega, fun p hp hpp => by have := h.sch.before p i hp a1 hpp; omega⟩, a3⟩
  refine ⟨fun i hi hil => ?_, hhi⟩
  by_cases he : f i = u + 1
  · exact he
  · have hlt : u + 1 < f i := by have := hi.2.1; omega
    have h2 := h.full (u + 1) i hi.1 hlt hi.2.2
    have h3 : (atL f (u + 1) (List.range n)).length ≤ (hiL n f l H (u + 1)).length := sub_len (atL_nodup List.nodup_range) fun j hj => by
      obtain ⟨hjn, hju⟩ := mem_atL.1 hj
      have hjn := List.mem_range.1 hjn
      exact mem_hiL.2 ⟨hjn, hju, Nat.le_trans hil (hf (u + 1) i j hi hlt hjn hju)⟩
    omega

theorem wide_on {l : Nat → Nat} {L H t : Nat} (h : Grd n m pr L f) (hL : Lev n pr l) (hf : Fall n pr f l) (h1 : ∀ a b c, a < n → b < n → c < n → pr a b → pr a c → b = c) (hw : Wide n m pr f l H t) : ∀ d, Wide n m pr f l H (t + d)
  | 0 => hw
  | d + 1 => wide_next h hL hf h1 (wide_on h hL hf h1 hw d)

/-- where turns are wide a task that waits has a higher one ahead that waits -/
theorem wide_back {l : Nat → Nat} {H t : Nat} (hL : Lev n pr l) : ∀ (d x : Nat), (∀ e, e < d → Wide n m pr f l H (t + e)) → x < n → t + d ≤ f x → H ≤ l x → ∃ z, z < n ∧ t ≤ f z ∧ l x + d ≤ l z
  | 0, x, _, hx, hfx, _ => ⟨x, hx, hfx, Nat.le_refl _⟩
  | d + 1, x, hw, hx, hfx, hlx => by
    have hwd := hw d (Nat.lt_succ_self d)
    by_cases hav : ∀ p, p < n → pr p x → f p < t + d
    · have := hwd.1 x ⟨hx, by omega, hav⟩ hlx
      omega
    · obtain ⟨p, hp⟩ := Classical.not_forall.1 hav
      obtain ⟨hpn, hp⟩ := Classical.not_imp.1 hp
      obtain ⟨hpp, hp⟩ := Classical.not_imp.1 hp
      have h3 := hL.down p x hpn hx hpp
      obtain ⟨z, a1, a2, a3⟩ := wide_back hL d p (fun e he => hw e (by omega)) hpn (by omega) (by omega)
      exact ⟨z, a1, a2, by omega⟩

/-- HU -/
theorem hu {l : Nat → Nat} {L : Nat} (h : Grd n m pr L f) (hL : Lev n pr l) (hf : Fall n pr f l) (h1 : ∀ a b c, a < n → b < n → c < n → pr a b → pr a c → b = c) {s : Nat → Nat} (hs : Sch n m pr k s) (hL1 : 1 ≤ L) : L ≤ k := by
  have hex : ∃ T, ∃ z, z < n ∧ T ≤ f z ∧ L ≤ T + l z := by
    obtain ⟨z, hz, hzf⟩ := h.some (L - 1) (by omega)
    exact ⟨L - 1, z, hz, by omega, by have := hL.pos z hz; omega⟩
  -- the least such turn
  obtain ⟨T, ⟨z, hz, hzf, hzl⟩, hmin⟩ : ∃ T, (∃ z, z < n ∧ T ≤ f z ∧ L ≤ T + l z) ∧ ∀ T', T' < T → ¬ ∃ z, z < n ∧ T' ≤ f z ∧ L ≤ T' + l z := by
    obtain ⟨T0, h0⟩ := hex
    have : ∀ q T, T ≤ q → (∃ z, z < n ∧ T ≤ f z ∧ L ≤ T + l z) → ∃ T, (∃ z, z < n ∧ T ≤ f z ∧ L ≤ T + l z) ∧ ∀ T', T' < T → ¬ ∃ z, z < n ∧ T' ≤ f z ∧ L ≤ T' + l z := by
      intro q
      induction q with
      | zero => exact fun T hT hP => ⟨T, hP, fun T' h' => by omega⟩
      | succ q ih =>
        intro T hT hP
        by_cases hlow : ∃ T', T' < T ∧ ∃ z, z < n ∧ T' ≤ f z ∧ L ≤ T' + l z
        · obtain ⟨T', h1, h2⟩ := hlow
          exact ih T' (by omega) h2
        · exact ⟨T, hP, fun T' h' h2 => hlow ⟨T', h', h2⟩⟩
    exact this T0 T0 (Nat.le_refl _) h0
  have hzL := hL.chain h.sch (l z) z hz (Nat.le_refl _)
  have hTl : T < L := by have := h.sch.lt z hz; omega
  obtain ⟨H, hH⟩ : ∃ H, L = T + H := ⟨L - T, by omega⟩
  have hzH : H ≤ l z := by omega
  -- ahead of it all hands work, at tasks of level H or above
  have hfull : ∀ t, t < T → (atL f t (List.range n)).length = m ∧ ∀ y, y < n → f y = t → H ≤ l y := by
    intro t ht
    have hno : ¬ Wide n m pr f l H t := fun hw => by
      obtain ⟨z', b1, b2, b3⟩ := wide_back hL (T - t) z (fun e _ => wide_on h hL hf h1 hw e) hz (by omega) hzH
      exact hmin t ht ⟨z', b1, b2, by omega⟩
    refine ⟨?_, fun y hy hyt => ?_⟩
    · by_cases hm : (atL f t (List.range n)).length = m
      · exact hm
      · have hlt : (atL f t (List.range n)).length < m := by have := h.sch.few t; omega
        refine absurd ⟨fun i hi _ => ?_, Nat.lt_of_le_of_lt (List.filter_sublist.length_le) hlt⟩ hno
        by_cases he : f i = t
        · exact he
        · exact absurd (h.full t i hi.1 (by have := hi.2.1; omega) hi.2.2) hm
    · by_cases hyl : H ≤ l y
      · exact hyl
      · refine absurd ⟨fun i hi hil => ?_, ?_⟩ hno
        · by_cases he : f i = t
          · exact he
          · have := hf t i y hi (by have := hi.2.1; omega) hy hyt
            omega
        · have h2 : (y :: hiL n f l H t).length ≤ (atL f t (List.range n)).length := sub_len (List.nodup_cons.2 ⟨fun h3 => hyl (mem_hiL.1 h3).2.2, hiL_nodup⟩) fun x hx => by
            rcases List.mem_cons.1 hx with e | hx
            · subst e; exact mem_atL.2 ⟨List.mem_range.2 hy, hyt⟩
            · obtain ⟨c1, c2, _⟩ := mem_hiL.1 hx
              exact mem_atL.2 ⟨List.mem_range.2 c1, c2⟩
          have h3 := h.sch.few t
          rw [List.length_cons] at h2
          omega
  have hcnt : ∀ t, t ≤ T → (loL f t (List.range n)).length = m * t := by
    intro t
    induction t with
    | zero => exact fun _ => lo_zero _ _
    | succ t ih =>
      intro ht
      rw [lo_succ, ih (by omega), (hfull t (by omega)).1, Nat.mul_succ]
  have hkz := hL.chain hs (l z) z hz (Nat.le_refl _)
  have hb : (z :: loL f T (List.range n)).length ≤ m * (k - H + 1) := by
    refine hs.bound (List.nodup_cons.2 ⟨fun h2 => ?_, List.nodup_range.sublist List.filter_sublist⟩) (fun i hi => ?_) (fun i hi => ?_)
    · have := (mem_loL.1 h2).2
      omega
    · rcases List.mem_cons.1 hi with e | hi
      · subst e; exact hz
      · exact List.mem_range.1 (mem_loL.1 hi).1
    · have hin : i < n ∧ H ≤ l i := by
        rcases List.mem_cons.1 hi with e | hi
        · subst e; exact ⟨hz, hzH⟩
        · obtain ⟨c1, c2⟩ := mem_loL.1 hi
          exact ⟨List.mem_range.1 c1, (hfull _ c2).2 i (List.mem_range.1 c1) rfl⟩
      have := hL.chain hs (l i) i hin.1 (Nat.le_refl _)
      omega
  rw [List.length_cons, hcnt T (Nat.le_refl _)] at hb
  have hTk : T < k - H + 1 := by
    rcases Nat.lt_or_ge T (k - H + 1) with h2 | h2
    · exact h2
    · have := Nat.mul_le_mul_left m h2
      omega
  omega

end

end Go.Proofs.Ythmcigdoaededaa
