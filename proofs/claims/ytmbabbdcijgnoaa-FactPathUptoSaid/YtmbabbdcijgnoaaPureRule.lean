/-
  Plain mathematics of dominators (F1, F2): no program's text.
-/
import Derived.Test.YtmbabbdcijgnoaaPureWay
namespace Go.Proofs.Ytmbabbdcijgnoaa
set_option linter.unusedSimpArgs false
set_option linter.unusedVariables false

/-- F1: a dominates b -/
def Dom (nx : List (List Int)) (a b : Nat) : Prop := Rea nx (-1) 0 a ∧ Rea nx (-1) 0 b ∧ (a = b ∨ ¬ Rea nx (a : Int) 0 b)

section
variable {nx : List (List Int)}

theorem int_ne {a b : Nat} (h : a ≠ b) : (a : Int) ≠ (b : Int) := by omega

theorem Dom.me {a : Nat} (h : Rea nx (-1) 0 a) : Dom nx a a := ⟨h, h, .inl rfl⟩

theorem Dom.zero {a : Nat} (h : Rea nx (-1) 0 a) : Dom nx 0 a := ⟨Rea.me nx 0, h, .inr fun h => absurd rfl h.start⟩

/-- on a way without wo one comes by b, or without b -/
theorem Rea.by_ {wo : Int} {i x b : Nat} (h : Rea nx wo i x) : Rea nx wo i b ∨ Rea nx (b : Int) i x := by
  induction h with
  | here h =>
    by_cases e : i = b
    · subst e; exact .inl (.here h)
    · exact .inr (.here (int_ne e))
  | @step j k h1 h2 h3 ih =>
    rcases ih with ih | ih
    · exact .inl ih
    · by_cases e : k = b
      · subst e; exact .inl (h1.step h2 h3)
      · exact .inr (ih.step h2 (int_ne e))

theorem Dom.trans {a b c : Nat} (h : Dom nx a b) (h2 : Dom nx b c) : Dom nx a c := by
  refine ⟨h.1, h2.2.1, ?_⟩
  by_cases e : a = c
  · exact .inl e
  · right
    intro hr
    rcases h.2.2 with rfl | h1
    · rcases h2.2.2 with rfl | h3
      · exact e rfl
      · exact h3 hr
    · rcases h2.2.2 with rfl | h3
      · exact h1 hr
      · rcases hr.by_ (b := b) with h4 | h4
        · exact h1 h4
        · exact h3 h4

/-- which of two one meets first -/
theorem Rea.first {x a b : Nat} (hab : a ≠ b) (h : Rea nx (-1) 0 x) : Rea nx (b : Int) 0 a ∨ Rea nx (a : Int) 0 b ∨ (Rea nx (a : Int) 0 x ∧ Rea nx (b : Int) 0 x) := by
  induction h with
  | here h =>
    by_cases e : 0 = a
    · subst e; exact .inl (.here (int_ne hab))
    · by_cases e2 : 0 = b
      · subst e2; exact .inr (.inl (.here (int_ne hab.symm)))
      · exact .inr (.inr ⟨.here (int_ne e), .here (int_ne e2)⟩)
  | @step j k h1 h2 h3 ih =>
    rcases ih with ih | ih | ⟨i1, i2⟩
    · exact .inl ih
    · exact .inr (.inl ih)
    · by_cases e : k = a
      · subst e; exact .inl (i2.step h2 (int_ne hab))
      · by_cases e2 : k = b
        · subst e2; exact .inr (.inl (i1.step h2 (int_ne e)))
        · exact .inr (.inr ⟨i1.step h2 (int_ne e), i2.step h2 (int_ne e2)⟩)

theorem Dom.anti {a b : Nat} (h : Dom nx a b) (h2 : Dom nx b a) : a = b := by
  by_cases e : a = b
  · exact e
  · exfalso
    have n1 : ¬ Rea nx (a : Int) 0 b := h.2.2.resolve_left e
    have n2 : ¬ Rea nx (b : Int) 0 a := h2.2.2.resolve_left (Ne.symm e)
    rcases Rea.first e h.1 with h3 | h3 | ⟨h3, h4⟩
    · exact n2 h3
    · exact n1 h3
    · exact absurd rfl h3.stop

/-- which of two one meets last -/
theorem Rea.last {x a b : Nat} (hab : a ≠ b) (h : Rea nx (-1) 0 x) : Rea nx (a : Int) b x ∨ Rea nx (b : Int) a x ∨ (Rea nx (a : Int) 0 x ∧ Rea nx (b : Int) 0 x) := by
  induction h with
  | here h =>
    by_cases e : 0 = a
    · subst e; exact .inr (.inl (.here (int_ne hab)))
    · by_cases e2 : 0 = b
      · subst e2; exact .inl (.here (int_ne hab.symm))
      · exact .inr (.inr ⟨.here (int_ne e), .here (int_ne e2)⟩)
  | @step j k h1 h2 h3 ih =>
    by_cases e : k = a
    · subst e; exact .inr (.inl (.here (int_ne hab)))
    · by_cases e2 : k = b
      · subst e2; exact .inl (.here (int_ne e))
      · rcases ih with ih | ih | ⟨i1, i2⟩
        · exact .inl (ih.step h2 (int_ne e))
        · exact .inr (.inl (ih.step h2 (int_ne e2)))
        · exact .inr (.inr ⟨i1.step h2 (int_ne e), i2.step h2 (int_ne e2)⟩)

theorem Rea.plain {wo : Int} {i j : Nat} (h : Rea nx wo i j) : Rea nx (-1) i j := by
  induction h with
  | here => exact Rea.me nx i
  | step _ h2 _ ih => exact ih.step h2 (nat_ne _)

/-- LOWRY, MEDLOCK: of two that dominate a third the one dominates the other -/
theorem Dom.chain {a b c : Nat} (h : Dom nx a c) (h2 : Dom nx b c) : Dom nx a b ∨ Dom nx b a := by
  by_cases e : a = b
  · subst e; exact .inl (Dom.me h.1)
  · refine Classical.byContradiction fun hn => ?_
    rw [not_or] at hn
    have n1 : Rea nx (a : Int) 0 b := Classical.byContradiction fun h' => hn.1 ⟨h.1, h2.1, .inr h'⟩
    have n2 : Rea nx (b : Int) 0 a := Classical.byContradiction fun h' => hn.2 ⟨h2.1, h.1, .inr h'⟩
    have hac : a ≠ c := fun e => hn.2 (e ▸ h2)
    have hbc : b ≠ c := fun e => hn.1 (e ▸ h)
    have m1 := h.2.2.resolve_left hac
    have m2 := h2.2.2.resolve_left hbc
    rcases Rea.last e h.2.1 with h3 | h3 | ⟨h3, _⟩
    · exact m1 (n1.trans h3)
    · exact m2 (n2.trans h3)
    · exact m1 h3

/-- F1: the immediate dominator -/
def Idom (nx : List (List Int)) (j i : Nat) : Prop := j ≠ i ∧ Dom nx j i ∧ ∀ k, k ≠ i → Dom nx k i → Dom nx k j

theorem Idom.one {i j k : Nat} (h : Idom nx j i) (h2 : Idom nx k i) : j = k := Dom.anti (h2.2.2 j h.1 h.2.1) (h.2.2 k h2.1 h2.2.1)

/-- F1: what the tree says of a node -/
def TreeAt (nx : List (List Int)) (i : Nat) (t : Int) : Prop := (∃ j : Nat, t = j ∧ Idom nx j i) ∨ (t = -1 ∧ ∀ j, ¬ Idom nx j i)

theorem TreeAt.one {i : Nat} {t u : Int} (h : TreeAt nx i t) (h2 : TreeAt nx i u) : t = u := by
  rcases h with ⟨j, rfl, h⟩ | ⟨rfl, h⟩ <;> rcases h2 with ⟨k, rfl, h2⟩ | ⟨rfl, h2⟩
  · rw [h.one h2]
  · exact absurd h (h2 j)
  · exact absurd h2 (h k)
  · rfl

/-- F2: the edge of a node -/
def EdgeP (nx : List (List Int)) (i f : Nat) : Prop := ∃ k, Dom nx i k ∧ f ∈ sc nx k ∧ (f = i ∨ ¬ Dom nx i f)

/-- F2: where ways from a set meet -/
inductive Mt (nx : List (List Int)) (s : Nat) : Nat → Prop
  | one {i j : Nat} : s.testBit i = true → EdgeP nx i j → Mt nx s j
  | more {i j : Nat} : Mt nx s i → EdgeP nx i j → Mt nx s j

theorem Mt.least {s : Nat} {S : Nat → Prop} (h1 : ∀ i j, s.testBit i = true → EdgeP nx i j → S j) (h2 : ∀ i j, S i → EdgeP nx i j → S j) {j : Nat} (h : Mt nx s j) : S j := by
  induction h with
  | one a b => exact h1 _ _ a b
  | more _ b ih => exact h2 _ _ ih b

theorem Mt.or {a b j : Nat} : Mt nx (a ||| b) j ↔ Mt nx a j ∨ Mt nx b j := by
  constructor
  · intro h
    refine h.least (S := fun j => Mt nx a j ∨ Mt nx b j) (fun i j hi he => ?_) (fun i j hi he => hi.imp (fun h => .more h he) (fun h => .more h he))
    rw [Nat.testBit_or, Bool.or_eq_true] at hi
    exact hi.imp (fun h => .one h he) (fun h => .one h he)
  · rintro (h | h)
    · exact h.least (S := fun j => Mt nx (a ||| b) j) (fun i j hi he => .one (by rw [Nat.testBit_or, hi]; rfl) he) (fun i j hi he => .more hi he)
    · exact h.least (S := fun j => Mt nx (a ||| b) j) (fun i j hi he => .one (by rw [Nat.testBit_or, hi, Bool.or_true]) he) (fun i j hi he => .more hi he)

/-- those where ways from the set and from there meet are there already -/
theorem Mt.twice {a x j : Nat} (hx : ∀ i, x.testBit i = true ↔ Mt nx a i) : Mt nx (a ||| x) j ↔ Mt nx a j := by
  rw [Mt.or]
  constructor
  · rintro (h | h)
    · exact h
    · exact h.least (S := fun j => Mt nx a j) (fun i j hi he => .more ((hx i).1 hi) he) (fun i j hi he => .more hi he)
  · exact .inl

end

section
variable {nx : List (List Int)} (hc : ckWay nx = 0)
include hc

theorem Dom.lt {a b : Nat} (h : Dom nx a b) : a < nx.length ∧ b < nx.length := by
  have := ckWay_bd hc
  exact ⟨h.1.lt hc (by omega), h.2.1.lt hc (by omega)⟩

theorem EdgeP.lt {i f : Nat} (h : EdgeP nx i f) : i < nx.length ∧ f < nx.length := by
  obtain ⟨k, h1, h2, _⟩ := h
  exact ⟨(h1.lt hc).1, sc_lt hc h2⟩

theorem Mt.lt {s j : Nat} (h : Mt nx s j) : j < nx.length := by
  cases h with
  | one _ h => exact (h.lt hc).2
  | more _ h => exact (h.lt hc).2

omit hc in
/-- 0 alone dominates 0 -/
theorem Dom.zero_iff {a : Nat} : Dom nx a 0 ↔ a = 0 := by
  constructor
  · intro h
    rcases h.2.2 with h1 | h1
    · exact h1
    · refine Classical.byContradiction fun e => h1 (.here (int_ne (Ne.symm e)))
  · rintro rfl; exact Dom.me (Rea.me nx 0)

end

/-- dominance as Bools -/
theorem dom_bool (nx : List (List Int)) : ∃ f : Nat → Nat → Bool, ∀ i j, f i j = true ↔ Dom nx i j := ⟨fun i j => @decide (Dom nx i j) (Classical.propDecidable _), fun i j => by rw [@decide_eq_true_eq _ (Classical.propDecidable _)]⟩

/-- how many of those below n dominate a node -/
def dcnt (f : Nat → Nat → Bool) (i : Nat) : Nat → Nat
  | 0 => 0
  | n + 1 => dcnt f i n + (if f n i = true then 1 else 0)

section
variable {f : Nat → Nat → Bool}

theorem dcnt_le {i j : Nat} (h : ∀ k, f k i = true → f k j = true) : ∀ n, dcnt f i n ≤ dcnt f j n
  | 0 => Nat.le_refl _
  | n + 1 => by
    have := dcnt_le h n
    unfold dcnt
    by_cases h1 : f n i = true
    · rw [if_pos h1, if_pos (h n h1)]; omega
    · rw [if_neg h1]; omega

theorem dcnt_lt {i j x : Nat} (h : ∀ k, f k i = true → f k j = true) (hx : f x j = true) (hn : ¬ f x i = true) : ∀ n, x < n → dcnt f i n < dcnt f j n
  | 0, hx => by omega
  | n + 1, hlt => by
    unfold dcnt
    by_cases e : x = n
    · subst e
      have := dcnt_le h x
      rw [if_neg hn, if_pos hx]
      omega
    · have := dcnt_lt h hx hn n (by omega)
      by_cases h1 : f n i = true
      · rw [if_pos h1, if_pos (h n h1)]; omega
      · rw [if_neg h1]; omega

theorem dcnt_bd {i : Nat} : ∀ n, dcnt f i n ≤ n
  | 0 => Nat.le_refl _
  | n + 1 => by
    have := dcnt_bd (i := i) n
    unfold dcnt
    split <;> omega

theorem dcnt_dom {nx : List (List Int)} (hf : ∀ i j, f i j = true ↔ Dom nx i j) {i j : Nat} (h : Dom nx i j) (hne : i ≠ j) {n : Nat} (hj : j < n) : dcnt f i n < dcnt f j n :=
  dcnt_lt (fun k hk => (hf k j).2 (((hf k i).1 hk).trans h)) ((hf j j).2 (Dom.me h.2.1)) (fun h2 => hne (Dom.anti h ((hf j i).1 h2))) n hj

end

section
variable {nx : List (List Int)}

/-- a node that is not 0 has an immediate dominator -/
theorem idom_is (hc : ckWay nx = 0) {i : Nat} (hi : Rea nx (-1) 0 i) (h0 : i ≠ 0) : ∃ j, Idom nx j i := by
  obtain ⟨f, hf⟩ := dom_bool nx
  have step : ∀ m : Nat, ∀ j, j ≠ i → Dom nx j i → nx.length ≤ dcnt f j nx.length + m → ∃ j, Idom nx j i := by
    intro m
    induction m with
    | zero =>
      intro j hj hd hm
      refine ⟨j, hj, hd, fun k hk hkd => ?_⟩
      rcases hkd.chain hd with h | h
      · exact h
      · by_cases e : j = k
        · subst e; exact h
        · exfalso
          have h1 := dcnt_dom hf h e (hkd.lt hc).1
          have h2 := dcnt_bd (f := f) (i := k) nx.length
          omega
    | succ m ih =>
      intro j hj hd hm
      by_cases hall : ∀ k, k ≠ i → Dom nx k i → Dom nx k j
      · exact ⟨j, hj, hd, hall⟩
      · rw [Classical.not_forall] at hall
        obtain ⟨k, hall⟩ := hall
        rw [Classical.not_imp, Classical.not_imp] at hall
        obtain ⟨hk, hkd, hkj⟩ := hall
        have h := (hkd.chain hd).resolve_left hkj
        refine ih k hk hkd ?_
        have h1 := dcnt_dom hf h (fun e => hkj (e ▸ h)) (hkd.lt hc).1
        omega
  exact step nx.length 0 (Ne.symm h0) (Dom.zero hi) (by omega)

theorem no_idom_zero (j : Nat) : ¬ Idom nx j 0 := fun h => h.1 (Dom.zero_iff.1 h.2.1)

/-- the dominators of a node: itself and those of its immediate one -/
theorem dom_idom {i j : Nat} (h : Idom nx j i) (x : Nat) : Dom nx x i ↔ x = i ∨ Dom nx x j := by
  constructor
  · intro hx
    by_cases e : x = i
    · exact .inl e
    · exact .inr (h.2.2 x e hx)
  · rintro (rfl | hx)
    · exact Dom.me h.2.1.2.1
    · exact hx.trans h.2.1

theorem idom_not {i j : Nat} (h : Idom nx j i) : ¬ Dom nx i j := fun h2 => h.1 (Dom.anti h.2.1 h2)

end

/-- a set below n as a word -/
theorem word_of (n : Nat) (P : Nat → Prop) : ∃ W, W < 2 ^ n ∧ ∀ j, W.testBit j = true ↔ (j < n ∧ P j) := by
  refine ⟨setW ((List.range n).filter fun j => @decide (P j) (Classical.propDecidable _)), setW_lt fun x hx => ?_, fun j => ?_⟩
  · exact List.mem_range.1 (List.mem_filter.1 hx).1
  · rw [setW_bit, List.mem_filter, List.mem_range, @decide_eq_true_eq _ (Classical.propDecidable _)]

/-- the edges as words -/
theorem edge_words {nx : List (List Int)} (hc : ckWay nx = 0) : ∃ g : Nat → Nat, ∀ i, g i < 256 ∧ ∀ j, (g i).testBit j = true ↔ EdgeP nx i j := by
  have hb := ckWay_bd hc
  have h : ∀ i, ∃ W, W < 256 ∧ ∀ j, W.testBit j = true ↔ EdgeP nx i j := fun i => by
    obtain ⟨W, h1, h2⟩ := word_of nx.length (EdgeP nx i)
    refine ⟨W, Nat.lt_of_lt_of_le h1 (show 2 ^ nx.length ≤ 2 ^ 8 from Nat.pow_le_pow_right (by omega) (by omega)), fun j => ?_⟩
    rw [h2]
    exact ⟨fun h => h.2, fun h => ⟨(h.lt hc).2, h⟩⟩
  exact ⟨fun i => Classical.choose (h i), fun i => Classical.choose_spec (h i)⟩

end Go.Proofs.Ytmbabbdcijgnoaa
