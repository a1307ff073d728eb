/-
  Plain mathematics of a search for an exit that marks what it has seen (H1): no program's text.
-/
import Derived.Test.YtfijkkllfbpepaaPureHang
namespace Go.Proofs.Ytfijkkllfbpepaa
set_option linter.unusedSimpArgs false
set_option linter.unusedVariables false

/-- one comes from v to an exit, past no node of the word W -/
inductive ExW (nx : List (List Int)) (W : Nat) : Nat → Prop
  | here {v : Nat} : W.testBit v = false → sc nx v = [] → ExW nx W v
  | step {v c : Nat} : W.testBit v = false → c ∈ sc nx v → ExW nx W c → ExW nx W v

theorem bit_or_pow {W i j : Nat} : (W ||| 2 ^ i).testBit j = (W.testBit j || decide (i = j)) := by
  rw [Nat.testBit_or, Nat.testBit_two_pow]

section
variable {nx : List (List Int)} {W W1 W2 : Nat}

theorem ExW.free {v : Nat} (h : ExW nx W v) : W.testBit v = false := by
  cases h with
  | here h _ => exact h
  | step h _ _ => exact h

theorem ExW.mono {v : Nat} (hs : ∀ j, W1.testBit j = true → W.testBit j = true) (h : ExW nx W v) : ExW nx W1 v := by
  have hf : ∀ j, W.testBit j = false → W1.testBit j = false := fun j hj => by
    cases e : W1.testBit j with
    | false => rfl
    | true => rw [hs j e] at hj; cases hj
  induction h with
  | here h1 h2 => exact .here (hf _ h1) h2
  | step h1 h2 _ ih => exact .step (hf _ h1) h2 ih

theorem ExW.cut {v u : Nat} (h : ExW nx W u) : ExW nx (W ||| 2 ^ v) u ∨ sc nx v = [] ∨ ∃ c, c ∈ sc nx v ∧ ExW nx (W ||| 2 ^ v) c := by
  induction h with
  | @here a h1 h2 =>
    by_cases e : v = a
    · subst e; exact .inr (.inl h2)
    · exact .inl (.here (by rw [bit_or_pow, h1]; simp [e]) h2)
  | @step a c h1 h2 _ ih =>
    rcases ih with ih | ih
    · by_cases e : v = a
      · subst e; exact .inr (.inr ⟨c, h2, ih⟩)
      · exact .inl (.step (by rw [bit_or_pow, h1]; simp [e]) h2 ih)
    · exact .inr ih

/-- at a node not yet seen -/
theorem exW_iff {v : Nat} (hf : W.testBit v = false) : ExW nx W v ↔ sc nx v = [] ∨ ∃ c, c ∈ sc nx v ∧ ExW nx (W ||| 2 ^ v) c := by
  constructor
  · intro h
    rcases h.cut (v := v) with h | h
    · have := h.free
      rw [bit_or_pow] at this
      simp at this
    · exact h
  · rintro (h | ⟨c, hc, h⟩)
    · exact .here hf h
    · exact .step hf hc (h.mono fun j hj => by rw [bit_or_pow, hj]; rfl)

/-- more was seen, and from what was seen since no exit is to be had -/
structure Dd (nx : List (List Int)) (W W1 : Nat) : Prop where
  sub : ∀ j, W.testBit j = true → W1.testBit j = true
  dead : ∀ j, W1.testBit j = true → W.testBit j = false → ¬ ExW nx W j

theorem Dd.refl (nx : List (List Int)) (W : Nat) : Dd nx W W := ⟨fun _ h => h, fun j h h2 => by rw [h] at h2; cases h2⟩

theorem Dd.keep {v : Nat} (h : Dd nx W W1) (hx : ExW nx W v) : ExW nx W1 v := by
  have hf : ∀ j, W.testBit j = false → ExW nx W j → W1.testBit j = false := fun j hj hj2 => by
    cases e : W1.testBit j with
    | false => rfl
    | true => exact absurd hj2 (h.dead j e hj)
  induction hx with
  | here h1 h2 => exact .here (hf _ h1 (.here h1 h2)) h2
  | step h1 h2 h3 ih => exact .step (hf _ h1 (.step h1 h2 h3)) h2 ih

theorem Dd.same {v : Nat} (h : Dd nx W W1) : ExW nx W1 v ↔ ExW nx W v := ⟨fun hx => hx.mono h.sub, h.keep⟩

theorem Dd.trans (h : Dd nx W W1) (h2 : Dd nx W1 W2) : Dd nx W W2 := by
  refine ⟨fun j hj => h2.sub j (h.sub j hj), fun j hj hf hx => ?_⟩
  cases e : W1.testBit j with
  | true => exact h.dead j e hf hx
  | false => exact h2.dead j hj e (h.keep hx)

theorem Dd.seen {v : Nat} (hf : W.testBit v = false) (hne : sc nx v ≠ []) (hno : ∀ c, c ∈ sc nx v → ¬ ExW nx (W ||| 2 ^ v) c) : Dd nx W (W ||| 2 ^ v) := by
  refine ⟨fun j hj => by rw [bit_or_pow, hj]; rfl, fun j hj hj2 hx => ?_⟩
  rw [bit_or_pow, hj2] at hj
  simp at hj
  subst hj
  rcases (exW_iff hf).1 hx with h | ⟨c, h1, h2⟩
  · exact hne h
  · exact hno c h1 h2

/-- how many are not yet seen -/
def fvW (W : Nat) : Nat → Nat
  | 0 => 0
  | n + 1 => fvW W n + if W.testBit n = true then 0 else 1

theorem fvW_sub (hs : ∀ j, W.testBit j = true → W1.testBit j = true) : ∀ n, fvW W1 n ≤ fvW W n
  | 0 => Nat.le_refl _
  | n + 1 => by
    have ih := fvW_sub hs n
    simp only [fvW]
    by_cases h : W.testBit n = true
    · rw [if_pos h, if_pos (hs n h)]; exact ih
    · rw [if_neg h]; split <;> omega

theorem fvW_less {v : Nat} (hf : W.testBit v = false) : ∀ n, v < n → fvW (W ||| 2 ^ v) n + 1 ≤ fvW W n
  | 0, h => absurd h (by omega)
  | n + 1, h => by
    simp only [fvW]
    by_cases e : v = n
    · subst e
      have h1 := fvW_sub (W := W) (W1 := W ||| 2 ^ v) (fun j hj => by rw [bit_or_pow, hj]; rfl) v
      rw [hf, bit_or_pow]
      simp
      exact h1
    · have ih := fvW_less hf n (by omega)
      have hb : (W ||| 2 ^ v).testBit n = W.testBit n := by rw [bit_or_pow]; simp [e]
      rw [hb]
      omega

theorem fvW_le (W : Nat) : ∀ n, fvW W n ≤ n
  | 0 => Nat.le_refl _
  | n + 1 => by
    have := fvW_le W n
    simp only [fvW]
    split <;> omega

theorem ex_end {wo : Int} {v : Nat} (hW : ∀ j, W.testBit j = true ↔ (j : Int) = wo) : ExW nx W v ↔ EndP nx wo v := by
  have hn : ∀ j : Nat, W.testBit j = false ↔ (j : Int) ≠ wo := fun j => by
    rw [← Bool.not_eq_true, hW]
  constructor
  · intro h
    induction h with
    | here h1 h2 => exact ⟨_, .here ((hn _).1 h1), h2⟩
    | @step a c h1 h2 h3 ih =>
      obtain ⟨j, hj, hs⟩ := ih
      exact ⟨j, hj.back ((hn _).1 h1) h2, hs⟩
  · rintro ⟨j, hj, hs⟩
    have key : ∀ {j}, Rea nx wo v j → ExW nx W j → ExW nx W v := fun {j} h => by
      induction h with
      | here _ => exact id
      | @step a b h1 h2 _ ih => exact fun hx => ih (.step ((hn _).2 h1.stop) h2 hx)
    exact key hj (.here ((hn _).2 hj.stop) hs)

theorem ex_zero {v : Nat} : ExW nx 0 v ↔ EndP nx (-1) v := ex_end fun j => by
  rw [Nat.zero_testBit]
  exact ⟨fun h => (by cases h), fun h => absurd h (nat_ne j)⟩

theorem ex_pow {v k : Nat} : ExW nx (2 ^ k) v ↔ EndP nx (k : Int) v := ex_end fun j => by
  rw [Nat.testBit_two_pow, decide_eq_true_eq]
  omega

end

end Go.Proofs.Ytfijkkllfbpepaa
