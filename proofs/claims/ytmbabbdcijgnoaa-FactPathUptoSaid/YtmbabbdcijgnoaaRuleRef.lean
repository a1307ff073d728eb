/-
  codemasonref.Rules and Edge (F1, F2).
-/
import Derived.Test.YtmbabbdcijgnoaaReachRef
import Derived.Test.YtmbabbdcijgnoaaPureRule
namespace Go.Proofs.Ytmbabbdcijgnoaa
open Go.RowKit
set_option linter.unusedSimpArgs false
set_option linter.unusedVariables false
set_option maxRecDepth 100000

theorem has_iff {hs : List Nat} {j : Nat} {b : Bool} (h : j ∈ hs ↔ b = true) : hasB (ni hs) (j : Int) = b := by
  rw [Bool.eq_iff_iff, hasB_iff, ni_mem]
  exact h

theorem bool_of (P : Prop) : ∃ b : Bool, b = true ↔ P := by
  by_cases h : P
  · exact ⟨true, by simp [h]⟩
  · exact ⟨false, by simp [h]⟩

/-- the edge of i by the first k nodes -/
def EdK (nx : List (List Int)) (i k acc : Nat) : Prop := ∀ f, acc.testBit f = true ↔ ∃ q, q < k ∧ Dom nx i q ∧ f ∈ sc nx q ∧ (f = i ∨ ¬ Dom nx i f)

/-- .. and by the first c edges of node k -/
def EdC (nx : List (List Int)) (i : Nat) (ss : List Nat) (acc c acc' : Nat) : Prop := ∀ f, acc'.testBit f = true ↔ acc.testBit f = true ∨ (f ∈ ss.take c ∧ (f = i ∨ ¬ Dom nx i f))

theorem EdK.skip {nx : List (List Int)} {i k acc : Nat} (h : EdK nx i k acc) (hd : ¬ Dom nx i k) : EdK nx i (k + 1) acc := fun f => by
  rw [h]
  constructor
  · rintro ⟨q, h1, h2⟩; exact ⟨q, by omega, h2⟩
  · rintro ⟨q, h1, h2, h3⟩
    by_cases e : q = k
    · subst e; exact absurd h2 hd
    · exact ⟨q, by omega, h2, h3⟩

theorem EdK.take {nx : List (List Int)} {i k acc acc' : Nat} (h : EdK nx i k acc) (hd : Dom nx i k) (hc : EdC nx i (sc nx k) acc (sc nx k).length acc') : EdK nx i (k + 1) acc' := fun f => by
  rw [hc, h, List.take_length]
  constructor
  · rintro (⟨q, h1, h2⟩ | ⟨h1, h2⟩)
    · exact ⟨q, by omega, h2⟩
    · exact ⟨k, by omega, hd, h1, h2⟩
  · rintro ⟨q, h1, h2, h3, h4⟩
    by_cases e : q = k
    · subst e; exact .inr ⟨h3, h4⟩
    · exact .inl ⟨q, by omega, h2, h3, h4⟩

theorem take_mem {ss : List Nat} {c x f : Nat} (h : ss[c]? = some x) : f ∈ ss.take (c + 1) ↔ f ∈ ss.take c ∨ f = x := by
  rw [List.take_add_one, h, Option.toList_some, List.mem_append, List.mem_singleton]

theorem EdC.yes {nx : List (List Int)} {i : Nat} {ss : List Nat} {acc c acc' x : Nat} (h : EdC nx i ss acc c acc') (hx : ss[c]? = some x) (hd : x = i ∨ ¬ Dom nx i x) : EdC nx i ss acc (c + 1) (acc' ||| 2 ^ x) := fun f => by
  rw [Nat.testBit_or, Bool.or_eq_true, h, Nat.testBit_two_pow, decide_eq_true_eq, take_mem hx]
  constructor
  · rintro ((h1 | ⟨h1, h2⟩) | h1)
    · exact .inl h1
    · exact .inr ⟨.inl h1, h2⟩
    · subst h1; exact .inr ⟨.inr rfl, hd⟩
  · rintro (h1 | ⟨h1 | h1, h2⟩)
    · exact .inl (.inl h1)
    · exact .inl (.inr ⟨h1, h2⟩)
    · exact .inr h1.symm

theorem EdC.no {nx : List (List Int)} {i : Nat} {ss : List Nat} {acc c acc' x : Nat} (h : EdC nx i ss acc c acc') (hx : ss[c]? = some x) (hd : ¬ (x = i ∨ ¬ Dom nx i x)) : EdC nx i ss acc (c + 1) acc' := fun f => by
  rw [h, take_mem hx]
  constructor
  · rintro (h1 | ⟨h1, h2⟩)
    · exact .inl h1
    · exact .inr ⟨.inl h1, h2⟩
  · rintro (h1 | ⟨h1 | h1, h2⟩)
    · exact .inl h1
    · exact .inr ⟨h1, h2⟩
    · subst h1; exact absurd h2 hd

theorem EdK.done {nx : List (List Int)} (hc : ckWay nx = 0) {i acc W : Nat} (h : EdK nx i nx.length acc) (hW : ∀ j, W.testBit j = true ↔ EdgeP nx i j) : acc = W := word_ext fun f => by
  rw [h, hW]
  constructor
  · rintro ⟨q, _, h2, h3⟩; exact ⟨q, h2, h3⟩
  · rintro ⟨q, h2, h3⟩; exact ⟨q, (h2.lt hc).2, h2, h3⟩

theorem or_lt8 {a x : Nat} (ha : a < 256) (hx : x < 8) : a ||| 2 ^ x < 256 := Nat.or_lt_two_pow (n := 8) ha (Nat.pow_lt_pow_right (by omega) hx)

end Go.Proofs.Ytmbabbdcijgnoaa
