/-
  codemasonref.Tame and Loop (G).
-/
import Derived.Test.YtfijkkllfbpepaaRuleRef
import Derived.Test.YtfijkkllfbpepaaWaySets
import Derived.Test.YtfijkkllfbpepaaPureLoop
import Derived.Deep.RegionWith
namespace Go.Proofs.Ytfijkkllfbpepaa
open Go.RowKit
set_option linter.unusedSimpArgs false
set_option linter.unusedVariables false
set_option maxRecDepth 100000

theorem bk_lt {nx : List (List Int)} {p : Nat × Nat} (hc : ckWay nx = 0) (h : p ∈ bkL nx) : p.1 < nx.length ∧ p.2 < nx.length := by
  have := bkM_mem.1 h
  exact ⟨this.1, this.2.1⟩

theorem bkL_len (nx : List (List Int)) (hc : ckWay nx = 0) : (bkL nx).length ≤ 64 := by
  obtain ⟨b1, b2, _⟩ := ckWay_bd hc
  have h := bkM_len nx nx.length
  have : nx.length * nx.length ≤ 8 * 8 := Nat.mul_le_mul b2 b2
  unfold bkL
  omega

/-- the first k pairs that go back are ruled -/
def TmK (nx : List (List Int)) (k : Nat) : Prop := ∀ a b, (a, b) ∈ (bkL nx).take k → Dom nx b a

theorem TmK.next {nx : List (List Int)} {k a b : Nat} (h : TmK nx k) (hk : (bkL nx)[k]? = some (a, b)) (hd : Dom nx b a) : TmK nx (k + 1) := fun x y hm => by
  rw [List.take_add_one, hk, Option.toList_some, List.mem_append, List.mem_singleton] at hm
  rcases hm with hm | hm
  · exact h x y hm
  · injection hm with e1 e2
    subst e1 e2
    exact hd

/-- G1: the part of the loop at h that the first k pairs give -/
def LpK (nx : List (List Int)) (h k acc : Nat) : Prop := ∀ x, acc.testBit x = true ↔ ∃ a, (a, h) ∈ (bkL nx).take k ∧ Dom nx h a ∧ (x = h ∨ (Rea nx (-1) 0 x ∧ Rea nx (h : Int) x a))

/-- .. and the nodes below c that come to a without h -/
def LpC (nx : List (List Int)) (h a acc c acc' : Nat) : Prop := ∀ x, acc'.testBit x = true ↔ acc.testBit x = true ∨ x = h ∨ (x < c ∧ Rea nx (-1) 0 x ∧ Rea nx (h : Int) x a)

theorem LpK.skip {nx : List (List Int)} {h k acc a b : Nat} (hl : LpK nx h k acc) (hk : (bkL nx)[k]? = some (a, b)) (hn : ¬ (b = h ∧ Dom nx h a)) : LpK nx h (k + 1) acc := fun x => by
  rw [hl, List.take_add_one, hk, Option.toList_some]
  simp only [List.mem_append, List.mem_singleton]
  constructor
  · rintro ⟨c, h1, h2⟩; exact ⟨c, .inl h1, h2⟩
  · rintro ⟨c, h1 | h1, h2, h3⟩
    · exact ⟨c, h1, h2, h3⟩
    · injection h1 with e1 e2
      subst e1 e2
      exact absurd ⟨rfl, h2⟩ hn

theorem LpK.take {nx : List (List Int)} (hc : ckWay nx = 0) {h k acc acc' a : Nat} (hl : LpK nx h k acc) (hk : (bkL nx)[k]? = some (a, h)) (hd : Dom nx h a) (hcc : LpC nx h a acc nx.length acc') : LpK nx h (k + 1) acc' := fun x => by
  rw [hcc, hl, List.take_add_one, hk, Option.toList_some]
  simp only [List.mem_append, List.mem_singleton]
  constructor
  · rintro (⟨c, h1, h2⟩ | h1 | ⟨_, h1, h2⟩)
    · exact ⟨c, .inl h1, h2⟩
    · exact ⟨a, .inr rfl, hd, .inl h1⟩
    · exact ⟨a, .inr rfl, hd, .inr ⟨h1, h2⟩⟩
  · rintro ⟨c, h1 | h1, h2, h3⟩
    · exact .inl ⟨c, h1, h2, h3⟩
    · injection h1 with e1 _
      subst e1
      rcases h3 with h3 | ⟨h3, h4⟩
      · exact .inr (.inl h3)
      · exact .inr (.inr ⟨(Rea.lt hc h3 (ckWay_bd hc).1), h3, h4⟩)

theorem LpC.yes {nx : List (List Int)} {h a acc c acc' : Nat} (hl : LpC nx h a acc c acc') (h1 : Rea nx (-1) 0 c) (h2 : Rea nx (h : Int) c a) : LpC nx h a acc (c + 1) (acc' ||| 2 ^ c) := fun x => by
  rw [Nat.testBit_or, Bool.or_eq_true, hl, Nat.testBit_two_pow, decide_eq_true_eq]
  constructor
  · rintro ((h3 | h3 | ⟨h3, h4⟩) | h3)
    · exact .inl h3
    · exact .inr (.inl h3)
    · exact .inr (.inr ⟨by omega, h4⟩)
    · subst h3; exact .inr (.inr ⟨by omega, h1, h2⟩)
  · rintro (h3 | h3 | ⟨h3, h4⟩)
    · exact .inl (.inl h3)
    · exact .inl (.inr (.inl h3))
    · by_cases e : c = x
      · exact .inr e
      · exact .inl (.inr (.inr ⟨by omega, h4⟩))

theorem LpC.no {nx : List (List Int)} {h a acc c acc' : Nat} (hl : LpC nx h a acc c acc') (hn : ¬ (Rea nx (-1) 0 c ∧ Rea nx (h : Int) c a)) : LpC nx h a acc (c + 1) acc' := fun x => by
  rw [hl]
  constructor
  · rintro (h3 | h3 | ⟨h3, h4⟩)
    · exact .inl h3
    · exact .inr (.inl h3)
    · exact .inr (.inr ⟨by omega, h4⟩)
  · rintro (h3 | h3 | ⟨h3, h4⟩)
    · exact .inl h3
    · exact .inr (.inl h3)
    · by_cases e : c = x
      · subst e; exact absurd h4 hn
      · exact .inr (.inr ⟨by omega, h4⟩)

theorem LpC.start (nx : List (List Int)) (h a acc : Nat) : LpC nx h a acc 0 (acc ||| 2 ^ h) := fun x => by
  rw [Nat.testBit_or, Bool.or_eq_true, Nat.testBit_two_pow, decide_eq_true_eq]
  constructor
  · rintro (h1 | h1)
    · exact .inl h1
    · exact .inr (.inl h1.symm)
  · rintro (h1 | h1 | ⟨h1, _⟩)
    · exact .inl h1
    · exact .inr h1.symm
    · omega

theorem LpK.done {nx : List (List Int)} {h acc W : Nat} (hl : LpK nx h (bkL nx).length acc) (hW : ∀ x, W.testBit x = true ↔ LoopP nx h x) : acc = W := word_ext fun x => by
  rw [hl, hW, List.take_length]
  exact Iff.rfl

end Go.Proofs.Ytfijkkllfbpepaa
