/-
  rule.narrow, rule.Table (F1).
-/
import Derived.Test.YtfhnhbkdhdocjaaMWay
import Derived.Test.YtfhnhbkdhdocjaaMRuleR
import Derived.Test.YtfhnhbkdhdocjaaMPure
namespace Go.Proofs.Ytfhnhbkdhdocjaa
open Go.RowKit
set_option linter.unusedSimpArgs false
set_option linter.unusedVariables false
set_option maxRecDepth 100000

/-- the edges of the first i of those in the order, and the first c of the next one -/
def NarD (nx : List (List Int)) (L : List Nat) (i c : Nat) (v t : Nat) : Prop := (∃ p, p < i ∧ L[p]? = some v ∧ t ∈ sc nx v) ∨ (L[i]? = some v ∧ t ∈ (sc nx v).take c)

theorem NarD.zero {nx : List (List Int)} {L : List Nat} {v t : Nat} (h : NarD nx L 0 0 v t) : False := by
  rcases h with ⟨p, hp, _⟩ | ⟨_, h⟩
  · omega
  · simp at h

theorem NarD.step {nx : List (List Int)} {L : List Nat} {i c x y v t : Nat} (hv : L[i]? = some x) (ht : (sc nx x)[c]? = some y) (h : NarD nx L i (c + 1) v t) : NarD nx L i c v t ∨ (v = x ∧ t = y) := by
  rcases h with h | ⟨h1, h2⟩
  · exact .inl (.inl h)
  · rw [hv] at h1
    injection h1 with h1
    subst h1
    rw [List.take_add_one, ht, Option.toList_some, List.mem_append, List.mem_singleton] at h2
    rcases h2 with h2 | h2
    · exact .inl (.inr ⟨hv, h2⟩)
    · exact .inr ⟨rfl, h2⟩

theorem NarD.done {nx : List (List Int)} {L : List Nat} {i c x v t : Nat} (hv : L[i]? = some x) (hc : (sc nx x).length ≤ c) (h : NarD nx L (i + 1) 0 v t) : NarD nx L i c v t := by
  rcases h with ⟨p, hp, h1, h2⟩ | ⟨_, h⟩
  · by_cases e : p = i
    · subst e
      rw [hv] at h1
      injection h1 with h1
      subst h1
      exact .inr ⟨hv, by rw [List.take_of_length_le hc]; exact h2⟩
    · exact .inl ⟨p, by omega, h1, h2⟩
  · simp at h

theorem NarD.full {nx : List (List Int)} {L : List Nat} {v t : Nat} (hv : v ∈ L) (ht : t ∈ sc nx v) : NarD nx L L.length 0 v t := by
  obtain ⟨p, hp, e⟩ := List.getElem_of_mem hv
  exact .inl ⟨p, hp, by rw [List.getElem?_eq_getElem hp, e], ht⟩

theorem u32_kept {a b t : Nat} (ha : a < 4294967296) (hb : b < 4294967296) (ht : t < 32) : bits .and .u32 ((b : Nat) : Int) (bits .or .u32 ((a : Nat) : Int) ((2 : Int) ^ t % 4294967296)) = ((b &&& (a ||| 2 ^ t) : Nat) : Int) := by
  have h2 : 2 ^ t < 2 ^ 32 := by have := pow_lt_32 ht; omega
  rw [pow_u32' ht, u32_or_nat _ _ ha (pow_lt_32 ht), u32_and_nat _ _ hb (Nat.or_lt_two_pow (n := 32) ha h2)]

/-- all words of one value where S holds, else 0 -/
structure Fil (nx : List (List Int)) (tb : List Nat) (S : Nat → Prop) : Prop where
  len : tb.length = nx.length
  at_ : ∀ (i W : Nat), tb[i]? = some W → (S i ∧ W = 4294967295) ∨ (¬ S i ∧ W = 0)

theorem Fil.start (nx : List (List Int)) (n : Nat) (h : nx.length = n) : Fil nx (List.replicate n 0) (fun x => x ∈ ([] : List Nat)) := by
  refine ⟨by simp [h], fun i W hW => .inr ⟨by simp, ?_⟩⟩
  rw [List.getElem?_replicate] at hW
  split at hW
  · injection hW with hW; exact hW.symm
  · cases hW

theorem Fil.add {nx : List (List Int)} {tb : List Nat} {S S' : Nat → Prop} (h : Fil nx tb S) {x : Nat} (hs : ∀ y, S' y ↔ S y ∨ y = x) : Fil nx (tb.set x 4294967295) S' := by
  refine ⟨by rw [List.length_set]; exact h.len, fun i W hW => ?_⟩
  rw [List.getElem?_set] at hW
  split at hW
  · rename_i e
    subst e
    split at hW
    · injection hW with hW
      exact .inl ⟨(hs _).2 (.inr rfl), hW.symm⟩
    · cases hW
  · rename_i e
    rcases h.at_ i W hW with ⟨h1, h2⟩ | ⟨h1, h2⟩
    · exact .inl ⟨(hs _).2 (.inl h1), h2⟩
    · exact .inr ⟨fun h3 => ((hs _).1 h3).elim h1 (fun h4 => e h4.symm), h2⟩

theorem Fil.nar {nx : List (List Int)} {tb : List Nat} {S : Nat → Prop} (hc : ckWay nx = 0) (h : Fil nx tb S) (hs : ∀ y, S y ↔ Rea nx (-1) 0 y) : NarI nx (tb.set 0 1) := by
  have hb := ckWay_bd hc
  have hat : ∀ {i W : Nat}, (tb.set 0 1)[i]? = some W → (i = 0 ∧ W = 1) ∨ (i ≠ 0 ∧ tb[i]? = some W) := by
    intro i W hW
    rw [List.getElem?_set] at hW
    split at hW
    · rename_i e
      subst e
      split at hW
      · injection hW with hW; exact .inl ⟨rfl, hW.symm⟩
      · cases hW
    · rename_i e
      exact .inr ⟨fun e' => e e'.symm, hW⟩
  refine ⟨by rw [List.length_set]; exact h.len, fun i W hW => ?_, fun i W hW hn => ?_, ?_, fun i W hW j hj => ?_⟩
  · rcases hat hW with ⟨_, rfl⟩ | ⟨_, h2⟩
    · omega
    · rcases h.at_ i W h2 with ⟨_, h3⟩ | ⟨_, h3⟩ <;> omega
  · rcases hat hW with ⟨rfl, _⟩ | ⟨_, h2⟩
    · exact absurd (Rea.me nx 0) hn
    · rcases h.at_ i W h2 with ⟨h3, _⟩ | ⟨_, h3⟩
      · exact absurd ((hs i).1 h3) hn
      · exact h3
  · rw [List.getElem?_set, if_pos rfl, if_pos (by rw [h.len]; omega)]
  · rcases hat hW with ⟨rfl, rfl⟩ | ⟨_, h2⟩
    · rw [Dom.zero_iff.1 hj]; rfl
    · rcases h.at_ i W h2 with ⟨_, rfl⟩ | ⟨h3, _⟩
      · have := (hj.lt hc).1
        rw [show (4294967295 : Nat) = 2 ^ 32 - 1 from rfl, Nat.testBit_two_pow_sub_one]
        simp only [decide_eq_true_eq]
        omega
      · exact absurd ((hs i).2 hj.2.1) h3

theorem Tbl.of {nx : List (List Int)} {L : List Nat} (hc : ckWay nx = 0) (hL : ∀ y, y ∈ L ↔ Rea nx (-1) 0 y) {s0 : Nat} {tb : List Nat} (h : Nar nx s0 tb false (NarD nx L L.length 0)) : Tbl nx tb := by
  have hd : ∀ v t, Rea nx (-1) 0 v → t ∈ sc nx v → okE tb v t := fun v t hv ht => h.ok rfl v t (NarD.full ((hL v).2 hv) ht)
  exact ⟨h.inv.len, fun i W hW => h.inv.lt256 hc hd hW, fun i W hW j => h.inv.bits hc hd hW j⟩

end Go.Proofs.Ytfhnhbkdhdocjaa
