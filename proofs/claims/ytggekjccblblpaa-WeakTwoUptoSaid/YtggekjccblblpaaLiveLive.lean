/-
  codemasonref.Live (K1): the walk.
-/
import Derived.Test.YtggekjccblblpaaLiveSpot
namespace Go.Proofs.Ytggekjccblblpaa
open Go.RowKit
set_option linter.unusedSimpArgs false
set_option linter.unusedVariables false
set_option maxRecDepth 100000

theorem us_step {p : List Bk} {want v i k : Nat} {b : Bk} {s : St} (hb : p[i]? = some b) (hs : b.code[k]? = some s) : Us p want v (i, k) ↔ UsesS s v := by
  constructor
  · rintro ⟨b', hb', ⟨s', hs', hu⟩ | ⟨hk, _⟩⟩
    · rw [hb] at hb'
      injection hb' with hb'
      subst hb'
      rw [hs] at hs'
      injection hs' with hs'
      subst hs'
      exact hu
    · rw [hb] at hb'
      injection hb' with hb'
      subst hb'
      have := (List.getElem?_eq_some_iff.1 hs).1
      simp only [] at hk
      omega
  · exact fun hu => ⟨b, hb, .inl ⟨s, hs, hu⟩⟩

theorem nx_step {p : List Bk} {v i k : Nat} {b : Bk} {s : St} (hb : p[i]? = some b) (hs : b.code[k]? = some s) {y : Nat × Nat} : Nx p v (i, k) y ↔ s.to ≠ (v : Int) ∧ y = (i, k + 1) := by
  constructor
  · rintro ⟨b', hb', ⟨s', hs', hu⟩ | ⟨hk, _⟩⟩
    · rw [hb] at hb'
      injection hb' with hb'
      subst hb'
      rw [hs] at hs'
      injection hs' with hs'
      subst hs'
      exact hu
    · rw [hb] at hb'
      injection hb' with hb'
      subst hb'
      have := (List.getElem?_eq_some_iff.1 hs).1
      simp only [] at hk
      omega
  · exact fun hu => ⟨b, hb, .inl ⟨s, hs, hu.1, hu.2⟩⟩

theorem us_end {p : List Bk} {want v i : Nat} {b : Bk} (hb : p[i]? = some b) : Us p want v (i, b.code.length) ↔ (b.test = (v : Int) ∨ (b.test = -1 ∧ b.th = -1 ∧ want.testBit v = true)) := by
  constructor
  · rintro ⟨b', hb', ⟨s', hs', hu⟩ | ⟨hk, hu⟩⟩
    · rw [hb] at hb'
      injection hb' with hb'
      subst hb'
      have := (List.getElem?_eq_some_iff.1 hs').1
      simp only [] at this
      omega
    · rw [hb] at hb'
      injection hb' with hb'
      subst hb'
      exact hu
  · exact fun hu => ⟨b, hb, .inr ⟨rfl, hu⟩⟩

theorem nx_end {p : List Bk} {v i : Nat} {b : Bk} (hb : p[i]? = some b) {y : Nat × Nat} : Nx p v (i, b.code.length) y ↔ ∃ j : Nat, (j : Int) ∈ nxB b ∧ y = (j, 0) := by
  constructor
  · rintro ⟨b', hb', ⟨s', hs', hu⟩ | ⟨hk, hu⟩⟩
    · rw [hb] at hb'
      injection hb' with hb'
      subst hb'
      have := (List.getElem?_eq_some_iff.1 hs').1
      simp only [] at this
      omega
    · rw [hb] at hb'
      injection hb' with hb'
      subst hb'
      exact hu
  · exact fun hu => ⟨b, hb, .inr ⟨rfl, hu⟩⟩

/-- the length that a slice has -/
def lenW : Value → Nat
  | .slice _ n _ => n
  | _ => 0

theorem bitB_small {W v : Nat} (hv : v < 32) : bitB W (v : Int) = W.testBit v := by unfold bitB; rw [decide_eq_true (by omega)]; rfl

theorem nxB_in {n : Nat} {p : List Bk} (hc : ckProg n p = 0) {i : Nat} {b : Bk} (hb : p[i]? = some b) {j : Int} (hj : j ∈ nxB b) : 0 ≤ j ∧ j < p.length := by
  have hok := ckProg_at hc hb
  obtain ⟨_, h6, h7, h8⟩ := hok
  unfold nxB at hj
  rw [List.mem_append] at hj
  rcases hj with hj | hj
  · split at hj
    · cases hj
    · rw [List.mem_singleton] at hj; omega
  · split at hj
    · rw [List.mem_singleton] at hj; omega
    · cases hj

end Go.Proofs.Ytggekjccblblpaa
