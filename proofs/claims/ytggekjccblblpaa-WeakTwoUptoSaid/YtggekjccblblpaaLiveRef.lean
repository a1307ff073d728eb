/-
  codemasonref.Reads, codemasonref.comes: what a step uses, places (K1).
-/
import Derived.Test.YtggekjccblblpaaMPure
import Derived.Test.YtggekjccblblpaaBlockNx
import Derived.Test.YtggekjccblblpaaMBase
namespace Go.Proofs.Ytggekjccblblpaa
open Go.RowKit
set_option linter.unusedSimpArgs false
set_option linter.unusedVariables false
set_option maxRecDepth 100000

/-- what a step uses, as a word -/
def rdW (s : St) : Nat := if s.op = 1 then 0 else if s.op = 2 then 2 ^ s.v.toNat else 2 ^ s.a.toNat ||| 2 ^ s.b.toNat

theorem testBit_pow (a v : Nat) : (2 ^ a).testBit v = decide (a = v) := by
  rw [Nat.testBit_two_pow]

theorem rdW_bit {n : Nat} {s : St} (hc : ckStep n n s.op s.to s.a s.b s.v = 0) (v : Nat) : (rdW s).testBit v = true ↔ UsesS s v := by
  obtain ⟨_, hcase⟩ := ckStep_cases hc
  unfold rdW UsesS
  rcases hcase with ⟨h1, _⟩ | ⟨h1, h2, h3⟩ | ⟨h1, h2, h3, h4, h5, h6⟩
  · rw [if_pos h1]; simp; omega
  · rw [if_neg (by omega), if_pos h1, testBit_pow, decide_eq_true_eq]; omega
  · rw [if_neg (by omega), if_neg (by omega), Nat.testBit_or, testBit_pow, testBit_pow, Bool.or_eq_true, decide_eq_true_eq, decide_eq_true_eq]; omega

theorem rdW_lt {n : Nat} {s : St} (hc : ckStep n n s.op s.to s.a s.b s.v = 0) (hn : n ≤ 6) : rdW s < 2 ^ 6 := by
  obtain ⟨_, hcase⟩ := ckStep_cases hc
  have hp : ∀ {k : Nat}, k < 6 → 2 ^ k < 2 ^ 6 := fun h => Nat.pow_lt_pow_right (by omega) h
  unfold rdW
  rcases hcase with ⟨h1, _⟩ | ⟨h1, h2, h3⟩ | ⟨h1, h2, h3, h4, h5, h6⟩
  · rw [if_pos h1]; decide
  · rw [if_neg (by omega), if_pos h1]; exact hp (by omega)
  · rw [if_neg (by omega), if_neg (by omega)]; exact Nat.or_lt_two_pow (hp (by omega)) (hp (by omega))

/-! ### Places -/

/-- places as values -/
def cSp (x : Nat × Nat) : List Value := [.int .i64 (x.1 : Int), .int .i64 (x.2 : Int)]

theorem cSp_len (x : Nat × Nat) : (cSp x).length = 2 := rfl

theorem cSp_one (l : List (Nat × Nat)) : ∀ u ∈ rv cSp l, u.oneCell' = true := rv_all (fun x u hu => by
  simp [cSp] at hu
  rcases hu with rfl | rfl <;> rfl) l

theorem sp_at {w : World} {B : Nat} {A : Option Addr} {l : List (Nat × Nat)} {k : Nat} (h : RdR cSp w B A 2 l) (hk : k < l.length) :
    ∃ (ad : Addr) (x y : Nat), A = some ad ∧ (ad.add (k * 2)).block < B ∧ l[k]? = some (x, y) ∧ w.cell? (ad.add (k * 2)) = some (.int .i64 (x : Int)) ∧ w.cell? ⟨(ad.add (k * 2)).block, (ad.add (k * 2)).off + 1, none⟩ = some (.int .i64 (y : Int)) := by
  obtain ⟨ad, p, e, hb, hd, hc⟩ := RdR.cell cSp_len (by omega) h hk
  obtain ⟨x, y⟩ := p
  exact ⟨ad, x, y, e, hb, hd, hc 0 _ rfl, hc 1 _ rfl⟩

/-- a place more, once -/
def addP (l : List (Nat × Nat)) (x : Nat × Nat) : List (Nat × Nat) := if x ∈ l then l else l ++ [x]

theorem addP_mem {l : List (Nat × Nat)} {x y : Nat × Nat} : y ∈ addP l x ↔ y ∈ l ∨ y = x := by
  unfold addP
  split
  · constructor
    · exact .inl
    · rintro (h | rfl)
      · exact h
      · assumption
  · simp

theorem addP_pre (l : List (Nat × Nat)) (x : Nat × Nat) {k : Nat} {y : Nat × Nat} (h : l[k]? = some y) : (addP l x)[k]? = some y := by
  unfold addP
  split
  · exact h
  · rw [List.getElem?_append_left (List.getElem?_eq_some_iff.1 h).1]; exact h

theorem addP_len (l : List (Nat × Nat)) (x : Nat × Nat) : l.length ≤ (addP l x).length ∧ (addP l x).length ≤ l.length + 1 := by
  unfold addP
  split
  · omega
  · simp

end Go.Proofs.Ytggekjccblblpaa
