/-
  What plan.Levels, List, Best return (Q1): statements alone; their codes.
-/
import Derived.Test.YthmcigdoaededaaTasks
namespace Go.Proofs.Ythmcigdoaededaa
open Go.RowKit
set_option linter.unusedSimpArgs false
set_option linter.unusedVariables false
set_option maxRecDepth 100000

theorem tk_ex (n : Int) (l : List (Int × Int)) : ∃ z, TkCode n l z := by
  by_cases h1 : sizesK n l
  · cases h2 : allM n l with
    | false => exact ⟨2, .arg h1 h2⟩
    | true =>
      obtain ⟨a1, a2, a3⟩ := h1
      obtain ⟨m, rfl⟩ : ∃ m : Nat, n = m := ⟨n.toNat, by omega⟩
      obtain ⟨ps, rfl, hins⟩ := allM_nat h2
      rw [mvI_len] at a3
      by_cases h3 : Round m ps
      · exact ⟨3, .form m ps rfl rfl (by omega) (by omega) a3 hins h3⟩
      · exact ⟨0, .ok m ps rfl rfl ⟨by omega, by omega, a3, hins, h3⟩⟩
  · exact ⟨1, .large h1⟩

theorem TkOk.code {m : Nat} {ps : List (Nat × Nat)} (h : TkOk m ps) : TkCode (m : Int) (mvI ps) 0 := .ok m ps rfl rfl h

/-- tasks that come before others -/
def prP (ps : List (Nat × Nat)) (a b : Nat) : Prop := (a, b) ∈ ps

/-- what Levels returns -/
structure LevelsIs : Prop where
  ok : ∀ (n : Nat) (A : Option Addr) (len cap : Nat) (ps : List (Nat × Nat)) (w : World), RdM w w.heap.size A (mvI ps) → ps.length = len → TkOk n ps →
    Calls Try.prog 10 #[.int .i64 n, .slice A len cap] w fun e w' => (∃ A' c', e = .returned (.tuple #[.slice A' n c', .int .i64 0]) ∧ RdI w' w'.heap.size A' (ni ((List.range n).map (lvT n ps)))) ∧ Below w.heap.size w w'
  bad : ∀ (n : Int) (A : Option Addr) (len cap : Nat) (l : List (Int × Int)) (z : Int) (w : World), RdM w w.heap.size A l → l.length = len → len ≤ maxLen → TkCode n l z → z ≠ 0 →
    Calls Try.prog 10 #[.int .i64 n, .slice A len cap] w fun e w' => e = .returned (.tuple #[.slice none 0 0, .int .i64 z]) ∧ Below w.heap.size w w'

/-- what Best returns -/
structure BestIs : Prop where
  ok : ∀ (n : Nat) (A : Option Addr) (len cap : Nat) (ps : List (Nat × Nat)) (m : Nat) (w : World), RdM w w.heap.size A (mvI ps) → ps.length = len → TkOk n ps → 1 ≤ m → m ≤ 8 →
    Calls Try.prog 19 #[.int .i64 n, .slice A len cap, .int .i64 m] w fun e w' => (∃ k : Nat, Fewest n m (fun a b => (a, b) ∈ ps) k ∧ e = .returned (.tuple #[.int .i64 k, .int .i64 0])) ∧ Below w.heap.size w w'
  bad : ∀ (n : Int) (A : Option Addr) (len cap : Nat) (l : List (Int × Int)) (m : Int) (z : Int) (w : World), RdM w w.heap.size A l → l.length = len → len ≤ maxLen → TkCode n l z → z ≠ 0 →
    Calls Try.prog 19 #[.int .i64 n, .slice A len cap, .int .i64 m] w fun e w' => e = .returned (.tuple #[.int .i64 0, .int .i64 z]) ∧ Below w.heap.size w w'
  range : ∀ (n : Nat) (A : Option Addr) (len cap : Nat) (ps : List (Nat × Nat)) (m : Int) (w : World), RdM w w.heap.size A (mvI ps) → ps.length = len → TkOk n ps → (m < 1 ∨ 8 < m) →
    Calls Try.prog 19 #[.int .i64 n, .slice A len cap, .int .i64 m] w fun e w' => e = .returned (.tuple #[.int .i64 0, .int .i64 4]) ∧ Below w.heap.size w w'

/-- the list of all tasks, as it may be -/
def AllOnce (n : Nat) (od : List Nat) : Prop := od.Nodup ∧ ∀ i, i ∈ od ↔ i < n

/-- what List returns -/
structure ListIs : Prop where
  ok : ∀ (n : Nat) (A : Option Addr) (len cap : Nat) (ps : List (Nat × Nat)) (m : Nat) (A2 : Option Addr) (cap2 : Nat) (od : List Nat) (T : List (List Nat)) (w : World), RdM w w.heap.size A (mvI ps) → ps.length = len → TkOk n ps → 1 ≤ m → m ≤ 8 → RdI w w.heap.size A2 (ni od) → AllOnce n od → Trn m ps od [] T →
    Calls Try.prog 14 #[.int .i64 n, .slice A len cap, .int .i64 m, .slice A2 n cap2] w fun e w' => (∃ A' c', e = .returned (.tuple #[.slice A' n c', .int .i64 0]) ∧ RdI w' w'.heap.size A' (ni ((List.range n).map (turnOf T)))) ∧ Below w.heap.size w w'
  bad : ∀ (n : Int) (A : Option Addr) (len cap : Nat) (l : List (Int × Int)) (m : Int) (A2 : Option Addr) (len2 cap2 : Nat) (od : List Int) (z : Int) (w : World), RdM w w.heap.size A l → l.length = len → len ≤ maxLen → RdI w w.heap.size A2 od → od.length = len2 → len2 ≤ maxLen → TkCode n l z → z ≠ 0 →
    Calls Try.prog 14 #[.int .i64 n, .slice A len cap, .int .i64 m, .slice A2 len2 cap2] w fun e w' => e = .returned (.tuple #[.slice none 0 0, .int .i64 z]) ∧ Below w.heap.size w w'
  range : ∀ (n : Nat) (A : Option Addr) (len cap : Nat) (ps : List (Nat × Nat)) (m : Int) (A2 : Option Addr) (len2 cap2 : Nat) (od : List Int) (w : World), RdM w w.heap.size A (mvI ps) → ps.length = len → TkOk n ps → RdI w w.heap.size A2 od → od.length = len2 → len2 ≤ maxLen → (m < 1 ∨ 8 < m) →
    Calls Try.prog 14 #[.int .i64 n, .slice A len cap, .int .i64 m, .slice A2 len2 cap2] w fun e w' => e = .returned (.tuple #[.slice none 0 0, .int .i64 4]) ∧ Below w.heap.size w w'
  form : ∀ (n : Nat) (A : Option Addr) (len cap : Nat) (ps : List (Nat × Nat)) (m : Nat) (A2 : Option Addr) (len2 cap2 : Nat) (od : List Int) (w : World), RdM w w.heap.size A (mvI ps) → ps.length = len → TkOk n ps → 1 ≤ m → m ≤ 8 → RdI w w.heap.size A2 od → od.length = len2 → len2 ≤ maxLen → (¬ ∃ q, od = ni q ∧ AllOnce n q) →
    Calls Try.prog 14 #[.int .i64 n, .slice A len cap, .int .i64 m, .slice A2 len2 cap2] w fun e w' => e = .returned (.tuple #[.slice none 0 0, .int .i64 3]) ∧ Below w.heap.size w w'

end Go.Proofs.Ythmcigdoaededaa
