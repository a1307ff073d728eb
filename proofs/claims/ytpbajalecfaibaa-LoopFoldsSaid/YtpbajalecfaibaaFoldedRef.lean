/-
  codemasonref.Folded (G2): pairs as keys. (Its walk is still to be written.)
-/
import Derived.Test.YtpbajalecfaibaaMapSet
import Derived.Test.YtpbajalecfaibaaLoopRef
namespace Go.Proofs.Ytpbajalecfaibaa
open Go.RowKit
set_option linter.unusedSimpArgs false
set_option linter.unusedVariables false
set_option maxRecDepth 100000

theorem pair_keyed : Maps.Keyed Try.prog 57 := Maps.Keyed.of_law (deep_law_gate (P := Try.prog) (by kernel_rfl) (of_decide_eq_true (by kernel_rfl)) (of_decide_eq_true (by kernel_rfl)) (by kernel_rfl) (by rw [Try.underlying57]))

theorem wfN {x : Nat} (h : x < 9223372036854775808) : (Lit.int .i64 (x : Int)).wf = true := by
  simp only [Lit.wf, Bool.and_eq_true, decide_eq_true_eq]
  simp only [IntKind.min, IntKind.max, IntKind.bits, IntKind.signed]
  constructor
  · show (-9223372036854775808 : Int) ≤ x; omega
  · show (x : Int) ≤ 9223372036854775807; omega

theorem key_lit2 (d : Nat) {x : Int} (h : (Lit.int .i64 x).wf = true) : Try.prog.keyLits (d + 1) 3 [.int .i64 x] = some [.int .i64 x] := by
  unfold Program.keyLits
  rw [Try.underlying3]
  simp [h]

/-- a pair as a key -/
def prV (x y : Nat) : Value := .agg #[.int .i64 (x : Int), .int .i64 (y : Int)]

theorem prV_inj {x y u v : Nat} : prV x y = prV u v ↔ x = u ∧ y = v := by
  unfold prV
  constructor
  · intro h
    injection h with h
    have h1 := congrArg Array.toList h
    simp at h1
    omega
  · rintro ⟨rfl, rfl⟩; rfl

theorem pair_key {x y : Nat} (h0 : x < 9223372036854775808) (h1 : y < 9223372036854775808) : KeyV Try.prog 57 (prV x y) := by
  have hs : Try.prog.keyType 57 = true := by kernel_rfl
  have hc : Try.prog.cellsOf 3 = 1 := by kernel_rfl
  have hc4 : Try.prog.cellsOf 57 = 2 := by kernel_rfl
  have hf : (prV x y).formed Try.prog 57 = true := by
    unfold Value.formed prV
    simp only []
    rw [Try.underlying57, hc4]
    rfl
  obtain ⟨n, hz⟩ : ∃ n, Try.prog.types.size = n + 1 := ⟨Try.prog.types.size - 1, by kernel_rfl⟩
  unfold KeyV keyOf
  rw [Try.underlying57]
  simp only [hs, hf, Bool.and_self, if_true]
  unfold Program.keyLits
  rw [Try.underlying57, hz]
  simp [prV, Value.cells, hc4, hc, key_lit2 n (wfN h0), key_lit2 n (wfN h1), List.range_succ]

end Go.Proofs.Ytpbajalecfaibaa
