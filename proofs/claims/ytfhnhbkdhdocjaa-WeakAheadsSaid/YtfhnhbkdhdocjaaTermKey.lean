/-
  Terms as keys of a map.
-/
import Derived.Test.YtfhnhbkdhdocjaaMapOwn
import Derived.Test.YtfhnhbkdhdocjaaMPure
namespace Go.Proofs.Ytfhnhbkdhdocjaa
open Go.RowKit
set_option linter.unusedSimpArgs false
set_option linter.unusedVariables false
set_option maxRecDepth 100000

theorem zero_int (w : World) : (zeroValue 3).run Try.prog w = .ok (.int .i64 0) w := by kernel_rfl

theorem term_keyed : Maps.Keyed Try.prog 56 := Maps.Keyed.of_law (deep_law_gate (P := Try.prog) (by kernel_rfl) (of_decide_eq_true (by kernel_rfl)) (of_decide_eq_true (by kernel_rfl)) (by kernel_rfl) (by rw [Try.underlying56]))

theorem wf64 {x : Int} (h : -9223372036854775808 ≤ x) (h' : x ≤ 9223372036854775807) : (Lit.int .i64 x).wf = true := by
  simp only [Lit.wf, Bool.and_eq_true, decide_eq_true_eq]
  exact ⟨h, h'⟩

theorem key_lit (d : Nat) {x : Int} (h : (Lit.int .i64 x).wf = true) : Try.prog.keyLits (d + 1) 3 [.int .i64 x] = some [.int .i64 x] := by
  unfold Program.keyLits
  rw [Try.underlying3]
  simp [h]

theorem term_key {o a b v : Int} (h0 : (Lit.int .i64 o).wf = true) (h1 : (Lit.int .i64 a).wf = true) (h2 : (Lit.int .i64 b).wf = true) (h3 : (Lit.int .i64 v).wf = true) : KeyV Try.prog 56 (.agg #[.int .i64 o, .int .i64 a, .int .i64 b, .int .i64 v]) := by
  have hs : Try.prog.keyType 56 = true := by kernel_rfl
  have hc : Try.prog.cellsOf 3 = 1 := by kernel_rfl
  have hc4 : Try.prog.cellsOf 56 = 4 := by kernel_rfl
  have hf : (Value.agg #[.int .i64 o, .int .i64 a, .int .i64 b, .int .i64 v]).formed Try.prog 56 = true := by
    unfold Value.formed
    simp only []
    rw [Try.underlying56, hc4]
    rfl
  obtain ⟨n, hz⟩ : ∃ n, Try.prog.types.size = n + 1 := ⟨Try.prog.types.size - 1, by kernel_rfl⟩
  unfold KeyV keyOf
  rw [Try.underlying56]
  simp only [hs, hf, Bool.and_self, if_true]
  unfold Program.keyLits
  rw [Try.underlying56, hz]
  simp [Value.cells, hc4, hc, key_lit n h0, key_lit n h1, key_lit n h2, key_lit n h3]

/-- a term as a value -/
def tmV (t : Tm) : Value := .agg #[.int .i64 t.op, .int .i64 t.a, .int .i64 t.b, .int .i64 t.v]

theorem tmV_inj {t u : Tm} (h : tmV t = tmV u) : t = u := by
  unfold tmV at h
  obtain ⟨a, b, c, d⟩ := t
  obtain ⟨a', b', c', d'⟩ := u
  simp at h
  obtain ⟨h1, h2, h3, h4⟩ := h
  subst h1 h2 h3 h4
  rfl

end Go.Proofs.Ytfhnhbkdhdocjaa
