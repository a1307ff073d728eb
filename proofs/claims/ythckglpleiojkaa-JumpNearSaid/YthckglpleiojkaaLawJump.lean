/-
  Arguments that are slices of pieces, opened (X1).
-/
import Derived.Test.YthckglpleiojkaaJpCk
import Derived.Test.YthckglpleiojkaaMOpen
namespace Go.Proofs.Ythckglpleiojkaa
open Go.RowKit Go.ChangeShapes Go.WideShapes Go.ChangeAt Go.Deep
set_option linter.unusedSimpArgs false
set_option linter.unusedVariables false
set_option maxRecDepth 100000

section
variable {H : Type} {enc : TypeId × Value → H} {P : Program} {w : World} {base : Nat} {spare : Nat → Bool} {held : Bool}

theorem choose_ltJ {α : Type} [Inhabited α] {n : Nat} {Q : Nat → α → Prop} (h : ∀ i, i < n → ∃ x, Q i x) : ∃ f : Nat → α, ∀ i, i < n → Q i (f i) :=
  ⟨fun i => if hi : i < n then Classical.choose (h i hi) else default, fun i hi => by
    simp only [dif_pos hi]
    exact Classical.choose_spec (h i hi)⟩

instance : Inhabited Pc := ⟨⟨0, false, 0⟩⟩

theorem open_piecesR {t e : TypeId} {f0 f1 f2 : Field} {r : Reach} {b0 : Nat} {v : Value} {d : DataW H} {ps : List MemPlace} (ht : P.underlying t = some (.slice e)) (he : P.underlying e = some (.struct #[f0, f1, f2]))
    (hone : oneCellFields P #[f0, f1, f2] = true) (hC : P.cellsOf e = 3) (h0 : P.underlying f0.type = some (.int .i64)) (h1 : P.underlying f1.type = some .bool) (h2 : P.underlying f2.type = some (.int .i64))
    (hv : Value.okWide P w r b0 t v) (h : DataW.Trod enc P w base spare held t v d ps) :
    ∃ (A : Option Addr) (cap : Nat) (l : List Pc), v = .slice A l.length cap ∧ l.length ≤ cap ∧ cap ≤ maxLen ∧ RdPc w w.heap.size A l ∧ True := by
  obtain ⟨A, len, cap, rfl⟩ := okWide_slice ht hv
  obtain ⟨fuel, hf⟩ := h
  rcases open_slice ht hf with hn | ⟨a, len', cap', m, n, D, Pl, hcs, hb, hl, hm, hmm, hx, hi⟩
  · have hn := hn.1
    simp only [Value.cells, List.cons.injEq, Value.slice.injEq, and_true] at hn
    obtain ⟨rfl, rfl, rfl⟩ := hn
    exact ⟨none, 0, [], rfl, Nat.le_refl _, by simp [maxLen], fun h => by simp at h, trivial⟩
  · simp only [Value.cells, List.cons.injEq, Value.slice.injEq, and_true] at hcs
    obtain ⟨rfl, rfl, rfl⟩ := hcs
    have one := hone_of hone
    have each : ∀ i, i < len → ∃ q : Pc, w.cell? (a.add (i * 3)) = some (.int .i64 q.b) ∧ w.cell? ((a.add (i * 3)).add 1) = some (.bool q.j) ∧ w.cell? ((a.add (i * 3)).add 2) = some (.int .i64 q.to) := by
      intro i hil
      have him : i < m := by rw [hmm]; split <;> omega
      obtain ⟨cs', hc, ht'⟩ := hi i him
      obtain ⟨ys, n', _, hD, hlen, hyl, hg⟩ := DataW.trod_struct he ht'
      obtain ⟨_, hcl, hat⟩ := World.cells?_some hc
      rw [hC] at hcl hat hlen
      obtain ⟨a0, a1, a2, hce⟩ : ∃ a0 a1 a2, cs' = [a0, a1, a2] := by
        match cs', hcl with
        | [a0, a1, a2], _ => exact ⟨a0, a1, a2, rfl⟩
      subst hce
      have hxl3 : ys.length = 3 := by simpa using hyl
      have g0 := hg 0 f0 rfl
      have g1 := hg 1 f1 rfl
      have g2 := hg 2 f2 rfl
      rw [(one 0 f0 rfl).1, (one 0 f0 rfl).2, List.getElem?_eq_getElem (by omega)] at g0
      rw [(one 1 f1 rfl).1, (one 1 f1 rfl).2, List.getElem?_eq_getElem (by omega)] at g1
      rw [(one 2 f2 rfl).1, (one 2 f2 rfl).2, List.getElem?_eq_getElem (by omega)] at g2
      simp only [List.drop_succ_cons, List.drop_zero, List.take_succ_cons, List.take_zero] at g0 g1 g2
      obtain ⟨z0, k0, _⟩ := DataW.trod_int h0 g0
      obtain ⟨z1, k1, _⟩ := DataW.trod_bool h1 g1
      obtain ⟨z2, k2, _⟩ := DataW.trod_int h2 g2
      simp only [List.cons.injEq, and_true] at k0 k1 k2
      subst k0 k1 k2
      have c0 := hat 0 (by omega)
      have c1 := hat 1 (by omega)
      have c2 := hat 2 (by omega)
      rw [addr_add_add, Nat.add_zero] at c0
      exact ⟨⟨z0, z1, z2⟩, c0, c1, c2⟩
    obtain ⟨q, hq⟩ := choose_ltJ each
    have hL : ((List.range len).map q).length = len := by simp
    refine ⟨some a, cap, (List.range len).map q, by rw [hL], by rw [hL]; exact hl, hm, fun hp => ?_, trivial⟩
    rw [hL] at hp
    have hlen : 0 < len := by omega
    have hz := (hq 0 hlen).1
    refine ⟨a, rfl, by have := block_lt hz; rw [addr_add_block] at this; exact this, fun j hj => ?_⟩
    rw [hL] at hj
    have hi3 : j / 3 < len := by omega
    have hx : ((List.range len).map q)[j / 3]? = some (q (j / 3)) := by rw [List.getElem?_map, List.getElem?_range hi3]; rfl
    have hr : j % 3 < 3 := Nat.mod_lt _ (by omega)
    have hat := rv_at cPc_len hx hr
    have hjm : j / 3 * 3 + j % 3 = j := by omega
    rw [hjm] at hat
    show _ = some ((rv cPc ((List.range len).map q)).getD j undef)
    rw [List.getD_eq_getElem?_getD, hat]
    obtain ⟨e0, e1, e2⟩ := hq (j / 3) hi3
    rw [addr_add_add] at e1 e2
    have h3 : j % 3 = 0 ∨ j % 3 = 1 ∨ j % 3 = 2 := by omega
    rcases h3 with h3 | h3 | h3
    · rw [h3]
      rw [show j / 3 * 3 = j by omega] at e0
      rw [e0]
      rfl
    · rw [h3]
      rw [show j / 3 * 3 + 1 = j by omega] at e1
      rw [e1]
      rfl
    · rw [h3]
      rw [show j / 3 * 3 + 2 = j by omega] at e2
      rw [e2]
      rfl

theorem open_piecesA {r : Reach} {b0 : Nat} {v : Value} {d : DataW H} {ps : List MemPlace} (hv : Value.okWide Try.prog w r b0 22 v) (h : DataW.Trod enc Try.prog w base spare held 22 v d ps) :
    ∃ (A : Option Addr) (cap : Nat) (l : List Pc), v = .slice A l.length cap ∧ l.length ≤ cap ∧ cap ≤ maxLen ∧ RdPc w w.heap.size A l ∧ True :=
  open_piecesR Try.underlying22 Try.underlying35 (by kernel_rfl) (by kernel_rfl) Try.underlying3 Try.underlying4 Try.underlying3 hv h

end

end Go.Proofs.Ythckglpleiojkaa
