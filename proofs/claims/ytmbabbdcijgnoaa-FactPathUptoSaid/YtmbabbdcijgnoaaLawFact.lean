/-
  What the laws of package fact share: a data flow problem opened.
-/
import Derived.Test.YtmbabbdcijgnoaaFactIs
import Derived.Test.YtmbabbdcijgnoaaLawRule
namespace Go.Proofs.Ytmbabbdcijgnoaa
open Go.RowKit Go.ChangeShapes Go.WideShapes Go.ChangeAt Go.Deep
set_option linter.unusedSimpArgs false
set_option linter.unusedVariables false
set_option maxRecDepth 100000

section
variable {H : Type} {enc : TypeId × Value → H} {P : Program} {w : World} {base : Nat} {spare : Nat → Bool} {held : Bool}

/-- a slice of words -/
theorem open_wordsT {t e : TypeId} {fuel : Nat} {cs : List Value} {x : DataW H × List MemPlace} (ht : P.underlying t = some (.slice e)) (he : P.underlying e = some (.int .u32)) (hC : P.cellsOf e = 1)
    (h : DataW.trod enc P w base spare held fuel t cs = some x) :
    ∃ (A : Option Addr) (cap : Nat) (ws : List Nat), cs = [.slice A ws.length cap] ∧ ws.length ≤ maxLen ∧ RdU w w.heap.size A ws ∧ ∀ x ∈ ws, x < 4294967296 := by
  rcases open_ints ht he hC h with ⟨h0, _⟩ | ⟨a, len, cap, zs, hcs, hb, hl, hm, hz, _, hcell, hwf⟩
  · exact ⟨none, 0, [], h0, by simp, fun h => by simp at h, fun _ h => by simp at h⟩
  · have hzl : len ≤ zs.length := by rw [hz]; split <;> omega
    have hL : ((zs.take len).map Int.toNat).length = len := by simp; omega
    refine ⟨some a, cap, (zs.take len).map Int.toNat, by rw [hL]; exact hcs, by rw [hL]; omega, fun hp => ?_, fun x hx => ?_⟩
    · rw [hL] at hp
      have h0 := hcell 0 (by omega)
      refine ⟨a, rfl, by have := block_lt h0; rw [addr_add_block] at this; exact this, fun j hj => ?_⟩
      rw [hL] at hj
      have hjz : j < zs.length := by omega
      have hw := u32_of (hwf zs[j] (List.getElem_mem hjz))
      rw [hcell j hjz]
      have e1 : zs.getD j 0 = zs[j] := by simp [hjz]
      have e2 : ((zs.take len).map Int.toNat).getD j 0 = (zs[j]).toNat := by
        rw [List.getD_eq_getElem?_getD, List.getElem?_map, List.getElem?_take, if_pos hj, List.getElem?_eq_getElem hjz]
        rfl
      have e3 : (((zs[j]).toNat : Nat) : Int) = zs[j] := by omega
      show some (Value.int .u32 (zs.getD j 0)) = some (.int .u32 ((((zs.take len).map Int.toNat).getD j 0 : Nat) : Int))
      rw [e1, e2, e3]
    · obtain ⟨z, hz', rfl⟩ := List.mem_map.1 hx
      have hw := u32_of (hwf z (List.mem_of_mem_take hz'))
      omega

/-- a data flow problem that comes in -/
theorem open_lawR {t tw e : TypeId} {f0 f1 f2 f3 f4 : Field} {r : Reach} {b0 : Nat} {v : Value} {d : DataW H} {ps : List MemPlace} (ht : P.underlying t = some (.struct #[f0, f1, f2, f3, f4]))
    (hone : oneCellFields P #[f0, f1, f2, f3, f4] = true) (hC : P.cellsOf t = 5) (h0 : P.underlying f0.type = some .bool) (h1 : P.underlying f1.type = some .bool) (h2 : P.underlying f2.type = some (.slice e)) (h3 : P.underlying f3.type = some (.slice e)) (h4 : P.underlying f4.type = some (.int .u32)) (he : P.underlying e = some (.int .u32)) (hCe : P.cellsOf e = 1)
    (hv : Value.okWide P w r b0 t v) (h : DataW.Trod enc P w base spare held t v d ps) :
    ∃ (lw : Lw) (A1 : Option Addr) (c1 : Nat) (A2 : Option Addr) (c2 : Nat), v = .agg #[.bool lw.bw, .bool lw.al, .slice A1 lw.ma.length c1, .slice A2 lw.en.length c2, .int .u32 (lw.st : Nat)] ∧ RdL w w.heap.size A1 A2 lw ∧ U32L lw := by
  obtain ⟨cs, rfl, hsz⟩ := okWide_struct ht hv
  obtain ⟨fuel, hf⟩ := h
  obtain ⟨xs, n, _, _, hlen, hxl, hg⟩ := DataW.trod_struct ht hf
  rw [hC] at hsz hlen
  have hcl : cs.toList.length = 5 := by simpa using hsz
  obtain ⟨a0, a1, a2, a3, a4, hcs⟩ : ∃ a0 a1 a2 a3 a4, cs.toList = [a0, a1, a2, a3, a4] := by
    match cs.toList, hcl with
    | [a0, a1, a2, a3, a4], _ => exact ⟨a0, a1, a2, a3, a4, rfl⟩
  have hce : cs = #[a0, a1, a2, a3, a4] := Array.toList_inj.1 (by simpa using hcs)
  subst hce
  have hxl5 : xs.length = 5 := by simpa using hxl
  have one := hone_of hone
  have g0 := hg 0 f0 rfl
  have g1 := hg 1 f1 rfl
  have g2 := hg 2 f2 rfl
  have g3 := hg 3 f3 rfl
  have g4 := hg 4 f4 rfl
  rw [(one 0 f0 rfl).1, (one 0 f0 rfl).2, List.getElem?_eq_getElem (by omega)] at g0
  rw [(one 1 f1 rfl).1, (one 1 f1 rfl).2, List.getElem?_eq_getElem (by omega)] at g1
  rw [(one 2 f2 rfl).1, (one 2 f2 rfl).2, List.getElem?_eq_getElem (by omega)] at g2
  rw [(one 3 f3 rfl).1, (one 3 f3 rfl).2, List.getElem?_eq_getElem (by omega)] at g3
  rw [(one 4 f4 rfl).1, (one 4 f4 rfl).2, List.getElem?_eq_getElem (by omega)] at g4
  simp only [Value.cells, List.drop_succ_cons, List.drop_zero, List.take_succ_cons, List.take_zero] at g0 g1 g2 g3 g4
  obtain ⟨bw, k0, _⟩ := DataW.trod_bool h0 g0
  obtain ⟨al, k1, _⟩ := DataW.trod_bool h1 g1
  obtain ⟨A1, c1, ma, k2, l2, r2, u2⟩ := open_wordsT h2 he hCe g2
  obtain ⟨A2, c2, en, k3, l3, r3, u3⟩ := open_wordsT h3 he hCe g3
  obtain ⟨s, k4, _, k5⟩ := DataW.trod_int h4 g4
  have hs := u32_of k5
  obtain ⟨st, rfl⟩ := Int.eq_ofNat_of_zero_le hs.1
  simp only [List.cons.injEq, and_true] at k0 k1 k2 k3 k4
  subst k0 k1 k2 k3 k4
  exact ⟨⟨bw, al, ma, en, st⟩, A1, c1, A2, c2, rfl, ⟨r2, r3⟩, ⟨u2, u3, (by omega : st < 4294967296), l2, l3⟩⟩

end

section
variable {H : Type} {enc : TypeId × Value → H} {w : World} {base : Nat} {spare : Nat → Bool} {held : Bool} {r : Reach} {b0 : Nat} {v : Value} {d : DataW H} {ps : List MemPlace}
theorem open_lawA (hv : Value.okWide Try.prog w r b0 26 v) (h : DataW.Trod enc Try.prog w base spare held 26 v d ps) :
    ∃ (lw : Lw) (A1 : Option Addr) (c1 : Nat) (A2 : Option Addr) (c2 : Nat), v = .agg #[.bool lw.bw, .bool lw.al, .slice A1 lw.ma.length c1, .slice A2 lw.en.length c2, .int .u32 (lw.st : Nat)] ∧ RdL w w.heap.size A1 A2 lw ∧ U32L lw :=
  open_lawR (tw := 0) Try.underlying26 (by kernel_rfl) (by kernel_rfl) Try.underlying4 Try.underlying4 Try.underlying23 Try.underlying23 Try.underlying24 Try.underlying24 (by kernel_rfl) hv h
end

end Go.Proofs.Ytmbabbdcijgnoaa
