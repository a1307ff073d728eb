/-
  What the laws of package rule share: bytes opened.
-/
import Derived.Test.YtmbabbdcijgnoaaRule
import Derived.Test.YtmbabbdcijgnoaaLawWay
namespace Go.Proofs.Ytmbabbdcijgnoaa
open Go.RowKit Go.ChangeShapes Go.WideShapes Go.ChangeAt Go.Deep
set_option linter.unusedSimpArgs false
set_option linter.unusedVariables false
set_option maxRecDepth 100000

/-- a slice of bytes -/
def RdB (w : World) (B : Nat) (A : Option Addr) (xs : List Int) : Prop := Rd w B A xs.length (fun j => .int .u8 (xs.getD j 0))

theorem RdB.below {w w' : World} {B B' : Nat} {A : Option Addr} {xs : List Int} (h : RdB w B A xs) (hb : Below B' w w') (hB : B ≤ B') : RdB w' B A xs := Rd.below h hb hB

theorem RdB.at_ {w : World} {B : Nat} {A : Option Addr} {xs : List Int} {k : Nat} (h : RdB w B A xs) (hk : k < xs.length) :
    ∃ (ad : Addr) (x : Int), A = some ad ∧ (ad.add k).block < B ∧ xs[k]? = some x ∧ w.cell? (ad.add k) = some (.int .u8 x) := by
  obtain ⟨ad, e, hb, hc⟩ := h (by omega)
  refine ⟨ad, xs[k], e, by rw [addr_add_block]; exact hb, List.getElem?_eq_getElem hk, ?_⟩
  rw [hc k hk]
  simp [hk]

/-- a byte -/
def inB8 (x : Int) : Prop := 0 ≤ x ∧ x ≤ 255

theorem inB8_of {x : Int} (h : (Lit.int .u8 x).wf = true) : inB8 x := by
  simp only [Lit.wf, Bool.and_eq_true, decide_eq_true_eq] at h
  obtain ⟨h1, h2⟩ := h
  constructor
  · simpa [IntKind.min, IntKind.bits, IntKind.signed] using h1
  · simpa [IntKind.max, IntKind.bits, IntKind.signed] using h2

theorem u32_of {x : Int} (h : (Lit.int .u32 x).wf = true) : 0 ≤ x ∧ x < 4294967296 := by
  simp only [Lit.wf, Bool.and_eq_true, decide_eq_true_eq] at h
  obtain ⟨h1, h2⟩ := h
  have g1 : (0 : Int) ≤ x := by simpa [IntKind.min, IntKind.bits, IntKind.signed] using h1
  have g2 : x ≤ 4294967295 := by simpa [IntKind.max, IntKind.bits, IntKind.signed] using h2
  exact ⟨g1, by omega⟩

section
variable {H : Type} {enc : TypeId × Value → H} {P : Program} {w : World} {base : Nat} {spare : Nat → Bool} {held : Bool}

theorem open_bytesR {t e : TypeId} {r : Reach} {b0 : Nat} {v : Value} {d : DataW H} {ps : List MemPlace} (ht : P.underlying t = some (.slice e)) (he : P.underlying e = some (.int .u8)) (hC : P.cellsOf e = 1)
    (hv : Value.okWide P w r b0 t v) (h : DataW.Trod enc P w base spare held t v d ps) :
    ∃ (A : Option Addr) (cap : Nat) (xs : List Int), v = .slice A xs.length cap ∧ xs.length ≤ cap ∧ cap ≤ maxLen ∧ RdB w w.heap.size A xs ∧ ∀ x ∈ xs, inB8 x := by
  obtain ⟨A, len, cap, rfl⟩ := okWide_slice ht hv
  obtain ⟨fuel, hf⟩ := h
  rcases open_ints ht he hC hf with ⟨h0, _⟩ | ⟨a, len', cap', zs, hcs, hb, hl, hm, hz, _, hcell, hwf⟩
  · simp only [Value.cells, List.cons.injEq, Value.slice.injEq, and_true] at h0
    obtain ⟨rfl, rfl, rfl⟩ := h0
    exact ⟨none, 0, [], rfl, Nat.le_refl _, by simp [maxLen], fun h => by simp at h, fun _ h => by simp at h⟩
  · simp only [Value.cells, List.cons.injEq, Value.slice.injEq, and_true] at hcs
    obtain ⟨rfl, rfl, rfl⟩ := hcs
    have hzl : len ≤ zs.length := by rw [hz]; split <;> omega
    have hL : (zs.take len).length = len := by simp; omega
    refine ⟨some a, cap, zs.take len, by rw [hL], by rw [hL]; exact hl, hm, fun hp => ?_, fun x hx => inB8_of (hwf x (List.mem_of_mem_take hx))⟩
    rw [hL] at hp
    have h0 := hcell 0 (by omega)
    refine ⟨a, rfl, by have := block_lt h0; rw [addr_add_block] at this; exact this, fun j hj => ?_⟩
    rw [hL] at hj
    rw [hcell j (by omega)]
    simp [List.getElem?_take, hj]

end

section
variable {H : Type} {enc : TypeId × Value → H} {w : World} {base : Nat} {spare : Nat → Bool} {held : Bool} {r : Reach} {b0 : Nat} {v : Value} {d : DataW H} {ps : List MemPlace}
theorem open_bytesA (hv : Value.okWide Try.prog w r b0 40 v) (h : DataW.Trod enc Try.prog w base spare held 40 v d ps) :
    ∃ (A : Option Addr) (cap : Nat) (xs : List Int), v = .slice A xs.length cap ∧ xs.length ≤ cap ∧ cap ≤ maxLen ∧ RdB w w.heap.size A xs ∧ ∀ x ∈ xs, inB8 x :=
  open_bytesR Try.underlying40 Try.underlying5 (by kernel_rfl) hv h
end

end Go.Proofs.Ytmbabbdcijgnoaa
