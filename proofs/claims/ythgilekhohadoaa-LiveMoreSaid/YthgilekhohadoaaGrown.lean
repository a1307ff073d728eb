/-
  A slice of slices of ints of the call's own, to which whole rows are appended.
-/
import Derived.Test.YthgilekhohadoaaGraph
import Derived.Test.YthgilekhohadoaaInts
namespace Go.Proofs.Ythgilekhohadoaa
open Go.RowKit
set_option linter.unusedSimpArgs false
set_option linter.unusedVariables false
set_option maxRecDepth 100000

theorem rows_app : AppTy Try.prog 49 39 1 24 := appTy_of (z := .slice none 0 0) Try.underlying49 (by kernel_rfl) rfl (by omega)

theorem row_cell (A : Option Addr) (n c : Nat) : ∀ u ∈ ([.slice A n c] : List Value), u.oneCell' = true := fun u hu => by
  simp at hu
  subst hu
  rfl

/-- rows done: each apart from the outer block -/
structure GrG (w : World) (base : Nat) (A : Option Addr) (n c : Nat) (nx : List (List Int)) (cs : List Value) : Prop where
  len : nx.length = n
  own : w.ownsRow base 39 1 (.slice A n c) n cs
  rows : ∀ (r : Nat) (row : List Int), nx[r]? = some row → ∃ Ar cr, cs[r]? = some (.slice Ar row.length cr) ∧ RdI w w.heap.size Ar row ∧ ∀ ad, Ar = some ad → ad.block < w.heap.size ∧ (Value.slice A n c).ownBlock ≠ some ad.block ∧ base ≤ ad.block

theorem GrG.start (w : World) (base : Nat) : GrG w base none 0 0 [] [] := ⟨rfl, World.ownsRow_nil _ _ _ _, fun r row h => by simp at h⟩

theorem GrG.quiet {w w' : World} {base : Nat} {A : Option Addr} {n c : Nat} {nx : List (List Int)} {cs : List Value} (h : GrG w base A n c nx cs) (hb : Below w.heap.size w w') : GrG w' base A n c nx cs := by
  refine ⟨h.len, own_below h.own hb, fun r row hr => ?_⟩
  obtain ⟨Ar, cr, h1, h2, h3⟩ := h.rows r row hr
  refine ⟨Ar, cr, h1, (h2.below hb (Nat.le_refl _)).more hb.size, fun ad hA => ?_⟩
  obtain ⟨h4, h5, h6⟩ := h3 ad hA
  exact ⟨Nat.lt_of_lt_of_le h4 hb.size, h5, h6⟩

theorem RdI.grown {X w' : World} {A : Option Addr} {xs : List Int} {row : Option Nat} (h : RdI X X.heap.size A xs) (hg : X.grownBy w' row) (ha : ∀ ad, A = some ad → row ≠ some ad.block) : RdI w' w'.heap.size A xs := fun hm => by
  obtain ⟨ad, e, hb, hc⟩ := h hm
  refine ⟨ad, e, Nat.lt_of_lt_of_le hb hg.size, fun j hj => ?_⟩
  rw [← hc j hj]
  refine World.cell?_of_block ?_
  rw [addr_add_block]
  exact hg.block ad.block hb fun e2 => ha ad e e2.symm

/-- one row more -/
theorem GrG.app {w X w' : World} {base : Nat} {A A' Ar : Option Addr} {n c c' m cr : Nat} {nx : List (List Int)} {cs : List Value} {row : List Int} (h : GrG w base A n c nx cs) (hX : Below w.heap.size w X) (hbs : base ≤ w.heap.size)
    (hm : row.length = m) (hrow : RdI X X.heap.size Ar row) (hlt : ∀ ad, Ar = some ad → ad.block < X.heap.size ∧ w.heap.size ≤ ad.block)
    (ho : w'.ownsRow base 39 1 (.slice A' (n + 1) c') (n + 1) (cs ++ [.slice Ar m cr])) (hg : X.grownBy w' (Value.slice A n c).ownBlock)
    (hbl : (Value.slice A' (n + 1) c').ownBlock = (Value.slice A n c).ownBlock ∨ (Value.slice A' (n + 1) c').ownBlock = some X.heap.size) : GrG w' base A' (n + 1) c' (nx ++ [row]) (cs ++ [.slice Ar m cr]) := by
  have hcl : cs.length = n := by have := h.own.1; simpa using this
  have hs2 := hg.size
  have new : ∀ ad, Ar = some ad → (Value.slice A n c).ownBlock ≠ some ad.block := fun ad hA hq => by
    have h1 := (h.own.lt _ hq).2
    have h2 := (hlt ad hA).2
    omega
  refine ⟨by simp [h.len], ho, fun r row' hr => ?_⟩
  rcases Nat.lt_or_ge r nx.length with hrl | hrl
  · rw [List.getElem?_append_left hrl] at hr
    obtain ⟨Aq, cq, h1, h2, h3⟩ := h.rows r row' hr
    have h2X := (h2.below hX (Nat.le_refl _)).more hX.size
    refine ⟨Aq, cq, by rw [List.getElem?_append_left (by rw [hcl, ← h.len]; exact hrl)]; exact h1, h2X.grown hg fun ad hA => (h3 ad hA).2.1, fun ad hA => ?_⟩
    obtain ⟨h4, h5, h7⟩ := h3 ad hA
    have h6 := hX.size
    refine ⟨by omega, ?_, h7⟩
    rcases hbl with hb | hb
    · rw [hb]; exact h5
    · rw [hb]; intro hq; injection hq with hq; omega
  · have hrn : r = nx.length := by
      have := (List.getElem?_eq_some_iff.1 hr).1
      simp at this
      omega
    subst hrn
    rw [List.getElem?_append_right (Nat.le_refl _), Nat.sub_self] at hr
    simp only [List.getElem?_cons_zero, Option.some.injEq] at hr
    subst hr
    refine ⟨Ar, cr, ?_, hrow.grown hg new, fun ad hA => ?_⟩
    · rw [h.len, ← hcl, List.getElem?_append_right (Nat.le_refl _), Nat.sub_self, hm]; rfl
    · have h4 := (hlt ad hA).1
      refine ⟨by omega, ?_, Nat.le_trans hbs (hlt ad hA).2⟩
      rcases hbl with hb | hb
      · rw [hb]; exact new ad hA
      · rw [hb]; intro hq; injection hq with hq; omega

theorem GrG.rd {w : World} {base : Nat} {A : Option Addr} {n c : Nat} {nx : List (List Int)} {cs : List Value} (h : GrG w base A n c nx cs) : RdG w w.heap.size A nx := fun hp => by
  rw [h.len] at hp
  obtain ⟨g, cap, cur, hv, _, hh, _⟩ := h.own.2.resolve_left (fun ⟨_, h0⟩ => by omega)
  injection hv with hA
  subst hA
  refine ⟨_, rfl, (Array.getElem?_eq_some_iff.1 hh).1, fun r row hr => ?_⟩
  obtain ⟨Ar, cr, h1, h2, _⟩ := h.rows r row hr
  exact ⟨Ar, cr, World.ownsRow.cells h.own (g := g) rfl r _ h1, h2⟩

/-- all its blocks are new -/
theorem GrG.new {w : World} {base : Nat} {A : Option Addr} {n c : Nat} {nx : List (List Int)} {cs : List Value} (h : GrG w base A n c nx cs) :
    ∀ ad, A = some ad → base ≤ ad.block ∧ ∀ r, r < nx.length → ∀ Ar m cr, w.cell? (ad.add r) = some (.slice Ar m cr) → ∀ a, Ar = some a → base ≤ a.block := fun ad hA => by
  subst hA
  refine ⟨(h.own.lt ad.block rfl).1, fun r hr Ar m cr hc a ha => ?_⟩
  obtain ⟨Ar', cr', h1, _, h3⟩ := h.rows r _ (List.getElem?_eq_getElem hr)
  obtain ⟨g, cap, cur, hv, _, hh, _⟩ := h.own.2.resolve_left (fun ⟨h0, _⟩ => by cases h0)
  injection hv with hA
  injection hA with hA
  subst hA
  have hcc := World.ownsRow.cells h.own (g := g) rfl r _ h1
  rw [hc] at hcc
  injection hcc with hcc
  injection hcc with e1 _ _
  exact (h3 a (by rw [← e1]; exact ha)).2.2

end Go.Proofs.Ythgilekhohadoaa
