/-
  Several texts in one: SnMade, SnNameStep, SnNameBlock, SnFillP, SnFill, SnBuildP.
-/
import Derived.Test.YtgcjknibelfjbaaSingleOpen
import Derived.Test.YtgcjknibelfjbaaBlocks
import Derived.Test.YtgcjknibelfjbaaPureNames
import Derived.Test.YtgcjknibelfjbaaMTerm
import Derived.Test.YtgcjknibelfjbaaMBase
import Derived.Test.YtgcjknibelfjbaaMWay
import Derived.Deep.RegionHeld3
import Derived.Test.YtgcjknibelfjbaaMBlock
import Derived.Test.YtgcjknibelfjbaaRegionSteps
import Derived.Deep.RegionLaw
import Derived.Deep.DeepCutAuto
import Derived.Test.YtgcjknibelfjbaaRowsO
import Derived.Test.YtgcjknibelfjbaaMSsa

/-
  Named blocks in a block of the call's own, their joins, steps and names in blocks of their own, apart: one is stored whole; a join's names are laid in place.
-/

namespace Go.Proofs.Ytgcjknibelfjbaa
open Go.RowKit
set_option linter.unusedSimpArgs false
set_option linter.unusedVariables false
set_option maxRecDepth 100000

/-- some blocks written, all else below as it was -/
structure WrP (P : Nat → Prop) (w w' : World) : Prop where
  os : w'.os = w.os
  tape : w'.tape = w.tape
  output : w'.output = w.output
  size : w.heap.size ≤ w'.heap.size
  block : ∀ k, k < w.heap.size → ¬ P k → w'.heap[k]? = w.heap[k]?

theorem WrP.below {P : Nat → Prop} {w w' : World} {B : Nat} (h : WrP P w w') (hP : ∀ k, P k → B ≤ k) (hs : B ≤ w.heap.size) : Below B w w' := ⟨h.os, h.tape, h.output, h.size, fun k hk => h.block k (by omega) fun hp => by have := hP k hp; omega⟩

theorem WrP.of_below {P : Nat → Prop} {w w' : World} (h : Below w.heap.size w w') : WrP P w w' := ⟨h.os, h.tape, h.output, h.size, fun k hk _ => h.block k hk⟩

theorem WrP.andThen {P : Nat → Prop} {w w' w'' : World} (h : WrP P w w') (hb : Below w.heap.size w' w'') : WrP P w w'' := ⟨hb.os.trans h.os, hb.tape.trans h.tape, hb.output.trans h.output, Nat.le_trans h.size hb.size, fun k hk hne => (hb.block k hk).trans (h.block k hk hne)⟩

theorem WrP.own {P : Nat → Prop} {w w' : World} {g : Nat} {t : TypeId} {cs : List Value} (h : WrP P w w') (ho : Own w g t cs) (hg : ¬ P g) : Own w' g t cs := (h.block g ho.lt hg).trans ho

theorem WrP.row {P : Nat → Prop} {w w' : World} {base : Nat} {e : TypeId} {size : Nat} {v : Value} {n : Nat} {xs : List Value} (h : WrP P w w') (ho : w.ownsRow base e size v n xs) (hg : ∀ g, v.ownBlock = some g → ¬ P g) : w'.ownsRow base e size v n xs := by
  refine ⟨ho.1, ?_⟩
  rcases ho.2 with h' | ⟨k, cap, cur, h1, h2, h3, h4⟩
  · exact .inl h'
  · exact .inr ⟨k, cap, cur, h1, h2, (h.block k (Array.getElem?_eq_some_iff.1 h3).1 (hg k (by rw [h1]; rfl))).trans h3, h4⟩

theorem WrP.of_wrote {P : Nat → Prop} {w w' : World} {g : Nat} (h : Wrote g w w') (hg : P g) : WrP P w w' := ⟨h.os, h.tape, h.output, h.size, fun k hk hp => h.block k hk fun e => hp (e ▸ hg)⟩

theorem WrP.set {P : Nat → Prop} {w w' : World} (h : WrP P w w') {p : Addr} (hp : P p.block) (u : Value) : WrP P w (w'.setCell p u) := by
  have hb : Below p.block w' (w'.setCell p u) := (Below.refl p.block w').setCell (Nat.le_refl _) u
  exact ⟨hb.os.trans h.os, hb.tape.trans h.tape, hb.output.trans h.output, Nat.le_trans h.size hb.size, fun k hk hne => (Below.heap_setCell w' p u k (fun e => hne (e ▸ hp))).trans (h.block k hk hne)⟩

theorem WrP.cell {P : Nat → Prop} {w w' : World} (h : WrP P w w') {p : Addr} (hp : p.block < w.heap.size) (hne : ¬ P p.block) : w'.cell? p = w.cell? p := World.cell?_of_block (w := w) (h.block p.block hp hne)

/-- a row lies where its block is -/
theorem own_raise {w : World} {base base' g n c size : Nat} {e : TypeId} {xs : List Value} (h : w.ownsRow base e size (.slice (some ⟨g, 0, none⟩) n c) n xs) (hb : base' ≤ g) : w.ownsRow base' e size (.slice (some ⟨g, 0, none⟩) n c) n xs := by
  refine ⟨h.1, ?_⟩
  rcases h.2 with ⟨h1, _⟩ | ⟨k, cap, cur, h1, h2, h3⟩
  · cases h1
  · have hk : g = k := by
      injection h1 with h1
      injection h1 with h1
      injection h1 with h1
    exact .inr ⟨k, cap, cur, h1, by omega, h3⟩

/-- a row under a bound stands where all below it does -/
theorem own_underS {w w' : World} {base : Nat} {e : TypeId} {size : Nat} {v : Value} {n : Nat} {xs : List Value} {B : Nat} (h : w.ownsRow base e size v n xs) (hb : Below B w w') (hv : ∀ g, v.ownBlock = some g → g < B) : w'.ownsRow base e size v n xs := by
  refine ⟨h.1, ?_⟩
  rcases h.2 with h' | ⟨k, cap, cur, h1, h2, h3, h4⟩
  · exact .inl h'
  · exact .inr ⟨k, cap, cur, h1, h2, (hb.block k (hv k (by rw [h1]; rfl))).trans h3, h4⟩

/-! ### What keeps a row -/

theorem rd_keep {w w' : World} {A : Option Addr} {n : Nat} {f : Nat → Value} (h : Rd w w.heap.size A n f) (hs : w.heap.size ≤ w'.heap.size) (hk : ∀ ad, A = some ad → ad.block < w.heap.size → w'.heap[ad.block]? = w.heap[ad.block]?) : Rd w' w'.heap.size A n f := fun hm => by
  obtain ⟨ad, e, hb, hc⟩ := h hm
  refine ⟨ad, e, Nat.lt_of_lt_of_le hb hs, fun j hj => ?_⟩
  rw [← hc j hj]
  exact World.cell?_of_block (w := w) (by rw [addr_add_block]; exact hk ad e hb)

theorem own_keep {w w' : World} {base : Nat} {e : TypeId} {size : Nat} {v : Value} {n : Nat} {xs : List Value} (h : w.ownsRow base e size v n xs) (hk : ∀ g, v.ownBlock = some g → w'.heap[g]? = w.heap[g]?) : w'.ownsRow base e size v n xs := by
  refine ⟨h.1, ?_⟩
  rcases h.2 with h' | ⟨k, cap, cur, h1, h2, h3, h4⟩
  · exact .inl h'
  · exact .inr ⟨k, cap, cur, h1, h2, (hk k (by rw [h1]; rfl)).trans h3, h4⟩

/-! ### The rows -/

/-- a named block, and where its parts lie: between lo and hi -/
structure Nq where
  js : List (Jn × Option Addr × Nat)
  jA : Option Addr
  jc : Nat
  code : List St
  cA : Option Addr
  cc : Nat
  test : Int
  th : Int
  el : Int
  last : List Int
  lA : Option Addr
  lc : Nat
  lo : Nat
  hi : Nat

def Nq.sg (q : Nq) : Sg := ⟨q.js.map (·.1), q.code, q.test, q.th, q.el, q.last⟩

def cNq (q : Nq) : List Value := [.slice q.jA q.js.length q.jc, .slice q.cA q.code.length q.cc, .int .i64 q.test, .int .i64 q.th, .int .i64 q.el, .slice q.lA q.last.length q.lc]

theorem cNq_len (q : Nq) : (cNq q).length = 6 := rfl

def cJn (x : Jn × Option Addr × Nat) : List Value := [.int .i64 x.1.to, .slice x.2.1 x.1.fr.length x.2.2]

theorem cJn_len (x : Jn × Option Addr × Nat) : (cJn x).length = 2 := rfl

/-- joins without names so far -/
def bareJ (js : List Jn) : List (Jn × Option Addr × Nat) := js.map fun j => (j, none, 0)

/-- what holds of a row -/
structure RowQ (w : World) (S F : Nat) (q : Nq) : Prop where
  jn : w.ownsRow q.lo 59 2 (.slice q.jA q.js.length q.jc) q.js.length (rv cJn q.js)
  jh : ∀ ad, q.jA = some ad → ad.block < q.hi
  jr : ∀ x ∈ q.js, RdI w w.heap.size x.2.1 x.1.fr ∧ x.1.fr.length ≤ x.2.2 ∧ ∀ ad, x.2.1 = some ad → F ≤ ad.block ∧ S ≤ ad.block
  cd : RdS w w.heap.size q.cA q.code
  ch : ∀ ad, q.cA = some ad → q.lo ≤ ad.block ∧ ad.block < q.hi ∧ ∀ aj, q.jA = some aj → ad.block ≠ aj.block
  la : RdI w w.heap.size q.lA q.last
  lh : ∀ ad, q.lA = some ad → q.lo ≤ ad.block ∧ ad.block < q.hi ∧ ∀ aj, q.jA = some aj → ad.block ≠ aj.block
  lo : S ≤ q.lo
  le : q.lo ≤ q.hi
  hw : q.hi ≤ w.heap.size

theorem ob_some {ad : Addr} {n c : Nat} : (Value.slice (some ad) n c).ownBlock = some ad.block := rfl

theorem RowQ.jlo {w : World} {S F : Nat} {q : Nq} (h : RowQ w S F q) {ad : Addr} (e : q.jA = some ad) : q.lo ≤ ad.block ∧ ad.block < w.heap.size := h.jn.lt ad.block (by rw [e]; rfl)

/-- kept, where its blocks are -/
theorem RowQ.keep {w w' : World} {S F : Nat} {q : Nq} (h : RowQ w S F q) (hs : w.heap.size ≤ w'.heap.size) (hk : ∀ k, k < w.heap.size → S ≤ k → (q.lo ≤ k ∧ k < q.hi ∨ F ≤ k) → w'.heap[k]? = w.heap[k]?) : RowQ w' S F q := by
  have hlo := h.lo
  refine ⟨own_keep h.jn fun g hg => ?_, h.jh, fun x hx => ?_, rd_keep h.cd hs fun ad e hl => ?_, h.ch, rd_keep h.la hs fun ad e hl => ?_, h.lh, h.lo, h.le, Nat.le_trans h.hw hs⟩
  · have h1 := h.jn.lt g hg
    cases e : q.jA with
    | none =>
      rw [e] at hg
      cases hg
    | some ad =>
      have h2 := h.jh ad e
      rw [e] at hg
      injection hg with hg
      subst hg
      exact hk _ h1.2 (by omega) (.inl ⟨h1.1, h2⟩)
  · obtain ⟨h1, h2, h3⟩ := h.jr x hx
    exact ⟨rd_keep h1 hs fun ad e hl => hk _ hl (h3 ad e).2 (.inr (h3 ad e).1), h2, h3⟩
  · obtain ⟨h1, h2, _⟩ := h.ch ad e
    exact hk _ hl (by omega) (.inl ⟨h1, h2⟩)
  · obtain ⟨h1, h2, _⟩ := h.lh ad e
    exact hk _ hl (by omega) (.inl ⟨h1, h2⟩)

theorem RowQ.drew {w : World} {S F : Nat} {q : Nq} (h : RowQ w S F q) : RowQ w.drew S F q := h.keep (Nat.le_refl _) (fun _ _ _ _ => rfl)

theorem WrP.drew {P : Nat → Prop} {w w' : World} (h : WrP P w w') : WrP P w w'.drew := ⟨h.os, h.tape, h.output, h.size, h.block⟩

/-- all of them, in block g -/
structure NmG (w : World) (g S F : Nat) (qs : List Nq) : Prop where
  own : Own w g 43 (rv cNq qs)
  lt : g < S
  rows : ∀ (r : Nat) (q : Nq), qs[r]? = some q → RowQ w S F q
  apart : ∀ (r s : Nat) (q u : Nq), r ≠ s → qs[r]? = some q → qs[s]? = some u → q.hi ≤ u.lo ∨ u.hi ≤ q.lo

theorem NmG.quiet {w w' : World} {g S F : Nat} {qs : List Nq} (h : NmG w g S F qs) (hb : Below w.heap.size w w') : NmG w' g S F qs :=
  ⟨h.own.below hb h.own.lt, h.lt, fun r q hq => (h.rows r q hq).keep hb.size fun k hk _ _ => hb.block k hk, h.apart⟩

/-- one stored anew -/
theorem NmG.put {P : Nat → Prop} {w w' : World} {g S F i : Nat} {qs : List Nq} {q : Nq} (h : NmG w g S F qs) (hw : WrP P w w') (hP : ∀ k, P k → k < S) (ho : Own w' g 43 (rv cNq (qs.set i q))) (hi : i < qs.length) (hq : RowQ w' S F q) (hlo : w.heap.size ≤ q.lo) : NmG w' g S F (qs.set i q) := by
  refine ⟨ho, h.lt, fun r u hu => ?_, fun r s u v hne hu hv => ?_⟩
  · by_cases e : i = r
    · subst e
      rw [List.getElem?_set_self hi] at hu
      injection hu with hu
      subst hu
      exact hq
    · rw [List.getElem?_set_ne e] at hu
      exact (h.rows r u hu).keep hw.size fun k hk hS _ => hw.block k hk fun hp => by have := hP k hp; omega
  · by_cases e : i = r
    · subst e
      rw [List.getElem?_set_self hi] at hu
      rw [List.getElem?_set_ne hne] at hv
      injection hu with hu
      subst hu
      have := (h.rows s v hv).hw
      exact .inr (by omega)
    · rw [List.getElem?_set_ne e] at hu
      by_cases e2 : i = s
      · subst e2
        rw [List.getElem?_set_self hi] at hv
        injection hv with hv
        subst hv
        have := (h.rows r u hu).hw
        exact .inl (by omega)
      · rw [List.getElem?_set_ne e2] at hv
        exact h.apart r s u v hne hu hv

theorem rv_same {α : Type} {c : α → List Value} : ∀ {l : List α} {i : Nat} {x y : α}, l[i]? = some x → c y = c x → rv c (l.set i y) = rv c l
  | [], _, _, _, h, _ => by simp at h
  | a :: l, 0, x, y, h, e => by
    simp at h
    subst h
    show c y ++ rv c l = c a ++ rv c l
    rw [e]
  | a :: l, i + 1, x, y, h, e => by
    show c a ++ rv c (l.set i y) = c a ++ rv c l
    rw [rv_same (by simpa using h) e]

/-- the names of a join laid -/
theorem NmG.fill {w w' : World} {g S F i k : Nat} {qs : List Nq} {q : Nq} {x : Jn × Option Addr × Nat} {A' : Option Addr} {c' : Nat} {fr' : List Int} (h : NmG w g S F qs) (hF : ∀ (r : Nat) (q : Nq), qs[r]? = some q → q.hi ≤ F) (hq : qs[i]? = some q) (hx : q.js[k]? = some x)
    (hs : w.heap.size ≤ w'.heap.size) (hb : ∀ b, b < w.heap.size → (∀ aj, q.jA = some aj → b ≠ aj.block) → w'.heap[b]? = w.heap[b]?)
    (ho : w'.ownsRow q.lo 59 2 (.slice q.jA q.js.length q.jc) q.js.length (rv cJn (q.js.set k (⟨x.1.to, fr'⟩, A', c'))))
    (hr : RdI w' w'.heap.size A' fr') (hc : fr'.length ≤ c') (ha : ∀ ad, A' = some ad → w.heap.size ≤ ad.block) (hFw : F ≤ w.heap.size) (hSF : S ≤ F) :
    NmG w' g S F (qs.set i { q with js := q.js.set k (⟨x.1.to, fr'⟩, A', c') }) := by
  have hil : i < qs.length := (List.getElem?_eq_some_iff.1 hq).1
  have hkl : k < q.js.length := (List.getElem?_eq_some_iff.1 hx).1
  have hrow := h.rows i q hq
  have hjs : ∀ aj, q.jA = some aj → q.lo ≤ aj.block ∧ aj.block < q.hi := fun aj e => ⟨(hrow.jlo e).1, hrow.jh aj e⟩
  have hlo := hrow.lo
  have hqF := hF i q hq
  have hcn : cNq { q with js := q.js.set k (⟨x.1.to, fr'⟩, A', c') } = cNq q := by
    unfold cNq
    simp only [List.length_set]
  have hg := h.lt
  have hgl := h.own.lt
  refine ⟨?_, h.lt, fun r u hu => ?_, fun r s u v hne hu hv => ?_⟩
  · rw [rv_same hq hcn]
    have := hb g hgl fun aj e => by have := hjs aj e; omega
    exact this.trans h.own
  · by_cases e : i = r
    · subst e
      rw [List.getElem?_set_self hil] at hu
      injection hu with hu
      subst hu
      refine ⟨by simp only [List.length_set]; exact ho, hrow.jh, fun y hy => ?_, rd_keep hrow.cd hs fun ad e hl => ?_, hrow.ch, rd_keep hrow.la hs fun ad e hl => ?_, hrow.lh, hrow.lo, hrow.le, Nat.le_trans hrow.hw hs⟩
      · rcases List.mem_or_eq_of_mem_set hy with hy | rfl
        · obtain ⟨h1, h2, h3⟩ := hrow.jr y hy
          exact ⟨rd_keep h1 hs fun ad e hl => hb _ hl fun aj e2 => by have := hjs aj e2; have := (h3 ad e).1; omega, h2, h3⟩
        · exact ⟨hr, hc, fun ad e => by have := ha ad e; simp only [] at *; omega⟩
      · exact hb _ hl fun aj e2 => (hrow.ch ad e).2.2 aj e2
      · exact hb _ hl fun aj e2 => (hrow.lh ad e).2.2 aj e2
    · rw [List.getElem?_set_ne e] at hu
      have hap := h.apart i r q u e hq hu
      refine (h.rows r u hu).keep hs fun b hbl _ hor => hb b hbl fun aj e2 => ?_
      have := hjs aj e2
      rcases hor with h1 | h1 <;> omega
  · have hof : ∀ (t : Nat) (z : Nq), (qs.set i { q with js := q.js.set k (⟨x.1.to, fr'⟩, A', c') })[t]? = some z → ∃ z', qs[t]? = some z' ∧ z.lo = z'.lo ∧ z.hi = z'.hi := fun t z hz => by
      by_cases e : i = t
      · subst e
        rw [List.getElem?_set_self hil] at hz
        injection hz with hz
        subst hz
        exact ⟨q, hq, rfl, rfl⟩
      · rw [List.getElem?_set_ne e] at hz
        exact ⟨z, hz, rfl, rfl⟩
    obtain ⟨u', hu', e1, e2⟩ := hof r u hu
    obtain ⟨v', hv', e3, e4⟩ := hof s v hv
    rw [e1, e2, e3, e4]
    exact h.apart r s u' v' hne hu' hv'

/-- the cells of a row -/
theorem NmG.cell {w : World} {g S F r i : Nat} {qs : List Nq} {q : Nq} {v : Value} (h : NmG w g S F qs) (hq : qs[r]? = some q) (hv : (cNq q)[i]? = some v) : w.cell? ⟨g, r * 6 + i, none⟩ = some v := by
  have hi : i < 6 := by
    have := (List.getElem?_eq_some_iff.1 hv).1
    rwa [cNq_len] at this
  refine h.own.cell ?_
  rw [rv_at cNq_len hq hi, hv]

theorem RowQ.rdJ {w : World} {S F : Nat} {q : Nq} (h : RowQ w S F q) : RdJ w w.heap.size q.jA (q.js.map (·.1)) := fun hm => by
  rw [List.length_map] at hm
  cases e : q.jA with
  | none =>
    exfalso
    rcases h.jn.2 with ⟨_, h0⟩ | ⟨k, cap, cur, h1, _⟩
    · omega
    · rw [e] at h1
      injection h1 with h1
      cases h1
  | some ad =>
    have hown := h.jn
    rw [e] at hown
    obtain ⟨g, hg, _, hgl⟩ := own_form hown hm
    injection hg with hg
    subst hg
    refine ⟨_, rfl, hgl, fun k j hk => ?_⟩
    rw [List.getElem?_map] at hk
    cases hx : q.js[k]? with
    | none => rw [hx] at hk; cases hk
    | some x =>
      rw [hx] at hk
      injection hk with hk
      subst hk
      have hkl := (List.getElem?_eq_some_iff.1 hx).1
      obtain ⟨h1, h2, _⟩ := h.jr x (List.mem_of_getElem? hx)
      have c0 := (hown.cellAt (k * 2) (by omega)).trans (rv_at (i := 0) cJn_len hx (by omega))
      have c1 := (hown.cellAt (k * 2 + 1) (by omega)).trans (rv_at (i := 1) cJn_len hx (by omega))
      have ha : (⟨g, 0, none⟩ : Addr).add (k * 2) = ⟨g, k * 2, none⟩ := by unfold Addr.add; split <;> simp_all
      rw [ha]
      exact ⟨x.2.1, x.2.2, h1, c0, c1, h2⟩

/-- they read -/
theorem NmG.rd {w : World} {g S F : Nat} {qs : List Nq} (h : NmG w g S F qs) : RdN w w.heap.size (some ⟨g, 0, none⟩) (qs.map Nq.sg) := fun hm => by
  refine ⟨_, rfl, h.own.lt, fun k s hk => ?_⟩
  rw [List.getElem?_map] at hk
  cases hx : qs[k]? with
  | none => rw [hx] at hk; cases hk
  | some q =>
    rw [hx] at hk
    injection hk with hk
    subst hk
    have hrow := h.rows k q hx
    have ha : (⟨g, 0, none⟩ : Addr).add (k * 6) = ⟨g, k * 6, none⟩ := by unfold Addr.add; split <;> simp_all
    rw [ha]
    have c0 := h.cell (i := 0) hx rfl
    rw [Nat.add_zero] at c0
    refine ⟨q.jA, q.jc, q.cA, q.cc, q.lA, q.lc, hrow.rdJ, hrow.cd, hrow.la, ?_, h.cell (i := 1) hx rfl, h.cell (i := 2) hx rfl, h.cell (i := 3) hx rfl, h.cell (i := 4) hx rfl, h.cell (i := 5) hx rfl⟩
    rw [c0]
    simp only [Nq.sg, List.length_map]

end Go.Proofs.Ytgcjknibelfjbaa

/-
  single.nameStep, single.builder.newName (M3).
-/

namespace Go.Proofs.Ytgcjknibelfjbaa
open Go.RowKit
set_option linter.unusedSimpArgs false
set_option linter.unusedVariables false
set_option maxRecDepth 100000

set_option maxHeartbeats 4000000 in
theorem newName_any (bb T : Nat) (u0 u1 : Value) (w : World) (h : Own w bb 87 [u0, u1, .int .i64 T]) (hT : T ≤ 1000) :
    Calls Try.prog 72 #[.pointer (some ⟨bb, 0, none⟩)] w fun e w' => e = .returned (.int .i64 T) ∧ Own w' bb 87 [u0, u1, .int .i64 ((T + 1 : Nat) : Int)] ∧ Wrote bb w w' ∧ w'.heap.size = w.heap.size := by
  have q := h.cell (j := 2) rfl
  have f := h.frozen 2
  have hl := h.lt
  have HS := Lib.hid (h.set 2 (.int .i64 ((T + 1 : Nat) : Int)))
  have hw : IntKind.i64.wrap ((T : Int) + 1) = ((T + 1 : Nat) : Int) := by rw [IntWalk.i64_in _ ⟨by omega, by omega⟩]; omega
  clear h
  go_enter Try.func72, Try.ntmps72
  go_wp2
  go_ret
  exact ⟨rfl, HS.out, (Wrote.of_below (Below.refl w.heap.size w)).set (p := ⟨bb, 2, none⟩) rfl _, by simp⟩

set_option maxHeartbeats 4000000 in
theorem nameStep_any (n c t : Nat) (LA : Option Addr) (la : List Int) (o dd a b v : Int) (w : World) (hla : RdI w w.heap.size LA la) (hl : la.length = n) (hk : ckStep n n o dd a b v = 0) :
    Calls Try.prog 73 #[.agg #[.int .i64 o, .int .i64 dd, .int .i64 a, .int .i64 b, .int .i64 v], .int .i64 t, .slice LA n c] w fun e w' =>
      ∃ s, s = nmS ⟨o, dd, a, b, v⟩ t la ∧ e = .returned (.agg #[.int .i64 s.op, .int .i64 s.to, .int .i64 s.a, .int .i64 s.b, .int .i64 s.v]) ∧ Below w.heap.size w w' := by
  obtain ⟨_, hc⟩ := ckStep_cases hk
  clear hk
  rcases hc with ⟨rfl, _⟩ | ⟨rfl, h0, h1⟩ | ⟨h3, h6, ha0, ha1, hb0, hb1⟩
  · have HE : Hid (nmS ⟨1, dd, a, b, v⟩ t la = ⟨1, (t : Int), 0, 0, v⟩) := Lib.hid (by unfold nmS; rw [if_pos rfl])
    clear hla hl
    go_enter Try.func73, Try.ntmps73
    go_wp2
    (try simp only [Exit.inBlock, Exit.then]); exact bodyPost_ret (v := .agg #[.int .i64 1, .int .i64 (t : Int), .int .i64 0, .int .i64 0, .int .i64 v]) (results_cell_row rfl _ _ (w.heap.size + 1) 61 _ _ _ rfl (own_end (w := w.alloc (.cells #[.int .i64 1, .int .i64 dd, .int .i64 a, .int .i64 b, .int .i64 v] 61)) (by simp) 61 [.int .i64 1, .int .i64 (t : Int), .int .i64 0, .int .i64 0, .int .i64 v]) Try.underlying61 rfl (by kernel_rfl)) rfl ⟨_, HE.out.symm, rfl, by go_grown⟩
  · obtain ⟨m, rfl⟩ := Int.eq_ofNat_of_zero_le h0
    obtain ⟨ad, x, rfl, hbl, hx, hcx⟩ := hla.at_ (k := m) (by omega)
    have hg : la.getD m 0 = x := by rw [List.getD_eq_getElem?_getD, hx]; rfl
    have HE : Hid (nmS ⟨2, dd, a, b, (m : Int)⟩ t la = ⟨2, (t : Int), 0, 0, x⟩) := Lib.hid (by
      unfold nmS
      simp only [Int.toNat_natCast, hg]
      rw [if_neg (by omega), if_pos trivial])
    have hm : m < n := by omega
    clear hla hl h0 h1 hx hg
    go_enter Try.func73, Try.ntmps73
    go_wp2
    go_region
    all_goals go_wp2
    all_goals ((try simp only [Exit.inBlock, Exit.then]); exact bodyPost_ret (v := .agg #[.int .i64 2, .int .i64 (t : Int), .int .i64 0, .int .i64 0, .int .i64 x]) (results_cell_row rfl _ _ (w.heap.size + 1) 61 _ _ _ rfl (Own.drew (own_end (w := w.alloc (.cells #[.int .i64 2, .int .i64 dd, .int .i64 a, .int .i64 b, .int .i64 (m : Int)] 61)) (by simp) 61 [.int .i64 2, .int .i64 (t : Int), .int .i64 0, .int .i64 0, .int .i64 x])) Try.underlying61 rfl (by kernel_rfl)) rfl ⟨_, HE.out.symm, rfl, by go_grown⟩)
  · obtain ⟨p, rfl⟩ := Int.eq_ofNat_of_zero_le ha0
    obtain ⟨q, rfl⟩ := Int.eq_ofNat_of_zero_le hb0
    obtain ⟨ad, x, rfl, hbl, hx, hcx⟩ := hla.at_ (k := p) (by omega)
    obtain ⟨ad', y, ead, hbl', hy, hcy⟩ := hla.at_ (k := q) (by omega)
    injection ead with ead
    subst ead
    have hg : la.getD p 0 = x := by rw [List.getD_eq_getElem?_getD, hx]; rfl
    have hg2 : la.getD q 0 = y := by rw [List.getD_eq_getElem?_getD, hy]; rfl
    have HE : Hid (nmS ⟨o, dd, (p : Int), (q : Int), v⟩ t la = ⟨o, (t : Int), x, y, 0⟩) := Lib.hid (by
      unfold nmS
      simp only [Int.toNat_natCast, hg, hg2]
      rw [if_neg (by omega), if_neg (by omega)])
    have hp : p < n := by omega
    have hq : q < n := by omega
    have e1 : (o == 1) = false := by simp; omega
    have e2 : (o == 2) = false := by simp; omega
    clear hla hl ha0 ha1 hb0 hb1 hx hy hg hg2 h3 h6
    go_enter Try.func73, Try.ntmps73
    go_wp2
    go_region
    all_goals go_wp2
    all_goals ((try simp only [Exit.inBlock, Exit.then]); exact bodyPost_ret (v := .agg #[.int .i64 o, .int .i64 (t : Int), .int .i64 x, .int .i64 y, .int .i64 0]) (results_cell_row rfl _ _ (w.heap.size + 1) 61 _ _ _ rfl (Own.drew (own_end (w := w.alloc (.cells #[.int .i64 o, .int .i64 dd, .int .i64 (p : Int), .int .i64 (q : Int), .int .i64 v] 61)) (by simp) 61 [.int .i64 o, .int .i64 (t : Int), .int .i64 x, .int .i64 y, .int .i64 0])) Try.underlying61 rfl (by kernel_rfl)) rfl ⟨_, HE.out.symm, rfl, by go_grown⟩)

end Go.Proofs.Ytgcjknibelfjbaa

/-
  single.builder.nameBlock: a block over names (M3).
-/

namespace Go.Proofs.Ytgcjknibelfjbaa
open Go.RowKit
set_option linter.unusedSimpArgs false
set_option linter.unusedVariables false
set_option maxRecDepth 100000

/-- a row of ints that stands whatever those blocks hold -/
def RowHeld (P : Nat → Prop) (w : World) (A : Option Addr) (i : Nat) (vs : List Nat) : Prop :=
  ∃ (ad : Addr) (Ar : Option Addr) (cr : Nat), A = some ad ∧ ∀ Z, WrP P w Z → Z.cell? (ad.add i) = some (.slice Ar vs.length cr) ∧ (ad.add i).block < Z.heap.size ∧ RdI Z Z.heap.size Ar (ni vs)

/-- what stands while a block is named -/
structure Nb (w wr : World) (bb nb lb lc n : Nat) (u0 u1 : Value) (T : Nat) (la : List Int) (jsl cdl : Value) (te th el : Int) : Prop where
  bO : Own wr bb 87 [u0, u1, .int .i64 T]
  nO : Own wr nb 43 [jsl, cdl, .int .i64 te, .int .i64 th, .int .i64 el, .slice (some ⟨lb, 0, none⟩) n lc]
  lO : wr.ownsRow w.heap.size 3 1 (.slice (some ⟨lb, 0, none⟩) n lc) n (iv la)
  wO : Wrote bb w wr

theorem join_app : AppTy Try.prog 40 59 2 32 := appTy_of (z := .agg #[.int .i64 0, .slice none 0 0]) Try.underlying40 (by kernel_rfl) rfl (by omega)

theorem ni_get {vs : List Nat} {k : Nat} {x : Int} (h : (ni vs)[k]? = some x) : ∃ v : Nat, x = (v : Int) ∧ vs[k]? = some v := by
  unfold ni at h
  rw [List.getElem?_map] at h
  cases e : vs[k]? with
  | none => rw [e] at h; cases h
  | some v =>
    rw [e] at h
    injection h with h
    exact ⟨v, h.symm, rfl⟩

/-- joins so far -/
structure Jp (vs : List Nat) (T n : Nat) (be : List Int) (k : Nat) (la : List Int) (js : List Jn) : Prop where
  jl : js.length = k
  ll : la.length = n
  jf : jnF (vs.drop k) (T + k) la = jnF vs T be
  jt : js ++ jnT (vs.drop k) (T + k) = jnT vs T

theorem Jp.zero {vs : List Nat} {T n : Nat} {be : List Int} (h : be.length = n) : Jp vs T n be 0 be [] := ⟨rfl, h, rfl, rfl⟩

theorem Jp.step {vs : List Nat} {T n k v : Nat} {be la : List Int} {js : List Jn} (h : Jp vs T n be k la js) (hv : vs[k]? = some v) : Jp vs T n be (k + 1) (la.set v ((T + k : Nat) : Int)) (js ++ [⟨((T + k : Nat) : Int), []⟩]) := by
  obtain ⟨h1, h2, h3, h4⟩ := h
  rw [drop_at hv] at h3 h4
  refine ⟨by simp [h1], by simpa using h2, ?_, ?_⟩
  · rw [← h3]
    rfl
  · rw [← h4]
    simp [jnT, Nat.add_assoc]

theorem Jp.done {vs : List Nat} {T n k : Nat} {be la : List Int} {js : List Jn} (h : Jp vs T n be k la js) (hk : vs.length = k) : la = jnF vs T be ∧ js = jnT vs T := by
  obtain ⟨h1, h2, h3, h4⟩ := h
  rw [List.drop_of_length_le (by omega)] at h3 h4
  exact ⟨h3, by simpa [jnT] using h4⟩

/-- steps so far -/
structure Cp (co : List St) (T n : Nat) (be : List Int) (k : Nat) (la : List Int) (cs : List St) : Prop where
  cl : cs.length = k
  ll : la.length = n
  cf : cdF (co.drop k) (T + k) la = cdF co T be
  ct : cs ++ cdC (co.drop k) (T + k) la = cdC co T be

theorem Cp.zero {co : List St} {T n : Nat} {be : List Int} (h : be.length = n) : Cp co T n be 0 be [] := ⟨rfl, h, rfl, rfl⟩

theorem Cp.step {co : List St} {T n k : Nat} {s : St} {be la : List Int} {cs : List St} (h : Cp co T n be k la cs) (hv : co[k]? = some s) : Cp co T n be (k + 1) (la.set s.to.toNat ((T + k : Nat) : Int)) (cs ++ [nmS s (T + k) la]) := by
  obtain ⟨h1, h2, h3, h4⟩ := h
  rw [drop_at hv] at h3 h4
  refine ⟨by simp [h1], by simpa using h2, ?_, ?_⟩
  · rw [← h3]
    rfl
  · rw [← h4]
    simp [cdC, Nat.add_assoc]

theorem Cp.done {co : List St} {T n k : Nat} {be la : List Int} {cs : List St} (h : Cp co T n be k la cs) (hk : co.length = k) : la = cdF co T be ∧ cs = cdC co T be := by
  obtain ⟨h1, h2, h3, h4⟩ := h
  rw [List.drop_of_length_le (by omega)] at h3 h4
  exact ⟨h3, by simpa [cdC] using h4⟩

theorem stepn_app : AppTy Try.prog 41 61 5 40 := appTy_of (z := .agg #[.int .i64 0, .int .i64 0, .int .i64 0, .int .i64 0, .int .i64 0]) Try.underlying41 (by kernel_rfl) rfl (by omega)

theorem cellsN_at {X : World} {k : Nat} (hk : k = X.heap.size) (s : St) (cs : Array Value) (hcs : cs = (cSt s).toArray) (t : TypeId) : ∀ ad : Addr, some (⟨k, 0, none⟩ : Addr) = some ad → ∀ j u, (cSt s)[j]? = some u → (X.alloc (.cells cs t)).cell? (ad.add j) = some u := by
  subst hcs
  exact cells_at hk (cSt s) t

theorem grownBy_own {w w' : World} {row : Option Nat} {g : Nat} {t : TypeId} {cs : List Value} (hg : w.grownBy w' row) (h : Own w g t cs) (hne : ∀ q, row = some q → g ≠ q) : Own w' g t cs :=
  (hg.block g h.lt fun e => hne g e.symm rfl).trans h

theorem ob_eqS {h n c g : Nat} (hg : (Value.slice (some ⟨h, 0, none⟩) n c).ownBlock = some g) : h = g := by
  have e : (Value.slice (some ⟨h, 0, none⟩) n c).ownBlock = some h := rfl
  rw [e] at hg
  injection hg

theorem cellsJ_at {X : World} {k : Nat} (hk : k = X.heap.size) (t : Int) (ty : TypeId) : ∀ ad : Addr, some (⟨k, 0, none⟩ : Addr) = some ad → ∀ j u, (cJn ((⟨t, []⟩ : Jn), (none : Option Addr), 0))[j]? = some u → (X.alloc (.cells #[.int .i64 t, .slice none 0 0] ty)).cell? (ad.add j) = some u :=
  cells_at hk [.int .i64 t, .slice none 0 0] ty

theorem cJn_one (x : Jn × Option Addr × Nat) : ∀ u ∈ cJn x, u.oneCell' = true := fun u hu => by
  simp [cJn] at hu
  rcases hu with rfl | rfl <;> rfl

theorem bareJ_app (js : List Jn) (j : Jn) : rv cJn (bareJ (js ++ [j])) = rv cJn (bareJ js) ++ cJn (j, none, 0) := by simp [bareJ, rv]

theorem jnT_fr : ∀ {vs : List Nat} {t : Nat} {j : Jn}, j ∈ jnT vs t → j.fr = []
  | [], _, _, h => by simp [jnT] at h
  | v :: r, t, j, h => by
    rw [jnT, List.mem_cons] at h
    rcases h with rfl | h
    · rfl
    · exact jnT_fr h

/-- a row written anew -/
theorem rv_set6 : ∀ {qs : List Nq} {i : Nat} {q : Nq}, i < qs.length →
    ((((((rv cNq qs).set (i * 6) (.slice q.jA q.js.length q.jc)).set (i * 6 + 1) (.slice q.cA q.code.length q.cc)).set (i * 6 + 2) (.int .i64 q.test)).set (i * 6 + 3) (.int .i64 q.th)).set (i * 6 + 4) (.int .i64 q.el)).set (i * 6 + 5) (.slice q.lA q.last.length q.lc) = rv cNq (qs.set i q)
  | [], _, _, h => by simp at h
  | p :: qs, 0, q, h => by
    show ((((((([_, _, _, _, _, _] : List Value) ++ rv cNq qs).set 0 _).set 1 _).set 2 _).set 3 _).set 4 _).set 5 _ = cNq q ++ rv cNq qs
    simp [cNq]
  | p :: qs, i + 1, q, h => by
    have ih := rv_set6 (qs := qs) (i := i) (q := q) (by simpa using h)
    have e1 : rv cNq (p :: qs) = cNq p ++ rv cNq qs := rfl
    have e2 : rv cNq ((p :: qs).set (i + 1) q) = cNq p ++ rv cNq (qs.set i q) := rfl
    have far : ∀ (l : List Value) (k : Nat) (u : Value), (cNq p ++ l).set ((i + 1) * 6 + k) u = cNq p ++ l.set (i * 6 + k) u := fun l k u => by
      rw [List.set_append, if_neg (by rw [cNq_len]; omega), cNq_len, show (i + 1) * 6 + k - 6 = i * 6 + k by omega]
    rw [e1, e2, ← ih]
    have f0 := far (rv cNq qs) 0 (.slice q.jA q.js.length q.jc)
    rw [Nat.add_zero, Nat.add_zero] at f0
    rw [f0, far, far, far, far, far]
    simp only [Nat.add_zero]

/-- the block stored -/
theorem nb_fin {w wr : World} {g bb nb lb lc n i tm k c m c2 H1 H2 : Nat} {u0 u1 : Value} {la : List Int} {A A2 : Option Addr} {t th el : Int} {js : List Jn} {cs : List St} {qs : List Nq}
    (hnb : Nb w wr bb nb lb lc n u0 u1 tm la (.slice A k c) (.slice A2 m c2) t th el) (hcr : wr.ownsRow H2 61 5 (.slice A2 m c2) m (rv cSt cs)) (hjr : wr.ownsRow H1 59 2 (.slice A k c) k (rv cJn (bareJ js)))
    (hjl : ∀ q, (Value.slice A k c).ownBlock = some q → H1 ≤ q ∧ q < H2) (hH1 : w.heap.size ≤ H1) (hlb : lb < H1) (hH2 : H1 ≤ H2) (hjs : js.length = k) (hcs : cs.length = m) (hla : la.length = n) (hg : Own w g 43 (rv cNq qs)) (hne : g ≠ bb) (hi : i < qs.length) (hjz : ∀ j ∈ js, j.fr = []) :
    ∃ Z, Z = (((((wr.setCell ⟨g, i * 6, none⟩ (.slice A k c)).setCell ⟨g, i * 6 + 1, none⟩ (.slice A2 m c2)).setCell ⟨g, i * 6 + 2, none⟩ (.int .i64 t)).setCell ⟨g, i * 6 + 3, none⟩ (.int .i64 th)).setCell ⟨g, i * 6 + 4, none⟩ (.int .i64 el)).setCell ⟨g, i * 6 + 5, none⟩ (.slice (some ⟨lb, 0, none⟩) n lc) ∧
    ∃ q : Nq, q.sg = ⟨js, cs, t, th, el, la⟩ ∧ q.lo = w.heap.size ∧ (∀ S F, S ≤ w.heap.size → RowQ Z S F q) ∧ (∀ x ∈ q.js, x.2 = (none, 0) ∧ x.1.fr = []) ∧
        Own Z g 43 (rv cNq (qs.set i q)) ∧ Own Z bb 87 [u0, u1, .int .i64 tm] ∧ WrP (fun k => k = g ∨ k = bb) w Z := by
  subst hjs hcs hla
  have hgl := hg.lt
  have hbl : (bareJ js).length = js.length := by simp [bareJ]
  obtain ⟨Z, hZe⟩ : ∃ Z, Z = (((((wr.setCell ⟨g, i * 6, none⟩ (.slice A js.length c)).setCell ⟨g, i * 6 + 1, none⟩ (.slice A2 cs.length c2)).setCell ⟨g, i * 6 + 2, none⟩ (.int .i64 t)).setCell ⟨g, i * 6 + 3, none⟩ (.int .i64 th)).setCell ⟨g, i * 6 + 4, none⟩ (.int .i64 el)).setCell ⟨g, i * 6 + 5, none⟩ (.slice (some ⟨lb, 0, none⟩) la.length lc) := ⟨_, rfl⟩
  have hZ : WrP (fun k => k = g) wr Z := by
    rw [hZe]
    exact ((((((WrP.of_below (P := fun k => k = g) (Below.refl wr.heap.size wr)).set (p := ⟨g, i * 6, none⟩) rfl _).set (p := ⟨g, i * 6 + 1, none⟩) rfl _).set (p := ⟨g, i * 6 + 2, none⟩) rfl _).set (p := ⟨g, i * 6 + 3, none⟩) rfl _).set (p := ⟨g, i * 6 + 4, none⟩) rfl _).set (p := ⟨g, i * 6 + 5, none⟩) rfl _
  have h0 : Own wr g 43 (rv cNq qs) := (hnb.wO.block g hgl hne).trans hg
  have hO : Own Z g 43 (rv cNq (qs.set i ⟨bareJ js, A, c, cs, A2, c2, t, th, el, la, some ⟨lb, 0, none⟩, lc, w.heap.size, wr.heap.size⟩)) := by
    rw [← rv_set6 hi, hZe]
    simp only [hbl]
    exact ((((((h0.set _ _).set _ _).set _ _).set _ _).set _ _).set _ _)
  have hB : WrP (fun k => k = g ∨ k = bb) w Z := by
    rw [hZe]
    exact ((((((WrP.of_wrote (P := fun k => k = g ∨ k = bb) hnb.wO (.inr rfl)).set (p := ⟨g, i * 6, none⟩) (.inl rfl) _).set (p := ⟨g, i * 6 + 1, none⟩) (.inl rfl) _).set (p := ⟨g, i * 6 + 2, none⟩) (.inl rfl) _).set (p := ⟨g, i * 6 + 3, none⟩) (.inl rfl) _).set (p := ⟨g, i * 6 + 4, none⟩) (.inl rfl) _).set (p := ⟨g, i * 6 + 5, none⟩) (.inl rfl) _
  refine ⟨Z, hZe, ⟨bareJ js, A, c, cs, A2, c2, t, th, el, la, some ⟨lb, 0, none⟩, lc, w.heap.size, wr.heap.size⟩, ?_, rfl, fun S F hS => ?_, fun x hx => ?_, hO, hZ.own hnb.bO (fun e => hne e.symm), hB⟩
  · show (⟨(bareJ js).map (·.1), cs, t, th, el, la⟩ : Sg) = _
    congr 1
    simp [bareJ, Function.comp_def]
  · have hll := hnb.lO.lt lb rfl
    have hsz := hnb.wO.size
    have hcl : ∀ ad, A2 = some ad → H2 ≤ ad.block ∧ ad.block < wr.heap.size := fun ad e => hcr.lt ad.block (by rw [e]; rfl)
    have hjl2 : ∀ ad, A = some ad → H1 ≤ ad.block ∧ ad.block < H2 := fun ad e => hjl ad.block (by rw [e]; rfl)
    refine ⟨?_, fun ad e => (hjr.lt ad.block (by rw [show A = some ad from e]; rfl)).2, fun x hx => ?_, ?_, fun ad e => ?_, ?_, fun ad e => ?_, hS, hsz, hZ.size⟩
    · show Z.ownsRow w.heap.size 59 2 (.slice A (bareJ js).length c) (bareJ js).length (rv cJn (bareJ js))
      rw [hbl]
      exact hZ.row (own_mono hjr hH1) (fun q hq => by have := hjl q hq; omega)
    · obtain ⟨j, hj, rfl⟩ := List.mem_map.1 hx
      rw [hjz j hj]
      exact ⟨fun hm => by simp at hm, Nat.le_refl _, fun ad e => by cases e⟩
    · exact rd_keep (own_rdR (c := cSt) hcr rfl) hZ.size fun ad e hl => hZ.block _ hl (by have := hcl ad e; omega)
    · have h1 := hcl ad e
      exact ⟨by show w.heap.size ≤ _; omega, h1.2, fun aj e2 => by have := hjl2 aj e2; omega⟩
    · exact rd_keep (own_rdI hnb.lO rfl) hZ.size fun ad e hl => hZ.block _ hl (by injection e with e; subst e; show ¬ lb = g; omega)
    · have e3 : ad = ⟨lb, 0, none⟩ := by
        have e4 : some (⟨lb, 0, none⟩ : Addr) = some ad := e
        injection e4 with e4
        exact e4.symm
      subst e3
      exact ⟨hll.1, hll.2, fun aj e2 => by have := hjl2 aj e2; show lb ≠ _; omega⟩
  · obtain ⟨j, hj, rfl⟩ := List.mem_map.1 hx
    exact ⟨rfl, hjz j hj⟩

/-- a step's cells -/
def NewsN (g : Nat) (s : St) (w : World) : Prop := ∀ ad : Addr, some (⟨g, 0, none⟩ : Addr) = some ad → ∀ j u, (cSt s)[j]? = some u → w.cell? (ad.add j) = some u

theorem leL {L : List Nat} {p j : Nat} (h : doneL L p j = false) : p ≤ L.getD j 0 - 1 := by
  unfold doneL at h
  simp only [decide_eq_false_iff_not] at h
  omega

theorem geL {L : List Nat} {p j : Nat} (h : doneL L p j = true) : L.getD j 0 ≤ p := by
  unfold doneL at h
  simpa using h

/-- behind the step's append -/
structure StC (w5 wo : World) (nb sb lb lc n m : Nat) (jsl cdl : Value) (th el : Int) (cs : List St) (s : St) (o tn a b u : Int) (A8 : Option Addr) (c8 : Nat) (w : World) : Prop where
  row : w.ownsRow wo.heap.size 61 5 (.slice A8 (m + 1) c8) (m + 1) (rv cSt cs ++ cSt s)
  bel : Below wo.heap.size w5 w
  nO : Own w nb 43 [jsl, cdl, .int .i64 (-1), .int .i64 th, .int .i64 el, .slice (some ⟨lb, 0, none⟩) n lc]
  sO : Own w sb 61 [.int .i64 o, .int .i64 tn, .int .i64 a, .int .i64 b, .int .i64 u]

set_option maxHeartbeats 16000000 in
theorem nameBlock_any (n T g bb B i len jc : Nat) (JA : Option Addr) (vs : List Nat) (qs : List Nq) (code : List St) (Ac : Option Addr) (cl cc : Nat) (te th el : Int) (LA : Option Addr) (lcap : Nat) (be : List Int) (w : World)
    (hbb : Own w bb 87 [.slice JA len jc, .slice (some ⟨g, 0, none⟩) len len, .int .i64 T]) (hg : Own w g 43 (rv cNq qs)) (hne : g ≠ bb) (hql : qs.length = len) (hi : i < len) (h8 : len ≤ 8)
    (hjv : RowHeld (fun k => k = bb) w JA i vs) (hvs : ∀ v ∈ vs, v < n) (hvl : vs.length ≤ 6)
    (hc : RdS w B Ac code) (hB : B ≤ bb) (hcl : code.length = cl) (hc20 : cl ≤ 20) (hcc : cl ≤ cc) (hst : ckStepsF n n code = 0) (hte : te = -1 ∨ (0 ≤ te ∧ te < n))
    (hl : RdI w w.heap.size LA be) (hbl : be.length = n) (hn1 : 1 ≤ n) (hn6 : n ≤ 6) (hT : T ≤ 200) :
    Calls Try.prog 47 #[.pointer (some ⟨bb, 0, none⟩), .int .i64 i, .agg #[.slice Ac cl cc, .int .i64 te, .int .i64 th, .int .i64 el], .slice LA n lcap] w fun e w' =>
      e = .returned (.tuple #[]) ∧ ∃ q : Nq, q.sg = nmB vs ⟨code, te, th, el⟩ be T ∧ q.lo = w.heap.size ∧ (∀ S F, S ≤ w.heap.size → RowQ w' S F q) ∧ (∀ x ∈ q.js, x.2 = (none, 0) ∧ x.1.fr = []) ∧
        Own w' g 43 (rv cNq (qs.set i q)) ∧ Own w' bb 87 [.slice JA len jc, .slice (some ⟨g, 0, none⟩) len len, .int .i64 ((T + (vs.length + cl) : Nat) : Int)] ∧ WrP (fun k => k = g ∨ k = bb) w w' := by
  have HCLO := Lib.hid (clone_any LA n lcap be)
  have HBB := Lib.hid hbb
  have HG := Lib.hid hg
  have HC := Lib.hid hc
  have HL := Lib.hid hl
  have HBL := Lib.hid hbl
  have HST := Lib.hid hst
  have HCL := Lib.hid hcl
  have HVS := Lib.hid hvs
  have HQL := Lib.hid hql
  have hbl := hbb.lt
  have hgl := hg.lt
  obtain ⟨aj, Ar, cr, rfl, hrow⟩ := hjv
  have HROW := Lib.hid hrow
  obtain ⟨v1, hv1⟩ : ∃ v1, vs.length = v1 := ⟨_, rfl⟩
  have HV1 := Lib.hid hv1
  rw [hv1] at hvl
  clear hbb hg hc hl hbl hst hcl hvs hql hrow hv1
  have hb0 := HBB.out.lt
  have hg0 := HG.out.lt
  go_enter Try.func47, Try.ntmps47
  go_upto_region 1 with fail
  go_cut [8] from 14 to 20 (fun s8 wx => ∃ nb lb lc, s8 = .pointer (some ⟨nb, 0, none⟩) ∧ Own wx nb 43 [.slice none 0 0, .slice none 0 0, .int .i64 (-1), .int .i64 th, .int .i64 el, .slice (some ⟨lb, 0, none⟩) n lc] ∧ wx.ownsRow w.heap.size 3 1 (.slice (some ⟨lb, 0, none⟩) n lc) n (iv be) ∧ w.heap.size < nb ∧ nb ≠ lb ∧ Below w.heap.size w wx ∧ Own wx w.heap.size 45 [.slice Ac cl cc, .int .i64 te, .int .i64 th, .int .i64 el] ∧ lb ≠ w.heap.size)
  case first =>
    have hbo : Below w.heap.size w (w.alloc (.cells #[.slice Ac cl cc, .int .i64 te, .int .i64 th, .int .i64 el] 45)) := by go_grown
    have hB1 : Own (w.alloc (.cells #[.slice Ac cl cc, .int .i64 te, .int .i64 th, .int .i64 el] 45)) w.heap.size 45 [.slice Ac cl cc, .int .i64 te, .int .i64 th, .int .i64 el] := Own.new w _ [_, _, _, _]
    obtain ⟨wo, hwo⟩ : ∃ wo, w.alloc (.cells #[.slice Ac cl cc, .int .i64 te, .int .i64 th, .int .i64 el] 45) = wo := ⟨_, rfl⟩
    rw [hwo] at hbo hB1 ⊢
    clear hwo
    have hso := hB1.lt
    have HB1 := Lib.hid hB1
    have HKK : Hid (∀ Z : World, Below wo.heap.size wo Z → Z.cell? ⟨w.heap.size, 2, none⟩ = some (.int .i64 th) ∧ Z.cell? ⟨w.heap.size, 3, none⟩ = some (.int .i64 el)) := Lib.hid fun Z hZ => ⟨(hB1.below hZ hso).cell (j := 2) rfl, (hB1.below hZ hso).cell (j := 3) rfl⟩
    clear hB1
    go_region_held3 (fun w' => w'.cell? ⟨w.heap.size, 2, none⟩ = some (.int .i64 th) ∧ w'.cell? ⟨w.heap.size, 3, none⟩ = some (.int .i64 el))
      (exact HKK.out _ (by go_grown))
      (first
        | (go_at_call 51; (with_reducible refine (HCLO.out _ ((HL.out.below (hbo.trans ((by go_grown : Below wo.heap.size wo _).mono hbo.size)) (Nat.le_refl _)).more (Nat.le_trans hbo.size (by go_grown : Below wo.heap.size wo _).size)) HBL.out hn1 (by omega)).mono ?_); rintro e w5 ⟨lb, lc, rfl, hown5, hb5⟩; have hb6 : Below wo.heap.size wo w5 := below_via (by go_grown) hb5; have hs6 := hb6.size
           try (have hN5 : Own w5 wo.heap.size 43 [.slice none 0 0, .slice none 0 0, .int .i64 0, .int .i64 0, .int .i64 0, .slice none 0 0] := Own.below (Own.drew (Own.new wo _ [_, _, _, _, _, _])) hb5 (by simp); have n0 := hN5.cell (j := 0) rfl; have n1 := hN5.cell (j := 1) rfl; have n2 := hN5.cell (j := 2) rfl; have n3 := hN5.cell (j := 3) rfl; have n4 := hN5.cell (j := 4) rfl; have n5 := hN5.cell (j := 5) rfl; have z0 := hN5.frozen 0; have z1 := hN5.frozen 1; have z2 := hN5.frozen 2; have z3 := hN5.frozen 3; have z4 := hN5.frozen 4; have z5 := hN5.frozen 5; have zl := hN5.lt)))
    · have hb7 : Below w.heap.size w w5 := hbo.trans (hb6.mono hbo.size)
      have hl5 := hown5.lt lb rfl
      have hlo : wo.heap.size ≤ lb := hl5.1
      go_wp2_with fail
      go_meet
      exact ⟨_, lb, lc, rfl, Own.new w5 _ [_, _, _, _, _, _], (own_mono hown5 hbo.size).alloc _, by omega, by omega, hb7.trans ((by go_grown : Below w5.heap.size w5 _).mono hb7.size), (HB1.out.below hb6 hso).alloc _, by omega⟩
    · have hb7 : Below w.heap.size w w5 := hbo.trans (hb6.mono hbo.size)
      have hl5 := hown5.lt lb rfl
      have hlo : wo.heap.size + 1 ≤ lb := Nat.le_trans (by simp) hl5.1
      have hx := HB1.out.below hb6 hso
      have hne5 : ∀ j : Nat, w.heap.size ≠ (⟨wo.heap.size, j, none⟩ : Addr).block := fun j => by simp only []; omega
      have hlt5 : ∀ j : Nat, (⟨wo.heap.size, j, none⟩ : Addr).block < lb := fun j => by simp only []; omega
      have hlr := own_raise hown5 (Nat.le_refl lb)
      go_wp2_with fail
      go_meet
      exact ⟨_, lb, lc, rfl, (((((hN5.set 0 _).set 1 _).set 2 _).set 3 _).set 4 _).set 5 _, own_mono (own_farW (own_farW (own_farW (own_farW (own_farW (own_farW hlr (hlt5 0) _) (hlt5 1) _) (hlt5 2) _) (hlt5 3) _) (hlt5 4) _) (hlt5 5) _) (by omega), by omega, by omega,
        (((((hb7.setCell (by show _ ≤ wo.heap.size; omega) _).setCell (by show _ ≤ wo.heap.size; omega) _).setCell (by show _ ≤ wo.heap.size; omega) _).setCell (by show _ ≤ wo.heap.size; omega) _).setCell (by show _ ≤ wo.heap.size; omega) _).setCell (by show _ ≤ wo.heap.size; omega) _,
        (((((hx.far (hne5 0) _).far (hne5 1) _).far (hne5 2) _).far (hne5 3) _).far (hne5 4) _).far (hne5 5) _, by omega⟩
  case rest =>
    obtain ⟨nb, lb, lc, rfl, hnb, hla, hnb0, hnl, hbw, hbox, hlx⟩ := hcut
    have hNB : Nb w wc bb nb lb lc n (.slice (some aj) len jc) (.slice (some ⟨g, 0, none⟩) len len) T be (.slice none 0 0) (.slice none 0 0) (-1) th el := ⟨HBB.out.below hbw hb0, hnb, hla, Wrote.of_below hbw⟩
    have HNB := Lib.hid hNB
    have q0 := hNB.bO.cell (j := 0) rfl
    have hbc := hNB.bO.lt
    have hnc := hNB.nO.lt
    have hlc := (hla.lt lb rfl).2
    have hrw := HROW.out wc (WrP.of_below hbw)
    rw [HV1.out] at hrw
    have hai := hrw.1
    have hail := hrw.2.1
    clear hrw hNB hnb hla
    have HJ0 := Lib.hid (Jp.zero (vs := vs) (T := T) HBL.out)
    go_wp2
    go_loopw [29] (fun z wr => ∃ (k tk : Nat) (la : List Int) (js : List Jn) (A : Option Addr) (c : Nat), k ≤ v1 ∧ z = .int .i64 k ∧ T + k = tk ∧ Jp vs T n be k la js ∧ Nb w wr bb nb lb lc n (.slice (some aj) len jc) (.slice (some ⟨g, 0, none⟩) len len) tk la (.slice A k c) (.slice none 0 0) (-1) th el ∧ wr.ownsRow wc.heap.size 59 2 (.slice A k c) k (rv cJn (bareJ js)) ∧ wc.heap.size ≤ wr.heap.size ∧ Own wr w.heap.size 45 [.slice Ac cl cc, .int .i64 te, .int .i64 th, .int .i64 el]) (fun z _ => v1 - (intOf z).toNat)
    case atStart => exact ⟨0, T, be, [], none, 0, Nat.zero_le _, rfl, rfl, HJ0.out, HNB.out, World.ownsRow_nil _ _ _ _, Nat.le_refl _, hbox⟩
    case round =>
      obtain ⟨k, tk, la, js, A, c, hk, rfl, htk, hjp, hnb, hjr, hsz, hbx⟩ := hrel
      have HJP := Lib.hid hjp
      have HNBR := Lib.hid hnb
      have HJR := Lib.hid hjr
      have HBX := Lib.hid hbx
      have HTK := Lib.hid htk
      by_cases hkt : k < v1
      · have hrz := HROW.out wr (WrP.of_wrote hnb.wO rfl)
        obtain ⟨ad, x, rfl, hbx2, hx, hcx⟩ := hrz.2.2.at_ (k := k) (by simp [ni, HV1.out]; exact hkt)
        obtain ⟨v, rfl, hv⟩ := ni_get hx
        have hvn := HVS.out v (List.mem_of_getElem? hv)
        have HJS := Lib.hid (hjp.step hv)
        rw [htk] at HJS
        have hn5 := hnb.nO.cell (j := 5) rfl
        have hlv := hjp.ll
        obtain ⟨x0, hx0⟩ : ∃ x0, la[v]? = some x0 := ⟨_, List.getElem?_eq_getElem (by omega)⟩
        have HX0 := Lib.hid (iv_at hx0)
        have hlr := hnb.lO.lt lb rfl
        have hbr := hnb.bO.lt
        have hnr := hnb.nO.lt
        have HK5 : Hid (∀ Z : World, WrP (fun k => k = bb ∨ k = lb) wr Z → Z.cell? ⟨nb, 5, none⟩ = some (.slice (some ⟨lb, 0, none⟩) n lc)) := Lib.hid fun Z hZ => (hZ.own hnb.nO (by omega)).cell (j := 5) rfl
        have htk9 : tk ≤ 206 := by omega
        clear hrz hx hv hx0 hjp hjr hnb hbx htk
        go_wp2
        go_region_held3 (fun Z => Z.cell? ⟨nb, 5, none⟩ = some (.slice (some ⟨lb, 0, none⟩) n lc))
          (first
            | exact HK5.out _ (WrP.set h5P (.inr rfl) _)
            | exact HK5.out _ h5P
            | exact HK5.out _ (WrP.of_below (by go_grown)))
          (first
            | (go_at_call 72; (with_reducible refine (newName_any bb tk _ _ _ (HNBR.out.bO.below (by go_grown : Below wr.heap.size wr _) hbr) (by omega)).mono ?_); rintro e w5 ⟨rfl, hO5, hw5, hs5⟩; have h5P : WrP (fun k => k = bb ∨ k = lb) wr w5 := WrP.of_wrote (Wrote.trans (Wrote.of_below (by go_grown : Below wr.heap.size wr _)) hw5) (.inl rfl); have hl5 : w5.ownsRow w.heap.size 3 1 (.slice (some ⟨lb, 0, none⟩) n lc) n (iv la) := own_wroteN HNBR.out.lO (Wrote.trans (Wrote.of_below (by go_grown : Below wr.heap.size wr _)) hw5) (by show some lb ≠ some bb; simp; omega); have c5 := (hl5.cellAt v (by omega)).trans HX0.out; have f5 := hl5.frozenAt v))
        have hP6 : WrP (fun k => k = bb ∨ k = lb) wr (w5.setCell ⟨lb, v, none⟩ (.int .i64 tk)) := h5P.set (.inr rfl) _
        have hO6 := hO5.far (p := ⟨lb, v, none⟩) (by show bb ≠ lb; omega) (.int .i64 tk)
        have hl6 : (w5.setCell ⟨lb, v, none⟩ (.int .i64 tk)).ownsRow w.heap.size 3 1 (.slice (some ⟨lb, 0, none⟩) n lc) n (iv (la.set v tk)) := by
          have := (hl5.stored v (.int .i64 tk)).1
          rwa [iv_set] at this
        have hW6 : Wrote bb w (w5.setCell ⟨lb, v, none⟩ (.int .i64 tk)) := (HNBR.out.wO.trans (Wrote.trans (Wrote.of_below (by go_grown : Below wr.heap.size wr _)) hw5)).andThen ((Below.refl w.heap.size w5).setCell hlr.1 _)
        have hN6 := hP6.own HNBR.out.nO (by omega)
        have hJ6 := hP6.row HJR.out (fun q hq => by have := (HJR.out.lt q hq).1; omega)
        have hX6 := hP6.own HBX.out (by omega)
        have hs6 := hP6.size
        have hv6 := (hl6.cellAt v (by omega)).trans (iv_at (List.getElem?_set_self (by omega)))
        obtain ⟨w6, hw6⟩ : ∃ w6, w5.setCell ⟨lb, v, none⟩ (.int .i64 tk) = w6 := ⟨_, rfl⟩
        rw [hw6] at hP6 hO6 hl6 hW6 hN6 hJ6 hX6 hs6 hv6 ⊢
        clear hw6 hw5 h5P hO5 c5 f5 hl5
        have a0 := hN6.cell (j := 0) rfl
        have a5 := hN6.cell (j := 5) rfl
        have hn6l := hN6.lt
        have hl6l := (hl6.lt lb rfl).2
        have HO6 := Lib.hid hO6
        have HL6 := Lib.hid hl6
        have HW6 := Lib.hid hW6
        have HN6 := Lib.hid hN6
        have HJ6 := Lib.hid hJ6
        have HX6 := Lib.hid hX6
        have h63 : k + 1 ≤ maxLen := by unfold maxLen; omega
        have hbig : (k + 1) * 32 ≤ 140737488355328 := by omega
        have hcs6 : wc.heap.size ≤ w6.heap.size := by omega
        clear hP6 hO6 hl6 hW6 hN6 hJ6 hX6 HNBR HJR HBX
        go_wp2
        go_region_law (refine step_app_any rfl (.tmp 40) (.tmp 47) 40 rfl wc.heap.size 59 2 32 join_app (rv cJn (bareJ js)) rfl (own_below HJ6.out (by go_grown)) (cJn (⟨tk, []⟩, none, 0)) rfl rfl (fun h => by cases h) (cellsJ_at rfl _ _) (cJn_one _) h63 hbig (Nat.le_trans hcs6 (by go_grown : Below w6.heap.size w6 _).size) ?_; intro A8 c8 w8 hown8 hg8 hb8; have hbA : Below wc.heap.size w6 w8 := (Below.mono (by go_grown : Below w6.heap.size w6 _) hcs6).trans hb8; have hN8 := HN6.out.below hbA hnc; have cc8 := hN8.cell (j := 0) rfl; have ff8 := hN8.frozen 0; have hl8 := hN8.lt)
        all_goals
          have hlb8 := own_underS HL6.out hbA (fun q hq => by have := ob_eqS hq; omega)
          go_wp2
          go_round
          case rel => exact ⟨k + 1, tk + 1, la.set v tk, js ++ [⟨(tk : Int), []⟩], A8, c8, by omega, by go_num, by have := HTK.out; omega, HJS.out,
            ⟨(HO6.out.below hbA hbc).far (by show bb ≠ nb; omega) _, hN8.set 0 _, (WrP.set (P := fun k => k = nb) (WrP.of_below (Below.refl _ _)) rfl _).row hlb8 (fun q hq => by have := ob_eqS hq; omega), (HW6.out.andThen (hbA.mono hbw.size)).andThen ((Below.refl w.heap.size w8).setCell (by show w.heap.size ≤ nb; omega) _)⟩,
            by rw [bareJ_app]; exact own_farW hown8 hnc _, by have := hbA.size; simp; omega, (HX6.out.below hbA (by omega)).far (by show w.heap.size ≠ nb; omega) _⟩
          case measure => (simp [intOf]; omega)
      · obtain ⟨hd1, hd2⟩ := hjp.done (by rw [HV1.out]; omega)
        have hkv : k = v1 := by omega
        subst hkv
        obtain ⟨L1, hL1⟩ : ∃ L1, jnF vs T be = L1 := ⟨_, rfl⟩
        have HL1 := Lib.hid hL1
        have HD2 := Lib.hid hd2
        rw [hL1] at hd1
        subst hd1
        obtain ⟨L1, rfl⟩ : ∃ L1, L1 = la := ⟨_, rfl⟩
        have HC0 := Lib.hid (Cp.zero (co := code) (T := tk) hjp.ll)
        obtain ⟨wo, rfl⟩ : ∃ wo : World, wo = wr := ⟨_, rfl⟩
        have x0 := hbx.cell (j := 0) rfl
        have hxl := hbx.lt
        have htk9 : tk ≤ 206 := by omega
        have hjlt : ∀ q, (Value.slice A k c).ownBlock = some q → wc.heap.size ≤ q ∧ q < wo.heap.size := fun q hq => hjr.lt q hq
        have HJLT := Lib.hid hjlt
        clear hjp hjr hnb hbx htk HJP hd2 hL1 hjlt
        go_wp2
        go_loopw [54] (fun z wr => ∃ (m tm : Nat) (la : List Int) (cs : List St) (A2 : Option Addr) (c2 : Nat), m ≤ cl ∧ z = .int .i64 m ∧ tk + m = tm ∧ Cp code tk n L1 m la cs ∧ Nb w wr bb nb lb lc n (.slice (some aj) len jc) (.slice (some ⟨g, 0, none⟩) len len) tm la (.slice A k c) (.slice A2 m c2) (-1) th el ∧ wr.ownsRow wo.heap.size 61 5 (.slice A2 m c2) m (rv cSt cs) ∧ wo.heap.size ≤ wr.heap.size ∧ Own wr w.heap.size 45 [.slice Ac cl cc, .int .i64 te, .int .i64 th, .int .i64 el] ∧ wr.ownsRow wc.heap.size 59 2 (.slice A k c) k (rv cJn (bareJ js))) (fun z _ => cl - (intOf z).toNat)
        case atStart => exact ⟨0, tk, L1, [], none, 0, Nat.zero_le _, rfl, rfl, HC0.out, HNBR.out, World.ownsRow_nil _ _ _ _, Nat.le_refl _, HBX.out, HJR.out⟩
        case round =>
          obtain ⟨m, tm, la, cs, A2, c2, hm, rfl, htm, hcp, hnb, hcr, hsz2, hbx, hjr⟩ := hrel
          have HCP := Lib.hid hcp
          have HNB2 := Lib.hid hnb
          have HCR := Lib.hid hcr
          have HBX2 := Lib.hid hbx
          have HJR2 := Lib.hid hjr
          have HTM := Lib.hid htm
          by_cases hmt : m < cl
          · obtain ⟨ad4, o, t, a, b, u, rfl, hbl5, hd4, g0, g1, g2, g3, g4⟩ := (RdS.below HC.out (hnb.wO.below hB (by omega)) (Nat.le_refl _)).at_ (k := m) (by rw [HCL.out]; exact hmt)
            have hck := ckStepsF_at HST.out hd4
            obtain ⟨⟨ht0, ht1⟩, _⟩ := ckStep_cases hck
            simp only [] at ht0 ht1 hck
            obtain ⟨tn, rfl⟩ := Int.eq_ofNat_of_zero_le ht0
            have HCS := Lib.hid (hcp.step hd4)
            rw [htm] at HCS
            simp only [Int.toNat_natCast] at HCS
            have htn : tn < n := by omega
            have hlv := hcp.ll
            obtain ⟨s, hs⟩ : ∃ s, nmS ⟨o, tn, a, b, u⟩ tm la = s := ⟨_, rfl⟩
            have HNS : Hid (∀ Z : World, RdI Z Z.heap.size (some ⟨lb, 0, none⟩) la → Calls Try.prog 73 #[.agg #[.int .i64 o, .int .i64 tn, .int .i64 a, .int .i64 b, .int .i64 u], .int .i64 tm, .slice (some ⟨lb, 0, none⟩) n lc] Z fun e w' => e = .returned (.agg #[.int .i64 s.op, .int .i64 s.to, .int .i64 s.a, .int .i64 s.b, .int .i64 s.v]) ∧ Below Z.heap.size Z w') := Lib.hid fun Z h => (nameStep_any n lc tm (some ⟨lb, 0, none⟩) la o tn a b u Z h hlv hck).mono fun e w' ⟨s', h1, h2, h3⟩ => by
              rw [hs] at h1
              rw [← h1]
              exact ⟨h2, h3⟩
            rw [hs] at HCS
            have hlr := hnb.lO.lt lb rfl
            have hbr := hnb.bO.lt
            have hnr := hnb.nO.lt
            have hcrl : ∀ q, (Value.slice A2 m c2).ownBlock = some q → wo.heap.size ≤ q ∧ q < wr.heap.size := fun q hq => hcr.lt q hq
            have HCRL := Lib.hid hcrl
            have htm9 : tm ≤ 230 := by omega
            have h63 : m + 1 ≤ maxLen := by unfold maxLen; omega
            have hbig : (m + 1) * 40 ≤ 140737488355328 := by omega
            have hbl5r : (ad4.add (m * 5)).block < wr.heap.size := by omega
            clear hck hcp hcr hnb hbx hjr htm hd4 ht0 ht1 hcrl
            go_wp2_with (go_at_call 72; (with_reducible refine (newName_any bb tm _ _ _ (HNB2.out.bO.below (by go_grown : Below wr.heap.size wr _) hbr) (by omega)).mono ?_); rintro e w5 ⟨rfl, hO5, hw5, hs5⟩)
            have hP5 : WrP (fun k => k = bb) wr w5 := WrP.of_wrote (Wrote.trans (Wrote.of_below (by go_grown : Below wr.heap.size wr _)) hw5) rfl
            have hS5 : Own w5 wr.heap.size 61 [.int .i64 o, .int .i64 tn, .int .i64 a, .int .i64 b, .int .i64 u] := (WrP.of_wrote (P := fun k => k = bb) hw5 rfl).own (Own.new wr _ [_, _, _, _, _]) (by omega)
            have hl5 := hP5.row HNB2.out.lO (fun q hq => by have := ob_eqS hq; omega)
            have hN5 := hP5.own HNB2.out.nO (by omega)
            have hC5 := hP5.row HCR.out (fun q hq => by have := HCRL.out q hq; omega)
            have hJ5 := hP5.row HJR2.out (fun q hq => by have := HJLT.out q hq; omega)
            have hX5 := hP5.own HBX2.out (by omega)
            have hW5 := HNB2.out.wO.trans (Wrote.trans (Wrote.of_below (by go_grown : Below wr.heap.size wr _)) hw5)
            have hsr5 : wr.heap.size < w5.heap.size := hS5.lt
            have s0 := hS5.cell (j := 0) rfl
            have s1 := hS5.cell (j := 1) rfl
            have s2 := hS5.cell (j := 2) rfl
            have s3 := hS5.cell (j := 3) rfl
            have s4 := hS5.cell (j := 4) rfl
            have a1 := hN5.cell (j := 1) rfl
            have a5 := hN5.cell (j := 5) rfl
            have hn5l := hN5.lt
            have HO5 := Lib.hid hO5
            have HS5 := Lib.hid hS5
            have HL5 := Lib.hid hl5
            have HN5 := Lib.hid hN5
            have HC5 := Lib.hid hC5
            have HJ5 := Lib.hid hJ5
            have HX5 := Lib.hid hX5
            have HW5 := Lib.hid hW5
            have hwo5 : wo.heap.size ≤ w5.heap.size := by omega
            have HRI : Hid (∀ Z : World, Below w5.heap.size w5 Z → RdI Z Z.heap.size (some ⟨lb, 0, none⟩) la) := Lib.hid fun Z hZ => own_rdI (own_below hl5 hZ) hlv
            have HK12 : Hid (∀ Z : World, Below w5.heap.size w5 Z → Z.cell? ⟨nb, 5, none⟩ = some (.slice (some ⟨lb, 0, none⟩) n lc) ∧ Z.cell? ⟨wr.heap.size, 0, none⟩ = some (.int .i64 o) ∧ Z.cell? ⟨wr.heap.size, 1, none⟩ = some (.int .i64 tn) ∧ Z.cell? ⟨wr.heap.size, 2, none⟩ = some (.int .i64 a) ∧ Z.cell? ⟨wr.heap.size, 3, none⟩ = some (.int .i64 b) ∧ Z.cell? ⟨wr.heap.size, 4, none⟩ = some (.int .i64 u)) := Lib.hid fun Z hZ => ⟨(hN5.below hZ hN5.lt).cell (j := 5) rfl, (hS5.below hZ hS5.lt).cell (j := 0) rfl, (hS5.below hZ hS5.lt).cell (j := 1) rfl, (hS5.below hZ hS5.lt).cell (j := 2) rfl, (hS5.below hZ hS5.lt).cell (j := 3) rfl, (hS5.below hZ hS5.lt).cell (j := 4) rfl⟩
            clear hw5 hP5 hO5 hS5 hl5 hN5 hC5 hJ5 hX5 hW5 g0 g1 g2 g3 g4 HNB2 HCR HBX2 HJR2
            go_wp2
            refine wp_region_steps (X := Nat × (Nat × Option Addr × Nat)) (fun x w => (x.1 ≤ 2 → Below w5.heap.size w5 w) ∧ (x.1 = 2 → NewsN x.2.1 s w) ∧ (x.1 = 3 → StC w5 wo nb wr.heap.size lb lc n m (.slice A k c) (.slice A2 m c2) th el cs s o tn a b u x.2.2.1 x.2.2.2 w) ∧ (4 ≤ x.1 → ∃ w8, StC w5 wo nb wr.heap.size lb lc n m (.slice A k c) (.slice A2 m c2) th el cs s o tn a b u x.2.2.1 x.2.2.2 w8 ∧ w = w8.setCell ⟨nb, 1, none⟩ (.slice x.2.2.1 (m + 1) x.2.2.2))) (fun x j => doneL [0, 0, 0, 0, 0, 0, 1, 2, 3, 0, 4] x.1 j) (effL [0, 0, 0, 0, 0, 0, 1, 2, 3, 0, 4]) (0, (0, none, 0)) (fun x => [.pointer (some ⟨nb, 1, none⟩), .slice A2 m c2, .agg #[.int .i64 o, .int .i64 tn, .int .i64 a, .int .i64 b, .int .i64 u], .int .i64 tm, .pointer (some ⟨nb, 5, none⟩), .slice (some ⟨lb, 0, none⟩) n lc, .agg #[.int .i64 s.op, .int .i64 s.to, .int .i64 s.a, .int .i64 s.b, .int .i64 s.v], .slice (some ⟨x.2.1, 0, none⟩) 1 1, .slice x.2.2.1 (m + 1) x.2.2.2, .pointer (some ⟨nb, 1, none⟩), undef]) _ (by kernel_rfl) (by kernel_rfl) (by kernel_rfl) (fun x => by simp only [putsD, Act.put, List.setIfInBounds_toArray, List.set_cons_zero, List.set_cons_succ]; exact rfl) h0L ⟨fun _ => Below.drew (Below.refl _ _), fun h => absurd h (by decide), fun h => absurd h (by decide), fun h => absurd h (by decide)⟩ (fun x => ?_) (fun x wz hDz hSz => ?_)
            · refine AllS.val (by rfl) (by rfl) (fun w hSw hPw => by go_simp) ?_
              refine AllS.val (by rfl) (by rfl) (fun w hSw hPw => ?_) ?_
              · (try dsimp only at hSw)
                have hb := hSw.1 (leL (hPw.not (j := 8) rfl (by kernel_rfl)))
                have hc := (HN5.out.below hb hn5l).cell (j := 1) rfl
                go_simp
              refine AllS.val (by rfl) (by rfl) (fun w hSw hPw => ?_) ?_
              · (try dsimp only at hSw)
                have hb := hSw.1 (Nat.le_trans (leL (hPw.not (j := 6) rfl (by kernel_rfl))) (by decide))
                have hc := (HS5.out.below hb hsr5)
                have c0 := hc.cell (j := 0) rfl
                have c1 := hc.cell (j := 1) rfl
                have c2 := hc.cell (j := 2) rfl
                have c3 := hc.cell (j := 3) rfl
                have c4 := hc.cell (j := 4) rfl
                go_simp
              refine AllS.val (by rfl) (by rfl) (fun w hSw hPw => by go_simp) ?_
              refine AllS.val (by rfl) (by rfl) (fun w hSw hPw => by go_simp) ?_
              refine AllS.val (by rfl) (by rfl) (fun w hSw hPw => ?_) ?_
              · (try dsimp only at hSw)
                have hb := hSw.1 (Nat.le_trans (leL (hPw.not (j := 6) rfl (by kernel_rfl))) (by decide))
                have hc := (HN5.out.below hb hn5l).cell (j := 5) rfl
                go_simp
              refine AllS.turn (fun _ _ => rfl) (by rfl) (fun w hSw hPw K hK => ?_) ?_
              · (try dsimp only at hSw)
                have h0 := leL (hPw.me rfl)
                have hb := hSw.1 (Nat.le_trans h0 (by decide))
                go_simp
                go_at_call 73
                (with_reducible refine (HNS.out _ (HRI.out _ hb)).mono ?_)
                rintro e w7 ⟨rfl, hb7⟩
                go_simp
                have hx0 : x.1 = 0 := by exact Nat.le_zero.1 h0
                obtain ⟨p, y⟩ := x
                (try dsimp only at hx0)
                subst hx0
                exact hK (1, y) _ (nxtL rfl (by decide)) ⟨fun _ => below_via hb hb7, fun h => absurd h (by simp), fun h => absurd h (by simp), fun h => absurd h (by simp)⟩
              refine AllS.turn (fun _ _ => rfl) (by rfl) (fun w hSw hPw K hK => ?_) ?_
              · (try dsimp only at hSw)
                have h0 := leL (hPw.me rfl)
                have h1 := geL (hPw.need (k := 6) rfl (by kernel_rfl))
                have hb := hSw.1 (Nat.le_trans h0 (by decide))
                go_simp
                have hx0 : x.1 = 1 := Nat.le_antisymm h0 h1
                obtain ⟨p, y⟩ := x
                (try dsimp only at hx0)
                subst hx0
                exact hK (2, w.heap.size, y.2) _ (nxtL rfl (by decide)) ⟨fun _ => below_via hb (by go_grown), fun _ => cellsN_at rfl s _ rfl _, fun h => absurd h (by simp), fun h => absurd h (by simp)⟩
              refine AllS.turn (fun _ _ => rfl) (by rfl) (fun w hSw hPw K hK => ?_) ?_
              · (try dsimp only at hSw)
                have h0 := leL (hPw.me rfl)
                have h1 := geL (hPw.need (k := 7) rfl (by kernel_rfl))
                have hb := hSw.1 h0
                have hx0 : x.1 = 2 := Nat.le_antisymm h0 h1
                have hnw := hSw.2.1 hx0
                obtain ⟨p, y1, y2, y3⟩ := x
                (try dsimp only at hx0)
                subst hx0
                refine oper_app (.tmp 61) (.tmp 67) 41 rfl wo.heap.size 61 5 40 stepn_app (rv cSt cs) rfl (own_below HC5.out hb) (cSt s) rfl rfl (fun h => by cases h) hnw (cSt_one _) h63 hbig (Nat.le_trans hwo5 hb.size) ?_
                intro A8 c8 w8 hown8 hg8 hb8
                have hN8 := (HN5.out.below hb hn5l)
                have hS8 := grownBy_own hg8 (HS5.out.below hb hsr5) (fun q hq => by have := HCRL.out q hq; omega)
                exact hK (3, y1, A8, c8) _ (nxtL rfl (by decide)) ⟨fun h => absurd h (by simp), fun h => absurd h (by simp), fun _ => ⟨hown8, (hb.mono hwo5).trans hb8, hN8.below hb8 (by omega), hS8⟩, fun h => absurd h (by simp)⟩
              refine AllS.val (by rfl) (by rfl) (fun w hSw hPw => by go_simp) ?_
              refine AllS.turn (fun _ _ => rfl) (by rfl) (fun w hSw hPw K hK => ?_) ?_
              · (try dsimp only at hSw)
                have h0 := leL (hPw.me rfl)
                have h1 := geL (hPw.need (k := 8) rfl (by kernel_rfl))
                have hx0 : x.1 = 3 := Nat.le_antisymm h0 h1
                have hst8 := hSw.2.2.1 hx0
                obtain ⟨p, y1, y2, y3⟩ := x
                (try dsimp only at hx0)
                subst hx0
                have k0 := hst8.nO.cell (j := 1) rfl
                have k1 := hst8.nO.frozen 1
                go_simp
                exact hK (4, y1, y2, y3) _ (nxtL rfl (by decide)) ⟨fun h => absurd h (by simp), fun h => absurd h (by simp), fun h => absurd h (by simp), fun _ => ⟨w, hst8, rfl⟩⟩
              exact AllS.nil
            obtain ⟨w8, hst8, rfl⟩ := hSz.2.2.2 (geL (hDz 10 (by decide) (by decide)))
            obtain ⟨p, y1, A8, c8⟩ := x
            (try dsimp only at hst8)
            have hb8 := hst8.bel
            have hN9 := hst8.nO.set 1 (.slice A8 (m + 1) c8)
            have hS9 := hst8.sO.far (p := ⟨nb, 1, none⟩) (by show wr.heap.size ≠ nb; omega) (.slice A8 (m + 1) c8)
            have hl9 := (WrP.set (P := fun k => k = nb) (WrP.of_below (Below.refl _ _)) (p := ⟨nb, 1, none⟩) rfl (.slice A8 (m + 1) c8)).row (own_underS HL5.out hb8 (fun q hq => by have := ob_eqS hq; omega)) (fun q hq => by have := ob_eqS hq; omega)
            have hO9 := (HO5.out.below hb8 (by omega)).far (p := ⟨nb, 1, none⟩) (by show bb ≠ nb; omega) (.slice A8 (m + 1) c8)
            have hC9 := own_farW hst8.row (p := ⟨nb, 1, none⟩) (by show nb < wo.heap.size; omega) (.slice A8 (m + 1) c8)
            have hJ9 := own_farW (own_underS HJ5.out hb8 (fun q hq => (HJLT.out q hq).2)) (p := ⟨nb, 1, none⟩) hnc (.slice A8 (m + 1) c8)
            have hX9 := (HX5.out.below hb8 (by omega)).far (p := ⟨nb, 1, none⟩) (by show w.heap.size ≠ nb; omega) (.slice A8 (m + 1) c8)
            have hW9 := (HW5.out.andThen (hb8.mono (by have := hbw.size; omega))).andThen ((Below.refl w.heap.size w8).setCell (by show w.heap.size ≤ (⟨nb, 1, none⟩ : Addr).block; exact Nat.le_of_lt hnb0) (.slice A8 (m + 1) c8))
            have hz8 : wo.heap.size ≤ (w8.setCell ⟨nb, 1, none⟩ (.slice A8 (m + 1) c8)).heap.size := by have := hb8.size; simp; omega
            obtain ⟨w9, hw9⟩ : ∃ w9, w8.setCell ⟨nb, 1, none⟩ (.slice A8 (m + 1) c8) = w9 := ⟨_, rfl⟩
            rw [hw9] at hN9 hS9 hl9 hO9 hC9 hJ9 hX9 hW9 hz8 hSz ⊢
            clear hw9 hst8 hb8 hSz hDz HN5 HS5 HL5 HO5 HC5 HJ5 HX5 HW5 HRI HK12 HNS s0 s1 s2 s3 s4 a1 a5
            have a5 := hN9.cell (j := 5) rfl
            have s1 := hS9.cell (j := 1) rfl
            have s1l := hS9.lt
            have n9l := hN9.lt
            obtain ⟨x1, hx1⟩ : ∃ x1, la[tn]? = some x1 := ⟨_, List.getElem?_eq_getElem (by omega)⟩
            have cl9 := (hl9.cellAt tn (by omega)).trans (iv_at hx1)
            have fl9 := hl9.frozenAt tn
            have hl9l := (hl9.lt lb rfl).2
            have hl10 : (w9.setCell ⟨lb, tn, none⟩ (.int .i64 tm)).ownsRow w.heap.size 3 1 (.slice (some ⟨lb, 0, none⟩) n lc) n (iv (la.set tn tm)) := by
              have := (hl9.stored tn (.int .i64 tm)).1
              rwa [iv_set] at this
            have HF10 : Hid (Nb w (w9.setCell ⟨lb, tn, none⟩ (.int .i64 tm)) bb nb lb lc n (.slice (some aj) len jc) (.slice (some ⟨g, 0, none⟩) len len) (tm + 1) (la.set tn tm) (.slice A k c) (.slice A8 (m + 1) c8) (-1) th el) := Lib.hid ⟨hO9.far (p := ⟨lb, tn, none⟩) (by show bb ≠ lb; omega) _, hN9.far (p := ⟨lb, tn, none⟩) (by show nb ≠ lb; omega) _, hl10, hW9.andThen ((Below.refl w.heap.size w9).setCell (p := ⟨lb, tn, none⟩) hlr.1 _)⟩
            have HC10 : Hid ((w9.setCell ⟨lb, tn, none⟩ (.int .i64 tm)).ownsRow wo.heap.size 61 5 (.slice A8 (m + 1) c8) (m + 1) (rv cSt (cs ++ [s]))) := Lib.hid (by
              rw [rv_append, rv_one]
              exact own_farW hC9 (p := ⟨lb, tn, none⟩) (by show lb < wo.heap.size; omega) _)
            have HX10 := Lib.hid (hX9.far (p := ⟨lb, tn, none⟩) (by show w.heap.size ≠ lb; omega) (.int .i64 tm))
            have HJ10 := Lib.hid (own_farW hJ9 (p := ⟨lb, tn, none⟩) (by show lb < wc.heap.size; omega) (.int .i64 tm))
            clear hN9 hS9 hl9 hO9 hC9 hJ9 hX9 hW9 hx1 hl10
            go_wp2
            go_round
            case rel => exact ⟨m + 1, tm + 1, la.set tn tm, cs ++ [s], A8, c8, by omega, by go_num, by have := HTM.out; omega, HCS.out, HF10.out, HC10.out, by simp; omega, HX10.out, HJ10.out⟩
            case measure => (simp [intOf]; omega)
          · obtain ⟨he1, he2⟩ := hcp.done (by rw [HCL.out]; omega)
            have hml : m = cl := by omega
            subst hml
            have b1 := hbx.cell (j := 1) rfl
            have hbxl := hbx.lt
            have hlv := hcp.ll
            have HFIN := Lib.hid (fun (t : Int) (X : World) (hX : Nb w X bb nb lb lc n (.slice (some aj) len jc) (.slice (some ⟨g, 0, none⟩) len len) tm la (.slice A k c) (.slice A2 m c2) t th el) (hXc : X.ownsRow wo.heap.size 61 5 (.slice A2 m c2) m (rv cSt cs)) (hXj : X.ownsRow wc.heap.size 59 2 (.slice A k c) k (rv cJn (bareJ js))) =>
              nb_fin (i := i) (qs := qs) hX hXc hXj HJLT.out hbw.size hlc hsz (by rw [HD2.out, jnT_len, HV1.out]) hcp.cl hlv HG.out hne (by rw [HQL.out]; exact hi) (fun j hj => by rw [HD2.out] at hj; exact jnT_fr hj))
            have HNM : Hid (∀ t, t = (if te = -1 then -1 else la.getD te.toNat 0) → (⟨js, cs, t, th, el, la⟩ : Sg) = nmB vs ⟨code, te, th, el⟩ be T) := Lib.hid fun t ht => by
              unfold nmB
              rw [HV1.out, HTK.out, HL1.out, ← he1, ← he2, HD2.out, ht]
            have HTT : Hid (T + (k + m) = tm) := Lib.hid (by have := HTK.out; have := HTM.out; omega)
            obtain ⟨q0, hq0⟩ : ∃ q0, qs[i]? = some q0 := ⟨_, List.getElem?_eq_getElem (by rw [HQL.out]; exact hi)⟩
            have hbr := hnb.bO.lt
            have hnr := hnb.nO.lt
            have hlr := (hnb.lO.lt lb rfl).1
            have hgw : ∀ X : World, Wrote bb w X → Own X g 43 (rv cNq qs) := fun X hX => (hX.block g hg0 hne).trans HG.out
            have HGW : Hid (∀ X : World, Wrote bb w X → X.cell? ⟨g, i * 6, none⟩ = some (.slice q0.jA q0.js.length q0.jc) ∧ X.cell? ⟨g, i * 6 + 1, none⟩ = some (.slice q0.cA q0.code.length q0.cc) ∧ X.cell? ⟨g, i * 6 + 2, none⟩ = some (.int .i64 q0.test) ∧ X.cell? ⟨g, i * 6 + 3, none⟩ = some (.int .i64 q0.th) ∧ X.cell? ⟨g, i * 6 + 4, none⟩ = some (.int .i64 q0.el) ∧ X.cell? ⟨g, i * 6 + 5, none⟩ = some (.slice q0.lA q0.last.length q0.lc) ∧ (∀ j, X.frozen? ⟨g, j, none⟩ = false) ∧ g < X.heap.size) := Lib.hid fun X hX =>
              ⟨(hgw X hX).cell (rv_at (i := 0) cNq_len hq0 (by omega)), (hgw X hX).cell (rv_at (i := 1) cNq_len hq0 (by omega)), (hgw X hX).cell (rv_at (i := 2) cNq_len hq0 (by omega)), (hgw X hX).cell (rv_at (i := 3) cNq_len hq0 (by omega)), (hgw X hX).cell (rv_at (i := 4) cNq_len hq0 (by omega)), (hgw X hX).cell (rv_at (i := 5) cNq_len hq0 (by omega)), (hgw X hX).frozen, (hgw X hX).lt⟩
            clear hcp he1 he2 hgw hq0
            rcases hte with rfl | ⟨ht0, ht1⟩
            · obtain ⟨Z, hZ, q, y1, y2, y3, y4, y5, y6, y7⟩ := HFIN.out (-1) wr hnb hcr hjr
              have HZ := Lib.hid hZ
              have HY : Hid (q.sg = nmB vs ⟨code, -1, th, el⟩ be T) := Lib.hid (by rw [y1]; exact HNM.out (-1) (by rw [if_pos rfl]))
              have HQ := Lib.hid (And.intro y2 (And.intro y3 (And.intro y4 (And.intro y5 (And.intro y6 y7)))))
              obtain ⟨v0, v1', v2, v3, v4, v5, vf, vl⟩ := HGW.out wr hnb.wO
              have z0 := vf (i * 6)
              have z1 := vf (i * 6 + 1)
              have z2 := vf (i * 6 + 2)
              have z3 := vf (i * 6 + 3)
              have z4 := vf (i * 6 + 4)
              have z5 := vf (i * 6 + 5)
              have a0 := hnb.nO.cell (j := 0) rfl
              have a1 := hnb.nO.cell (j := 1) rfl
              have a2 := hnb.nO.cell (j := 2) rfl
              have a3 := hnb.nO.cell (j := 3) rfl
              have a4 := hnb.nO.cell (j := 4) rfl
              have a5 := hnb.nO.cell (j := 5) rfl
              have bb1 := hnb.bO.cell (j := 1) rfl
              clear hZ y1 y2 y3 y4 y5 y6 y7 vf hnb hcr hjr hbx
              go_wp2
              go_region
              all_goals
                go_wp2
                rw [← HZ.out]
                obtain ⟨y2, y3, y4, y5, y6, y7⟩ := HQ.out
                go_returns
                exact ⟨rfl, q, HY.out, y2, fun S F hS => (y3 S F hS).drew, y4, y5.drew, by rw [HV1.out, HTT.out]; exact y6.drew, y7.drew⟩
            · obtain ⟨tn, rfl⟩ := Int.eq_ofNat_of_zero_le ht0
              have htn : tn < n := by omega
              obtain ⟨x1, hx1⟩ : ∃ x1, la[tn]? = some x1 := ⟨_, List.getElem?_eq_getElem (by omega)⟩
              have hx1g : x1 = la.getD tn 0 := by rw [List.getD_eq_getElem?_getD, hx1]; rfl
              have cl9 := (hnb.lO.cellAt tn (by omega)).trans (iv_at hx1)
              have a5' := hnb.nO.cell (j := 5) rfl
              have a2' := hnb.nO.cell (j := 2) rfl
              have f2' := hnb.nO.frozen 2
              have hl9l := (hnb.lO.lt lb rfl).2
              have e1 : ((tn : Int) != -1) = true := by simp
              have hnb6 : Nb w (wr.setCell ⟨nb, 2, none⟩ (.int .i64 x1)) bb nb lb lc n (.slice (some aj) len jc) (.slice (some ⟨g, 0, none⟩) len len) tm la (.slice A k c) (.slice A2 m c2) x1 th el :=
                ⟨hnb.bO.far (p := ⟨nb, 2, none⟩) (by show bb ≠ nb; omega) _, hnb.nO.set 2 _, (WrP.set (P := fun k => k = nb) (WrP.of_below (Below.refl _ _)) (p := ⟨nb, 2, none⟩) rfl _).row hnb.lO (fun q hq => by have := ob_eqS hq; omega), hnb.wO.andThen ((Below.refl w.heap.size wr).setCell (by show w.heap.size ≤ (⟨nb, 2, none⟩ : Addr).block; exact Nat.le_of_lt hnb0) _)⟩
              have HNB6 := Lib.hid hnb6
              have HCR6 := Lib.hid (own_farW hcr (p := ⟨nb, 2, none⟩) (by show nb < wo.heap.size; omega) (.int .i64 x1))
              have HJR6 := Lib.hid (own_farW hjr (p := ⟨nb, 2, none⟩) hnc (.int .i64 x1))
              have HT1 : Hid (x1 = (if (tn : Int) = -1 then -1 else la.getD ((tn : Int)).toNat 0)) := Lib.hid (by rw [if_neg (by omega), Int.toNat_natCast]; exact hx1g)
              clear hx1 hx1g hnb6 hnb hcr hjr ht0 ht1
              go_wp2
              have hnb := HNB6.out
              have hcr := HCR6.out
              have hjr := HJR6.out
              obtain ⟨w6, hw6⟩ : ∃ w6, wr.setCell ⟨nb, 2, none⟩ (.int .i64 x1) = w6 := ⟨_, rfl⟩
              rw [hw6] at hnb hcr hjr ⊢
              clear hw6 HNB6 HCR6 HJR6 cl9 a5' a2' f2'
              obtain ⟨Z, hZ, q, y1, y2, y3, y4, y5, y6, y7⟩ := HFIN.out x1 w6 hnb hcr hjr
              have HZ := Lib.hid hZ
              have HY : Hid (q.sg = nmB vs ⟨code, (tn : Int), th, el⟩ be T) := Lib.hid (by rw [y1]; exact HNM.out x1 HT1.out)
              have HQ := Lib.hid (And.intro y2 (And.intro y3 (And.intro y4 (And.intro y5 (And.intro y6 y7)))))
              obtain ⟨v0, v1', v2, v3, v4, v5, vf, vl⟩ := HGW.out w6 hnb.wO
              have z0 := vf (i * 6)
              have z1 := vf (i * 6 + 1)
              have z2 := vf (i * 6 + 2)
              have z3 := vf (i * 6 + 3)
              have z4 := vf (i * 6 + 4)
              have z5 := vf (i * 6 + 5)
              have a0 := hnb.nO.cell (j := 0) rfl
              have a1 := hnb.nO.cell (j := 1) rfl
              have a2 := hnb.nO.cell (j := 2) rfl
              have a3 := hnb.nO.cell (j := 3) rfl
              have a4 := hnb.nO.cell (j := 4) rfl
              have a5 := hnb.nO.cell (j := 5) rfl
              have bb1 := hnb.bO.cell (j := 1) rfl
              clear hZ y1 y2 y3 y4 y5 y6 y7 vf hnb hcr hjr hbx
              go_wp2
              go_region
              all_goals
                go_wp2
                rw [← HZ.out]
                obtain ⟨y2, y3, y4, y5, y6, y7⟩ := HQ.out
                go_returns
                exact ⟨rfl, q, HY.out, y2, fun S F hS => (y3 S F hS).drew, y4, y5.drew, by rw [HV1.out, HTT.out]; exact y6.drew, y7.drew⟩

end Go.Proofs.Ytgcjknibelfjbaa

/-
  Names laid in the joins, one after another: how far one is (M3).
-/

namespace Go.Proofs.Ytgcjknibelfjbaa
open Go.RowKit
set_option linter.unusedSimpArgs false
set_option linter.unusedVariables false
set_option maxRecDepth 100000

/-- the names that a join gets -/
def frN (l : List Sg) (srcs : List (List Int)) (jv : List (List Nat)) (r c : Nat) : List Int := fillJ l (srcs.getD r []) ((jv.getD r []).getD c 0)

/-- all joins of the blocks below i, and those below k of block i -/
structure FlI (qs0 qs : List Nq) (l : List Sg) (srcs : List (List Int)) (jv : List (List Nat)) (i k : Nat) : Prop where
  len : qs.length = qs0.length
  row : ∀ (r : Nat) (q : Nq), qs[r]? = some q → ∃ q0, qs0[r]? = some q0 ∧ q = { q0 with js := q.js } ∧ q.js.length = q0.js.length ∧ ∀ (c : Nat) (x : Jn × Option Addr × Nat), q.js[c]? = some x → ∃ x0, q0.js[c]? = some x0 ∧ x.1.to = x0.1.to ∧ (r < i ∨ r = i ∧ c < k → x.1.fr = frN l srcs jv r c) ∧ (¬ (r < i ∨ r = i ∧ c < k) → x = x0)

theorem FlI.zero (qs0 : List Nq) (l : List Sg) (srcs : List (List Int)) (jv : List (List Nat)) : FlI qs0 qs0 l srcs jv 0 0 :=
  ⟨rfl, fun r q h => ⟨q, h, rfl, rfl, fun c x hx => ⟨x, hx, rfl, fun h => by omega, fun _ => rfl⟩⟩⟩

theorem FlI.next {qs0 qs : List Nq} {l : List Sg} {srcs : List (List Int)} {jv : List (List Nat)} {i k : Nat} (h : FlI qs0 qs l srcs jv i k) (hk : ∀ q, qs[i]? = some q → q.js.length ≤ k) : FlI qs0 qs l srcs jv (i + 1) 0 := by
  refine ⟨h.len, fun r q hq => ?_⟩
  obtain ⟨q0, h1, h2, h3, h4⟩ := h.row r q hq
  refine ⟨q0, h1, h2, h3, fun c x hx => ?_⟩
  obtain ⟨x0, g1, g2, g3, g4⟩ := h4 c x hx
  refine ⟨x0, g1, g2, fun hr => g3 ?_, fun hr => g4 (by omega)⟩
  by_cases e : r = i
  · subst e
    have := hk q hq
    have hc := (List.getElem?_eq_some_iff.1 hx).1
    omega
  · omega

theorem FlI.step {qs0 qs : List Nq} {l : List Sg} {srcs : List (List Int)} {jv : List (List Nat)} {i k c' : Nat} {q : Nq} {x : Jn × Option Addr × Nat} {A' : Option Addr} (h : FlI qs0 qs l srcs jv i k) (hq : qs[i]? = some q) (hx : q.js[k]? = some x) :
    FlI qs0 (qs.set i { q with js := q.js.set k (⟨x.1.to, frN l srcs jv i k⟩, A', c') }) l srcs jv i (k + 1) := by
  have hil := (List.getElem?_eq_some_iff.1 hq).1
  have hkl := (List.getElem?_eq_some_iff.1 hx).1
  refine ⟨by simpa using h.len, fun r u hu => ?_⟩
  by_cases e : i = r
  · subst e
    rw [List.getElem?_set_self hil] at hu
    injection hu with hu
    subst hu
    obtain ⟨q0, h1, h2, h3, h4⟩ := h.row i q hq
    refine ⟨q0, h1, by rw [h2], by simpa using h3, fun c y hy => ?_⟩
    simp only [] at hy
    by_cases e2 : k = c
    · subst e2
      rw [List.getElem?_set_self hkl] at hy
      injection hy with hy
      subst hy
      obtain ⟨x0, g1, g2, _, _⟩ := h4 k x hx
      exact ⟨x0, g1, g2, fun _ => rfl, fun hn => by omega⟩
    · rw [List.getElem?_set_ne e2] at hy
      obtain ⟨x0, g1, g2, g3, g4⟩ := h4 c y hy
      exact ⟨x0, g1, g2, fun hr => g3 (by omega), fun hr => g4 (by omega)⟩
  · rw [List.getElem?_set_ne e] at hu
    obtain ⟨q0, h1, h2, h3, h4⟩ := h.row r u hu
    refine ⟨q0, h1, h2, h3, fun c y hy => ?_⟩
    obtain ⟨x0, g1, g2, g3, g4⟩ := h4 c y hy
    exact ⟨x0, g1, g2, fun hr => g3 (by omega), fun hr => g4 (by omega)⟩

/-- all of them -/
theorem FlI.done {qs0 qs : List Nq} {srcs : List (List Int)} {jv : List (List Nat)} {i : Nat} (h : FlI qs0 qs (qs0.map Nq.sg) srcs jv i 0) (hi : qs0.length ≤ i) (hj : ∀ (r : Nat) (q : Nq), qs0[r]? = some q → q.js.length = (jv.getD r []).length) : qs.map Nq.sg = fillL (qs0.map Nq.sg) srcs jv := by
  apply List.ext_getElem?
  intro r
  rcases Nat.lt_or_ge r qs0.length with hr | hr
  · have hql : r < qs.length := by rw [h.len]; exact hr
    have hq := List.getElem?_eq_getElem hql
    obtain ⟨q, hqe⟩ : ∃ q, qs[r] = q := ⟨_, rfl⟩
    rw [hqe] at hq
    obtain ⟨q0, h1, h2, h3, h4⟩ := h.row r q hq
    unfold fillL
    rw [List.getElem?_map, hq, List.getElem?_map, List.getElem?_range (by simpa using hr)]
    simp only [Option.map_some, Option.some.injEq]
    have hg : (qs0.map Nq.sg).getD r sg0 = q0.sg := by rw [List.getD_eq_getElem?_getD, List.getElem?_map, h1]; rfl
    rw [hg]
    unfold fillS
    have hjl := hj r q0 h1
    have hjs : q.js.map (·.1) = List.zipWith (fun (j : Jn) v => (⟨j.to, fillJ (qs0.map Nq.sg) (srcs.getD r []) v⟩ : Jn)) (q0.js.map (·.1)) (jv.getD r []) := by
      apply List.ext_getElem?
      intro c
      rw [List.getElem?_map, List.getElem?_zipWith, List.getElem?_map]
      rcases Nat.lt_or_ge c q0.js.length with hc | hc
      · have hx := List.getElem?_eq_getElem (show c < q.js.length by omega)
        obtain ⟨x, hxe⟩ : ∃ x, q.js[c]'(by omega) = x := ⟨_, rfl⟩
        rw [hxe] at hx
        obtain ⟨x0, g1, g2, g3, _⟩ := h4 c x hx
        have hv := List.getElem?_eq_getElem (show c < (jv.getD r []).length by omega)
        have hgv : (jv.getD r []).getD c 0 = (jv.getD r [])[c]'(by omega) := by rw [List.getD_eq_getElem?_getD, hv]; rfl
        have hf := g3 (.inl (by omega))
        unfold frN at hf
        rw [hgv] at hf
        rw [hx, g1, hv]
        simp only [Option.map_some, Option.some.injEq]
        cases x with
        | mk j y =>
          cases j with
          | mk t f =>
            simp only [] at g2 hf
            rw [g2, hf]
      · rw [List.getElem?_eq_none (show q.js.length ≤ c by omega), List.getElem?_eq_none (show q0.js.length ≤ c by omega)]
        rfl
    rw [h2]
    show (⟨q.js.map (·.1), q0.code, q0.test, q0.th, q0.el, q0.last⟩ : Sg) = _
    rw [hjs]
    rfl
  · rw [List.getElem?_eq_none (by simp; rw [h.len]; exact hr), List.getElem?_eq_none (by unfold fillL; simp; exact hr)]

/-- names at the ends of blocks, whatever a block of joins holds -/
theorem NmG.lasts {w X : World} {g S F i f : Nat} {qs : List Nq} {q q' : Nq} {aj : Addr} (h : NmG w g S F qs) (hq : qs[i]? = some q) (ej : q.jA = some aj) (hw : Wrote aj.block w X) (hf : qs[f]? = some q') :
    X.cell? ⟨g, f * 6 + 5, none⟩ = some (.slice q'.lA q'.last.length q'.lc) ∧ RdI X X.heap.size q'.lA q'.last := by
  have hrow := h.rows i q hq
  have hrf := h.rows f q' hf
  have hj := hrow.jlo ej
  have hjh := hrow.jh aj ej
  have hlt := h.lt
  have hlo := hrow.lo
  refine ⟨(hw.cell (p := ⟨g, f * 6 + 5, none⟩) h.own.lt (by show g ≠ aj.block; omega)).trans (h.cell (i := 5) hf rfl), rd_keep hrf.la hw.size fun ad e hl => hw.block _ hl ?_⟩
  obtain ⟨a1, a2, a3⟩ := hrf.lh ad e
  by_cases e2 : f = i
  · subst e2
    rw [hq] at hf
    injection hf with hf
    subst hf
    exact a3 aj ej
  · have := h.apart f i q' q e2 hf hq
    omega

end Go.Proofs.Ytgcjknibelfjbaa

/-
  single.builder.fillJoins: the joins take the names of their sources (M3).
-/

namespace Go.Proofs.Ytgcjknibelfjbaa
open Go.RowKit
set_option linter.unusedSimpArgs false
set_option linter.unusedVariables false
set_option maxRecDepth 100000

theorem WrP.of_belowS {S : Nat} {w w' : World} (h : Below S w w') (hs : S ≤ w.heap.size) : WrP (fun k => S ≤ k) w w' := ⟨h.os, h.tape, h.output, h.size, fun k hk hn => h.block k (by omega)⟩

theorem rvJ_set : ∀ {js : List (Jn × Option Addr × Nat)} {k c1 c2 : Nat} {t : Int} {f1 f2 : List Int} {A1 A2 : Option Addr}, k < js.length → (rv cJn (js.set k (⟨t, f1⟩, A1, c1))).set (k * 2 + 1) (.slice A2 f2.length c2) = rv cJn (js.set k (⟨t, f2⟩, A2, c2))
  | [], _, _, _, _, _, _, _, _, h => by simp at h
  | x :: js, 0, c1, c2, t, f1, f2, A1, A2, h => by
    show (([_, _] : List Value) ++ rv cJn js).set 1 _ = cJn _ ++ rv cJn js
    simp [cJn]
  | x :: js, k + 1, c1, c2, t, f1, f2, A1, A2, h => by
    have ih := rvJ_set (js := js) (k := k) (c1 := c1) (c2 := c2) (t := t) (f1 := f1) (f2 := f2) (A1 := A1) (A2 := A2) (by simpa using h)
    show (cJn x ++ rv cJn (js.set k _)).set ((k + 1) * 2 + 1) _ = cJn x ++ rv cJn (js.set k _)
    rw [List.set_append, if_neg (by rw [cJn_len]; omega), cJn_len, show (k + 1) * 2 + 1 - 2 = k * 2 + 1 by omega, ih]

theorem own_capS {w : World} {base : Nat} {e : TypeId} {size : Nat} {A : Option Addr} {n c : Nat} {xs : List Value} (h : w.ownsRow base e size (.slice A n c) n xs) : n ≤ c := by
  rcases h.2 with ⟨hv, h0⟩ | ⟨g, cap, cur, hv, _, _, h4, _⟩
  · omega
  · injection hv with _ _ hc
    omega

/-- an int's cell -/
def NewsI (g : Nat) (y : Int) (w : World) : Prop := ∀ ad : Addr, some (⟨g, 0, none⟩ : Addr) = some ad → ∀ j u, ([.int .i64 y] : List Value)[j]? = some u → w.cell? (ad.add j) = some u

/-- behind the append -/
structure FlC (w0 wr : World) (m : Nat) (xs : List Int) (y : Int) (A8 : Option Addr) (c8 : Nat) (w : World) : Prop where
  row : w.ownsRow w0.heap.size 3 1 (.slice A8 (m + 1) c8) (m + 1) (iv xs ++ [.int .i64 y])
  bel : Below w0.heap.size wr w

set_option maxHeartbeats 16000000 in
theorem fillJoins_any (n T g bb len jc S F G : Nat) (JA : Option Addr) (jv : List (List Nat)) (qs0 : List Nq) (srcs : List (List Int)) (cs : List Value) (w : World)
    (hbb : Own w bb 87 [.slice JA len jc, .slice (some ⟨g, 0, none⟩) len len, .int .i64 T]) (hbS : bb < S)
    (hnm : NmG w g S F qs0) (hF : ∀ (r : Nat) (q : Nq), qs0[r]? = some q → q.hi ≤ F) (hFw : F ≤ w.heap.size) (hSF : S ≤ F) (hql : qs0.length = len) (h1 : 1 ≤ len) (h8 : len ≤ 8)
    (hjv : ∀ i, i < len → RowHeld (fun k => S ≤ k) w JA i (jv.getD i [])) (hvl : ∀ i, (jv.getD i []).length ≤ 6)
    (hjs : ∀ (r : Nat) (q : Nq), qs0[r]? = some q → q.js.length = (jv.getD r []).length ∧ (∀ x ∈ q.js, x.2 = (none, 0) ∧ x.1.fr = []) ∧ q.last.length = n)
    (hvn : ∀ i, ∀ v ∈ jv.getD i [], v < n) (hn6 : n ≤ 6)
    (hso : RowsO w G srcs cs) (hGF : F ≤ G) (hsl : srcs.length = len) (hsv : ∀ (r : Nat) (row : List Int), srcs[r]? = some row → row.length ≤ 9 ∧ ∀ f ∈ row, f = -1 ∨ (0 ≤ f ∧ f < len)) :
    Calls Try.prog 48 #[.pointer (some ⟨bb, 0, none⟩), .slice (some ⟨G, 0, none⟩) len len] w fun e w' =>
      e = .returned (.tuple #[]) ∧ ∃ qs, NmG w' g S F qs ∧ qs.map Nq.sg = fillL (qs0.map Nq.sg) srcs jv ∧ Own w' bb 87 [.slice JA len jc, .slice (some ⟨g, 0, none⟩) len len, .int .i64 T] ∧ Below S w w' := by
  obtain ⟨aj, _, _, rfl, _⟩ := hjv 0 h1
  have HJV : Hid (∀ i, i < len → ∃ Ar cr, ∀ Z, WrP (fun k => S ≤ k) w Z → Z.cell? (aj.add i) = some (.slice Ar (jv.getD i []).length cr) ∧ (aj.add i).block < Z.heap.size ∧ RdI Z Z.heap.size Ar (ni (jv.getD i []))) := Lib.hid fun i hi => by
    obtain ⟨aj', Ar, cr, e, h⟩ := hjv i hi
    injection e with e
    subst e
    exact ⟨Ar, cr, h⟩
  have HBB := Lib.hid hbb
  have HNM := Lib.hid hnm
  have HFF := Lib.hid hF
  have HQL := Lib.hid hql
  have HVL := Lib.hid hvl
  have HJS := Lib.hid hjs
  have HVN := Lib.hid hvn
  have HSO := Lib.hid hso
  have HSL := Lib.hid hsl
  have HSV := Lib.hid hsv
  have HFL0 := Lib.hid (FlI.zero qs0 (qs0.map Nq.sg) srcs jv)
  obtain ⟨l0, hl0⟩ : ∃ l0, qs0.map Nq.sg = l0 := ⟨_, rfl⟩
  have HL0 := Lib.hid hl0
  rw [hl0] at HFL0 ⊢
  have hgS := hnm.lt
  have q0 := hbb.cell (j := 0) rfl
  have hbl := hbb.lt
  have hSw : S ≤ w.heap.size := by omega
  clear hbb hnm hF hql hvl hjs hvn hso hsl hsv hl0 hjv
  go_enter Try.func48, Try.ntmps48
  go_wp2
  go_loopw [16] (fun z wr => ∃ (i : Nat) (qs : List Nq), i ≤ len ∧ z = .int .i64 i ∧ NmG wr g S F qs ∧ FlI qs0 qs l0 srcs jv i 0 ∧ (∀ (r : Nat) (q : Nq), qs[r]? = some q → q.hi ≤ F) ∧ Below S w wr ∧ RowsO wr G srcs cs) (fun z _ => len - (intOf z).toNat)
  case atStart => exact ⟨0, qs0, Nat.zero_le _, rfl, HNM.out, HFL0.out, HFF.out, Below.refl _ _, HSO.out⟩
  case round =>
    obtain ⟨i, qs, hi, rfl, hnm, hfl, hF, hb, hso⟩ := hrel
    have HNMR := Lib.hid hnm
    have HFLR := Lib.hid hfl
    have HFR := Lib.hid hF
    have HSOR := Lib.hid hso
    have hsz := hb.size
    have hbr := (HBB.out.below hb hbS).lt
    have qb := (HBB.out.below hb hbS).cell (j := 1) rfl
    clear hnm hfl hF hso
    by_cases hit : i < len
    · obtain ⟨Ar, cr, hrow⟩ := HJV.out i hit
      have hr0 := hrow wr (WrP.of_belowS hb hSw)
      have hai := hr0.1
      have hail := hr0.2.1
      have HROW := Lib.hid hrow
      obtain ⟨v1, hv1⟩ : ∃ v1, (jv.getD i []).length = v1 := ⟨_, rfl⟩
      have HV1 := Lib.hid hv1
      have hv6 := HVL.out i
      rw [hv1] at hai hv6
      obtain ⟨wo, rfl⟩ : ∃ wo : World, wo = wr := ⟨_, rfl⟩
      clear hrow hr0 hv1
      go_wp2
      go_loopw [23] (fun z wr => ∃ (k : Nat) (qs : List Nq), k ≤ v1 ∧ z = .int .i64 k ∧ NmG wr g S F qs ∧ FlI qs0 qs l0 srcs jv i k ∧ (∀ (r : Nat) (q : Nq), qs[r]? = some q → q.hi ≤ F) ∧ Below S w wr ∧ RowsO wr G srcs cs) (fun z _ => v1 - (intOf z).toNat)
      case atStart => exact ⟨0, qs, Nat.zero_le _, rfl, HNMR.out, HFLR.out, HFR.out, hb, HSOR.out⟩
      case round =>
        obtain ⟨k, qs, hk, rfl, hnm, hfl, hF, hb, hso⟩ := hrel
        obtain ⟨w0, rfl⟩ : ∃ w0 : World, w0 = wr := ⟨_, rfl⟩
        have hsz := hb.size
        have hqsl : qs.length = len := by rw [hfl.len, HQL.out]
        obtain ⟨q, hq⟩ : ∃ q, qs[i]? = some q := ⟨_, List.getElem?_eq_getElem (by omega)⟩
        obtain ⟨q00, hq00, hqe, hjl, hjx⟩ := hfl.row i q hq
        have hjsl : q.js.length = v1 := by rw [hjl, (HJS.out i q00 hq00).1, HV1.out]
        have HNM0 := Lib.hid hnm
        have HFL1 := Lib.hid hfl
        have HF1 := Lib.hid hF
        have HSO1 := Lib.hid hso
        have hbr := (HBB.out.below hb hbS).lt
        have qb := (HBB.out.below hb hbS).cell (j := 1) rfl
        by_cases hkt : k < v1
        · obtain ⟨ad, xv, rfl, hbx2, hxv, hcx⟩ := (HROW.out w0 (WrP.of_belowS hb hSw)).2.2.at_ (k := k) (by simp only [ni, List.length_map]; rw [HV1.out]; exact hkt)
          obtain ⟨v, rfl, hv⟩ := ni_get hxv
          have hvn := HVN.out i v (List.mem_of_getElem? hv)
          have hvg : (jv.getD i []).getD k 0 = v := by rw [List.getD_eq_getElem?_getD, hv]; rfl
          obtain ⟨x, hx⟩ : ∃ x, q.js[k]? = some x := ⟨_, List.getElem?_eq_getElem (by omega)⟩
          obtain ⟨x00, hx00, hto, _, hxe⟩ := hjx k x hx
          have hxx := hxe (by omega)
          subst hxx
          obtain ⟨hx2, hxf⟩ := (HJS.out i q00 hq00).2.1 x (List.mem_of_getElem? hx00)
          have hrq := hnm.rows i q hq
          obtain ⟨jb, hjA, hjlo, hjbl⟩ := own_form hrq.jn (by omega)
          have hjhi := hrq.jh _ hjA
          have hSlo := hrq.lo
          have hqhi := hF i q hq
          simp only [] at hjhi
          have cg := hnm.cell (i := 0) hq rfl
          rw [Nat.add_zero, hjA, hjsl] at cg
          have hgl := hnm.own.lt
          have hjn := hrq.jn
          rw [hjA, hjsl] at hjn
          obtain ⟨row, hrow⟩ : ∃ row, srcs[i]? = some row := ⟨_, List.getElem?_eq_getElem (by rw [HSL.out]; exact hit)⟩
          obtain ⟨hr9, hrf⟩ := HSV.out i row hrow
          obtain ⟨As, csr, hcs, hsown⟩ := hso.rows i row hrow
          have cG := hso.own.cell hcs
          have hGl := hso.own.lt
          obtain ⟨ns, hns⟩ : ∃ ns, row.length = ns := ⟨_, rfl⟩
          rw [hns] at cG hsown hr9
          obtain ⟨fr, hfr⟩ : ∃ fr, frN l0 srcs jv i k = fr := ⟨_, rfl⟩
          have hfrv : ∀ (m : Nat) (f : Int), row[m]? = some f → fr[m]? = some (if f = -1 then (v : Int) else (l0.getD f.toNat sg0).last.getD v 0) := fun m f hm => by
            rw [← hfr]
            unfold frN fillJ
            rw [hvg, show srcs.getD i [] = row by rw [List.getD_eq_getElem?_getD, hrow]; rfl, List.getElem?_map, hm]
            rfl
          have hfrl : fr.length = ns := by
            rw [← hfr]
            unfold frN fillJ
            rw [List.length_map, show srcs.getD i [] = row by rw [List.getD_eq_getElem?_getD, hrow]; rfl, hns]
          have hset0 : q.js.set k (⟨x.1.to, []⟩, none, 0) = q.js := by
            have e : x = (⟨x.1.to, []⟩, none, 0) := by
              obtain ⟨⟨t, f⟩, y⟩ := x
              simp only [] at hx2 hxf
              rw [hx2, hxf]
            apply List.ext_getElem?
            intro j
            by_cases e2 : k = j
            · subst e2
              rw [List.getElem?_set_self (by omega), hx, ← e]
            · rw [List.getElem?_set_ne e2]
          have hjn0 : w0.ownsRow q.lo 59 2 (.slice (some ⟨jb, 0, none⟩) v1 q.jc) v1 (rv cJn (q.js.set k (⟨x.1.to, []⟩, none, 0))) := by rw [hset0]; exact hjn
          have HJN0 := Lib.hid hjn0
          have HQ := Lib.hid hq
          have HX := Lib.hid hx
          have HFRV := Lib.hid hfrv
          have HFRL := Lib.hid hfrl
          have HFR2 := Lib.hid hfr
          have HRF := Lib.hid hrf
          have HSOWN := Lib.hid hsown
          have HJSL := Lib.hid hjsl
          have HJA := Lib.hid hjA
          have HNS := Lib.hid hns
          have hjbG : jb < G := by omega
          have hjbg : g ≠ jb := by omega
          have hjbb : bb ≠ jb := by omega
          clear hnm hfl hF hso hjx hjl hqe hxv hv hvg hx hx00 hto hxe hx2 hxf hrq hjn hrow hrf hcs hsown hns hfr hfrv hfrl hset0 hjn0 hq hq00 hjsl hjA
          go_wp2
          go_loopw [43] (fun z X => ∃ (m : Nat) (A : Option Addr) (c : Nat), m ≤ ns ∧ z = .int .i64 m ∧ X.ownsRow w0.heap.size 3 1 (.slice A m c) m (iv (fr.take m)) ∧ Wrote jb w0 X ∧ X.ownsRow q.lo 59 2 (.slice (some ⟨jb, 0, none⟩) v1 q.jc) v1 (rv cJn (q.js.set k (⟨x.1.to, fr.take m⟩, A, c)))) (fun z _ => ns - (intOf z).toNat)
          case atStart => exact ⟨0, none, 0, Nat.zero_le _, rfl, World.ownsRow_nil _ _ _ _, Wrote.of_below (Below.refl _ _), HJN0.out⟩
          case round =>
            obtain ⟨m, A, c, hm, rfl, hown, hwr, hjn⟩ := hrel
            have HOW := Lib.hid hown
            have HWR := Lib.hid hwr
            have HJN := Lib.hid hjn
            by_cases hmt : m < ns
            · obtain ⟨ad2, f, rfl, hbf, hf, hcf⟩ := (own_rdI (own_wroteN HSOWN.out hwr (fun e => by have := (HSOWN.out.lt jb e).1; omega)) HNS.out).at_ (k := m) (by rw [HNS.out]; exact hmt)
              have hfv := HFRV.out m f hf
              have hfc := HRF.out f (List.mem_of_getElem? hf)
              have hwsz := hwr.size
              have htl : (fr.take m).length = m := by rw [List.length_take, HFRL.out]; omega
              have cj := (hjn.cellAt (k * 2 + 1) (by omega)).trans (rv_at (i := 1) cJn_len (List.getElem?_set_self (by rw [HJSL.out]; exact hkt)) (by omega))
              have cj' : wr.cell? ⟨jb, k * 2 + 1, none⟩ = some (.slice A m c) := by
                rw [cj]
                simp only [cJn, List.getElem?_cons_succ, List.getElem?_cons_zero, htl]
              have h63 : m + 1 ≤ maxLen := by unfold maxLen; omega
              have hbig : (m + 1) * 8 ≤ 140737488355328 := by omega
              have HTS : Hid (∀ y, fr[m]? = some y → fr.take (m + 1) = fr.take m ++ [y]) := Lib.hid fun y hy => by rw [List.take_add_one, hy]; rfl
              have HTL : Hid ((fr.take (m + 1)).length = m + 1) := Lib.hid (by rw [List.length_take, HFRL.out]; omega)
              have hjr := (hjn.lt jb rfl).2
              clear hf hown hwr hjn cj htl
              rcases hfc with rfl | ⟨hf0, hf1⟩
              · rw [if_pos rfl] at hfv
                have HTA := Lib.hid (HTS.out _ hfv)
                clear hfv
                go_wp2_with (at_builtin; refine wpList_app' rfl (.tmp 53) (.tmp 55) 26 rfl w0.heap.size 3 1 8 int_app _ rfl (HOW.out.alloc _) [.int .i64 (v : Int)] rfl rfl (fun h => by cases h) (cells_at (by simp) _ _) (one_cell _) h63 hbig (by simp; omega) ?_; intro A5 c5 w5 hown5 hg5 hb5 hk5; have hbA : Below w0.heap.size wr w5 := (Below.mono (by go_grown : Below wr.heap.size wr _) hwsz).trans hb5; have hj5 := own_underS HJN.out hbA (fun q hq => by have := ob_eqS hq; omega); have fz5 := hj5.frozenAt (k * 2 + 1); have cz5 := (hj5.cellAt (k * 2 + 1) (by omega)).trans (rv_at (i := 1) cJn_len (List.getElem?_set_self (by rw [HJSL.out]; exact hkt)) (by omega)); have hz5 := (hj5.lt jb rfl).2)
                go_round
                case rel => exact ⟨m + 1, A5, c5, by omega, by go_num, by
                    rw [HTA.out, show iv (fr.take m ++ [(v : Int)]) = iv (fr.take m) ++ [.int .i64 (v : Int)] by simp [iv]]
                    exact own_farW hown5 (p := ⟨jb, k * 2 + 1, none⟩) hjbl _, (HWR.out.andThen hbA).set (p := ⟨jb, k * 2 + 1, none⟩) rfl _, by
                    have h := (hj5.stored (k * 2 + 1) (.slice A5 (fr.take (m + 1)).length c5)).1
                    rw [rvJ_set (by rw [HJSL.out]; exact hkt)] at h
                    rwa [HTL.out] at h⟩
                case measure => (simp [intOf]; omega)
              · obtain ⟨fn, rfl⟩ := Int.eq_ofNat_of_zero_le hf0
                rw [if_neg (by omega), Int.toNat_natCast] at hfv
                have hfl : fn < len := by omega
                obtain ⟨q', hq'⟩ : ∃ q', qs[fn]? = some q' := ⟨_, List.getElem?_eq_getElem (by omega)⟩
                obtain ⟨cL, rL⟩ := HNM0.out.lasts HQ.out HJA.out HWR.out hq'
                obtain ⟨q0', hq0', hqe', _, _⟩ := HFL1.out.row fn q' hq'
                have hlast : q'.last = q0'.last := by rw [hqe']
                have hln : q'.last.length = n := by rw [hlast]; exact (HJS.out fn q0' hq0').2.2
                have hl0f : (l0.getD fn sg0).last = q'.last := by
                  rw [hlast, ← HL0.out, List.getD_eq_getElem?_getD, List.getElem?_map, hq0']
                  rfl
                obtain ⟨ad', y, hlA, _, hy, hcy⟩ := rL.at_ (k := v) (by omega)
                obtain ⟨ad3, _, hlA3, hb3, _, _⟩ := (HNM0.out.rows fn q' hq').la.at_ (k := v) (by omega)
                rw [hlA] at hlA3 cL
                injection hlA3 with hlA3
                subst hlA3
                rw [hln] at cL
                rw [hl0f, List.getD_eq_getElem?_getD, hy, Option.getD_some] at hfv
                have HTA := Lib.hid (HTS.out _ hfv)
                have qb' := (HWR.out.cell (p := ⟨bb, 1, none⟩) hbr hjbb).trans qb
                have HLD : Hid (∀ Z : World, Below w0.heap.size wr Z → Z.cell? ⟨bb, 1, none⟩ = some (.slice (some ⟨g, 0, none⟩) len len) ∧ Z.cell? ⟨g, fn * 6 + 5, none⟩ = some (.slice (some ad') n q'.lc) ∧ Z.cell? (ad'.add v) = some (.int .i64 y)) := Lib.hid fun Z hZ =>
                  ⟨(hZ.cell (p := ⟨bb, 1, none⟩) hbr).trans qb', (hZ.cell (p := ⟨g, fn * 6 + 5, none⟩) hgl).trans cL, (hZ.cell hb3).trans hcy⟩
                have HCJ : Hid (∀ Z : World, Below wr.heap.size wr Z → Z.cell? ⟨jb, k * 2 + 1, none⟩ = some (.slice A m c)) := Lib.hid fun Z hZ => (hZ.cell (p := ⟨jb, k * 2 + 1, none⟩) hjr).trans cj'
                have HST8 : Hid (∀ Z : World, Below w0.heap.size wr Z → (∃ uu, Z.cell? ⟨jb, k * 2 + 1, none⟩ = some uu) ∧ Z.frozen? ⟨jb, k * 2 + 1, none⟩ = false) := Lib.hid fun Z hZ => by
                  have hj8 := own_underS HJN.out hZ (fun q hq => by have := ob_eqS hq; omega)
                  exact ⟨⟨_, (hj8.cellAt (k * 2 + 1) (by omega)).trans (rv_at (i := 1) cJn_len (List.getElem?_set_self (by rw [HJSL.out]; exact hkt)) (by omega))⟩, hj8.frozenAt (k * 2 + 1)⟩
                clear hfv hq' cL rL hq0' hqe' hlast hln hl0f hlA hy hcy hb3 qb' cj' hf0 hf1
                go_wp2
                refine wp_region_steps (X := Nat × (Nat × Option Addr × Nat)) (fun x w => (x.1 ≤ 2 → Below w0.heap.size wr w) ∧ (x.1 ≤ 1 → Below wr.heap.size wr w) ∧ (x.1 = 1 → NewsI x.2.1 y w) ∧ (x.1 = 2 → FlC w0 wr m (fr.take m) y x.2.2.1 x.2.2.2 w) ∧ (3 ≤ x.1 → ∃ w8, FlC w0 wr m (fr.take m) y x.2.2.1 x.2.2.2 w8 ∧ w = w8.setCell ⟨jb, k * 2 + 1, none⟩ (.slice x.2.2.1 (m + 1) x.2.2.2))) (fun x j => doneL [0, 0, 0, 0, 0, 0, 0, 0, 0, 0, 0, 0, 0, 0, 0, 0, 1, 2, 0, 0, 3] x.1 j) (effL [0, 0, 0, 0, 0, 0, 0, 0, 0, 0, 0, 0, 0, 0, 0, 0, 1, 2, 0, 0, 3]) (0, (0, none, 0)) (fun x => [.pointer (some ⟨jb, k * 2, none⟩), .pointer (some ⟨jb, k * 2, none⟩), .pointer (some ⟨jb, k * 2, none⟩), .pointer (some ⟨jb, k * 2 + 1, none⟩), .slice A m c, .pointer (some ⟨bb, 0, none⟩), .pointer (some ⟨bb, 0, none⟩), .pointer (some ⟨bb, 1, none⟩), .slice (some ⟨g, 0, none⟩) len len, .int .i64 fn, .pointer (some ⟨g, fn * 6, none⟩), .pointer (some ⟨g, fn * 6 + 5, none⟩), .slice (some ad') n q'.lc, .int .i64 v, .pointer (some (ad'.add v)), .int .i64 y, .slice (some ⟨x.2.1, 0, none⟩) 1 1, .slice x.2.2.1 (m + 1) x.2.2.2, .pointer (some ⟨jb, k * 2, none⟩), .pointer (some ⟨jb, k * 2 + 1, none⟩), undef]) _ (by kernel_rfl) (by kernel_rfl) (by kernel_rfl) (fun x => by simp only [putsD, Act.put, List.setIfInBounds_toArray, List.set_cons_zero, List.set_cons_succ]; exact rfl) h0L ⟨fun _ => Below.drew (Below.refl _ _), fun _ => Below.drew (Below.refl _ _), fun h => absurd h (by decide), fun h => absurd h (by decide), fun h => absurd h (by decide)⟩ (fun x => ?_) (fun x wz hDz hSz => ?_)
                · refine AllS.val (by rfl) (by rfl) (fun w hSw hPw => by go_simp) ?_
                  refine AllS.val (by rfl) (by rfl) (fun w hSw hPw => by go_simp) ?_
                  refine AllS.val (by rfl) (by rfl) (fun w hSw hPw => by go_simp) ?_
                  refine AllS.val (by rfl) (by rfl) (fun w hSw hPw => by go_simp) ?_
                  refine AllS.val (by rfl) (by rfl) (fun w hSw hPw => ?_) ?_
                  · (try dsimp only at hSw)
                    have hb := hSw.2.1 (leL (hPw.not (j := 17) rfl (by kernel_rfl)))
                    have hc := HCJ.out w hb
                    go_simp
                  refine AllS.val (by rfl) (by rfl) (fun w hSw hPw => by go_simp) ?_
                  refine AllS.val (by rfl) (by rfl) (fun w hSw hPw => by go_simp) ?_
                  refine AllS.val (by rfl) (by rfl) (fun w hSw hPw => by go_simp) ?_
                  refine AllS.val (by rfl) (by rfl) (fun w hSw hPw => ?_) ?_
                  · (try dsimp only at hSw)
                    have hb := hSw.1 (leL (hPw.not (j := 20) rfl (by kernel_rfl)))
                    have hc := (HLD.out w hb).1
                    go_simp
                  refine AllS.val (by rfl) (by rfl) (fun w hSw hPw => by go_simp) ?_
                  refine AllS.val (by rfl) (by rfl) (fun w hSw hPw => by go_simp) ?_
                  refine AllS.val (by rfl) (by rfl) (fun w hSw hPw => by go_simp) ?_
                  refine AllS.val (by rfl) (by rfl) (fun w hSw hPw => ?_) ?_
                  · (try dsimp only at hSw)
                    have hb := hSw.1 (leL (hPw.not (j := 20) rfl (by kernel_rfl)))
                    have hc := (HLD.out w hb).2.1
                    go_simp
                  refine AllS.val (by rfl) (by rfl) (fun w hSw hPw => by go_simp) ?_
                  refine AllS.val (by rfl) (by rfl) (fun w hSw hPw => by go_simp) ?_
                  refine AllS.val (by rfl) (by rfl) (fun w hSw hPw => ?_) ?_
                  · (try dsimp only at hSw)
                    have hb := hSw.1 (leL (hPw.not (j := 20) rfl (by kernel_rfl)))
                    have hc := (HLD.out w hb).2.2
                    go_simp
                  refine AllS.turn (fun _ _ => rfl) (by rfl) (fun w hSw hPw K hK => ?_) ?_
                  · (try dsimp only at hSw)
                    have h0 := leL (hPw.me rfl)
                    have hb1 := hSw.1 (Nat.le_trans h0 (by decide))
                    have hb := hSw.2.1 (Nat.le_trans h0 (by decide))
                    go_simp
                    have hx0 : x.1 = 0 := Nat.le_zero.1 h0
                    obtain ⟨p, y0⟩ := x
                    (try dsimp only at hx0)
                    subst hx0
                    exact hK (1, w.heap.size, y0.2) _ (nxtL rfl (by decide)) ⟨fun _ => (below_via hb (by go_grown)).mono hwsz, fun _ => below_via hb (by go_grown), fun _ => cells_at rfl [.int .i64 y] _, fun h => absurd h (by simp), fun h => absurd h (by simp)⟩
                  refine AllS.turn (fun _ _ => rfl) (by rfl) (fun w hSw hPw K hK => ?_) ?_
                  · (try dsimp only at hSw)
                    have h0 := leL (hPw.me rfl)
                    have h1 := geL (hPw.need (k := 16) rfl (by kernel_rfl))
                    have hb := hSw.2.1 h0
                    have hx0 : x.1 = 1 := Nat.le_antisymm h0 h1
                    have hnw := hSw.2.2.1 hx0
                    obtain ⟨p, y1, y2, y3⟩ := x
                    (try dsimp only at hx0)
                    subst hx0
                    refine oper_app (.tmp 63) (.tmp 75) 26 rfl w0.heap.size 3 1 8 int_app _ rfl (own_below HOW.out hb) [.int .i64 y] rfl rfl (fun h => by cases h) hnw (one_cell _) h63 hbig (Nat.le_trans hwsz hb.size) ?_
                    intro A8 c8 w8 hown8 hg8 hb8
                    exact hK (2, y1, A8, c8) _ (nxtL rfl (by decide)) ⟨fun _ => (hb.mono hwsz).trans hb8, fun h => absurd h (by simp), fun h => absurd h (by simp), fun _ => ⟨hown8, (hb.mono hwsz).trans hb8⟩, fun h => absurd h (by simp)⟩
                  refine AllS.val (by rfl) (by rfl) (fun w hSw hPw => by go_simp) ?_
                  refine AllS.val (by rfl) (by rfl) (fun w hSw hPw => by go_simp) ?_
                  refine AllS.turn (fun _ _ => rfl) (by rfl) (fun w hSw hPw K hK => ?_) ?_
                  · (try dsimp only at hSw)
                    have h0 := leL (hPw.me rfl)
                    have h1 := geL (hPw.need (k := 17) rfl (by kernel_rfl))
                    have hx0 : x.1 = 2 := Nat.le_antisymm h0 h1
                    have hst8 := hSw.2.2.2.1 hx0
                    obtain ⟨⟨uu, k0⟩, k1⟩ := HST8.out w hst8.bel
                    obtain ⟨p, y1, y2, y3⟩ := x
                    (try dsimp only at hx0)
                    subst hx0
                    go_simp
                    exact hK (3, y1, y2, y3) _ (nxtL rfl (by decide)) ⟨fun h => absurd h (by simp), fun h => absurd h (by simp), fun h => absurd h (by simp), fun h => absurd h (by simp), fun _ => ⟨w, hst8, rfl⟩⟩
                  exact AllS.nil
                obtain ⟨w8, hst8, rfl⟩ := hSz.2.2.2.2 (geL (hDz 20 (by decide) (by decide)))
                obtain ⟨p, y1, A8, c8⟩ := x
                (try dsimp only at hst8)
                have hj8 := own_underS HJN.out hst8.bel (fun q hq => by have := ob_eqS hq; omega)
                have HOW8 : Hid ((w8.setCell ⟨jb, k * 2 + 1, none⟩ (.slice A8 (m + 1) c8)).ownsRow w0.heap.size 3 1 (.slice A8 (m + 1) c8) (m + 1) (iv (fr.take (m + 1)))) := Lib.hid (by
                  rw [HTA.out, show iv (fr.take m ++ [y]) = iv (fr.take m) ++ [.int .i64 y] by simp [iv]]
                  exact own_farW hst8.row (p := ⟨jb, k * 2 + 1, none⟩) hjbl _)
                have HWR8 := Lib.hid ((HWR.out.andThen hst8.bel).set (p := ⟨jb, k * 2 + 1, none⟩) rfl (.slice A8 (m + 1) c8))
                have HJN8 : Hid ((w8.setCell ⟨jb, k * 2 + 1, none⟩ (.slice A8 (m + 1) c8)).ownsRow q.lo 59 2 (.slice (some ⟨jb, 0, none⟩) v1 q.jc) v1 (rv cJn (q.js.set k (⟨x.1.to, fr.take (m + 1)⟩, A8, c8)))) := Lib.hid (by
                  have h := (hj8.stored (k * 2 + 1) (.slice A8 (fr.take (m + 1)).length c8)).1
                  rw [rvJ_set (by rw [HJSL.out]; exact hkt)] at h
                  rwa [HTL.out] at h)
                clear hst8 hj8 hSz hDz
                go_wp2
                go_round
                case rel => exact ⟨m + 1, A8, c8, by omega, by go_num, HOW8.out, HWR8.out, HJN8.out⟩
                case measure => (simp [intOf]; omega)
            · have hmn : m = ns := by omega
              subst hmn
              have htk : fr.take m = fr := List.take_of_length_le (by rw [HFRL.out]; exact Nat.le_refl _)
              rw [htk] at hown hjn
              have hlo := fun ad (e : A = some ad) => (hown.lt ad.block (by rw [e]; rfl)).1
              have hfill := HNM0.out.fill (k := k) (A' := A) (c' := c) (fr' := fr) HF1.out HQ.out HX.out hwr.size (fun b hb hne => hwr.block b hb (hne _ HJA.out)) (by rw [HJA.out, HJSL.out]; exact hjn) (own_rdI hown HFRL.out) (by rw [HFRL.out]; exact own_capS hown) hlo (by omega) hSF
              have hstep := HFL1.out.step (k := k) (c' := c) (A' := A) HQ.out HX.out
              rw [HFR2.out] at hstep
              have HFILL := Lib.hid hfill
              have HSTEP := Lib.hid hstep
              have HF2 : Hid (∀ (r : Nat) (u : Nq), (qs.set i { q with js := q.js.set k (⟨x.1.to, fr⟩, A, c) })[r]? = some u → u.hi ≤ F) := Lib.hid fun r u hu => by
                by_cases e : i = r
                · subst e
                  rw [List.getElem?_set_self (by omega)] at hu
                  injection hu with hu
                  subst hu
                  exact hqhi
                · rw [List.getElem?_set_ne e] at hu
                  exact HF1.out r u hu
              have HBS := Lib.hid (hb.trans (hwr.below (B := S) (by omega) (by omega)))
              have HSO2 := Lib.hid (HSO1.out.wrote hwr hjbG)
              clear hown hjn hlo hfill hstep hwr htk
              go_wp2
              go_round
              case rel => exact ⟨k + 1, _, by omega, by go_num, HFILL.out, HSTEP.out, HF2.out, HBS.out, HSO2.out⟩
              case measure => (simp [intOf]; omega)
        · have HN := Lib.hid (hfl.next (fun q' hq' => by
            rw [hq] at hq'
            injection hq' with hq'
            subst hq'
            omega))
          clear hnm hfl hF hso hjx hjl hqe hq hq00
          go_wp2
          go_round
          case rel => exact ⟨i + 1, qs, by omega, by go_num, HNM0.out, HN.out, HF1.out, hb, HSO1.out⟩
          case measure => (simp [intOf]; omega)
    · have HD : Hid (qs.map Nq.sg = fillL l0 srcs jv) := Lib.hid (by
        rw [← HL0.out]
        refine FlI.done (i := i) (by rw [HL0.out]; exact HFLR.out) (by rw [HQL.out]; omega) fun r q hq => (HJS.out r q hq).1)
      go_wp2
      go_returns
      exact ⟨rfl, qs, HNMR.out, HD.out, HBB.out.below hb hbS, hb⟩

end Go.Proofs.Ytgcjknibelfjbaa

/-
  single.Build: what stands while a program over names is made (M3).
-/

namespace Go.Proofs.Ytgcjknibelfjbaa
open Go.RowKit
set_option linter.unusedSimpArgs false
set_option linter.unusedVariables false
set_option maxRecDepth 100000

/-! ### Rows held -/

theorem WrP.trans {P : Nat → Prop} {w w' w'' : World} (h : WrP P w w') (h2 : WrP P w' w'') : WrP P w w'' := ⟨h2.os.trans h.os, h2.tape.trans h.tape, h2.output.trans h.output, Nat.le_trans h.size h2.size, fun k hk hp => (h2.block k (Nat.lt_of_lt_of_le hk h.size) hp).trans (h.block k hk hp)⟩

theorem WrP.imp {P P' : Nat → Prop} {w w' : World} (h : WrP P w w') (hp : ∀ k, P k → P' k) : WrP P' w w' := ⟨h.os, h.tape, h.output, h.size, fun k hk hn => h.block k hk fun h2 => hn (hp k h2)⟩

theorem RowHeld.sub {P P' : Nat → Prop} {w w' : World} {A : Option Addr} {i : Nat} {vs : List Nat} (h : RowHeld P w A i vs) (hw : WrP P w w') (hp : ∀ k, P' k → P k) : RowHeld P' w' A i vs := by
  obtain ⟨ad, Ar, cr, e, h1⟩ := h
  exact ⟨ad, Ar, cr, e, fun Z hZ => h1 Z (hw.trans (hZ.imp hp))⟩

/-- rows of a call's own stand where other blocks are written -/
theorem rowHeld_of {P : Nat → Prop} {w5 wx : World} {G : Nat} {jv : List (List Nat)} {cs : List Value} (h : RowsO w5 G (jv.map ni) cs) (hs : w5.heap.size ≤ wx.heap.size) (hk : ∀ k, G ≤ k → k < w5.heap.size → wx.heap[k]? = w5.heap[k]?) (hP : ∀ k, G ≤ k → k < w5.heap.size → ¬ P k) {i : Nat} (hi : i < jv.length) : RowHeld P wx (some ⟨G, 0, none⟩) i (jv.getD i []) := by
  have hr : (jv.map ni)[i]? = some (ni (jv.getD i [])) := by
    rw [List.getElem?_map, List.getElem?_eq_getElem hi, List.getD_eq_getElem?_getD, List.getElem?_eq_getElem hi]
    rfl
  obtain ⟨A, c, h1, h2⟩ := h.rows i _ hr
  have hl : (ni (jv.getD i [])).length = (jv.getD i []).length := by simp [ni]
  rw [hl] at h1 h2
  have hgl := h.own.lt
  refine ⟨_, A, c, rfl, fun Z hZ => ?_⟩
  have same : ∀ k, G ≤ k → k < w5.heap.size → Z.heap[k]? = w5.heap[k]? := fun k hk1 hk2 => (hZ.block k (by omega) (hP k hk1 hk2)).trans (hk k hk1 hk2)
  have hsz := hZ.size
  have ha : (⟨G, 0, none⟩ : Addr).add i = ⟨G, i, none⟩ := by unfold Addr.add; split <;> simp_all
  rw [ha]
  refine ⟨?_, by show G < _; omega, rd_keep (own_rdI h2 hl) (by omega) fun ad e hl2 => ?_⟩
  · have := h.own.cell h1
    rw [← this]
    exact World.cell?_of_block (w := w5) (same G (Nat.le_refl _) hgl)
  · subst e
    have := h2.lt ad.block rfl
    exact same _ (by omega) hl2

/-! ### The program so far -/

/-- no block so far -/
def nq0 (S : Nat) : Nq := ⟨[], none, 0, [], none, 0, 0, 0, 0, [], none, 0, S, S⟩

theorem nq0_cells (n S S' : Nat) : rv cNq (List.replicate n (nq0 S)) = rv cNq (List.replicate n (nq0 S')) := by
  induction n with
  | zero => rfl
  | succ n ih =>
    rw [List.replicate_succ, List.replicate_succ]
    show cNq (nq0 S) ++ rv cNq (List.replicate n (nq0 S)) = cNq (nq0 S') ++ rv cNq (List.replicate n (nq0 S'))
    rw [ih]
    rfl

theorem make_singles {P : Program} (t e : TypeId) (ht : P.underlying t = some (.slice e)) (hi : (P.info? e).map (fun i => (i.zero, i.size, i.bytes)) = some (some (.agg #[.slice none 0 0, .slice none 0 0, .int .i64 0, .int .i64 0, .int .i64 0, .slice none 0 0]), 6, 96)) (n : Nat) (hn : n ≤ 65536) (w : World) :
    (Instr.makeSlice t (.int .i64 (n : Int)) (.int .i64 (n : Int))).run P w = .ok (.slice (some ⟨w.heap.size, 0, none⟩) n n) (w.alloc (.cells (rv cNq (List.replicate n (nq0 0))).toArray e)) := by
  obtain ⟨i0, hi0, hz, hs, hb⟩ := info_parts hi
  have h := run_make (P := P) w t e i0 _ ht hi0 hz .i64 .i64 (n : Int) (n : Int) (by omega) (by omega) (by rw [hb]; omega) (by omega)
  simp only [Int.toNat_natCast, hs] at h
  rw [h]
  have hm : madeCells (Value.agg #[.slice none 0 0, .slice none 0 0, .int .i64 0, .int .i64 0, .int .i64 0, .slice none 0 0]).cells (n * 6) = (rv cNq (List.replicate n (nq0 0))).toArray := by
    apply Array.ext
    · simp [madeCells, rv_len cNq_len]
    · intro j h1 h2
      have hj : j < n * 6 := by simpa [madeCells] using h1
      have h6 : j % 6 = 0 ∨ j % 6 = 1 ∨ j % 6 = 2 ∨ j % 6 = 3 ∨ j % 6 = 4 ∨ j % 6 = 5 := by omega
      have hg : (List.replicate n (nq0 0))[j / 6]? = some (nq0 0) := by
        rw [List.getElem?_replicate, if_pos (by omega)]
      have h3 := rv_at cNq_len hg (i := j % 6) (by omega)
      rw [show j / 6 * 6 + j % 6 = j by omega] at h3
      have h5 : (rv cNq (List.replicate n (nq0 0))).toArray[j]? = (rv cNq (List.replicate n (nq0 0)))[j]? := by simp
      have h7 := (Array.getElem?_eq_getElem h2).symm.trans (h5.trans h3)
      rw [← Option.some_inj, h7]
      simp only [madeCells, Array.getElem_map, Array.getElem_range]
      rcases h6 with h6 | h6 | h6 | h6 | h6 | h6 <;> simp [Value.cells, h6, cNq, nq0]
  rw [hm]

theorem NmG.start {w : World} {g S F n : Nat} (h : Own w g 43 (rv cNq (List.replicate n (nq0 0)))) (hg : g < S) (hS : S ≤ w.heap.size) : NmG w g S F (List.replicate n (nq0 S)) := by
  have hq : ∀ (r : Nat) (q : Nq), (List.replicate n (nq0 S))[r]? = some q → q = nq0 S := fun r q h => by
    rw [List.getElem?_replicate] at h
    split at h
    · injection h with h; exact h.symm
    · cases h
  refine ⟨by rw [nq0_cells n S 0]; exact h, hg, fun r q h => ?_, fun r s q u _ h1 h2 => ?_⟩
  · rw [hq r q h]
    refine ⟨World.ownsRow_nil _ _ _ _, fun ad e => absurd e (by simp [nq0]), fun x hx => absurd hx (by simp [nq0]), fun hm => ?_, fun ad e => absurd e (by simp [nq0]), fun hm => ?_, fun ad e => absurd e (by simp [nq0]), Nat.le_refl _, Nat.le_refl _, hS⟩
    · simp [nq0] at hm
    · simp [nq0] at hm
  · rw [hq r q h1, hq s u h2]
    exact .inl (Nat.le_refl _)

theorem bldF_snd {vars : Nat} {ts : List Int} {jv : List (List Nat)} {p : List Bk} : ∀ (r : List Nat) (l : List Sg) (T : Nat), (bldF vars ts jv p r l T).2 = T + szL jv p r
  | [], l, T => rfl
  | i :: r, l, T => by
    rw [bldF, bldF_snd r]
    simp only [szL]
    omega

/-! ### The builder made -/

structure BdX where
  j : Option (Nat × Nat × List Value)
  g : Option Nat
  b : Option Nat
  s : Bool

structure BdS (w2 : World) (len n : Nat) (rows : List (List Int)) (x : BdX) (w : World) : Prop where
  bel : Below w2.heap.size w2 w
  hj : ∀ G H cs, x.j = some (G, H, cs) → w2.heap.size ≤ G ∧ H ≤ w.heap.size ∧ ∃ w5, RowsO w5 G rows cs ∧ w5.heap.size = H ∧ ∀ k, G ≤ k → k < H → w.heap[k]? = w5.heap[k]?
  hg : ∀ g, x.g = some g → w2.heap.size ≤ g ∧ Own w g 43 (rv cNq (List.replicate len (nq0 0))) ∧ ∀ G H cs, x.j = some (G, H, cs) → g < G ∨ H ≤ g
  hb : ∀ b, x.b = some b → w2.heap.size ≤ b ∧ (x.s = false → Own w b 87 [.slice none 0 0, .slice none 0 0, .int .i64 0]) ∧ (x.s = true → ∀ G H cs g, x.j = some (G, H, cs) → x.g = some g → Own w b 87 [.slice (some ⟨G, 0, none⟩) len len, .slice (some ⟨g, 0, none⟩) len len, .int .i64 n]) ∧ (∀ G H cs, x.j = some (G, H, cs) → b < G ∨ H ≤ b) ∧ ∀ g, x.g = some g → g ≠ b

theorem BdS.start {w2 : World} {len n : Nat} {rows : List (List Int)} : BdS w2 len n rows ⟨none, none, none, false⟩ w2.drew :=
  ⟨Below.drew (Below.refl _ _), fun _ _ _ h => absurd h (by simp), fun _ h => absurd h (by simp), fun _ h => absurd h (by simp)⟩

theorem BdS.call {w2 w w' : World} {len n : Nat} {rows : List (List Int)} {x : BdX} {cs : List Value} (h : BdS w2 len n rows x w) (hs : x.s = false) (hb : Below w.heap.size w w') (hr : RowsO w' w.heap.size rows cs) : BdS w2 len n rows ⟨some (w.heap.size, w'.heap.size, cs), x.g, x.b, false⟩ w' := by
  have hsz := h.bel.size
  refine ⟨h.bel.trans (hb.mono hsz), fun G H c e => ?_, fun g e => ?_, fun b e => ?_⟩
  · injection e with e
    injection e with e1 e2
    injection e2 with e2 e3
    subst e1 e2 e3
    exact ⟨hsz, Nat.le_refl _, w', hr, rfl, fun _ _ _ => rfl⟩
  · obtain ⟨h1, h2, _⟩ := h.hg g e
    have := h2.lt
    refine ⟨h1, h2.below hb h2.lt, fun G H c e => ?_⟩
    injection e with e
    injection e with e1 e2
    subst e1
    exact .inl this
  · obtain ⟨h1, h2, _, _, h5⟩ := h.hb b e
    have h2 := h2 hs
    have := h2.lt
    refine ⟨h1, fun _ => h2.below hb h2.lt, fun e => (Bool.noConfusion e), fun G H c e => ?_, h5⟩
    injection e with e
    injection e with e1 e2
    subst e1
    exact .inl this

theorem BdS.make {w2 w : World} {len n : Nat} {rows : List (List Int)} {x : BdX} (h : BdS w2 len n rows x w) (hs : x.s = false) : BdS w2 len n rows ⟨x.j, some w.heap.size, x.b, false⟩ (w.alloc (.cells (rv cNq (List.replicate len (nq0 0))).toArray 43)) := by
  have hsz := h.bel.size
  have hb : Below w.heap.size w (w.alloc (.cells (rv cNq (List.replicate len (nq0 0))).toArray 43)) := by go_grown
  refine ⟨h.bel.trans (hb.mono hsz), fun G H c e => ?_, fun g e => ?_, fun b e => ?_⟩
  · obtain ⟨h1, h2, w5, h3, h4, h5⟩ := h.hj G H c e
    exact ⟨h1, Nat.le_trans h2 hb.size, w5, h3, h4, fun k hk1 hk2 => (hb.block k (by omega)).trans (h5 k hk1 hk2)⟩
  · injection e with e
    subst e
    refine ⟨hsz, Own.new w _ _, fun G H c e => .inr (h.hj G H c e).2.1⟩
  · obtain ⟨h1, h2, _, h4, _⟩ := h.hb b e
    have h2 := h2 hs
    have := h2.lt
    refine ⟨h1, fun _ => h2.alloc _, fun e => (Bool.noConfusion e), h4, fun g e => ?_⟩
    injection e with e
    omega

theorem BdS.build {w2 w : World} {len n : Nat} {rows : List (List Int)} {x : BdX} (h : BdS w2 len n rows x w) : BdS w2 len n rows ⟨x.j, x.g, some w.heap.size, false⟩ (w.alloc (.cells #[.slice none 0 0, .slice none 0 0, .int .i64 0] 87)) := by
  have hsz := h.bel.size
  have hb : Below w.heap.size w (w.alloc (.cells #[.slice none 0 0, .slice none 0 0, .int .i64 0] 87)) := by go_grown
  refine ⟨h.bel.trans (hb.mono hsz), fun G H c e => ?_, fun g e => ?_, fun b e => ?_⟩
  · obtain ⟨h1, h2, w5, h3, h4, h5⟩ := h.hj G H c e
    exact ⟨h1, Nat.le_trans h2 hb.size, w5, h3, h4, fun k hk1 hk2 => (hb.block k (by omega)).trans (h5 k hk1 hk2)⟩
  · obtain ⟨h1, h2, h3⟩ := h.hg g e
    exact ⟨h1, h2.alloc _, h3⟩
  · injection e with e
    subst e
    refine ⟨hsz, fun _ => Own.new w _ [_, _, _], fun e => (Bool.noConfusion e), fun G H c e => .inr (h.hj G H c e).2.1, fun g e => ?_⟩
    have := (h.hg g e).2.1.lt
    omega

theorem BdS.store {w2 w : World} {len n G H g b : Nat} {cs : List Value} {rows : List (List Int)} {x : BdX} (h : BdS w2 len n rows x w) (hs : x.s = false) (hj : x.j = some (G, H, cs)) (hg : x.g = some g) (hb : x.b = some b) :
    BdS w2 len n rows ⟨x.j, x.g, x.b, true⟩ (((w.setCell ⟨b, 0, none⟩ (.slice (some ⟨G, 0, none⟩) len len)).setCell ⟨b, 1, none⟩ (.slice (some ⟨g, 0, none⟩) len len)).setCell ⟨b, 2, none⟩ (.int .i64 n)) := by
  obtain ⟨b1, b2, _, b4, b5⟩ := h.hb b hb
  have b2 := b2 hs
  have hbl := b2.lt
  have hw : WrP (fun k => k = b) w (((w.setCell ⟨b, 0, none⟩ (.slice (some ⟨G, 0, none⟩) len len)).setCell ⟨b, 1, none⟩ (.slice (some ⟨g, 0, none⟩) len len)).setCell ⟨b, 2, none⟩ (.int .i64 n)) :=
    (((WrP.of_below (P := fun k => k = b) (Below.refl w.heap.size w)).set (p := ⟨b, 0, none⟩) rfl _).set (p := ⟨b, 1, none⟩) rfl _).set (p := ⟨b, 2, none⟩) rfl _
  refine ⟨((h.bel.setCell (by show _ ≤ b; exact b1) _).setCell (by show _ ≤ b; exact b1) _).setCell (by show _ ≤ b; exact b1) _, fun G' H' c e => ?_, fun g' e => ?_, fun b' e => ?_⟩
  · obtain ⟨h1, h2, w5, h3, h4, h5⟩ := h.hj G' H' c e
    have := b4 G' H' c e
    exact ⟨h1, Nat.le_trans h2 hw.size, w5, h3, h4, fun k hk1 hk2 => (hw.block k (by omega) (by omega)).trans (h5 k hk1 hk2)⟩
  · obtain ⟨h1, h2, h3⟩ := h.hg g' e
    exact ⟨h1, hw.own h2 (b5 g' e), h3⟩
  · rw [hb] at e
    injection e with e
    subst e
    refine ⟨b1, fun e => (Bool.noConfusion e), fun _ G' H' c g' e1 e2 => ?_, b4, b5⟩
    rw [hj] at e1
    rw [hg] at e2
    injection e1 with e1
    injection e1 with e1
    injection e2 with e2
    subst e1 e2
    exact ((b2.set 0 _).set 1 _).set 2 _

/-- the builder's region: what is done -/
def bdD (x : BdX × Option (Nat × Nat)) (j : Nat) : Bool := match j with
  | 3 => x.1.j.isSome
  | 6 => x.1.g.isSome
  | 8 => x.2.isSome
  | 9 => x.1.b.isSome
  | 10 => x.1.s
  | _ => true

def bdE (j : Nat) : Bool := j == 3 || j == 6 || j == 8 || j == 9 || j == 10

theorem bdE_cases {j : Nat} (h : bdE j = true) : j = 3 ∨ j = 6 ∨ j = 8 ∨ j = 9 ∨ j = 10 := by
  unfold bdE at h
  simp only [Bool.or_eq_true, beq_iff_eq] at h
  omega

theorem bdH0 {n : Nat} : ∀ i, i < n → bdE i = true → bdD (⟨none, none, none, false⟩, none) i = false := fun i _ h => by
  rcases bdE_cases h with rfl | rfl | rfl | rfl | rfl <;> rfl

structure BdT (w2 : World) (len n : Nat) (rows : List (List Int)) (x : BdX × Option (Nat × Nat)) (w : World) : Prop where
  bs : BdS w2 len n rows x.1 w
  m : ∀ G g, x.2 = some (G, g) → (∃ H cs, x.1.j = some (G, H, cs)) ∧ x.1.g = some g
  s : x.1.s = true → x.2.isSome = true ∧ x.1.b.isSome = true

section
variable {w2 w w' : World} {len n : Nat} {rows : List (List Int)} {x : BdX × Option (Nat × Nat)}

theorem BdT.start : BdT w2 len n rows (⟨none, none, none, false⟩, none) w2.drew := ⟨BdS.start, fun _ _ h => absurd h (by simp), fun h => absurd h (by simp)⟩

theorem BdT.none_s (h : BdT w2 len n rows x w) (h0 : x.2 = none) : x.1.s = false := by
  cases e : x.1.s with
  | false => rfl
  | true =>
    have := (h.s e).1
    rw [h0] at this
    cases this

theorem BdT.none_m (h : BdT w2 len n rows x w) (h0 : x.1.j = none ∨ x.1.g = none) : x.2 = none := by
  cases e : x.2 with
  | none => rfl
  | some y =>
    obtain ⟨⟨H, cs, h1⟩, h2⟩ := h.m y.1 y.2 e
    rcases h0 with h0 | h0
    · rw [h0] at h1; cases h1
    · rw [h0] at h2; cases h2

theorem opt_none {α : Type} {o : Option α} (h : o.isSome = false) : o = none := by
  cases o with
  | none => rfl
  | some _ => cases h

theorem opt_some {α : Type} {o : Option α} (h : o.isSome = true) : ∃ y, o = some y := by
  cases o with
  | none => cases h
  | some y => exact ⟨y, rfl⟩

theorem BdT.call {cs : List Value} (h : BdT w2 len n rows x w) (h0 : bdD x 3 = false) (hb : Below w.heap.size w w') (hr : RowsO w' w.heap.size rows cs) : BdT w2 len n rows (⟨some (w.heap.size, w'.heap.size, cs), x.1.g, x.1.b, x.1.s⟩, x.2) w' ∧ Nxt bdE bdD x (⟨some (w.heap.size, w'.heap.size, cs), x.1.g, x.1.b, x.1.s⟩, x.2) 3 := by
  have hj : x.1.j = none := opt_none h0
  have hm := h.none_m (.inl hj)
  have hs := h.none_s hm
  refine ⟨⟨by rw [hs]; exact h.bs.call hs hb hr, fun G g e => ?_, fun e => ?_⟩, fun j hj2 => ?_⟩
  · rw [hm] at e; cases e
  · simp only [] at e; rw [hs] at e; cases e
  · rcases bdE_cases hj2 with rfl | rfl | rfl | rfl | rfl <;> simp [bdD]

theorem BdT.make (h : BdT w2 len n rows x w) (h0 : bdD x 6 = false) : BdT w2 len n rows (⟨x.1.j, some w.heap.size, x.1.b, x.1.s⟩, x.2) (w.alloc (.cells (rv cNq (List.replicate len (nq0 0))).toArray 43)) ∧ Nxt bdE bdD x (⟨x.1.j, some w.heap.size, x.1.b, x.1.s⟩, x.2) 6 := by
  have hj : x.1.g = none := opt_none h0
  have hm := h.none_m (.inr hj)
  have hs := h.none_s hm
  refine ⟨⟨by rw [hs]; exact h.bs.make hs, fun G g e => ?_, fun e => ?_⟩, fun j hj2 => ?_⟩
  · rw [hm] at e; cases e
  · simp only [] at e; rw [hs] at e; cases e
  · rcases bdE_cases hj2 with rfl | rfl | rfl | rfl | rfl <;> simp [bdD]

theorem BdT.agg (h : BdT w2 len n rows x w) (h0 : bdD x 8 = false) (h3 : bdD x 3 = true) (h6 : bdD x 6 = true) : BdT w2 len n rows (x.1, some ((x.1.j.getD (0, 0, [])).1, x.1.g.getD 0)) w ∧ Nxt bdE bdD x (x.1, some ((x.1.j.getD (0, 0, [])).1, x.1.g.getD 0)) 8 := by
  have hm : x.2 = none := opt_none h0
  have hs := h.none_s hm
  obtain ⟨⟨G, H, cs⟩, e3⟩ := opt_some (show x.1.j.isSome = true from h3)
  obtain ⟨g, e6⟩ := opt_some (show x.1.g.isSome = true from h6)
  refine ⟨⟨h.bs, fun G' g' e => ?_, fun e => ?_⟩, fun j hj2 => ?_⟩
  · rw [e3, e6] at e ⊢
    injection e with e
    injection e with e1 e2
    simp only [Option.getD_some] at e1 e2
    subst e1 e2
    exact ⟨⟨H, cs, rfl⟩, rfl⟩
  · simp only [] at e; rw [hs] at e; cases e
  · rcases bdE_cases hj2 with rfl | rfl | rfl | rfl | rfl <;> simp [bdD]

theorem BdT.build (h : BdT w2 len n rows x w) (h0 : bdD x 9 = false) : BdT w2 len n rows (⟨x.1.j, x.1.g, some w.heap.size, x.1.s⟩, x.2) (w.alloc (.cells #[.slice none 0 0, .slice none 0 0, .int .i64 0] 87)) ∧ Nxt bdE bdD x (⟨x.1.j, x.1.g, some w.heap.size, x.1.s⟩, x.2) 9 := by
  have hb : x.1.b = none := opt_none h0
  have hs : x.1.s = false := by
    cases e : x.1.s with
    | false => rfl
    | true =>
      have := (h.s e).2
      rw [hb] at this
      cases this
  refine ⟨⟨by rw [hs]; exact h.bs.build, h.m, fun e => ?_⟩, fun j hj2 => ?_⟩
  · simp only [] at e; rw [hs] at e; cases e
  · rcases bdE_cases hj2 with rfl | rfl | rfl | rfl | rfl <;> simp [bdD]

theorem BdT.store (h : BdT w2 len n rows x w) (h0 : bdD x 10 = false) (h8 : bdD x 8 = true) (h9 : bdD x 9 = true) :
    (∃ b, x.1.b = some b ∧ Own w b 87 [.slice none 0 0, .slice none 0 0, .int .i64 0]) ∧ BdT w2 len n rows (⟨x.1.j, x.1.g, x.1.b, true⟩, x.2) (((w.setCell ⟨x.1.b.getD 0, 0, none⟩ (.slice (some ⟨(x.2.getD (0, 0)).1, 0, none⟩) len len)).setCell ⟨x.1.b.getD 0, 1, none⟩ (.slice (some ⟨(x.2.getD (0, 0)).2, 0, none⟩) len len)).setCell ⟨x.1.b.getD 0, 2, none⟩ (.int .i64 n)) ∧ Nxt bdE bdD x (⟨x.1.j, x.1.g, x.1.b, true⟩, x.2) 10 := by
  obtain ⟨⟨G, g⟩, e8⟩ := opt_some (show x.2.isSome = true from h8)
  obtain ⟨b, e9⟩ := opt_some (show x.1.b.isSome = true from h9)
  have hs : x.1.s = false := h0
  obtain ⟨⟨H, cs, e3⟩, e6⟩ := h.m G g e8
  refine ⟨⟨b, e9, (h.bs.hb b e9).2.1 hs⟩, ⟨?_, h.m, fun _ => ⟨h8, h9⟩⟩, fun j hj2 => ?_⟩
  · rw [e8, e9]
    simp only [Option.getD_some]
    have := h.bs.store hs e3 e6 e9
    rw [e9] at this
    exact this
  · rcases bdE_cases hj2 with rfl | rfl | rfl | rfl | rfl <;> simp [bdD]

/-- behind it -/
theorem BdT.done (h : BdT w2 len n rows x w) (hd : ∀ j, bdE j = true → bdD x j = true) : ∃ b G g H cs, x.1.b = some b ∧ Own w b 87 [.slice (some ⟨G, 0, none⟩) len len, .slice (some ⟨g, 0, none⟩) len len, .int .i64 n] ∧ Own w g 43 (rv cNq (List.replicate len (nq0 0))) ∧ g ≠ b ∧ w2.heap.size ≤ g ∧ w2.heap.size ≤ b ∧ Below w2.heap.size w2 w ∧
    ∃ w5, RowsO w5 G rows cs ∧ w5.heap.size = H ∧ H ≤ w.heap.size ∧ (∀ k, G ≤ k → k < H → w.heap[k]? = w5.heap[k]?) ∧ (g < G ∨ H ≤ g) ∧ (b < G ∨ H ≤ b) := by
  obtain ⟨b, e9⟩ := opt_some (show x.1.b.isSome = true from hd 9 rfl)
  obtain ⟨⟨G, H, cs⟩, e3⟩ := opt_some (show x.1.j.isSome = true from hd 3 rfl)
  obtain ⟨g, e6⟩ := opt_some (show x.1.g.isSome = true from hd 6 rfl)
  have hs : x.1.s = true := hd 10 rfl
  obtain ⟨b1, _, b3, b4, b5⟩ := h.bs.hb b e9
  obtain ⟨g1, g2, g3⟩ := h.bs.hg g e6
  obtain ⟨j1, j2, w5, j3, j4, j5⟩ := h.bs.hj G H cs e3
  exact ⟨b, G, g, H, cs, e9, b3 hs G H cs g e3 e6, g2, b5 g e6, g1, b1, h.bs.bel, w5, j3, j4, j2, j5, g3 G H cs e3, b4 G H cs e3⟩

end

end Go.Proofs.Ytgcjknibelfjbaa
