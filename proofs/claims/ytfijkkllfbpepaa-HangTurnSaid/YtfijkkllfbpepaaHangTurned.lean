/-
  What codemasonkeep.HangTurn's walk keeps: the exits met so far; the rows of the graph turned round and renamed.
-/
import Derived.Test.YtfijkkllfbpepaaHangName
import Derived.Test.YtfijkkllfbpepaaRec
import Derived.Deep.QuietTactic
import Derived.Deep.RegionHeld3
import Derived.Deep.RegionWith
import Derived.BigQuiet
import Derived.BigRegion
import Derived.IntWalk
namespace Go.Proofs.Ytfijkkllfbpepaa
open Go.RowKit Go.ChangeShapes Go.WideShapes Go.ChangeAt Go.Deep
set_option linter.unusedSimpArgs false
set_option linter.unusedVariables false
set_option maxRecDepth 100000

/-- the exits met below i: none (v = -1), or one alone -/
def EndAt (nx : List (List Int)) (i : Nat) (v : Int) : Prop := (v = -1 ∧ ∀ j, j < i → sc nx j ≠ []) ∨ ∃ e : Nat, v = e ∧ e < i ∧ sc nx e = [] ∧ ∀ j, j < i → sc nx j = [] → j = e

theorem EndAt.more {nx : List (List Int)} {i : Nat} {v : Int} (h : EndAt nx i v) (hi : sc nx i ≠ []) : EndAt nx (i + 1) v := by
  rcases h with ⟨h1, h2⟩ | ⟨e, h1, h2, h3, h4⟩
  · exact .inl ⟨h1, fun j hj => by
      by_cases e : j = i
      · subst e; exact hi
      · exact h2 j (by omega)⟩
  · exact .inr ⟨e, h1, by omega, h3, fun j hj h5 => by
      by_cases e : j = i
      · subst e; exact absurd h5 hi
      · exact h4 j (by omega) h5⟩

theorem EndAt.one {nx : List (List Int)} {i : Nat} (h : EndAt nx i (-1)) (hi : sc nx i = []) : EndAt nx (i + 1) (i : Int) := by
  rcases h with ⟨_, h2⟩ | ⟨e, h1, _⟩
  · exact .inr ⟨i, rfl, by omega, hi, fun j hj h5 => by
      by_cases e : j = i
      · exact e
      · exact absurd h5 (h2 j (by omega))⟩
  · omega

theorem EndAt.low {nx : List (List Int)} {i : Nat} {v : Int} (h : EndAt nx i v) : v = -1 ∨ 0 ≤ v := by
  rcases h with ⟨h1, _⟩ | ⟨e, h1, _⟩
  · exact .inl h1
  · right; omega

/-- rows that are done: each a row of its own, not in block G -/
def SwRows (w : World) (G : Nat) (nx : List (List Int)) (e m : Nat) (cs : List Value) : Prop :=
  ∀ r, r < m → ∃ Ar cr, cs[sw e r]? = some (.slice Ar (swR nx e r).length cr) ∧ RdI w w.heap.size Ar (ni (swR nx e r)) ∧ ∀ ad, Ar = some ad → ad.block ≠ G

theorem SwRows.wrote {w w' : World} {G m e : Nat} {nx : List (List Int)} {cs cs' : List Value} (h : SwRows w G nx e m cs) (hw : Wrote G w w') (hcs : ∀ r, r < m → cs'[sw e r]? = cs[sw e r]?) : SwRows w' G nx e m cs' := fun r hr => by
  obtain ⟨Ar, cr, h1, h2, h3⟩ := h r hr
  exact ⟨Ar, cr, by rw [hcs r hr]; exact h1, (h2.but h3 fun p hp hne => hw.cell hp hne).more hw.size, h3⟩

theorem SwRows.done {w : World} {G e : Nat} {nx : List (List Int)} {cs : List Value} (he : e < nx.length) (ho : Own w G 33 cs) (h : SwRows w G nx e nx.length cs) : RdG w w.heap.size (some ⟨G, 0, none⟩) (swG nx e) := fun hm => by
  refine ⟨_, rfl, ho.lt, fun r row hr => ?_⟩
  have hrl := (List.getElem?_eq_some_iff.1 hr).1
  rw [swG_len] at hrl
  rw [swG_at hrl] at hr
  injection hr with hr
  subst hr
  obtain ⟨Ar, cr, h1, h2, _⟩ := h (sw e r) (sw_lt he hrl)
  rw [sw_sw] at h1
  refine ⟨Ar, cr, ?_, h2⟩
  have ha : (⟨G, 0, none⟩ : Addr).add r = ⟨G, r, none⟩ := by unfold Addr.add; split <;> simp_all
  rw [ha, ho.cell h1]
  simp [ni]

theorem RdG.wrote {w w' : World} {B G : Nat} {A : Option Addr} {nx : List (List Int)} (h : RdG w B A nx) (hn : NewG w (G + 1) A nx) (hB : B ≤ w.heap.size) (hw : Wrote G w w') : RdG w' B A nx := fun hm => by
  obtain ⟨ad, e, h1, h2⟩ := h hm
  obtain ⟨h3, h4⟩ := hn ad e
  refine ⟨ad, e, h1, fun r row hr => ?_⟩
  obtain ⟨Ar, cr, h5, h6⟩ := h2 r row hr
  refine ⟨Ar, cr, (hw.cell (by rw [addr_add_block]; omega) (by rw [addr_add_block]; omega)).trans h5, h6.but (G := G) (fun a ha => ?_) fun p hp hne => hw.cell (by omega) hne⟩
  have := h4 r (List.getElem?_eq_some_iff.1 hr).1 Ar _ cr h5 a ha
  omega

theorem NewG.wrote {w w' : World} {B G : Nat} {A : Option Addr} {nx : List (List Int)} (h : RdG w B A nx) (hn : NewG w (G + 1) A nx) (hB : B ≤ w.heap.size) (hw : Wrote G w w') : NewG w' (G + 1) A nx := fun ad e => by
  refine ⟨(hn ad e).1, fun r hr Ar n cr hc a ha => ?_⟩
  obtain ⟨ad', e', h1, _⟩ := h (by omega)
  rw [e] at e'
  injection e' with e'
  subst e'
  have := (hn ad e).1
  exact (hn ad e).2 r hr Ar n cr ((hw.cell (by rw [addr_add_block]; omega) (by rw [addr_add_block]; omega)).symm.trans hc) a ha

end Go.Proofs.Ytfijkkllfbpepaa
