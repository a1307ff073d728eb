/-
  Rows of ints in a block of the call's own, each row of the call's own and apart from the others: each can be appended to.
-/
import Derived.Test.YthmcigdoaededaaTurned
import Derived.Test.YthmcigdoaededaaMBlock
namespace Go.Proofs.Ythmcigdoaededaa
open Go.RowKit
set_option linter.unusedSimpArgs false
set_option linter.unusedVariables false
set_option maxRecDepth 100000

structure RowsO (w : World) (G : Nat) (rows : List (List Int)) (cs : List Value) : Prop where
  cl : cs.length = rows.length
  own : Own w G 23 cs
  rows : ∀ (r : Nat) (row : List Int), rows[r]? = some row → ∃ A c, cs[r]? = some (.slice A row.length c) ∧ w.ownsRow (G + 1) 3 1 (.slice A row.length c) row.length (iv row)
  apart : ∀ (r s : Nat) (u v : Value), r ≠ s → cs[r]? = some u → cs[s]? = some v → ∀ b, u.ownBlock = some b → v.ownBlock ≠ some b

theorem RowsO.nil {w : World} {G n : Nat} (h : Own w G 23 (nils n)) : RowsO w G (List.replicate n []) (nils n) := by
  refine ⟨by simp [nils], h, fun r row hr => ?_, fun r s u v hne hu hv b hb => ?_⟩
  · rw [List.getElem?_replicate] at hr
    split at hr
    · rename_i hlt
      injection hr with hr
      subst hr
      exact ⟨none, 0, by simp [nils, hlt], World.ownsRow_nil _ _ _ _⟩
    · cases hr
  · unfold nils at hu
    rw [List.getElem?_replicate] at hu
    split at hu
    · injection hu with hu
      subst hu
      cases hb
    · cases hu

theorem RowsO.first {w : World} {G n c : Nat} {A : Option Addr} {x : Int} (hn : 1 ≤ n) (h : Own w G 23 ((nils n).set 0 (.slice A 1 c))) (ho : w.ownsRow (G + 1) 3 1 (.slice A 1 c) 1 [.int .i64 x]) : RowsO w G ((List.replicate n []).set 0 [x]) ((nils n).set 0 (.slice A 1 c)) := by
  have hnl : (nils n).length = n := by simp [nils]
  have rest : ∀ (r : Nat) (u : Value), r ≠ 0 → ((nils n).set 0 (.slice A 1 c))[r]? = some u → u = .slice none 0 0 := fun r u hr hu => by
    rw [List.getElem?_set_ne (Ne.symm hr)] at hu
    unfold nils at hu
    rw [List.getElem?_replicate] at hu
    split at hu
    · injection hu with hu; exact hu.symm
    · cases hu
  refine ⟨by simp [nils], h, fun r row hr => ?_, fun r s u v hne hu hv b hb => ?_⟩
  · by_cases e : r = 0
    · subst e
      rw [List.getElem?_set_self (by simp; omega)] at hr
      injection hr with hr
      subst hr
      exact ⟨A, c, by rw [List.getElem?_set_self (by rw [hnl]; omega)]; rfl, ho⟩
    · rw [List.getElem?_set_ne (Ne.symm e), List.getElem?_replicate] at hr
      split at hr
      · rename_i hlt
        injection hr with hr
        subst hr
        exact ⟨none, 0, by rw [List.getElem?_set_ne (Ne.symm e)]; simp [nils, hlt], World.ownsRow_nil _ _ _ _⟩
      · cases hr
  · by_cases e : r = 0
    · have := rest s v (fun h => hne (e.trans h.symm)) hv
      subst this
      exact fun h => by cases h
    · have := rest r u e hu
      subst this
      cases hb

theorem RowsO.quiet {w w' : World} {G : Nat} {rows : List (List Int)} {cs : List Value} (h : RowsO w G rows cs) (hb : Below w.heap.size w w') : RowsO w' G rows cs := by
  refine ⟨h.cl, h.own.below hb h.own.lt, fun r row hr => ?_, h.apart⟩
  obtain ⟨A, c, h1, h2⟩ := h.rows r row hr
  exact ⟨A, c, h1, own_below h2 hb⟩

/-- one row longer -/
theorem RowsO.app {w X w' : World} {G r c' : Nat} {A' : Option Addr} {rows : List (List Int)} {cs : List Value} {row : List Int} {u : Value} {x : Int} (h : RowsO w G rows cs) (hX : Below w.heap.size w X) (hr : rows[r]? = some row) (hu : cs[r]? = some u)
    (ho : w'.ownsRow (G + 1) 3 1 (.slice A' (row.length + 1) c') (row.length + 1) (iv row ++ [.int .i64 x])) (hg : X.grownBy w' u.ownBlock)
    (hbl : (Value.slice A' (row.length + 1) c').ownBlock = u.ownBlock ∨ (Value.slice A' (row.length + 1) c').ownBlock = some X.heap.size) :
    RowsO (w'.setCell ⟨G, r, none⟩ (.slice A' (row.length + 1) c')) G (rows.set r (row ++ [x])) (cs.set r (.slice A' (row.length + 1) c')) := by
  have hrl := (List.getElem?_eq_some_iff.1 hr).1
  have hul := (List.getElem?_eq_some_iff.1 hu).1
  have hq := h.quiet hX
  obtain ⟨Ar, cr, e1, e2⟩ := hq.rows r row hr
  rw [hu] at e1
  injection e1 with e1
  subst e1
  have hGb : (Value.slice Ar row.length cr).ownBlock ≠ some G := fun e => by have := (e2.lt G e).1; omega
  have hGX := hq.own.lt
  have hown' : Own w' G 23 cs := (hg.block G hGX (fun e => hGb e.symm)).trans hq.own
  refine ⟨by simp [h.cl], hown'.set r _, fun s row' hs => ?_, fun s t v z hne hv hz b hb => ?_⟩
  · by_cases e : s = r
    · subst e
      rw [List.getElem?_set_self hrl] at hs
      injection hs with hs
      subst hs
      refine ⟨A', c', by rw [List.getElem?_set_self hul]; simp, ?_⟩
      have := own_farW ho (p := ⟨G, s, none⟩) (Nat.lt_succ_self G) (.slice A' (row.length + 1) c')
      rw [iv_append, List.length_append]
      exact this
    · rw [List.getElem?_set_ne (Ne.symm e)] at hs
      obtain ⟨As, cs', f1, f2⟩ := hq.rows s row' hs
      refine ⟨As, cs', by rw [List.getElem?_set_ne (Ne.symm e)]; exact f1, own_farW (f2.kept hg ?_) (p := ⟨G, r, none⟩) (Nat.lt_succ_self G) _⟩
      cases hb : (Value.slice As row'.length cs').ownBlock with
      | none => exact .inl rfl
      | some b => exact .inr fun e3 => hq.apart s r _ _ e f1 hu b hb e3.symm
  · have new : ∀ (q : Nat) (y : Value), q ≠ r → cs[q]? = some y → (Value.slice A' (row.length + 1) c').ownBlock ≠ y.ownBlock ∨ y.ownBlock = none := fun q y hqr hy => by
      cases hyb : y.ownBlock with
      | none => exact .inr rfl
      | some d =>
        left
        intro e
        rcases hbl with hb | hb
        · rw [hb] at e
          exact hq.apart r q _ _ (Ne.symm hqr) hu hy d e hyb
        · rw [hb] at e
          injection e with e
          have hql : q < rows.length := by rw [← h.cl]; exact (List.getElem?_eq_some_iff.1 hy).1
          obtain ⟨Aq, cq, g1, g2⟩ := hq.rows q _ (List.getElem?_eq_getElem hql)
          rw [hy] at g1
          injection g1 with g1
          subst g1
          have := (g2.lt d hyb).2
          omega
    by_cases e : s = r
    · subst e
      rw [List.getElem?_set_self hul] at hv
      rw [List.getElem?_set_ne hne] at hz
      injection hv with hv
      subst hv
      rcases new t z (Ne.symm hne) hz with h1 | h1
      · intro h2; exact h1 (hb.trans h2.symm)
      · rw [h1]; exact fun h => by cases h
    · rw [List.getElem?_set_ne (Ne.symm e)] at hv
      by_cases e2 : t = r
      · subst e2
        rw [List.getElem?_set_self hul] at hz
        injection hz with hz
        subst hz
        rcases new s v e hv with h1 | h1
        · intro h2; exact h1 (h2.trans hb.symm)
        · rw [h1] at hb; cases hb
      · rw [List.getElem?_set_ne (Ne.symm e2)] at hz
        exact h.apart s t v z hne hv hz b hb

theorem RowsO.rd {w : World} {G : Nat} {rows : List (List Int)} {cs : List Value} (h : RowsO w G rows cs) : RdG w w.heap.size (some ⟨G, 0, none⟩) rows := fun hm => by
  refine ⟨_, rfl, h.own.lt, fun r row hr => ?_⟩
  obtain ⟨A, c, h1, h2⟩ := h.rows r row hr
  refine ⟨A, c, ?_, own_rdI h2 rfl⟩
  have ha : (⟨G, 0, none⟩ : Addr).add r = ⟨G, r, none⟩ := by unfold Addr.add; split <;> simp_all
  rw [ha, h.own.cell h1]

theorem RowsO.wrote {w w' : World} {G h : Nat} {rows : List (List Int)} {cs : List Value} (hr : RowsO w G rows cs) (hw : Wrote h w w') (hh : h < G) : RowsO w' G rows cs := by
  refine ⟨hr.cl, (hw.block G hr.own.lt (by omega)).trans hr.own, fun r row h1 => ?_, hr.apart⟩
  obtain ⟨A, c, h2, h3⟩ := hr.rows r row h1
  exact ⟨A, c, h2, own_wroteN h3 hw fun e => by have := (h3.lt h e).1; omega⟩

end Go.Proofs.Ythmcigdoaededaa
