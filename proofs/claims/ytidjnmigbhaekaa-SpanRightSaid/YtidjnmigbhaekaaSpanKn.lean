/-
  Rows of spans in a block of the call's own: read, made, put (R2).
-/
import Derived.Test.YtidjnmigbhaekaaSpanRow
import Derived.Test.YtidjnmigbhaekaaTurned
import Derived.Test.YtidjnmigbhaekaaMBase
namespace Go.Proofs.Ytidjnmigbhaekaa
open Go.RowKit
set_option linter.unusedSimpArgs false
set_option linter.unusedVariables false
set_option maxRecDepth 100000

theorem addr_zeroS (g k : Nat) : (⟨g, 0, none⟩ : Addr).add k = ⟨g, k, none⟩ := by unfold Addr.add; split <;> simp_all

/-- a reading across a write to another block -/
theorem RdM.far {w : World} {h : Nat} {p : Addr} {l : List (Int × Int)} (hr : RdM w w.heap.size (some ⟨h, 0, none⟩) l) (hp : h ≠ p.block) (u : Value) : RdM (w.setCell p u) (w.setCell p u).heap.size (some ⟨h, 0, none⟩) l := fun hm => by
  obtain ⟨ad, e, hb, hc⟩ := hr hm
  have hw : Wrote p.block w (w.setCell p u) := (Wrote.of_below (Below.refl _ _)).set rfl u
  refine ⟨ad, e, Nat.lt_of_lt_of_le hb hw.size, fun j hj => ?_⟩
  rw [← hc j hj]
  injection e with e
  subst e
  exact hw.cell (by rw [addr_add_block]; exact hb) (by rw [addr_add_block]; exact hp)

/-- rows: an empty one is nil; the others read, none of them in the block of the rows -/
structure KNS (w : World) (G : Nat) (Y : List (List (Int × Int))) (ds : List Value) : Prop where
  len : ds.length = Y.length
  own : Own w G 31 ds
  rows : ∀ (i : Nat) (a : List (Int × Int)), Y[i]? = some a → (a = [] ∧ ds[i]? = some (.slice none 0 0)) ∨ (a ≠ [] ∧ ∃ h c, ds[i]? = some (.slice (some ⟨h, 0, none⟩) a.length c) ∧ h ≠ G ∧ h < w.heap.size ∧ RdM w w.heap.size (some ⟨h, 0, none⟩) a)

/-- a block that is none of the rows' -/
def FreS (ds : List Value) (b : Nat) : Prop := ∀ (i h n c : Nat), ds[i]? = some (.slice (some ⟨h, 0, none⟩) n c) → h ≠ b

theorem KNS.below {w w' : World} {G : Nat} {Y : List (List (Int × Int))} {ds : List Value} (h : KNS w G Y ds) (hb : Below w.heap.size w w') : KNS w' G Y ds := by
  refine ⟨h.len, h.own.below hb h.own.lt, fun i a ha => ?_⟩
  rcases h.rows i a ha with h1 | ⟨h1, k, c, h2, h3, h4, h5⟩
  · exact .inl h1
  · exact .inr ⟨h1, k, c, h2, h3, Nat.lt_of_lt_of_le h4 hb.size, (RdM.below h5 hb (Nat.le_refl _)).more hb.size⟩

theorem KNS.free {w : World} {G : Nat} {Y : List (List (Int × Int))} {ds : List Value} (h : KNS w G Y ds) {b : Nat} (hb : w.heap.size ≤ b) : FreS ds b := fun i k n c hc e => by
  have hil : i < Y.length := by rw [← h.len]; exact (List.getElem?_eq_some_iff.1 hc).1
  rcases h.rows i _ (List.getElem?_eq_getElem hil) with ⟨_, h2⟩ | ⟨_, k', c', h3, _, h4, _⟩
  · rw [hc] at h2; cases h2
  · rw [hc] at h3
    injection h3 with h3
    injection h3 with h5 _ _
    injection h5 with h5
    injection h5 with h5 _ _
    omega

theorem KNS.start (w : World) (m : Nat) : KNS (w.alloc (.cells (nils m).toArray 31)) w.heap.size (List.replicate m []) (nils m) := by
  refine ⟨by simp [nils], Own.new w _ _, fun i a ha => ?_⟩
  rw [List.getElem?_replicate] at ha
  split at ha
  · rename_i hi
    injection ha with ha
    exact .inl ⟨ha.symm, by unfold nils; rw [List.getElem?_replicate, if_pos hi]⟩
  · cases ha

/-- a row that is new -/
theorem KNS.put {w : World} {G j h c : Nat} {Y : List (List (Int × Int))} {ds : List Value} {a : List (Int × Int)} (hk : KNS w G Y ds) (ha : a ≠ []) (hr : RdM w w.heap.size (some ⟨h, 0, none⟩) a) (hl : h < w.heap.size) (hh : h ≠ G) :
    KNS (w.setCell ⟨G, j, none⟩ (.slice (some ⟨h, 0, none⟩) a.length c)) G (Y.set j a) (ds.set j (.slice (some ⟨h, 0, none⟩) a.length c)) := by
  have hsz : (w.setCell ⟨G, j, none⟩ (.slice (some ⟨h, 0, none⟩) a.length c)).heap.size = w.heap.size := by simp [World.setCell]
  refine ⟨by simp [hk.len], hk.own.set j _, fun i b hbi => ?_⟩
  by_cases e : j = i
  · subst e
    have hjl : j < Y.length := by have := (List.getElem?_eq_some_iff.1 hbi).1; simpa using this
    rw [List.getElem?_set_self hjl] at hbi
    injection hbi with hbi
    subst hbi
    exact .inr ⟨ha, h, c, List.getElem?_set_self (by rw [hk.len]; exact hjl), hh, by rw [hsz]; exact hl, hr.far hh _⟩
  · rw [List.getElem?_set_ne e] at hbi
    rcases hk.rows i b hbi with ⟨h1, h2⟩ | ⟨h1, k, c', h2, h3, h4, h5⟩
    · exact .inl ⟨h1, by rw [List.getElem?_set_ne e]; exact h2⟩
    · exact .inr ⟨h1, k, c', by rw [List.getElem?_set_ne e]; exact h2, h3, by rw [hsz]; exact h4, RdM.far h5 h3 _⟩

/-- a write to a block that is none of theirs -/
theorem KNS.poke {w : World} {G : Nat} {Y : List (List (Int × Int))} {ds : List Value} {p : Addr} (hk : KNS w G Y ds) (hf : FreS ds p.block) (hG : G ≠ p.block) (u : Value) : KNS (w.setCell p u) G Y ds := by
  have hsz : (w.setCell p u).heap.size = w.heap.size := by simp [World.setCell]
  refine ⟨hk.len, hk.own.far hG _, fun i b hbi => ?_⟩
  rcases hk.rows i b hbi with h1 | ⟨h1, k, c', h2, h3, h4, h5⟩
  · exact .inl h1
  · exact .inr ⟨h1, k, c', h2, h3, by rw [hsz]; exact h4, RdM.far h5 (hf i k _ c' h2) _⟩

theorem FreS.set {ds : List Value} {b j h n c : Nat} (hf : FreS ds b) (hne : h ≠ b) : FreS (ds.set j (.slice (some ⟨h, 0, none⟩) n c)) b := fun i k n' c' hc e => by
  by_cases e1 : j = i
  · subst e1
    have hjl := (List.getElem?_eq_some_iff.1 hc).1
    rw [List.length_set] at hjl
    rw [List.getElem?_set_self hjl] at hc
    injection hc with hc
    injection hc with hc _ _
    injection hc with hc
    injection hc with hc _ _
    exact hne (hc.trans e)
  · rw [List.getElem?_set_ne e1] at hc
    exact hf i k n' c' hc e

/-- in a round: the rows of the next turn, the block looked at, the row behind its steps -/
structure SwI (w0 : World) (G b9 hv cv n : Nat) (blk : List Value) (row : List (Int × Int)) (Y : List (List (Int × Int))) (ds : List Value) (Z : World) : Prop where
  kn : KNS Z G Y ds
  box : Own Z b9 48 blk
  row : OwnSp Z (G + 1) hv n cv row
  free : FreS ds hv
  bel : Below G w0 Z
  bG : b9 ≠ G
  bv : b9 ≠ hv

theorem SwI.below {w0 Z Z' : World} {G b9 hv cv n : Nat} {blk : List Value} {row : List (Int × Int)} {Y : List (List (Int × Int))} {ds : List Value} (h : SwI w0 G b9 hv cv n blk row Y ds Z) (hb : Below Z.heap.size Z Z') : SwI w0 G b9 hv cv n blk row Y ds Z' :=
  ⟨h.kn.below hb, h.box.below hb h.box.lt, h.row.below hb, h.free, h.bel.trans (hb.mono (Nat.le_of_lt h.kn.own.lt)), h.bG, h.bv⟩

theorem SwI.put {w0 Z Z5 : World} {G b9 hv cv n j h c : Nat} {blk : List Value} {row r : List (Int × Int)} {Y : List (List (Int × Int))} {ds : List Value} (hs : SwI w0 G b9 hv cv n blk row Y ds Z) (hb : Below Z.heap.size Z Z5) (hr : OwnSp Z5 Z.heap.size h n c r) (hn : 1 ≤ n) :
    SwI w0 G b9 hv cv n blk row (Y.set j r) (ds.set j (.slice (some ⟨h, 0, none⟩) n c)) (Z5.setCell ⟨G, j, none⟩ (.slice (some ⟨h, 0, none⟩) n c)) := by
  have h5 := hs.below hb
  have hG := hs.kn.own.lt
  have hvl := hs.row.lt
  have hne : r ≠ [] := fun e => by have := hr.2; rw [e] at this; simp at this; omega
  have hlt := hr.lt
  have hk := h5.kn.put (j := j) (c := c) hne hr.rd hlt.2 (by omega)
  rw [hr.2] at hk
  exact ⟨hk, h5.box.far h5.bG _, h5.row.far (by show hv ≠ G; omega) _, h5.free.set (by omega), h5.bel.setCell (Nat.le_refl _) _, h5.bG, h5.bv⟩

theorem SwI.poke0 {w0 Z : World} {G b9 hv cv n i : Nat} {blk : List Value} {row : List (Int × Int)} {x : Int × Int} {Y : List (List (Int × Int))} {ds : List Value} (hs : SwI w0 G b9 hv cv n blk row Y ds Z) (hx : row[i]? = some x) (u : Int) :
    SwI w0 G b9 hv cv n blk (row.set i (u, x.2)) Y ds (Z.setCell ⟨hv, i * 2, none⟩ (.int .i64 u)) := by
  have hvl := hs.row.lt
  exact ⟨hs.kn.poke hs.free (by show G ≠ hv; omega) _, hs.box.far hs.bv _, hs.row.put0 hx u, hs.free, hs.bel.setCell (by show G ≤ hv; omega) _, hs.bG, hs.bv⟩

theorem SwI.poke {w0 Z : World} {G b9 hv cv n i : Nat} {blk : List Value} {row : List (Int × Int)} {Y : List (List (Int × Int))} {ds : List Value} (hs : SwI w0 G b9 hv cv n blk row Y ds Z) (hi : i < row.length) (x : Int × Int) :
    SwI w0 G b9 hv cv n blk (row.set i x) Y ds ((Z.setCell ⟨hv, i * 2, none⟩ (.int .i64 x.1)).setCell ⟨hv, i * 2 + 1, none⟩ (.int .i64 x.2)) := by
  have hvl := hs.row.lt
  exact ⟨(hs.kn.poke (p := ⟨hv, i * 2, none⟩) hs.free (by show G ≠ hv; omega) _).poke hs.free (by show G ≠ hv; omega) _, (hs.box.far (p := ⟨hv, i * 2, none⟩) hs.bv _).far hs.bv _, hs.row.put hi x, hs.free, (hs.bel.setCell (by show G ≤ hv; omega) _).setCell (by show G ≤ hv; omega) _, hs.bG, hs.bv⟩

end Go.Proofs.Ytidjnmigbhaekaa
