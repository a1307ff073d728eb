/-
  Rows of spans, each of the call's own and apart: put, made wider in place, beside edges that are still to be looked at (R2).
-/
import Derived.Test.YtidjnmigbhaekaaSpanEdg
import Derived.Test.YtidjnmigbhaekaaSpanExt
import Derived.Test.YtidjnmigbhaekaaSpanIs
namespace Go.Proofs.Ytidjnmigbhaekaa
open Go.RowKit
set_option linter.unusedSimpArgs false
set_option linter.unusedVariables false
set_option maxRecDepth 100000

/-- rows that are made: each in a block of its own behind G, apart from each other -/
structure KNW (w : World) (G n : Nat) (Y : List (List (Int × Int))) (cs : List Value) : Prop where
  len : cs.length = Y.length
  own : Own w G 31 cs
  rows : ∀ (i : Nat) (a : List (Int × Int)), Y[i]? = some a → (a = [] ∧ cs[i]? = some (.slice none 0 0)) ∨ (a ≠ [] ∧ ∃ h c, cs[i]? = some (.slice (some ⟨h, 0, none⟩) n c) ∧ OwnSp w (G + 1) h n c a)
  apart : ∀ (i j h n1 c1 n2 c2 : Nat), i ≠ j → cs[i]? = some (.slice (some ⟨h, 0, none⟩) n1 c1) → cs[j]? ≠ some (.slice (some ⟨h, 0, none⟩) n2 c2)

theorem sl_inj {h h' n c n' c' : Nat} (e : some (Value.slice (some ⟨h, 0, none⟩) n c) = some (Value.slice (some ⟨h', 0, none⟩) n' c')) : h = h' ∧ n = n' ∧ c = c' := by
  injection e with e
  injection e with e1 e2 e3
  injection e1 with e1
  injection e1 with e1 _ _
  exact ⟨e1, e2, e3⟩

theorem KNW.below {w w' : World} {G n : Nat} {Y : List (List (Int × Int))} {cs : List Value} (h : KNW w G n Y cs) (hb : Below w.heap.size w w') : KNW w' G n Y cs := by
  refine ⟨h.len, h.own.below hb h.own.lt, fun i a ha => ?_, h.apart⟩
  rcases h.rows i a ha with h1 | ⟨h1, k, c, h3, h4⟩
  · exact .inl h1
  · exact .inr ⟨h1, k, c, h3, h4.below hb⟩

theorem KNW.free {w : World} {G n : Nat} {Y : List (List (Int × Int))} {cs : List Value} (h : KNW w G n Y cs) {b : Nat} (hb : w.heap.size ≤ b) : FreS cs b := fun i k n' c hc e => by
  have hil : i < Y.length := by rw [← h.len]; exact (List.getElem?_eq_some_iff.1 hc).1
  rcases h.rows i _ (List.getElem?_eq_getElem hil) with ⟨_, h2⟩ | ⟨_, k', c', h3, h4⟩
  · rw [hc] at h2; cases h2
  · rw [hc] at h3
    have := (sl_inj h3).1
    have := h4.lt
    omega

theorem KNW.start (w : World) (n m : Nat) : KNW (w.alloc (.cells (nils m).toArray 31)) w.heap.size n (List.replicate m []) (nils m) := by
  refine ⟨by simp [nils], Own.new w _ _, fun i a ha => ?_, fun i j h n1 c1 n2 c2 _ hc => ?_⟩
  · rw [List.getElem?_replicate] at ha
    split at ha
    · rename_i hi
      injection ha with ha
      exact .inl ⟨ha.symm, by unfold nils; rw [List.getElem?_replicate, if_pos hi]⟩
    · cases ha
  · unfold nils at hc
    rw [List.getElem?_replicate] at hc
    split at hc
    · injection hc with hc; cases hc
    · cases hc

theorem OwnSp.farW {w : World} {base h n c : Nat} {l : List (Int × Int)} {p : Addr} (ho : OwnSp w base h n c l) (hp : p.block < base) (u : Value) : OwnSp (w.setCell p u) base h n c l := ⟨own_farW ho.1 hp u, ho.2⟩

/-- a row that is new -/
theorem KNW.put {w : World} {G n j h c : Nat} {Y : List (List (Int × Int))} {cs : List Value} {a : List (Int × Int)} (hk : KNW w G n Y cs) (ha : a ≠ []) (ho : OwnSp w (G + 1) h n c a) (hfr : FreS cs h) :
    KNW (w.setCell ⟨G, j, none⟩ (.slice (some ⟨h, 0, none⟩) n c)) G n (Y.set j a) (cs.set j (.slice (some ⟨h, 0, none⟩) n c)) := by
  refine ⟨by simp [hk.len], hk.own.set j _, fun i b hbi => ?_, fun i k h' n1 c1 n2 c2 hne hc1 hc2 => ?_⟩
  · by_cases e : j = i
    · subst e
      have hjl : j < Y.length := by have := (List.getElem?_eq_some_iff.1 hbi).1; simpa using this
      rw [List.getElem?_set_self hjl] at hbi
      injection hbi with hbi
      subst hbi
      exact .inr ⟨ha, h, c, List.getElem?_set_self (by rw [hk.len]; exact hjl), ho.farW (by show G < G + 1; omega) _⟩
    · rw [List.getElem?_set_ne e] at hbi
      rcases hk.rows i b hbi with ⟨h1, h2⟩ | ⟨h1, k', c', h3, h4⟩
      · exact .inl ⟨h1, by rw [List.getElem?_set_ne e]; exact h2⟩
      · exact .inr ⟨h1, k', c', by rw [List.getElem?_set_ne e]; exact h3, h4.farW (by show G < G + 1; omega) _⟩
  · by_cases e1 : j = i
    · subst e1
      have hjl := (List.getElem?_eq_some_iff.1 hc1).1
      rw [List.length_set] at hjl
      rw [List.getElem?_set_self hjl] at hc1
      have := (sl_inj hc1).1
      subst this
      rw [List.getElem?_set_ne hne] at hc2
      exact hfr k h n2 c2 hc2 rfl
    · rw [List.getElem?_set_ne e1] at hc1
      by_cases e2 : j = k
      · subst e2
        have hjl := (List.getElem?_eq_some_iff.1 hc2).1
        rw [List.length_set] at hjl
        rw [List.getElem?_set_self hjl] at hc2
        have := (sl_inj hc2).1
        subst this
        exact hfr i h n1 c1 hc1 rfl
      · rw [List.getElem?_set_ne e2] at hc2
        exact hk.apart i k h' n1 c1 n2 c2 hne hc1 hc2

theorem OwnSp.wrote {g : Nat} {w w' : World} {base h n c : Nat} {l : List (Int × Int)} (ho : OwnSp w base h n c l) (hw : Wrote g w w') (hne : h ≠ g) : OwnSp w' base h n c l := by
  refine ⟨⟨ho.1.1, ?_⟩, ho.2⟩
  rcases ho.1.2 with h' | ⟨k, cap, cur, h1, h2, h3, h4⟩
  · exact .inl h'
  · have hk : h = k := by
      injection h1 with h1 _ _
      injection h1 with h1
      injection h1 with h1 _ _
    exact .inr ⟨k, cap, cur, h1, h2, (hw.block k (Array.getElem?_eq_some_iff.1 h3).1 (by omega)).trans h3, h4⟩

theorem own_wroteE {g : Nat} {w w' : World} {base : Nat} {e : TypeId} {size : Nat} {v : Value} {n : Nat} {xs : List Value} (h : w.ownsRow base e size v n xs) (hw : Wrote g w w') (hne : v.ownBlock ≠ some g) : w'.ownsRow base e size v n xs := by
  refine ⟨h.1, ?_⟩
  rcases h.2 with h' | ⟨k, cap, cur, h1, h2, h3, h4⟩
  · exact .inl h'
  · refine .inr ⟨k, cap, cur, h1, h2, (hw.block k (Array.getElem?_eq_some_iff.1 h3).1 (fun e2 => hne ?_)).trans h3, h4⟩
    subst e2
    rw [h1]
    rfl

/-- a row made wider in place -/
theorem KNW.joined {w w' : World} {G n j h c : Nat} {Y : List (List (Int × Int))} {cs : List Value} {a' : List (Int × Int)} (hk : KNW w G n Y cs) (hw : Wrote h w w') (hj : j < Y.length) (hc : cs[j]? = some (.slice (some ⟨h, 0, none⟩) n c)) (ho : OwnSp w' (G + 1) h n c a') (ha : a' ≠ []) : KNW w' G n (Y.set j a') cs := by
  have hlt := ho.lt
  refine ⟨by simp [hk.len], (hw.block G hk.own.lt (by omega)).trans hk.own, fun i b hb => ?_, hk.apart⟩
  by_cases e : j = i
  · subst e
    rw [List.getElem?_set_self hj] at hb
    injection hb with hb
    subst hb
    exact .inr ⟨ha, h, c, hc, ho⟩
  · rw [List.getElem?_set_ne e] at hb
    rcases hk.rows i b hb with h1 | ⟨h1, k', c', h3, h4⟩
    · exact .inl h1
    · refine .inr ⟨h1, k', c', h3, h4.wrote hw ?_⟩
      intro e2
      subst e2
      exact hk.apart j i k' n c n c' e hc h3

theorem KNW.kns {w : World} {G n : Nat} {Y : List (List (Int × Int))} {cs : List Value} (h : KNW w G n Y cs) : KNS w G Y cs := by
  refine ⟨h.len, h.own, fun i a ha => ?_⟩
  rcases h.rows i a ha with h1 | ⟨h1, k, c, h3, h4⟩
  · exact .inl h1
  · have := h4.lt
    exact .inr ⟨h1, k, c, by rw [h4.2]; exact h3, by omega, h4.lt.2, h4.rd⟩

theorem KNS.rdg {w : World} {G : Nat} {Y : List (List (Int × Int))} {cs : List Value} (h : KNS w G Y cs) : RdGS w w.heap.size (some ⟨G, 0, none⟩) Y := fun hm => by
  refine ⟨_, rfl, h.own.lt, fun r row hr => ?_⟩
  rcases h.rows r row hr with ⟨rfl, h2⟩ | ⟨_, k, c, h2, _, _, h3⟩
  · exact ⟨none, 0, by rw [addr_zeroS]; exact h.own.cell h2, fun h => by simp at h⟩
  · exact ⟨_, c, by rw [addr_zeroS]; exact h.own.cell h2, h3⟩

/-- rows, and edges of which m have been looked at -/
structure SpE (w : World) (G n B : Nat) (A : Option Addr) (c : Nat) (es : List Ed) (m : Nat) (Y : List (List (Int × Int))) (ds : List Value) (Z : World) : Prop where
  kn : KNW Z G n Y ds
  arr : Z.ownsRow B 71 2 (.slice A es.length c) es.length (rv (cEd n) es)
  rows : ∀ (i : Nat) (e : Ed), m ≤ i → es[i]? = some e → OwnSp Z B e.h n e.c e.r ∧ FreS ds e.h
  frA : ∀ g, (Value.slice A es.length c).ownBlock = some g → FreS ds g
  off : ∀ (i : Nat) (e : Ed), es[i]? = some e → (Value.slice A es.length c).ownBlock ≠ some e.h
  apart : ∀ (i j : Nat) (e f : Ed), i ≠ j → es[i]? = some e → es[j]? = some f → e.h ≠ f.h
  bel : Below G w Z
  GB : G < B

theorem SpE.start {w Z Z6 : World} {G n B c : Nat} {A : Option Addr} {es : List Ed} {Y : List (List (Int × Int))} {ds : List Value} (hk : KNW Z G n Y ds) (hb : Below Z.heap.size Z Z6) (he : EdL B n A c es Z6) (hB : Z.heap.size ≤ B) (hw : Below G w Z) : SpE w G n B A c es 0 Y ds Z6 := by
  have hG := hk.own.lt
  exact ⟨hk.below hb, he.arr, fun i e _ h => ⟨(he.rows i e h).1, hk.free (by have := (he.rows i e h).1.lt; omega)⟩, fun g hg => hk.free (by have := (he.arr.lt g hg).1; omega), fun i e h => (he.rows i e h).2, he.apart, hw.trans (hb.mono (by omega)), by omega⟩

theorem SpE.below {w Z Z' : World} {G n B c m : Nat} {A : Option Addr} {es : List Ed} {Y : List (List (Int × Int))} {ds : List Value} (h : SpE w G n B A c es m Y ds Z) (hb : Below Z.heap.size Z Z') : SpE w G n B A c es m Y ds Z' :=
  ⟨h.kn.below hb, own_below h.arr hb, fun i e hi he => ⟨(h.rows i e hi he).1.below hb, (h.rows i e hi he).2⟩, h.frA, h.off, h.apart, h.bel.trans (hb.mono (by have := h.kn.own.lt; omega)), h.GB⟩

theorem SpE.take {w Z : World} {G n B c m : Nat} {A : Option Addr} {es : List Ed} {Y : List (List (Int × Int))} {ds : List Value} {e : Ed} (h : SpE w G n B A c es m Y ds Z) (he : es[m]? = some e) (hn : 0 < n) : SpE w G n B A c es (m + 1) (Y.set e.to e.r) (ds.set e.to (.slice (some ⟨e.h, 0, none⟩) n e.c)) (Z.setCell ⟨G, e.to, none⟩ (.slice (some ⟨e.h, 0, none⟩) n e.c)) := by
  obtain ⟨h1, h2⟩ := h.rows m e (Nat.le_refl _) he
  have hGB := h.GB
  refine ⟨h.kn.put (fun e2 => by have := h1.2; rw [e2] at this; simp at this; omega) (h1.mono (by omega)) h2, own_farW h.arr (by show G < B; omega) _, fun i f hi hf => ⟨((h.rows i f (by omega) hf).1).farW (by show G < B; omega) _, ((h.rows i f (by omega) hf).2).set (h.apart m i e f (by omega) he hf)⟩, fun g hg => (h.frA g hg).set fun e2 => h.off m e he (by rw [hg, e2]), h.off, h.apart, h.bel.setCell (Nat.le_refl _) _, hGB⟩

theorem SpE.wide {w Z Z' : World} {G n B c m j h4 c4 : Nat} {A : Option Addr} {es : List Ed} {Y : List (List (Int × Int))} {ds : List Value} {r' : List (Int × Int)} (h : SpE w G n B A c es m Y ds Z) (hw : Wrote h4 Z Z') (hj : j < Y.length) (hc : ds[j]? = some (.slice (some ⟨h4, 0, none⟩) n c4)) (ho : OwnSp Z' (G + 1) h4 n c4 r') (hr : r' ≠ []) : SpE w G n B A c es (m + 1) (Y.set j r') ds Z' := by
  have hG := h.kn.own.lt
  have h4l := ho.lt
  refine ⟨h.kn.joined hw hj hc ho hr, own_wroteE h.arr hw (fun e => h.frA h4 e j h4 n c4 hc rfl), fun i f hi hf => ⟨(h.rows i f (by omega) hf).1.wrote hw (fun e => (h.rows i f (by omega) hf).2 j h4 n c4 hc e.symm), (h.rows i f (by omega) hf).2⟩, h.frA, h.off, h.apart, h.bel.trans (hw.below (by omega) (by omega)), h.GB⟩

end Go.Proofs.Ytidjnmigbhaekaa
