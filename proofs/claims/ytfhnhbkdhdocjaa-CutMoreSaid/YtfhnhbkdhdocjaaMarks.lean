/-
  Marks: slices of bools, slices of them: read; rows of the call's own, written in place.
-/
import Derived.Test.YtfhnhbkdhdocjaaMBase
namespace Go.Proofs.Ytfhnhbkdhdocjaa
open Go.RowKit
set_option linter.unusedSimpArgs false
set_option linter.unusedVariables false
set_option maxRecDepth 100000

/-- bools as cells -/
def bc (xs : List Bool) (j : Nat) : Value := .bool (xs.getD j false)

/-- a slice of bools -/
def RdBo (w : World) (B : Nat) (A : Option Addr) (xs : List Bool) : Prop := Rd w B A xs.length (bc xs)

theorem RdBo.below {w w' : World} {B B' : Nat} {A : Option Addr} {xs : List Bool} (h : RdBo w B A xs) (hb : Below B' w w') (hB : B ≤ B') : RdBo w' B A xs := Rd.below h hb hB

theorem RdBo.more {w : World} {B B' : Nat} {A : Option Addr} {xs : List Bool} (h : RdBo w B A xs) (hB : B ≤ B') : RdBo w B' A xs := Rd.more h hB

theorem RdBo.at_ {w : World} {B : Nat} {A : Option Addr} {xs : List Bool} {k : Nat} (h : RdBo w B A xs) (hk : k < xs.length) :
    ∃ (ad : Addr) (x : Bool), A = some ad ∧ (ad.add k).block < B ∧ xs[k]? = some x ∧ w.cell? (ad.add k) = some (.bool x) := by
  obtain ⟨ad, e, hb, hc⟩ := h (by omega)
  refine ⟨ad, xs[k], e, by rw [addr_add_block]; exact hb, List.getElem?_eq_getElem hk, ?_⟩
  rw [hc k hk]
  simp [bc, hk]

theorem OwnB.rd {w : World} {g : Nat} {t : TypeId} {xs : List Bool} (h : Own w g t (bv xs)) : RdBo w (g + 1) (some ⟨g, 0, none⟩) xs := fun _ =>
  ⟨⟨g, 0, none⟩, rfl, Nat.lt_succ_self _, fun j hj => by
    have hc := h.cell (j := j) (bv_at (List.getElem?_eq_getElem hj))
    have ha : (⟨g, 0, none⟩ : Addr).add j = ⟨g, j, none⟩ := by unfold Addr.add; split <;> simp_all
    rw [ha, hc]
    simp [bc, hj]⟩

/-- a slice of slices of bools -/
def RdM2 (w : World) (B : Nat) (A : Option Addr) (ms : List (List Bool)) : Prop :=
  0 < ms.length → ∃ ad : Addr, A = some ad ∧ ad.block < B ∧ ∀ r row, ms[r]? = some row → ∃ Ar cr, w.cell? (ad.add r) = some (.slice Ar row.length cr) ∧ RdBo w B Ar row

theorem RdM2.below {w w' : World} {B B' : Nat} {A : Option Addr} {ms : List (List Bool)} (h : RdM2 w B A ms) (hb : Below B' w w') (hB : B ≤ B') : RdM2 w' B A ms := fun hm => by
  obtain ⟨ad, e, h1, h2⟩ := h hm
  refine ⟨ad, e, h1, fun r row hr => ?_⟩
  obtain ⟨Ar, cr, h3, h4⟩ := h2 r row hr
  exact ⟨Ar, cr, (hb.cell (by rw [addr_add_block]; omega)).trans h3, h4.below hb hB⟩

theorem RdM2.more {w : World} {B B' : Nat} {A : Option Addr} {ms : List (List Bool)} (h : RdM2 w B A ms) (hB : B ≤ B') : RdM2 w B' A ms := fun hm => by
  obtain ⟨ad, e, h1, h2⟩ := h hm
  refine ⟨ad, e, by omega, fun r row hr => ?_⟩
  obtain ⟨Ar, cr, h3, h4⟩ := h2 r row hr
  exact ⟨Ar, cr, h3, h4.more hB⟩

theorem RdM2.at_ {w : World} {B : Nat} {A : Option Addr} {ms : List (List Bool)} {k : Nat} (h : RdM2 w B A ms) (hk : k < ms.length) :
    ∃ (ad : Addr) (row : List Bool) (Ar : Option Addr) (cr : Nat), A = some ad ∧ (ad.add k).block < B ∧ ms[k]? = some row ∧ w.cell? (ad.add k) = some (.slice Ar row.length cr) ∧ RdBo w B Ar row := by
  obtain ⟨ad, e, h1, h2⟩ := h (by omega)
  have hr := List.getElem?_eq_getElem hk
  obtain ⟨Ar, cr, h3, h4⟩ := h2 k _ hr
  exact ⟨ad, _, Ar, cr, e, by rw [addr_add_block]; exact h1, hr, h3, h4⟩

/-! ### Rows of the call's own -/

/-- the rows as values, by their blocks -/
def mkV (ms : List (List Bool)) (bs : List Nat) : List Value := (ms.zip bs).map fun x => .slice (some ⟨x.2, 0, none⟩) x.1.length x.1.length

theorem mkV_at {ms : List (List Bool)} {bs : List Nat} {i h : Nat} {row : List Bool} (h1 : ms[i]? = some row) (h2 : bs[i]? = some h) : (mkV ms bs)[i]? = some (.slice (some ⟨h, 0, none⟩) row.length row.length) := by
  unfold mkV
  rw [List.getElem?_map]
  have : (ms.zip bs)[i]? = some (row, h) := by rw [List.getElem?_zip_eq_some]; exact ⟨h1, h2⟩
  rw [this]
  rfl

/-- marks in blocks of the call's own, a block a row, all apart -/
structure MkO (base : Nat) (A : Option Addr) (c : Nat) (ms : List (List Bool)) (bs : List Nat) (w : World) : Prop where
  len : bs.length = ms.length
  arr : w.ownsRow base 76 1 (.slice A ms.length c) ms.length (mkV ms bs)
  row : ∀ (i h : Nat) (r : List Bool), bs[i]? = some h → ms[i]? = some r → Own w h 4 (bv r) ∧ base ≤ h ∧ (Value.slice A ms.length c).ownBlock ≠ some h
  nd : bs.Nodup

theorem MkO.nil (base : Nat) (w : World) : MkO base none 0 [] [] w := ⟨rfl, World.ownsRow_nil _ _ _ _, fun i h r hi => by simp at hi, List.nodup_nil⟩

theorem MkO.below {base c : Nat} {A : Option Addr} {ms : List (List Bool)} {bs : List Nat} {w w' : World} (h : MkO base A c ms bs w) (hb : Below w.heap.size w w') : MkO base A c ms bs w' :=
  ⟨h.len, own_below h.arr hb, fun i b r h1 h2 => by
    obtain ⟨h3, h4, h5⟩ := h.row i b r h1 h2
    exact ⟨h3.below hb h3.lt, h4, h5⟩, h.nd⟩

theorem MkO.rd {base c : Nat} {A : Option Addr} {ms : List (List Bool)} {bs : List Nat} {w : World} (h : MkO base A c ms bs w) : RdM2 w w.heap.size A ms := fun hm => by
  obtain ⟨ad, e, hb, hc⟩ := own_rd h.arr (by omega)
  refine ⟨ad, e, hb, fun r row hr => ?_⟩
  have hrl := (List.getElem?_eq_some_iff.1 hr).1
  obtain ⟨b, hbs⟩ : ∃ b, bs[r]? = some b := ⟨_, List.getElem?_eq_getElem (by rw [h.len]; exact hrl)⟩
  obtain ⟨h3, _, _⟩ := h.row r b row hbs hr
  refine ⟨some ⟨b, 0, none⟩, row.length, ?_, (OwnB.rd h3).more h3.lt⟩
  rw [hc r (by omega)]
  show some ((mkV ms bs).getD r undef) = _
  rw [List.getD_eq_getElem?_getD, mkV_at hr hbs]
  rfl

/-- one mark set -/
theorem MkO.set {base c i b k : Nat} {A : Option Addr} {ms : List (List Bool)} {bs : List Nat} {r : List Bool} {w : World} (h : MkO base A c ms bs w) (hb : bs[i]? = some b) (hr : ms[i]? = some r) (v : Bool) :
    MkO base A c (ms.set i (r.set k v)) bs (w.setCell ⟨b, k, none⟩ (.bool v)) := by
  obtain ⟨h3, h4, h5⟩ := h.row i b r hb hr
  have hil := (List.getElem?_eq_some_iff.1 hr).1
  have hmv : mkV (ms.set i (r.set k v)) bs = mkV ms bs := by
    apply List.ext_getElem?
    intro j
    unfold mkV
    rw [List.getElem?_map, List.getElem?_map]
    by_cases e : i = j
    · subst e
      have e1 : ((ms.set i (r.set k v)).zip bs)[i]? = some (r.set k v, b) := by rw [List.getElem?_zip_eq_some]; exact ⟨List.getElem?_set_self hil, hb⟩
      have e2 : (ms.zip bs)[i]? = some (r, b) := by rw [List.getElem?_zip_eq_some]; exact ⟨hr, hb⟩
      rw [e1, e2]
      simp
    · have : ((ms.set i (r.set k v)).zip bs)[j]? = (ms.zip bs)[j]? := by
        unfold List.zip
        rw [List.getElem?_zipWith, List.getElem?_zipWith, List.getElem?_set_ne e]
      rw [this]
  refine ⟨by rw [List.length_set]; exact h.len, ?_, fun j b' r' h1 h2 => ?_, h.nd⟩
  · rw [List.length_set, hmv]
    refine ⟨h.arr.1, ?_⟩
    rcases h.arr.2 with h' | ⟨g, cap, cur, hv, k2, k3, k4⟩
    · exact .inl h'
    · refine .inr ⟨g, cap, cur, hv, k2, (Below.heap_setCell w ⟨b, k, none⟩ _ g ?_).trans k3, k4⟩
      intro e
      rw [hv] at h5
      exact h5 (by rw [e]; rfl)
  · rw [List.length_set]
    by_cases e : i = j
    · subst e
      rw [hb] at h1
      injection h1 with h1
      subst h1
      rw [List.getElem?_set_self hil] at h2
      injection h2 with h2
      subst h2
      exact ⟨OwnB.set h3 k v, h4, h5⟩
    · rw [List.getElem?_set_ne e] at h2
      obtain ⟨q1, q2, q3⟩ := h.row j b' r' h1 h2
      refine ⟨q1.far (p := ⟨b, k, none⟩) (fun e2 => ?_) _, q2, q3⟩
      have e3 : b' = b := e2
      subst e3
      exact e ((List.getElem?_inj (List.getElem?_eq_some_iff.1 hb).1 h.nd).1 (by rw [hb, h1]))

theorem mkV_append {ms : List (List Bool)} {bs : List Nat} (h : bs.length = ms.length) (r : List Bool) (g : Nat) : mkV (ms ++ [r]) (bs ++ [g]) = mkV ms bs ++ [.slice (some ⟨g, 0, none⟩) r.length r.length] := by
  unfold mkV
  rw [List.zip_append h.symm, List.map_append]
  rfl

/-- one row appended -/
theorem MkO.add {base c c' g : Nat} {A A' : Option Addr} {ms : List (List Bool)} {bs : List Nat} {r : List Bool} {X Y Z : World} (h : MkO base A c ms bs X) (hb : Below X.heap.size X Y) (ho : Own Y g 4 (bv r)) (hgX : X.heap.size ≤ g) (hbase : base ≤ X.heap.size)
    (hown : Z.ownsRow base 76 1 (.slice A' (ms.length + 1) c') (ms.length + 1) (mkV ms bs ++ [.slice (some ⟨g, 0, none⟩) r.length r.length])) (hg : Y.grownBy Z (Value.slice A ms.length c).ownBlock)
    (hbl : (Value.slice A' (ms.length + 1) c').ownBlock = (Value.slice A ms.length c).ownBlock ∨ (Value.slice A' (ms.length + 1) c').ownBlock = some Y.heap.size) : MkO base A' c' (ms ++ [r]) (bs ++ [g]) Z := by
  have hab : ∀ k, (Value.slice A ms.length c).ownBlock = some k → k < X.heap.size := fun k hk => (h.arr.lt k hk).2
  have hlt : ∀ i b, bs[i]? = some b → b < X.heap.size := fun i b hi => by
    have hil := (List.getElem?_eq_some_iff.1 hi).1
    rw [h.len] at hil
    exact (h.row i b _ hi (List.getElem?_eq_getElem hil)).1.lt
  have hl : (ms ++ [r]).length = ms.length + 1 := by simp
  have hbs := hb.size
  have hgl := ho.lt
  refine ⟨by simp [h.len], by rw [hl, mkV_append h.len]; exact hown, fun i b r' h1 h2 => ?_, ?_⟩
  · rw [hl]
    by_cases hi : i < ms.length
    · rw [List.getElem?_append_left (by rw [h.len]; exact hi)] at h1
      rw [List.getElem?_append_left hi] at h2
      obtain ⟨q1, q2, q3⟩ := h.row i b r' h1 h2
      have hbX := q1.lt
      refine ⟨(hg.block b (by omega) fun e => q3 e.symm).trans (q1.below hb hbX), q2, ?_⟩
      rcases hbl with e | e
      · rw [e]; exact q3
      · rw [e]; intro e2; injection e2 with e2; omega
    · have hi2 := (List.getElem?_eq_some_iff.1 h2).1
      rw [hl] at hi2
      have hi3 : i = ms.length := by omega
      subst hi3
      simp at h2
      subst h2
      rw [List.getElem?_append_right (by rw [h.len]; exact Nat.le_refl _), h.len] at h1
      simp at h1
      subst h1
      refine ⟨(hg.block g hgl fun e => by have := hab g e.symm; omega).trans ho, by omega, ?_⟩
      rcases hbl with e | e
      · rw [e]; intro e2; have := hab g e2; omega
      · rw [e]; intro e2; injection e2 with e2; omega
  · rw [List.nodup_append]
    refine ⟨h.nd, by simp, fun a ha b hb2 e => ?_⟩
    simp at hb2
    subst hb2 e
    obtain ⟨i, hi, he⟩ := List.getElem_of_mem ha
    have := hlt i a (by rw [List.getElem?_eq_getElem hi, he])
    omega

/-- a row where it lies -/
theorem MkO.at_ {base c i : Nat} {A : Option Addr} {ms : List (List Bool)} {bs : List Nat} {r : List Bool} {w : World} (h : MkO base A c ms bs w) (hr : ms[i]? = some r) : ∃ (ad : Addr) (b : Nat), A = some ad ∧ bs[i]? = some b ∧ (ad.add i).block < w.heap.size ∧ w.cell? (ad.add i) = some (.slice (some ⟨b, 0, none⟩) r.length r.length) ∧ Own w b 4 (bv r) ∧ base ≤ b := by
  have hil := (List.getElem?_eq_some_iff.1 hr).1
  obtain ⟨ad, e, hb, hc⟩ := own_rd h.arr (by omega)
  obtain ⟨b, hbs⟩ : ∃ b, bs[i]? = some b := ⟨_, List.getElem?_eq_getElem (by rw [h.len]; exact hil)⟩
  obtain ⟨h3, h4, _⟩ := h.row i b r hbs hr
  refine ⟨ad, b, e, hbs, by rw [addr_add_block]; exact hb, ?_, h3, h4⟩
  rw [hc i (by omega)]
  show some ((mkV ms bs).getD i undef) = _
  rw [List.getD_eq_getElem?_getD, mkV_at hr hbs]
  rfl

/-- how many cells of blocks are false, out of the world -/
def isF : Value → Bool
  | .bool b => !b
  | _ => false

def offB (w : World) (b : Nat) : Nat := match w.heap[b]? with
  | some (.cells cs _ _) => cs.toList.countP isF
  | _ => 0

def offW (bs : List Nat) (w : World) : Nat := (bs.map (offB w)).sum

theorem countP_bv (r : List Bool) : (bv r).countP isF = r.countP (fun b => !b) := by
  unfold bv
  rw [List.countP_map]
  rfl

theorem MkO.off {base c : Nat} {A : Option Addr} {ms : List (List Bool)} {bs : List Nat} {w : World} (h : MkO base A c ms bs w) : offW bs w = (ms.map fun r => r.countP (fun b => !b)).sum := by
  unfold offW
  congr 1
  apply List.ext_getElem?
  intro i
  rw [List.getElem?_map, List.getElem?_map]
  by_cases hi : i < ms.length
  · have hr := List.getElem?_eq_getElem hi
    have hib : i < bs.length := by rw [h.len]; exact hi
    have hb := List.getElem?_eq_getElem hib
    rw [hr, hb]
    have h3 := (h.row i _ _ hb hr).1
    simp only [Option.map_some]
    congr 1
    unfold offB
    rw [show w.heap[bs[i]]? = _ from h3]
    simp only [List.toList_toArray]
    exact countP_bv _
  · rw [List.getElem?_eq_none (show ms.length ≤ i by omega), List.getElem?_eq_none (show bs.length ≤ i by rw [h.len]; omega)]
    rfl

end Go.Proofs.Ytfhnhbkdhdocjaa
