/-
  Plain words for walks: a slice that reads as given cells, nil included; small closers.
-/
import Derived.Test.YthgilekhohadoaaRows
import Derived.WalkKit
import Derived.WalkSpells
import Derived.WalkLawsBesides
import Derived.Lib.Hide
import Derived.Test.YthgilekhohadoaaPureTerm
import Derived.Handy
import Derived.Deep.Light
import Derived.Deep.Draws
import Derived.StillTailTactics
namespace Go.Proofs.Ythgilekhohadoaa
open Go.RowKit
set_option linter.unusedSimpArgs false
set_option linter.unusedVariables false
set_option maxRecDepth 100000

theorem ret_int {k : IntKind} {a b : Int} (h : a = b) : Ending.returned (.int k a) = .returned (.int k b) := by rw [h]

theorem ret_bool {a b : Bool} (h : a = b) : Ending.returned (.bool a) = .returned (.bool b) := by rw [h]

theorem ret_ii {k l : IntKind} {a b c d : Int} (h : a = b) (h' : c = d) : Ending.returned (.tuple #[.int k a, .int l c]) = .returned (.tuple #[.int k b, .int l d]) := by rw [h, h']

theorem addr_add_block (a : Addr) (n : Nat) : (a.add n).block = a.block := by unfold Addr.add; split <;> rfl

theorem addr_add_add (a : Addr) (i j : Nat) : (a.add i).add j = a.add (i + j) := by
  unfold Addr.add
  rcases Nat.eq_zero_or_pos i with hi | hi <;> rcases Nat.eq_zero_or_pos j with hj | hj <;> simp [hi, hj, Nat.add_assoc, Nat.ne_of_gt, Nat.add_eq_zero_iff]

/-- cells 0 .. m-1 from the slice's head on are f, below block B; nothing is asked of an empty slice -/
def Rd (w : World) (B : Nat) (A : Option Addr) (m : Nat) (f : Nat → Value) : Prop :=
  0 < m → ∃ ad : Addr, A = some ad ∧ ad.block < B ∧ ∀ j, j < m → w.cell? (ad.add j) = some (f j)

section
variable {w w' : World} {B m : Nat} {A : Option Addr} {f : Nat → Value}
theorem Rd.keep (h : Rd w B A m f) (hk : ∀ p : Addr, p.block < B → w'.cell? p = w.cell? p) : Rd w' B A m f := fun hm => by
  obtain ⟨ad, e, hb, hc⟩ := h hm
  exact ⟨ad, e, hb, fun j hj => (hk _ (by rw [addr_add_block]; exact hb)).trans (hc j hj)⟩

theorem Rd.below {B' : Nat} (h : Rd w B A m f) (hb : Below B' w w') (hB : B ≤ B') : Rd w' B A m f := h.keep fun _ hp => hb.cell (by omega)

theorem Rd.more {B' : Nat} (h : Rd w B A m f) (hB : B ≤ B') : Rd w B' A m f := fun hm => by
  obtain ⟨ad, e, hb, hc⟩ := h hm
  exact ⟨ad, e, by omega, hc⟩

theorem Rd.congr {g : Nat → Value} (h : Rd w B A m f) (hg : ∀ j, j < m → f j = g j) : Rd w B A m g := fun hm => by
  obtain ⟨ad, e, hb, hc⟩ := h hm
  exact ⟨ad, e, hb, fun j hj => by rw [← hg j hj]; exact hc j hj⟩
end

/-- integers as cells -/
def ic (xs : List Int) (j : Nat) : Value := .int .i64 (xs.getD j 0)

/-- terms as cells, four a term -/
def tc (l : List Tm) (j : Nat) : Value :=
  let t := l.getD (j / 4) tz
  .int .i64 (if j % 4 = 0 then t.op else if j % 4 = 1 then t.a else if j % 4 = 2 then t.b else t.v)

/-- a slice of ints: its head, its length -/
def RdI (w : World) (B : Nat) (A : Option Addr) (xs : List Int) : Prop := Rd w B A xs.length (ic xs)

/-- a slice of terms -/
def RdT (w : World) (B : Nat) (A : Option Addr) (l : List Tm) : Prop := Rd w B A (l.length * 4) (tc l)

theorem RdI.below {w w' : World} {B B' : Nat} {A : Option Addr} {xs : List Int} (h : RdI w B A xs) (hb : Below B' w w') (hB : B ≤ B') : RdI w' B A xs := Rd.below h hb hB

theorem RdT.below {w w' : World} {B B' : Nat} {A : Option Addr} {l : List Tm} (h : RdT w B A l) (hb : Below B' w w') (hB : B ≤ B') : RdT w' B A l := Rd.below h hb hB

theorem RdI.more {w : World} {B B' : Nat} {A : Option Addr} {xs : List Int} (h : RdI w B A xs) (hB : B ≤ B') : RdI w B' A xs := Rd.more h hB

theorem RdT.more {w : World} {B B' : Nat} {A : Option Addr} {l : List Tm} (h : RdT w B A l) (hB : B ≤ B') : RdT w B' A l := Rd.more h hB

theorem RdI.at_ {w : World} {B : Nat} {A : Option Addr} {xs : List Int} {k : Nat} (h : RdI w B A xs) (hk : k < xs.length) :
    ∃ (ad : Addr) (x : Int), A = some ad ∧ (ad.add k).block < B ∧ xs[k]? = some x ∧ w.cell? (ad.add k) = some (.int .i64 x) := by
  obtain ⟨ad, e, hb, hc⟩ := h (by omega)
  refine ⟨ad, xs[k], e, by rw [addr_add_block]; exact hb, List.getElem?_eq_getElem hk, ?_⟩
  rw [hc k hk]
  simp [ic, hk]

theorem RdT.at_ {w : World} {B : Nat} {A : Option Addr} {l : List Tm} {k : Nat} (h : RdT w B A l) (hk : k < l.length) :
    ∃ (ad : Addr) (o a b v : Int), A = some ad ∧ (ad.add (k * 4)).block < B ∧ l[k]? = some ⟨o, a, b, v⟩ ∧ w.cell? (ad.add (k * 4)) = some (.int .i64 o) ∧
      w.cell? ⟨(ad.add (k * 4)).block, (ad.add (k * 4)).off + 1, none⟩ = some (.int .i64 a) ∧ w.cell? ⟨(ad.add (k * 4)).block, (ad.add (k * 4)).off + 2, none⟩ = some (.int .i64 b) ∧ w.cell? ⟨(ad.add (k * 4)).block, (ad.add (k * 4)).off + 3, none⟩ = some (.int .i64 v) := by
  obtain ⟨ad, e, hb, hc⟩ := h (by omega)
  have hg : l.getD k tz = l[k] := by simp [hk]
  have q0 : (k * 4) / 4 = k := by omega
  have q1 : (k * 4 + 1) / 4 = k := by omega
  have q2 : (k * 4 + 2) / 4 = k := by omega
  have q3 : (k * 4 + 3) / 4 = k := by omega
  have r0 : (k * 4) % 4 = 0 := by omega
  have r1 : (k * 4 + 1) % 4 = 1 := by omega
  have r2 : (k * 4 + 2) % 4 = 2 := by omega
  have r3 : (k * 4 + 3) % 4 = 3 := by omega
  refine ⟨ad, l[k].op, l[k].a, l[k].b, l[k].v, e, by rw [addr_add_block]; exact hb, List.getElem?_eq_getElem hk, ?_, ?_, ?_, ?_⟩
  · rw [hc _ (by omega)]; simp only [tc, q0, r0, hg]; rfl
  · show w.cell? ((ad.add (k * 4)).add 1) = _
    rw [addr_add_add, hc _ (by omega)]; simp only [tc, q1, r1, hg]; rfl
  · show w.cell? ((ad.add (k * 4)).add 2) = _
    rw [addr_add_add, hc _ (by omega)]; simp only [tc, q2, r2, hg]; rfl
  · show w.cell? ((ad.add (k * 4)).add 3) = _
    rw [addr_add_add, hc _ (by omega)]; simp only [tc, q3, r3, hg]; rfl

/-! ### A block of the call's own, known whole -/

def Own (w : World) (g : Nat) (t : TypeId) (cs : List Value) : Prop := w.heap[g]? = some (.cells cs.toArray t (0, 0))

section
variable {w w' : World} {g : Nat} {t : TypeId} {cs : List Value}
theorem Own.lt (h : Own w g t cs) : g < w.heap.size := by
  rcases Nat.lt_or_ge g w.heap.size with hl | hg
  · exact hl
  · unfold Own at h; rw [Array.getElem?_eq_none hg] at h; cases h

theorem Own.cell (h : Own w g t cs) {j : Nat} {v : Value} (hj : cs[j]? = some v) : w.cell? ⟨g, j, none⟩ = some v := by
  unfold Own at h
  simp [World.cell?, h, hj]

theorem Own.frozen (h : Own w g t cs) (j : Nat) : w.frozen? ⟨g, j, none⟩ = false := by
  unfold Own at h
  simp [World.frozen?, h]

theorem Own.new (w : World) (t : TypeId) (cs : List Value) : Own (w.alloc (.cells cs.toArray t)) w.heap.size t cs := heap_alloc_new w _

theorem Own.drew (h : Own w g t cs) : Own w.drew g t cs := h

theorem Own.alloc (h : Own w g t cs) (o : Obj) : Own (w.alloc o) g t cs := (Below.heap_alloc w o g h.lt).trans h

theorem Own.set (h : Own w g t cs) (i : Nat) (u : Value) : Own (w.setCell ⟨g, i, none⟩ u) g t (cs.set i u) := by
  unfold Own at h ⊢
  simp [World.setCell, Array.getElem?_modify, h]

theorem Own.far (h : Own w g t cs) {p : Addr} (hp : g ≠ p.block) (u : Value) : Own (w.setCell p u) g t cs := (Below.heap_setCell w p u g hp).trans h

theorem Own.below {B : Nat} (h : Own w g t cs) (hb : Below B w w') (hg : g < B) : Own w' g t cs := (hb.block g hg).trans h
end

/-- a region whose order is open, all of it but a forced tail only reading: one walk, in the text's order -/
theorem still_tail {P : Program} {id : Nat} {Q : Exit → Act → World → Prop} {a : Act} {w : World} {l : List Oper} (n : Nat) (hm : P.follows .mixedOrders = true) (hB : Region.lexTailB .any l.toArray n = true)
    (h : wpStill P l.toArray w.drew (fun a' => wpList P l.toArray Q (l.drop n) a' w.drew) (l.take n) a) : (Code.region id l.toArray true).wp P Q a w := wp_region_still_tail n hm hB h

/-- ints as values -/
def iv (xs : List Int) : List Value := xs.map (.int .i64)

theorem iv_at {xs : List Int} {j : Nat} {x : Int} (h : xs[j]? = some x) : (iv xs)[j]? = some (.int .i64 x) := by simp [iv, h]

theorem iv_set (xs : List Int) (i : Nat) (x : Int) : (iv xs).set i (.int .i64 x) = iv (xs.set i x) := by simp [iv, List.map_set]

theorem OwnI.set {w : World} {g : Nat} {t : TypeId} {xs : List Int} (h : Own w g t (iv xs)) (i : Nat) (x : Int) : Own (w.setCell ⟨g, i, none⟩ (.int .i64 x)) g t (iv (xs.set i x)) := by
  rw [← iv_set]; exact h.set i _

theorem OwnI.rd {w : World} {g : Nat} {t : TypeId} {xs : List Int} (h : Own w g t (iv xs)) : RdI w (g + 1) (some ⟨g, 0, none⟩) xs := fun _ =>
  ⟨⟨g, 0, none⟩, rfl, Nat.lt_succ_self _, fun j hj => by
    have hc := h.cell (j := j) (iv_at (List.getElem?_eq_getElem hj))
    have ha : (⟨g, 0, none⟩ : Addr).add j = ⟨g, j, none⟩ := by unfold Addr.add; split <;> simp_all
    rw [ha, hc]
    simp [ic, hj]⟩

theorem make_ints {P : Program} (t e : TypeId) (ht : P.underlying t = some (.slice e)) (hi : (P.info? e).map (fun i => (i.zero, i.size, i.bytes)) = some (some (.int .i64 0), 1, 8)) (n : Nat) (hn : n ≤ 65536) (w : World) :
    (Instr.makeSlice t (.int .i64 (n : Int)) (.int .i64 (n : Int))).run P w = .ok (.slice (some ⟨w.heap.size, 0, none⟩) n n) (w.alloc (.cells (iv (List.replicate n 0)).toArray e)) := by
  obtain ⟨i0, hi0, hz, hs, hb⟩ := info_parts hi
  have h := run_make (P := P) w t e i0 _ ht hi0 hz .i64 .i64 (n : Int) (n : Int) (by omega) (by omega) (by rw [hb]; omega) (by omega)
  simp only [Int.toNat_natCast, hs, Nat.mul_one] at h
  rw [h]
  have hm : madeCells (Value.int .i64 0).cells n = (iv (List.replicate n 0)).toArray := by
    apply Array.ext
    · simp [madeCells, iv]
    · intro j h1 h2
      simp [madeCells, iv, Value.cells, Nat.mod_one]
  rw [hm]

/-- bools as values -/
def bv (xs : List Bool) : List Value := xs.map .bool

theorem bv_at {xs : List Bool} {j : Nat} {x : Bool} (h : xs[j]? = some x) : (bv xs)[j]? = some (.bool x) := by simp [bv, h]

theorem OwnB.set {w : World} {g : Nat} {t : TypeId} {xs : List Bool} (h : Own w g t (bv xs)) (i : Nat) (x : Bool) : Own (w.setCell ⟨g, i, none⟩ (.bool x)) g t (bv (xs.set i x)) := by
  have := h.set i (.bool x)
  rwa [show (bv xs).set i (.bool x) = bv (xs.set i x) from by simp [bv, List.map_set]] at this

theorem make_bools {P : Program} (t e : TypeId) (ht : P.underlying t = some (.slice e)) (hi : (P.info? e).map (fun i => (i.zero, i.size, i.bytes)) = some (some (.bool false), 1, 1)) (n : Nat) (hn : n ≤ 65536) (w : World) :
    (Instr.makeSlice t (.int .i64 (n : Int)) (.int .i64 (n : Int))).run P w = .ok (.slice (some ⟨w.heap.size, 0, none⟩) n n) (w.alloc (.cells (bv (List.replicate n false)).toArray e)) := by
  obtain ⟨i0, hi0, hz, hs, hb⟩ := info_parts hi
  have h := run_make (P := P) w t e i0 _ ht hi0 hz .i64 .i64 (n : Int) (n : Int) (by omega) (by omega) (by rw [hb]; omega) (by omega)
  simp only [Int.toNat_natCast, hs, Nat.mul_one] at h
  rw [h]
  have hm : madeCells (Value.bool false).cells n = (bv (List.replicate n false)).toArray := by
    apply Array.ext
    · simp [madeCells, bv]
    · intro j h1 h2
      simp [madeCells, bv, Value.cells, Nat.mod_one]
  rw [hm]

end Go.Proofs.Ythgilekhohadoaa
