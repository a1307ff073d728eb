/-
  Several texts in one: Base, Wrote, Inside, App, Ints, Bit, Rec.
-/
import Derived.Test.YthckglpleiojkaaRows
import Derived.WalkKit
import Derived.WalkSpells
import Derived.WalkLawsBesides
import Derived.Lib.Hide
import Derived.Test.YthckglpleiojkaaMPure
import Derived.Handy
import Derived.Deep.Light
import Derived.Deep.Draws
import Derived.StillTailTactics
import Derived.Maps.AppendAt
import Derived.Laws.BitsAllLaws

/-
  Plain words for walks: a slice that reads as given cells, nil included; small closers.
-/

namespace Go.Proofs.Ythckglpleiojkaa
open Go.RowKit
set_option linter.unusedSimpArgs false
set_option linter.unusedVariables false
set_option maxRecDepth 100000

theorem ret_int {k : IntKind} {a b : Int} (h : a = b) : Ending.returned (.int k a) = .returned (.int k b) := by rw [h]

theorem ret_bool {a b : Bool} (h : a = b) : Ending.returned (.bool a) = .returned (.bool b) := by rw [h]

theorem ret_ii {k l : IntKind} {a b c d : Int} (h : a = b) (h' : c = d) : Ending.returned (.tuple #[.int k a, .int l c]) = .returned (.tuple #[.int k b, .int l d]) := by rw [h, h']

theorem addr_add_block (a : Addr) (n : Nat) : (a.add n).block = a.block := by unfold Addr.add; split <;> rfl

theorem addr_add_add (a : Addr) (i j : Nat) : (a.add i).add j = a.add (i + j) := by
  unfold Addr.add
  rcases Nat.eq_zero_or_pos i with hi | hi <;> rcases Nat.eq_zero_or_pos j with hj | hj <;> simp [hi, hj, Nat.add_assoc, Nat.ne_of_gt, Nat.add_eq_zero_iff]

/-- cells 0 .. m-1 from the slice's head on are f, below block B; nothing is asked of an empty slice -/
def Rd (w : World) (B : Nat) (A : Option Addr) (m : Nat) (f : Nat → Value) : Prop :=
  0 < m → ∃ ad : Addr, A = some ad ∧ ad.block < B ∧ ∀ j, j < m → w.cell? (ad.add j) = some (f j)

section
variable {w w' : World} {B m : Nat} {A : Option Addr} {f : Nat → Value}
theorem Rd.keep (h : Rd w B A m f) (hk : ∀ p : Addr, p.block < B → w'.cell? p = w.cell? p) : Rd w' B A m f := fun hm => by
  obtain ⟨ad, e, hb, hc⟩ := h hm
  exact ⟨ad, e, hb, fun j hj => (hk _ (by rw [addr_add_block]; exact hb)).trans (hc j hj)⟩

theorem Rd.below {B' : Nat} (h : Rd w B A m f) (hb : Below B' w w') (hB : B ≤ B') : Rd w' B A m f := h.keep fun _ hp => hb.cell (by omega)

theorem Rd.more {B' : Nat} (h : Rd w B A m f) (hB : B ≤ B') : Rd w B' A m f := fun hm => by
  obtain ⟨ad, e, hb, hc⟩ := h hm
  exact ⟨ad, e, by omega, hc⟩

theorem Rd.congr {g : Nat → Value} (h : Rd w B A m f) (hg : ∀ j, j < m → f j = g j) : Rd w B A m g := fun hm => by
  obtain ⟨ad, e, hb, hc⟩ := h hm
  exact ⟨ad, e, hb, fun j hj => by rw [← hg j hj]; exact hc j hj⟩
end

/-- integers as cells -/
def ic (xs : List Int) (j : Nat) : Value := .int .i64 (xs.getD j 0)

/-- terms as cells, four a term -/
def tc (l : List Tm) (j : Nat) : Value :=
  let t := l.getD (j / 4) tz
  .int .i64 (if j % 4 = 0 then t.op else if j % 4 = 1 then t.a else if j % 4 = 2 then t.b else t.v)

/-- a slice of ints: its head, its length -/
def RdI (w : World) (B : Nat) (A : Option Addr) (xs : List Int) : Prop := Rd w B A xs.length (ic xs)

/-- a slice of terms -/
def RdT (w : World) (B : Nat) (A : Option Addr) (l : List Tm) : Prop := Rd w B A (l.length * 4) (tc l)

theorem RdI.below {w w' : World} {B B' : Nat} {A : Option Addr} {xs : List Int} (h : RdI w B A xs) (hb : Below B' w w') (hB : B ≤ B') : RdI w' B A xs := Rd.below h hb hB

theorem RdT.below {w w' : World} {B B' : Nat} {A : Option Addr} {l : List Tm} (h : RdT w B A l) (hb : Below B' w w') (hB : B ≤ B') : RdT w' B A l := Rd.below h hb hB

theorem RdI.more {w : World} {B B' : Nat} {A : Option Addr} {xs : List Int} (h : RdI w B A xs) (hB : B ≤ B') : RdI w B' A xs := Rd.more h hB

theorem RdT.more {w : World} {B B' : Nat} {A : Option Addr} {l : List Tm} (h : RdT w B A l) (hB : B ≤ B') : RdT w B' A l := Rd.more h hB

theorem RdI.at_ {w : World} {B : Nat} {A : Option Addr} {xs : List Int} {k : Nat} (h : RdI w B A xs) (hk : k < xs.length) :
    ∃ (ad : Addr) (x : Int), A = some ad ∧ (ad.add k).block < B ∧ xs[k]? = some x ∧ w.cell? (ad.add k) = some (.int .i64 x) := by
  obtain ⟨ad, e, hb, hc⟩ := h (by omega)
  refine ⟨ad, xs[k], e, by rw [addr_add_block]; exact hb, List.getElem?_eq_getElem hk, ?_⟩
  rw [hc k hk]
  simp [ic, hk]

theorem RdT.at_ {w : World} {B : Nat} {A : Option Addr} {l : List Tm} {k : Nat} (h : RdT w B A l) (hk : k < l.length) :
    ∃ (ad : Addr) (o a b v : Int), A = some ad ∧ (ad.add (k * 4)).block < B ∧ l[k]? = some ⟨o, a, b, v⟩ ∧ w.cell? (ad.add (k * 4)) = some (.int .i64 o) ∧
      w.cell? ⟨(ad.add (k * 4)).block, (ad.add (k * 4)).off + 1, none⟩ = some (.int .i64 a) ∧ w.cell? ⟨(ad.add (k * 4)).block, (ad.add (k * 4)).off + 2, none⟩ = some (.int .i64 b) ∧ w.cell? ⟨(ad.add (k * 4)).block, (ad.add (k * 4)).off + 3, none⟩ = some (.int .i64 v) := by
  obtain ⟨ad, e, hb, hc⟩ := h (by omega)
  have hg : l.getD k tz = l[k] := by simp [hk]
  have q0 : (k * 4) / 4 = k := by omega
  have q1 : (k * 4 + 1) / 4 = k := by omega
  have q2 : (k * 4 + 2) / 4 = k := by omega
  have q3 : (k * 4 + 3) / 4 = k := by omega
  have r0 : (k * 4) % 4 = 0 := by omega
  have r1 : (k * 4 + 1) % 4 = 1 := by omega
  have r2 : (k * 4 + 2) % 4 = 2 := by omega
  have r3 : (k * 4 + 3) % 4 = 3 := by omega
  refine ⟨ad, l[k].op, l[k].a, l[k].b, l[k].v, e, by rw [addr_add_block]; exact hb, List.getElem?_eq_getElem hk, ?_, ?_, ?_, ?_⟩
  · rw [hc _ (by omega)]; simp only [tc, q0, r0, hg]; rfl
  · show w.cell? ((ad.add (k * 4)).add 1) = _
    rw [addr_add_add, hc _ (by omega)]; simp only [tc, q1, r1, hg]; rfl
  · show w.cell? ((ad.add (k * 4)).add 2) = _
    rw [addr_add_add, hc _ (by omega)]; simp only [tc, q2, r2, hg]; rfl
  · show w.cell? ((ad.add (k * 4)).add 3) = _
    rw [addr_add_add, hc _ (by omega)]; simp only [tc, q3, r3, hg]; rfl

/-! ### A block of the call's own, known whole -/

def Own (w : World) (g : Nat) (t : TypeId) (cs : List Value) : Prop := w.heap[g]? = some (.cells cs.toArray t (0, 0))

section
variable {w w' : World} {g : Nat} {t : TypeId} {cs : List Value}
theorem Own.lt (h : Own w g t cs) : g < w.heap.size := by
  rcases Nat.lt_or_ge g w.heap.size with hl | hg
  · exact hl
  · unfold Own at h; rw [Array.getElem?_eq_none hg] at h; cases h

theorem Own.cell (h : Own w g t cs) {j : Nat} {v : Value} (hj : cs[j]? = some v) : w.cell? ⟨g, j, none⟩ = some v := by
  unfold Own at h
  simp [World.cell?, h, hj]

theorem Own.frozen (h : Own w g t cs) (j : Nat) : w.frozen? ⟨g, j, none⟩ = false := by
  unfold Own at h
  simp [World.frozen?, h]

theorem Own.new (w : World) (t : TypeId) (cs : List Value) : Own (w.alloc (.cells cs.toArray t)) w.heap.size t cs := heap_alloc_new w _

theorem Own.drew (h : Own w g t cs) : Own w.drew g t cs := h

theorem Own.alloc (h : Own w g t cs) (o : Obj) : Own (w.alloc o) g t cs := (Below.heap_alloc w o g h.lt).trans h

theorem Own.set (h : Own w g t cs) (i : Nat) (u : Value) : Own (w.setCell ⟨g, i, none⟩ u) g t (cs.set i u) := by
  unfold Own at h ⊢
  simp [World.setCell, Array.getElem?_modify, h]

theorem Own.far (h : Own w g t cs) {p : Addr} (hp : g ≠ p.block) (u : Value) : Own (w.setCell p u) g t cs := (Below.heap_setCell w p u g hp).trans h

theorem Own.below {B : Nat} (h : Own w g t cs) (hb : Below B w w') (hg : g < B) : Own w' g t cs := (hb.block g hg).trans h
end

/-- a region whose order is open, all of it but a forced tail only reading: one walk, in the text's order -/
theorem still_tail {P : Program} {id : Nat} {Q : Exit → Act → World → Prop} {a : Act} {w : World} {l : List Oper} (n : Nat) (hm : P.follows .mixedOrders = true) (hB : Region.lexTailB .any l.toArray n = true)
    (h : wpStill P l.toArray w.drew (fun a' => wpList P l.toArray Q (l.drop n) a' w.drew) (l.take n) a) : (Code.region id l.toArray true).wp P Q a w := wp_region_still_tail n hm hB h

/-- ints as values -/
def iv (xs : List Int) : List Value := xs.map (.int .i64)

theorem iv_at {xs : List Int} {j : Nat} {x : Int} (h : xs[j]? = some x) : (iv xs)[j]? = some (.int .i64 x) := by simp [iv, h]

theorem iv_set (xs : List Int) (i : Nat) (x : Int) : (iv xs).set i (.int .i64 x) = iv (xs.set i x) := by simp [iv, List.map_set]

theorem OwnI.set {w : World} {g : Nat} {t : TypeId} {xs : List Int} (h : Own w g t (iv xs)) (i : Nat) (x : Int) : Own (w.setCell ⟨g, i, none⟩ (.int .i64 x)) g t (iv (xs.set i x)) := by
  rw [← iv_set]; exact h.set i _

theorem OwnI.rd {w : World} {g : Nat} {t : TypeId} {xs : List Int} (h : Own w g t (iv xs)) : RdI w (g + 1) (some ⟨g, 0, none⟩) xs := fun _ =>
  ⟨⟨g, 0, none⟩, rfl, Nat.lt_succ_self _, fun j hj => by
    have hc := h.cell (j := j) (iv_at (List.getElem?_eq_getElem hj))
    have ha : (⟨g, 0, none⟩ : Addr).add j = ⟨g, j, none⟩ := by unfold Addr.add; split <;> simp_all
    rw [ha, hc]
    simp [ic, hj]⟩

theorem make_ints {P : Program} (t e : TypeId) (ht : P.underlying t = some (.slice e)) (hi : (P.info? e).map (fun i => (i.zero, i.size, i.bytes)) = some (some (.int .i64 0), 1, 8)) (n : Nat) (hn : n ≤ 65536) (w : World) :
    (Instr.makeSlice t (.int .i64 (n : Int)) (.int .i64 (n : Int))).run P w = .ok (.slice (some ⟨w.heap.size, 0, none⟩) n n) (w.alloc (.cells (iv (List.replicate n 0)).toArray e)) := by
  obtain ⟨i0, hi0, hz, hs, hb⟩ := info_parts hi
  have h := run_make (P := P) w t e i0 _ ht hi0 hz .i64 .i64 (n : Int) (n : Int) (by omega) (by omega) (by rw [hb]; omega) (by omega)
  simp only [Int.toNat_natCast, hs, Nat.mul_one] at h
  rw [h]
  have hm : madeCells (Value.int .i64 0).cells n = (iv (List.replicate n 0)).toArray := by
    apply Array.ext
    · simp [madeCells, iv]
    · intro j h1 h2
      simp [madeCells, iv, Value.cells, Nat.mod_one]
  rw [hm]

/-- bools as values -/
def bv (xs : List Bool) : List Value := xs.map .bool

theorem bv_at {xs : List Bool} {j : Nat} {x : Bool} (h : xs[j]? = some x) : (bv xs)[j]? = some (.bool x) := by simp [bv, h]

theorem OwnB.set {w : World} {g : Nat} {t : TypeId} {xs : List Bool} (h : Own w g t (bv xs)) (i : Nat) (x : Bool) : Own (w.setCell ⟨g, i, none⟩ (.bool x)) g t (bv (xs.set i x)) := by
  have := h.set i (.bool x)
  rwa [show (bv xs).set i (.bool x) = bv (xs.set i x) from by simp [bv, List.map_set]] at this

theorem make_bools {P : Program} (t e : TypeId) (ht : P.underlying t = some (.slice e)) (hi : (P.info? e).map (fun i => (i.zero, i.size, i.bytes)) = some (some (.bool false), 1, 1)) (n : Nat) (hn : n ≤ 65536) (w : World) :
    (Instr.makeSlice t (.int .i64 (n : Int)) (.int .i64 (n : Int))).run P w = .ok (.slice (some ⟨w.heap.size, 0, none⟩) n n) (w.alloc (.cells (bv (List.replicate n false)).toArray e)) := by
  obtain ⟨i0, hi0, hz, hs, hb⟩ := info_parts hi
  have h := run_make (P := P) w t e i0 _ ht hi0 hz .i64 .i64 (n : Int) (n : Int) (by omega) (by omega) (by rw [hb]; omega) (by omega)
  simp only [Int.toNat_natCast, hs, Nat.mul_one] at h
  rw [h]
  have hm : madeCells (Value.bool false).cells n = (bv (List.replicate n false)).toArray := by
    apply Array.ext
    · simp [madeCells, bv]
    · intro j h1 h2
      simp [madeCells, bv, Value.cells, Nat.mod_one]
  rw [hm]

end Go.Proofs.Ythckglpleiojkaa

/-
  A block of the call's own written, all else below as it was.
-/

namespace Go.Proofs.Ythckglpleiojkaa
open Go.RowKit
set_option linter.unusedSimpArgs false
set_option linter.unusedVariables false
set_option maxRecDepth 100000

/-- a block of the call's own written, all else below as it was -/
structure Wrote (g : Nat) (w w' : World) : Prop where
  os : w'.os = w.os
  tape : w'.tape = w.tape
  output : w'.output = w.output
  size : w.heap.size ≤ w'.heap.size
  block : ∀ k, k < w.heap.size → k ≠ g → w'.heap[k]? = w.heap[k]?

theorem Wrote.of_below {g : Nat} {w w' : World} (h : Below w.heap.size w w') : Wrote g w w' := ⟨h.os, h.tape, h.output, h.size, fun k hk _ => h.block k hk⟩

theorem Wrote.set {g : Nat} {w w' : World} (h : Wrote g w w') {p : Addr} (hp : p.block = g) (u : Value) : Wrote g w (w'.setCell p u) := by
  have hb : Below p.block w' (w'.setCell p u) := (Below.refl p.block w').setCell (Nat.le_refl _) u
  exact ⟨hb.os.trans h.os, hb.tape.trans h.tape, hb.output.trans h.output, Nat.le_trans h.size hb.size, fun k hk hne => (Below.heap_setCell w' p u k (by omega)).trans (h.block k hk hne)⟩

theorem Wrote.below {g B : Nat} {w w' : World} (h : Wrote g w w') (hB : B ≤ g) (hs : B ≤ w.heap.size) : Below B w w' := ⟨h.os, h.tape, h.output, h.size, fun k hk => h.block k (by omega) (by omega)⟩

theorem Wrote.cell {g : Nat} {w w' : World} (h : Wrote g w w') {p : Addr} (hp : p.block < w.heap.size) (hne : p.block ≠ g) : w'.cell? p = w.cell? p := World.cell?_of_block (w := w) (h.block p.block hp hne)

theorem Wrote.andThen {g : Nat} {w w' w'' : World} (h : Wrote g w w') (hb : Below w.heap.size w' w'') : Wrote g w w'' := ⟨hb.os.trans h.os, hb.tape.trans h.tape, hb.output.trans h.output, Nat.le_trans h.size hb.size, fun k hk hne => (hb.block k hk).trans (h.block k hk hne)⟩

theorem Wrote.trans {g : Nat} {w w' w'' : World} (h : Wrote g w w') (h2 : Wrote g w' w'') : Wrote g w w'' := ⟨h2.os.trans h.os, h2.tape.trans h.tape, h2.output.trans h.output, Nat.le_trans h.size h2.size, fun k hk hne => (h2.block k (Nat.lt_of_lt_of_le hk h.size) hne).trans (h.block k hk hne)⟩

theorem own_farW {w : World} {base size n : Nat} {e : TypeId} {v : Value} {xs : List Value} (h : w.ownsRow base e size v n xs) {p : Addr} (hp : p.block < base) (u : Value) : (w.setCell p u).ownsRow base e size v n xs := by
  refine ⟨h.1, ?_⟩
  rcases h.2 with h' | ⟨g, cap, cur, h1, h2, h3, h4⟩
  · exact .inl h'
  · exact .inr ⟨g, cap, cur, h1, h2, (Below.heap_setCell w p u g (by omega)).trans h3, h4⟩

end Go.Proofs.Ythckglpleiojkaa

/-
  codemasonref.Inside and codemasonref.Value return what they say.
-/

namespace Go.Proofs.Ythckglpleiojkaa
open Go.RowKit
set_option linter.unusedSimpArgs false
set_option linter.unusedVariables false
set_option maxRecDepth 100000

def insideB (n : Int) : List Int → Bool
  | [] => true
  | x :: r => if x < 0 ∨ n ≤ x then false else insideB n r

set_option maxHeartbeats 1000000 in
theorem inside_any (n : Int) (A : Option Addr) (len cap : Nat) (xs : List Int) (B : Nat) (w : World) (hx : RdI w B A xs) (hl : xs.length = len) (hm : len ≤ 65536) :
    Calls Try.prog 14 #[.int .i64 n, .slice A len cap] w fun e w' => e = .returned (.bool (insideB n xs)) ∧ w = w' := by
  have HL := Lib.hid hl
  clear hl
  go_enter Try.func14, Try.ntmps14
  go_wp2
  go_loop [9] (fun i => ∃ k : Nat, k ≤ len ∧ i = .int .i64 k ∧ insideB n xs = insideB n (xs.drop k)) (fun i => len - (intOf i).toNat)
  case atStart => exact ⟨0, Nat.zero_le _, rfl, rfl⟩
  case round =>
    obtain ⟨k, hk, rfl, hr⟩ := hrel
    have HR := Lib.hid hr
    clear hr
    by_cases hlt : k < len
    · obtain ⟨ad, x, rfl, _, hd, hcell⟩ := hx.at_ (k := k) (by rw [HL.out]; exact hlt)
      have HD := Lib.hid (drop_at hd)
      clear hd
      go_wp2
      all_goals first
        | (go_ret; exact ⟨ret_bool (by rw [HR.out, HD.out]; unfold insideB; rw [if_pos (by omega)]), rfl⟩)
        | (go_round
           case rel => exact ⟨k + 1, by omega, by go_num, by rw [HR.out, HD.out]; conv => { lhs; unfold insideB; rw [if_neg (by omega)] }⟩
           case measure => simp [intOf]; omega)
    · go_wp2
      go_ret
      exact ⟨ret_bool (by rw [HR.out, List.drop_of_length_le (by rw [HL.out]; omega)]; rfl), rfl⟩

theorem rdI_one {w : World} {p : Addr} {x : Int} (h : w.cell? p = some (.int .i64 x)) : RdI w (p.block + 1) (some p) [x] := fun _ =>
  ⟨p, rfl, by omega, fun j hj => by
    have : j = 0 := by simp at hj; omega
    subst this
    exact h⟩

theorem rdI_two {w : World} {p : Addr} {x y : Int} (h : w.cell? p = some (.int .i64 x)) (h' : w.cell? ⟨p.block, p.off + 1, none⟩ = some (.int .i64 y)) : RdI w (p.block + 1) (some p) [x, y] := fun _ =>
  ⟨p, rfl, by omega, fun j hj => by
    have : j = 0 ∨ j = 1 := by simp at hj; omega
    rcases this with rfl | rfl
    · exact h
    · exact h'⟩

theorem inside1_any (n x : Int) (p : Addr) (c : Nat) (w : World) (h : w.cell? p = some (.int .i64 x)) :
    Calls Try.prog 14 #[.int .i64 n, .slice (some p) 1 c] w fun e w' => e = .returned (.bool (decide (0 ≤ x ∧ x < n))) ∧ w = w' :=
  (inside_any n (some p) 1 c [x] _ w (rdI_one h) rfl (by omega)).mono fun e w' ⟨he, hw⟩ => ⟨by
    rw [he]
    refine ret_bool ?_
    simp only [insideB]
    split <;> simp <;> omega, hw⟩

theorem inside2_any (n x y : Int) (p : Addr) (c : Nat) (w : World) (h : w.cell? p = some (.int .i64 x)) (h' : w.cell? ⟨p.block, p.off + 1, none⟩ = some (.int .i64 y)) :
    Calls Try.prog 14 #[.int .i64 n, .slice (some p) 2 c] w fun e w' => e = .returned (.bool (decide (0 ≤ x ∧ x < n ∧ 0 ≤ y ∧ y < n))) ∧ w = w' :=
  (inside_any n (some p) 2 c [x, y] _ w (rdI_two h h') rfl (by omega)).mono fun e w' ⟨he, hw⟩ => ⟨by
    rw [he]
    refine ret_bool ?_
    simp only [insideB]
    (repeat' split) <;> simp <;> omega, hw⟩

end Go.Proofs.Ythckglpleiojkaa

/-
  append onto a slice of the call's own, whatever the source (nil, empty or not).
-/

namespace Go.Proofs.Ythckglpleiojkaa
open Go.RowKit
set_option linter.unusedSimpArgs false
set_option linter.unusedVariables false
set_option maxRecDepth 100000

/-- t is a slice type over e, whose values take 'size' cells and 'bytes' bytes -/
def AppTy (P : Program) (t e : TypeId) (size bytes : Nat) : Prop :=
  P.underlying t = some (.slice e) ∧ 0 < size ∧ ∃ i z, P.info? e = some i ∧ i.zero = some z ∧ i.size = size ∧ i.bytes = bytes ∧ z.cells.size = size

theorem appTy_of {P : Program} {t e : TypeId} {z : Value} {size bytes : Nat} (ht : P.underlying t = some (.slice e)) (hi : (P.info? e).map (fun i => (i.zero, i.size, i.bytes)) = some (some z, size, bytes)) (hzs : z.cells.size = size) (hsz : 0 < size) : AppTy P t e size bytes := by
  obtain ⟨i, h1, h2, h3, h4⟩ := info_parts hi
  exact ⟨ht, hsz, i, z, h1, h2, h3, h4, hzs⟩

section
variable {P : Program} {w : World}

theorem own_shape {base : Nat} {e : TypeId} {size : Nat} {v : Value} {n : Nat} {xs : List Value} (h : w.ownsRow base e size v n xs) : ∃ A c, v = .slice A n c := by
  rcases h.2 with ⟨rfl, rfl⟩ | ⟨g, cap, cur, rfl, _⟩
  · exact ⟨none, 0, rfl⟩
  · exact ⟨_, _, rfl⟩

/-- an owned slice reads -/
theorem own_rd {base : Nat} {e : TypeId} {size : Nat} {A : Option Addr} {c n : Nat} {xs : List Value} (h : w.ownsRow base e size (.slice A n c) n xs) : Rd w w.heap.size A (n * size) (fun j => xs.getD j undef) := fun hm => by
  rcases h.2 with ⟨_, rfl⟩ | ⟨g, cap, cur, hv, _, hh, _⟩
  · simp at hm
  · injection hv with hA
    subst hA
    have hg : g < w.heap.size := by
      rcases Nat.lt_or_ge g w.heap.size with hl | hl
      · exact hl
      · rw [Array.getElem?_eq_none hl] at hh; cases hh
    refine ⟨_, rfl, hg, fun j hj => ?_⟩
    have hj' : j < xs.length := by rw [h.1]; exact hj
    rw [World.ownsRow.cells h (g := g) rfl j xs[j] (List.getElem?_eq_getElem hj')]
    simp [hj']

theorem own_base {base : Nat} {e : TypeId} {size : Nat} {v : Value} {n : Nat} {xs : List Value} (h : w.ownsRow base e size v n xs) {w' : World} (hg : w.grownBy w' v.ownBlock) (hb : base ≤ w.heap.size) : Below base w w' :=
  (Below.refl base w).grown hg hb (fun k hk => (h.lt k hk).1)

theorem cells_new (w : World) (cs : List Value) (t : TypeId) : ∀ j u, cs[j]? = some u → (w.alloc (.cells cs.toArray t)).cell? ((⟨w.heap.size, 0, none⟩ : Addr).add j) = some u := by
  intro j u hu
  have ha : (⟨w.heap.size, 0, none⟩ : Addr).add j = ⟨w.heap.size, j, none⟩ := by unfold Addr.add; split <;> simp_all
  rw [ha]
  exact (Own.new w t cs).cell hu

theorem own_below {base : Nat} {e : TypeId} {size : Nat} {v : Value} {n : Nat} {xs : List Value} {w' : World} (h : w.ownsRow base e size v n xs) (hb : Below w.heap.size w w') : w'.ownsRow base e size v n xs := by
  rcases h.2 with ⟨rfl, hn⟩ | ⟨g, cap, cur, hv, h1, hh, h2, h3, h4, h5⟩
  · exact ⟨h.1, .inl ⟨rfl, hn⟩⟩
  · have hg : g < w.heap.size := by
      rcases Nat.lt_or_ge g w.heap.size with hl | hl
      · exact hl
      · rw [Array.getElem?_eq_none hl] at hh; cases hh
    exact ⟨h.1, .inr ⟨g, cap, cur, hv, h1, (hb.block g hg).trans hh, h2, h3, h4, h5⟩⟩

theorem cells_at {X : World} {k : Nat} (hk : k = X.heap.size) (cs : List Value) (t : TypeId) : ∀ ad : Addr, some (⟨k, 0, none⟩ : Addr) = some ad → ∀ j u, cs[j]? = some u → (X.alloc (.cells cs.toArray t)).cell? (ad.add j) = some u := by
  intro ad h j u hu
  injection h with h
  subst h hk
  exact cells_new X cs t j u hu

theorem run_app (base : Nat) (t ty e : TypeId) (size bytes : Nat) (hT : AppTy P t e size bytes) (A : Option Addr) (n c : Nat) (xs : List Value) (hown : w.ownsRow base e size (.slice A n c) n xs)
    (A2 : Option Addr) (m c2 : Nat) (news : List Value) (hl : news.length = m * size) (hn : A2 = none → m = 0) (hnews : ∀ ad, A2 = some ad → ∀ j u, news[j]? = some u → w.cell? (ad.add j) = some u) (h1 : ∀ u ∈ news, u.oneCell' = true)
    (hb1 : n + m ≤ maxLen) (hb2 : (n + m) * bytes ≤ 140737488355328) (hbase : base ≤ w.heap.size) :
    ∃ A' c' w', (Builtin.append_ #[t, t] ty #[.slice A n c, .slice A2 m c2]).run P w = .ok (.slice A' (n + m) c') w' ∧ w'.ownsRow base e size (.slice A' (n + m) c') (n + m) (xs ++ news) ∧ w.grownBy w' (Value.slice A n c).ownBlock ∧
      ((Value.slice A' (n + m) c').ownBlock = (Value.slice A n c).ownBlock ∨ (Value.slice A' (n + m) c').ownBlock = some w.heap.size) := by
  obtain ⟨ht, hsz, i, z, hi, hz, hs, hby, hzs⟩ := hT
  cases A2 with
  | none =>
    have hm := hn rfl
    subst hm
    have hnil : news = [] := List.eq_nil_of_length_eq_zero (by simpa using hl)
    subst hnil
    refine ⟨A, c, w, ?_, by simpa using hown, World.grownBy.refl w _, .inl rfl⟩
    rcases hown.2 with ⟨hv, rfl⟩ | ⟨g, cap, cur, hv, _, _, hnc, _⟩
    · injection hv with ha hc1 hc2
      subst ha hc2
      simp [Builtin.append_, run_underlying ht, sizeOf, typeInfo, hi, Builtin.lenOf, Builtin.firstCells]
    · injection hv with ha hc1 hc2
      subst ha hc2
      simp [Builtin.append_, run_underlying ht, sizeOf, typeInfo, hi, Builtin.lenOf, Builtin.firstCells, hnc, storeCells]
  | some ad =>
    obtain ⟨v', w', hrun, h2, h3, _, h5⟩ := run_append_own_at (P := P) w base t ty e i z size bytes ht hi hz hs hby hzs hsz (.slice A n c) n xs hown ad m c2 news hl (hnews ad rfl) h1 hb1 hb2 hbase
    obtain ⟨A', c', rfl⟩ := own_shape h2
    exact ⟨A', c', w', hrun, h2, h3, h5⟩

theorem wpList_app' {ops : Array Oper} {rest : List Oper} {o : Oper} {a : Act} {Q : Exit → Act → World → Prop} (hgd : o.guard = none) (s x : Operand) (t : TypeId)
    (ho : o.op = .call { callee := .builtin .append, args := #[s, x], argTypes := #[t, t] }) (base : Nat) (e : TypeId) (size bytes : Nat) (hT : AppTy P t e size bytes)
    {A : Option Addr} {n c : Nat} (xs : List Value) (hs : a.eval s = .slice A n c) (hown : w.ownsRow base e size (.slice A n c) n xs)
    {A2 : Option Addr} {m c2 : Nat} (news : List Value) (hx : a.eval x = .slice A2 m c2) (hl : news.length = m * size) (hn : A2 = none → m = 0) (hnews : ∀ ad, A2 = some ad → ∀ j u, news[j]? = some u → w.cell? (ad.add j) = some u) (h1 : ∀ u ∈ news, u.oneCell' = true)
    (hb1 : n + m ≤ maxLen) (hb2 : (n + m) * bytes ≤ 140737488355328) (hbase : base ≤ w.heap.size)
    (h : ∀ A' c' w', w'.ownsRow base e size (.slice A' (n + m) c') (n + m) (xs ++ news) → w.grownBy w' (Value.slice A n c).ownBlock → Below base w w' →
      ((Value.slice A' (n + m) c').ownBlock = (Value.slice A n c).ownBlock ∨ (Value.slice A' (n + m) c').ownBlock = some w.heap.size) → wpList P ops Q rest (a.put o.dst (.slice A' (n + m) c')) w') : wpList P ops Q (o :: rest) a w := by
  refine wpList_plain hgd fun K hK => ?_
  obtain ⟨A', c', w', hrun, h2, h3, h5⟩ := run_app (P := P) (w := w) base t o.type e size bytes hT A n c xs hown A2 m c2 news hl hn hnews h1 hb1 hb2 hbase
  unfold Oper.wp execOp
  simp only [ho, resolve, invoke, builtin, Sem.run_bind, Sem.run_pure, Result.andThen_ok, List.map_toArray, List.map_cons, List.map_nil, hs, hx, hrun]
  exact hK _ _ (h A' c' w' h2 h3 (own_base hown h3 hbase) h5)

theorem wpList_app {ops : Array Oper} {rest : List Oper} {o : Oper} {a : Act} {Q : Exit → Act → World → Prop} (hgd : o.guard = none) (s x : Operand) (t : TypeId)
    (ho : o.op = .call { callee := .builtin .append, args := #[s, x], argTypes := #[t, t] }) (base : Nat) (e : TypeId) (size bytes : Nat) (hT : AppTy P t e size bytes)
    {A : Option Addr} {n c : Nat} (xs : List Value) (hs : a.eval s = .slice A n c) (hown : w.ownsRow base e size (.slice A n c) n xs)
    {A2 : Option Addr} {m c2 : Nat} (news : List Value) (hx : a.eval x = .slice A2 m c2) (hl : news.length = m * size) (hn : A2 = none → m = 0) (hnews : ∀ ad, A2 = some ad → ∀ j u, news[j]? = some u → w.cell? (ad.add j) = some u) (h1 : ∀ u ∈ news, u.oneCell' = true)
    (hb1 : n + m ≤ maxLen) (hb2 : (n + m) * bytes ≤ 140737488355328) (hbase : base ≤ w.heap.size)
    (h : ∀ A' c' w', w'.ownsRow base e size (.slice A' (n + m) c') (n + m) (xs ++ news) → w.grownBy w' (Value.slice A n c).ownBlock → Below base w w' → wpList P ops Q rest (a.put o.dst (.slice A' (n + m) c')) w') : wpList P ops Q (o :: rest) a w :=
  wpList_app' hgd s x t ho base e size bytes hT xs hs hown news hx hl hn hnews h1 hb1 hb2 hbase fun A' c' w' h2 h3 h4 _ => h A' c' w' h2 h3 h4

end

/-- terms as values, four cells each -/
def tv (l : List Tm) : List Value := l.flatMap fun t => [.int .i64 t.op, .int .i64 t.a, .int .i64 t.b, .int .i64 t.v]

theorem tv_len (l : List Tm) : (tv l).length = l.length * 4 := by
  induction l with
  | nil => rfl
  | cons t r ih => simp only [tv, List.flatMap_cons, List.length_append, List.length_cons, List.length_nil] at *; omega

theorem tv_append (l r : List Tm) : tv (l ++ r) = tv l ++ tv r := by simp [tv]

theorem tv_one (l : List Tm) : ∀ u ∈ tv l, u.oneCell' = true := by
  intro u hu
  simp only [tv, List.mem_flatMap] at hu
  obtain ⟨t, _, ht⟩ := hu
  simp at ht
  rcases ht with rfl | rfl | rfl | rfl <;> rfl

theorem tv1_one (o a b v : Int) : ∀ u ∈ ([.int .i64 o, .int .i64 a, .int .i64 b, .int .i64 v] : List Value), u.oneCell' = true := fun u hu => by
  simp at hu
  rcases hu with rfl | rfl | rfl | rfl <;> rfl

theorem tv_at : ∀ {l : List Tm} {j : Nat}, j < l.length * 4 → (tv l)[j]? = some (tc l j)
  | [], j, h => by simp at h
  | t :: r, j, h => by
    rcases Nat.lt_or_ge j 4 with hj | hj
    · have h4 : j = 0 ∨ j = 1 ∨ j = 2 ∨ j = 3 := by omega
      rcases h4 with rfl | rfl | rfl | rfl <;> simp [tv, tc]
    · have ih := tv_at (l := r) (j := j - 4) (by simp at h; omega)
      have e1 : (tv (t :: r))[j]? = (tv r)[j - 4]? := by
        simp only [tv, List.flatMap_cons]
        rw [List.getElem?_append_right (by simpa using hj)]
        rfl
      rw [e1, ih]
      have e2 : j / 4 = (j - 4) / 4 + 1 := by omega
      have e3 : j % 4 = (j - 4) % 4 := by omega
      simp only [tc, e2, e3, List.getD_cons_succ]

theorem RdT.news {w : World} {B : Nat} {A : Option Addr} {l : List Tm} (h : RdT w B A l) : ∀ ad, A = some ad → ∀ j u, (tv l)[j]? = some u → w.cell? (ad.add j) = some u := by
  intro ad hA j u hu
  have hj : j < l.length * 4 := by
    rcases Nat.lt_or_ge j (tv l).length with hl | hl
    · rwa [tv_len] at hl
    · rw [List.getElem?_eq_none hl] at hu; cases hu
  obtain ⟨ad', e, _, hc⟩ := h (by omega)
  rw [hA] at e
  injection e with e
  subst e
  rw [hc j hj, ← tv_at hj, hu]

theorem RdT.nil {w : World} {B : Nat} {A : Option Addr} {l : List Tm} (h : RdT w B A l) : A = none → l.length = 0 := by
  intro hA
  rcases Nat.eq_zero_or_pos l.length with h0 | h0
  · exact h0
  · obtain ⟨ad, e, _⟩ := h (by omega)
    rw [hA] at e
    cases e

theorem own_rdT {w : World} {base : Nat} {e : TypeId} {A : Option Addr} {c n : Nat} {l : List Tm} (h : w.ownsRow base e 4 (.slice A n c) n (tv l)) (hn : l.length = n) : RdT w w.heap.size A l := by
  subst hn
  exact (own_rd h).congr fun j hj => by rw [List.getD_eq_getElem?_getD, tv_at hj]; rfl

theorem tv_set : ∀ (l : List Tm) (i : Nat) (t : Tm), i < l.length → ((((tv l).set (i * 4) (.int .i64 t.op)).set (i * 4 + 1) (.int .i64 t.a)).set (i * 4 + 2) (.int .i64 t.b)).set (i * 4 + 3) (.int .i64 t.v) = tv (l.set i t)
  | [], _, _, h => by simp at h
  | u :: r, 0, t, _ => by simp [tv]
  | u :: r, i + 1, t, h => by
    have ih := tv_set r i t (by simpa using h)
    have e : (i + 1) * 4 = i * 4 + 1 + 1 + 1 + 1 := by omega
    rw [e]
    simp only [tv, List.flatMap_cons, List.set_cons_succ, List.cons_append, List.nil_append] at ih ⊢
    rw [ih]

theorem OwnT.set {w : World} {g : Nat} {e : TypeId} {l : List Tm} (h : Own w g e (tv l)) {i : Nat} (hi : i < l.length) (t : Tm) :
    Own ((((w.setCell ⟨g, i * 4, none⟩ (.int .i64 t.op)).setCell ⟨g, i * 4 + 1, none⟩ (.int .i64 t.a)).setCell ⟨g, i * 4 + 2, none⟩ (.int .i64 t.b)).setCell ⟨g, i * 4 + 3, none⟩ (.int .i64 t.v)) g e (tv (l.set i t)) := by
  rw [← tv_set l i t hi]
  exact (((h.set _ _).set _ _).set _ _).set _ _

theorem OwnT.rd {w : World} {g : Nat} {e : TypeId} {l : List Tm} (h : Own w g e (tv l)) : RdT w (g + 1) (some ⟨g, 0, none⟩) l := fun _ =>
  ⟨⟨g, 0, none⟩, rfl, Nat.lt_succ_self _, fun j hj => by
    have hc := h.cell (j := j) (tv_at hj)
    have ha : (⟨g, 0, none⟩ : Addr).add j = ⟨g, j, none⟩ := by unfold Addr.add; split <;> simp_all
    rw [ha, hc]⟩

theorem RdT.take {w : World} {B : Nat} {A : Option Addr} {l : List Tm} (h : RdT w B A l) (k : Nat) : RdT w B A (l.take k) := fun hm => by
  have hk : (l.take k).length ≤ l.length := by simp; omega
  obtain ⟨ad, e, hb, hc⟩ := h (by omega)
  refine ⟨ad, e, hb, fun j hj => ?_⟩
  rw [hc j (by omega)]
  have hj4 : j / 4 < (l.take k).length := by omega
  have h1 : j / 4 < l.length := by omega
  have h2 : j / 4 < k := by simp at hj4; omega
  simp only [tc, List.getD_eq_getElem?_getD, List.getElem?_take, if_pos h2]

theorem make_terms {P : Program} (t e : TypeId) (ht : P.underlying t = some (.slice e)) (hi : (P.info? e).map (fun i => (i.zero, i.size, i.bytes)) = some (some (.agg #[.int .i64 0, .int .i64 0, .int .i64 0, .int .i64 0]), 4, 32)) (n : Nat) (hn : n ≤ 65536) (w : World) :
    (Instr.makeSlice t (.int .i64 (n : Int)) (.int .i64 (n : Int))).run P w = .ok (.slice (some ⟨w.heap.size, 0, none⟩) n n) (w.alloc (.cells (tv (List.replicate n tz)).toArray e)) := by
  obtain ⟨i0, hi0, hz, hs, hb⟩ := info_parts hi
  have h := run_make (P := P) w t e i0 _ ht hi0 hz .i64 .i64 (n : Int) (n : Int) (by omega) (by omega) (by rw [hb]; omega) (by omega)
  simp only [Int.toNat_natCast, hs] at h
  rw [h]
  have hm : madeCells (Value.agg #[.int .i64 0, .int .i64 0, .int .i64 0, .int .i64 0]).cells (n * 4) = (tv (List.replicate n tz)).toArray := by
    apply Array.ext
    · simp [madeCells, tv_len]
    · intro j h1 h2
      have hj : j < (List.replicate n tz).length * 4 := by simp [madeCells] at h1; simpa using h1
      have hr : (tv (List.replicate n tz)).toArray[j] = tc (List.replicate n tz) j := by
        have := tv_at hj
        rw [List.getElem?_eq_some_iff] at this
        obtain ⟨_, he⟩ := this
        simpa using he
      rw [hr]
      have h0 : (List.replicate n tz).getD (j / 4) tz = tz := by
        rw [List.getD_eq_getElem?_getD, List.getElem?_replicate]
        split <;> rfl
      have h4 : j % 4 = 0 ∨ j % 4 = 1 ∨ j % 4 = 2 ∨ j % 4 = 3 := by omega
      simp only [madeCells, Array.getElem_map, Array.getElem_range, tc, h0]
      rcases h4 with h4 | h4 | h4 | h4 <;> simp [Value.cells, h4, tz]
  rw [hm]

end Go.Proofs.Ythckglpleiojkaa

/-
  Slices of ints of the call's own: append, and what they read as.
-/

namespace Go.Proofs.Ythckglpleiojkaa
open Go.RowKit
set_option linter.unusedSimpArgs false
set_option linter.unusedVariables false
set_option maxRecDepth 100000

theorem int_app : AppTy Try.prog 23 3 1 8 := appTy_of (z := .int .i64 0) Try.underlying23 (by kernel_rfl) rfl (by omega)

theorem own_rdI {w : World} {base : Nat} {e : TypeId} {A : Option Addr} {c n : Nat} {xs : List Int} (h : w.ownsRow base e 1 (.slice A n c) n (iv xs)) (hn : xs.length = n) : RdI w w.heap.size A xs := by
  subst hn
  have := own_rd h
  rw [Nat.mul_one] at this
  exact this.congr fun j hj => by simp [iv, ic, hj]

theorem RdI.news {w : World} {B : Nat} {A : Option Addr} {xs : List Int} (h : RdI w B A xs) : ∀ ad, A = some ad → ∀ j u, (iv xs)[j]? = some u → w.cell? (ad.add j) = some u := by
  intro ad hA j u hu
  have hj : j < xs.length := by
    have := (List.getElem?_eq_some_iff.1 hu).1
    simpa [iv] using this
  obtain ⟨ad', e, _, hc⟩ := h (by omega)
  rw [hA] at e
  injection e with e
  subst e
  rw [hc j hj, ← hu]
  simp [iv, ic, hj]

theorem RdI.nil {w : World} {B : Nat} {A : Option Addr} {xs : List Int} (h : RdI w B A xs) : A = none → xs.length = 0 := by
  intro hA
  rcases Nat.eq_zero_or_pos xs.length with h0 | h0
  · exact h0
  · obtain ⟨ad, e, _⟩ := h h0
    rw [hA] at e
    cases e

theorem iv_one (xs : List Int) : ∀ u ∈ iv xs, u.oneCell' = true := by
  intro u hu
  simp only [iv, List.mem_map] at hu
  obtain ⟨x, _, rfl⟩ := hu
  rfl

theorem iv_append (a b : List Int) : iv (a ++ b) = iv a ++ iv b := by simp [iv]

theorem one_cell (x : Int) : ∀ u ∈ ([.int .i64 x] : List Value), u.oneCell' = true := fun u hu => by
  simp at hu
  subst hu
  rfl

end Go.Proofs.Ythckglpleiojkaa

/-
  codemasonref.Bit, In: words as sets.
-/

namespace Go.Proofs.Ythckglpleiojkaa
open Go.RowKit
set_option linter.unusedSimpArgs false
set_option linter.unusedVariables false
set_option maxRecDepth 100000

/-- is number i in the word W? -/
def bitB (W : Nat) (i : Int) : Bool := decide (0 ≤ i ∧ i < 32) && W.testBit i.toNat

theorem pow_lt_32 {v : Nat} (h : v < 32) : 2 ^ v < 4294967296 := by
  have : 2 ^ v ≤ 2 ^ 31 := Nat.pow_le_pow_right (by omega) (by omega)
  omega

theorem pow_u32' {v : Nat} (h : v < 32) : (2 : Int) ^ v % 4294967296 = ((2 ^ v : Nat) : Int) := by
  have h1 := pow_lt_32 h
  have h2 : (2 : Int) ^ v = ((2 ^ v : Nat) : Int) := by simp
  rw [h2]
  exact Int.emod_eq_of_lt (Int.natCast_nonneg _) (Int.ofNat_lt.2 h1)

set_option maxHeartbeats 1000000 in
theorem bit_any (W : Nat) (i : Int) (w : World) (hW : W < 4294967296) :
    Calls Try.prog 15 #[.int .u32 (W : Nat), .int .i64 i] w fun e w' => e = .returned (.bool (bitB W i)) ∧ w = w' := by
  by_cases h : 0 ≤ i ∧ i < 32
  · obtain ⟨n, rfl⟩ := Int.eq_ofNat_of_zero_le h.1
    have hn : n < 32 := by omega
    have hr : bitB W (n : Int) = (((W &&& 2 ^ n : Nat) : Int) != 0) := by rw [bit_and]; unfold bitB; rw [decide_eq_true h]; rfl
    rw [hr]
    have hand : bits .and .u32 (W : Int) ((2 : Int) ^ n % 4294967296) = ((W &&& 2 ^ n : Nat) : Int) := by rw [pow_u32' hn]; exact u32_and_nat _ _ hW (pow_lt_32 hn)
    clear hr h
    go_enter Try.func15, Try.ntmps15
    go_wp2
    go_ret
    exact ⟨ret_bool (by first | rfl | (rw [← hand]; rfl) | (simp only [hand])), rfl⟩
  · have hr : bitB W i = false := by unfold bitB; simp; omega
    rw [hr]
    clear hr
    by_cases h0 : 0 ≤ i
    · have h32 : 32 ≤ i := by omega
      clear h
      go_enter Try.func15, Try.ntmps15
      go_wp2
      go_ret
      exact ⟨rfl, rfl⟩
    · have h1 : i < 0 := by omega
      clear h h0
      go_enter Try.func15, Try.ntmps15
      go_wp2
      go_ret
      exact ⟨rfl, rfl⟩

end Go.Proofs.Ythckglpleiojkaa

/-
  Slices of records, each of m cells: reading, own blocks, append.
-/

namespace Go.Proofs.Ythckglpleiojkaa
open Go.RowKit
set_option linter.unusedSimpArgs false
set_option linter.unusedVariables false
set_option maxRecDepth 100000

section
variable {α : Type} {c : α → List Value} {m : Nat}

/-- records as values -/
def rv (c : α → List Value) (l : List α) : List Value := l.flatMap c

theorem rv_append (l r : List α) : rv c (l ++ r) = rv c l ++ rv c r := by simp [rv]

theorem rv_one (x : α) : rv c [x] = c x := by simp [rv]

theorem rv_len (hm : ∀ x, (c x).length = m) (l : List α) : (rv c l).length = l.length * m := by
  induction l with
  | nil => simp [rv]
  | cons t r ih =>
    rw [show t :: r = [t] ++ r from rfl, rv_append, List.length_append, rv_one, hm, ih, List.length_append, List.length_singleton, Nat.add_mul, Nat.one_mul]

theorem rv_at (hm : ∀ x, (c x).length = m) : ∀ {l : List α} {k i : Nat} {x : α}, l[k]? = some x → i < m → (rv c l)[k * m + i]? = (c x)[i]?
  | [], _, _, _, h, _ => by simp at h
  | t :: r, 0, i, x, h, hi => by
    simp at h
    subst h
    rw [show t :: r = [t] ++ r from rfl, rv_append, rv_one, Nat.zero_mul, Nat.zero_add, List.getElem?_append_left (by rw [hm]; exact hi)]
  | t :: r, k + 1, i, x, h, hi => by
    have e : (k + 1) * m + i = (c t).length + (k * m + i) := by rw [hm, Nat.add_mul, Nat.one_mul]; omega
    rw [show t :: r = [t] ++ r from rfl, rv_append, rv_one, e, List.getElem?_append_right (by omega), Nat.add_sub_cancel_left]
    exact rv_at hm (by simpa using h) hi

theorem rv_all {p : Value → Prop} (h : ∀ x, ∀ u ∈ c x, p u) (l : List α) : ∀ u ∈ rv c l, p u := fun u hu => by
  simp only [rv, List.mem_flatMap] at hu
  obtain ⟨x, _, hx⟩ := hu
  exact h x u hx

/-- a slice of records -/
def RdR (c : α → List Value) (w : World) (B : Nat) (A : Option Addr) (m : Nat) (l : List α) : Prop := Rd w B A (l.length * m) (fun j => (rv c l).getD j undef)

theorem RdR.below {w w' : World} {B B' : Nat} {A : Option Addr} {l : List α} (h : RdR c w B A m l) (hb : Below B' w w') (hB : B ≤ B') : RdR c w' B A m l := Rd.below h hb hB

theorem RdR.more {w : World} {B B' : Nat} {A : Option Addr} {l : List α} (h : RdR c w B A m l) (hB : B ≤ B') : RdR c w B' A m l := Rd.more h hB

theorem RdR.cell (hm : ∀ x, (c x).length = m) (h0 : 0 < m) {w : World} {B : Nat} {A : Option Addr} {l : List α} {k : Nat} (h : RdR c w B A m l) (hk : k < l.length) :
    ∃ (ad : Addr) (x : α), A = some ad ∧ (ad.add (k * m)).block < B ∧ l[k]? = some x ∧ ∀ i v, (c x)[i]? = some v → w.cell? ((ad.add (k * m)).add i) = some v := by
  have hlt : ∀ i, i < m → k * m + i < l.length * m := fun i hi => by
    have : (k + 1) * m ≤ l.length * m := Nat.mul_le_mul_right _ (by omega)
    rw [Nat.add_mul, Nat.one_mul] at this
    omega
  obtain ⟨ad, e, hb, hc⟩ := h (by have := hlt 0 h0; omega)
  have hx := List.getElem?_eq_getElem hk
  refine ⟨ad, l[k], e, by rw [addr_add_block]; exact hb, hx, fun i v hv => ?_⟩
  have hi : i < m := by
    rcases Nat.lt_or_ge i m with h1 | h1
    · exact h1
    · rw [List.getElem?_eq_none (by rw [hm]; exact h1)] at hv; cases hv
  rw [addr_add_add, hc _ (hlt i hi)]
  show some ((rv c l).getD (k * m + i) undef) = some v
  rw [List.getD_eq_getElem?_getD, rv_at hm hx hi, hv, Option.getD_some]

theorem RdR.nil (h0 : 0 < m) {w : World} {B : Nat} {A : Option Addr} {l : List α} (h : RdR c w B A m l) : A = none → l.length = 0 := by
  intro hA
  rcases Nat.eq_zero_or_pos l.length with hl | hl
  · exact hl
  · obtain ⟨ad, e, _⟩ := h (Nat.mul_pos hl h0)
    rw [hA] at e
    cases e

theorem own_rdR {w : World} {base : Nat} {e : TypeId} {A : Option Addr} {cap n : Nat} {l : List α} (h : w.ownsRow base e m (.slice A n cap) n (rv c l)) (hn : l.length = n) : RdR c w w.heap.size A m l := by
  subst hn
  exact own_rd h

end

/-- what turns while a slice of the call's own grows: its block alone -/
theorem grown_own {w w' : World} {base : Nat} {e : TypeId} {size : Nat} {v : Value} {n : Nat} {xs : List Value} (h : w.ownsRow base e size v n xs) (hg : w.grownBy w' v.ownBlock) (hb : base ≤ w.heap.size) : Below base w w' := own_base h hg hb

theorem grown_alloc (w : World) (o : Obj) (row : Option Nat) : w.grownBy (w.alloc o) row := World.grownBy_alloc w o row

theorem grown_drew {w w' : World} {row : Option Nat} (h : w.grownBy w' row) : w.grownBy w'.drew row := ⟨h.os, h.tape, h.output, h.size, h.block⟩

theorem cell_new {w0 : World} {cs : Array Value} {t : TypeId} {g j : Nat} {v : Value} (hg : g = w0.heap.size) (hv : cs[j]? = some v) : (w0.alloc (.cells cs t)).cell? ⟨g, j, none⟩ = some v := by
  subst hg
  exact (Own.new w0 t cs.toList).cell (by simpa using hv)

/-- a slice literal of terms reads -/
theorem rdT_new (w0 : World) (cs : Array Value) (t : TypeId) (l : List Tm) (g : Nat) (h : cs = (tv l).toArray) (hg : g = w0.heap.size) : RdT (w0.alloc (.cells cs t)) (w0.alloc (.cells cs t)).heap.size (some ⟨g, 0, none⟩) l := by
  subst h hg
  exact RdT.more (OwnT.rd (Own.new w0 t (tv l))) (by simp)

theorem RdR.news {α : Type} {c : α → List Value} {m : Nat} (hm : ∀ x, (c x).length = m) {w : World} {B : Nat} {A : Option Addr} {l : List α} (h : RdR c w B A m l) : ∀ ad, A = some ad → ∀ j u, (rv c l)[j]? = some u → w.cell? (ad.add j) = some u := by
  intro ad hA j u hu
  have hj : j < l.length * m := by
    have := (List.getElem?_eq_some_iff.1 hu).1
    rwa [rv_len hm] at this
  obtain ⟨ad', e, _, hc⟩ := h (by omega)
  rw [hA] at e
  injection e with e
  subst e
  rw [hc j hj]
  show some ((rv c l).getD j undef) = some u
  rw [List.getD_eq_getElem?_getD, hu]
  rfl

theorem below_via {w Y Z : World} (h : Below w.heap.size w Y) (h2 : Below Y.heap.size Y Z) : Below w.heap.size w Z := h.trans (h2.mono h.size)

theorem lit_below {U V : World} {g j : Nat} {v : Value} (h : U.cell? ⟨g, j, none⟩ = some v) (hb : Below U.heap.size U V) : V.cell? ⟨g, j, none⟩ = some v :=
  (hb.cell (World.block_lt_of_cell? U _ h)).trans h

theorem own_mono {w : World} {base base' : Nat} {e : TypeId} {size : Nat} {v : Value} {n : Nat} {xs : List Value} (h : w.ownsRow base e size v n xs) (hb : base' ≤ base) : w.ownsRow base' e size v n xs := by
  refine ⟨h.1, ?_⟩
  rcases h.2 with h2 | ⟨g, cap, cur, h1, h2, h3⟩
  · exact .inl h2
  · exact .inr ⟨g, cap, cur, h1, by omega, h3⟩

/-- append at a step of a region that draws its order, whatever the source -/
theorem step_app_any {P : Program} {w : World} {ops : Array Oper} {o : Oper} {a : Act} {K : Act → World → Prop} {Q : Exit → Act → World → Prop} {E : Prop} (hgd : o.guard = none) (s x : Operand) (t : TypeId)
    (ho : o.op = .call { callee := .builtin .append, args := #[s, x], argTypes := #[t, t] }) (base : Nat) (e : TypeId) (size bytes : Nat) (hT : AppTy P t e size bytes)
    {A : Option Addr} {n c : Nat} (xs : List Value) (hs : a.eval s = .slice A n c) (hown : w.ownsRow base e size (.slice A n c) n xs)
    {A2 : Option Addr} {m c2 : Nat} (news : List Value) (hx : a.eval x = .slice A2 m c2) (hl : news.length = m * size) (hn : A2 = none → m = 0) (hnews : ∀ ad, A2 = some ad → ∀ j u, news[j]? = some u → w.cell? (ad.add j) = some u) (h1 : ∀ u ∈ news, u.oneCell' = true)
    (hb1 : n + m ≤ maxLen) (hb2 : (n + m) * bytes ≤ 140737488355328) (hbase : base ≤ w.heap.size)
    (h : ∀ A' c' w', w'.ownsRow base e size (.slice A' (n + m) c') (n + m) (xs ++ news) → w.grownBy w' (Value.slice A n c).ownBlock → Below base w w' → K (a.put o.dst (.slice A' (n + m) c')) w') :
    if Region.wanted o (yielded ops a.tmps) = true then Oper.wp P o a w K Q else E := by
  have hw : Region.wanted o (yielded ops a.tmps) = true := by simp [Region.wanted, hgd]
  rw [if_pos hw]
  obtain ⟨A', c', w', hrun, h2, h3, h5⟩ := run_app (P := P) (w := w) base t o.type e size bytes hT A n c xs hown A2 m c2 news hl hn hnews h1 hb1 hb2 hbase
  unfold Oper.wp execOp
  simp only [ho, resolve, invoke, builtin, Sem.run_bind, Sem.run_pure, Result.andThen_ok, List.map_toArray, List.map_cons, List.map_nil, hs, hx, hrun]
  exact h A' c' w' h2 h3 (own_base hown h3 hbase)

/-! ### Steps -/

def cSt (s : St) : List Value := [.int .i64 s.op, .int .i64 s.to, .int .i64 s.a, .int .i64 s.b, .int .i64 s.v]

theorem cSt_len (s : St) : (cSt s).length = 5 := rfl

theorem cSt_one (s : St) : ∀ u ∈ cSt s, u.oneCell' = true := fun u hu => by
  simp [cSt] at hu
  rcases hu with rfl | rfl | rfl | rfl | rfl <;> rfl

/-- a slice of steps -/
def RdS (w : World) (B : Nat) (A : Option Addr) (l : List St) : Prop := RdR cSt w B A 5 l

theorem RdS.below {w w' : World} {B B' : Nat} {A : Option Addr} {l : List St} (h : RdS w B A l) (hb : Below B' w w') (hB : B ≤ B') : RdS w' B A l := Rd.below h hb hB

theorem RdS.more {w : World} {B B' : Nat} {A : Option Addr} {l : List St} (h : RdS w B A l) (hB : B ≤ B') : RdS w B' A l := Rd.more h hB

theorem RdS.at_ {w : World} {B : Nat} {A : Option Addr} {l : List St} {k : Nat} (h : RdS w B A l) (hk : k < l.length) :
    ∃ (ad : Addr) (o t a b v : Int), A = some ad ∧ (ad.add (k * 5)).block < B ∧ l[k]? = some ⟨o, t, a, b, v⟩ ∧ w.cell? (ad.add (k * 5)) = some (.int .i64 o) ∧
      w.cell? ⟨(ad.add (k * 5)).block, (ad.add (k * 5)).off + 1, none⟩ = some (.int .i64 t) ∧ w.cell? ⟨(ad.add (k * 5)).block, (ad.add (k * 5)).off + 2, none⟩ = some (.int .i64 a) ∧
      w.cell? ⟨(ad.add (k * 5)).block, (ad.add (k * 5)).off + 3, none⟩ = some (.int .i64 b) ∧ w.cell? ⟨(ad.add (k * 5)).block, (ad.add (k * 5)).off + 4, none⟩ = some (.int .i64 v) := by
  obtain ⟨ad, x, hA, hb, hx, hc⟩ := RdR.cell cSt_len (by omega) h hk
  exact ⟨ad, x.op, x.to, x.a, x.b, x.v, hA, hb, hx, hc 0 _ rfl, hc 1 _ rfl, hc 2 _ rfl, hc 3 _ rfl, hc 4 _ rfl⟩

end Go.Proofs.Ythckglpleiojkaa
