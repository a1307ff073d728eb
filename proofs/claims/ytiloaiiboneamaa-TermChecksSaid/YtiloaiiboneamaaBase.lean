/-
  Plain words for walks: a slice that reads as given cells, nil included; small closers.
-/
import Derived.Test.YtiloaiiboneamaaRows
import Derived.WalkKit
import Derived.WalkSpells
import Derived.WalkLawsBesides
import Derived.Lib.Hide
import Derived.Handy
import Derived.Deep.Light
import Derived.Deep.Draws
namespace Go.Proofs.Ytiloaiiboneamaa
open Go.RowKit
set_option linter.unusedSimpArgs false
set_option linter.unusedVariables false

theorem ret_int {k : IntKind} {a b : Int} (h : a = b) : Ending.returned (.int k a) = .returned (.int k b) := by rw [h]
theorem ret_bool {a b : Bool} (h : a = b) : Ending.returned (.bool a) = .returned (.bool b) := by rw [h]
theorem ret_ii {k l : IntKind} {a b c d : Int} (h : a = b) (h' : c = d) : Ending.returned (.tuple #[.int k a, .int l c]) = .returned (.tuple #[.int k b, .int l d]) := by rw [h, h']

theorem addr_add_block (a : Addr) (n : Nat) : (a.add n).block = a.block := by unfold Addr.add; split <;> rfl
theorem addr_add_add (a : Addr) (i j : Nat) : (a.add i).add j = a.add (i + j) := by
  unfold Addr.add
  rcases Nat.eq_zero_or_pos i with hi | hi <;> rcases Nat.eq_zero_or_pos j with hj | hj <;> simp [hi, hj, Nat.add_assoc, Nat.ne_of_gt, Nat.add_eq_zero_iff]

/-- cells 0 .. m-1 from the slice's head on are f, below block B; nothing is asked of an empty slice -/
def Rd (w : World) (B : Nat) (A : Option Addr) (m : Nat) (f : Nat → Value) : Prop :=
  0 < m → ∃ ad : Addr, A = some ad ∧ ad.block < B ∧ ∀ j, j < m → w.cell? (ad.add j) = some (f j)

section
variable {w w' : World} {B m : Nat} {A : Option Addr} {f : Nat → Value}
theorem Rd.keep (h : Rd w B A m f) (hk : ∀ p : Addr, p.block < B → w'.cell? p = w.cell? p) : Rd w' B A m f := fun hm => by
  obtain ⟨ad, e, hb, hc⟩ := h hm
  exact ⟨ad, e, hb, fun j hj => (hk _ (by rw [addr_add_block]; exact hb)).trans (hc j hj)⟩
theorem Rd.below {B' : Nat} (h : Rd w B A m f) (hb : Below B' w w') (hB : B ≤ B') : Rd w' B A m f := h.keep fun _ hp => hb.cell (by omega)
theorem Rd.more {B' : Nat} (h : Rd w B A m f) (hB : B ≤ B') : Rd w B' A m f := fun hm => by
  obtain ⟨ad, e, hb, hc⟩ := h hm
  exact ⟨ad, e, by omega, hc⟩
theorem Rd.congr {g : Nat → Value} (h : Rd w B A m f) (hg : ∀ j, j < m → f j = g j) : Rd w B A m g := fun hm => by
  obtain ⟨ad, e, hb, hc⟩ := h hm
  exact ⟨ad, e, hb, fun j hj => by rw [← hg j hj]; exact hc j hj⟩
end

/-- integers as cells -/
def ic (xs : List Int) (j : Nat) : Value := .int .i64 (xs.getD j 0)
/-- a term -/
structure Tm where
  op : Int
  a : Int
  b : Int
  v : Int
def tz : Tm := ⟨0, 0, 0, 0⟩
/-- terms as cells, four a term -/
def tc (l : List Tm) (j : Nat) : Value :=
  let t := l.getD (j / 4) tz
  .int .i64 (if j % 4 = 0 then t.op else if j % 4 = 1 then t.a else if j % 4 = 2 then t.b else t.v)

/-- a slice of ints: its head, its length -/
def RdI (w : World) (B : Nat) (A : Option Addr) (xs : List Int) : Prop := Rd w B A xs.length (ic xs)
/-- a slice of terms -/
def RdT (w : World) (B : Nat) (A : Option Addr) (l : List Tm) : Prop := Rd w B A (l.length * 4) (tc l)

theorem RdI.below {w w' : World} {B B' : Nat} {A : Option Addr} {xs : List Int} (h : RdI w B A xs) (hb : Below B' w w') (hB : B ≤ B') : RdI w' B A xs := Rd.below h hb hB
theorem RdT.below {w w' : World} {B B' : Nat} {A : Option Addr} {l : List Tm} (h : RdT w B A l) (hb : Below B' w w') (hB : B ≤ B') : RdT w' B A l := Rd.below h hb hB
theorem RdI.more {w : World} {B B' : Nat} {A : Option Addr} {xs : List Int} (h : RdI w B A xs) (hB : B ≤ B') : RdI w B' A xs := Rd.more h hB
theorem RdT.more {w : World} {B B' : Nat} {A : Option Addr} {l : List Tm} (h : RdT w B A l) (hB : B ≤ B') : RdT w B' A l := Rd.more h hB

theorem drop_at {α : Type} {l : List α} {k : Nat} {x : α} (h : l[k]? = some x) : l.drop k = x :: l.drop (k + 1) := by
  obtain ⟨hk, rfl⟩ := List.getElem?_eq_some_iff.1 h
  exact List.drop_eq_getElem_cons hk

theorem RdI.at_ {w : World} {B : Nat} {A : Option Addr} {xs : List Int} {k : Nat} (h : RdI w B A xs) (hk : k < xs.length) :
    ∃ (ad : Addr) (x : Int), A = some ad ∧ ad.block < B ∧ xs[k]? = some x ∧ w.cell? (ad.add k) = some (.int .i64 x) := by
  obtain ⟨ad, e, hb, hc⟩ := h (by omega)
  refine ⟨ad, xs[k], e, hb, List.getElem?_eq_getElem hk, ?_⟩
  rw [hc k hk]
  simp [ic, hk]

theorem RdT.at_ {w : World} {B : Nat} {A : Option Addr} {l : List Tm} {k : Nat} (h : RdT w B A l) (hk : k < l.length) :
    ∃ (ad : Addr) (o a b v : Int), A = some ad ∧ ad.block < B ∧ l[k]? = some ⟨o, a, b, v⟩ ∧ w.cell? (ad.add (k * 4)) = some (.int .i64 o) ∧
      w.cell? ⟨(ad.add (k * 4)).block, (ad.add (k * 4)).off + 1, none⟩ = some (.int .i64 a) ∧ w.cell? ⟨(ad.add (k * 4)).block, (ad.add (k * 4)).off + 2, none⟩ = some (.int .i64 b) ∧ w.cell? ⟨(ad.add (k * 4)).block, (ad.add (k * 4)).off + 3, none⟩ = some (.int .i64 v) := by
  obtain ⟨ad, e, hb, hc⟩ := h (by omega)
  have hg : l.getD k tz = l[k] := by simp [hk]
  have q0 : (k * 4) / 4 = k := by omega
  have q1 : (k * 4 + 1) / 4 = k := by omega
  have q2 : (k * 4 + 2) / 4 = k := by omega
  have q3 : (k * 4 + 3) / 4 = k := by omega
  have r0 : (k * 4) % 4 = 0 := by omega
  have r1 : (k * 4 + 1) % 4 = 1 := by omega
  have r2 : (k * 4 + 2) % 4 = 2 := by omega
  have r3 : (k * 4 + 3) % 4 = 3 := by omega
  refine ⟨ad, l[k].op, l[k].a, l[k].b, l[k].v, e, hb, List.getElem?_eq_getElem hk, ?_, ?_, ?_, ?_⟩
  · rw [hc _ (by omega)]; simp only [tc, q0, r0, hg]; rfl
  · show w.cell? ((ad.add (k * 4)).add 1) = _
    rw [addr_add_add, hc _ (by omega)]; simp only [tc, q1, r1, hg]; rfl
  · show w.cell? ((ad.add (k * 4)).add 2) = _
    rw [addr_add_add, hc _ (by omega)]; simp only [tc, q2, r2, hg]; rfl
  · show w.cell? ((ad.add (k * 4)).add 3) = _
    rw [addr_add_add, hc _ (by omega)]; simp only [tc, q3, r3, hg]; rfl

end Go.Proofs.Ytiloaiiboneamaa
