/-
  A list of assignments copied and lengthened by one within a region that draws its order (V2: PointMore).
-/
import Derived.Test.YtfbnmgnkigfgpaaPtSame
import Derived.Test.YtfbnmgnkigfgpaaMReg
import Derived.Test.YtfbnmgnkigfgpaaRegionStepsB
namespace Go.Proofs.Ytfbnmgnkigfgpaa
open Go.RowKit
set_option linter.unusedSimpArgs false
set_option linter.unusedVariables false
set_option maxRecDepth 100000

theorem point_appQ : AppTy Try.prog 22 41 3 24 := appTy_of (z := .agg #[.int .i64 0, .int .i64 0, .int .i64 0]) Try.underlying22 (by kernel_rfl) rfl (by omega)

theorem below_viaM {w Y Z : World} (h : Below w.heap.size w Y) (h2 : Below Y.heap.size Y Z) : Below w.heap.size w Z := h.trans (h2.mono h.size)

/-- what the region has made so far: the empty slice, the copy, the literal, the longer copy, the result -/
structure MoX where
  e : Option Nat
  a : Option (Option Addr × Nat)
  x : Option Nat
  b : Option (Option Addr × Nat)
  r : Option (Option Addr × Nat × Nat)

def moD (x : MoX) (j : Nat) : Bool := if j = 1 then x.e.isSome else if j = 3 then x.a.isSome else if j = 5 then x.x.isSome else if j = 6 then x.b.isSome else if j = 7 then x.r.isSome else false

def moE (j : Nat) : Bool := j == 1 || j == 3 || j == 5 || j == 6 || j == 7

theorem moE_cases {j : Nat} (h : moE j = true) : j = 1 ∨ j = 3 ∨ j = 5 ∨ j = 6 ∨ j = 7 := by
  unfold moE at h
  simp only [Bool.or_eq_true, beq_iff_eq] at h
  omega

theorem moH0 {n : Nat} : ∀ i, i < n → moE i = true → moD ⟨none, none, none, none, none⟩ i = false := fun i _ h => by
  rcases moE_cases h with rfl | rfl | rfl | rfl | rfl <;> rfl

theorem opt_none {α : Type} {o : Option α} (h : o.isSome = false) : o = none := by
  cases o with
  | none => rfl
  | some x => cases h

theorem opt_some {α : Type} {o : Option α} (h : o.isSome = true) : ∃ b, o = some b := by
  cases o with
  | none => cases h
  | some x => exact ⟨x, rfl⟩

section
variable {x : MoX}
theorem no1 (h : moD x 1 = false) : x.e = none := opt_none h
theorem no3 (h : moD x 3 = false) : x.a = none := opt_none h
theorem no5 (h : moD x 5 = false) : x.x = none := opt_none h
theorem no6 (h : moD x 6 = false) : x.b = none := opt_none h
theorem no7 (h : moD x 7 = false) : x.r = none := opt_none h
theorem yes1 (h : moD x 1 = true) : ∃ b, x.e = some b := opt_some h
theorem yes3 (h : moD x 3 = true) : ∃ b, x.a = some b := opt_some h
theorem yes5 (h : moD x 5 = true) : ∃ b, x.x = some b := opt_some h
theorem yes6 (h : moD x 6 = true) : ∃ b, x.b = some b := opt_some h
theorem yes7 (h : moD x 7 = true) : ∃ b, x.r = some b := opt_some h
theorem nx1 {b : Nat} : Nxt moE moD x ⟨some b, x.a, x.x, x.b, x.r⟩ 1 := fun j hj => by rcases moE_cases hj with rfl | rfl | rfl | rfl | rfl <;> simp [moD]
theorem nx3 {b : Option Addr × Nat} : Nxt moE moD x ⟨x.e, some b, x.x, x.b, x.r⟩ 3 := fun j hj => by rcases moE_cases hj with rfl | rfl | rfl | rfl | rfl <;> simp [moD]
theorem nx5 {b : Nat} : Nxt moE moD x ⟨x.e, x.a, some b, x.b, x.r⟩ 5 := fun j hj => by rcases moE_cases hj with rfl | rfl | rfl | rfl | rfl <;> simp [moD]
theorem nx6 {b : Option Addr × Nat} : Nxt moE moD x ⟨x.e, x.a, x.x, some b, x.r⟩ 6 := fun j hj => by rcases moE_cases hj with rfl | rfl | rfl | rfl | rfl <;> simp [moD]
theorem nx7 {b : Option Addr × Nat × Nat} : Nxt moE moD x ⟨x.e, x.a, x.x, x.b, some b⟩ 7 := fun j hj => by rcases moE_cases hj with rfl | rfl | rfl | rfl | rfl <;> simp [moD]
end

/-- how the region stands -/
structure MoS (X : World) (n : Int) (len : Nat) (l : List Pz) (p : Pz) (x : MoX) (w : World) : Prop where
  be : Below X.heap.size X w
  s1 : ∀ b, x.e = some b → x.a = none → b < w.heap.size ∧ w.ownsRow X.heap.size 41 3 (.slice (some ⟨b, 0, none⟩) 0 0) 0 []
  s3 : ∀ A c, x.a = some (A, c) → x.b = none → w.ownsRow X.heap.size 41 3 (.slice A len c) len (rv cPz l)
  s5 : ∀ b, x.x = some b → x.b = none → Own w b 41 (cPz p) ∧ ∀ b', x.e = some b' → x.a = none → b ≠ b'
  s6 : ∀ A c, x.b = some (A, c) → x.r = none → RdPz w w.heap.size A (l ++ [p])
  s7 : ∀ A m c, x.r = some (A, m, c) → ∃ S, RdU w w.heap.size A S ∧ ToldS (fun q _ => An q) n (l ++ [p]) m S
  o7 : x.b = none → x.r = none
  o6 : x.a = none → x.b = none

section
variable {X w : World} {n : Int} {len : Nat} {l : List Pz} {p : Pz} {x : MoX}

theorem MoS.start : MoS X n len l p ⟨none, none, none, none, none⟩ X.drew := ⟨Below.drew (Below.refl _ _), (fun b h => by cases h), (fun A c h => by cases h), (fun b h => by cases h), (fun A c h => by cases h), (fun A m c h => by cases h), (fun _ => rfl), fun _ => rfl⟩

theorem MoS.mk1 (h : MoS X n len l p x w) (he : x.e = none) (ha : x.a = none) (hb : x.b = none) : MoS X n len l p ⟨some w.heap.size, x.a, x.x, x.b, x.r⟩ (w.alloc (.cells #[] 41)) := by
  refine ⟨h.be.alloc h.be.size _, fun b e _ => ?_, fun A c e _ => ?_, fun b e e2 => ?_, fun A c e => ?_, fun A m c e => ?_, h.o7, h.o6⟩
  · injection e with e
    subst e
    exact ⟨by simp, World.ownsRow_made w #[] 0 h.be.size (Nat.zero_le _) rfl⟩
  · rw [ha] at e; cases e
  · obtain ⟨q1, _⟩ := h.s5 b e e2
    refine ⟨q1.alloc _, fun b' e3 _ => ?_⟩
    injection e3 with e3
    subst e3
    exact Nat.ne_of_lt q1.lt
  · simp only at e; rw [hb] at e; cases e
  · have := h.o7 hb
    simp only at e
    rw [this] at e
    cases e

theorem MoS.mk3 (h : MoS X n len l p x w) {b c : Nat} {A : Option Addr} {w' : World} (he : x.e = some b) (ha : x.a = none) (hb : x.b = none) (ho : w'.ownsRow X.heap.size 41 3 (.slice A len c) len (rv cPz l)) (hg : w.grownBy w' (some b)) (hbe : Below X.heap.size w w') : MoS X n len l p ⟨x.e, some (A, c), x.x, x.b, x.r⟩ w' := by
  refine ⟨h.be.trans hbe, (fun b e e2 => by cases e2), fun A' c' e _ => ?_, fun b' e e2 => ?_, fun A c e => ?_, fun A m c e => ?_, h.o7, (fun e => by cases e)⟩
  · injection e with e
    injection e with e1 e2
    subst e1 e2
    exact ho
  · obtain ⟨q1, q2⟩ := h.s5 b' e e2
    refine ⟨(hg.block b' q1.lt ?_).trans q1, fun _ _ e3 => by cases e3⟩
    intro q
    injection q with q
    exact q2 b he ha q
  · simp only at e; rw [hb] at e; cases e
  · have := h.o7 hb
    simp only at e
    rw [this] at e
    cases e

theorem MoS.mk5 (h : MoS X n len l p x w) (hx : x.x = none) (hb : x.b = none) : MoS X n len l p ⟨x.e, x.a, some w.heap.size, x.b, x.r⟩ (w.alloc (.cells (cPz p).toArray 41)) := by
  have hq : Below w.heap.size w (w.alloc (.cells (cPz p).toArray 41)) := (Below.refl _ _).alloc (Nat.le_refl _) _
  refine ⟨h.be.alloc h.be.size _, fun b e e2 => ?_, fun A c e e2 => own_below (h.s3 A c e e2) hq, fun b e e2 => ?_, fun A c e => ?_, fun A m c e => ?_, h.o7, h.o6⟩
  · obtain ⟨q1, q2⟩ := h.s1 b e e2
    exact ⟨Nat.lt_of_lt_of_le q1 hq.size, own_below q2 hq⟩
  · injection e with e
    subst e
    refine ⟨Own.new w _ _, fun b' e3 e4 => ?_⟩
    have := (h.s1 b' e3 e4).1
    omega
  · simp only at e; rw [hb] at e; cases e
  · have := h.o7 hb
    simp only at e
    rw [this] at e
    cases e

theorem MoS.mk6 (h : MoS X n len l p x w) {c : Nat} {A : Option Addr} {w' : World} {q : Option Addr × Nat} (ha : x.a = some q) (hb : x.b = none) (hl : l.length = len) (ho : w'.ownsRow X.heap.size 41 3 (.slice A (len + 1) c) (len + 1) (rv cPz l ++ cPz p)) (hbe : Below X.heap.size w w') : MoS X n len l p ⟨x.e, x.a, x.x, some (A, c), x.r⟩ w' := by
  refine ⟨h.be.trans hbe, fun b e e2 => ?_, (fun A c e e2 => by cases e2), (fun b e e2 => by cases e2), fun A' c' e e2 => ?_, fun A m c e => ?_, (fun e => by cases e), (fun e => by simp only at e; rw [ha] at e; cases e)⟩
  · simp only at e2; rw [ha] at e2; cases e2
  · injection e with e
    injection e with e1 e3
    subst e1 e3
    exact own_rdR (l := l ++ [p]) (by rw [rv_append, rv_one]; exact ho) (by simp [hl])
  · have := h.o7 hb
    simp only at e
    rw [this] at e
    cases e

theorem MoS.mk7 (h : MoS X n len l p x w) {w' : World} {A : Option Addr} {m c : Nat} {q : Option Addr × Nat} {q3 : Option Addr × Nat} (ha : x.a = some q3) (hb : x.b = some q) {S : List Nat} (hr : RdU w' w'.heap.size A S) (ht : ToldS (fun q _ => An q) n (l ++ [p]) m S) (hbe : Below w.heap.size w w') : MoS X n len l p ⟨x.e, x.a, x.x, x.b, some (A, m, c)⟩ w' := by
  refine ⟨h.be.trans (hbe.mono h.be.size), fun b e e2 => ?_, fun A c e e2 => ?_, fun b e e2 => ?_, (fun A c e e2 => by cases e2), fun A' m' c' e => ?_, fun e => ?_, (fun e => by simp only at e; rw [ha] at e; cases e)⟩
  · simp only at e2; rw [ha] at e2; cases e2
  · simp only at e2; rw [hb] at e2; cases e2
  · simp only at e2; rw [hb] at e2; cases e2
  · injection e with e
    injection e with e1 e2
    injection e2 with e2 e3
    subst e1 e2 e3
    exact ⟨S, hr, ht⟩
  · simp only at e; rw [hb] at e; cases e

end

abbrev TrM := Option Addr × Nat × Nat

/-- and the result moved on, taken apart and assigned -/
structure MoY where
  x : MoX
  c8 : Option TrM
  c9 : Option TrM
  c11 : Option TrM

def myD (y : MoY) (j : Nat) : Bool := if j = 8 then y.c8.isSome else if j = 9 then y.c9.isSome else if j = 11 then y.c11.isSome else moD y.x j

def myE (j : Nat) : Bool := moE j || (j == 8 || (j == 9 || j == 11))

theorem myE_cases {j : Nat} (h : myE j = true) : (j = 1 ∨ j = 3 ∨ j = 5 ∨ j = 6 ∨ j = 7) ∨ j = 8 ∨ j = 9 ∨ j = 11 := by
  unfold myE at h
  simp only [Bool.or_eq_true, beq_iff_eq] at h
  rcases h with h | h
  · exact .inl (moE_cases h)
  · exact .inr h

theorem myH0 {n : Nat} : ∀ i, i < n → myE i = true → myD ⟨⟨none, none, none, none, none⟩, none, none, none⟩ i = false := fun i _ h => by
  rcases myE_cases h with (rfl | rfl | rfl | rfl | rfl) | rfl | rfl | rfl <;> rfl

theorem nY {x x' : MoX} {c8 c9 c11 : Option TrM} {i : Nat} (hi : moE i = true) (h : Nxt moE moD x x' i) : Nxt myE myD ⟨x, c8, c9, c11⟩ ⟨x', c8, c9, c11⟩ i := fun j hj => by
  have hc := moE_cases hi
  rcases myE_cases hj with (rfl | rfl | rfl | rfl | rfl) | rfl | rfl | rfl
  · exact h 1 rfl
  · exact h 3 rfl
  · exact h 5 rfl
  · exact h 6 rfl
  · exact h 7 rfl
  · exact ⟨.inr, fun q => q.resolve_left (by omega)⟩
  · exact ⟨.inr, fun q => q.resolve_left (by omega)⟩
  · exact ⟨.inr, fun q => q.resolve_left (by omega)⟩

section
variable {y : MoY}
theorem nO1 (h : myD y 1 = false) : y.x.e = none := opt_none h
theorem yE1 (h : myD y 1 = true) : ∃ b, y.x.e = some b := opt_some h
theorem nO3 (h : myD y 3 = false) : y.x.a = none := opt_none h
theorem yE3 (h : myD y 3 = true) : ∃ b, y.x.a = some b := opt_some h
theorem nO5 (h : myD y 5 = false) : y.x.x = none := opt_none h
theorem yE5 (h : myD y 5 = true) : ∃ b, y.x.x = some b := opt_some h
theorem nO6 (h : myD y 6 = false) : y.x.b = none := opt_none h
theorem yE6 (h : myD y 6 = true) : ∃ b, y.x.b = some b := opt_some h
theorem nO7 (h : myD y 7 = false) : y.x.r = none := opt_none h
theorem yE7 (h : myD y 7 = true) : ∃ b, y.x.r = some b := opt_some h
theorem nO8 (h : myD y 8 = false) : y.c8 = none := opt_none h
theorem yE8 (h : myD y 8 = true) : ∃ b, y.c8 = some b := opt_some h
theorem nO9 (h : myD y 9 = false) : y.c9 = none := opt_none h
theorem yE9 (h : myD y 9 = true) : ∃ b, y.c9 = some b := opt_some h
theorem nO11 (h : myD y 11 = false) : y.c11 = none := opt_none h
theorem yE11 (h : myD y 11 = true) : ∃ b, y.c11 = some b := opt_some h
theorem nY8 {q : TrM} : Nxt myE myD y ⟨y.x, some q, y.c9, y.c11⟩ 8 := fun j hj => by rcases myE_cases hj with (rfl | rfl | rfl | rfl | rfl) | rfl | rfl | rfl <;> simp [myD, moD]
theorem nY9 {q : TrM} : Nxt myE myD y ⟨y.x, y.c8, some q, y.c11⟩ 9 := fun j hj => by rcases myE_cases hj with (rfl | rfl | rfl | rfl | rfl) | rfl | rfl | rfl <;> simp [myD, moD]
theorem nY11 {q : TrM} : Nxt myE myD y ⟨y.x, y.c8, y.c9, some q⟩ 11 := fun j hj => by rcases myE_cases hj with (rfl | rfl | rfl | rfl | rfl) | rfl | rfl | rfl <;> simp [myD, moD]
end

/-- how the region stands, with what is done of the result -/
structure MyS (X : World) (n : Int) (len : Nat) (l : List Pz) (p : Pz) (y : MoY) (w : World) : Prop where
  s : MoS X n len l p y.x w
  k8 : ∀ q, y.c8 = some q → y.x.r = some q
  k9 : ∀ q, y.c9 = some q → y.c8 = some q
  k11 : ∀ q, y.c11 = some q → y.c9 = some q

section
variable {X w : World} {n : Int} {len : Nat} {l : List Pz} {p : Pz} {y : MoY}

theorem MyS.start : MyS X n len l p ⟨⟨none, none, none, none, none⟩, none, none, none⟩ X.drew := ⟨MoS.start, (fun q e => by cases e), (fun q e => by cases e), fun q e => by cases e⟩

theorem MyS.up (h : MyS X n len l p y w) {x' : MoX} {w' : World} (h' : MoS X n len l p x' w') (hr : ∀ q, y.x.r = some q → x'.r = some q) : MyS X n len l p ⟨x', y.c8, y.c9, y.c11⟩ w' := ⟨h', fun q e => hr q (h.k8 q e), h.k9, h.k11⟩

theorem MyS.mk8 (h : MyS X n len l p y w) {q : TrM} (h0 : y.c8 = none) (e : y.x.r = some q) : MyS X n len l p ⟨y.x, some q, y.c9, y.c11⟩ w := by
  refine ⟨h.s, fun q' e' => ?_, fun q' e' => ?_, h.k11⟩
  · injection e' with e'
    subst e'
    exact e
  · have := h.k9 q' e'
    rw [h0] at this
    cases this

theorem MyS.mk9 (h : MyS X n len l p y w) {q : TrM} (h0 : y.c9 = none) (e : y.c8 = some q) : MyS X n len l p ⟨y.x, y.c8, some q, y.c11⟩ w := ⟨h.s, h.k8, fun q' e' => by injection e' with e'; subst e'; exact e, fun q' e' => by
  have := h.k11 q' e'
  rw [h0] at this
  cases this⟩

theorem MyS.mk11 (h : MyS X n len l p y w) {q : TrM} (e : y.c9 = some q) : MyS X n len l p ⟨y.x, y.c8, y.c9, some q⟩ w := ⟨h.s, h.k8, h.k9, fun q' e' => by injection e' with e'; subst e'; exact e⟩

end

theorem own_newsM {w : World} {g : Nat} {t : TypeId} {cs : List Value} (h : Own w g t cs) : ∀ ad : Addr, some (⟨g, 0, none⟩ : Addr) = some ad → ∀ j u, cs[j]? = some u → w.cell? (ad.add j) = some u := fun ad he j u hu => by
  injection he with he
  subst he
  rw [Addr.add_lit, Nat.zero_add]
  exact h.cell hu

/-- whichever end it is laid to: the same is found -/
theorem ckPz_more {n : Int} {l : List Pz} {p : Pz} (h : ckPz n l = 0) : ckPz n (p :: l) = ckPz n (l ++ [p]) := by
  have hl : ckL n l = 0 := by
    unfold ckPz at h
    split at h
    · exact h
    · cases h
  have key : ∀ {l : List Pz}, ckL n l = 0 → ckL n (l ++ [p]) = ckL n [p] := by
    intro l
    induction l with
    | nil => intro _; rfl
    | cons a l ih =>
      intro h
      unfold ckL at h
      show ckL n (a :: (l ++ [p])) = _
      conv => lhs; unfold ckL
      split at h
      · rename_i h1
        rw [if_pos h1]
        split at h
        · rename_i h2
          rw [if_pos h2]
          exact ih h
        · cases h
      · cases h
  have e1 : ckL n (p :: l) = ckL n [p] := by
    conv => lhs; unfold ckL
    conv => rhs; unfold ckL
    rw [hl]
    rfl
  have e2 : sizesPz n (p :: l) ↔ sizesPz n (l ++ [p]) := by
    unfold sizesPz
    simp
  unfold ckPz
  by_cases hs : sizesPz n (p :: l)
  · rw [if_pos hs, if_pos (e2.1 hs), e1, key hl]
  · rw [if_neg hs, if_neg fun q => hs (e2.2 q)]

end Go.Proofs.Ytfbnmgnkigfgpaa
