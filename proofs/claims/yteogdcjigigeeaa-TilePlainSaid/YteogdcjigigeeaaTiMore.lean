/-
  A list of tiles copied and lengthened by one within a region that draws its order (W2: TileMore).
-/
import Derived.Test.YteogdcjigigeeaaLawTile
import Derived.Test.YteogdcjigigeeaaRegionStepsB
namespace Go.Proofs.Yteogdcjigigeeaa
open Go.RowKit
set_option linter.unusedSimpArgs false
set_option linter.unusedVariables false
set_option maxRecDepth 100000

theorem tile_app : AppTy Try.prog 23 37 4 32 := appTy_of (z := .agg #[.int .i64 0, .int .i64 0, .int .i64 0, .int .i64 0]) Try.underlying23 (by kernel_rfl) rfl (by omega)

/-- what the region has made so far: the empty slice, the copy, the literal, the longer copy; whether it has called -/
structure TmX where
  e : Option Nat
  a : Option (Option Addr × Nat)
  x : Option Nat
  b : Option (Option Addr × Nat)
  r : Bool

def tmD (x : TmX) (j : Nat) : Bool := if j = 2 then x.e.isSome else if j = 4 then x.a.isSome else if j = 6 then x.x.isSome else if j = 7 then x.b.isSome else if j = 8 then x.r else false

def tmE (j : Nat) : Bool := j == 2 || j == 4 || j == 6 || j == 7 || j == 8

theorem tmE_cases {j : Nat} (h : tmE j = true) : j = 2 ∨ j = 4 ∨ j = 6 ∨ j = 7 ∨ j = 8 := by
  unfold tmE at h
  simp only [Bool.or_eq_true, beq_iff_eq] at h
  omega

theorem tmH0 {n : Nat} : ∀ i, i < n → tmE i = true → tmD ⟨none, none, none, none, false⟩ i = false := fun i _ h => by
  rcases tmE_cases h with rfl | rfl | rfl | rfl | rfl <;> rfl

section
variable {x : TmX}
theorem tno2 (h : tmD x 2 = false) : x.e = none := laNone h
theorem tno4 (h : tmD x 4 = false) : x.a = none := laNone h
theorem tno6 (h : tmD x 6 = false) : x.x = none := laNone h
theorem tno7 (h : tmD x 7 = false) : x.b = none := laNone h
theorem tno8 (h : tmD x 8 = false) : x.r = false := h
theorem tyes2 (h : tmD x 2 = true) : ∃ b, x.e = some b := laSome h
theorem tyes4 (h : tmD x 4 = true) : ∃ b, x.a = some b := laSome h
theorem tyes6 (h : tmD x 6 = true) : ∃ b, x.x = some b := laSome h
theorem tyes7 (h : tmD x 7 = true) : ∃ b, x.b = some b := laSome h
theorem tnx2 {b : Nat} : Nxt tmE tmD x ⟨some b, x.a, x.x, x.b, x.r⟩ 2 := fun j hj => by rcases tmE_cases hj with rfl | rfl | rfl | rfl | rfl <;> simp [tmD]
theorem tnx4 {b : Option Addr × Nat} : Nxt tmE tmD x ⟨x.e, some b, x.x, x.b, x.r⟩ 4 := fun j hj => by rcases tmE_cases hj with rfl | rfl | rfl | rfl | rfl <;> simp [tmD]
theorem tnx6 {b : Nat} : Nxt tmE tmD x ⟨x.e, x.a, some b, x.b, x.r⟩ 6 := fun j hj => by rcases tmE_cases hj with rfl | rfl | rfl | rfl | rfl <;> simp [tmD]
theorem tnx7 {b : Option Addr × Nat} : Nxt tmE tmD x ⟨x.e, x.a, x.x, some b, x.r⟩ 7 := fun j hj => by rcases tmE_cases hj with rfl | rfl | rfl | rfl | rfl <;> simp [tmD]
theorem tnx8 : Nxt tmE tmD x ⟨x.e, x.a, x.x, x.b, true⟩ 8 := fun j hj => by rcases tmE_cases hj with rfl | rfl | rfl | rfl | rfl <;> simp [tmD]
end

/-- how the region stands -/
structure TmS (X : World) (len : Nat) (l : List Ti) (p : Ti) (x : TmX) (w : World) : Prop where
  be : Below X.heap.size X w
  s1 : ∀ b, x.e = some b → x.a = none → b < w.heap.size ∧ w.ownsRow X.heap.size 37 4 (.slice (some ⟨b, 0, none⟩) 0 0) 0 []
  s3 : ∀ A c, x.a = some (A, c) → x.b = none → w.ownsRow X.heap.size 37 4 (.slice A len c) len (rv cTi l)
  s5 : ∀ b, x.x = some b → x.b = none → Own w b 37 (cTi p) ∧ ∀ b', x.e = some b' → x.a = none → b ≠ b'
  s6 : ∀ A c, x.b = some (A, c) → RdTi w w.heap.size A (l ++ [p])
  o6 : x.a = none → x.b = none

section
variable {X w : World} {len : Nat} {l : List Ti} {p : Ti} {x : TmX}

theorem TmS.start : TmS X len l p ⟨none, none, none, none, false⟩ X.drew := ⟨Below.drew (Below.refl _ _), (fun b h => by cases h), (fun A c h => by cases h), (fun b h => by cases h), (fun A c h => by cases h), fun _ => rfl⟩

theorem TmS.mk2 (h : TmS X len l p x w) (he : x.e = none) (ha : x.a = none) : TmS X len l p ⟨some w.heap.size, x.a, x.x, x.b, x.r⟩ (w.alloc (.cells #[] 37)) := by
  have hb := h.o6 ha
  refine ⟨h.be.alloc h.be.size _, fun b e _ => ?_, fun A c e _ => ?_, fun b e e2 => ?_, fun A c e => ?_, h.o6⟩
  · injection e with e
    subst e
    exact ⟨by simp, World.ownsRow_made w #[] 0 h.be.size (Nat.zero_le _) rfl⟩
  · rw [ha] at e; cases e
  · obtain ⟨q1, _⟩ := h.s5 b e e2
    refine ⟨q1.alloc _, fun b' e3 _ => ?_⟩
    injection e3 with e3
    subst e3
    exact Nat.ne_of_lt q1.lt
  · simp only at e; rw [hb] at e; cases e

theorem TmS.mk4 (h : TmS X len l p x w) {b c : Nat} {A : Option Addr} {w' : World} (he : x.e = some b) (ha : x.a = none) (ho : w'.ownsRow X.heap.size 37 4 (.slice A len c) len (rv cTi l)) (hg : w.grownBy w' (some b)) (hbe : Below X.heap.size w w') : TmS X len l p ⟨x.e, some (A, c), x.x, x.b, x.r⟩ w' := by
  have hb := h.o6 ha
  refine ⟨h.be.trans hbe, (fun b e e2 => by cases e2), fun A' c' e _ => ?_, fun b' e e2 => ?_, fun A c e => ?_, (fun e => by cases e)⟩
  · injection e with e
    injection e with e1 e2
    subst e1 e2
    exact ho
  · obtain ⟨q1, q2⟩ := h.s5 b' e e2
    refine ⟨(hg.block b' q1.lt ?_).trans q1, fun _ _ e3 => by cases e3⟩
    intro q
    injection q with q
    exact q2 b he ha q
  · simp only at e; rw [hb] at e; cases e

theorem TmS.mk6 (h : TmS X len l p x w) (hx : x.x = none) (hb : x.b = none) : TmS X len l p ⟨x.e, x.a, some w.heap.size, x.b, x.r⟩ (w.alloc (.cells (cTi p).toArray 37)) := by
  have hq : Below w.heap.size w (w.alloc (.cells (cTi p).toArray 37)) := (Below.refl _ _).alloc (Nat.le_refl _) _
  refine ⟨h.be.alloc h.be.size _, fun b e e2 => ?_, fun A c e e2 => own_below (h.s3 A c e e2) hq, fun b e e2 => ?_, fun A c e => ?_, h.o6⟩
  · obtain ⟨q1, q2⟩ := h.s1 b e e2
    exact ⟨Nat.lt_of_lt_of_le q1 hq.size, own_below q2 hq⟩
  · injection e with e
    subst e
    refine ⟨Own.new w _ _, fun b' e3 e4 => ?_⟩
    have := (h.s1 b' e3 e4).1
    omega
  · simp only at e; rw [hb] at e; cases e

theorem TmS.mk7 (h : TmS X len l p x w) {c : Nat} {A : Option Addr} {w' : World} {q : Option Addr × Nat} (ha : x.a = some q) (hb : x.b = none) (hl : l.length = len) (ho : w'.ownsRow X.heap.size 37 4 (.slice A (len + 1) c) (len + 1) (rv cTi l ++ cTi p)) (hbe : Below X.heap.size w w') : TmS X len l p ⟨x.e, x.a, x.x, some (A, c), x.r⟩ w' := by
  refine ⟨h.be.trans hbe, fun b e e2 => ?_, (fun A c e e2 => by cases e2), (fun b e e2 => by cases e2), fun A' c' e => ?_, (fun e => by simp only at e; rw [ha] at e; cases e)⟩
  · simp only at e2; rw [ha] at e2; cases e2
  · injection e with e
    injection e with e1 e3
    subst e1 e3
    exact own_rdR (l := l ++ [p]) (by rw [rv_append, rv_one]; exact ho) (by simp [hl])

theorem TmS.mk8 (h : TmS X len l p x w) {w' : World} {q3 q : Option Addr × Nat} (ha : x.a = some q3) (hb : x.b = some q) (hbe : Below w.heap.size w w') : TmS X len l p ⟨x.e, x.a, x.x, x.b, true⟩ w' := by
  refine ⟨h.be.trans (hbe.mono h.be.size), fun b e e2 => ?_, fun A c e e2 => ?_, fun b e e2 => ?_, fun A c e => ((h.s6 A c e).below hbe (Nat.le_refl _)).more hbe.size, h.o6⟩
  · simp only at e2; rw [ha] at e2; cases e2
  · simp only at e2; rw [hb] at e2; cases e2
  · simp only at e2; rw [hb] at e2; cases e2

end

theorem rdTi_own {X : World} {g : Nat} {t : TypeId} {ts : List Ti} (h : Own X g t (rv cTi ts)) : RdTi X (g + 1) (some ⟨g, 0, none⟩) ts := fun _ =>
  ⟨⟨g, 0, none⟩, rfl, Nat.lt_succ_self _, fun j hj => by
    have e : (rv cTi ts)[j]? = some ((rv cTi ts).getD j undef) := by
      rw [List.getD_eq_getElem?_getD, List.getElem?_eq_getElem (by rw [rv_len cTi_len]; exact hj)]
      rfl
    have ha : (⟨g, 0, none⟩ : Addr).add j = ⟨g, j, none⟩ := by unfold Addr.add; split <;> simp_all
    rw [ha]
    exact Own.cell h e⟩

/-! ### What one tile more brings -/

theorem more_no {vars : Int} {l : List Tm} {ts : List Ti} {x : Ti} (h : ckTl vars l ts = 0) (h' : ckTl vars l (ts ++ [x]) ≠ 0) : ts.length = 10 ∨ ckTi [x] ≠ 0 := by
  obtain ⟨h1, n, c, h2⟩ := ckTl_ok h
  obtain ⟨h3, h4⟩ := ckTT_ok h1
  obtain ⟨htn, _⟩ := ckTi_ok h4
  rcases Nat.lt_or_ge ts.length 10 with h10 | h10
  · right
    intro hx
    refine h' ?_
    have hl : ckTiL ts = 0 := by
      unfold ckTi at h4
      rw [if_neg (by omega)] at h4
      exact h4
    have h5 : ckTi (ts ++ [x]) = 0 := by
      unfold ckTi at hx ⊢
      rw [if_neg (by simp)] at hx
      rw [if_neg (by simp; omega), ckTiL_app hl]
      exact hx
    have h6 : ckTT vars l (ts ++ [x]) = 0 := by unfold ckTT; rw [if_pos h3]; exact h5
    obtain ⟨n', c', h7, _⟩ := cho_more (ckTree_ok h3).1 x _ n c h2
    unfold ckTl
    rw [h6, if_pos rfl, h7, if_neg (by intro q; cases q)]
  · left
    omega

theorem more_le {vars : Int} {l : List Tm} {ts : List Ti} {x : Ti} (h : ckTl vars l ts = 0) (h' : ckTl vars l (ts ++ [x]) = 0) : tcR vars l (ts ++ [x]) ≤ tcR vars l ts ∧ 0 ≤ tcR vars l (ts ++ [x]) := by
  obtain ⟨h1, n, c, h2⟩ := ckTl_ok h
  obtain ⟨h3, h4⟩ := ckTT_ok h1
  obtain ⟨n', c', h7, h8⟩ := cho_more (ckTree_ok h3).1 x _ n c h2
  unfold tcR
  rw [if_pos h, if_pos h', coA_of h2, coA_of h7]
  omega

end Go.Proofs.Yteogdcjigigeeaa
