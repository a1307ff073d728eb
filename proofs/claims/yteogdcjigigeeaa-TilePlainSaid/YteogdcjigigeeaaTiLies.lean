/-
  codemasonref.Lies returns on which terms tiles must lie, if one lies on a term (W1).
-/
import Derived.Test.YteogdcjigigeeaaTiLeaf
import Derived.Test.YteogdcjigigeeaaTiCost
import Derived.Test.YteogdcjigigeeaaRegionStepsB
namespace Go.Proofs.Yteogdcjigigeeaa
open Go.RowKit
set_option linter.unusedSimpArgs false
set_option linter.unusedVariables false
set_option maxRecDepth 100000

/-! ### Two numbers laid behind a row within one region -/

/-- what the region has made so far: a literal, the longer row, a literal, the longer row, the row assigned -/
structure LaX where
  x1 : Option Nat
  a : Option (Option Addr × Nat)
  x2 : Option Nat
  b : Option (Option Addr × Nat)
  r : Option (Option Addr × Nat)

def laD (x : LaX) (j : Nat) : Bool := if j = 6 then x.x1.isSome else if j = 7 then x.a.isSome else if j = 13 then x.x2.isSome else if j = 14 then x.b.isSome else if j = 15 then x.r.isSome else false

def laE (j : Nat) : Bool := j == 6 || j == 7 || j == 13 || j == 14 || j == 15

theorem laE_cases {j : Nat} (h : laE j = true) : j = 6 ∨ j = 7 ∨ j = 13 ∨ j = 14 ∨ j = 15 := by
  unfold laE at h
  simp only [Bool.or_eq_true, beq_iff_eq] at h
  omega

theorem laH0 {n : Nat} : ∀ i, i < n → laE i = true → laD ⟨none, none, none, none, none⟩ i = false := fun i _ h => by
  rcases laE_cases h with rfl | rfl | rfl | rfl | rfl <;> rfl

theorem laNone {α : Type} {o : Option α} (h : o.isSome = false) : o = none := by
  cases o with
  | none => rfl
  | some x => cases h

theorem laSome {α : Type} {o : Option α} (h : o.isSome = true) : ∃ b, o = some b := by
  cases o with
  | none => cases h
  | some x => exact ⟨x, rfl⟩

section
variable {x : LaX}
theorem lno6 (h : laD x 6 = false) : x.x1 = none := laNone h
theorem lno7 (h : laD x 7 = false) : x.a = none := laNone h
theorem lno13 (h : laD x 13 = false) : x.x2 = none := laNone h
theorem lno14 (h : laD x 14 = false) : x.b = none := laNone h
theorem lno15 (h : laD x 15 = false) : x.r = none := laNone h
theorem lyes6 (h : laD x 6 = true) : ∃ b, x.x1 = some b := laSome h
theorem lyes7 (h : laD x 7 = true) : ∃ b, x.a = some b := laSome h
theorem lyes13 (h : laD x 13 = true) : ∃ b, x.x2 = some b := laSome h
theorem lyes14 (h : laD x 14 = true) : ∃ b, x.b = some b := laSome h
theorem lyes15 (h : laD x 15 = true) : ∃ b, x.r = some b := laSome h
theorem lnx6 {b : Nat} : Nxt laE laD x ⟨some b, x.a, x.x2, x.b, x.r⟩ 6 := fun j hj => by rcases laE_cases hj with rfl | rfl | rfl | rfl | rfl <;> simp [laD]
theorem lnx7 {b : Option Addr × Nat} : Nxt laE laD x ⟨x.x1, some b, x.x2, x.b, x.r⟩ 7 := fun j hj => by rcases laE_cases hj with rfl | rfl | rfl | rfl | rfl <;> simp [laD]
theorem lnx13 {b : Nat} : Nxt laE laD x ⟨x.x1, x.a, some b, x.b, x.r⟩ 13 := fun j hj => by rcases laE_cases hj with rfl | rfl | rfl | rfl | rfl <;> simp [laD]
theorem lnx14 {b : Option Addr × Nat} : Nxt laE laD x ⟨x.x1, x.a, x.x2, some b, x.r⟩ 14 := fun j hj => by rcases laE_cases hj with rfl | rfl | rfl | rfl | rfl <;> simp [laD]
theorem lnx15 {b : Option Addr × Nat} : Nxt laE laD x ⟨x.x1, x.a, x.x2, x.b, some b⟩ 15 := fun j hj => by rcases laE_cases hj with rfl | rfl | rfl | rfl | rfl <;> simp [laD]
end

/-- how the region stands -/
structure LaS (X : World) (base : Nat) (A0 : Option Addr) (n c0 : Nat) (P : List Value) (u v : Int) (x : LaX) (w : World) : Prop where
  be : Below base X w
  bs : base ≤ X.heap.size
  s0 : x.a = none → w.ownsRow base 3 1 (.slice A0 n c0) n P
  s1 : ∀ b, x.x1 = some b → x.a = none → Own w b 3 [.int .i64 u]
  sa : ∀ A c, x.a = some (A, c) → x.b = none → w.ownsRow base 3 1 (.slice A (n + 1) c) (n + 1) (P ++ [.int .i64 u])
  s2 : ∀ b, x.x2 = some b → x.b = none → Own w b 3 [.int .i64 v] ∧ (x.a = none → (Value.slice A0 n c0).ownBlock ≠ some b) ∧ ∀ A c, x.a = some (A, c) → (Value.slice A (n + 1) c).ownBlock ≠ some b
  sb : ∀ A c, x.b = some (A, c) → w.ownsRow base 3 1 (.slice A (n + 1 + 1) c) (n + 1 + 1) (P ++ [.int .i64 u] ++ [.int .i64 v])
  sr : ∀ q, x.r = some q → x.b = some q
  o6 : x.a = none → x.b = none

section
variable {X w : World} {base : Nat} {A0 : Option Addr} {n c0 : Nat} {P : List Value} {u v : Int} {x : LaX}

theorem LaS.start (h : X.ownsRow base 3 1 (.slice A0 n c0) n P) (hb : base ≤ X.heap.size) : LaS X base A0 n c0 P u v ⟨none, none, none, none, none⟩ X.drew :=
  ⟨Below.drew (Below.refl _ _), hb, fun _ => own_below h ((Below.refl _ _).drew), (fun _ e => by cases e), (fun _ _ e => by cases e), (fun _ e => by cases e), (fun _ _ e => by cases e), (fun _ e => by cases e), fun _ => rfl⟩

theorem LaS.size (h : LaS X base A0 n c0 P u v x w) : base ≤ w.heap.size := Nat.le_trans h.bs h.be.size

theorem LaS.mk6 (h : LaS X base A0 n c0 P u v x w) (h0 : x.x1 = none) (ha : x.a = none) : LaS X base A0 n c0 P u v ⟨some w.heap.size, x.a, x.x2, x.b, x.r⟩ (w.alloc (.cells #[.int .i64 u] 3)) := by
  have hq : Below w.heap.size w (w.alloc (.cells #[.int .i64 u] 3)) := (Below.refl _ _).alloc (Nat.le_refl _) _
  have hb := h.o6 ha
  refine ⟨h.be.alloc h.size _, h.bs, fun e => own_below (h.s0 e) hq, fun b e e2 => ?_, fun A c e => ?_, fun b e e2 => ?_, fun A c e => ?_, h.sr, h.o6⟩
  · injection e with e
    subst e
    exact Own.new w _ [_]
  · simp only at e; rw [ha] at e; cases e
  · obtain ⟨q1, q2, q3⟩ := h.s2 b e e2
    exact ⟨q1.alloc _, q2, q3⟩
  · simp only at e; rw [hb] at e; cases e

theorem LaS.mk7 (h : LaS X base A0 n c0 P u v x w) {A : Option Addr} {c : Nat} {w' : World} (ha : x.a = none) (ho : w'.ownsRow base 3 1 (.slice A (n + 1) c) (n + 1) (P ++ [.int .i64 u])) (hg : w.grownBy w' (Value.slice A0 n c0).ownBlock) (hbe : Below base w w')
    (hk : (Value.slice A (n + 1) c).ownBlock = (Value.slice A0 n c0).ownBlock ∨ (Value.slice A (n + 1) c).ownBlock = some w.heap.size) : LaS X base A0 n c0 P u v ⟨x.x1, some (A, c), x.x2, x.b, x.r⟩ w' := by
  have hb := h.o6 ha
  refine ⟨h.be.trans hbe, h.bs, (fun e => by cases e), (fun b _ e2 => by cases e2), fun A' c' e _ => ?_, fun b e e2 => ?_, fun A c e => ?_, h.sr, (fun e => by cases e)⟩
  · injection e with e
    injection e with e1 e2
    subst e1 e2
    exact ho
  · obtain ⟨q1, q2, _⟩ := h.s2 b e e2
    have hne := q2 ha
    refine ⟨(hg.block b q1.lt (fun e3 => hne e3.symm)).trans q1, (fun e3 => by cases e3), fun A' c' e3 => ?_⟩
    injection e3 with e3
    injection e3 with e4 e5
    subst e4 e5
    rcases hk with hk | hk
    · rw [hk]
      exact hne
    · rw [hk]
      intro e6
      injection e6 with e6
      exact absurd q1.lt (by rw [← e6]; exact Nat.lt_irrefl _)
  · simp only at e; rw [hb] at e; cases e

theorem LaS.mk13 (h : LaS X base A0 n c0 P u v x w) (h0 : x.x2 = none) (hb : x.b = none) : LaS X base A0 n c0 P u v ⟨x.x1, x.a, some w.heap.size, x.b, x.r⟩ (w.alloc (.cells #[.int .i64 v] 3)) := by
  have hq : Below w.heap.size w (w.alloc (.cells #[.int .i64 v] 3)) := (Below.refl _ _).alloc (Nat.le_refl _) _
  refine ⟨h.be.alloc h.size _, h.bs, fun e => own_below (h.s0 e) hq, fun b e e2 => (h.s1 b e e2).alloc _, fun A c e e2 => own_below (h.sa A c e e2) hq, fun b e e2 => ?_, fun A c e => ?_, h.sr, h.o6⟩
  · injection e with e
    subst e
    refine ⟨Own.new w _ [_], fun e3 e4 => ?_, fun A c e3 e4 => ?_⟩
    · exact absurd ((h.s0 e3).lt _ e4).2 (Nat.lt_irrefl _)
    · exact absurd ((h.sa A c e3 hb).lt _ e4).2 (Nat.lt_irrefl _)
  · simp only at e; rw [hb] at e; cases e

theorem LaS.mk14 (h : LaS X base A0 n c0 P u v x w) {A : Option Addr} {c : Nat} {w' : World} {q : Option Addr × Nat} (ha : x.a = some q) (hb : x.b = none) (ho : w'.ownsRow base 3 1 (.slice A (n + 1 + 1) c) (n + 1 + 1) (P ++ [.int .i64 u] ++ [.int .i64 v])) (hbe : Below base w w') : LaS X base A0 n c0 P u v ⟨x.x1, x.a, x.x2, some (A, c), x.r⟩ w' := by
  refine ⟨h.be.trans hbe, h.bs, fun e => ?_, fun b e e2 => ?_, (fun A c e e2 => by cases e2), (fun b e e2 => by cases e2), fun A' c' e => ?_, fun q' e => ?_, fun e => ?_⟩
  · simp only at e; rw [ha] at e; cases e
  · simp only at e2; rw [ha] at e2; cases e2
  · injection e with e
    injection e with e1 e2
    subst e1 e2
    exact ho
  · have := h.sr q' e
    rw [hb] at this
    cases this
  · simp only at e; rw [ha] at e; cases e

theorem LaS.mk15 (h : LaS X base A0 n c0 P u v x w) {q : Option Addr × Nat} (hb : x.b = some q) : LaS X base A0 n c0 P u v ⟨x.x1, x.a, x.x2, x.b, some q⟩ w :=
  ⟨h.be, h.bs, h.s0, h.s1, h.sa, h.s2, h.sb, (fun q' e => by injection e with e; subst e; exact hb), h.o6⟩

end

theorem own_newsL {w : World} {g : Nat} {t : TypeId} {cs : List Value} (h : Own w g t cs) : ∀ ad : Addr, some (⟨g, 0, none⟩ : Addr) = some ad → ∀ j u, cs[j]? = some u → w.cell? (ad.add j) = some u := fun ad he j u hu => by
  injection he with he
  subst he
  rw [Addr.add_lit, Nat.zero_add]
  exact h.cell hu

def laR (v0 : Value) (m : Nat) : Option (Option Addr × Nat) → Value
  | none => v0
  | some q => .slice q.1 m q.2

theorem laR_none {v0 : Value} {m : Nat} {o : Option (Option Addr × Nat)} (h : o = none) : laR v0 m o = v0 := by
  rw [h]
  rfl

/-! ### The function -/

/-- a side's operand, and what is covered there -/
def sdJ (an bn k : Nat) : Nat := if k = 0 then an else bn

def sdO (tl tr : Int) (k : Nat) : Int := if k = 0 then tl else tr

/-- the leaves of the first k sides -/
def sdL (l : List Tm) (an bn : Nat) (tl tr : Int) (k : Nat) : List Nat := (List.range k).flatMap fun i => lvAt l (sdJ an bn i) (sdO tl tr i)

theorem sdL_next (l : List Tm) (an bn : Nat) (tl tr : Int) (k : Nat) : sdL l an bn tl tr (k + 1) = sdL l an bn tl tr k ++ lvAt l (sdJ an bn k) (sdO tl tr k) := by
  unfold sdL
  rw [List.range_succ, List.flatMap_append]
  simp

theorem sdL_two (l : List Tm) (an bn : Nat) (tl tr : Int) : sdL l an bn tl tr 2 = lvAt l an tl ++ lvAt l bn tr := by
  rw [sdL_next, sdL_next]
  simp [sdL, sdJ, sdO]

theorem sdL_len (l : List Tm) (an bn : Nat) (tl tr : Int) : ∀ k, (sdL l an bn tl tr k).length ≤ 2 * k
  | 0 => Nat.le_refl _
  | k + 1 => by
    have h1 := sdL_len l an bn tl tr k
    have h2 := lvAt_len l (sdJ an bn k) (sdO tl tr k)
    rw [sdL_next, List.length_append]
    omega

/-- on which terms tiles must lie, told where the tile fits -/
def liR (l : List Tm) (t : Tm) (ti : Ti) : List Nat := if mtc l t ti = true then lvs l t ti else []

theorem ret_li {A : Option Addr} {n c m : Nat} {b b' : Bool} (h : n = m) (h2 : b = b') : Ending.returned (.tuple #[.slice A n c, .bool b]) = .returned (.tuple #[.slice A m c, .bool b']) := by rw [h, h2]

set_option maxHeartbeats 16000000 in
theorem lies_any {vars : Int} (A : Option Addr) (len cap : Nat) (l : List Tm) (w : World) (hx : RdT w w.heap.size A l) (hl : l.length = len) (hc : ckTerms vars l = 0) (i : Nat) (o a b v : Int) (hd : l[i]? = some ⟨o, a, b, v⟩) (to tl tr tc : Int) (hk : TiOk ⟨to, tl, tr, tc⟩) :
    Calls Try.prog 12 #[.slice A len cap, .int .i64 (i : Nat), .agg #[.int .i64 to, .int .i64 tl, .int .i64 tr, .int .i64 tc]] w fun e w' => ∃ A' c', e = .returned (.tuple #[.slice A' (liR l ⟨o, a, b, v⟩ ⟨to, tl, tr, tc⟩).length c', .bool (mtc l ⟨o, a, b, v⟩ ⟨to, tl, tr, tc⟩)]) ∧ LvOwn w' w.heap.size A' c' (liR l ⟨o, a, b, v⟩ ⟨to, tl, tr, tc⟩) ∧ Below w.heap.size w w' := by
  have hcs := ckTerms_cases hc hd
  have hi := (List.getElem?_eq_some_iff.1 hd).1
  have hbt := ckTerms_bd hc
  obtain ⟨ad, o', a', b', v', rfl, hbl, hd', hc0, hc1, hc2, hc3⟩ := hx.at_ (k := i) hi
  rw [hd] at hd'
  injection hd' with hd'
  injection hd' with e1 e2 e3 e4
  subst e1 e2 e3 e4
  have hil : i < len := by omega
  by_cases h1 : o = to
  · subst h1
    by_cases ho : o < 3
    · have hlf := hk.leaf (show o ≤ 2 by omega)
      have htl : tl = 0 := hlf.1
      have htr : tr = 0 := hlf.2
      subst htl htr
      have hmt : mtc l ⟨o, a, b, v⟩ ⟨o, 0, 0, tc⟩ = true := mtc_iff.2 ⟨rfl, .inl rfl, .inl rfl⟩
      have HE : Hid (mtc l ⟨o, a, b, v⟩ ⟨o, 0, 0, tc⟩ = true) := Lib.hid hmt
      have HR : Hid (liR l ⟨o, a, b, v⟩ ⟨o, 0, 0, tc⟩ = []) := Lib.hid (by unfold liR lvs; rw [if_pos hmt, if_pos ho])
      have g1 : (o != o) = false := by simp
      have g2 : o ≤ 2 := by omega
      clear hx hl hcs hd hk hlf hmt hc
      go_enter Try.func12, Try.ntmps12
      go_wp2
      go_region
      all_goals
        go_wp2
        go_ret2
        rw [HR.out, HE.out]
        exact ⟨none, 0, rfl, World.ownsRow_nil _ _ _ _, by go_grown⟩
    · obtain ⟨an, rfl⟩ := Int.eq_ofNat_of_zero_le (by omega : 0 ≤ a)
      obtain ⟨bn, rfl⟩ := Int.eq_ofNat_of_zero_le (by omega : 0 ≤ b)
      have han : an < len := by omega
      have hbn : bn < len := by omega
      have HML : Hid (∀ b, (b = true ↔ ∀ k, k < 2 → (sdO tl tr k = 0 ∨ (tmA l (sdJ an bn k)).op = sdO tl tr k)) → mtc l ⟨o, (an : Int), (bn : Int), v⟩ ⟨o, tl, tr, tc⟩ = b) := Lib.hid fun b hb => by
        have h2 : mtc l ⟨o, (an : Int), (bn : Int), v⟩ ⟨o, tl, tr, tc⟩ = true ↔ b = true := by
          rw [hb, mtc_iff]
          refine ⟨fun h k hk2 => ?_, fun h => ⟨rfl, h 0 (by omega), h 1 (by omega)⟩⟩
          have : k = 0 ∨ k = 1 := by omega
          rcases this with rfl | rfl
          · exact h.2.1
          · exact h.2.2
        cases b <;> simpa using h2
      have HLV : Hid (lvs l ⟨o, (an : Int), (bn : Int), v⟩ ⟨o, tl, tr, tc⟩ = sdL l an bn tl tr 2) := Lib.hid (by rw [sdL_two]; unfold lvs; rw [if_neg ho]; rfl)
      have HXR : Hid (∀ W : World, Below w.heap.size w W → RdT W w.heap.size (some ad) l) := Lib.hid fun W hW => hx.below hW (Nat.le_refl _)
      have HCK := Lib.hid hc
      have HL := Lib.hid hl
      have g1 : (o != o) = false := by simp
      have g2 : decide (o ≤ 2) = false := by simp; omega
      have hl16 : len ≤ 16 := by omega
      clear hx hl hcs hd hk hc hbt
      go_enter Try.func12, Try.ntmps12
      go_wp2
      go_region
      all_goals
        go_wp2
        go_region
        all_goals
          go_wp2
          have HY0 : Own ((((w.alloc (.cells #[.int .i64 o, .int .i64 tl, .int .i64 tr, .int .i64 tc] 37)).alloc (.cells #[.int .i64 (an : Int), .int .i64 (bn : Int)] 3)).alloc (.cells #[.int .i64 tl, .int .i64 tr] 3)).drew.drew) w.heap.size 37 [.int .i64 o, .int .i64 tl, .int .i64 tr, .int .i64 tc] := (((Own.new w _ [_, _, _, _]).alloc _).alloc _).drew.drew
          have HY1 : Own ((((w.alloc (.cells #[.int .i64 o, .int .i64 tl, .int .i64 tr, .int .i64 tc] 37)).alloc (.cells #[.int .i64 (an : Int), .int .i64 (bn : Int)] 3)).alloc (.cells #[.int .i64 tl, .int .i64 tr] 3)).drew.drew) (w.heap.size + 1) 3 [.int .i64 (an : Int), .int .i64 (bn : Int)] := ((own_endT (by simp) _ [_, _]).alloc _).drew.drew
          have HY2 : Own ((((w.alloc (.cells #[.int .i64 o, .int .i64 tl, .int .i64 tr, .int .i64 tc] 37)).alloc (.cells #[.int .i64 (an : Int), .int .i64 (bn : Int)] 3)).alloc (.cells #[.int .i64 tl, .int .i64 tr] 3)).drew.drew) (w.heap.size + 1 + 1) 3 [.int .i64 tl, .int .i64 tr] := (own_endT (by simp) _ [_, _]).drew.drew
          have HBY : Below w.heap.size w ((((w.alloc (.cells #[.int .i64 o, .int .i64 tl, .int .i64 tr, .int .i64 tc] 37)).alloc (.cells #[.int .i64 (an : Int), .int .i64 (bn : Int)] 3)).alloc (.cells #[.int .i64 tl, .int .i64 tr] 3)).drew.drew) := Below.drew (Below.drew (by go_grown))
          obtain ⟨Y, hY⟩ : ∃ Y, Y = ((((w.alloc (.cells #[.int .i64 o, .int .i64 tl, .int .i64 tr, .int .i64 tc] 37)).alloc (.cells #[.int .i64 (an : Int), .int .i64 (bn : Int)] 3)).alloc (.cells #[.int .i64 tl, .int .i64 tr] 3)).drew.drew) := ⟨_, rfl⟩
          rw [← hY] at HY0 HY1 HY2 HBY ⊢
          have hsY : w.heap.size + 3 ≤ Y.heap.size := by rw [hY]; simp
          clear hY
          go_loopw [8, 44] (fun s z wr => ∃ (k : Nat) (A' : Option Addr) (c' : Nat), k ≤ 2 ∧ z = .int .i64 k ∧ s = .slice A' (sdL l an bn tl tr k).length c' ∧ LvOwn wr (w.heap.size + 3) A' c' (sdL l an bn tl tr k) ∧ (∀ q, q < k → (sdO tl tr q = 0 ∨ (tmA l (sdJ an bn q)).op = sdO tl tr q)) ∧ Own wr w.heap.size 37 [.int .i64 o, .int .i64 tl, .int .i64 tr, .int .i64 tc] ∧ Own wr (w.heap.size + 1) 3 [.int .i64 (an : Int), .int .i64 (bn : Int)] ∧ Own wr (w.heap.size + 1 + 1) 3 [.int .i64 tl, .int .i64 tr] ∧ w.heap.size + 3 ≤ wr.heap.size ∧ Below w.heap.size w wr) (fun s z _ => 2 - (intOf z).toNat)
          case atStart => exact ⟨0, none, 0, by omega, rfl, rfl, World.ownsRow_nil _ _ _ _, (fun q hq => by omega), HY0, HY1, HY2, hsY, HBY⟩
          case round =>
            obtain ⟨k, A', c', hk, rfl, rfl, hrow, hok, ho0, ho1, ho2, hsz, hbr⟩ := hrel
            clear HY0 HY1 HY2 HBY hsY
            have HOK := Lib.hid hok
            have hlen4 := sdL_len l an bn tl tr k
            by_cases hlt : k < 2
            · obtain ⟨jn, hjn, hjl, hcj⟩ : ∃ jn, sdJ an bn k = jn ∧ jn < len ∧ wr.cell? ⟨w.heap.size + 1, k, none⟩ = some (.int .i64 (jn : Nat)) := by
                have : k = 0 ∨ k = 1 := by omega
                rcases this with rfl | rfl
                · exact ⟨an, rfl, han, ho1.cell rfl⟩
                · exact ⟨bn, rfl, hbn, ho1.cell rfl⟩
              obtain ⟨op, hop, hcop⟩ : ∃ op, sdO tl tr k = op ∧ wr.cell? ⟨w.heap.size + 1 + 1, k, none⟩ = some (.int .i64 op) := by
                have : k = 0 ∨ k = 1 := by omega
                rcases this with rfl | rfl
                · exact ⟨tl, rfl, ho2.cell rfl⟩
                · exact ⟨tr, rfl, ho2.cell rfl⟩
              obtain ⟨ad2, oj, aj, bj, vj, he, hblj, hdj, hj0, hj1, hj2, hj3⟩ := (HXR.out wr hbr).at_ (k := jn) (by rw [HL.out]; exact hjl)
              injection he with he
              subst he
              have hblw := hblj
              have hblj : (ad.add (jn * 4)).block < wr.heap.size := by omega
              have htj := tmA_at hdj
              have hcj2 := ckTerms_cases HCK.out hdj
              have HNX := Lib.hid (sdL_next l an bn tl tr k)
              rw [hjn, hop] at HNX
              have HSJ := Lib.hid (And.intro hjn hop)
              have HTJ := Lib.hid htj
              have HS1 := ho1.lt
              have HS2 := ho2.lt
              obtain ⟨P, hP⟩ : ∃ P, sdL l an bn tl tr k = P := ⟨_, rfl⟩
              obtain ⟨P2, hP2⟩ : ∃ P, sdL l an bn tl tr (k + 1) = P := ⟨_, rfl⟩
              rw [hP] at hrow hlen4 HNX
              rw [hP2] at HNX
              simp only [hP]
              have HP := Lib.hid hP
              have HP2 := Lib.hid hP2
              have HROW := Lib.hid hrow
              have HO := Lib.hid (And.intro ho0 (And.intro ho1 ho2))
              have hlen := Lib.hid hlen4
              have h63 : P.length + 1 ≤ maxLen := by unfold maxLen; omega
              have hbig : (P.length + 1) * 8 ≤ 140737488355328 := by omega
              have h63b : P.length + 1 + 1 ≤ maxLen := by unfold maxLen; omega
              have hbigb : (P.length + 1 + 1) * 8 ≤ 140737488355328 := by omega
              have H63 := Lib.hid (And.intro h63 (And.intro hbig (And.intro h63b hbigb)))
              have hk0 : (k : Int) < 2 := by omega
              clear hjn hop hP hP2 hrow ho0 ho1 ho2 hdj htj hlen4 h63 hbig h63b hbigb hok
              by_cases h0 : op = 0
              · have HE2 : Hid (P2 = P ++ [jn]) := Lib.hid (by rw [HNX.out]; unfold lvAt; rw [if_pos h0])
                subst h0
                clear hj0 hj1 hj2 hj3 hcj2
                go_wp2_with (at_builtin; refine wpList_app rfl (.tmp 55) (.tmp 57) 30 rfl (w.heap.size + 3) 3 1 8 int_app (iv (ni P)) rfl (own_below HROW.out (by go_grown)) [.int .i64 (jn : Nat)] rfl rfl (fun h => by cases h) (cells_at rfl _ _) (one_cell _) H63.out.1 H63.out.2.1 (by simp; omega) ?_; intro A8 c8 w8 hown8 hg8 hb8)
                have hbq : Below (w.heap.size + 3) wr w8 := Below.trans (by go_grown) hb8
                go_round
                case rel =>
                  refine ⟨k + 1, A8, c8, by omega, by go_num, ?_, ?_, ?_, HO.out.1.below hbq (by omega), HO.out.2.1.below hbq (by omega), HO.out.2.2.below hbq (by omega), Nat.le_trans hsz hbq.size, hbr.trans (hbq.mono (by omega))⟩
                  · rw [HP2.out, HE2.out]; simp
                  · rw [HP2.out, HE2.out]; unfold LvOwn; rw [List.length_append, show iv (ni (P ++ [jn])) = iv (ni P) ++ [.int .i64 (jn : Nat)] from by simp [iv, ni]]; exact hown8
                  · intro q hq
                    rcases Nat.lt_or_ge q k with h3 | h3
                    · exact HOK.out q h3
                    · have : q = k := by omega
                      subst this
                      exact .inl HSJ.out.2
                case measure => (simp [intOf]; omega)
              · have g0 : (op == 0) = false := by simp [h0]
                by_cases h2 : oj = op
                · have HOK2 : Hid (∀ q, q < k + 1 → (sdO tl tr q = 0 ∨ (tmA l (sdJ an bn q)).op = sdO tl tr q)) := Lib.hid fun q hq => by
                    rcases Nat.lt_or_ge q k with h3 | h3
                    · exact HOK.out q h3
                    · have : q = k := by omega
                      subst this
                      rw [HSJ.out.1, HSJ.out.2, HTJ.out]
                      exact .inr h2
                  subst h2
                  have g3 : (oj != oj) = false := by simp
                  by_cases h3 : oj < 3
                  · have HE2 : Hid (P2 = P) := Lib.hid (by rw [HNX.out]; unfold lvAt; rw [if_neg h0, if_pos (by rw [HTJ.out]; exact h3), List.append_nil])
                    have g4 : ¬ (2 : Int) < oj := by omega
                    clear h0 h3 hcj2
                    go_wp2
                    go_round
                    case rel => exact ⟨k + 1, A', c', by omega, by go_num, by rw [HP2.out, HE2.out], by rw [HP2.out, HE2.out]; exact HROW.out, HOK2.out, HO.out.1, HO.out.2.1, HO.out.2.2, hsz, hbr⟩
                    case measure => (simp [intOf]; omega)
                  · obtain ⟨ajn, rfl⟩ := Int.eq_ofNat_of_zero_le (by omega : 0 ≤ aj)
                    obtain ⟨bjn, rfl⟩ := Int.eq_ofNat_of_zero_le (by omega : 0 ≤ bj)
                    have HE2 : Hid (P2 = P ++ [ajn, bjn]) := Lib.hid (by rw [HNX.out]; unfold lvAt; rw [if_neg h0, if_neg (by rw [HTJ.out]; exact h3), HTJ.out]; rfl)
                    have g4 : (2 : Int) < oj := by omega
                    clear h0 h3 hcj2
                    have HCJ : Hid (∀ W : World, Below (w.heap.size + 3) wr W → W.cell? ⟨(ad.add (jn * 4)).block, (ad.add (jn * 4)).off + 1, none⟩ = some (.int .i64 (ajn : Nat)) ∧ W.cell? ⟨(ad.add (jn * 4)).block, (ad.add (jn * 4)).off + 2, none⟩ = some (.int .i64 (bjn : Nat))) := Lib.hid fun W hW => ⟨(hW.cell (p := ⟨(ad.add (jn * 4)).block, (ad.add (jn * 4)).off + 1, none⟩) (by show (ad.add (jn * 4)).block < _; omega)).trans hj1, (hW.cell (p := ⟨(ad.add (jn * 4)).block, (ad.add (jn * 4)).off + 2, none⟩) (by show (ad.add (jn * 4)).block < _; omega)).trans hj2⟩
                    go_upto_region 16 with fail
                    obtain ⟨B, hB⟩ : ∃ B, w.heap.size + 3 = B := ⟨_, rfl⟩
                    have HB := Lib.hid hB
                    have HRW := HROW.out
                    rw [hB] at HRW HCJ
                    have hBs : B ≤ wr.heap.size := by omega
                    clear hB
                    refine wp_region_late (X := LaX) (fun x w => LaS wr B A' P.length c' (iv (ni P)) (ajn : Nat) (bjn : Nat) x w) laD laE [15] ⟨none, none, none, none, none⟩ (fun x => [.slice A' P.length c', .slice (some ad) len cap, .int .i64 (jn : Nat), .pointer (some (ad.add (jn * 4))), .pointer (some ⟨(ad.add (jn * 4)).block, (ad.add (jn * 4)).off + 1, none⟩), .int .i64 (ajn : Nat), .slice (some ⟨x.x1.getD 0, 0, none⟩) 1 1, .slice (x.a.getD (none, 0)).1 (P.length + 1) (x.a.getD (none, 0)).2, .slice (some ad) len cap, .int .i64 (jn : Nat), .pointer (some (ad.add (jn * 4))), .pointer (some ⟨(ad.add (jn * 4)).block, (ad.add (jn * 4)).off + 2, none⟩), .int .i64 (bjn : Nat), .slice (some ⟨x.x2.getD 0, 0, none⟩) 1 1, .slice (x.b.getD (none, 0)).1 (P.length + 1 + 1) (x.b.getD (none, 0)).2, laR (.slice A' P.length c') (P.length + 1 + 1) x.r]) _ (by kernel_rfl) (by kernel_rfl) (by kernel_rfl) (fun x => by simp only [putsD, Act.put, List.setIfInBounds_toArray, List.set_cons_zero, List.set_cons_succ]; exact rfl) (fun j hj => by rw [List.mem_singleton.1 hj]; rfl) laH0 (LaS.start HRW hBs) (fun x => ?_) (fun x wz hDz hSz => ?_)
                    · refine AllS.val (by rfl) (by rfl) (fun w hSw hPw => ?_) ?_
                      · (try dsimp only at hSw)
                        have hw := laR_none (v0 := .slice A' P.length c') (m := P.length + 1 + 1) (lno15 (hPw.not (j := 15) rfl (by kernel_rfl)))
                        go_simp
                      refine AllS.val (by rfl) (by rfl) (fun w hSw hPw => by go_simp) ?_
                      refine AllS.val (by rfl) (by rfl) (fun w hSw hPw => by go_simp) ?_
                      refine AllS.val (by rfl) (by rfl) (fun w hSw hPw => by go_simp) ?_
                      refine AllS.val (by rfl) (by rfl) (fun w hSw hPw => by go_simp) ?_
                      refine AllS.val (by rfl) (by rfl) (fun w hSw hPw => ?_) ?_
                      · (try dsimp only at hSw)
                        have q0 := (HCJ.out w hSw.be).1
                        go_simp
                      refine AllS.turn (fun _ _ => rfl) (by rfl) (fun w hSw hPw K hK => ?_) ?_
                      · (try dsimp only at hSw)
                        have h0 := lno6 (hPw.me rfl)
                        have h3 := lno7 (hPw.not (j := 7) rfl (by kernel_rfl))
                        have ht := hSw.mk6 h0 h3
                        clear h0 h3
                        go_simp
                        exact hK _ _ lnx6 ht
                      refine AllS.turn (fun _ _ => rfl) (by rfl) (fun w hSw hPw K hK => ?_) ?_
                      · (try dsimp only at hSw)
                        have h0 := lno7 (hPw.me rfl)
                        obtain ⟨b, hb⟩ := lyes6 (hPw.need (k := 6) rfl (by kernel_rfl))
                        have hs0 := hSw.s0 h0
                        have h1 := hSw.s1 b hb h0
                        refine oper_app' (.tmp 68) (.tmp 74) 30 rfl B 3 1 8 int_app (A := A') (n := P.length) (c := c') (iv (ni P)) rfl hs0 (A2 := some ⟨b, 0, none⟩) (m := 1) (c2 := 1) [.int .i64 (ajn : Nat)] (by show Value.slice (some ⟨x.x1.getD 0, 0, none⟩) 1 1 = _; rw [hb]; rfl) rfl (fun h => by cases h) (own_newsL h1) (one_cell _) H63.out.1 H63.out.2.1 hSw.size ?_
                        intro A8 c8 w8 hown8 hg8 hb8 hk8
                        exact hK ⟨x.x1, some (A8, c8), x.x2, x.b, x.r⟩ _ lnx7 (hSw.mk7 h0 hown8 hg8 hb8 hk8)
                      refine AllS.val (by rfl) (by rfl) (fun w hSw hPw => by go_simp) ?_
                      refine AllS.val (by rfl) (by rfl) (fun w hSw hPw => by go_simp) ?_
                      refine AllS.val (by rfl) (by rfl) (fun w hSw hPw => by go_simp) ?_
                      refine AllS.val (by rfl) (by rfl) (fun w hSw hPw => by go_simp) ?_
                      refine AllS.val (by rfl) (by rfl) (fun w hSw hPw => ?_) ?_
                      · (try dsimp only at hSw)
                        have q0 := (HCJ.out w hSw.be).2
                        go_simp
                      refine AllS.turn (fun _ _ => rfl) (by rfl) (fun w hSw hPw K hK => ?_) ?_
                      · (try dsimp only at hSw)
                        have h0 := lno13 (hPw.me rfl)
                        have h3 := lno14 (hPw.not (j := 14) rfl (by kernel_rfl))
                        have ht := hSw.mk13 h0 h3
                        clear h0 h3
                        go_simp
                        exact hK _ _ lnx13 ht
                      refine AllS.turn (fun _ _ => rfl) (by rfl) (fun w hSw hPw K hK => ?_) ?_
                      · (try dsimp only at hSw)
                        have h0 := lno14 (hPw.me rfl)
                        obtain ⟨⟨A5, c5⟩, hq⟩ := lyes7 (hPw.need (k := 7) rfl (by kernel_rfl))
                        obtain ⟨b, hb⟩ := lyes13 (hPw.need (k := 13) rfl (by kernel_rfl))
                        have h3 := hSw.sa A5 c5 hq h0
                        have h5 := (hSw.s2 b hb h0).1
                        refine oper_app' (.tmp 75) (.tmp 81) 30 rfl B 3 1 8 int_app (A := A5) (n := P.length + 1) (c := c5) (iv (ni P) ++ [.int .i64 (ajn : Nat)]) (by show Value.slice (x.a.getD (none, 0)).1 (P.length + 1) (x.a.getD (none, 0)).2 = _; rw [hq]; rfl) h3 (A2 := some ⟨b, 0, none⟩) (m := 1) (c2 := 1) [.int .i64 (bjn : Nat)] (by show Value.slice (some ⟨x.x2.getD 0, 0, none⟩) 1 1 = _; rw [hb]; rfl) rfl (fun h => by cases h) (own_newsL h5) (one_cell _) H63.out.2.2.1 H63.out.2.2.2 hSw.size ?_
                        intro A8 c8 w8 hown8 hg8 hb8 hk8
                        exact hK ⟨x.x1, x.a, x.x2, some (A8, c8), x.r⟩ _ lnx14 (hSw.mk14 hq h0 hown8 hb8)
                      refine AllS.turn (fun _ _ => rfl) (by rfl) (fun w hSw hPw K hK => ?_) ?_
                      · (try dsimp only at hSw)
                        obtain ⟨⟨A7, k7⟩, hq⟩ := lyes14 (hPw.need (k := 14) rfl (by kernel_rfl))
                        have ht := hSw.mk15 hq
                        obtain ⟨x1, xa, x2, xb, xr⟩ := x
                        (try dsimp only at hq)
                        subst hq
                        go_simp
                        exact hK _ _ lnx15 ht
                      exact AllS.nil
                    obtain ⟨⟨A7, c7⟩, h15⟩ := lyes15 (hDz 15 (by simp) rfl)
                    have hown7 := hSz.sb A7 c7 (hSz.sr _ h15)
                    have hbq := hSz.be
                    obtain ⟨x1, xa, x2, xb, xr⟩ := x
                    (try dsimp only at h15)
                    subst h15
                    have hB := HB.out
                    subst hB
                    have HOWN7 := Lib.hid hown7
                    have HBQ := Lib.hid hbq
                    clear hSz hDz hown7 hbq
                    simp only [laR]
                    go_wp2
                    go_round
                    case rel =>
                      refine ⟨k + 1, A7, c7, by omega, by go_num, ?_, ?_, HOK2.out, HO.out.1.below HBQ.out (by omega), HO.out.2.1.below HBQ.out (by omega), HO.out.2.2.below HBQ.out (by omega), Nat.le_trans hsz HBQ.out.size, hbr.trans (HBQ.out.mono (by omega))⟩
                      · rw [HP2.out, HE2.out]; simp
                      · rw [HP2.out, HE2.out]; unfold LvOwn; rw [List.length_append, show iv (ni (P ++ [ajn, bjn])) = iv (ni P) ++ [.int .i64 (ajn : Nat)] ++ [.int .i64 (bjn : Nat)] from by simp [iv, ni]]; exact HOWN7.out
                    case measure => (simp [intOf]; omega)
                · have HFL : Hid (mtc l ⟨o, (an : Int), (bn : Int), v⟩ ⟨o, tl, tr, tc⟩ = false) := Lib.hid (HML.out false (by
                    refine ⟨fun h => absurd h (by simp), fun h => ?_⟩
                    exfalso
                    have h4 := h k hlt
                    rw [HSJ.out.1, HSJ.out.2, HTJ.out] at h4
                    rcases h4 with h4 | h4
                    · exact h0 h4
                    · exact h2 h4))
                  have HR : Hid (liR l ⟨o, (an : Int), (bn : Int), v⟩ ⟨o, tl, tr, tc⟩ = []) := Lib.hid (by unfold liR; rw [if_neg (by rw [HFL.out]; simp)])
                  have g3 : (oj != op) = true := by simp [h2]
                  clear h0 h2 hcj2
                  go_wp2
                  go_ret2
                  rw [HR.out, HFL.out]
                  exact ⟨none, 0, rfl, World.ownsRow_nil _ _ _ _, hbr⟩
            · have hk2 : k = 2 := by omega
              subst hk2
              have HTR : Hid (mtc l ⟨o, (an : Int), (bn : Int), v⟩ ⟨o, tl, tr, tc⟩ = true) := Lib.hid (HML.out true ⟨fun _ => HOK.out, fun _ => rfl⟩)
              have HR : Hid (liR l ⟨o, (an : Int), (bn : Int), v⟩ ⟨o, tl, tr, tc⟩ = sdL l an bn tl tr 2) := Lib.hid (by unfold liR; rw [if_pos HTR.out, HLV.out])
              have HROW := Lib.hid (hrow.mono (base' := w.heap.size) (by omega))
              clear hrow hok hlen4
              go_wp2
              go_ret2
              rw [HR.out, HTR.out]
              exact ⟨A', c', rfl, HROW.out, hbr⟩
  · have hmt : mtc l ⟨o, a, b, v⟩ ⟨to, tl, tr, tc⟩ = false := by unfold mtc; simp [h1]
    have HE : Hid (mtc l ⟨o, a, b, v⟩ ⟨to, tl, tr, tc⟩ = false) := Lib.hid hmt
    have HR : Hid (liR l ⟨o, a, b, v⟩ ⟨to, tl, tr, tc⟩ = []) := Lib.hid (by unfold liR; rw [if_neg (by rw [hmt]; simp)])
    have g1 : (o != to) = true := by simp [h1]
    clear hx hl hcs hd hk hmt hc h1
    go_enter Try.func12, Try.ntmps12
    go_wp2
    go_region
    all_goals
      go_wp2
      go_ret2
      rw [HR.out, HE.out]
      exact ⟨none, 0, rfl, World.ownsRow_nil _ _ _ _, by go_grown⟩

end Go.Proofs.Yteogdcjigigeeaa
