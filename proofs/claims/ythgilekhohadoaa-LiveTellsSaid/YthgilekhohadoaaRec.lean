/-
  Slices of records, each of m cells: reading, own blocks, append.
-/
import Derived.Test.YthgilekhohadoaaApp
import Derived.Test.YthgilekhohadoaaPureNeed
namespace Go.Proofs.Ythgilekhohadoaa
open Go.RowKit
set_option linter.unusedSimpArgs false
set_option linter.unusedVariables false
set_option maxRecDepth 100000

section
variable {α : Type} {c : α → List Value} {m : Nat}

/-- records as values -/
def rv (c : α → List Value) (l : List α) : List Value := l.flatMap c

theorem rv_append (l r : List α) : rv c (l ++ r) = rv c l ++ rv c r := by simp [rv]

theorem rv_one (x : α) : rv c [x] = c x := by simp [rv]

theorem rv_len (hm : ∀ x, (c x).length = m) (l : List α) : (rv c l).length = l.length * m := by
  induction l with
  | nil => simp [rv]
  | cons t r ih =>
    rw [show t :: r = [t] ++ r from rfl, rv_append, List.length_append, rv_one, hm, ih, List.length_append, List.length_singleton, Nat.add_mul, Nat.one_mul]

theorem rv_at (hm : ∀ x, (c x).length = m) : ∀ {l : List α} {k i : Nat} {x : α}, l[k]? = some x → i < m → (rv c l)[k * m + i]? = (c x)[i]?
  | [], _, _, _, h, _ => by simp at h
  | t :: r, 0, i, x, h, hi => by
    simp at h
    subst h
    rw [show t :: r = [t] ++ r from rfl, rv_append, rv_one, Nat.zero_mul, Nat.zero_add, List.getElem?_append_left (by rw [hm]; exact hi)]
  | t :: r, k + 1, i, x, h, hi => by
    have e : (k + 1) * m + i = (c t).length + (k * m + i) := by rw [hm, Nat.add_mul, Nat.one_mul]; omega
    rw [show t :: r = [t] ++ r from rfl, rv_append, rv_one, e, List.getElem?_append_right (by omega), Nat.add_sub_cancel_left]
    exact rv_at hm (by simpa using h) hi

theorem rv_all {p : Value → Prop} (h : ∀ x, ∀ u ∈ c x, p u) (l : List α) : ∀ u ∈ rv c l, p u := fun u hu => by
  simp only [rv, List.mem_flatMap] at hu
  obtain ⟨x, _, hx⟩ := hu
  exact h x u hx

/-- a slice of records -/
def RdR (c : α → List Value) (w : World) (B : Nat) (A : Option Addr) (m : Nat) (l : List α) : Prop := Rd w B A (l.length * m) (fun j => (rv c l).getD j undef)

theorem RdR.below {w w' : World} {B B' : Nat} {A : Option Addr} {l : List α} (h : RdR c w B A m l) (hb : Below B' w w') (hB : B ≤ B') : RdR c w' B A m l := Rd.below h hb hB

theorem RdR.more {w : World} {B B' : Nat} {A : Option Addr} {l : List α} (h : RdR c w B A m l) (hB : B ≤ B') : RdR c w B' A m l := Rd.more h hB

theorem RdR.cell (hm : ∀ x, (c x).length = m) (h0 : 0 < m) {w : World} {B : Nat} {A : Option Addr} {l : List α} {k : Nat} (h : RdR c w B A m l) (hk : k < l.length) :
    ∃ (ad : Addr) (x : α), A = some ad ∧ (ad.add (k * m)).block < B ∧ l[k]? = some x ∧ ∀ i v, (c x)[i]? = some v → w.cell? ((ad.add (k * m)).add i) = some v := by
  have hlt : ∀ i, i < m → k * m + i < l.length * m := fun i hi => by
    have : (k + 1) * m ≤ l.length * m := Nat.mul_le_mul_right _ (by omega)
    rw [Nat.add_mul, Nat.one_mul] at this
    omega
  obtain ⟨ad, e, hb, hc⟩ := h (by have := hlt 0 h0; omega)
  have hx := List.getElem?_eq_getElem hk
  refine ⟨ad, l[k], e, by rw [addr_add_block]; exact hb, hx, fun i v hv => ?_⟩
  have hi : i < m := by
    rcases Nat.lt_or_ge i m with h1 | h1
    · exact h1
    · rw [List.getElem?_eq_none (by rw [hm]; exact h1)] at hv; cases hv
  rw [addr_add_add, hc _ (hlt i hi)]
  show some ((rv c l).getD (k * m + i) undef) = some v
  rw [List.getD_eq_getElem?_getD, rv_at hm hx hi, hv, Option.getD_some]

theorem RdR.nil (h0 : 0 < m) {w : World} {B : Nat} {A : Option Addr} {l : List α} (h : RdR c w B A m l) : A = none → l.length = 0 := by
  intro hA
  rcases Nat.eq_zero_or_pos l.length with hl | hl
  · exact hl
  · obtain ⟨ad, e, _⟩ := h (Nat.mul_pos hl h0)
    rw [hA] at e
    cases e

theorem own_rdR {w : World} {base : Nat} {e : TypeId} {A : Option Addr} {cap n : Nat} {l : List α} (h : w.ownsRow base e m (.slice A n cap) n (rv c l)) (hn : l.length = n) : RdR c w w.heap.size A m l := by
  subst hn
  exact own_rd h

end

/-- what turns while a slice of the call's own grows: its block alone -/
theorem grown_own {w w' : World} {base : Nat} {e : TypeId} {size : Nat} {v : Value} {n : Nat} {xs : List Value} (h : w.ownsRow base e size v n xs) (hg : w.grownBy w' v.ownBlock) (hb : base ≤ w.heap.size) : Below base w w' := own_base h hg hb

theorem grown_alloc (w : World) (o : Obj) (row : Option Nat) : w.grownBy (w.alloc o) row := World.grownBy_alloc w o row

theorem grown_drew {w w' : World} {row : Option Nat} (h : w.grownBy w' row) : w.grownBy w'.drew row := ⟨h.os, h.tape, h.output, h.size, h.block⟩

theorem cell_new {w0 : World} {cs : Array Value} {t : TypeId} {g j : Nat} {v : Value} (hg : g = w0.heap.size) (hv : cs[j]? = some v) : (w0.alloc (.cells cs t)).cell? ⟨g, j, none⟩ = some v := by
  subst hg
  exact (Own.new w0 t cs.toList).cell (by simpa using hv)

/-- a slice literal of terms reads -/
theorem rdT_new (w0 : World) (cs : Array Value) (t : TypeId) (l : List Tm) (g : Nat) (h : cs = (tv l).toArray) (hg : g = w0.heap.size) : RdT (w0.alloc (.cells cs t)) (w0.alloc (.cells cs t)).heap.size (some ⟨g, 0, none⟩) l := by
  subst h hg
  exact RdT.more (OwnT.rd (Own.new w0 t (tv l))) (by simp)

theorem RdR.news {α : Type} {c : α → List Value} {m : Nat} (hm : ∀ x, (c x).length = m) {w : World} {B : Nat} {A : Option Addr} {l : List α} (h : RdR c w B A m l) : ∀ ad, A = some ad → ∀ j u, (rv c l)[j]? = some u → w.cell? (ad.add j) = some u := by
  intro ad hA j u hu
  have hj : j < l.length * m := by
    have := (List.getElem?_eq_some_iff.1 hu).1
    rwa [rv_len hm] at this
  obtain ⟨ad', e, _, hc⟩ := h (by omega)
  rw [hA] at e
  injection e with e
  subst e
  rw [hc j hj]
  show some ((rv c l).getD j undef) = some u
  rw [List.getD_eq_getElem?_getD, hu]
  rfl

theorem below_via {w Y Z : World} (h : Below w.heap.size w Y) (h2 : Below Y.heap.size Y Z) : Below w.heap.size w Z := h.trans (h2.mono h.size)

theorem lit_below {U V : World} {g j : Nat} {v : Value} (h : U.cell? ⟨g, j, none⟩ = some v) (hb : Below U.heap.size U V) : V.cell? ⟨g, j, none⟩ = some v :=
  (hb.cell (World.block_lt_of_cell? U _ h)).trans h

theorem own_mono {w : World} {base base' : Nat} {e : TypeId} {size : Nat} {v : Value} {n : Nat} {xs : List Value} (h : w.ownsRow base e size v n xs) (hb : base' ≤ base) : w.ownsRow base' e size v n xs := by
  refine ⟨h.1, ?_⟩
  rcases h.2 with h2 | ⟨g, cap, cur, h1, h2, h3⟩
  · exact .inl h2
  · exact .inr ⟨g, cap, cur, h1, by omega, h3⟩

/-- append at a step of a region that draws its order, whatever the source -/
theorem step_app_any {P : Program} {w : World} {ops : Array Oper} {o : Oper} {a : Act} {K : Act → World → Prop} {Q : Exit → Act → World → Prop} {E : Prop} (hgd : o.guard = none) (s x : Operand) (t : TypeId)
    (ho : o.op = .call { callee := .builtin .append, args := #[s, x], argTypes := #[t, t] }) (base : Nat) (e : TypeId) (size bytes : Nat) (hT : AppTy P t e size bytes)
    {A : Option Addr} {n c : Nat} (xs : List Value) (hs : a.eval s = .slice A n c) (hown : w.ownsRow base e size (.slice A n c) n xs)
    {A2 : Option Addr} {m c2 : Nat} (news : List Value) (hx : a.eval x = .slice A2 m c2) (hl : news.length = m * size) (hn : A2 = none → m = 0) (hnews : ∀ ad, A2 = some ad → ∀ j u, news[j]? = some u → w.cell? (ad.add j) = some u) (h1 : ∀ u ∈ news, u.oneCell' = true)
    (hb1 : n + m ≤ maxLen) (hb2 : (n + m) * bytes ≤ 140737488355328) (hbase : base ≤ w.heap.size)
    (h : ∀ A' c' w', w'.ownsRow base e size (.slice A' (n + m) c') (n + m) (xs ++ news) → w.grownBy w' (Value.slice A n c).ownBlock → Below base w w' → K (a.put o.dst (.slice A' (n + m) c')) w') :
    if Region.wanted o (yielded ops a.tmps) = true then Oper.wp P o a w K Q else E := by
  have hw : Region.wanted o (yielded ops a.tmps) = true := by simp [Region.wanted, hgd]
  rw [if_pos hw]
  obtain ⟨A', c', w', hrun, h2, h3, h5⟩ := run_app (P := P) (w := w) base t o.type e size bytes hT A n c xs hown A2 m c2 news hl hn hnews h1 hb1 hb2 hbase
  unfold Oper.wp execOp
  simp only [ho, resolve, invoke, builtin, Sem.run_bind, Sem.run_pure, Result.andThen_ok, List.map_toArray, List.map_cons, List.map_nil, hs, hx, hrun]
  exact h A' c' w' h2 h3 (own_base hown h3 hbase)

/-! ### Steps -/

def cSt (s : St) : List Value := [.int .i64 s.op, .int .i64 s.to, .int .i64 s.a, .int .i64 s.b, .int .i64 s.v]

theorem cSt_len (s : St) : (cSt s).length = 5 := rfl

theorem cSt_one (s : St) : ∀ u ∈ cSt s, u.oneCell' = true := fun u hu => by
  simp [cSt] at hu
  rcases hu with rfl | rfl | rfl | rfl | rfl <;> rfl

/-- a slice of steps -/
def RdS (w : World) (B : Nat) (A : Option Addr) (l : List St) : Prop := RdR cSt w B A 5 l

theorem RdS.below {w w' : World} {B B' : Nat} {A : Option Addr} {l : List St} (h : RdS w B A l) (hb : Below B' w w') (hB : B ≤ B') : RdS w' B A l := Rd.below h hb hB

theorem RdS.more {w : World} {B B' : Nat} {A : Option Addr} {l : List St} (h : RdS w B A l) (hB : B ≤ B') : RdS w B' A l := Rd.more h hB

theorem RdS.at_ {w : World} {B : Nat} {A : Option Addr} {l : List St} {k : Nat} (h : RdS w B A l) (hk : k < l.length) :
    ∃ (ad : Addr) (o t a b v : Int), A = some ad ∧ (ad.add (k * 5)).block < B ∧ l[k]? = some ⟨o, t, a, b, v⟩ ∧ w.cell? (ad.add (k * 5)) = some (.int .i64 o) ∧
      w.cell? ⟨(ad.add (k * 5)).block, (ad.add (k * 5)).off + 1, none⟩ = some (.int .i64 t) ∧ w.cell? ⟨(ad.add (k * 5)).block, (ad.add (k * 5)).off + 2, none⟩ = some (.int .i64 a) ∧
      w.cell? ⟨(ad.add (k * 5)).block, (ad.add (k * 5)).off + 3, none⟩ = some (.int .i64 b) ∧ w.cell? ⟨(ad.add (k * 5)).block, (ad.add (k * 5)).off + 4, none⟩ = some (.int .i64 v) := by
  obtain ⟨ad, x, hA, hb, hx, hc⟩ := RdR.cell cSt_len (by omega) h hk
  exact ⟨ad, x.op, x.to, x.a, x.b, x.v, hA, hb, hx, hc 0 _ rfl, hc 1 _ rfl, hc 2 _ rfl, hc 3 _ rfl, hc 4 _ rfl⟩

end Go.Proofs.Ythgilekhohadoaa
