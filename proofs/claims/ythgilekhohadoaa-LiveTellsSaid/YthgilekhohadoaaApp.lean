/-
  append onto a slice of the call's own, whatever the source (nil, empty or not).
-/
import Derived.Test.YthgilekhohadoaaBase
import Derived.Maps.AppendAt
namespace Go.Proofs.Ythgilekhohadoaa
open Go.RowKit
set_option linter.unusedSimpArgs false
set_option linter.unusedVariables false
set_option maxRecDepth 100000

/-- t is a slice type over e, whose values take 'size' cells and 'bytes' bytes -/
def AppTy (P : Program) (t e : TypeId) (size bytes : Nat) : Prop :=
  P.underlying t = some (.slice e) ∧ 0 < size ∧ ∃ i z, P.info? e = some i ∧ i.zero = some z ∧ i.size = size ∧ i.bytes = bytes ∧ z.cells.size = size

theorem appTy_of {P : Program} {t e : TypeId} {z : Value} {size bytes : Nat} (ht : P.underlying t = some (.slice e)) (hi : (P.info? e).map (fun i => (i.zero, i.size, i.bytes)) = some (some z, size, bytes)) (hzs : z.cells.size = size) (hsz : 0 < size) : AppTy P t e size bytes := by
  obtain ⟨i, h1, h2, h3, h4⟩ := info_parts hi
  exact ⟨ht, hsz, i, z, h1, h2, h3, h4, hzs⟩

section
variable {P : Program} {w : World}

theorem own_shape {base : Nat} {e : TypeId} {size : Nat} {v : Value} {n : Nat} {xs : List Value} (h : w.ownsRow base e size v n xs) : ∃ A c, v = .slice A n c := by
  rcases h.2 with ⟨rfl, rfl⟩ | ⟨g, cap, cur, rfl, _⟩
  · exact ⟨none, 0, rfl⟩
  · exact ⟨_, _, rfl⟩

/-- an owned slice reads -/
theorem own_rd {base : Nat} {e : TypeId} {size : Nat} {A : Option Addr} {c n : Nat} {xs : List Value} (h : w.ownsRow base e size (.slice A n c) n xs) : Rd w w.heap.size A (n * size) (fun j => xs.getD j undef) := fun hm => by
  rcases h.2 with ⟨_, rfl⟩ | ⟨g, cap, cur, hv, _, hh, _⟩
  · simp at hm
  · injection hv with hA
    subst hA
    have hg : g < w.heap.size := by
      rcases Nat.lt_or_ge g w.heap.size with hl | hl
      · exact hl
      · rw [Array.getElem?_eq_none hl] at hh; cases hh
    refine ⟨_, rfl, hg, fun j hj => ?_⟩
    have hj' : j < xs.length := by rw [h.1]; exact hj
    rw [World.ownsRow.cells h (g := g) rfl j xs[j] (List.getElem?_eq_getElem hj')]
    simp [hj']

theorem own_base {base : Nat} {e : TypeId} {size : Nat} {v : Value} {n : Nat} {xs : List Value} (h : w.ownsRow base e size v n xs) {w' : World} (hg : w.grownBy w' v.ownBlock) (hb : base ≤ w.heap.size) : Below base w w' :=
  (Below.refl base w).grown hg hb (fun k hk => (h.lt k hk).1)

theorem cells_new (w : World) (cs : List Value) (t : TypeId) : ∀ j u, cs[j]? = some u → (w.alloc (.cells cs.toArray t)).cell? ((⟨w.heap.size, 0, none⟩ : Addr).add j) = some u := by
  intro j u hu
  have ha : (⟨w.heap.size, 0, none⟩ : Addr).add j = ⟨w.heap.size, j, none⟩ := by unfold Addr.add; split <;> simp_all
  rw [ha]
  exact (Own.new w t cs).cell hu

theorem own_below {base : Nat} {e : TypeId} {size : Nat} {v : Value} {n : Nat} {xs : List Value} {w' : World} (h : w.ownsRow base e size v n xs) (hb : Below w.heap.size w w') : w'.ownsRow base e size v n xs := by
  rcases h.2 with ⟨rfl, hn⟩ | ⟨g, cap, cur, hv, h1, hh, h2, h3, h4, h5⟩
  · exact ⟨h.1, .inl ⟨rfl, hn⟩⟩
  · have hg : g < w.heap.size := by
      rcases Nat.lt_or_ge g w.heap.size with hl | hl
      · exact hl
      · rw [Array.getElem?_eq_none hl] at hh; cases hh
    exact ⟨h.1, .inr ⟨g, cap, cur, hv, h1, (hb.block g hg).trans hh, h2, h3, h4, h5⟩⟩

theorem cells_at {X : World} {k : Nat} (hk : k = X.heap.size) (cs : List Value) (t : TypeId) : ∀ ad : Addr, some (⟨k, 0, none⟩ : Addr) = some ad → ∀ j u, cs[j]? = some u → (X.alloc (.cells cs.toArray t)).cell? (ad.add j) = some u := by
  intro ad h j u hu
  injection h with h
  subst h hk
  exact cells_new X cs t j u hu

theorem run_app (base : Nat) (t ty e : TypeId) (size bytes : Nat) (hT : AppTy P t e size bytes) (A : Option Addr) (n c : Nat) (xs : List Value) (hown : w.ownsRow base e size (.slice A n c) n xs)
    (A2 : Option Addr) (m c2 : Nat) (news : List Value) (hl : news.length = m * size) (hn : A2 = none → m = 0) (hnews : ∀ ad, A2 = some ad → ∀ j u, news[j]? = some u → w.cell? (ad.add j) = some u) (h1 : ∀ u ∈ news, u.oneCell' = true)
    (hb1 : n + m ≤ maxLen) (hb2 : (n + m) * bytes ≤ 140737488355328) (hbase : base ≤ w.heap.size) :
    ∃ A' c' w', (Builtin.append_ #[t, t] ty #[.slice A n c, .slice A2 m c2]).run P w = .ok (.slice A' (n + m) c') w' ∧ w'.ownsRow base e size (.slice A' (n + m) c') (n + m) (xs ++ news) ∧ w.grownBy w' (Value.slice A n c).ownBlock ∧
      ((Value.slice A' (n + m) c').ownBlock = (Value.slice A n c).ownBlock ∨ (Value.slice A' (n + m) c').ownBlock = some w.heap.size) := by
  obtain ⟨ht, hsz, i, z, hi, hz, hs, hby, hzs⟩ := hT
  cases A2 with
  | none =>
    have hm := hn rfl
    subst hm
    have hnil : news = [] := List.eq_nil_of_length_eq_zero (by simpa using hl)
    subst hnil
    refine ⟨A, c, w, ?_, by simpa using hown, World.grownBy.refl w _, .inl rfl⟩
    rcases hown.2 with ⟨hv, rfl⟩ | ⟨g, cap, cur, hv, _, _, hnc, _⟩
    · injection hv with ha hc1 hc2
      subst ha hc2
      simp [Builtin.append_, run_underlying ht, sizeOf, typeInfo, hi, Builtin.lenOf, Builtin.firstCells]
    · injection hv with ha hc1 hc2
      subst ha hc2
      simp [Builtin.append_, run_underlying ht, sizeOf, typeInfo, hi, Builtin.lenOf, Builtin.firstCells, hnc, storeCells]
  | some ad =>
    obtain ⟨v', w', hrun, h2, h3, _, h5⟩ := run_append_own_at (P := P) w base t ty e i z size bytes ht hi hz hs hby hzs hsz (.slice A n c) n xs hown ad m c2 news hl (hnews ad rfl) h1 hb1 hb2 hbase
    obtain ⟨A', c', rfl⟩ := own_shape h2
    exact ⟨A', c', w', hrun, h2, h3, h5⟩

theorem wpList_app' {ops : Array Oper} {rest : List Oper} {o : Oper} {a : Act} {Q : Exit → Act → World → Prop} (hgd : o.guard = none) (s x : Operand) (t : TypeId)
    (ho : o.op = .call { callee := .builtin .append, args := #[s, x], argTypes := #[t, t] }) (base : Nat) (e : TypeId) (size bytes : Nat) (hT : AppTy P t e size bytes)
    {A : Option Addr} {n c : Nat} (xs : List Value) (hs : a.eval s = .slice A n c) (hown : w.ownsRow base e size (.slice A n c) n xs)
    {A2 : Option Addr} {m c2 : Nat} (news : List Value) (hx : a.eval x = .slice A2 m c2) (hl : news.length = m * size) (hn : A2 = none → m = 0) (hnews : ∀ ad, A2 = some ad → ∀ j u, news[j]? = some u → w.cell? (ad.add j) = some u) (h1 : ∀ u ∈ news, u.oneCell' = true)
    (hb1 : n + m ≤ maxLen) (hb2 : (n + m) * bytes ≤ 140737488355328) (hbase : base ≤ w.heap.size)
    (h : ∀ A' c' w', w'.ownsRow base e size (.slice A' (n + m) c') (n + m) (xs ++ news) → w.grownBy w' (Value.slice A n c).ownBlock → Below base w w' →
      ((Value.slice A' (n + m) c').ownBlock = (Value.slice A n c).ownBlock ∨ (Value.slice A' (n + m) c').ownBlock = some w.heap.size) → wpList P ops Q rest (a.put o.dst (.slice A' (n + m) c')) w') : wpList P ops Q (o :: rest) a w := by
  refine wpList_plain hgd fun K hK => ?_
  obtain ⟨A', c', w', hrun, h2, h3, h5⟩ := run_app (P := P) (w := w) base t o.type e size bytes hT A n c xs hown A2 m c2 news hl hn hnews h1 hb1 hb2 hbase
  unfold Oper.wp execOp
  simp only [ho, resolve, invoke, builtin, Sem.run_bind, Sem.run_pure, Result.andThen_ok, List.map_toArray, List.map_cons, List.map_nil, hs, hx, hrun]
  exact hK _ _ (h A' c' w' h2 h3 (own_base hown h3 hbase) h5)

theorem wpList_app {ops : Array Oper} {rest : List Oper} {o : Oper} {a : Act} {Q : Exit → Act → World → Prop} (hgd : o.guard = none) (s x : Operand) (t : TypeId)
    (ho : o.op = .call { callee := .builtin .append, args := #[s, x], argTypes := #[t, t] }) (base : Nat) (e : TypeId) (size bytes : Nat) (hT : AppTy P t e size bytes)
    {A : Option Addr} {n c : Nat} (xs : List Value) (hs : a.eval s = .slice A n c) (hown : w.ownsRow base e size (.slice A n c) n xs)
    {A2 : Option Addr} {m c2 : Nat} (news : List Value) (hx : a.eval x = .slice A2 m c2) (hl : news.length = m * size) (hn : A2 = none → m = 0) (hnews : ∀ ad, A2 = some ad → ∀ j u, news[j]? = some u → w.cell? (ad.add j) = some u) (h1 : ∀ u ∈ news, u.oneCell' = true)
    (hb1 : n + m ≤ maxLen) (hb2 : (n + m) * bytes ≤ 140737488355328) (hbase : base ≤ w.heap.size)
    (h : ∀ A' c' w', w'.ownsRow base e size (.slice A' (n + m) c') (n + m) (xs ++ news) → w.grownBy w' (Value.slice A n c).ownBlock → Below base w w' → wpList P ops Q rest (a.put o.dst (.slice A' (n + m) c')) w') : wpList P ops Q (o :: rest) a w :=
  wpList_app' hgd s x t ho base e size bytes hT xs hs hown news hx hl hn hnews h1 hb1 hb2 hbase fun A' c' w' h2 h3 h4 _ => h A' c' w' h2 h3 h4

end

/-- terms as values, four cells each -/
def tv (l : List Tm) : List Value := l.flatMap fun t => [.int .i64 t.op, .int .i64 t.a, .int .i64 t.b, .int .i64 t.v]

theorem tv_len (l : List Tm) : (tv l).length = l.length * 4 := by
  induction l with
  | nil => rfl
  | cons t r ih => simp only [tv, List.flatMap_cons, List.length_append, List.length_cons, List.length_nil] at *; omega

theorem tv_append (l r : List Tm) : tv (l ++ r) = tv l ++ tv r := by simp [tv]

theorem tv_one (l : List Tm) : ∀ u ∈ tv l, u.oneCell' = true := by
  intro u hu
  simp only [tv, List.mem_flatMap] at hu
  obtain ⟨t, _, ht⟩ := hu
  simp at ht
  rcases ht with rfl | rfl | rfl | rfl <;> rfl

theorem tv1_one (o a b v : Int) : ∀ u ∈ ([.int .i64 o, .int .i64 a, .int .i64 b, .int .i64 v] : List Value), u.oneCell' = true := fun u hu => by
  simp at hu
  rcases hu with rfl | rfl | rfl | rfl <;> rfl

theorem tv_at : ∀ {l : List Tm} {j : Nat}, j < l.length * 4 → (tv l)[j]? = some (tc l j)
  | [], j, h => by simp at h
  | t :: r, j, h => by
    rcases Nat.lt_or_ge j 4 with hj | hj
    · have h4 : j = 0 ∨ j = 1 ∨ j = 2 ∨ j = 3 := by omega
      rcases h4 with rfl | rfl | rfl | rfl <;> simp [tv, tc]
    · have ih := tv_at (l := r) (j := j - 4) (by simp at h; omega)
      have e1 : (tv (t :: r))[j]? = (tv r)[j - 4]? := by
        simp only [tv, List.flatMap_cons]
        rw [List.getElem?_append_right (by simpa using hj)]
        rfl
      rw [e1, ih]
      have e2 : j / 4 = (j - 4) / 4 + 1 := by omega
      have e3 : j % 4 = (j - 4) % 4 := by omega
      simp only [tc, e2, e3, List.getD_cons_succ]

theorem RdT.news {w : World} {B : Nat} {A : Option Addr} {l : List Tm} (h : RdT w B A l) : ∀ ad, A = some ad → ∀ j u, (tv l)[j]? = some u → w.cell? (ad.add j) = some u := by
  intro ad hA j u hu
  have hj : j < l.length * 4 := by
    rcases Nat.lt_or_ge j (tv l).length with hl | hl
    · rwa [tv_len] at hl
    · rw [List.getElem?_eq_none hl] at hu; cases hu
  obtain ⟨ad', e, _, hc⟩ := h (by omega)
  rw [hA] at e
  injection e with e
  subst e
  rw [hc j hj, ← tv_at hj, hu]

theorem RdT.nil {w : World} {B : Nat} {A : Option Addr} {l : List Tm} (h : RdT w B A l) : A = none → l.length = 0 := by
  intro hA
  rcases Nat.eq_zero_or_pos l.length with h0 | h0
  · exact h0
  · obtain ⟨ad, e, _⟩ := h (by omega)
    rw [hA] at e
    cases e

theorem own_rdT {w : World} {base : Nat} {e : TypeId} {A : Option Addr} {c n : Nat} {l : List Tm} (h : w.ownsRow base e 4 (.slice A n c) n (tv l)) (hn : l.length = n) : RdT w w.heap.size A l := by
  subst hn
  exact (own_rd h).congr fun j hj => by rw [List.getD_eq_getElem?_getD, tv_at hj]; rfl

theorem tv_set : ∀ (l : List Tm) (i : Nat) (t : Tm), i < l.length → ((((tv l).set (i * 4) (.int .i64 t.op)).set (i * 4 + 1) (.int .i64 t.a)).set (i * 4 + 2) (.int .i64 t.b)).set (i * 4 + 3) (.int .i64 t.v) = tv (l.set i t)
  | [], _, _, h => by simp at h
  | u :: r, 0, t, _ => by simp [tv]
  | u :: r, i + 1, t, h => by
    have ih := tv_set r i t (by simpa using h)
    have e : (i + 1) * 4 = i * 4 + 1 + 1 + 1 + 1 := by omega
    rw [e]
    simp only [tv, List.flatMap_cons, List.set_cons_succ, List.cons_append, List.nil_append] at ih ⊢
    rw [ih]

theorem OwnT.set {w : World} {g : Nat} {e : TypeId} {l : List Tm} (h : Own w g e (tv l)) {i : Nat} (hi : i < l.length) (t : Tm) :
    Own ((((w.setCell ⟨g, i * 4, none⟩ (.int .i64 t.op)).setCell ⟨g, i * 4 + 1, none⟩ (.int .i64 t.a)).setCell ⟨g, i * 4 + 2, none⟩ (.int .i64 t.b)).setCell ⟨g, i * 4 + 3, none⟩ (.int .i64 t.v)) g e (tv (l.set i t)) := by
  rw [← tv_set l i t hi]
  exact (((h.set _ _).set _ _).set _ _).set _ _

theorem OwnT.rd {w : World} {g : Nat} {e : TypeId} {l : List Tm} (h : Own w g e (tv l)) : RdT w (g + 1) (some ⟨g, 0, none⟩) l := fun _ =>
  ⟨⟨g, 0, none⟩, rfl, Nat.lt_succ_self _, fun j hj => by
    have hc := h.cell (j := j) (tv_at hj)
    have ha : (⟨g, 0, none⟩ : Addr).add j = ⟨g, j, none⟩ := by unfold Addr.add; split <;> simp_all
    rw [ha, hc]⟩

theorem RdT.take {w : World} {B : Nat} {A : Option Addr} {l : List Tm} (h : RdT w B A l) (k : Nat) : RdT w B A (l.take k) := fun hm => by
  have hk : (l.take k).length ≤ l.length := by simp; omega
  obtain ⟨ad, e, hb, hc⟩ := h (by omega)
  refine ⟨ad, e, hb, fun j hj => ?_⟩
  rw [hc j (by omega)]
  have hj4 : j / 4 < (l.take k).length := by omega
  have h1 : j / 4 < l.length := by omega
  have h2 : j / 4 < k := by simp at hj4; omega
  simp only [tc, List.getD_eq_getElem?_getD, List.getElem?_take, if_pos h2]

theorem make_terms {P : Program} (t e : TypeId) (ht : P.underlying t = some (.slice e)) (hi : (P.info? e).map (fun i => (i.zero, i.size, i.bytes)) = some (some (.agg #[.int .i64 0, .int .i64 0, .int .i64 0, .int .i64 0]), 4, 32)) (n : Nat) (hn : n ≤ 65536) (w : World) :
    (Instr.makeSlice t (.int .i64 (n : Int)) (.int .i64 (n : Int))).run P w = .ok (.slice (some ⟨w.heap.size, 0, none⟩) n n) (w.alloc (.cells (tv (List.replicate n tz)).toArray e)) := by
  obtain ⟨i0, hi0, hz, hs, hb⟩ := info_parts hi
  have h := run_make (P := P) w t e i0 _ ht hi0 hz .i64 .i64 (n : Int) (n : Int) (by omega) (by omega) (by rw [hb]; omega) (by omega)
  simp only [Int.toNat_natCast, hs] at h
  rw [h]
  have hm : madeCells (Value.agg #[.int .i64 0, .int .i64 0, .int .i64 0, .int .i64 0]).cells (n * 4) = (tv (List.replicate n tz)).toArray := by
    apply Array.ext
    · simp [madeCells, tv_len]
    · intro j h1 h2
      have hj : j < (List.replicate n tz).length * 4 := by simp [madeCells] at h1; simpa using h1
      have hr : (tv (List.replicate n tz)).toArray[j] = tc (List.replicate n tz) j := by
        have := tv_at hj
        rw [List.getElem?_eq_some_iff] at this
        obtain ⟨_, he⟩ := this
        simpa using he
      rw [hr]
      have h0 : (List.replicate n tz).getD (j / 4) tz = tz := by
        rw [List.getD_eq_getElem?_getD, List.getElem?_replicate]
        split <;> rfl
      have h4 : j % 4 = 0 ∨ j % 4 = 1 ∨ j % 4 = 2 ∨ j % 4 = 3 := by omega
      simp only [madeCells, Array.getElem_map, Array.getElem_range, tc, h0]
      rcases h4 with h4 | h4 | h4 | h4 <;> simp [Value.cells, h4, tz]
  rw [hm]

end Go.Proofs.Ythgilekhohadoaa
