/-
  A map of the call's own as a function, each entry with a stamp of its own: put, ranged over in whatever order.
-/
import Derived.Test.YthmcigdoaededaaMapFun
import Derived.Maps.RangeWalk
namespace Go.Proofs.Ythmcigdoaededaa
open Go.RowKit
set_option linter.unusedSimpArgs false
set_option linter.unusedVariables false

section
variable {P : Program} {k : TypeId}

/-- entries that say what f says, each with a stamp of its own -/
structure EntS (P : Program) (k : TypeId) (ms : List MapEntry) (clock : Nat) (f : Value → Option Value) : Prop where
  val : ∀ e ∈ ms, KeyV P k e.key ∧ f e.key = some e.val
  keys : (ms.map (fun e => e.key)).Nodup
  all : ∀ x v, f x = some v → ∃ e ∈ ms, e.key = x
  old : ∀ e ∈ ms, e.born < clock
  born : (ms.map (fun e => e.born)).Nodup

/-- block b is a map: what f says -/
def OwnS (P : Program) (k : TypeId) (w : World) (b : Nat) (f : Value → Option Value) : Prop := ∃ (ms : List MapEntry) (clock : Nat), w.heap[b]? = some (.map ms.toArray clock) ∧ EntS P k ms clock f

theorem OwnS.new (w : World) : OwnS P k (w.alloc (.map #[] 0)) w.heap.size (fun _ => none) := ⟨[], 0, heap_alloc_new w _, by simp, by simp, by simp, by simp, by simp⟩

theorem OwnS.f {w : World} {b : Nat} {f : Value → Option Value} (h : OwnS P k w b f) : OwnF P k w b f := by
  obtain ⟨ms, clock, hb, h⟩ := h
  exact ⟨ms, clock, hb, h.val, h.keys, h.all⟩

theorem OwnS.keep {w w' : World} {b : Nat} {f : Value → Option Value} (h : OwnS P k w b f) (hb : w'.heap[b]? = w.heap[b]?) : OwnS P k w' b f := by
  obtain ⟨ms, clock, h, he⟩ := h
  exact ⟨ms, clock, hb.trans h, he⟩

theorem OwnS.lt {w : World} {b : Nat} {f : Value → Option Value} (h : OwnS P k w b f) : b < w.heap.size := h.f.lt

theorem OwnS.below {w w' : World} {b B : Nat} {f : Value → Option Value} (h : OwnS P k w b f) (hb : Below B w w') (hB : b < B) : OwnS P k w' b f := h.keep (hb.block b hB)

theorem OwnS.alloc {w : World} {b : Nat} {f : Value → Option Value} (h : OwnS P k w b f) (o : Obj) : OwnS P k (w.alloc o) b f := h.keep (Below.heap_alloc w o b h.lt)

theorem OwnS.congr {w : World} {b : Nat} {f g : Value → Option Value} (h : OwnS P k w b f) (he : ∀ x, f x = g x) : OwnS P k w b g := by
  have : f = g := funext he
  rw [← this]
  exact h

theorem run_put_stamp {w : World} {t e : TypeId} {b : Nat} {f f' : Value → Option Value} (K : Maps.Keyed P k) (ht : P.underlying t = some (.map k e)) (h : OwnS P k w b f) {key v : Value} (hk : KeyV P k key) (h1' : f' key = some v) (h2' : ∀ x, x ≠ key → f' x = f x) :
    ∃ w', (Instr.mapUpdate t (.map (some b)) key v).run P w = .ok () w' ∧ OwnS P k w' b f' ∧ Turned b w w' := by
  have hlt := h.lt
  obtain ⟨ms, clock, hb, hv, hd, hS, hold, hborn⟩ := h
  have hkk := hk
  obtain ⟨l, hl⟩ := hk
  have hg : (getObj b).run P w = .ok (.map ms.toArray clock) w := MapKept.run_getObj_map hb
  rcases K.find w hl ms (fun e h => (hv e h).1) with ⟨h1, h2⟩ | ⟨j, e0, h1, h2, h3⟩
  · refine ⟨ChangeMaps.setBlock w b (.map (ms.toArray.push { key := key, val := v, born := clock }) (clock + 1)), ?_, ⟨ms ++ [{ key := key, val := v, born := clock }], clock + 1, ?_, ?_, ?_, ?_, ?_, ?_⟩, ⟨rfl, rfl, rfl, by simp [ChangeMaps.setBlock], fun i hi => ChangeMaps.heap_setBlock_other hb _ hi⟩⟩
    · unfold Instr.mapUpdate
      rw [Sem.run_bind, run_underlying ht]
      simp only [Result.andThen, Sem.run_bind, hg, Sem.run_pure, Result.andThen_ok, K.check w _ hl]
      rw [h1]
      simp only [Result.andThen_ok]
      exact MapKept.run_setObj_map _ hb
    · rw [ChangeMaps.heap_setBlock_same hb]
      simp
    · intro e he
      rcases List.mem_append.1 he with he | he
      · exact ⟨(hv e he).1, by rw [h2' _ (h2 e he)]; exact (hv e he).2⟩
      · rw [List.mem_singleton.1 he]; exact ⟨hkk, h1'⟩
    · rw [List.map_append, List.nodup_append]
      refine ⟨hd, by simp, fun x hx y hy => ?_⟩
      obtain ⟨e, he, rfl⟩ := List.mem_map.1 hx
      simp at hy
      subst hy
      exact h2 e he
    · intro x u hu
      by_cases hx : x = key
      · exact ⟨_, List.mem_append_right _ (List.mem_singleton.2 rfl), hx.symm⟩
      · rw [h2' x hx] at hu
        obtain ⟨e, he, hek⟩ := hS x u hu
        exact ⟨e, List.mem_append_left _ he, hek⟩
    · intro e he
      rcases List.mem_append.1 he with he | he
      · exact Nat.lt_succ_of_lt (hold e he)
      · rw [List.mem_singleton.1 he]; exact Nat.lt_succ_self clock
    · rw [List.map_append, List.nodup_append]
      refine ⟨hborn, by simp, fun x hx y hy => ?_⟩
      obtain ⟨e, he, rfl⟩ := List.mem_map.1 hx
      simp at hy
      subst hy
      have := hold e he
      omega
  · have hj : ms.toArray[j]? = some e0 := by simpa using h2
    have hjl := (List.getElem?_eq_some_iff.1 h2).1
    have hlist : (ms.toArray.modify j (fun e' => { e' with key := key, val := v })) = (ms.set j { e0 with key := key, val := v }).toArray := by
      apply Array.ext'
      rw [Array.toList_modify, ChangeMaps.modify_eq_set _ _ _ _ (by simpa using h2)]
    have hmap : ∀ {β : Type} (g : MapEntry → β), g { e0 with key := key, val := v } = g e0 → (ms.set j { e0 with key := key, val := v }).map g = ms.map g := by
      intro β g hge
      rw [List.map_set]
      apply List.ext_getElem?
      intro i
      rw [List.getElem?_set]
      split
      · rename_i e
        subst e
        rw [if_pos (by simpa using hjl), List.getElem?_map, h2]
        exact congrArg some hge
      · rfl
    have hkeys : (ms.set j { e0 with key := key, val := v }).map (fun e => e.key) = ms.map (fun e => e.key) := hmap _ h3.symm
    have hborns : (ms.set j { e0 with key := key, val := v }).map (fun e => e.born) = ms.map (fun e => e.born) := hmap _ rfl
    refine ⟨ChangeMaps.setBlock w b (.map (ms.set j { e0 with key := key, val := v }).toArray clock), ?_, ⟨ms.set j { e0 with key := key, val := v }, clock, ChangeMaps.heap_setBlock_same hb _, fun e he => ?_, by rw [hkeys]; exact hd, fun x u hu => ?_, fun e he => ?_, by rw [hborns]; exact hborn⟩, ⟨rfl, rfl, rfl, by simp [ChangeMaps.setBlock], fun i hi => ChangeMaps.heap_setBlock_other hb _ hi⟩⟩
    · unfold Instr.mapUpdate
      rw [Sem.run_bind, run_underlying ht]
      simp only [Result.andThen, Sem.run_bind, hg, Sem.run_pure, Result.andThen_ok, K.check w _ hl]
      rw [h1]
      simp only [Result.andThen_ok, Sem.run_bind, hj, Option.map_some, Option.getD_some, h3, K.stays w hl, hlist]
      exact MapKept.run_setObj_map _ hb
    · obtain ⟨i, hi, rfl⟩ := List.getElem_of_mem he
      have hil : i < ms.length := by simpa using hi
      rw [List.getElem_set]
      split
      · exact ⟨hkk, h1'⟩
      · rename_i hne
        have hmem := List.getElem_mem hil
        refine ⟨(hv _ hmem).1, ?_⟩
        rw [h2' _ ?_]
        · exact (hv _ hmem).2
        · intro e
          have g1 : (ms.map (fun e => e.key))[i]? = some key := by rw [List.getElem?_map, List.getElem?_eq_getElem hil]; exact congrArg some e
          have g2 : (ms.map (fun e => e.key))[j]? = some key := by rw [List.getElem?_map, h2]; exact congrArg some h3
          have := (List.getElem?_inj (by simpa using hil) hd).1 (g1.trans g2.symm)
          exact hne this.symm
    · have hx : x ∈ ms.map (fun e => e.key) := by
        by_cases hx : x = key
        · rw [hx, ← h3]
          exact List.mem_map.2 ⟨e0, List.mem_of_getElem? h2, rfl⟩
        · rw [h2' x hx] at hu
          obtain ⟨e, he, hek⟩ := hS x u hu
          exact List.mem_map.2 ⟨e, he, hek⟩
      rw [← hkeys] at hx
      obtain ⟨e, he, hek⟩ := List.mem_map.1 hx
      exact ⟨e, he, hek⟩
    · have hbm : e.born ∈ ms.map (fun e => e.born) := by
        rw [← hborns]
        exact List.mem_map.2 ⟨e, he, rfl⟩
      obtain ⟨e2, he2, heq⟩ := List.mem_map.1 hbm
      rw [← heq]
      exact hold e2 he2

/-- block b is a map, what f says; block r is under way over it: left tells of a key whether it is still to come; so many are -/
def RngS (P : Program) (k : TypeId) (w : World) (b r : Nat) (f : Value → Option Value) (left : Value → Prop) (cnt : Nat) : Prop :=
  ∃ (ms : List MapEntry) (clock since : Nat) (seen : Array Nat) (c0 : Nat), w.heap[b]? = some (.map ms.toArray clock) ∧ EntS P k ms clock f ∧ w.heap[r]? = some (.mapIter (some b) since seen c0) ∧
    (∀ e ∈ ms, e.born < since) ∧ since ≤ c0 ∧ since ≤ clock ∧ (∀ e ∈ ms, left e.key ↔ seen.contains e.born = false) ∧ (leftOf ms.toArray seen).size = cnt

theorem RngS.keep {w w' : World} {b r : Nat} {f : Value → Option Value} {left : Value → Prop} {cnt : Nat} (h : RngS P k w b r f left cnt) (hb : w'.heap[b]? = w.heap[b]?) (hr : w'.heap[r]? = w.heap[r]?) : RngS P k w' b r f left cnt := by
  obtain ⟨ms, clock, since, seen, c0, h1, h2, h3, h4⟩ := h
  exact ⟨ms, clock, since, seen, c0, hb.trans h1, h2, hr.trans h3, h4⟩

theorem RngS.owns {w : World} {b r : Nat} {f : Value → Option Value} {left : Value → Prop} {cnt : Nat} (h : RngS P k w b r f left cnt) : OwnS P k w b f := by
  obtain ⟨ms, clock, _, _, _, h1, h2, _⟩ := h
  exact ⟨ms, clock, h1, h2⟩

theorem RngS.lt {w : World} {b r : Nat} {f : Value → Option Value} {left : Value → Prop} {cnt : Nat} (h : RngS P k w b r f left cnt) : r < w.heap.size := by
  obtain ⟨ms, clock, since, seen, c0, _, _, hr, _⟩ := h
  exact (Array.getElem?_eq_some_iff.1 hr).1

theorem RngS.left_eq {w : World} {b r : Nat} {f : Value → Option Value} {left : Value → Prop} {cnt : Nat} (h : RngS P k w b r f left cnt) : w.rangeLeft b r = cnt := by
  obtain ⟨ms, clock, since, seen, c0, hb, _, hr, _, _, _, _, hc⟩ := h
  simp only [World.rangeLeft, hb, hr]
  exact hc

theorem run_range_stamp {w : World} {t e : TypeId} {b : Nat} {f : Value → Option Value} (ht : P.underlying t = some (.map k e)) (h : OwnS P k w b f) :
    ∃ w' cnt, (Instr.range t (.map (some b))).run P w = .ok (.pointer (some ⟨w.heap.size, 0, none⟩)) w' ∧ RngS P k w' b w.heap.size f (fun _ => True) cnt ∧ Below w.heap.size w w' ∧ w'.heap.size = w.heap.size + 1 := by
  have hlt := h.lt
  obtain ⟨ms, clock, hb, hE⟩ := h
  have hbl : Below w.heap.size w (w.alloc (.mapIter (some b) clock #[] clock)) := by go_grown
  exact ⟨_, _, run_range_map w t k e b ms.toArray clock ht hb, ⟨ms, clock, clock, #[], clock, (hbl.block b hlt).trans hb, hE, heap_alloc_new w _, hE.old, Nat.le_refl _, Nat.le_refl _, fun e _ => by simp, rfl⟩, hbl, by simp⟩

theorem run_next_stamp {w : World} {b r : Nat} {f : Value → Option Value} {left : Value → Prop} {cnt : Nat} (h : RngS P k w b r f left cnt) (ty : TypeId) :
    ((∀ x v, f x = some v → ¬ left x) ∧ (Instr.next (.pointer (some ⟨r, 0, none⟩)) false ty).run P w = .ok (.tuple #[.bool false]) w) ∨
    ∃ key v w' cnt', KeyV P k key ∧ f key = some v ∧ left key ∧ cnt' < cnt ∧ (Instr.next (.pointer (some ⟨r, 0, none⟩)) false ty).run P w = .ok (.tuple #[.bool true, key, v]) w' ∧
      RngS P k w' b r f (fun x => left x ∧ x ≠ key) cnt' ∧ Wrote r w w' ∧ w'.heap.size = w.heap.size ∧ (Instr.entry (.pointer (some ⟨r, 0, none⟩))).run P w' = .ok (.tuple #[key, v]) w' := by
  obtain ⟨ms, clock, since, seen, c0, hb, hE, hr, hold, hsc, hsk, hl, rfl⟩ := h
  have hne : r ≠ b := by
    intro e
    rw [e, hb] at hr
    cases hr
  rcases run_next_at (P := P) w ty r b since c0 seen ms.toArray clock hr hb (by simpa using hold) hsc with ⟨h0, hrun⟩ | ⟨e, he, w1, hal, hrun⟩
  · refine .inl ⟨fun x v hx => ?_, hrun⟩
    obtain ⟨e, he, rfl⟩ := hE.all x v hx
    rw [hl e he, all_seen ms.toArray seen h0 e (by simpa using he)]
    simp
  · obtain ⟨hem, hes⟩ := mem_left he
    have hem' : e ∈ ms := by simpa using hem
    have hr1 : w1.heap[r]? = some (.mapIter (some b) since seen c0) := by rcases hal with rfl | rfl <;> exact hr
    have hb1 : w1.heap[b]? = some (.map ms.toArray clock) := by rcases hal with rfl | rfl <;> exact hb
    have hset : (ChangeMaps.setBlock w1 r (.mapIter (some b) since (seen.push e.born) clock)).heap[r]? = some (.mapIter (some b) since (seen.push e.born) clock) ∧ ∀ i, i ≠ r → (ChangeMaps.setBlock w1 r (.mapIter (some b) since (seen.push e.born) clock)).heap[i]? = w1.heap[i]? := by
      have hrl := (Array.getElem?_eq_some_iff.1 hr1).1
      constructor
      · simp [ChangeMaps.setBlock, hrl]
      · intro i hi
        simp [ChangeMaps.setBlock, Array.getElem?_setIfInBounds_ne (fun e : r = i => hi e.symm)]
    have hb' := (hset.2 b (fun e1 => hne e1.symm)).trans hb1
    refine .inr ⟨e.key, e.val, _, _, (hE.val e hem').1, (hE.val e hem').2, (hl e hem').2 hes, left_shrinks ms.toArray seen e he, hrun,
      ⟨ms, clock, since, seen.push e.born, clock, hb', hE, hset.1, hold, hsk, hsk, fun x hx => ?_, rfl⟩, ?_, ?_,
      run_entry_at _ r b since seen ms.toArray clock e hset.1 hb' hem hE.born⟩
    · show left x.key ∧ x.key ≠ e.key ↔ _
      rw [contains_push, Bool.or_eq_false_iff, hl x hx]
      by_cases hxe : x.key = e.key
      · have : x = e := by
          obtain ⟨i, hi, rfl⟩ := List.getElem_of_mem hx
          obtain ⟨j, hj, rfl⟩ := List.getElem_of_mem hem'
          have := (List.getElem_inj hE.keys (i := i) (j := j) (h₀ := by simpa using hi) (h₁ := by simpa using hj)).1 (by simpa using hxe)
          subst this
          rfl
        subst this
        simp
      · have : x.born ≠ e.born := fun h => hxe (by rw [born_inj hE.born hx hem' h])
        simp [hxe, this]
    · rcases hal with rfl | rfl <;> exact ⟨rfl, rfl, rfl, by simp [ChangeMaps.setBlock], fun i _ hi => hset.2 i hi⟩
    · rcases hal with rfl | rfl <;> simp [ChangeMaps.setBlock]

/-! ### at the operation -/

variable {w : World} {ops : Array Oper} {rest : List Oper} {o : Oper} {a : Act} {Q : Exit → Act → World → Prop}

theorem wpList_put_stamp (hg : o.guard = none) (m x v : Operand) (t : TypeId) (hop : o.op = Op.mapUpdate t m x v ∨ o.op = Op.insert t m x v) {e : TypeId} (K : Maps.Keyed P k) (ht : P.underlying t = some (.map k e)) {b : Nat} {f f' : Value → Option Value} (hm : a.eval m = .map (some b)) (h : OwnS P k w b f) {key val : Value} (hx : a.eval x = key) (hvv : a.eval v = val) (hk : KeyV P k key) (h1 : f' key = some val) (h2 : ∀ x, x ≠ key → f' x = f x)
    (hK : ∀ w', OwnS P k w' b f' → Turned b w w' → wpList P ops Q rest (a.put o.dst undef) w') : wpList P ops Q (o :: rest) a w := by
  refine wpList_plain hg fun K' hK' => ?_
  obtain ⟨w', hrun, r1, r2⟩ := run_put_stamp (P := P) K ht h hk h1 h2
  unfold Oper.wp
  rcases hop with hop | hop
  · simp [execOp, hop, hm, hx, hvv, hrun, Result.andThen]
    exact hK' _ _ (hK w' r1 r2)
  · simp [execOp, hop, hm, hx, hvv, hrun, Result.andThen]
    exact hK' _ _ (hK w' r1 r2)

theorem wpList_range_stamp (hg : o.guard = none) (m : Operand) (t : TypeId) (hop : o.op = Op.range t m) {e : TypeId} (ht : P.underlying t = some (.map k e)) {b : Nat} {f : Value → Option Value} (hm : a.eval m = .map (some b)) (h : OwnS P k w b f)
    (hK : ∀ w' cnt, RngS P k w' b w.heap.size f (fun _ => True) cnt → Below w.heap.size w w' → w'.heap.size = w.heap.size + 1 → wpList P ops Q rest (a.put o.dst (.pointer (some ⟨w.heap.size, 0, none⟩))) w') : wpList P ops Q (o :: rest) a w := by
  refine wpList_plain hg fun K' hK' => ?_
  obtain ⟨w', cnt, hrun, r1, r2, r3⟩ := run_range_stamp (P := P) ht h
  unfold Oper.wp
  simp [execOp, hop, hm, hrun, Result.andThen]
  exact hK' _ _ (hK w' cnt r1 r2 r3)

theorem wpList_next_stamp (hg : o.guard = none) (it : Operand) (hop : o.op = Op.next it false) {b r cnt : Nat} {f : Value → Option Value} {left : Value → Prop} (hit : a.eval it = .pointer (some ⟨r, 0, none⟩)) (h : RngS P k w b r f left cnt)
    (hDone : (∀ x v, f x = some v → ¬ left x) → wpList P ops Q rest (a.put o.dst (.tuple #[.bool false])) w)
    (hMore : ∀ (key v : Value) (w' : World) (cnt' : Nat), KeyV P k key → f key = some v → left key → cnt' < cnt → RngS P k w' b r f (fun x => left x ∧ x ≠ key) cnt' → Wrote r w w' → w'.heap.size = w.heap.size →
      (Instr.entry (.pointer (some ⟨r, 0, none⟩))).run P w' = .ok (.tuple #[key, v]) w' → wpList P ops Q rest (a.put o.dst (.tuple #[.bool true, key, v])) w') : wpList P ops Q (o :: rest) a w := by
  refine wpList_plain hg fun K' hK' => ?_
  unfold Oper.wp
  rcases run_next_stamp (P := P) h o.type with ⟨hl, hrun⟩ | ⟨key, v, w', cnt', hk, hf, hlk, hlt, hrun, hrg, hw, hsz, hen⟩
  · simp [execOp, hop, hit, hrun, Result.andThen]
    exact hK' _ _ (hDone hl)
  · simp [execOp, hop, hit, hrun, Result.andThen]
    exact hK' _ _ (hMore key v w' cnt' hk hf hlk hlt hrg hw hsz hen)

end

end Go.Proofs.Ythmcigdoaededaa
