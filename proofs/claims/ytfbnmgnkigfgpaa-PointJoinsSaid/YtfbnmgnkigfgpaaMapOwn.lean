/-
  A map of the call's own as a list of its entries, for any key type that the library has a law for.
-/
import Derived.Test.YtfbnmgnkigfgpaaMBase
import Derived.Maps.Own
import Derived.Maps.OwnOps
import Derived.DeepKeys5
namespace Go.Proofs.Ytfbnmgnkigfgpaa
open Go.RowKit
set_option linter.unusedSimpArgs false
set_option linter.unusedVariables false

/-- block b is a map with these entries, in the order in which they came -/
def OwnM (w : World) (b : Nat) (es : List (Value × Value)) : Prop := ∃ (ms : List MapEntry) (clock : Nat), w.heap[b]? = some (.map ms.toArray clock) ∧ ms.map (fun e => (e.key, e.val)) = es

theorem OwnM.new (w : World) : OwnM (w.alloc (.map #[] 0)) w.heap.size [] := ⟨[], 0, heap_alloc_new w _, rfl⟩

theorem OwnM.lt {w : World} {b : Nat} {es : List (Value × Value)} (h : OwnM w b es) : b < w.heap.size := by
  obtain ⟨ms, clock, h, _⟩ := h
  rcases Nat.lt_or_ge b w.heap.size with hl | hg
  · exact hl
  · rw [Array.getElem?_eq_none hg] at h; cases h

theorem OwnM.keep {w w' : World} {b : Nat} {es : List (Value × Value)} (h : OwnM w b es) (hb : w'.heap[b]? = w.heap[b]?) : OwnM w' b es := by
  obtain ⟨ms, clock, h, he⟩ := h
  exact ⟨ms, clock, hb.trans h, he⟩

theorem OwnM.below {w w' : World} {b B : Nat} {es : List (Value × Value)} (h : OwnM w b es) (hb : Below B w w') (hB : b < B) : OwnM w' b es := h.keep (hb.block b hB)

theorem OwnM.alloc {w : World} {b : Nat} {es : List (Value × Value)} (h : OwnM w b es) (o : Obj) : OwnM (w.alloc o) b es := h.keep (Below.heap_alloc w o b h.lt)

section
variable {P : Program} {k : TypeId}

/-- the program takes v for a key of type k -/
def KeyV (P : Program) (k : TypeId) (v : Value) : Prop := ∃ l, keyOf P k v = some l

/-- where a key is found -/
theorem find_own {w : World} (K : Maps.Keyed P k) {ms : List MapEntry} {es : List (Value × Value)} (he : ms.map (fun e => (e.key, e.val)) = es) (hks : ∀ p ∈ es, KeyV P k p.1) {key : Value} (hk : KeyV P k key) :
    (∀ v, (key, v) ∈ es → (∀ p ∈ es, p.1 = key → p.2 = v) → ∃ j, (Instr.findKey k key ms).run P w = .ok (some (j, v)) w) ∧ ((∀ p ∈ es, p.1 ≠ key) → (Instr.findKey k key ms).run P w = .ok none w) := by
  obtain ⟨l, hl⟩ := hk
  have hmem : ∀ e ∈ ms, (e.key, e.val) ∈ es := fun e h => by rw [← he]; exact List.mem_map.2 ⟨e, h, rfl⟩
  rcases K.find w hl ms (fun e h => hks _ (hmem e h)) with ⟨h1, h2⟩ | ⟨j, e, h1, h2, h3⟩
  · refine ⟨fun v hv _ => ?_, fun _ => h1⟩
    rw [← he] at hv
    obtain ⟨e, he1, he2⟩ := List.mem_map.1 hv
    injection he2 with q1 q2
    exact absurd q1 (h2 e he1)
  · refine ⟨fun v hv hu => ⟨j, ?_⟩, fun hn => ?_⟩
    · have hv2 : e.val = v := hu _ (hmem e (List.mem_of_getElem? h2)) h3
      rw [h1, hv2]
    · exact absurd h3 (hn _ (hmem e (List.mem_of_getElem? h2)))

theorem run_look_old {w : World} {t e : TypeId} {b : Nat} {es : List (Value × Value)} (K : Maps.Keyed P k) (ht : P.underlying t = some (.map k e)) (h : OwnM w b es) (hks : ∀ p ∈ es, KeyV P k p.1) {key v : Value} (hk : KeyV P k key) (hv : (key, v) ∈ es) (hu : ∀ p ∈ es, p.1 = key → p.2 = v) (ok : Bool) :
    (Instr.lookup t (.map (some b)) key ok).run P w = .ok (if ok then .tuple #[v, .bool true] else v) w := by
  obtain ⟨ms, clock, hb, he⟩ := h
  obtain ⟨j, hf⟩ := (find_own (w := w) K he hks hk).1 v hv hu
  obtain ⟨l, hl⟩ := hk
  have hg : (getObj b).run P w = .ok (.map ms.toArray clock) w := MapKept.run_getObj_map hb
  unfold Instr.lookup
  rw [Sem.run_bind, run_underlying ht]
  simp only [Result.andThen, Sem.run_bind, hg, Sem.run_pure, Result.andThen_ok, K.check w _ hl]
  rw [hf]
  simp

theorem run_look_new {w : World} {t e : TypeId} {b : Nat} {es : List (Value × Value)} (K : Maps.Keyed P k) (ht : P.underlying t = some (.map k e)) (h : OwnM w b es) (hks : ∀ p ∈ es, KeyV P k p.1) {key z : Value} (hz : (zeroValue e).run P w = .ok z w) (hk : KeyV P k key) (hn : ∀ p ∈ es, p.1 ≠ key) (ok : Bool) :
    (Instr.lookup t (.map (some b)) key ok).run P w = .ok (if ok then .tuple #[z, .bool false] else z) w := by
  obtain ⟨ms, clock, hb, he⟩ := h
  have hf := (find_own (w := w) K he hks hk).2 hn
  obtain ⟨l, hl⟩ := hk
  have hg : (getObj b).run P w = .ok (.map ms.toArray clock) w := MapKept.run_getObj_map hb
  unfold Instr.lookup
  rw [Sem.run_bind, run_underlying ht]
  simp only [Result.andThen, Sem.run_bind, hg, Sem.run_pure, Result.andThen_ok, K.check w _ hl]
  rw [hf]
  simp [hz, Sem.run_bind]

/-- block b alone is another -/
structure Turned (b : Nat) (w w' : World) : Prop where
  os : w'.os = w.os
  tape : w'.tape = w.tape
  output : w'.output = w.output
  size : w'.heap.size = w.heap.size
  block : ∀ i, i ≠ b → w'.heap[i]? = w.heap[i]?

theorem Turned.below {b B : Nat} {w w' : World} (h : Turned b w w') (hB : B ≤ b) : Below B w w' := ⟨h.os, h.tape, h.output, Nat.le_of_eq h.size.symm, fun i hi => h.block i (by omega)⟩

theorem Turned.own {b g : Nat} {w w' : World} (h : Turned b w w') (hg : g ≠ b) {t : TypeId} {cs : List Value} (ho : Own w g t cs) : Own w' g t cs := (h.block g hg).trans ho

theorem Turned.row {b : Nat} {w w' : World} (h : Turned b w w') {base : Nat} {e : TypeId} {size : Nat} {v : Value} {n : Nat} {xs : List Value} (ho : w.ownsRow base e size v n xs) (hb : b < base) : w'.ownsRow base e size v n xs := by
  refine ⟨ho.1, ?_⟩
  rcases ho.2 with h' | ⟨g, cap, cur, h1, h2, h3, h4⟩
  · exact .inl h'
  · exact .inr ⟨g, cap, cur, h1, h2, (h.block g (by omega)).trans h3, h4⟩

theorem Turned.cell {b : Nat} {w w' : World} (h : Turned b w w') {p : Addr} (hp : p.block ≠ b) : w'.cell? p = w.cell? p := World.cell?_of_block (w := w) (h.block p.block hp)

theorem run_put_new {w : World} {t e : TypeId} {b : Nat} {es : List (Value × Value)} (K : Maps.Keyed P k) (ht : P.underlying t = some (.map k e)) (h : OwnM w b es) (hks : ∀ p ∈ es, KeyV P k p.1) {key v : Value} (hk : KeyV P k key) (hn : ∀ p ∈ es, p.1 ≠ key) :
    ∃ w', (Instr.mapUpdate t (.map (some b)) key v).run P w = .ok () w' ∧ OwnM w' b (es ++ [(key, v)]) ∧ Turned b w w' := by
  have hlt := h.lt
  obtain ⟨ms, clock, hb, he⟩ := h
  have hf := (find_own (w := w) K he hks hk).2 hn
  obtain ⟨l, hl⟩ := hk
  have hg : (getObj b).run P w = .ok (.map ms.toArray clock) w := MapKept.run_getObj_map hb
  refine ⟨ChangeMaps.setBlock w b (.map (ms.toArray.push { key := key, val := v, born := clock }) (clock + 1)), ?_, ⟨ms ++ [{ key := key, val := v, born := clock }], clock + 1, ?_, by simp [he]⟩, ⟨rfl, rfl, rfl, by simp [ChangeMaps.setBlock], fun i hi => ChangeMaps.heap_setBlock_other hb _ hi⟩⟩
  · unfold Instr.mapUpdate
    rw [Sem.run_bind, run_underlying ht]
    simp only [Result.andThen, Sem.run_bind, hg, Sem.run_pure, Result.andThen_ok, K.check w _ hl]
    rw [hf]
    simp only [Result.andThen_ok]
    exact MapKept.run_setObj_map _ hb
  · rw [ChangeMaps.heap_setBlock_same hb]
    simp

/-! ### at the operation -/

variable {w : World} {ops : Array Oper} {rest : List Oper} {o : Oper} {a : Act} {Q : Exit → Act → World → Prop}

theorem wpList_look_old (hg : o.guard = none) (m x : Operand) (t : TypeId) (ok : Bool) (hop : o.op = Op.lookup t m x ok) {e : TypeId} (K : Maps.Keyed P k) (ht : P.underlying t = some (.map k e)) {b : Nat} {es : List (Value × Value)} (hm : a.eval m = .map (some b)) (h : OwnM w b es) (hks : ∀ p ∈ es, KeyV P k p.1) {key : Value} (hx : a.eval x = key) (hk : KeyV P k key) {v : Value} (hv : (key, v) ∈ es) (hu : ∀ p ∈ es, p.1 = key → p.2 = v)
    (hK : wpList P ops Q rest (a.put o.dst (if ok then .tuple #[v, .bool true] else v)) w) : wpList P ops Q (o :: rest) a w := by
  refine wpList_plain hg fun K' hK' => ?_
  unfold Oper.wp
  simp [execOp, hop, hm, hx, run_look_old K ht h hks hk hv hu ok, Result.andThen]
  exact hK' _ _ hK

theorem wpList_look_new (hg : o.guard = none) (m x : Operand) (t : TypeId) (ok : Bool) (hop : o.op = Op.lookup t m x ok) {e : TypeId} (K : Maps.Keyed P k) (ht : P.underlying t = some (.map k e)) {b : Nat} {es : List (Value × Value)} (hm : a.eval m = .map (some b)) (h : OwnM w b es) (hks : ∀ p ∈ es, KeyV P k p.1) {key z : Value} (hz : ∀ w, (zeroValue e).run P w = .ok z w) (hx : a.eval x = key) (hk : KeyV P k key) (hn : ∀ p ∈ es, p.1 ≠ key)
    (hK : wpList P ops Q rest (a.put o.dst (if ok then .tuple #[z, .bool false] else z)) w) : wpList P ops Q (o :: rest) a w := by
  refine wpList_plain hg fun K' hK' => ?_
  unfold Oper.wp
  simp [execOp, hop, hm, hx, run_look_new K ht h hks (hz w) hk hn ok, Result.andThen]
  exact hK' _ _ hK

theorem wpList_put_new (hg : o.guard = none) (m x v : Operand) (t : TypeId) (hop : o.op = Op.mapUpdate t m x v) {e : TypeId} (K : Maps.Keyed P k) (ht : P.underlying t = some (.map k e)) {b : Nat} {es : List (Value × Value)} (hm : a.eval m = .map (some b)) (h : OwnM w b es) (hks : ∀ p ∈ es, KeyV P k p.1) {key val : Value} (hx : a.eval x = key) (hvv : a.eval v = val) (hk : KeyV P k key) (hn : ∀ p ∈ es, p.1 ≠ key)
    (hK : ∀ w', OwnM w' b (es ++ [(key, val)]) → Turned b w w' → wpList P ops Q rest (a.put o.dst undef) w') : wpList P ops Q (o :: rest) a w := by
  refine wpList_plain hg fun K' hK' => ?_
  obtain ⟨w', hrun, r1, r2⟩ := run_put_new (P := P) K ht h hks (v := val) hk hn
  unfold Oper.wp
  simp [execOp, hop, hm, hx, hvv, hrun, Result.andThen]
  exact hK' _ _ (hK w' r1 r2)

end

end Go.Proofs.Ytfbnmgnkigfgpaa
