/-
  A map of the call's own as a set: every entry bears true (map[K]bool): looked up, put, deleted.
-/
import Derived.Test.YtfbnmgnkigfgpaaMapOwn
namespace Go.Proofs.Ytfbnmgnkigfgpaa
open Go.RowKit
set_option linter.unusedSimpArgs false
set_option linter.unusedVariables false

section
variable {P : Program} {k : TypeId}

/-- block b is a map: its keys are the S, each bears true -/
def OwnS (P : Program) (k : TypeId) (w : World) (b : Nat) (S : Value → Prop) : Prop :=
  ∃ (ms : List MapEntry) (clock : Nat), w.heap[b]? = some (.map ms.toArray clock) ∧ (∀ e ∈ ms, e.val = .bool true ∧ KeyV P k e.key) ∧ (ms.map (fun e => e.key)).Nodup ∧ ∀ x, S x ↔ ∃ e ∈ ms, e.key = x

theorem OwnS.new (w : World) : OwnS P k (w.alloc (.map #[] 0)) w.heap.size (fun _ => False) := ⟨[], 0, heap_alloc_new w _, by simp, by simp, by simp⟩

theorem OwnS.lt {w : World} {b : Nat} {S : Value → Prop} (h : OwnS P k w b S) : b < w.heap.size := by
  obtain ⟨ms, clock, h, _⟩ := h
  rcases Nat.lt_or_ge b w.heap.size with hl | hg
  · exact hl
  · rw [Array.getElem?_eq_none hg] at h; cases h

theorem OwnS.keep {w w' : World} {b : Nat} {S : Value → Prop} (h : OwnS P k w b S) (hb : w'.heap[b]? = w.heap[b]?) : OwnS P k w' b S := by
  obtain ⟨ms, clock, h, he⟩ := h
  exact ⟨ms, clock, hb.trans h, he⟩

theorem OwnS.below {w w' : World} {b B : Nat} {S : Value → Prop} (h : OwnS P k w b S) (hb : Below B w w') (hB : b < B) : OwnS P k w' b S := h.keep (hb.block b hB)

theorem OwnS.alloc {w : World} {b : Nat} {S : Value → Prop} (h : OwnS P k w b S) (o : Obj) : OwnS P k (w.alloc o) b S := h.keep (Below.heap_alloc w o b h.lt)

theorem OwnS.same {w : World} {b : Nat} {S S' : Value → Prop} (h : OwnS P k w b S) (he : ∀ x, S x ↔ S' x) : OwnS P k w b S' := by
  obtain ⟨ms, clock, h1, h2, h3, h4⟩ := h
  exact ⟨ms, clock, h1, h2, h3, fun x => (he x).symm.trans (h4 x)⟩

theorem run_look_set {w : World} {t e : TypeId} {b : Nat} {S : Value → Prop} (K : Maps.Keyed P k) (ht : P.underlying t = some (.map k e)) (h : OwnS P k w b S) {key : Value} (hz : (zeroValue e).run P w = .ok (.bool false) w) (hk : KeyV P k key) {q : Bool} (hq : q = true ↔ S key) :
    (Instr.lookup t (.map (some b)) key false).run P w = .ok (.bool q) w := by
  obtain ⟨ms, clock, hb, hv, hd, hS⟩ := h
  obtain ⟨l, hl⟩ := hk
  have hg : (getObj b).run P w = .ok (.map ms.toArray clock) w := MapKept.run_getObj_map hb
  rcases K.find w hl ms (fun e h => (hv e h).2) with ⟨h1, h2⟩ | ⟨j, e0, h1, h2, h3⟩
  · have hqf : q = false := by
      cases q with
      | false => rfl
      | true =>
        obtain ⟨e, he, hek⟩ := (hS key).1 (hq.1 rfl)
        exact absurd hek (h2 e he)
    subst hqf
    unfold Instr.lookup
    rw [Sem.run_bind, run_underlying ht]
    simp only [Result.andThen, Sem.run_bind, hg, Sem.run_pure, Result.andThen_ok, K.check w _ hl]
    rw [h1]
    simp [hz, Sem.run_bind]
  · have hm := List.mem_of_getElem? h2
    have hqt : q = true := hq.2 ((hS key).2 ⟨e0, hm, h3⟩)
    subst hqt
    unfold Instr.lookup
    rw [Sem.run_bind, run_underlying ht]
    simp only [Result.andThen, Sem.run_bind, hg, Sem.run_pure, Result.andThen_ok, K.check w _ hl]
    rw [h1]
    simp [(hv e0 hm).1]

theorem run_put_set {w : World} {t e : TypeId} {b : Nat} {S : Value → Prop} (K : Maps.Keyed P k) (ht : P.underlying t = some (.map k e)) (h : OwnS P k w b S) {key : Value} (hk : KeyV P k key) :
    ∃ w', (Instr.mapUpdate t (.map (some b)) key (.bool true)).run P w = .ok () w' ∧ OwnS P k w' b (fun x => S x ∨ x = key) ∧ Turned b w w' := by
  have hlt := h.lt
  obtain ⟨ms, clock, hb, hv, hd, hS⟩ := h
  have hkk := hk
  obtain ⟨l, hl⟩ := hk
  have hg : (getObj b).run P w = .ok (.map ms.toArray clock) w := MapKept.run_getObj_map hb
  rcases K.find w hl ms (fun e h => (hv e h).2) with ⟨h1, h2⟩ | ⟨j, e0, h1, h2, h3⟩
  · refine ⟨ChangeMaps.setBlock w b (.map (ms.toArray.push { key := key, val := .bool true, born := clock }) (clock + 1)), ?_, ⟨ms ++ [{ key := key, val := .bool true, born := clock }], clock + 1, ?_, ?_, ?_, ?_⟩, ⟨rfl, rfl, rfl, by simp [ChangeMaps.setBlock], fun i hi => ChangeMaps.heap_setBlock_other hb _ hi⟩⟩
    · unfold Instr.mapUpdate
      rw [Sem.run_bind, run_underlying ht]
      simp only [Result.andThen, Sem.run_bind, hg, Sem.run_pure, Result.andThen_ok, K.check w _ hl]
      rw [h1]
      simp only [Result.andThen_ok]
      exact MapKept.run_setObj_map _ hb
    · rw [ChangeMaps.heap_setBlock_same hb]
      simp
    · intro e he
      rcases List.mem_append.1 he with he | he
      · exact hv e he
      · rw [List.mem_singleton.1 he]; exact ⟨rfl, hkk⟩
    · rw [List.map_append, List.nodup_append]
      refine ⟨hd, by simp, fun x hx y hy => ?_⟩
      obtain ⟨e, he, rfl⟩ := List.mem_map.1 hx
      simp at hy
      subst hy
      exact h2 e he
    · intro x
      show S x ∨ x = key ↔ _
      rw [hS]
      constructor
      · rintro (⟨e, he, hx⟩ | rfl)
        · exact ⟨e, List.mem_append_left _ he, hx⟩
        · exact ⟨_, List.mem_append_right _ (List.mem_singleton.2 rfl), rfl⟩
      · rintro ⟨e, he, hx⟩
        rcases List.mem_append.1 he with he | he
        · exact .inl ⟨e, he, hx⟩
        · rw [List.mem_singleton.1 he] at hx; exact .inr hx.symm
  · have hm := List.mem_of_getElem? h2
    have hval := (hv e0 hm).1
    have hj : ms.toArray[j]? = some e0 := by simpa using h2
    have he0 : ({ e0 with key := key, val := .bool true } : MapEntry) = e0 := by rw [← h3, ← hval]
    have hlist : (ms.toArray.modify j (fun e' => { e' with key := key, val := .bool true })) = ms.toArray := by
      apply Array.ext'
      rw [Array.toList_modify, ChangeMaps.modify_eq_set _ _ _ _ (by simpa using h2), he0]
      have hjl : j < ms.length := (List.getElem?_eq_some_iff.1 h2).1
      have := (List.getElem?_eq_some_iff.1 h2).2
      rw [← this]
      exact List.set_getElem_self hjl
    refine ⟨ChangeMaps.setBlock w b (.map ms.toArray clock), ?_, ⟨ms, clock, ChangeMaps.heap_setBlock_same hb _, hv, hd, fun x => ?_⟩, ⟨rfl, rfl, rfl, by simp [ChangeMaps.setBlock], fun i hi => ChangeMaps.heap_setBlock_other hb _ hi⟩⟩
    · unfold Instr.mapUpdate
      rw [Sem.run_bind, run_underlying ht]
      simp only [Result.andThen, Sem.run_bind, hg, Sem.run_pure, Result.andThen_ok, K.check w _ hl]
      rw [h1]
      simp only [Result.andThen_ok, Sem.run_bind, hj, Option.map_some, Option.getD_some, h3, K.stays w hl, hlist]
      exact MapKept.run_setObj_map _ hb
    · show S x ∨ x = key ↔ _
      rw [← hS]
      exact ⟨fun h => h.elim id fun h => by rw [h, hS]; exact ⟨e0, hm, h3⟩, .inl⟩

theorem run_del_set {w : World} {t e ty : TypeId} {b : Nat} {S : Value → Prop} (K : Maps.Keyed P k) (ht : P.underlying t = some (.map k e)) (h : OwnS P k w b S) {key : Value} (hk : KeyV P k key) :
    ∃ w', (Builtin.delete_ #[t, k] ty #[.map (some b), key]).run P w = .ok (.tuple #[]) w' ∧ OwnS P k w' b (fun x => S x ∧ x ≠ key) ∧ Turned b w w' := by
  have hlt := h.lt
  obtain ⟨ms, clock, hb, hv, hd, hS⟩ := h
  obtain ⟨l, hl⟩ := hk
  rcases K.find w hl ms (fun e h => (hv e h).2) with ⟨h1, h2⟩ | ⟨j, e0, h1, h2, h3⟩
  · refine ⟨ChangeMaps.setBlock w b (.map ms.toArray clock), ?_, ⟨ms, clock, ChangeMaps.heap_setBlock_same hb _, hv, hd, fun x => ?_⟩, ⟨rfl, rfl, rfl, by simp [ChangeMaps.setBlock], fun i hi => ChangeMaps.heap_setBlock_other hb _ hi⟩⟩
    · simp [Builtin.delete_, run_underlying ht, MapKept.run_getObj_map hb, K.check w _ hl, h1, MapKept.run_setObj_map _ hb, Result.andThen, ChangeMaps.setBlock]
    · show S x ∧ x ≠ key ↔ _
      rw [← hS]
      exact ⟨fun h => h.1, fun h => ⟨h, fun e => by
        obtain ⟨e1, he, hx⟩ := (hS x).1 h
        exact h2 e1 he (hx.trans e)⟩⟩
  · have hjl : j < ms.length := (List.getElem?_eq_some_iff.1 h2).1
    have hsub : ms.toArray.eraseIdxIfInBounds j = (ms.eraseIdx j).toArray := by
      apply Array.ext'
      unfold Array.eraseIdxIfInBounds
      rw [dif_pos (by simpa using hjl)]
      simp
    have hother : ∀ i e', i ≠ j → ms[i]? = some e' → e'.key ≠ key := fun i e' hne hi hek => by
      have g1 : (ms.map (fun e => e.key))[i]? = some key := by rw [List.getElem?_map, hi, Option.map_some, hek]
      have g2 : (ms.map (fun e => e.key))[j]? = some key := by rw [List.getElem?_map, h2, Option.map_some, h3]
      have hil : i < ms.length := (List.getElem?_eq_some_iff.1 hi).1
      exact hne ((List.getElem?_inj (by simpa using hil) hd).1 (g1.trans g2.symm))
    refine ⟨ChangeMaps.setBlock w b (.map (ms.toArray.eraseIdxIfInBounds j) clock), ?_, ⟨ms.eraseIdx j, clock, by rw [ChangeMaps.heap_setBlock_same hb, hsub], fun e he => hv e ((List.eraseIdx_sublist _ _).subset he), ((List.eraseIdx_sublist _ _).map _).nodup hd, fun x => ?_⟩, ⟨rfl, rfl, rfl, by simp [ChangeMaps.setBlock], fun i hi => ChangeMaps.heap_setBlock_other hb _ hi⟩⟩
    · simp [Builtin.delete_, run_underlying ht, MapKept.run_getObj_map hb, K.check w _ hl, h1, MapKept.run_setObj_map _ hb, Result.andThen, ChangeMaps.setBlock]
    · show S x ∧ x ≠ key ↔ _
      rw [hS]
      constructor
      · rintro ⟨⟨e, he, rfl⟩, hne⟩
        obtain ⟨i, hi⟩ := List.mem_iff_getElem?.1 he
        refine ⟨e, List.mem_eraseIdx_iff_getElem?.2 ⟨i, fun hij => ?_, hi⟩, rfl⟩
        subst hij
        rw [h2] at hi
        injection hi with hi
        subst hi
        exact hne h3
      · rintro ⟨e, he, rfl⟩
        obtain ⟨i, hne, hi⟩ := List.mem_eraseIdx_iff_getElem?.1 he
        exact ⟨⟨e, List.mem_of_getElem? hi, rfl⟩, hother i e hne hi⟩

/-! ### at the operation -/

variable {w : World} {ops : Array Oper} {rest : List Oper} {o : Oper} {a : Act} {Q : Exit → Act → World → Prop}

theorem wpList_look_set (hg : o.guard = none) (m x : Operand) (t : TypeId) (hop : o.op = Op.lookup t m x false) {e : TypeId} (K : Maps.Keyed P k) (ht : P.underlying t = some (.map k e)) {b : Nat} {S : Value → Prop} (hm : a.eval m = .map (some b)) (h : OwnS P k w b S) (hz : ∀ w, (zeroValue e).run P w = .ok (.bool false) w) {key : Value} (hx : a.eval x = key) (hk : KeyV P k key) {q : Bool} (hq : q = true ↔ S key)
    (hK : wpList P ops Q rest (a.put o.dst (.bool q)) w) : wpList P ops Q (o :: rest) a w := by
  refine wpList_plain hg fun K' hK' => ?_
  unfold Oper.wp
  simp [execOp, hop, hm, hx, run_look_set K ht h (hz w) hk hq, Result.andThen]
  exact hK' _ _ hK

theorem wpList_put_set (hg : o.guard = none) (m x v : Operand) (t : TypeId) (hop : o.op = Op.mapUpdate t m x v) {e : TypeId} (K : Maps.Keyed P k) (ht : P.underlying t = some (.map k e)) {b : Nat} {S : Value → Prop} (hm : a.eval m = .map (some b)) (h : OwnS P k w b S) {key : Value} (hx : a.eval x = key) (hvv : a.eval v = .bool true) (hk : KeyV P k key)
    (hK : ∀ w', OwnS P k w' b (fun x => S x ∨ x = key) → Turned b w w' → wpList P ops Q rest (a.put o.dst undef) w') : wpList P ops Q (o :: rest) a w := by
  refine wpList_plain hg fun K' hK' => ?_
  obtain ⟨w', hrun, r1, r2⟩ := run_put_set (P := P) K ht h hk
  unfold Oper.wp
  simp [execOp, hop, hm, hx, hvv, hrun, Result.andThen]
  exact hK' _ _ (hK w' r1 r2)

theorem wpList_del_set (hg : o.guard = none) (m x : Operand) (t : TypeId) (hop : o.op = .call { callee := .builtin .delete, args := #[m, x], argTypes := #[t, k] }) {e : TypeId} (K : Maps.Keyed P k) (ht : P.underlying t = some (.map k e)) {b : Nat} {S : Value → Prop} (hm : a.eval m = .map (some b)) (h : OwnS P k w b S) {key : Value} (hx : a.eval x = key) (hk : KeyV P k key)
    (hK : ∀ w', OwnS P k w' b (fun x => S x ∧ x ≠ key) → Turned b w w' → wpList P ops Q rest (a.put o.dst (.tuple #[])) w') : wpList P ops Q (o :: rest) a w := by
  refine wpList_plain hg fun K' hK' => ?_
  obtain ⟨w', hrun, r1, r2⟩ := run_del_set (P := P) (ty := o.type) K ht h hk
  unfold Oper.wp execOp
  simp only [hop, resolve, invoke, builtin, Sem.run_bind, Sem.run_pure, Result.andThen_ok, List.map_toArray, List.map_cons, List.map_nil, hm, hx, hrun]
  exact hK' _ _ (hK w' r1 r2)

end

end Go.Proofs.Ytfbnmgnkigfgpaa
