/-
  A map of the call's own as a function from keys to values: looked up, put (over an old entry too).
-/
import Derived.Test.YtfhnhbkdhdocjaaMapOwn
namespace Go.Proofs.Ytfhnhbkdhdocjaa
open Go.RowKit
set_option linter.unusedSimpArgs false
set_option linter.unusedVariables false

section
variable {P : Program} {k : TypeId}

/-- block b is a map: what f says -/
def OwnF (P : Program) (k : TypeId) (w : World) (b : Nat) (f : Value → Option Value) : Prop :=
  ∃ (ms : List MapEntry) (clock : Nat), w.heap[b]? = some (.map ms.toArray clock) ∧ (∀ e ∈ ms, KeyV P k e.key ∧ f e.key = some e.val) ∧ (ms.map (fun e => e.key)).Nodup ∧ ∀ x v, f x = some v → ∃ e ∈ ms, e.key = x

theorem OwnF.new (w : World) : OwnF P k (w.alloc (.map #[] 0)) w.heap.size (fun _ => none) := ⟨[], 0, heap_alloc_new w _, by simp, by simp, by simp⟩

theorem OwnF.lt {w : World} {b : Nat} {f : Value → Option Value} (h : OwnF P k w b f) : b < w.heap.size := by
  obtain ⟨ms, clock, h, _⟩ := h
  rcases Nat.lt_or_ge b w.heap.size with hl | hg
  · exact hl
  · rw [Array.getElem?_eq_none hg] at h; cases h

theorem OwnF.keep {w w' : World} {b : Nat} {f : Value → Option Value} (h : OwnF P k w b f) (hb : w'.heap[b]? = w.heap[b]?) : OwnF P k w' b f := by
  obtain ⟨ms, clock, h, he⟩ := h
  exact ⟨ms, clock, hb.trans h, he⟩

theorem OwnF.below {w w' : World} {b B : Nat} {f : Value → Option Value} (h : OwnF P k w b f) (hb : Below B w w') (hB : b < B) : OwnF P k w' b f := h.keep (hb.block b hB)

theorem OwnF.alloc {w : World} {b : Nat} {f : Value → Option Value} (h : OwnF P k w b f) (o : Obj) : OwnF P k (w.alloc o) b f := h.keep (Below.heap_alloc w o b h.lt)

theorem run_look_fun {w : World} {t e : TypeId} {b : Nat} {f : Value → Option Value} (K : Maps.Keyed P k) (ht : P.underlying t = some (.map k e)) (h : OwnF P k w b f) {key z : Value} (hz : (zeroValue e).run P w = .ok z w) (hk : KeyV P k key) :
    (Instr.lookup t (.map (some b)) key true).run P w = .ok (match f key with | some v => .tuple #[v, .bool true] | none => .tuple #[z, .bool false]) w := by
  obtain ⟨ms, clock, hb, hv, hd, hS⟩ := h
  obtain ⟨l, hl⟩ := hk
  have hg : (getObj b).run P w = .ok (.map ms.toArray clock) w := MapKept.run_getObj_map hb
  rcases K.find w hl ms (fun e h => (hv e h).1) with ⟨h1, h2⟩ | ⟨j, e0, h1, h2, h3⟩
  · have hqf : f key = none := by
      cases hq : f key with
      | none => rfl
      | some v =>
        obtain ⟨e, he, hek⟩ := hS key v hq
        exact absurd hek (h2 e he)
    rw [hqf]
    unfold Instr.lookup
    rw [Sem.run_bind, run_underlying ht]
    simp only [Result.andThen, Sem.run_bind, hg, Sem.run_pure, Result.andThen_ok, K.check w _ hl]
    rw [h1]
    simp [hz, Sem.run_bind]
  · have hm := List.mem_of_getElem? h2
    have hqt : f key = some e0.val := by rw [← h3]; exact (hv e0 hm).2
    rw [hqt]
    unfold Instr.lookup
    rw [Sem.run_bind, run_underlying ht]
    simp only [Result.andThen, Sem.run_bind, hg, Sem.run_pure, Result.andThen_ok, K.check w _ hl]
    rw [h1]
    simp

theorem run_put_fun {w : World} {t e : TypeId} {b : Nat} {f f' : Value → Option Value} (K : Maps.Keyed P k) (ht : P.underlying t = some (.map k e)) (h : OwnF P k w b f) {key v : Value} (hk : KeyV P k key) (h1' : f' key = some v) (h2' : ∀ x, x ≠ key → f' x = f x) :
    ∃ w', (Instr.mapUpdate t (.map (some b)) key v).run P w = .ok () w' ∧ OwnF P k w' b f' ∧ Turned b w w' := by
  have hlt := h.lt
  obtain ⟨ms, clock, hb, hv, hd, hS⟩ := h
  have hkk := hk
  obtain ⟨l, hl⟩ := hk
  have hg : (getObj b).run P w = .ok (.map ms.toArray clock) w := MapKept.run_getObj_map hb
  rcases K.find w hl ms (fun e h => (hv e h).1) with ⟨h1, h2⟩ | ⟨j, e0, h1, h2, h3⟩
  · refine ⟨ChangeMaps.setBlock w b (.map (ms.toArray.push { key := key, val := v, born := clock }) (clock + 1)), ?_, ⟨ms ++ [{ key := key, val := v, born := clock }], clock + 1, ?_, ?_, ?_, ?_⟩, ⟨rfl, rfl, rfl, by simp [ChangeMaps.setBlock], fun i hi => ChangeMaps.heap_setBlock_other hb _ hi⟩⟩
    · unfold Instr.mapUpdate
      rw [Sem.run_bind, run_underlying ht]
      simp only [Result.andThen, Sem.run_bind, hg, Sem.run_pure, Result.andThen_ok, K.check w _ hl]
      rw [h1]
      simp only [Result.andThen_ok]
      exact MapKept.run_setObj_map _ hb
    · rw [ChangeMaps.heap_setBlock_same hb]
      simp
    · intro e he
      rcases List.mem_append.1 he with he | he
      · exact ⟨(hv e he).1, by rw [h2' _ (h2 e he)]; exact (hv e he).2⟩
      · rw [List.mem_singleton.1 he]; exact ⟨hkk, h1'⟩
    · rw [List.map_append, List.nodup_append]
      refine ⟨hd, by simp, fun x hx y hy => ?_⟩
      obtain ⟨e, he, rfl⟩ := List.mem_map.1 hx
      simp at hy
      subst hy
      exact h2 e he
    · intro x u hu
      by_cases hx : x = key
      · exact ⟨_, List.mem_append_right _ (List.mem_singleton.2 rfl), hx.symm⟩
      · rw [h2' x hx] at hu
        obtain ⟨e, he, hek⟩ := hS x u hu
        exact ⟨e, List.mem_append_left _ he, hek⟩
  · have hj : ms.toArray[j]? = some e0 := by simpa using h2
    have hjl := (List.getElem?_eq_some_iff.1 h2).1
    have hlist : (ms.toArray.modify j (fun e' => { e' with key := key, val := v })) = (ms.set j { e0 with key := key, val := v }).toArray := by
      apply Array.ext'
      rw [Array.toList_modify, ChangeMaps.modify_eq_set _ _ _ _ (by simpa using h2)]
    have hkeys : (ms.set j { e0 with key := key, val := v }).map (fun e => e.key) = ms.map (fun e => e.key) := by
      rw [List.map_set]
      apply List.ext_getElem?
      intro i
      rw [List.getElem?_set]
      split
      · rename_i e
        subst e
        rw [if_pos (by simpa using hjl), List.getElem?_map, h2]
        exact congrArg some h3.symm
      · rfl
    refine ⟨ChangeMaps.setBlock w b (.map (ms.set j { e0 with key := key, val := v }).toArray clock), ?_, ⟨ms.set j { e0 with key := key, val := v }, clock, ChangeMaps.heap_setBlock_same hb _, fun e he => ?_, by rw [hkeys]; exact hd, fun x u hu => ?_⟩, ⟨rfl, rfl, rfl, by simp [ChangeMaps.setBlock], fun i hi => ChangeMaps.heap_setBlock_other hb _ hi⟩⟩
    · unfold Instr.mapUpdate
      rw [Sem.run_bind, run_underlying ht]
      simp only [Result.andThen, Sem.run_bind, hg, Sem.run_pure, Result.andThen_ok, K.check w _ hl]
      rw [h1]
      simp only [Result.andThen_ok, Sem.run_bind, hj, Option.map_some, Option.getD_some, h3, K.stays w hl, hlist]
      exact MapKept.run_setObj_map _ hb
    · obtain ⟨i, hi, rfl⟩ := List.getElem_of_mem he
      have hil : i < ms.length := by simpa using hi
      rw [List.getElem_set]
      split
      · exact ⟨hkk, h1'⟩
      · rename_i hne
        have hmem := List.getElem_mem hil
        refine ⟨(hv _ hmem).1, ?_⟩
        rw [h2' _ ?_]
        · exact (hv _ hmem).2
        · intro e
          have g1 : (ms.map (fun e => e.key))[i]? = some key := by rw [List.getElem?_map, List.getElem?_eq_getElem hil]; exact congrArg some e
          have g2 : (ms.map (fun e => e.key))[j]? = some key := by rw [List.getElem?_map, h2]; exact congrArg some h3
          have := (List.getElem?_inj (by simpa using hil) hd).1 (g1.trans g2.symm)
          exact hne this.symm
    · have hx : x ∈ ms.map (fun e => e.key) := by
        by_cases hx : x = key
        · rw [hx, ← h3]
          exact List.mem_map.2 ⟨e0, List.mem_of_getElem? h2, rfl⟩
        · rw [h2' x hx] at hu
          obtain ⟨e, he, hek⟩ := hS x u hu
          exact List.mem_map.2 ⟨e, he, hek⟩
      rw [← hkeys] at hx
      obtain ⟨e, he, hek⟩ := List.mem_map.1 hx
      exact ⟨e, he, hek⟩

/-! ### at the operation -/

variable {w : World} {ops : Array Oper} {rest : List Oper} {o : Oper} {a : Act} {Q : Exit → Act → World → Prop}

theorem wpList_look_fun (hg : o.guard = none) (m x : Operand) (t : TypeId) (hop : o.op = Op.lookup t m x true) {e : TypeId} (K : Maps.Keyed P k) (ht : P.underlying t = some (.map k e)) {b : Nat} {f : Value → Option Value} (hm : a.eval m = .map (some b)) (h : OwnF P k w b f) {key z : Value} (hz : ∀ w, (zeroValue e).run P w = .ok z w) (hx : a.eval x = key) (hk : KeyV P k key)
    (hK : wpList P ops Q rest (a.put o.dst (match f key with | some v => .tuple #[v, .bool true] | none => .tuple #[z, .bool false])) w) : wpList P ops Q (o :: rest) a w := by
  refine wpList_plain hg fun K' hK' => ?_
  unfold Oper.wp
  simp only [execOp, hop, hm, hx, Sem.run_bind, run_look_fun K ht h (hz w) hk, Result.andThen, Sem.run_pure]
  exact hK' _ _ hK

theorem wpList_look_hit (hg : o.guard = none) (m x : Operand) (t : TypeId) (hop : o.op = Op.lookup t m x true) {e : TypeId} (K : Maps.Keyed P k) (ht : P.underlying t = some (.map k e)) {b : Nat} {f : Value → Option Value} (hm : a.eval m = .map (some b)) (h : OwnF P k w b f) {key z v : Value} (hz : ∀ w, (zeroValue e).run P w = .ok z w) (hx : a.eval x = key) (hk : KeyV P k key) (hf : f key = some v)
    (hK : wpList P ops Q rest (a.put o.dst (.tuple #[v, .bool true])) w) : wpList P ops Q (o :: rest) a w := by
  refine wpList_look_fun hg m x t hop K ht hm h hz hx hk ?_
  rw [hf]
  exact hK

theorem wpList_look_miss (hg : o.guard = none) (m x : Operand) (t : TypeId) (hop : o.op = Op.lookup t m x true) {e : TypeId} (K : Maps.Keyed P k) (ht : P.underlying t = some (.map k e)) {b : Nat} {f : Value → Option Value} (hm : a.eval m = .map (some b)) (h : OwnF P k w b f) {key z : Value} (hz : ∀ w, (zeroValue e).run P w = .ok z w) (hx : a.eval x = key) (hk : KeyV P k key) (hf : f key = none)
    (hK : wpList P ops Q rest (a.put o.dst (.tuple #[z, .bool false])) w) : wpList P ops Q (o :: rest) a w := by
  refine wpList_look_fun hg m x t hop K ht hm h hz hx hk ?_
  rw [hf]
  exact hK

theorem wpList_put_fun (hg : o.guard = none) (m x v : Operand) (t : TypeId) (hop : o.op = Op.mapUpdate t m x v) {e : TypeId} (K : Maps.Keyed P k) (ht : P.underlying t = some (.map k e)) {b : Nat} {f f' : Value → Option Value} (hm : a.eval m = .map (some b)) (h : OwnF P k w b f) {key val : Value} (hx : a.eval x = key) (hvv : a.eval v = val) (hk : KeyV P k key) (h1 : f' key = some val) (h2 : ∀ x, x ≠ key → f' x = f x)
    (hK : ∀ w', OwnF P k w' b f' → Turned b w w' → wpList P ops Q rest (a.put o.dst undef) w') : wpList P ops Q (o :: rest) a w := by
  refine wpList_plain hg fun K' hK' => ?_
  obtain ⟨w', hrun, r1, r2⟩ := run_put_fun (P := P) K ht h hk h1 h2
  unfold Oper.wp
  simp [execOp, hop, hm, hx, hvv, hrun, Result.andThen]
  exact hK' _ _ (hK w' r1 r2)

end

end Go.Proofs.Ytfhnhbkdhdocjaa
