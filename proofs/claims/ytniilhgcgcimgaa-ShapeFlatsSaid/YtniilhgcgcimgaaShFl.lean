/-
  A program that is being made (U2): its box, its array, its rows of steps: each of the call's own and apart.
-/
import Derived.Test.YtniilhgcgcimgaaPureShapeF
import Derived.Test.YtniilhgcgcimgaaMOpen
import Derived.Test.YtniilhgcgcimgaaMBase
import Derived.Test.YtniilhgcgcimgaaShMem
import Derived.Test.YtniilhgcgcimgaaShBld
namespace Go.Proofs.Ytniilhgcgcimgaa
open Go.RowKit
set_option linter.unusedSimpArgs false
set_option linter.unusedVariables false
set_option maxRecDepth 100000

/-- a block's row of steps, as a value -/
def rowV (q : Bk × Option Addr × Nat) : Value := .slice q.2.1 q.1.code.length q.2.2

/-- of what was there, blocks of F alone may have changed; what may change from now on is of F, or new -/
structure Fr (F F' : Nat → Prop) (w w' : World) : Prop where
  os : w'.os = w.os
  tape : w'.tape = w.tape
  output : w'.output = w.output
  size : w.heap.size ≤ w'.heap.size
  block : ∀ b, b < w.heap.size → ¬ F b → w'.heap[b]? = w.heap[b]?
  foot : ∀ b, F' b → F b ∨ w.heap.size ≤ b

theorem Fr.refl (F : Nat → Prop) (w : World) : Fr F F w w := ⟨rfl, rfl, rfl, Nat.le_refl _, fun _ _ _ => rfl, fun _ h => .inl h⟩

theorem Fr.trans {F F' F2 : Nat → Prop} {w w1 w2 : World} (h : Fr F F' w w1) (h2 : Fr F' F2 w1 w2) : Fr F F2 w w2 := by
  have hs := h.size
  refine ⟨h2.os.trans h.os, h2.tape.trans h.tape, h2.output.trans h.output, Nat.le_trans hs h2.size, fun b hb hn => ?_, fun b hb => ?_⟩
  · refine (h2.block b (by omega) fun hf => ?_).trans (h.block b hb hn)
    rcases h.foot b hf with h3 | h3
    · exact hn h3
    · omega
  · rcases h2.foot b hb with h3 | h3
    · exact h.foot b h3
    · exact .inr (by omega)

theorem Fr.of_below (F : Nat → Prop) {w w' : World} (h : Below w.heap.size w w') : Fr F F w w' := ⟨h.os, h.tape, h.output, h.size, fun b hb _ => h.block b hb, fun _ h => .inl h⟩

theorem Fr.via {F F' : Nat → Prop} {w w1 w2 : World} (h : Fr F F' w w1) (h2 : Below w1.heap.size w1 w2) : Fr F F' w w2 := h.trans (Fr.of_below F' h2)

theorem Fr.pre {F F' : Nat → Prop} {w w1 w2 : World} (h2 : Below w.heap.size w w1) (h : Fr F F' w1 w2) : Fr F F' w w2 := (Fr.of_below F h2).trans h

theorem Fr.below {F F' : Nat → Prop} {B : Nat} {w w' : World} (h : Fr F F' w w') (hF : ∀ b, F b → B ≤ b) (hB : B ≤ w.heap.size) : Below B w w' :=
  ⟨h.os, h.tape, h.output, h.size, fun b hb => h.block b (by omega) fun hf => by have := hF b hf; omega⟩

theorem Fr.own {F F' : Nat → Prop} {g : Nat} {w w' : World} {t : TypeId} {cs : List Value} (h : Fr F F' w w') (ho : Own w g t cs) (hn : ¬ F g) : Own w' g t cs := (h.block g ho.lt hn).trans ho

theorem Fr.out {F F' : Nat → Prop} {g : Nat} {w w' : World} (h : Fr F F' w w') (hg : g < w.heap.size) (hn : ¬ F g) : ¬ F' g := fun hf => by
  rcases h.foot g hf with h3 | h3
  · exact hn h3
  · omega

/-- the program so far -/
structure FlP (B g : Nat) (F : Nat → Prop) (A : Option Addr) (c : Nat) (qs : List (Bk × Option Addr × Nat)) (w : World) : Prop where
  box : Own w g 60 [.slice A qs.length c]
  arr : w.ownsRow B 39 4 (.slice A qs.length c) qs.length (rv cBk qs)
  rows : ∀ (i : Nat) (q : Bk × Option Addr × Nat), qs[i]? = some q → w.ownsRow B 66 5 (rowV q) q.1.code.length (rv cSt q.1.code)
  bg : B ≤ g
  na : (Value.slice A qs.length c).ownBlock ≠ some g
  nr : ∀ (i : Nat) (q : Bk × Option Addr × Nat), qs[i]? = some q → (rowV q).ownBlock ≠ some g ∧ ∀ b, (rowV q).ownBlock = some b → (Value.slice A qs.length c).ownBlock ≠ some b
  ap : ∀ (i j : Nat) (q q' : Bk × Option Addr × Nat) (b : Nat), i ≠ j → qs[i]? = some q → qs[j]? = some q' → (rowV q).ownBlock = some b → (rowV q').ownBlock ≠ some b
  foot : ∀ b, F b → b < w.heap.size ∧ B ≤ b
  fg : F g
  fa : ∀ b, (Value.slice A qs.length c).ownBlock = some b → F b
  fr : ∀ (i : Nat) (q : Bk × Option Addr × Nat) (b : Nat), qs[i]? = some q → (rowV q).ownBlock = some b → F b

/-- the blocks that may change: those of F, and all that are new since -/
def Fnew (F : Nat → Prop) (s s' : Nat) (b : Nat) : Prop := F b ∨ (s ≤ b ∧ b < s')

section
variable {B g c : Nat} {F : Nat → Prop} {A : Option Addr} {qs : List (Bk × Option Addr × Nat)} {w w' : World}

theorem FlP.up (h : FlP B g F A c qs w) (hb : Below w.heap.size w w') : FlP B g F A c qs w' :=
  ⟨h.box.below hb h.box.lt, own_below h.arr hb, fun i q hq => own_below (h.rows i q hq) hb, h.bg, h.na, h.nr, h.ap, fun b hf => ⟨Nat.lt_of_lt_of_le (h.foot b hf).1 hb.size, (h.foot b hf).2⟩, h.fg, h.fa, h.fr⟩

/-- a fresh block is none of those -/
theorem FlP.fresh (h : FlP B g F A c qs w) : ¬ F w.heap.size := fun hf => by have := (h.foot _ hf).1; omega

theorem FlP.lt (h : FlP B g F A c qs w) : g < w.heap.size := h.box.lt

theorem own_keptF {base size n : Nat} {e : TypeId} {v : Value} {xs : List Value} {w w' : World} (h : w.ownsRow base e size v n xs) (hk : ∀ b, v.ownBlock = some b → w'.heap[b]? = w.heap[b]?) : w'.ownsRow base e size v n xs := by
  refine ⟨h.1, ?_⟩
  rcases h.2 with h' | ⟨k, cap, cur, h1, h2, h3, h4⟩
  · exact .inl h'
  · exact .inr ⟨k, cap, cur, h1, h2, (hk k (by rw [h1]; rfl)).trans h3, h4⟩

theorem ownBlock_lt {base size n : Nat} {e : TypeId} {v : Value} {xs : List Value} (h : w.ownsRow base e size v n xs) {b : Nat} (hb : v.ownBlock = some b) : base ≤ b ∧ b < w.heap.size := h.lt b hb

/-- one block more: nothing in it, nothing behind it -/
theorem FlP.add (h : FlP B g F A c qs w) {X w8 : World} {A8 : Option Addr} {c8 : Nat} (hX : Below w.heap.size w X)
    (hown : w8.ownsRow B 39 4 (.slice A8 (qs.length + 1) c8) (qs.length + 1) (rv cBk qs ++ cBk (bkO, none, 0))) (hg : X.grownBy w8 (Value.slice A qs.length c).ownBlock)
    (hbl : (Value.slice A8 (qs.length + 1) c8).ownBlock = (Value.slice A qs.length c).ownBlock ∨ (Value.slice A8 (qs.length + 1) c8).ownBlock = some X.heap.size) :
    FlP B g (Fnew F w.heap.size w8.heap.size) A8 c8 (qs ++ [(bkO, none, 0)]) (w8.setCell ⟨g, 0, none⟩ (.slice A8 (qs.length + 1) c8)) ∧ Fr F (Fnew F w.heap.size w8.heap.size) w (w8.setCell ⟨g, 0, none⟩ (.slice A8 (qs.length + 1) c8)) := by
  have hl : (qs ++ [((bkO, none, 0) : Bk × Option Addr × Nat)]).length = qs.length + 1 := by simp
  have hs := hX.size
  have hs8 := hg.size
  have hgl := h.lt
  have hz : (w8.setCell ⟨g, 0, none⟩ (.slice A8 (qs.length + 1) c8)).heap.size = w8.heap.size := by simp [World.setCell]
  have hne8 : (Value.slice A8 (qs.length + 1) c8).ownBlock ≠ some g := by
    rcases hbl with e | e
    · rw [e]; exact h.na
    · rw [e]; intro e2; injection e2 with e2; omega
  have hkeep : ∀ b, b < w.heap.size → b ≠ g → (Value.slice A qs.length c).ownBlock ≠ some b → (w8.setCell ⟨g, 0, none⟩ (.slice A8 (qs.length + 1) c8)).heap[b]? = w.heap[b]? := fun b hb h1 h2 =>
    (Below.heap_setCell w8 ⟨g, 0, none⟩ _ b (fun e => h1 e)).trans ((hg.block b (by omega) (fun e => h2 e.symm)).trans (hX.block b hb))
  have hbox8 : Own w8 g 60 [.slice A qs.length c] := by
    have h1 := h.box.below hX h.box.lt
    exact (hg.block g h1.lt (fun e => h.na e.symm)).trans h1
  refine ⟨⟨by rw [hl]; exact hbox8.set 0 _, ?_, fun i q hq => ?_, h.bg, by rw [hl]; exact hne8, fun i q hq => ?_, fun i j q q' b hij hq hq' hb => ?_, fun b hf => ?_, .inl h.fg, fun b hb => ?_, fun i q b hq hb => ?_⟩, ?_⟩
  · rw [hl, rv_append, rv_one]
    exact own_keptF hown fun b hb => Below.heap_setCell w8 ⟨g, 0, none⟩ _ b (fun e => hne8 (by rw [hb]; exact congrArg some e))
  · rcases Nat.lt_or_ge i qs.length with hi | hi
    · rw [List.getElem?_append_left hi] at hq
      refine own_keptF (h.rows i q hq) fun b hb => hkeep b (ownBlock_lt (h.rows i q hq) hb).2 (fun e => (h.nr i q hq).1 (by rw [hb, e])) ((h.nr i q hq).2 b hb)
    · rw [List.getElem?_append_right hi] at hq
      have := (List.getElem?_eq_some_iff.1 hq).1
      simp at this
      rw [this] at hq
      simp at hq
      subst hq
      exact World.ownsRow_nil _ _ _ _
  · rw [hl]
    rcases Nat.lt_or_ge i qs.length with hi | hi
    · rw [List.getElem?_append_left hi] at hq
      refine ⟨(h.nr i q hq).1, fun b hb => ?_⟩
      rcases hbl with e | e
      · rw [e]; exact (h.nr i q hq).2 b hb
      · rw [e]; intro e2; injection e2 with e2; have := (ownBlock_lt (h.rows i q hq) hb).2; omega
    · rw [List.getElem?_append_right hi] at hq
      have := (List.getElem?_eq_some_iff.1 hq).1
      simp at this
      rw [this] at hq
      simp at hq
      subst hq
      exact ⟨by simp [rowV, Value.ownBlock], fun b hb => by simp [rowV, Value.ownBlock] at hb⟩
  · rcases Nat.lt_or_ge i qs.length with hi | hi
    · rw [List.getElem?_append_left hi] at hq
      rcases Nat.lt_or_ge j qs.length with hj | hj
      · rw [List.getElem?_append_left hj] at hq'
        exact h.ap i j q q' b hij hq hq' hb
      · rw [List.getElem?_append_right hj] at hq'
        have := (List.getElem?_eq_some_iff.1 hq').1
        simp at this
        rw [this] at hq'
        simp at hq'
        subst hq'
        simp [rowV, Value.ownBlock]
    · rw [List.getElem?_append_right hi] at hq
      have := (List.getElem?_eq_some_iff.1 hq).1
      simp at this
      rw [this] at hq
      simp at hq
      subst hq
      simp [rowV, Value.ownBlock] at hb
  · rw [hz]
    rcases hf with hf | hf
    · have := h.foot b hf
      exact ⟨by omega, this.2⟩
    · have := h.bg
      exact ⟨hf.2, by omega⟩
  · rw [hl] at hb
    have := ownBlock_lt hown hb
    rcases hbl with e | e
    · rw [e] at hb
      exact .inl (h.fa b hb)
    · rw [e] at hb
      injection hb with hb
      exact .inr ⟨by omega, this.2⟩
  · rcases Nat.lt_or_ge i qs.length with hi | hi
    · rw [List.getElem?_append_left hi] at hq
      exact .inl (h.fr i q b hq hb)
    · rw [List.getElem?_append_right hi] at hq
      have := (List.getElem?_eq_some_iff.1 hq).1
      simp at this
      rw [this] at hq
      simp at hq
      subst hq
      simp [rowV, Value.ownBlock] at hb
  · refine ⟨hg.os.trans hX.os, hg.tape.trans hX.tape, hg.output.trans hX.output, by rw [hz]; omega, fun b hb hn => hkeep b hb (fun e => hn (e ▸ h.fg)) (fun e => hn (h.fa b e)), fun b hb => ?_⟩
    rcases hb with hb | hb
    · exact .inl hb
    · exact .inr hb.1

theorem rv_set_at {α : Type} {f : α → List Value} {m : Nat} (hm : ∀ x, (f x).length = m) : ∀ {l : List α} {i j : Nat} {x x' : α} {v : Value}, l[i]? = some x → j < m → f x' = (f x).set j v → (rv f l).set (i * m + j) v = rv f (l.set i x')
  | [], _, _, _, _, _, h, _, _ => by simp at h
  | y :: r, 0, j, x, x', v, h, hj, he => by
    simp at h
    subst h
    rw [show y :: r = [y] ++ r from rfl, rv_append, rv_one, Nat.zero_mul, Nat.zero_add, List.set_append_left _ _ (by rw [hm]; exact hj), ← he]
    show f x' ++ rv f r = rv f ((y :: r).set 0 x')
    rw [List.set_cons_zero, show x' :: r = [x'] ++ r from rfl, rv_append, rv_one]
  | y :: r, i + 1, j, x, x', v, h, hj, he => by
    have e : (i + 1) * m + j = (f y).length + (i * m + j) := by rw [hm, Nat.add_mul, Nat.one_mul]; omega
    have ih := rv_set_at hm (l := r) (i := i) (j := j) (v := v) (by simpa using h) hj he
    rw [show y :: r = [y] ++ r from rfl, rv_append, rv_one, e, List.set_append_right _ _ (by omega), Nat.add_sub_cancel_left, ih]
    show f y ++ rv f (r.set i x') = rv f ((y :: r).set (i + 1) x')
    rw [List.set_cons_succ, show y :: r.set i x' = [y] ++ r.set i x' from rfl, rv_append, rv_one]

/-- a block's number stored in the array: its row stays as it is -/
theorem FlP.put {ga : Nat} (h : FlP B g F (some ⟨ga, 0, none⟩) c qs w) {i j : Nat} {q q' : Bk × Option Addr × Nat} {v : Value} (hq : qs[i]? = some q) (hj : j < 4) (he : cBk q' = (cBk q).set j v) (hr : rowV q' = rowV q) (hcode : q'.1.code = q.1.code) :
    FlP B g F (some ⟨ga, 0, none⟩) c (qs.set i q') (w.setCell ⟨ga, i * 4 + j, none⟩ v) ∧ Fr F F w (w.setCell ⟨ga, i * 4 + j, none⟩ v) := by
  have hl : (qs.set i q').length = qs.length := by simp
  have hz : (w.setCell ⟨ga, i * 4 + j, none⟩ v).heap.size = w.heap.size := by simp [World.setCell]
  have hga : (Value.slice (some ⟨ga, 0, none⟩) qs.length c).ownBlock = some ga := rfl
  have hfa : F ga := h.fa ga hga
  have hkeep : ∀ b, b ≠ ga → (w.setCell ⟨ga, i * 4 + j, none⟩ v).heap[b]? = w.heap[b]? := fun b hb => Below.heap_setCell w ⟨ga, i * 4 + j, none⟩ v b (fun e => hb e)
  have hget : ∀ k x, (qs.set i q')[k]? = some x → ∃ y, qs[k]? = some y ∧ rowV x = rowV y ∧ x.1.code = y.1.code := fun k x hx => by
    by_cases e : i = k
    · subst e
      rw [List.getElem?_set_self (List.getElem?_eq_some_iff.1 hq).1] at hx
      injection hx with hx
      subst hx
      exact ⟨q, hq, hr, hcode⟩
    · rw [List.getElem?_set_ne e] at hx
      exact ⟨x, hx, rfl, rfl⟩
  refine ⟨⟨?_, ?_, fun k x hx => ?_, h.bg, by rw [hl]; exact h.na, fun k x hx => ?_, fun k k' x x' b hk hx hx' hb => ?_, fun b hf => by rw [hz]; exact h.foot b hf, h.fg, fun b hb => h.fa b (by rw [hl] at hb; exact hb), fun k x b hx hb => ?_⟩, ?_⟩
  · rw [hl]
    exact (hkeep g (fun e => h.na (by rw [hga, e]))).trans h.box
  · rw [hl, ← rv_set_at cBk_len hq hj he]
    exact (h.arr.stored (i * 4 + j) v).1
  · obtain ⟨y, hy, e1, e2⟩ := hget k x hx
    rw [e1, e2]
    exact own_keptF (h.rows k y hy) fun b hb => hkeep b fun e => (h.nr k y hy).2 b hb (by rw [hga, e])
  · obtain ⟨y, hy, e1, e2⟩ := hget k x hx
    rw [e1, hl]
    exact h.nr k y hy
  · obtain ⟨y, hy, e1, e2⟩ := hget k x hx
    obtain ⟨y', hy', e3, e4⟩ := hget k' x' hx'
    rw [e1] at hb
    rw [e3]
    exact h.ap k k' y y' b hk hy hy' hb
  · obtain ⟨y, hy, e1, e2⟩ := hget k x hx
    rw [e1] at hb
    exact h.fr k y b hy hb
  · exact ⟨rfl, rfl, rfl, by rw [hz]; exact Nat.le_refl _, fun b hb hn => hkeep b fun e => hn (e ▸ hfa), fun b hb => .inl hb⟩

/-- more steps appended to a block's row, and stored -/
theorem FlP.code {ga : Nat} (h : FlP B g F (some ⟨ga, 0, none⟩) c qs w) {X w8 : World} {i : Nat} {q : Bk × Option Addr × Nat} {cs : List St} {A8 : Option Addr} {k8 c8 : Nat} (hq : qs[i]? = some q) (hX : Below w.heap.size w X) (hk8 : q.1.code.length + cs.length = k8)
    (hown : w8.ownsRow B 66 5 (.slice A8 k8 c8) k8 (rv cSt (q.1.code ++ cs))) (hg : X.grownBy w8 (rowV q).ownBlock)
    (hbl : (Value.slice A8 k8 c8).ownBlock = (rowV q).ownBlock ∨ (Value.slice A8 k8 c8).ownBlock = some X.heap.size) :
    FlP B g (Fnew F w.heap.size w8.heap.size) (some ⟨ga, 0, none⟩) c (qs.set i (⟨q.1.code ++ cs, q.1.test, q.1.th, q.1.el⟩, A8, c8)) (w8.setCell ⟨ga, i * 4, none⟩ (.slice A8 k8 c8)) ∧ Fr F (Fnew F w.heap.size w8.heap.size) w (w8.setCell ⟨ga, i * 4, none⟩ (.slice A8 k8 c8)) := by
  subst hk8
  have hlc : (q.1.code ++ cs).length = q.1.code.length + cs.length := List.length_append
  have hil := (List.getElem?_eq_some_iff.1 hq).1
  have hga : (Value.slice (some ⟨ga, 0, none⟩) qs.length c).ownBlock = some ga := rfl
  have hgal := ownBlock_lt h.arr hga
  have hs := hX.size
  have hs8 := hg.size
  have hgl := h.lt
  have hrg := (h.nr i q hq).1
  have hra : (rowV q).ownBlock ≠ some ga := fun e => (h.nr i q hq).2 ga e hga
  have hkeep8 : ∀ b, b < w.heap.size → (rowV q).ownBlock ≠ some b → w8.heap[b]? = w.heap[b]? := fun b hb h2 => (hg.block b (by omega) (fun e => h2 e.symm)).trans (hX.block b hb)
  have hl : (qs.set i ((⟨q.1.code ++ cs, q.1.test, q.1.th, q.1.el⟩, A8, c8) : Bk × Option Addr × Nat)).length = qs.length := by simp
  have hz : (w8.setCell ⟨ga, i * 4, none⟩ (.slice A8 (q.1.code.length + cs.length) c8)).heap.size = w8.heap.size := by simp [World.setCell]
  have hkeep : ∀ b, b < w.heap.size → (rowV q).ownBlock ≠ some b → b ≠ ga → (w8.setCell ⟨ga, i * 4, none⟩ (.slice A8 (q.1.code.length + cs.length) c8)).heap[b]? = w.heap[b]? := fun b hb h2 h3 => (Below.heap_setCell w8 ⟨ga, i * 4, none⟩ _ b (fun e => h3 e)).trans (hkeep8 b hb h2)
  have hb8 : ∀ b, (Value.slice A8 (q.1.code.length + cs.length) c8).ownBlock = some b → (rowV q).ownBlock = some b ∨ b = X.heap.size := fun b hb => by
    rcases hbl with e | e
    · exact .inl (by rw [← e]; exact hb)
    · rw [e] at hb
      injection hb with hb
      exact .inr hb.symm
  have h8a : (Value.slice A8 (q.1.code.length + cs.length) c8).ownBlock ≠ some ga := fun e => by
    rcases hb8 ga e with h1 | h1
    · exact hra h1
    · omega
  have hget : ∀ k x, (qs.set i ((⟨q.1.code ++ cs, q.1.test, q.1.th, q.1.el⟩, A8, c8) : Bk × Option Addr × Nat))[k]? = some x → (k = i ∧ x = (⟨q.1.code ++ cs, q.1.test, q.1.th, q.1.el⟩, A8, c8)) ∨ (k ≠ i ∧ qs[k]? = some x) := fun k x hx => by
    by_cases e : i = k
    · subst e
      rw [List.getElem?_set_self hil] at hx
      injection hx with hx
      exact .inl ⟨rfl, hx.symm⟩
    · rw [List.getElem?_set_ne e] at hx
      exact .inr ⟨fun e2 => e e2.symm, hx⟩
  have hrow8 : rowV (⟨q.1.code ++ cs, q.1.test, q.1.th, q.1.el⟩, A8, c8) = .slice A8 (q.1.code.length + cs.length) c8 := by
    show Value.slice A8 (q.1.code ++ cs).length c8 = _
    rw [hlc]
  refine ⟨⟨?_, ?_, fun k x hx => ?_, h.bg, by rw [hl]; exact h.na, fun k x hx => ?_, fun k k' x x' b hk hx hx' hb => ?_, fun b hf => ?_, .inl h.fg, fun b hb => .inl (h.fa b (by rw [hl] at hb; exact hb)), fun k x b hx hb => ?_⟩, ?_⟩
  · rw [hl]
    exact (hkeep g hgl hrg (fun e => h.na (by rw [hga, e]))).trans h.box
  · rw [hl]
    have harr8 : w8.ownsRow B 39 4 (.slice (some ⟨ga, 0, none⟩) qs.length c) qs.length (rv cBk qs) := own_keptF h.arr fun b hb => by
      rw [hga] at hb
      injection hb with hb
      subst hb
      exact hkeep8 ga hgal.2 hra
    have := (harr8.stored (i * 4) (.slice A8 (q.1.code.length + cs.length) c8)).1
    have e := rv_set_at (f := cBk) cBk_len (x' := ((⟨q.1.code ++ cs, q.1.test, q.1.th, q.1.el⟩, A8, c8) : Bk × Option Addr × Nat)) (v := .slice A8 (q.1.code.length + cs.length) c8) (j := 0) hq (by omega) (by simp [cBk, hlc])
    rw [Nat.add_zero] at e
    rw [← e]
    exact this
  · rcases hget k x hx with ⟨rfl, rfl⟩ | ⟨hne, hx⟩
    · rw [hrow8]
      show World.ownsRow _ B 66 5 _ (q.1.code ++ cs).length (rv cSt (q.1.code ++ cs))
      rw [hlc]
      exact own_keptF hown fun b hb => Below.heap_setCell w8 ⟨ga, _, none⟩ _ b (fun e => h8a (by rw [hb]; exact congrArg some e))
    · refine own_keptF (h.rows k x hx) fun b hb => hkeep b (ownBlock_lt (h.rows k x hx) hb).2 (fun e => h.ap k i x q b hne hx hq hb e) fun e => (h.nr k x hx).2 b hb (by rw [hga, e])
  · rw [hl]
    rcases hget k x hx with ⟨rfl, rfl⟩ | ⟨hne, hx⟩
    · rw [hrow8]
      refine ⟨fun e => ?_, fun b hb => ?_⟩
      · rcases hb8 g e with h1 | h1
        · exact hrg h1
        · omega
      · rw [hga]
        intro e
        injection e with e
        subst e
        exact h8a hb
    · exact h.nr k x hx
  · rcases hget k x hx with ⟨rfl, rfl⟩ | ⟨hne, hx2⟩
    · rcases hget k' x' hx' with ⟨rfl, _⟩ | ⟨hne', hx'⟩
      · exact absurd rfl hk
      · rw [hrow8] at hb
        rcases hb8 b hb with h1 | h1
        · exact h.ap _ k' q x' b hk hq hx' h1
        · intro e
          have := (ownBlock_lt (h.rows k' x' hx') e).2
          omega
    · rcases hget k' x' hx' with ⟨rfl, rfl⟩ | ⟨hne', hx2'⟩
      · rw [hrow8]
        intro e
        rcases hb8 b e with h1 | h1
        · exact h.ap k _ x q b hk hx2 hq hb h1
        · have := (ownBlock_lt (h.rows k x hx2) hb).2
          omega
      · exact h.ap k k' x x' b hk hx2 hx2' hb
  · rw [hz]
    rcases hf with hf | hf
    · have := h.foot b hf
      exact ⟨by omega, this.2⟩
    · have := h.bg
      exact ⟨hf.2, by omega⟩
  · rcases hget k x hx with ⟨rfl, rfl⟩ | ⟨hne, hx⟩
    · rw [hrow8] at hb
      rcases hb8 b hb with h1 | h1
      · exact .inl (h.fr _ q b hq h1)
      · have := ownBlock_lt hown hb
        exact .inr ⟨by omega, this.2⟩
    · exact .inl (h.fr k x b hx hb)
  · refine ⟨hg.os.trans hX.os, hg.tape.trans hX.tape, hg.output.trans hX.output, by rw [hz]; omega, fun b hb hn => hkeep b hb (fun e => hn (h.fr i q b hq e)) (fun e => hn (e ▸ h.fa ga hga)), fun b hb => ?_⟩
    rcases hb with hb | hb
    · exact .inl hb
    · exact .inr hb.1

end

/-- the program so far, by itself -/
def FlQ (B g : Nat) (F : Nat → Prop) (p : List Bk) (w : World) : Prop := ∃ A c qs, qs.map (·.1) = p ∧ FlP B g F A c qs w

theorem FlQ.up {B g : Nat} {F : Nat → Prop} {p : List Bk} {w w' : World} (h : FlQ B g F p w) (hb : Below w.heap.size w w') : FlQ B g F p w' := by
  obtain ⟨A, c, qs, e, h1⟩ := h
  exact ⟨A, c, qs, e, h1.up hb⟩

end Go.Proofs.Ytniilhgcgcimgaa
