/-
  slices.Backward over terms: its closure hands over (len - 1, last), .., (0, first), whatever the loop's body does that keeps what lay below.
-/
import Derived.Test.YteogdcjigigeeaaMBase
import Derived.RangeFuncNested
import Derived.RangeFuncBound
import Derived.RangeFuncCalls
import Derived.RangeFuncLeaves
import Derived.RangeFuncBox
import Derived.Shelf.Abstract
import Derived.Shelf.RegionOpen
import Derived.OwnWalkIn
import Derived.TacticsInMore
import Derived.LoopNIn
import Derived.LoopIn
namespace Go.Proofs.Yteogdcjigigeeaa
open Go.RowKit Go.Shelf
set_option linter.unusedSimpArgs false
set_option linter.unusedVariables false
set_option maxRecDepth 100000
attribute [local go_sem] Oper.semAt_some

theorem Own.kept {W W' : World} {row : Option Nat} {g : Nat} {t : TypeId} {cs : List Value} (h : Own W g t cs) (hg : W.grownBy W' row) (hr : ∀ r, row = some r → ∃ o : Obj, W.heap[r]? = some o ∧ o.isCells = false) : Own W' g t cs :=
  (hg.block g h.lt (fun e => by
    obtain ⟨o, ho, hc⟩ := hr g e.symm
    unfold Own at h
    rw [h] at ho
    cases ho
    cases hc)).trans h

/-- what the closure hands to the body: the number of a term, and the term -/
def encT (l : List Tm) (x : Fin l.length) : Array Value := #[.int .i64 (x.1 : Int), .agg #[.int .i64 l[x.1].op, .int .i64 l[x.1].a, .int .i64 l[x.1].b, .int .i64 l[x.1].v]]

/-- what a round keeps: all below n₀, and the block Bs -/
def KpB (n₀ Bs : Nat) (W W' : World) : Prop := Below n₀ W W' ∧ W'.heap[Bs]? = W.heap[Bs]?

theorem KpB.t {n₀ Bs : Nat} {A B C : World} (h : KpB n₀ Bs A B) (k : KpB n₀ Bs B C) : KpB n₀ Bs A C := ⟨h.1.trans k.1, k.2.trans h.2⟩

theorem KpB.refl (n₀ Bs : Nat) (A : World) : KpB n₀ Bs A A := ⟨Below.refl _ _, rfl⟩

theorem KpB.b {n₀ Bs : Nat} {w : World} (hn : n₀ ≤ w.heap.size) (hB : Bs < w.heap.size) (W : World) (l : Nat) (o o' : Obj) (hl : w.heap.size ≤ l) (h : W.heap[l]? = some o) (h1 : o.isCells = false) (h2 : o.isWalk = false) : KpB n₀ Bs W (W.putObj l o') :=
  ⟨belowK_b hn W l o o' hl h h1 h2, World.putObj_heap_other (by omega)⟩

theorem KpB.setCell {n₀ Bs : Nat} (W : World) {p : Addr} (h : n₀ ≤ p.block) (hB : Bs ≠ p.block) (u : Value) : KpB n₀ Bs W (W.setCell p u) := ⟨(Below.refl _ _).setCell h u, Below.heap_setCell W p u Bs hB⟩

theorem KpB.alloc {n₀ Bs : Nat} (W : World) (h : n₀ ≤ W.heap.size) (hB : Bs < W.heap.size) (o : Obj) : KpB n₀ Bs W (W.alloc o) := ⟨(Below.refl _ _).alloc h o, Below.heap_alloc W o Bs hB⟩

theorem KpB.drew {n₀ Bs : Nat} {A B : World} (h : KpB n₀ Bs A B) : KpB n₀ Bs A B.drew := ⟨h.1.drew, h.2⟩

set_option maxHeartbeats 2000000 in
theorem back1_in (F : Fence) (n : Nat) (h7 : F.fn 26) (hro : F.round = none) (hn : 1 ≤ n) (l Bs n₀ len cap : Nat) (A : Option Addr) (ts : List Tm) (hl : ts.length = len) (hm : len * 32 ≤ 140737488351232) (J Jx : List (Fin ts.length) → World → Prop)
    (hY : ∀ pre x W, J pre W → pre.length < ts.length → YieldAt F (n - 1) Try.prog l (encT ts x) W fun e W' =>
      (e = .returned (.bool true) ∧ J (pre ++ [x]) W' ∧ KpB n₀ Bs W W') ∨ (e = .returned (.bool false) ∧ Jx (pre ++ [x]) W'))
    (W : World) (hBs : W.cell? ⟨Bs, 0, none⟩ = some (.slice A len cap)) (hc : RdT W n₀ A ts) (h0 : J [] W) :
    CallsIn F n Try.prog 26 #[.func (.yield l) #[] #[], .pointer (some ⟨Bs, 0, none⟩)] W fun e W' => (∃ v, e = .returned v) ∧
      ((∃ ys, ys = bks ts.length ts.length ∧ J ys W') ∨ (∃ pre, (∃ k, k ≤ ts.length ∧ pre = bks ts.length k) ∧ Jx pre W')) := by
  have HL := Lib.hid hl
  clear hl
  refine callsIn_of_wp Try.func26 rfl h7 ?_ hro
  simp only [Try.ntmps26, List.size_toArray, List.length_cons, List.length_nil, Nat.reduceAdd, Nat.reduceSub, Array.replicate_succ, Array.replicate_zero, List.push_toArray, List.append_toArray, List.nil_append, List.cons_append]
  gi_wp2
  gi_loopw [3] (fun i wr => ∃ (k : Nat) (z : Int), k ≤ len ∧ i = .int .i64 z ∧ z = (len : Int) - 1 - k ∧ J (bks ts.length k) wr ∧ KpB n₀ Bs W wr)
    (fun i _ => (intOf i + 1).toNat)
  case atStart => exact ⟨0, _, Nat.zero_le _, rfl, by omega, h0, KpB.refl _ _ _⟩
  case round =>
    obtain ⟨k, z, hk, rfl, hz, hJs, hnx⟩ := hrel
    have hbx : wr.cell? ⟨Bs, 0, none⟩ = some (.slice A len cap) := (World.cell?_of_block hnx.2).trans hBs
    by_cases hlt : k < len
    · obtain ⟨m, rfl⟩ : ∃ m : Nat, z = (m : Int) := ⟨len - 1 - k, by omega⟩
      have hmk : m < ts.length := by rw [HL.out]; omega
      obtain ⟨ad, o, a, b, v, rfl, hbl, hd, hc0, hc1, hc2, hc3⟩ := (hc.below hnx.1 (Nat.le_refl _)).at_ (k := m) hmk
      have hget : ts[m] = ⟨o, a, b, v⟩ := (List.getElem?_eq_some_iff.1 hd).2
      obtain ⟨fn, tmps, assign, body, hy, hR⟩ := hY _ ⟨m, hmk⟩ wr hJs (by rw [bks_len (by rw [HL.out]; omega), HL.out]; exact hlt)
      simp only [encT, hget] at hy
      have HZ := Lib.hid hz
      have HD := Lib.hid hd
      clear hz hd hget
      have hmlen : m < len := by have := HZ.out; omega
      gi_wp2
      refine hR.mono ?_
      rintro e W3 (⟨rfl, hJ3, hk3⟩ | ⟨rfl, hJx3⟩)
      · gi_wp2
        have hidx : (⟨m, hmk⟩ : Fin ts.length) = ⟨ts.length - 1 - k, by omega⟩ := by
          apply Fin.ext
          show m = ts.length - 1 - k
          have := HZ.out; have := HL.out; omega
        rw [hidx, ← bks_succ (by rw [HL.out]; exact hlt)] at hJ3
        go_roundw
        case rel => exact ⟨k + 1, _, by omega, rfl, by have := HZ.out; omega, hJ3, hnx.t hk3⟩
        case measure => simp [intOf]
      · gi_wp2
        have hidx : (⟨m, hmk⟩ : Fin ts.length) = ⟨ts.length - 1 - k, by omega⟩ := by
          apply Fin.ext
          show m = ts.length - 1 - k
          have := HZ.out; have := HL.out; omega
        rw [hidx, ← bks_succ (by rw [HL.out]; exact hlt)] at hJx3
        refine bodyPost_ret (results_none rfl _ _ _) rfl ?_
        exact ⟨⟨_, rfl⟩, .inr ⟨_, ⟨k + 1, by rw [HL.out]; omega, rfl⟩, hJx3⟩⟩
    · have hz0 : z < 0 := by omega
      have HZ := Lib.hid hz
      clear hz
      gi_wp2
      go_end0
      have : k = ts.length := by rw [HL.out]; omega
      subst this
      exact ⟨⟨_, rfl⟩, .inl ⟨_, rfl, hJs⟩⟩

set_option maxHeartbeats 1000000 in
theorem back_in (F : Fence) (n : Nat) (h5 : F.fn 18) (hro : F.round = none) (A : Option Addr) (len cap : Nat) (w : World) :
    CallsIn F n Try.prog 18 #[.slice A len cap] w fun e w' => e = .returned (.func (.func 26) #[] #[.pointer (some ⟨w.heap.size, 0, none⟩)]) ∧ w' = w.alloc (.cells #[.slice A len cap] 22) := by
  refine callsIn_of_wp Try.func18 rfl h5 ?_ hro
  simp only [Try.ntmps18, List.size_toArray, List.length_cons, List.length_nil, Nat.reduceAdd, Nat.reduceSub, Array.replicate_succ, Array.replicate_zero, List.push_toArray, List.append_toArray, List.nil_append, List.cons_append]
  gi_wp2
  go_ret
  exact ⟨rfl, rfl⟩

theorem back_stops (F : Fence) (n : Nat) (h8 : F.fn 26) (hro : F.round = none) (hn : 1 ≤ n) (Bs n₀ len cap : Nat) (A : Option Addr) (ts : List Tm) (hl : ts.length = len) (hm : len * 32 ≤ 140737488351232) (w : World) (hBn : Bs < w.heap.size) (hn₀ : n₀ ≤ w.heap.size)
    (hc : w.cell? ⟨Bs, 0, none⟩ = some (.slice A len cap)) (hx : RdT w n₀ A ts) :
    SeqStopsK F n Try.prog 26 #[.pointer (some ⟨Bs, 0, none⟩)] (encT ts) (KpB n₀ Bs) (fun ys => ys = bks ts.length ts.length)
      (fun pre => ∃ k, k ≤ ts.length ∧ pre = bks ts.length k) ts.length w := fun l J Jx W hW _ _ hY h0 =>
  back1_in F n h8 hro hn l Bs n₀ len cap A ts hl hm J Jx hY W ((hW.cell (p := ⟨Bs, 0, none⟩) hBn).trans hc) (hx.below (hW.mono hn₀) (Nat.le_refl _)) h0

end Go.Proofs.Yteogdcjigigeeaa
