/-
  Several texts in one: BackS, RevS, LiveStep, LiveNeed, Round, LiveSpread.
-/
import Derived.Test.YtfhnhbkdhdocjaaBack
import Derived.Test.YtfhnhbkdhdocjaaMOpen
import Derived.BigRegion
import Derived.RangeFuncCalls
import Derived.Test.YtfhnhbkdhdocjaaMPure
import Derived.Test.YtfhnhbkdhdocjaaMBlkR
import Derived.Test.YtfhnhbkdhdocjaaWords
import Derived.Laws.BitsAllLaws
import Derived.BigQuiet
import Derived.Test.YtfhnhbkdhdocjaaLiveTrim
import Derived.OrdersIn
import Derived.TacticsIn
import Derived.Deep.QuietTactic
import Derived.Deep.RegionHeld
import Derived.Test.YtfhnhbkdhdocjaaWordsOwn

/-
  slices.Backward over steps and over blocks: its closure hands over (len - 1, last), .., (0, first), whatever the loop's body does that keeps what lay below.
-/

namespace Go.Proofs.Ytfhnhbkdhdocjaa
open Go.RowKit Go.Shelf
set_option linter.unusedSimpArgs false
set_option linter.unusedVariables false
set_option maxRecDepth 100000
attribute [local go_sem] Oper.semAt_some

/-- what the closure hands to the body: the number of a step, and the step -/
def encS (l : List St) (x : Fin l.length) : Array Value := #[.int .i64 (x.1 : Int), .agg #[.int .i64 l[x.1].op, .int .i64 l[x.1].to, .int .i64 l[x.1].a, .int .i64 l[x.1].b, .int .i64 l[x.1].v]]

/-- .. the number of a block, and the block -/
def encB (l : List (Bk × Option Addr × Nat)) (x : Fin l.length) : Array Value := #[.int .i64 (x.1 : Int), .agg #[.slice l[x.1].2.1 l[x.1].1.code.length l[x.1].2.2, .int .i64 l[x.1].1.test, .int .i64 l[x.1].1.th, .int .i64 l[x.1].1.el]]

set_option maxHeartbeats 2000000 in
theorem backS1_in (F : Fence) (n : Nat) (h7 : F.fn 102) (hro : F.round = none) (hn : 1 ≤ n) (l Bs n₀ len cap : Nat) (A : Option Addr) (ts : List St) (hl : ts.length = len) (hm : len * 40 ≤ 140737488351232) (J Jx : List (Fin ts.length) → World → Prop)
    (hY : ∀ pre x W, J pre W → pre.length < ts.length → YieldAt F (n - 1) Try.prog l (encS ts x) W fun e W' =>
      (e = .returned (.bool true) ∧ J (pre ++ [x]) W' ∧ KpB n₀ Bs W W') ∨ (e = .returned (.bool false) ∧ Jx (pre ++ [x]) W'))
    (W : World) (hBs : W.cell? ⟨Bs, 0, none⟩ = some (.slice A len cap)) (hc : RdS W n₀ A ts) (h0 : J [] W) :
    CallsIn F n Try.prog 102 #[.func (.yield l) #[] #[], .pointer (some ⟨Bs, 0, none⟩)] W fun e W' => (∃ v, e = .returned v) ∧
      ((∃ ys, ys = bks ts.length ts.length ∧ J ys W') ∨ (∃ pre, (∃ k, k ≤ ts.length ∧ pre = bks ts.length k) ∧ Jx pre W')) := by
  have HL := Lib.hid hl
  clear hl
  refine callsIn_of_wp Try.func102 rfl h7 ?_ hro
  simp only [Try.ntmps102, List.size_toArray, List.length_cons, List.length_nil, Nat.reduceAdd, Nat.reduceSub, Array.replicate_succ, Array.replicate_zero, List.push_toArray, List.append_toArray, List.nil_append, List.cons_append]
  gi_wp2
  gi_loopw [3] (fun i wr => ∃ (k : Nat) (z : Int), k ≤ len ∧ i = .int .i64 z ∧ z = (len : Int) - 1 - k ∧ J (bks ts.length k) wr ∧ KpB n₀ Bs W wr)
    (fun i _ => (intOf i + 1).toNat)
  case atStart => exact ⟨0, _, Nat.zero_le _, rfl, by omega, h0, KpB.refl _ _ _⟩
  case round =>
    obtain ⟨k, z, hk, rfl, hz, hJs, hnx⟩ := hrel
    have hbx : wr.cell? ⟨Bs, 0, none⟩ = some (.slice A len cap) := (World.cell?_of_block hnx.2).trans hBs
    by_cases hlt : k < len
    · obtain ⟨m, rfl⟩ : ∃ m : Nat, z = (m : Int) := ⟨len - 1 - k, by omega⟩
      have hmk : m < ts.length := by rw [HL.out]; omega
      obtain ⟨ad, o, t, a, b, v, rfl, hbl, hd, hc0, hc1, hc2, hc3, hc4⟩ := (hc.below hnx.1 (Nat.le_refl _)).at_ (k := m) hmk
      have hget : ts[m] = ⟨o, t, a, b, v⟩ := (List.getElem?_eq_some_iff.1 hd).2
      obtain ⟨fn, tmps, assign, body, hy, hR⟩ := hY _ ⟨m, hmk⟩ wr hJs (by rw [bks_len (by rw [HL.out]; omega), HL.out]; exact hlt)
      simp only [encS, hget] at hy
      have HZ := Lib.hid hz
      have HD := Lib.hid hd
      clear hz hd hget
      have hmlen : m < len := by have := HZ.out; omega
      gi_wp2
      refine hR.mono ?_
      rintro e W3 (⟨rfl, hJ3, hk3⟩ | ⟨rfl, hJx3⟩)
      · gi_wp2
        have hidx : (⟨m, hmk⟩ : Fin ts.length) = ⟨ts.length - 1 - k, by omega⟩ := by
          apply Fin.ext
          show m = ts.length - 1 - k
          have := HZ.out; have := HL.out; omega
        rw [hidx, ← bks_succ (by rw [HL.out]; exact hlt)] at hJ3
        go_roundw
        case rel => exact ⟨k + 1, _, by omega, rfl, by have := HZ.out; omega, hJ3, hnx.t hk3⟩
        case measure => simp [intOf]
      · gi_wp2
        have hidx : (⟨m, hmk⟩ : Fin ts.length) = ⟨ts.length - 1 - k, by omega⟩ := by
          apply Fin.ext
          show m = ts.length - 1 - k
          have := HZ.out; have := HL.out; omega
        rw [hidx, ← bks_succ (by rw [HL.out]; exact hlt)] at hJx3
        refine bodyPost_ret (results_none rfl _ _ _) rfl ?_
        exact ⟨⟨_, rfl⟩, .inr ⟨_, ⟨k + 1, by rw [HL.out]; omega, rfl⟩, hJx3⟩⟩
    · have hz0 : z < 0 := by omega
      have HZ := Lib.hid hz
      clear hz
      gi_wp2
      go_end0
      have : k = ts.length := by rw [HL.out]; omega
      subst this
      exact ⟨⟨_, rfl⟩, .inl ⟨_, rfl, hJs⟩⟩

set_option maxHeartbeats 1000000 in
theorem backS_in (F : Fence) (n : Nat) (h5 : F.fn 81) (hro : F.round = none) (A : Option Addr) (len cap : Nat) (w : World) :
    CallsIn F n Try.prog 81 #[.slice A len cap] w fun e w' => e = .returned (.func (.func 102) #[] #[.pointer (some ⟨w.heap.size, 0, none⟩)]) ∧ w' = w.alloc (.cells #[.slice A len cap] 49) := by
  refine callsIn_of_wp Try.func81 rfl h5 ?_ hro
  simp only [Try.ntmps81, List.size_toArray, List.length_cons, List.length_nil, Nat.reduceAdd, Nat.reduceSub, Array.replicate_succ, Array.replicate_zero, List.push_toArray, List.append_toArray, List.nil_append, List.cons_append]
  gi_wp2
  go_ret
  exact ⟨rfl, rfl⟩

theorem backS_stops (F : Fence) (n : Nat) (h8 : F.fn 102) (hro : F.round = none) (hn : 1 ≤ n) (Bs n₀ len cap : Nat) (A : Option Addr) (ts : List St) (hl : ts.length = len) (hm : len * 40 ≤ 140737488351232) (w : World) (hBn : Bs < w.heap.size) (hn₀ : n₀ ≤ w.heap.size)
    (hc : w.cell? ⟨Bs, 0, none⟩ = some (.slice A len cap)) (hx : RdS w n₀ A ts) :
    SeqStopsK F n Try.prog 102 #[.pointer (some ⟨Bs, 0, none⟩)] (encS ts) (KpB n₀ Bs) (fun ys => ys = bks ts.length ts.length)
      (fun pre => ∃ k, k ≤ ts.length ∧ pre = bks ts.length k) ts.length w := fun l J Jx W hW _ _ hY h0 =>
  backS1_in F n h8 hro hn l Bs n₀ len cap A ts hl hm J Jx hY W ((hW.cell (p := ⟨Bs, 0, none⟩) hBn).trans hc) (hx.below (hW.mono hn₀) (Nat.le_refl _)) h0

set_option maxHeartbeats 2000000 in
theorem backB1_in (F : Fence) (n : Nat) (h7 : F.fn 119) (hro : F.round = none) (hn : 1 ≤ n) (l Bs n₀ len cap : Nat) (A : Option Addr) (ts : List (Bk × Option Addr × Nat)) (hl : ts.length = len) (hm : len * 48 ≤ 140737488351232) (J Jx : List (Fin ts.length) → World → Prop)
    (hY : ∀ pre x W, J pre W → pre.length < ts.length → YieldAt F (n - 1) Try.prog l (encB ts x) W fun e W' =>
      (e = .returned (.bool true) ∧ J (pre ++ [x]) W' ∧ KpB n₀ Bs W W') ∨ (e = .returned (.bool false) ∧ Jx (pre ++ [x]) W'))
    (W : World) (hBs : W.cell? ⟨Bs, 0, none⟩ = some (.slice A len cap)) (hc : RdR cBk W n₀ A 4 ts) (h0 : J [] W) :
    CallsIn F n Try.prog 119 #[.func (.yield l) #[] #[], .pointer (some ⟨Bs, 0, none⟩)] W fun e W' => (∃ v, e = .returned v) ∧
      ((∃ ys, ys = bks ts.length ts.length ∧ J ys W') ∨ (∃ pre, (∃ k, k ≤ ts.length ∧ pre = bks ts.length k) ∧ Jx pre W')) := by
  have HL := Lib.hid hl
  clear hl
  refine callsIn_of_wp Try.func119 rfl h7 ?_ hro
  simp only [Try.ntmps119, List.size_toArray, List.length_cons, List.length_nil, Nat.reduceAdd, Nat.reduceSub, Array.replicate_succ, Array.replicate_zero, List.push_toArray, List.append_toArray, List.nil_append, List.cons_append]
  gi_wp2
  gi_loopw [3] (fun i wr => ∃ (k : Nat) (z : Int), k ≤ len ∧ i = .int .i64 z ∧ z = (len : Int) - 1 - k ∧ J (bks ts.length k) wr ∧ KpB n₀ Bs W wr)
    (fun i _ => (intOf i + 1).toNat)
  case atStart => exact ⟨0, _, Nat.zero_le _, rfl, by omega, h0, KpB.refl _ _ _⟩
  case round =>
    obtain ⟨k, z, hk, rfl, hz, hJs, hnx⟩ := hrel
    have hbx : wr.cell? ⟨Bs, 0, none⟩ = some (.slice A len cap) := (World.cell?_of_block hnx.2).trans hBs
    by_cases hlt : k < len
    · obtain ⟨m, rfl⟩ : ∃ m : Nat, z = (m : Int) := ⟨len - 1 - k, by omega⟩
      have hmk : m < ts.length := by rw [HL.out]; omega
      obtain ⟨ad, q, rfl, hbl, hd, hcell⟩ := RdR.cell cBk_len (by omega) (RdR.below hc hnx.1 (Nat.le_refl _)) (k := m) hmk
      have hget : ts[m] = q := (List.getElem?_eq_some_iff.1 hd).2
      obtain ⟨⟨code, te, th, el⟩, Ac, cc⟩ := q
      have hc0 := hcell 0 _ rfl
      have hc1 := hcell 1 _ rfl
      have hc2 := hcell 2 _ rfl
      have hc3 := hcell 3 _ rfl
      rw [addr_add_add, Nat.add_zero] at hc0
      simp only [] at hc0 hc1 hc2 hc3
      obtain ⟨fn, tmps, assign, body, hy, hR⟩ := hY _ ⟨m, hmk⟩ wr hJs (by rw [bks_len (by rw [HL.out]; omega), HL.out]; exact hlt)
      simp only [encB, hget] at hy
      obtain ⟨cl, hcl⟩ : ∃ cl, code.length = cl := ⟨_, rfl⟩
      rw [hcl] at hy hc0
      have HZ := Lib.hid hz
      have HD := Lib.hid hd
      clear hz hd hget hcell hcl
      have hmlen : m < len := by have := HZ.out; omega
      have hc1' : wr.cell? ⟨(ad.add (m * 4)).block, (ad.add (m * 4)).off + 1, none⟩ = some (.int .i64 te) := hc1
      have hc2' : wr.cell? ⟨(ad.add (m * 4)).block, (ad.add (m * 4)).off + 2, none⟩ = some (.int .i64 th) := hc2
      have hc3' : wr.cell? ⟨(ad.add (m * 4)).block, (ad.add (m * 4)).off + 3, none⟩ = some (.int .i64 el) := hc3
      clear hc1 hc2 hc3
      gi_wp2
      refine hR.mono ?_
      rintro e W3 (⟨rfl, hJ3, hk3⟩ | ⟨rfl, hJx3⟩)
      · gi_wp2
        have hidx : (⟨m, hmk⟩ : Fin ts.length) = ⟨ts.length - 1 - k, by omega⟩ := by
          apply Fin.ext
          show m = ts.length - 1 - k
          have := HZ.out; have := HL.out; omega
        rw [hidx, ← bks_succ (by rw [HL.out]; exact hlt)] at hJ3
        go_roundw
        case rel => exact ⟨k + 1, _, by omega, rfl, by have := HZ.out; omega, hJ3, hnx.t hk3⟩
        case measure => simp [intOf]
      · gi_wp2
        have hidx : (⟨m, hmk⟩ : Fin ts.length) = ⟨ts.length - 1 - k, by omega⟩ := by
          apply Fin.ext
          show m = ts.length - 1 - k
          have := HZ.out; have := HL.out; omega
        rw [hidx, ← bks_succ (by rw [HL.out]; exact hlt)] at hJx3
        refine bodyPost_ret (results_none rfl _ _ _) rfl ?_
        exact ⟨⟨_, rfl⟩, .inr ⟨_, ⟨k + 1, by rw [HL.out]; omega, rfl⟩, hJx3⟩⟩
    · have hz0 : z < 0 := by omega
      have HZ := Lib.hid hz
      clear hz
      gi_wp2
      go_end0
      have : k = ts.length := by rw [HL.out]; omega
      subst this
      exact ⟨⟨_, rfl⟩, .inl ⟨_, rfl, hJs⟩⟩

set_option maxHeartbeats 1000000 in
theorem backB_in (F : Fence) (n : Nat) (h5 : F.fn 101) (hro : F.round = none) (A : Option Addr) (len cap : Nat) (w : World) :
    CallsIn F n Try.prog 101 #[.slice A len cap] w fun e w' => e = .returned (.func (.func 119) #[] #[.pointer (some ⟨w.heap.size, 0, none⟩)]) ∧ w' = w.alloc (.cells #[.slice A len cap] 22) := by
  refine callsIn_of_wp Try.func101 rfl h5 ?_ hro
  simp only [Try.ntmps101, List.size_toArray, List.length_cons, List.length_nil, Nat.reduceAdd, Nat.reduceSub, Array.replicate_succ, Array.replicate_zero, List.push_toArray, List.append_toArray, List.nil_append, List.cons_append]
  gi_wp2
  go_ret
  exact ⟨rfl, rfl⟩

theorem backB_stops (F : Fence) (n : Nat) (h8 : F.fn 119) (hro : F.round = none) (hn : 1 ≤ n) (Bs n₀ len cap : Nat) (A : Option Addr) (ts : List (Bk × Option Addr × Nat)) (hl : ts.length = len) (hm : len * 48 ≤ 140737488351232) (w : World) (hBn : Bs < w.heap.size) (hn₀ : n₀ ≤ w.heap.size)
    (hc : w.cell? ⟨Bs, 0, none⟩ = some (.slice A len cap)) (hx : RdR cBk w n₀ A 4 ts) :
    SeqStopsK F n Try.prog 119 #[.pointer (some ⟨Bs, 0, none⟩)] (encB ts) (KpB n₀ Bs) (fun ys => ys = bks ts.length ts.length)
      (fun pre => ∃ k, k ≤ ts.length ∧ pre = bks ts.length k) ts.length w := fun l J Jx W hW _ _ hY h0 =>
  backB1_in F n h8 hro hn l Bs n₀ len cap A ts hl hm J Jx hY W ((hW.cell (p := ⟨Bs, 0, none⟩) hBn).trans hc) (RdR.below hx (hW.mono hn₀) (Nat.le_refl _)) h0

end Go.Proofs.Ytfhnhbkdhdocjaa

/-
  slices.Reverse at steps (K2).
-/

namespace Go.Proofs.Ytfhnhbkdhdocjaa
open Go.RowKit
set_option linter.unusedSimpArgs false
set_option linter.unusedVariables false
set_option maxRecDepth 100000

/-- a step stored, cell by cell -/
theorem rv5_set : ∀ (l : List St) (k : Nat) (o t a b v : Int), k < l.length →
    (((((rv cSt l).set (k * 5) (.int .i64 o)).set (k * 5 + 1) (.int .i64 t)).set (k * 5 + 2) (.int .i64 a)).set (k * 5 + 3) (.int .i64 b)).set (k * 5 + 4) (.int .i64 v) = rv cSt (l.set k ⟨o, t, a, b, v⟩)
  | [], _, _, _, _, _, _, h => by simp at h
  | s :: l, 0, o, t, a, b, v, _ => by
    show ((((([_, _, _, _, _] ++ rv cSt l).set 0 _).set 1 _).set 2 _).set 3 _).set 4 _ = cSt ⟨o, t, a, b, v⟩ ++ rv cSt l
    simp [cSt]
  | s :: l, k + 1, o, t, a, b, v, h => by
    have ih := rv5_set l k o t a b v (by simpa using h)
    have e1 : rv cSt (s :: l) = cSt s ++ rv cSt l := rfl
    have e2 : rv cSt ((s :: l).set (k + 1) ⟨o, t, a, b, v⟩) = cSt s ++ rv cSt (l.set k ⟨o, t, a, b, v⟩) := rfl
    have hs : ∀ (X : List Value) (j : Nat) (u : Value), (cSt s ++ X).set (5 + j) u = cSt s ++ X.set j u := fun X j u => by
      rw [List.set_append_right _ _ (by rw [cSt_len]; omega), cSt_len, Nat.add_sub_cancel_left]
    rw [e1, e2, ← ih, show (k + 1) * 5 = 5 + k * 5 by omega, hs, show 5 + k * 5 + 1 = 5 + (k * 5 + 1) by omega, hs, show 5 + k * 5 + 2 = 5 + (k * 5 + 2) by omega, hs, show 5 + k * 5 + 3 = 5 + (k * 5 + 3) by omega, hs, show 5 + k * 5 + 4 = 5 + (k * 5 + 4) by omega, hs]

/-- k swaps from both ends -/
def SwS (xs : List St) (k : Nat) (ys : List St) : Prop := ys.length = xs.length ∧ ∀ p, p < xs.length → ys[p]? = if p < k ∨ xs.length - 1 - k < p then xs[xs.length - 1 - p]? else xs[p]?

theorem SwS.zero (xs : List St) : SwS xs 0 xs := ⟨rfl, fun p hp => by rw [if_neg (by omega)]⟩

theorem SwS.next {xs ys : List St} {k j : Nat} (h : SwS xs k ys) (hj : j = xs.length - 1 - k) (hk : k < j) {x y : St} (hx : ys[k]? = some x) (hy : ys[j]? = some y) : SwS xs (k + 1) ((ys.set k y).set j x) := by
  obtain ⟨h1, h2⟩ := h
  refine ⟨by simp [h1], fun p hp => ?_⟩
  have hk2 := h2 k (by omega)
  have hj2 := h2 j (by omega)
  rw [if_neg (by omega)] at hk2 hj2
  rw [List.getElem?_set, List.getElem?_set]
  by_cases e1 : j = p
  · subst e1
    rw [if_pos rfl, if_pos (by simp [h1]; omega), if_pos (by omega), show xs.length - 1 - j = k by omega, ← hk2, hx]
  · rw [if_neg e1]
    by_cases e2 : k = p
    · subst e2
      rw [if_pos rfl, if_pos (by omega), if_pos (by omega), ← hj, ← hj2, hy]
    · rw [if_neg e2, h2 p hp]
      by_cases e3 : p < k ∨ xs.length - 1 - k < p
      · rw [if_pos e3, if_pos (by omega)]
      · rw [if_neg e3, if_neg (by omega)]

theorem SwS.done {xs ys : List St} {k : Nat} (h : SwS xs k ys) (hk : xs.length - 1 - k ≤ k) : ys = xs.reverse := by
  obtain ⟨h1, h2⟩ := h
  apply List.ext_getElem?
  intro p
  rcases Nat.lt_or_ge p xs.length with hp | hp
  · rw [h2 p hp, List.getElem?_reverse hp]
    split
    · rfl
    · rw [show xs.length - 1 - p = p by omega]
  · rw [List.getElem?_eq_none (by omega), List.getElem?_eq_none (by simp; omega)]

theorem rv5_at {l : List St} {k : Nat} {o t a b v : Int} (h : l[k]? = some ⟨o, t, a, b, v⟩) : (rv cSt l)[k * 5]? = some (.int .i64 o) ∧ (rv cSt l)[k * 5 + 1]? = some (.int .i64 t) ∧ (rv cSt l)[k * 5 + 2]? = some (.int .i64 a) ∧ (rv cSt l)[k * 5 + 3]? = some (.int .i64 b) ∧ (rv cSt l)[k * 5 + 4]? = some (.int .i64 v) :=
  ⟨rv_at cSt_len h (i := 0) (by omega), rv_at cSt_len h (i := 1) (by omega), rv_at cSt_len h (i := 2) (by omega), rv_at cSt_len h (i := 3) (by omega), rv_at cSt_len h (i := 4) (by omega)⟩

/-- a step of a row of the call's own, stored -/
theorem own5_set {w : World} {base g n c : Nat} {l : List St} (h : w.ownsRow base 87 5 (.slice (some ⟨g, 0, none⟩) n c) n (rv cSt l)) (hl : l.length = n) {k : Nat} (hk : k < n) (o t a b v : Int) :
    (((((w.setCell ⟨g, k * 5, none⟩ (.int .i64 o)).setCell ⟨g, k * 5 + 1, none⟩ (.int .i64 t)).setCell ⟨g, k * 5 + 2, none⟩ (.int .i64 a)).setCell ⟨g, k * 5 + 3, none⟩ (.int .i64 b)).setCell ⟨g, k * 5 + 4, none⟩ (.int .i64 v)).ownsRow base 87 5 (.slice (some ⟨g, 0, none⟩) n c) n (rv cSt (l.set k ⟨o, t, a, b, v⟩)) := by
  rw [← rv5_set l k o t a b v (by omega)]
  exact (((((h.stored _ _).1.stored _ _).1.stored _ _).1.stored _ _).1.stored _ _).1

theorem ownsRow_drewS {w : World} {base size n : Nat} {e : TypeId} {v : Value} {xs : List Value} (h : w.ownsRow base e size v n xs) : w.drew.ownsRow base e size v n xs := h

theorem below5_set {B g : Nat} {w X : World} (h : Below B w X) (hg : B ≤ g) (k : Nat) (o t a b v : Int) :
    Below B w (((((X.setCell ⟨g, k * 5, none⟩ (.int .i64 o)).setCell ⟨g, k * 5 + 1, none⟩ (.int .i64 t)).setCell ⟨g, k * 5 + 2, none⟩ (.int .i64 a)).setCell ⟨g, k * 5 + 3, none⟩ (.int .i64 b)).setCell ⟨g, k * 5 + 4, none⟩ (.int .i64 v)) :=
  ((((h.setCell (p := ⟨g, k * 5, none⟩) hg _).setCell (p := ⟨g, k * 5 + 1, none⟩) hg _).setCell (p := ⟨g, k * 5 + 2, none⟩) hg _).setCell (p := ⟨g, k * 5 + 3, none⟩) hg _).setCell (p := ⟨g, k * 5 + 4, none⟩) hg _

theorem keeps5_set {g : Nat} {w X : World} (h : KeepsOthers w X) (k : Nat) (o t a b v : Int) :
    KeepsOthers w (((((X.setCell ⟨g, k * 5, none⟩ (.int .i64 o)).setCell ⟨g, k * 5 + 1, none⟩ (.int .i64 t)).setCell ⟨g, k * 5 + 2, none⟩ (.int .i64 a)).setCell ⟨g, k * 5 + 3, none⟩ (.int .i64 b)).setCell ⟨g, k * 5 + 4, none⟩ (.int .i64 v)) :=
  ((((h.trans (KeepsOthers.setCell _ _ _)).trans (KeepsOthers.setCell _ _ _)).trans (KeepsOthers.setCell _ _ _)).trans (KeepsOthers.setCell _ _ _)).trans (KeepsOthers.setCell _ _ _)

set_option maxHeartbeats 8000000 in
theorem reverseS_any (A : Option Addr) (n c : Nat) (xs : List St) (base : Nat) (w : World) (hw : w.ownsRow base 87 5 (.slice A n c) n (rv cSt xs)) (hl : xs.length = n) (hm : n ≤ 65536) (hb : base ≤ w.heap.size) :
    Calls Try.prog 83 #[.slice A n c] w fun e w' => e = .returned (.tuple #[]) ∧ w'.ownsRow base 87 5 (.slice A n c) n (rv cSt xs.reverse) ∧ Below base w w' ∧ KeepsOthers w w' := by
  have HL := Lib.hid hl
  have hsub : (n : Int) - 1 - (0 : Nat) = (n : Int) - 1 := by simp
  clear hl
  go_enter Try.func83, Try.ntmps83
  go_wp2
  go_loopw [2, 3] (fun i j wr => ∃ (k : Nat) (ys : List St), k ≤ n ∧ i = .int .i64 k ∧ j = .int .i64 ((n : Int) - 1 - k) ∧ SwS xs k ys ∧ wr.ownsRow base 87 5 (.slice A n c) n (rv cSt ys) ∧ Below base w wr ∧ KeepsOthers w wr) (fun i _ _ => n - (intOf i).toNat)
  case atStart => exact ⟨0, xs, by omega, rfl, by rw [hsub], SwS.zero xs, hw, Below.refl _ _, KeepsOthers.refl _⟩
  case round =>
    obtain ⟨k, ys, hk, rfl, rfl, hs, hown, hbr, hko⟩ := hrel
    have HKO := Lib.hid hko
    clear hko
    have HS := Lib.hid hs
    have hyl := hs.1
    rw [HL.out] at hyl
    have HYL := Lib.hid hyl
    have hsz := hbr.size
    by_cases hlt : k < n - 1 - k
    · obtain ⟨g, rfl⟩ : ∃ g, A = some ⟨g, 0, none⟩ := by
        rcases hown.2 with ⟨hv, h0⟩ | ⟨g, cap', cur, hv, _⟩
        · omega
        · injection hv with h1
          exact ⟨g, h1⟩
      have hgb := hown.lt g rfl
      obtain ⟨jn, hjn⟩ : ∃ jn : Nat, jn = n - 1 - k := ⟨_, rfl⟩
      have hji : (n : Int) - 1 - k = (jn : Int) := by omega
      rw [← hjn] at hlt
      have HJ := Lib.hid hjn
      obtain ⟨⟨o1, t1, a1, b1, v1⟩, hx⟩ : ∃ x, ys[k]? = some x := ⟨_, List.getElem?_eq_getElem (by omega)⟩
      obtain ⟨⟨o2, t2, a2, b2, v2⟩, hy⟩ : ∃ y, ys[jn]? = some y := ⟨_, List.getElem?_eq_getElem (by omega)⟩
      obtain ⟨p0, p1, p2, p3, p4⟩ := rv5_at hx
      obtain ⟨q0, q1, q2, q3, q4⟩ := rv5_at hy
      have hkn : k < n := by omega
      have hjn' : jn < n := by omega
      have hk5 : k * 5 + 4 < n * 5 := by omega
      have hj5 : jn * 5 + 4 < n * 5 := by omega
      have hkj : k * 5 + 5 ≤ jn * 5 := by omega
      have c0 := (hown.cellAt (k * 5) (by omega)).trans p0
      have c1 := (hown.cellAt (k * 5 + 1) (by omega)).trans p1
      have c2 := (hown.cellAt (k * 5 + 2) (by omega)).trans p2
      have c3 := (hown.cellAt (k * 5 + 3) (by omega)).trans p3
      have c4 := (hown.cellAt (k * 5 + 4) (by omega)).trans p4
      have d0 := (hown.cellAt (jn * 5) (by omega)).trans q0
      have d1 := (hown.cellAt (jn * 5 + 1) (by omega)).trans q1
      have d2 := (hown.cellAt (jn * 5 + 2) (by omega)).trans q2
      have d3 := (hown.cellAt (jn * 5 + 3) (by omega)).trans q3
      have d4 := (hown.cellAt (jn * 5 + 4) (by omega)).trans q4
      have f0 := hown.frozenAt (k * 5)
      have f1 := hown.frozenAt (k * 5 + 1)
      have f2 := hown.frozenAt (k * 5 + 2)
      have f3 := hown.frozenAt (k * 5 + 3)
      have f4 := hown.frozenAt (k * 5 + 4)
      have g0 := hown.frozenAt (jn * 5)
      have g1 := hown.frozenAt (jn * 5 + 1)
      have g2 := hown.frozenAt (jn * 5 + 2)
      have g3 := hown.frozenAt (jn * 5 + 3)
      have g4 := hown.frozenAt (jn * 5 + 4)
      have HN := Lib.hid (hs.next (j := jn) (by rw [HL.out]; exact hjn) hlt hx hy)
      have HOWN := Lib.hid hown
      rw [hji]
      clear hs hyl hjn hx hy hji p0 p1 p2 p3 p4 q0 q1 q2 q3 q4 hown
      go_wp2
      go_region
      all_goals
        go_wp2
        go_round
        case rel =>
          refine ⟨k + 1, _, by omega, by go_num, ?_, HN.out, ?_, ?_, ?_⟩
          · have := HJ.out
            congr 1
            omega
          · exact ownsRow_drewS (own5_set (own5_set HOWN.out HYL.out hkn o2 t2 a2 b2 v2) (by rw [List.length_set]; exact HYL.out) hjn' o1 t1 a1 b1 v1)
          · exact (below5_set (below5_set hbr hgb.1 _ _ _ _ _ _) hgb.1 _ _ _ _ _ _).drew
          · exact (keeps5_set (keeps5_set HKO.out _ _ _ _ _ _) _ _ _ _ _ _).trans (KeepsOthers.drew _)
        case measure => (simp [intOf]; omega)
    · have HD := Lib.hid (hs.done (by rw [HL.out]; omega))
      have hle : ¬ (k : Int) < (n : Int) - 1 - k := by omega
      rw [HD.out] at hown
      clear hs hyl
      go_wp2
      go_returns
      exact ⟨rfl, hown, hbr, HKO.out⟩

end Go.Proofs.Ytfhnhbkdhdocjaa

/-
  live.beforeStep, live.liveBehind, way.Has (K1).
-/

namespace Go.Proofs.Ytfhnhbkdhdocjaa
open Go.RowKit
set_option linter.unusedSimpArgs false
set_option linter.unusedVariables false
set_option maxRecDepth 100000

theorem below_drewL {B : Nat} {X Y : World} (h : Below B X Y) (q : Nat) : Below B X (Y.drewN q) := ⟨h.os, h.tape, h.output, h.size, h.block⟩

theorem andNot_powN {L t P : Nat} (hL : L < 4294967296) (ht : t < 32) (hP : 2 ^ t = P) : bits .andNot .u32 ((L : Nat) : Int) ((P : Nat) : Int) = ((L &&& (4294967295 - P) : Nat) : Int) := u32_andNot_nat _ _ hL (by rw [← hP]; exact pow_lt_32 ht)

theorem or_powN {L t P : Nat} (hL : L < 4294967296) (ht : t < 32) (hP : 2 ^ t = P) : bits .or .u32 ((L : Nat) : Int) ((P : Nat) : Int) = ((L ||| P : Nat) : Int) := u32_or_nat _ _ hL (by rw [← hP]; exact pow_lt_32 ht)

theorem or_pow {L t : Nat} (hL : L < 4294967296) (ht : t < 32) : bits .or .u32 ((L : Nat) : Int) ((2 : Int) ^ t % 4294967296) = ((L ||| 2 ^ t : Nat) : Int) := by
  rw [pow_u32' ht]
  exact u32_or_nat _ _ hL (pow_lt_32 ht)

theorem only_any (t P : Nat) (w : World) (ht : t < 32) (hP : 2 ^ t = P) :
    Calls Try.prog 103 #[.int .i64 (t : Nat)] w fun e w' => e = .returned (.int .u32 (P : Nat)) ∧ w' = w := by
  have HP : Hid ((2 : Int) ^ t % 4294967296 = ((P : Nat) : Int)) := Lib.hid (by rw [pow_u32' ht, hP])
  clear hP
  go_enter Try.func103, Try.ntmps103
  go_wp2
  go_ret
  exact ⟨congrArg (fun z => Ending.returned (.int .u32 z)) HP.out, rfl⟩

set_option maxHeartbeats 4000000 in
theorem beforeStep_any (n : Nat) (o t a b v : Int) (L : Nat) (w : World) (hc : ckStep n n o t a b v = 0) (hn : n ≤ 6) (hL : L < 2 ^ n) :
    Calls Try.prog 82 #[.agg #[.int .i64 o, .int .i64 t, .int .i64 a, .int .i64 b, .int .i64 v], .int .u32 (L : Nat)] w fun e w' => e = .returned (.int .u32 (befW ⟨o, t, a, b, v⟩ L : Nat)) ∧ Below w.heap.size w w' := by
  obtain ⟨⟨t0, t1⟩, hcase⟩ := ckStep_cases hc
  have h6 : 2 ^ n ≤ 2 ^ 6 := Nat.pow_le_pow_right (by omega) hn
  have hL32 : L < 4294967296 := by omega
  obtain ⟨tn, rfl⟩ := Int.eq_ofNat_of_zero_le t0
  have htn : tn < 32 := by omega
  obtain ⟨P, hP⟩ : ∃ P, 2 ^ tn = P := ⟨_, rfl⟩
  have hand := andNot_powN hL32 htn hP
  have hX : L &&& (4294967295 - P) < 4294967296 := Nat.lt_of_le_of_lt Nat.and_le_left hL32
  have HO := Lib.hid (fun Z => only_any tn P Z htn hP)
  obtain ⟨X, hXe⟩ : ∃ X, L &&& (4294967295 - P) = X := ⟨_, rfl⟩
  rw [hXe] at hand hX
  have hXp : L &&& (4294967295 - 2 ^ tn) = X := by rw [hP]; exact hXe
  clear hc hP hXe
  rcases hcase with ⟨rfl, _⟩ | ⟨rfl, h2, h3⟩ | ⟨h1, h2, h3, h4, h5, h6⟩
  · have hr : befW ⟨1, (tn : Int), a, b, v⟩ L = X := by rw [← hXp]; rfl
    have HR := Lib.hid hr
    have HA := Lib.hid hand
    clear hr hXp hand
    go_enter Try.func82, Try.ntmps82
    go_wp2_with (go_at_call 103; (with_reducible refine (HO.out _).mono ?_); rintro e w1 ⟨rfl, rfl⟩)
    go_ret
    exact ⟨by rw [HR.out, ← HA.out]; rfl, by go_grown⟩
  · obtain ⟨vn, rfl⟩ := Int.eq_ofNat_of_zero_le h2
    have hvn : vn < 32 := by omega
    have hr : befW ⟨2, (tn : Int), a, b, (vn : Int)⟩ L = X ||| 2 ^ vn := by rw [← hXp]; rfl
    obtain ⟨V, hV⟩ : ∃ V, 2 ^ vn = V := ⟨_, rfl⟩
    have HO2 := Lib.hid (fun Z => only_any vn V Z hvn hV)
    have HB := Lib.hid (or_powN hX hvn hV)
    rw [hV] at hr
    have HR := Lib.hid hr
    clear hr hXp hV
    go_enter Try.func82, Try.ntmps82
    go_wp2_with (first | (go_at_call 103; (with_reducible refine (HO.out _).mono ?_); rintro e w1 ⟨rfl, rfl⟩) | (go_at_call 103; (with_reducible refine (HO2.out _).mono ?_); rintro e w1 ⟨rfl, rfl⟩))
    go_ret
    exact ⟨by rw [HR.out, ← HB.out]; rfl, by go_grown⟩
  · obtain ⟨an, rfl⟩ := Int.eq_ofNat_of_zero_le h3
    obtain ⟨bn, rfl⟩ := Int.eq_ofNat_of_zero_le h5
    have han : an < 32 := by omega
    have hbn : bn < 32 := by omega
    have hr : befW ⟨o, (tn : Int), (an : Int), (bn : Int), v⟩ L = X ||| 2 ^ an ||| 2 ^ bn := by unfold befW; rw [if_neg (by show ¬ o = 1; omega), if_neg (by show ¬ o = 2; omega), ← hXp]; rfl
    obtain ⟨PA, hPA⟩ : ∃ V, 2 ^ an = V := ⟨_, rfl⟩
    obtain ⟨PB, hPB⟩ : ∃ V, 2 ^ bn = V := ⟨_, rfl⟩
    have HOA := Lib.hid (fun Z => only_any an PA Z han hPA)
    have HOB := Lib.hid (fun Z => only_any bn PB Z hbn hPB)
    have HB := Lib.hid (or_powN hX han hPA)
    have HB2 := Lib.hid (or_powN (L := X ||| PA) (Nat.or_lt_two_pow (n := 32) hX (by rw [← hPA]; exact pow_lt_32 han)) hbn hPB)
    rw [hPA, hPB] at hr
    have HR := Lib.hid hr
    have o1 : (o == 1) = false := by simp; omega
    have o2 : (o == 2) = false := by simp; omega
    clear hr hXp hPA hPB
    go_enter Try.func82, Try.ntmps82
    go_wp2_with (go_at_call 103; (with_reducible refine (HO.out _).mono ?_); rintro e w1 ⟨rfl, rfl⟩)
    go_quiet ((go_at_call 103; first | (with_reducible exact Calls.quiet_of_same (HOA.out _)) | (with_reducible exact Calls.quiet_of_same (HOB.out _))))
    go_wp2
    go_ret
    exact ⟨by rw [HR.out, ← HB2.out, ← HB.out]; rfl, below_drewL (by go_grown) _⟩

/-- the bit of a word, by a shift -/
theorem shr_bitL (W j : Nat) (hW : W < 4294967296) : (bits .and .u32 (((W : Nat) : Int) / 2 ^ j) 1 != 0) = W.testBit j := by
  have h : ((W : Nat) : Int) / 2 ^ j = ((W / 2 ^ j : Nat) : Int) := by simp
  have h2 : bits .and .u32 ((W / 2 ^ j : Nat) : Int) ((1 : Nat) : Int) = ((W / 2 ^ j &&& 1 : Nat) : Int) := u32_and_nat _ _ (Nat.lt_of_le_of_lt (Nat.div_le_self ..) hW) (by omega)
  rw [h]
  change (bits .and .u32 ((W / 2 ^ j : Nat) : Int) ((1 : Nat) : Int) != 0) = _
  rw [h2, Nat.and_one_is_mod, Nat.testBit_eq_decide_div_mod_eq]
  by_cases e : W / 2 ^ j % 2 = 1
  · rw [e]; rfl
  · have e0 : W / 2 ^ j % 2 = 0 := by omega
    rw [e0]; rfl

theorem hasBit_any (W j : Nat) (w : World) (hW : W < 4294967296) (hj : j < 32) :
    Calls Try.prog 76 #[.int .u32 (W : Nat), .int .i64 j] w fun e w' => e = .returned (.bool (W.testBit j)) ∧ w = w' := by
  have HR := Lib.hid (shr_bitL W j hW)
  go_enter Try.func76, Try.ntmps76
  go_wp2
  go_ret
  exact ⟨ret_bool HR.out, rfl⟩

set_option maxHeartbeats 4000000 in
theorem liveBehind_any (n m : Nat) (Ac Af AF : Option Addr) (cl cc fl fc flen fcap want B : Nat) (b : Bk) (F : List Nat) (w : World) (hb : BkOk n m b) (hn : n ≤ 6) (hcl : b.code.length = cl) (hf : RdI w w.heap.size Af (nxB b)) (hfl : (nxB b).length = fl) (hF : RdU w w.heap.size AF F) (hFl : F.length = flen) (hFm : flen = m)
    (hlt : ∀ (i W : Nat), F[i]? = some W → W < 2 ^ n) (hw : want < 2 ^ n) :
    Calls Try.prog 53 #[.agg #[.slice Ac cl cc, .int .i64 b.test, .int .i64 b.th, .int .i64 b.el], .slice Af fl fc, .int .u32 (want : Nat), .slice AF flen fcap] w fun e w' => e = .returned (.int .u32 (lbW b F want : Nat)) ∧ Below w.heap.size w w' := by
  have h6 : 2 ^ n ≤ 2 ^ 6 := Nat.pow_le_pow_right (by omega) hn
  obtain ⟨js, hjs⟩ : ∃ js, nxB b = js := ⟨_, rfl⟩
  have h2 := nxB_len b
  have hjl : ∀ j ∈ js, 0 ≤ j ∧ j < flen := fun j hj => by have := nxB_lt hb (hjs ▸ hj); omega
  have hte := hb.test
  rw [hjs] at hf hfl h2
  have HFL := Lib.hid hfl
  have HFF := Lib.hid hFl
  by_cases h0 : js = []
  · have hr : lbW b F want = want := by unfold lbW; rw [if_pos (by rw [hjs]; exact h0)]
    have hz : fl = 0 := by rw [← hfl, h0]; rfl
    subst hz
    rw [hr]
    clear hr hjs h0 hf hF hfl
    go_enter Try.func53, Try.ntmps53
    go_wp2
    go_ret
    exact ⟨rfl, by go_grown⟩
  · have hpos : (fl == 0) = false := by
      have : js.length ≠ 0 := fun e => h0 (List.eq_nil_of_length_eq_zero e)
      simp; omega
    have hpos2 : ((fl : Int) == 0) = false := by
      have : js.length ≠ 0 := fun e => h0 (List.eq_nil_of_length_eq_zero e)
      simp; omega
    have hor0 : ∀ k, orL F (js.take k) 0 < 2 ^ n := fun k => orL_lt hlt (Nat.two_pow_pos n)
    have HOR0 := Lib.hid hor0
    have HLT := Lib.hid hlt
    have HJL := Lib.hid hjl
    have hbox := Own.new w 79 [.slice Ac cl cc, .int .i64 b.test, .int .i64 b.th, .int .i64 b.el]
    have HR : Hid (lbW b F want = if 0 ≤ b.test then orL F js 0 ||| 2 ^ b.test.toNat else orL F js 0) := Lib.hid (by unfold lbW; rw [hjs, if_neg h0])
    obtain ⟨te, hteq⟩ : ∃ te, b.test = te := ⟨_, rfl⟩
    rw [hteq] at hte hbox HR ⊢
    generalize b.th = th at *
    generalize b.el = el at *
    have hb0 : Below w.heap.size w (w.alloc (.cells #[.slice Ac cl cc, .int .i64 te, .int .i64 th, .int .i64 el] 79)) := by go_grown
    have hfl2 : fl ≤ 2 := by omega
    clear hjs hlt hjl h0 hb hor0 hteq hfl hFl
    go_enter Try.func53, Try.ntmps53
    go_wp2
    go_loopw [9, 18] (fun s z wr => ∃ (k X : Nat), k ≤ fl ∧ z = .int .i64 k ∧ s = .int .u32 (X : Nat) ∧ X = orL F (js.take k) 0 ∧ Own wr w.heap.size 79 [.slice Ac cl cc, .int .i64 te, .int .i64 th, .int .i64 el] ∧ Below w.heap.size w wr) (fun _ z _ => fl - (intOf z).toNat)
    case atStart => exact ⟨0, 0, Nat.zero_le _, rfl, rfl, rfl, hbox, hb0⟩
    case round =>
      obtain ⟨k, X, hk, rfl, rfl, hX, hown, hbr⟩ := hrel
      have hXl := HOR0.out k
      rw [← hX] at hXl
      have HX := Lib.hid hX
      have hsz := hbr.size
      clear hX
      by_cases hlt : k < fl
      · obtain ⟨adf, j, rfl, hblf, hdj, hcj⟩ := (hf.below hbr (Nat.le_refl _)).at_ (k := k) (by rw [HFL.out]; exact hlt)
        obtain ⟨hj0, hj1⟩ := HJL.out j (List.mem_of_getElem? hdj)
        obtain ⟨jn, rfl⟩ := Int.eq_ofNat_of_zero_le hj0
        have hjn : jn < flen := by omega
        obtain ⟨adF, W, rfl, hblF, hdW, hcW⟩ := (hF.below hbr (Nat.le_refl _)).at_ (k := jn) (by rw [HFF.out]; exact hjn)
        have hWl := HLT.out jn W hdW
        have hor : bits .or .u32 ((X : Nat) : Int) ((W : Nat) : Int) = ((X ||| W : Nat) : Int) := u32_or_nat _ _ (by omega) (by omega)
        have HOR := Lib.hid hor
        have HNX : Hid (X ||| W = orL F (js.take (k + 1)) 0) := Lib.hid (by rw [orL_take hdj, ← HX.out, Int.toNat_natCast, List.getD_eq_getElem?_getD, hdW]; rfl)
        have hbF' : (adF.add jn).block < wr.heap.size := by omega
        have hbf' : (adf.add k).block < wr.heap.size := by omega
        clear hdj hdW hor
        go_wp2
        go_round
        case rel => exact ⟨k + 1, X ||| W, by omega, by go_num, by rw [HOR.out], HNX.out, hown, hbr⟩
        case measure => (simp [intOf]; omega)
      · have hkl : js.take k = js := List.take_of_length_le (by rw [HFL.out]; omega)
        have HXJ : Hid (X = orL F js 0) := Lib.hid (by rw [HX.out, hkl])
        have hc1 := hown.cell (j := 1) rfl
        clear hkl
        rcases hte with rfl | ⟨ht0, ht1⟩
        · have HR2 : Hid (lbW b F want = X) := Lib.hid (by rw [HR.out, if_neg (by omega), HXJ.out])
          go_wp2
          go_ret
          exact ⟨by rw [HR2.out]; rfl, hbr⟩
        · obtain ⟨tn, rfl⟩ := Int.eq_ofNat_of_zero_le ht0
          have htn : tn < 32 := by omega
          have HR2 : Hid (lbW b F want = X ||| 2 ^ tn) := Lib.hid (by rw [HR.out, if_pos (by omega), HXJ.out]; rfl)
          have ho := or_pow (L := X) (t := tn) (by omega) htn
          go_wp2
          go_ret
          exact ⟨by rw [HR2.out]; first | rfl | (rw [← ho]; rfl), hbr⟩

end Go.Proofs.Ytfhnhbkdhdocjaa

/-
  live.neededSteps (K2).
-/

namespace Go.Proofs.Ytfhnhbkdhdocjaa
open Go.RowKit Go.Shelf
set_option linter.unusedSimpArgs false
set_option linter.unusedVariables false
set_option maxRecDepth 100000
attribute [local go_sem] Oper.semAt_some

/-- append, inside a fence -/
theorem wpListIn_app {F : Fence} {nF : Nat} {P : Program} {w : World} {ops : Array Oper} {rest : List Oper} {o : Oper} {a : Act} {Q : Exit → Act → World → Prop} (hgd : o.guard = none) (s x : Operand) (t : TypeId)
    (ho : o.op = .call { callee := .builtin .append, args := #[s, x], argTypes := #[t, t] }) (base : Nat) (e : TypeId) (size bytes : Nat) (hT : AppTy P t e size bytes)
    {A : Option Addr} {n c : Nat} (xs : List Value) (hs : a.eval s = .slice A n c) (hown : w.ownsRow base e size (.slice A n c) n xs)
    {A2 : Option Addr} {m c2 : Nat} (news : List Value) (hx : a.eval x = .slice A2 m c2) (hl : news.length = m * size) (hn : A2 = none → m = 0) (hnews : ∀ ad, A2 = some ad → ∀ j u, news[j]? = some u → w.cell? (ad.add j) = some u) (h1 : ∀ u ∈ news, u.oneCell' = true)
    (hb1 : n + m ≤ maxLen) (hb2 : (n + m) * bytes ≤ 140737488355328) (hbase : base ≤ w.heap.size)
    (h : ∀ A' c' w', w'.ownsRow base e size (.slice A' (n + m) c') (n + m) (xs ++ news) → w.grownBy w' (Value.slice A n c).ownBlock → Below base w w' →
      ((Value.slice A' (n + m) c').ownBlock = (Value.slice A n c).ownBlock ∨ (Value.slice A' (n + m) c').ownBlock = some w.heap.size) → wpListIn F nF P ops Q rest (a.put o.dst (.slice A' (n + m) c')) w') : wpListIn F nF P ops Q (o :: rest) a w := by
  refine wpListIn_plain hgd fun K hK => ?_
  obtain ⟨A', c', w', hrun, h2, h3, h5⟩ := run_app (P := P) (w := w) base t o.type e size bytes hT A n c xs hown A2 m c2 news hl hn hnews h1 hb1 hb2 hbase
  unfold Oper.wpIn
  refine ⟨by simp [Oper.about, ho, resolve, Target.leads, Sem.run_pure], ?_⟩
  rw [Oper.semAt_plain F _ _ (by rw [ho]; intro c hc'; cases hc')]
  simp [execOp, ho, resolve, invoke, builtin, hs, hx, hrun, Result.andThen]
  exact hK _ _ (h A' c' w' h2 h3 (own_base hown h3 hbase) h5)

/-- a row is kept where what is no cells turns -/
theorem row_kept {W W' : World} {row : Option Nat} {base size n : Nat} {e : TypeId} {v : Value} {xs : List Value} (h : W.ownsRow base e size v n xs) (hg : W.grownBy W' row) (hr : ∀ r, row = some r → ∃ o : Obj, W.heap[r]? = some o ∧ o.isCells = false) : W'.ownsRow base e size v n xs := by
  refine h.kept hg ?_
  rcases h.2 with ⟨rfl, _⟩ | ⟨g, cap, cur, rfl, _, hgb, _⟩
  · exact .inl rfl
  · refine .inr fun e' => ?_
    obtain ⟨o, ho, hc⟩ := hr g (by simpa [Value.ownBlock] using e'.symm)
    rw [hgb] at ho
    cases ho
    cases hc

/-- a row's block holds cells -/
theorem row_cells {W : World} {base size n : Nat} {e : TypeId} {v : Value} {xs : List Value} (h : W.ownsRow base e size v n xs) : ∀ (j : Nat) (o : Obj), v.ownBlock = some j → W.heap[j]? = some o → o.isCells = true := fun j o ej ho => by
  rcases h.2 with ⟨rfl, _⟩ | ⟨g, cap, cur, rfl, _, hgb, _⟩
  · simp [Value.ownBlock] at ej
  · obtain rfl : g = j := by simpa [Value.ownBlock] using ej
    rw [hgb] at ho
    cases ho
    rfl

theorem keeps_below {W W' : World} (h : Below W.heap.size W W') : KeepsOthers W W' := ⟨h.size, fun k o hk _ => (h.block k (Array.getElem?_eq_some_iff.1 hk).1).trans hk⟩

theorem own_lower {w : World} {base base' size n : Nat} {e : TypeId} {v : Value} {xs : List Value} (h : w.ownsRow base e size v n xs) (hb : base' ≤ base) : w.ownsRow base' e size v n xs := by
  refine ⟨h.1, ?_⟩
  rcases h.2 with h' | ⟨g, cap, cur, h1, h2, h3⟩
  · exact .inl h'
  · exact .inr ⟨g, cap, cur, h1, Nat.le_trans hb h2, h3⟩

/-- what neededSteps holds between two rounds -/
structure NdI (c : List St) (L h base : Nat) (pre : List (Fin c.length)) (W : World) : Prop where
  live : Own W h 23 [.int .u32 ((nedF c pre L).2 : Nat)]
  ex : ∃ (A1 : Option Addr) (c1 : Nat), Own W (h + 1) 49 [.slice A1 (nedF c pre L).1.length c1] ∧ W.ownsRow base 87 5 (.slice A1 (nedF c pre L).1.length c1) (nedF c pre L).1.length (rv cSt (nedF c pre L).1)

theorem NdI.kept {c : List St} {L h base : Nat} {pre : List (Fin c.length)} {W W' : World} {row : Option Nat} (hi : NdI c L h base pre W) (hg : W.grownBy W' row) (hr : ∀ r, row = some r → ∃ o : Obj, W.heap[r]? = some o ∧ o.isCells = false) : NdI c L h base pre W' := by
  obtain ⟨h1, A1, c1, h2, h3⟩ := hi
  exact ⟨h1.kept hg hr, A1, c1, h2.kept hg hr, row_kept h3 hg hr⟩

theorem own_grow {X Y : World} {row : Option Nat} {g : Nat} {t : TypeId} {cs : List Value} (h : Own X g t cs) (hg : X.grownBy Y row) (hr : row ≠ some g) : Own Y g t cs := (hg.block g h.lt (fun e => hr e.symm)).trans h

theorem cellsS_atL {X : World} {k : Nat} (hk : k = X.heap.size) (s : St) (cs : Array Value) (hcs : cs = (cSt s).toArray) (t : TypeId) : ∀ ad : Addr, some (⟨k, 0, none⟩ : Addr) = some ad → ∀ j u, (cSt s)[j]? = some u → (X.alloc (.cells cs t)).cell? (ad.add j) = some u := by
  subst hcs
  exact cells_at hk (cSt s) t

theorem cSt_oneS (s : St) : ∀ u ∈ cSt s, u.oneCell' = true := fun u hu => cSt_oneL [s] u (by simpa [rv] using hu)

theorem own_same {W : World} {g : Nat} {t : TypeId} {cs cs' : List Value} (h : Own W g t cs) (h' : Own W g t cs') : cs = cs' := by
  unfold Own at h h'
  rw [h] at h'
  injection h' with h'
  injection h' with h'
  have := congrArg Array.toList h'
  simpa using this

set_option maxHeartbeats 8000000 in
theorem neededSteps_any (n : Nat) (A : Option Addr) (len cap L : Nat) (l : List St) (w : World) (hx : RdS w w.heap.size A l) (hl : l.length = len) (hm : len ≤ 65536) (hc : StOk n l) (hn : n ≤ 6) (hL : L < 2 ^ n) :
    Calls Try.prog 52 #[.slice A len cap, .int .u32 (L : Nat)] w fun e w' => ∃ A' c', e = .returned (.slice A' (nedL l L).1.length c') ∧ w'.ownsRow w.heap.size 87 5 (.slice A' (nedL l L).1.length c') (nedL l L).1.length (rv cSt (nedL l L).1) ∧ Below w.heap.size w w' := by
  have HL := Lib.hid hl
  have HC := Lib.hid hc
  have h6 : 2 ^ n ≤ 2 ^ 6 := Nat.pow_le_pow_right (by omega) hn
  clear hl hc
  have hro : Fence.wide.round = none := rfl
  have h1 : 1 ≤ 5 := by omega
  refine (callsIn_wide (n := 5)).1 ?_
  refine callsIn_of_wp_marks Try.func52 rfl trivial ?_ hro
  simp only [Try.ntmps52, List.size_toArray, List.length_cons, List.length_nil, Nat.reduceAdd, Nat.reduceSub, Array.replicate_succ, Array.replicate_zero, List.push_toArray, List.append_toArray, List.nil_append, List.cons_append]
  gi_wp2_with (refine ⟨trivial, ?_⟩; gi_at_call 81; refine (backS_in Fence.wide _ trivial hro _ _ _ _).mono ?_; rintro e w' ⟨rfl, rfl⟩)
  obtain ⟨W0, hW0⟩ : ∃ W0 : World, W0 = (((w.alloc (Obj.cells #[Value.int IntKind.u32 ↑L] 23)).alloc (Obj.cells #[Value.slice none 0 0] 49)).alloc (Obj.cells #[Value.slice A len cap] 49)) := ⟨_, rfl⟩
  have hlive0 : Own W0 w.heap.size 23 [.int .u32 (L : Nat)] := by
    rw [hW0]
    exact ((Own.new w 23 [.int .u32 (L : Nat)]).alloc _).alloc _
  have hbox0 : Own W0 (w.heap.size + 1) 49 [.slice none 0 0] := by
    rw [hW0]
    refine (?_ : Own _ _ _ _).alloc _
    have h := Own.new (w.alloc (Obj.cells #[Value.int IntKind.u32 ↑L] 23)) 49 [.slice none 0 0]
    rwa [World.size_alloc] at h
  have hcap0 : W0.cell? ⟨w.heap.size + 1 + 1, 0, none⟩ = some (.slice A len cap) := by
    rw [hW0]
    have h := (Own.new ((w.alloc (Obj.cells #[Value.int IntKind.u32 ↑L] 23)).alloc (Obj.cells #[Value.slice none 0 0] 49)) 49 [.slice A len cap]).cell (j := 0) rfl
    rwa [World.size_alloc, World.size_alloc] at h
  have hB0 : Below w.heap.size w W0 := by rw [hW0]; go_grown
  have hs0 : W0.heap.size = w.heap.size + 1 + 1 + 1 := by rw [hW0]; simp
  rw [← hW0]
  clear hW0
  have HS := Lib.hid hs0
  have hs1 : w.heap.size + 1 + 1 < W0.heap.size := by omega
  have hs2 : w.heap.size ≤ W0.heap.size := by omega
  clear hs0
  refine wpIn_rangeFunc_ownH hro h1 (gf := 102) (lb := #[.pointer (some ⟨w.heap.size + 1 + 1, 0, none⟩)]) rfl trivial (enters_of Try.func102 (by kernel_rfl) rfl)
    (backS_stops Fence.wide _ trivial hro (by omega) (w.heap.size + 1 + 1) w.heap.size len cap A l HL.out (by omega) W0 hs1 hs2 hcap0 (hx.below hB0 (Nat.le_refl _))) KpB.t (KpB.b hs2 hs1) (Below.refl _ _) (fun _ => rfl)
    (fun pre W => NdI l L w.heap.size W0.heap.size pre W ∧ (Below w.heap.size w W ∧ W0.heap.size ≤ W.heap.size))
    (fun _ _ _ => False)
    (OwnFrom.and (_root_.Go.Own.from (fun s X Y row hs hg hr => hs.kept hg hr) _) (OwnFrom.and (ownFrom_below (Nat.le_refl _) hs2) (fun _ _ _ _ h hg _ => Nat.le_trans h hg.size)))
    (fun _ _ _ _ _ hs _ _ => hs)
    ⟨⟨hlive0, none, 0, hbox0, World.ownsRow_nil _ _ _ _⟩, hB0, Nat.le_refl _⟩
    (fun x a' W => ∃ Bx A1 n1 c1, W0.heap.size ≤ Bx ∧ Own W Bx 87 [.int .i64 l[x.1].op, .int .i64 l[x.1].to, .int .i64 l[x.1].a, .int .i64 l[x.1].b, .int .i64 l[x.1].v] ∧ Own W (w.heap.size + 1) 49 [.slice A1 n1 c1] ∧ (Value.slice A1 n1 c1).ownBlock ≠ some Bx ∧
      a' = { tmps := #[.slice A len cap, .int .u32 (L : Nat), undef, .pointer (some ⟨w.heap.size, 0, none⟩), .slice none 0 0, .pointer (some ⟨w.heap.size + 1, 0, none⟩), undef, .pointer (some ⟨Bx, 0, none⟩), .slice A len cap, .func (.func 102) #[] #[.pointer (some ⟨w.heap.size + 1 + 1, 0, none⟩)], .int .i64 (x.1 : Int), .agg #[.int .i64 l[x.1].op, .int .i64 l[x.1].to, .int .i64 l[x.1].a, .int .i64 l[x.1].b, .int .i64 l[x.1].v], undef, undef, undef, undef, undef, undef, undef, undef, undef, undef, undef, undef, undef, undef], defers := [] })
    (fun x a' => _root_.Go.Own.from (fun s X Y row hs hg hr => by obtain ⟨Bx, A1, n1, c1, h1, h2, h3, h4⟩ := hs; exact ⟨Bx, A1, n1, c1, h1, h2.kept hg hr, h3.kept hg hr, h4⟩) _)
    ?assign ?body ?done ?stop
  case assign =>
    rintro lb pre x W K ⟨i1, i3, i4⟩ hK
    simp only [encS]
    have i2 := i1
    obtain ⟨j1, A1, c1, j2, j3⟩ := i2
    have hne : (Value.slice A1 (nedF l pre L).1.length c1).ownBlock ≠ some W.heap.size := fun e => by
      have := (j3.lt _ e).2
      omega
    gi_wp2
    exact hK _ _ ((KeepsOthers.alloc _ _).from _) (KpB.alloc W i3.size (by omega) _) ⟨⟨j1.alloc _, A1, c1, j2.alloc _, own_below j3 (by go_grown)⟩, i3.alloc i3.size _, by simp; omega⟩ ⟨W.heap.size, A1, _, c1, i4, Own.new _ _ _, j2.alloc _, hne, rfl⟩
  case body =>
    rintro lb pre ⟨m, hm2⟩ a' W hlb ⟨r, hr⟩ ⟨⟨i1, A1, c1, i2, i5⟩, i3, i4⟩ ⟨Bx, A2, n2, c2, hBx, bX, bS, hne, rfl⟩ hlt
    simp only at bX ⊢
    have e1 := own_same i2 bS
    simp only [List.cons.injEq, Value.slice.injEq, and_true] at e1
    obtain ⟨rfl, rfl, rfl⟩ := e1
    have hcs := HC.out l[m] (List.getElem_mem hm2)
    have hst := nedF_snoc l pre ⟨m, hm2⟩ L
    have hlen := nedF_len l pre L
    have hlt6 := nedF_lt HC.out pre hL
    have HNS : Hid (NdI l L w.heap.size W0.heap.size pre W) := Lib.hid ⟨i1, A1, c1, i2, i5⟩
    have hlt2 : pre.length < len := by have := HL.out; omega
    simp only at hst
    have HST := Lib.hid hst
    generalize l[m] = s at *
    obtain ⟨o, t, a, b, v⟩ := s
    simp only at hcs HST bX ⊢
    clear hst hlt
    obtain ⟨⟨t0, t1⟩, _⟩ := ckStep_cases hcs
    obtain ⟨tn, rfl⟩ := Int.eq_ofNat_of_zero_le t0
    have htn : tn < 32 := by omega
    rw [show (((tn : Nat) : Int)).toNat = tn from rfl] at HST
    generalize nedF l pre L = st at *
    obtain ⟨r, X⟩ := st
    simp only at HST i1 i2 i5 bS hne hlen hlt6 ⊢
    have hX32 : X < 4294967296 := by omega
    obtain ⟨bt, hbt⟩ : ∃ bt, X.testBit tn = bt := ⟨_, rfl⟩
    rw [hbt] at HST
    have HB := Lib.hid hbt
    clear hbt bS
    have hc0 := i1.cell (j := 0) rfl
    have hb1 := bX.cell (j := 1) rfl
    have h12 : 1 ≤ 5 - 1 - 1 := by omega
    cases bt with
    | false =>
      rw [if_neg (by simp)] at HST
      gi_wp2_with (refine ⟨trivial, ?_⟩; gi_at_call 76; refine (CallsIn.inRound lb (callsIn_wide.2 (hasBit_any X tn _ hX32 htn))).mono ?_; rw [HB.out]; rintro e w5 ⟨rfl, rfl⟩)
      exact ⟨KeepsFrom.refl _ _, KpB.refl _ _ _, ⟨by rw [HST.out]; exact i1, A1, c1, by rw [HST.out]; exact i2, by rw [HST.out]; exact i5⟩, i3, i4⟩
    | true =>
      rw [if_pos rfl] at HST
      obtain ⟨k, hk⟩ : ∃ k, r.length = k := ⟨_, rfl⟩
      have HK := Lib.hid hk
      rw [hk] at i2 i5 hne hlen
      have h63 : k + 1 ≤ maxLen := by unfold maxLen; omega
      have hbig : (k + 1) * 40 ≤ 140737488355328 := by omega
      have hc1 := i2.cell (j := 0) rfl
      have hb0 := bX.cell (j := 0) rfl
      have hb2 := bX.cell (j := 2) rfl
      have hb3 := bX.cell (j := 3) rfl
      have hb4 := bX.cell (j := 4) rfl
      have hrb : ∀ g, g < W0.heap.size → (Value.slice A1 k c1).ownBlock ≠ some g := fun g hg e => by have := (i5.lt g e).1; omega
      have HRB := Lib.hid hrb
      have HI1 := Lib.hid i1
      have HI2 := Lib.hid i2
      have HI3 := Lib.hid i3
      have HI5 := Lib.hid i5
      have HBX := Lib.hid bX
      have HNE := Lib.hid hne
      clear hk hrb i1 i2 i3 i5 bX hne
      gi_wp2_with (first
        | (refine ⟨trivial, ?_⟩; gi_at_call 76; refine (CallsIn.inRound lb (callsIn_wide.2 (hasBit_any X tn _ hX32 htn))).mono ?_; rw [HB.out]; rintro e w5 ⟨rfl, rfl⟩)
        | (gi_at_builtin; refine wpListIn_app rfl (.tmp 16) (.tmp 18) 49 rfl W0.heap.size 87 5 40 stepl_app (rv cSt r) rfl (own_below HI5.out (by go_grown)) (cSt ⟨o, tn, a, b, v⟩) rfl rfl (fun h => by cases h) (cellsS_atL (by simp) ⟨o, tn, a, b, v⟩ _ rfl _) (cSt_oneS _) h63 hbig (by simp; omega) ?_
           intro A4 c4 w4 hown4 hg4 hb4' hk4
           have hX4 := own_grow (HBX.out.alloc (Obj.cells #[Value.int IntKind.i64 o, Value.int IntKind.i64 ↑tn, Value.int IntKind.i64 a, Value.int IntKind.i64 b, Value.int IntKind.i64 v] 87)) hg4 HNE.out
           have hI14 := own_grow (HI1.out.alloc (Obj.cells #[Value.int IntKind.i64 o, Value.int IntKind.i64 ↑tn, Value.int IntKind.i64 a, Value.int IntKind.i64 b, Value.int IntKind.i64 v] 87)) hg4 (HRB.out _ (by omega))
           have hI24 := own_grow (HI2.out.alloc (Obj.cells #[Value.int IntKind.i64 o, Value.int IntKind.i64 ↑tn, Value.int IntKind.i64 a, Value.int IntKind.i64 b, Value.int IntKind.i64 v] 87)) hg4 (HRB.out _ (by omega))
           have x0 := hX4.cell (j := 0) rfl
           have x1 := hX4.cell (j := 1) rfl
           have x2 := hX4.cell (j := 2) rfl
           have x3 := hX4.cell (j := 3) rfl
           have x4 := hX4.cell (j := 4) rfl
           have y0 := hI14.cell (j := 0) rfl
           have z0 := hI24.cell (j := 0) rfl
           have z1 := hI24.frozen 0
           have hxne : w.heap.size + 1 ≠ Bx := by omega)
        | (refine ⟨trivial, ?_⟩; gi_at_call 82; refine (CallsIn.inRound lb (callsIn_wide.2 (beforeStep_any n o tn a b v X _ hcs hn hlt6))).mono ?_; rintro e w6 ⟨rfl, hb6⟩
           have hI16 := (hI14.far (p := ⟨w.heap.size + 1, 0, none⟩) (by simp) (.slice A4 (k + 1) c4)).below hb6 (by simp; have := hI14.lt; omega)
           have u0 := hI16.cell (j := 0) rfl
           have u1 := hI16.frozen 0))
      have hsz4 := hb4'.size
      have hsz3 := HI3.out.size
      simp only [World.size_alloc] at hsz4
      have hko : KeepsOthers W (w6.setCell ⟨w.heap.size, 0, none⟩ (.int .u32 ((befW ⟨o, (tn : Int), a, b, v⟩ X : Nat) : Int))) :=
        ((((KeepsOthers.alloc W _).trans (KeepsOthers.of_grownBy hg4 (row_cells (own_below HI5.out (by go_grown))))).trans (KeepsOthers.setCell _ _ _)).trans (keeps_below hb6)).trans (KeepsOthers.setCell _ _ _)
      have hbw : Below w.heap.size W (w6.setCell ⟨w.heap.size, 0, none⟩ (.int .u32 ((befW ⟨o, (tn : Int), a, b, v⟩ X : Nat) : Int))) :=
        ((((((Below.refl _ W).alloc hsz3 _).trans (hb4'.mono hs2)).setCell (p := ⟨w.heap.size + 1, 0, none⟩) (by simp) _).trans (hb6.mono (by simp; omega)))).setCell (p := ⟨w.heap.size, 0, none⟩) (Nat.le_refl _) _
      have hBs : (w6.setCell ⟨w.heap.size, 0, none⟩ (.int .u32 ((befW ⟨o, (tn : Int), a, b, v⟩ X : Nat) : Int))).heap[w.heap.size + 1 + 1]? = W.heap[w.heap.size + 1 + 1]? := by
        refine (Below.heap_setCell _ _ _ _ (by simp; omega)).trans ((hb6.block _ (by simp; omega)).trans ((Below.heap_setCell _ _ _ _ (by simp)).trans ((hb4'.block _ (by omega)).trans (Below.heap_alloc _ _ _ (by omega)))))
      have hlr : (r ++ [(⟨o, (tn : Int), a, b, v⟩ : St)]).length = k + 1 := by simp [HK.out]
      refine ⟨hko.from _, ⟨hbw, hBs⟩, ⟨?_, A4, c4, ?_, ?_⟩, HI3.out.trans hbw, Nat.le_trans i4 hbw.size⟩
      · rw [HST.out]
        exact hI16.set 0 _
      · rw [HST.out]
        simp only [hlr]
        exact ((hI24.set 0 (.slice A4 (k + 1) c4)).below hb6 (by simp; have := hI24.lt; omega)).far (by simp) _
      · rw [HST.out]
        simp only [hlr]
        rw [rv_append]
        have := own_farW (own_below (own_farW hown4 (p := ⟨w.heap.size + 1, 0, none⟩) (by simp; omega) (.slice A4 (k + 1) c4)) hb6) (p := ⟨w.heap.size, 0, none⟩) (by simp; omega) (.int .u32 ((befW ⟨o, (tn : Int), a, b, v⟩ X : Nat) : Int))
        simpa [rv] using this
  case done =>
    rintro D ys W hD rfl ⟨⟨i1, A1, c1, i2, i5⟩, i3, i4⟩ hK
    have hall := nedF_all l L
    rw [hall] at i1 i2 i5
    simp only [List.length_reverse] at i1 i2 i5
    obtain ⟨R, hR⟩ : ∃ R, (nedL l L).1 = R := ⟨_, rfl⟩
    rw [hR] at i2 i5
    have HR := Lib.hid hR
    have hlr := nd_len l L
    rw [hR, HL.out] at hlr
    obtain ⟨m, hm3⟩ : ∃ m, R.length = m := ⟨_, rfl⟩
    rw [hm3] at i2 i5 hlr
    have HM := Lib.hid hm3
    have hcS := i2.cell (j := 0) rfl
    have HI2 := Lib.hid i2
    have HI5 := Lib.hid i5
    have HK := Lib.hid hK
    clear hall hR hm3 i1 i2 i5 hK
    gi_wp2_with (refine ⟨trivial, ?_⟩; gi_at_call 83; refine (callsIn_wide.2 (reverseS_any A1 m c1 R.reverse W0.heap.size W HI5.out (by simp [HM.out]) (by omega) i4)).mono ?_; rintro e w7 ⟨rfl, hown7, hb7, hk7⟩; have hcS7 := (HI2.out.below hb7 (by omega)).cell (j := 0) rfl)
    have hK7 := hk7.same D _ HK.out rfl
    rw [List.reverse_reverse] at hown7
    refine ⟨by simp, .inl ⟨_, _, rfl, run_takeDeferred hK7, ?_⟩⟩
    refine ⟨_, results_tmp rfl _ _ _, A1, c1, ?_, ?_, i3.trans ((hb7.mono hs2).trans (belowK_b (w := w) (Nat.le_refl _) w7 D _ _ (by omega) hK7 rfl rfl))⟩
    · rw [HR.out, HM.out]
      rfl
    · rw [HR.out, HM.out]
      exact own_lower (ownsRow_putObj hown7 _ hK7 rfl) hs2
  case stop =>
    rintro D c pre W _ _ h _
    exact h.elim

end Go.Proofs.Ytfhnhbkdhdocjaa

/-
  A region whose order is open, in a round of a range over a function: what goes outside of a round goes in it too.
-/

namespace Go.Proofs.Ytfhnhbkdhdocjaa
set_option linter.unusedSimpArgs false
set_option linter.unusedVariables false

/-- no operation puts off a call -/
def noDefer (ops : Array Oper) : Bool := ops.toList.all fun o => match o.op with
  | .defer _ => false
  | _ => true

theorem noDefer_at {ops : Array Oper} (h : noDefer ops = true) {i : Nat} {o : Oper} (ho : ops[i]? = some o) : ∀ c, o.op ≠ .defer c := fun c hc => by
  have hm : o ∈ ops.toList := by
    have := Array.mem_of_getElem? ho
    simpa using this
  have := List.all_eq_true.1 h o hm
  rw [hc] at this
  cases this

theorem rowsIn_round {n l : Nat} {P : Program} {row : String} {args : Array Value} {w : World} {R : Value → World → Prop} (h : Rows P row args w R) : RowsIn (Fence.wide.inRound l) n P row args w R := fun c cs _ => by
  obtain ⟨v, w', h1, h2⟩ := h c cs
  refine ⟨v, w', h1, ?_⟩
  rw [fenced_inRound]
  exact (StepsIn.of_steps h2).mono fun m _ => fenced_wide P m

theorem oper_round {n l : Nat} {P : Program} {o : Oper} {a : Act} {w : World} {K : Act → World → Prop} {Q : Exit → Act → World → Prop} (hd : ∀ c, o.op ≠ .defer c) (h : o.wp P a w K Q) : o.wpIn (Fence.wide.inRound l) n P a w K Q := by
  refine ⟨fun f _ => trivial, ?_⟩
  unfold Oper.wp at h
  rw [Oper.semAt_eq _ _ _ hd]
  have hdp : (Fence.wide.inRound l).depth.isSome = true → 1 ≤ n := fun h => by cases h
  generalize (execOp a.eval o).run P w = r at *
  cases r with
  | ok x w' =>
    cases x <;> simp only [Oper.upon, Oper.uponIn] at h ⊢
    case value => exact h
    case skip => exact h
    case defer => exact h
    case enter => exact ⟨hdp, CallsIn.inRound l (callsIn_wide.2 h)⟩
    case row => exact ⟨hdp, rowsIn_round h⟩
  | halt x w' => cases x <;> simp only [Oper.upon, Oper.uponIn] at h ⊢ <;> exact h

theorem wpOp_round {n l i : Nat} {P : Program} {ops : Array Oper} {a : Act} {w : World} {K : Act → World → Prop} {Q : Exit → Act → World → Prop} (hd : noDefer ops = true) (hno : ¬ LetsOut Q) (h : wpOp P ops Q i K a w) : wpOpIn (Fence.wide.inRound l) n P ops Q i K a w := by
  unfold wpOp at h
  unfold wpOpIn
  cases ho : ops[i]? with
  | none => simpa only [ho] using h
  | some o =>
    simp only [ho] at h ⊢
    split
    · rename_i hw
      simp only [hw, if_true] at h
      rcases h with h | ⟨_, h⟩
      · exact oper_round (noDefer_at hd ho) h
      · exact absurd h hno
    · rename_i hw
      simp only [hw] at h
      exact ⟨fun _ _ => trivial, h⟩

theorem wpAny_round {n l : Nat} {P : Program} {md : Region.Mode} {ops : Array Oper} {Q : Exit → Act → World → Prop} (hd : noDefer ops = true) (hno : ¬ LetsOut Q) : ∀ (fuel : Nat) (listed : Array Bool) (a : Act) (w : World),
    wpAny P md ops Q fuel listed a w → wpAnyIn (Fence.wide.inRound l) n P md ops Q fuel listed a w
  | 0, _, _, _, h => h
  | fuel + 1, _, _, _, h => ⟨h.1, fun i hi => wpOpIn_mono (fun a' w' h' => wpAny_round hd hno fuel _ a' w' h') (wpOp_round hd hno (h.2 i hi))⟩

/-- the region itself -/
theorem region_round {n l id : Nat} {P : Program} {ops : Array Oper} {Q : Exit → Act → World → Prop} {a : Act} {w : World} (hm : P.follows .mixedOrders = true) (hd : noDefer ops = true) (hno : ¬ LetsOut Q)
    (h : wpAny P .any ops Q ops.size (Array.replicate ops.size false) a w.drew) : (Code.region id ops true).wpIn (Fence.wide.inRound l) n P Q a w :=
  wpIn_region_any hm (wpAny_round hd hno _ _ _ _ h)

/-- .. whose operations only read -/
theorem region_round_quiet {n l id : Nat} {P : Program} {Q : Exit → Act → World → Prop} {a : Act} {w : World} {ops : List Oper} (hm : P.follows .mixedOrders = true) (hd : noDefer ops.toArray = true) (hno : ¬ LetsOut Q) (hB : Region.lexB .any ops.toArray = true)
    (h : wpQuiet P ops.toArray (fun w' => ∃ n, w' = w.drewN n) (fun a' => ∀ w', (∃ n, w' = w.drewN n) → Q .normal a' w') ops a) : (Code.region id ops.toArray true).wpIn (Fence.wide.inRound l) n P Q a w := by
  simp only [Region.lexB, Bool.and_eq_true] at hB
  refine region_round hm hd hno (wpAny_of_quiet (C := fun w' => ∃ n, w' = w.drewN n) (Q := fun a' => ∀ w', (∃ n, w' = w.drewN n) → Q .normal a' w') (fun _ w' hw' h => h w' hw') _ _ _ _ ⟨1, rfl⟩ ?_)
  have := wpAnyQ_lex (C := fun w' => ∃ n, w' = w.drewN n) (md := .any) hB.1 ops 0 (Array.replicate ops.toArray.size false) a (by simp) (by simpa using hB.2) h
  simpa using this

/-- .. with loads of cells that stand still -/
theorem region_round_held {n l id : Nat} {P : Program} {ops : Array Oper} {Q : Exit → Act → World → Prop} {a : Act} {w : World} (S : World → Prop) (hm : P.follows .mixedOrders = true) (hd : noDefer ops = true) (hno : ¬ LetsOut Q)
    (h : wpAnyH P .any ops Q S ops.size (Array.replicate ops.size false) a w.drew) : (Code.region id ops true).wpIn (Fence.wide.inRound l) n P Q a w :=
  region_round hm hd hno (wpAny_of_held _ _ _ _ h)

end Go.Proofs.Ytfhnhbkdhdocjaa

/-
  live.spread, live.liveBefore (K1).
-/

namespace Go.Proofs.Ytfhnhbkdhdocjaa
open Go.RowKit Go.Shelf
set_option linter.unusedSimpArgs false
set_option linter.unusedVariables false
set_option maxRecDepth 100000
attribute [local go_sem] Oper.semAt_some

/-- the nodes that have come -/
def InF {n : Nat} (pre : List (Fin n)) (i : Nat) : Prop := ∃ x ∈ pre, x.1 = i

theorem InF.snoc {n : Nat} {pre : List (Fin n)} {x : Fin n} {i : Nat} (h : InF (pre ++ [x]) i) : InF pre i ∨ i = x.1 := by
  obtain ⟨y, hy, e⟩ := h
  rcases List.mem_append.1 hy with hy | hy
  · exact .inl ⟨y, hy, e⟩
  · rw [List.mem_singleton] at hy
    exact .inr (by rw [← e, hy])

/-- what spread holds between two rounds -/
structure SpI (n : Nat) (p : List Bk) (want s0 len g h capN : Nat) (AN : Option Addr) {m : Nat} (pre : List (Fin m)) (W : World) : Prop where
  nx : Own W h 80 [.slice AN len capN]
  wt : Own W (h + 1) 23 [.int .u32 (want : Nat)]
  ins : Own W (h + 2) 24 [.slice (some ⟨g, 0, none⟩) len len]
  ex : ∃ (F : List Nat) (ch : Bool), Own W (h + 3) 4 [.bool ch] ∧ Own W g 23 (uv F) ∧ Spd n p want s0 F ch (InF pre)

theorem SpI.kept {n : Nat} {p : List Bk} {want s0 len g h capN : Nat} {AN : Option Addr} {m : Nat} {pre : List (Fin m)} {W W' : World} {row : Option Nat} (hi : SpI n p want s0 len g h capN AN pre W) (hg : W.grownBy W' row) (hr : ∀ r, row = some r → ∃ o : Obj, W.heap[r]? = some o ∧ o.isCells = false) : SpI n p want s0 len g h capN AN pre W' := by
  obtain ⟨h1, h2, h3, F, ch, h4, h5, h6⟩ := hi
  exact ⟨h1.kept hg hr, h2.kept hg hr, h3.kept hg hr, F, ch, h4.kept hg hr, h5.kept hg hr, h6⟩

theorem SpI.below {n : Nat} {p : List Bk} {want s0 len g h capN : Nat} {AN : Option Addr} {m : Nat} {pre : List (Fin m)} {W W' : World} (hi : SpI n p want s0 len g h capN AN pre W) (hb : Below W.heap.size W W') : SpI n p want s0 len g h capN AN pre W' := by
  obtain ⟨h1, h2, h3, F, ch, h4, h5, h6⟩ := hi
  exact ⟨h1.below hb h1.lt, h2.below hb h2.lt, h3.below hb h3.lt, F, ch, h4.below hb h4.lt, h5.below hb h5.lt, h6⟩

theorem Spd.to {n : Nat} {p : List Bk} {want s0 : Nat} {F : List Nat} {ch : Bool} {D D' : Nat → Prop} (h : Spd n p want s0 F ch D) (hD : ∀ i, D' i → D i) : Spd n p want s0 F ch D' := ⟨h.inv, h.up, h.more, fun hch i b W hi => h.same hch i b W (hD i hi)⟩

theorem kpB_below {n₀ Bs : Nat} {W W' : World} (h : Below W.heap.size W W') (hn : n₀ ≤ W.heap.size) (hB : Bs < W.heap.size) : KpB n₀ Bs W W' := ⟨h.mono hn, h.block Bs hB⟩

theorem keeps_drewN (W : World) (q : Nat) : KeepsOthers W (W.drewN q) := ⟨Nat.le_refl _, fun _ _ h _ => h⟩

set_option maxHeartbeats 8000000 in
theorem spreadLive_any (n want : Nat) (A AN : Option Addr) (len cap capN g : Nat) (p : List Bk) (qs : List (Bk × Option Addr × Nat)) (F : List Nat) (w : World) (hq : qs.map (·.1) = p) (hx : RdR cBk w g A 4 qs) (hr : RawOk w g qs) (hN : RdG w g AN (nxP p)) (hl : p.length = len)
    (hc : ckProg n p = 0) (hw : want < 2 ^ n) (hown : Own w g 23 (uv F)) (hI : FlI n p want F) :
    Calls Try.prog 80 #[.slice A len cap, .slice AN len capN, .int .u32 (want : Nat), .slice (some ⟨g, 0, none⟩) len len] w fun e w' => ∃ (ch : Bool) (F' : List Nat), e = .returned (.bool ch) ∧ Own w' g 23 (uv F') ∧ Spd n p want F.sum F' ch (fun i => i < len) ∧ Below g w w' := by
  obtain ⟨b1, b2, b3, b4, b5, b6⟩ := ckProg_bd hc
  clear b6
  have HL := Lib.hid hl
  have HC := Lib.hid hc
  have HQ := Lib.hid hq
  have HR := Lib.hid hr
  have hql : qs.length = len := by rw [← hl, ← hq, List.length_map]
  have HQL := Lib.hid hql
  have h6 : 2 ^ n ≤ 2 ^ 6 := Nat.pow_le_pow_right (by omega) (by omega)
  have hw32 : want < 4294967296 := by omega
  have hgl := hown.lt
  rw [hl] at b3 b4
  have hn6 : n ≤ 6 := by omega
  obtain ⟨s0, hs0⟩ : ∃ s, F.sum = s := ⟨_, rfl⟩
  have HS0 : Hid (Spd n p want s0 F false (InF ([] : List (Fin qs.length)))) := Lib.hid (by rw [← hs0]; exact Spd.start hI fun i ⟨x, hx, _⟩ => by cases hx)
  rw [hs0]
  clear hl hc hq hr hI hql hs0
  have hro : Fence.wide.round = none := rfl
  have h1 : 1 ≤ 7 := by omega
  refine (callsIn_wide (n := 7)).1 ?_
  refine callsIn_of_wp_marks Try.func80 rfl trivial ?_ hro
  simp only [Try.ntmps80, List.size_toArray, List.length_cons, List.length_nil, Nat.reduceAdd, Nat.reduceSub, Array.replicate_succ, Array.replicate_zero, List.push_toArray, List.append_toArray, List.nil_append, List.cons_append]
  gi_wp2_with (refine ⟨trivial, ?_⟩; gi_at_call 101; refine (backB_in Fence.wide _ trivial hro _ _ _ _).mono ?_; rintro e w' ⟨rfl, rfl⟩)
  obtain ⟨Y0, hY0⟩ : ∃ Y0 : World, Y0 = w.alloc (Obj.cells #[Value.slice AN len capN] 80) := ⟨_, rfl⟩
  obtain ⟨Y1, hY1⟩ : ∃ Y1 : World, Y1 = Y0.alloc (Obj.cells #[Value.int IntKind.u32 ↑want] 23) := ⟨_, rfl⟩
  obtain ⟨Y2, hY2⟩ : ∃ Y2 : World, Y2 = Y1.alloc (Obj.cells #[Value.slice (some { block := g, off := 0 }) len len] 24) := ⟨_, rfl⟩
  obtain ⟨Y3, hY3⟩ : ∃ Y3 : World, Y3 = Y2.alloc (Obj.cells #[Value.bool false] 4) := ⟨_, rfl⟩
  obtain ⟨W0, hW0⟩ : ∃ W0 : World, W0 = Y3.alloc (Obj.cells #[Value.slice A len cap] 22) := ⟨_, rfl⟩
  rw [← hY0, ← hY1, ← hY2, ← hY3, ← hW0]
  have z0 : Y0.heap.size = w.heap.size + 1 := by rw [hY0]; simp
  have z1 : Y1.heap.size = w.heap.size + 1 + 1 := by rw [hY1]; simp [z0]
  have z2 : Y2.heap.size = w.heap.size + 1 + 1 + 1 := by rw [hY2]; simp [z1]
  have z3 : Y3.heap.size = w.heap.size + 1 + 1 + 1 + 1 := by rw [hY3]; simp [z2]
  have z4 : W0.heap.size = w.heap.size + 1 + 1 + 1 + 1 + 1 := by rw [hW0]; simp [z3]
  have k0 : Own W0 w.heap.size 80 [.slice AN len capN] := by
    rw [hW0, hY3, hY2, hY1, hY0]
    exact ((((Own.new w 80 [.slice AN len capN]).alloc _).alloc _).alloc _).alloc _
  have k1 : Own W0 (w.heap.size + 1) 23 [.int .u32 (want : Nat)] := by
    have h := Own.new Y0 23 [.int .u32 (want : Nat)]
    rw [z0] at h
    rw [hW0, hY3, hY2, hY1]
    exact ((h.alloc _).alloc _).alloc _
  have k2 : Own W0 (w.heap.size + 2) 24 [.slice (some ⟨g, 0, none⟩) len len] := by
    have h := Own.new Y1 24 [.slice (some ⟨g, 0, none⟩) len len]
    rw [z1] at h
    rw [hW0, hY3, hY2]
    exact (h.alloc _).alloc _
  have k3 : Own W0 (w.heap.size + 3) 4 [.bool false] := by
    have h := Own.new Y2 4 [.bool false]
    rw [z2] at h
    rw [hW0, hY3]
    exact h.alloc _
  have k4 : Own W0 (w.heap.size + 4) 22 [.slice A len cap] := by
    have h := Own.new Y3 22 [.slice A len cap]
    rw [z3] at h
    rw [hW0]
    exact h
  have hB0 : Below w.heap.size w W0 := by
    rw [hW0, hY3, hY2, hY1, hY0]
    go_grown
  have hownG : Own W0 g 23 (uv F) := hown.below hB0 hgl
  have hB0g : Below g w W0 := hB0.mono (Nat.le_of_lt hgl)
  clear hW0 hY3 hY2 hY1 hY0 z0 z1 z2 z3
  have hs1 : w.heap.size + 1 + 1 + 1 + 1 < W0.heap.size := by omega
  have hs2 : g ≤ W0.heap.size := by omega
  have hcap0 : W0.cell? ⟨w.heap.size + 1 + 1 + 1 + 1, 0, none⟩ = some (.slice A len cap) := k4.cell (j := 0) rfl
  refine wpIn_rangeFunc_ownH hro h1 (gf := 119) (lb := #[.pointer (some ⟨w.heap.size + 1 + 1 + 1 + 1, 0, none⟩)]) rfl trivial (enters_of Try.func119 (by kernel_rfl) rfl)
    (backB_stops Fence.wide _ trivial hro (by omega) (w.heap.size + 1 + 1 + 1 + 1) g len cap A qs HQL.out (by omega) W0 hs1 hs2 hcap0 (RdR.below hx hB0g (Nat.le_refl _))) KpB.t (KpB.b hs2 hs1) (Below.refl _ _) (fun _ => rfl)
    (fun pre W => SpI n p want s0 len g w.heap.size capN AN pre W ∧ (Below g w W ∧ W0.heap.size ≤ W.heap.size))
    (fun _ _ _ => False)
    (OwnFrom.and (_root_.Go.Own.from (fun s X Y row hs hg hr => hs.kept hg hr) _) (OwnFrom.and (ownFrom_below (Nat.le_of_lt hgl) hs2) (fun _ _ _ _ h hg _ => Nat.le_trans h hg.size)))
    (fun _ _ _ _ _ hs _ _ => hs)
    ⟨⟨k0, k1, k2, F, false, k3, hownG, HS0.out⟩, hB0g, Nat.le_refl _⟩
    (fun x a' W => ∃ Bx, W0.heap.size ≤ Bx ∧ Own W Bx 79 [.slice qs[x.1].2.1 qs[x.1].1.code.length qs[x.1].2.2, .int .i64 qs[x.1].1.test, .int .i64 qs[x.1].1.th, .int .i64 qs[x.1].1.el] ∧
      a' = { tmps := #[.slice A len cap, .slice AN len capN, .int .u32 (want : Nat), .slice (some ⟨g, 0, none⟩) len len, undef, .pointer (some ⟨w.heap.size, 0, none⟩), .pointer (some ⟨w.heap.size + 1, 0, none⟩), .pointer (some ⟨w.heap.size + 1 + 1, 0, none⟩), .bool false, .pointer (some ⟨w.heap.size + 1 + 1 + 1, 0, none⟩), .int .i64 (x.1 : Int), .pointer (some ⟨Bx, 0, none⟩), undef, undef, undef, .slice A len cap, .func (.func 119) #[] #[.pointer (some ⟨w.heap.size + 1 + 1 + 1 + 1, 0, none⟩)], .int .i64 (x.1 : Int), .agg #[.slice qs[x.1].2.1 qs[x.1].1.code.length qs[x.1].2.2, .int .i64 qs[x.1].1.test, .int .i64 qs[x.1].1.th, .int .i64 qs[x.1].1.el], undef, undef, undef, undef, undef, undef, undef, undef, undef, undef, undef, undef, undef, undef, undef, undef, undef, undef, undef, undef, undef, undef, undef, undef, undef, undef, undef], defers := [] })
    (fun x a' => _root_.Go.Own.from (fun s X Y row hs hg hr => by obtain ⟨Bx, h1, h2, h4⟩ := hs; exact ⟨Bx, h1, h2.kept hg hr, h4⟩) _)
    ?assign ?body ?done ?stop
  case assign =>
    rintro lb pre x W K ⟨i1, i3, i4⟩ hK
    simp only [encB]
    have hgW : g ≤ W.heap.size := by have := i3.size; omega
    gi_wp2
    exact hK _ _ ((KeepsOthers.alloc _ _).from _) (KpB.alloc W hgW (by omega) _) ⟨i1.below (by go_grown), i3.alloc hgW _, by simp; omega⟩ ⟨W.heap.size, i4, Own.new _ _ _, rfl⟩
  case body =>
    rintro lb pre ⟨m, hm2⟩ a' W hlb ⟨r, hr⟩ ⟨⟨i1, i2, i5, F1, ch, i6, i7, hsp⟩, i3, i4⟩ ⟨Bx, hBx, bX, rfl⟩ hlt
    simp only at bX ⊢
    have hmlen : m < len := by have := HQL.out; omega
    have hqm : qs[m]? = some qs[m] := List.getElem?_eq_getElem hm2
    obtain ⟨hcode, hccap⟩ := HR.out m _ hqm
    have hpm : p[m]? = some qs[m].1 := by rw [← HQ.out, List.getElem?_map, hqm]; rfl
    generalize qs[m] = q at *
    obtain ⟨⟨code, te, th, el⟩, Ac, cc⟩ := q
    simp only at bX hcode hccap hpm ⊢
    obtain ⟨cl, hcl⟩ : ∃ cl, code.length = cl := ⟨_, rfl⟩
    rw [hcl] at bX hccap ⊢
    have HCL := Lib.hid hcl
    have HPM := Lib.hid hpm
    have hbk := ckProg_at HC.out hpm
    have hcm := manyS_le hpm
    simp only at hcm
    rw [hcl] at hcm
    obtain ⟨adn, row, Ar, cr, hAN, hbln, hdn, hcn, hrdn⟩ := (hN.below i3 (Nat.le_refl _)).at_ (k := m) (by rw [nxP, List.length_map, HL.out]; exact hmlen)
    subst hAN
    have hrow : row = nxB ⟨code, te, th, el⟩ := by
      rw [nxP, List.getElem?_map, hpm] at hdn
      injection hdn with hdn
      exact hdn.symm
    subst hrow
    have HBK := Lib.hid hbk
    have HRD := Lib.hid hrdn
    have HI7 := Lib.hid i7
    have HI3 := Lib.hid i3
    have HSP := Lib.hid hsp
    obtain ⟨fl, hfl⟩ : ∃ fl, (nxB ⟨code, te, th, el⟩).length = fl := ⟨_, rfl⟩
    rw [hfl] at hcn
    have HFL := Lib.hid hfl
    have hF1 : F1.length = len := by rw [hsp.inv.len, HL.out]
    have HF1 := Lib.hid hF1
    have hgW : g ≤ W.heap.size := by have := i3.size; omega
    have hblW : (adn.add m).block < W.heap.size := by omega
    have c1 := i1.cell (j := 0) rfl
    have c2 := i2.cell (j := 0) rfl
    have c5 := i5.cell (j := 0) rfl
    have x0 := bX.cell (j := 0) rfl
    have x1 := bX.cell (j := 1) rfl
    have x2 := bX.cell (j := 2) rfl
    have x3 := bX.cell (j := 3) rfl
    have hl1 := i1.lt
    have hl2 := i2.lt
    have hl5 := i5.lt
    have hlX := bX.lt
    have HLB : Hid (∀ Z : World, Below W.heap.size W Z → Calls Try.prog 53 #[.agg #[.slice Ac cl cc, .int .i64 te, .int .i64 th, .int .i64 el], .slice Ar fl cr, .int .u32 (want : Nat), .slice (some ⟨g, 0, none⟩) len len] Z fun e w' => e = .returned (.int .u32 (lbW ⟨code, te, th, el⟩ F1 want : Nat)) ∧ Below Z.heap.size Z w') := Lib.hid fun Z hZ =>
      liveBehind_any n p.length Ac Ar (some ⟨g, 0, none⟩) cl cc fl cr len len want 0 ⟨code, te, th, el⟩ F1 Z HBK.out (by omega) HCL.out ((HRD.out.below hZ (by omega)).more (by have := hZ.size; omega)) HFL.out ((OwnU.rd (HI7.out.below hZ (by omega))).more (by have := hZ.size; omega)) HF1.out HL.out.symm HSP.out.inv.lt hw
    have HCODE := Lib.hid hcode
    have HCELLS : Hid (∀ Z : World, Below W.heap.size W Z → Z.cell? ⟨Bx, 0, none⟩ = some (.slice Ac cl cc) ∧ Z.cell? ⟨Bx, 1, none⟩ = some (.int .i64 te) ∧ Z.cell? ⟨Bx, 2, none⟩ = some (.int .i64 th) ∧ Z.cell? ⟨Bx, 3, none⟩ = some (.int .i64 el) ∧
        Z.cell? ⟨w.heap.size, 0, none⟩ = some (.slice (some adn) len capN) ∧ Z.cell? ⟨w.heap.size + 1, 0, none⟩ = some (.int .u32 (want : Nat)) ∧ Z.cell? ⟨w.heap.size + 2, 0, none⟩ = some (.slice (some ⟨g, 0, none⟩) len len) ∧ Z.cell? (adn.add m) = some (.slice Ar fl cr)) := Lib.hid fun Z hZ =>
      ⟨(hZ.cell (p := ⟨Bx, 0, none⟩) hlX).trans x0, (hZ.cell (p := ⟨Bx, 1, none⟩) hlX).trans x1, (hZ.cell (p := ⟨Bx, 2, none⟩) hlX).trans x2, (hZ.cell (p := ⟨Bx, 3, none⟩) hlX).trans x3,
        (hZ.cell (p := ⟨w.heap.size, 0, none⟩) hl1).trans c1, (hZ.cell (p := ⟨w.heap.size + 1, 0, none⟩) hl2).trans c2, (hZ.cell (p := ⟨w.heap.size + 2, 0, none⟩) hl5).trans c5, (hZ.cell hblW).trans hcn⟩
    clear hcl hpm hbk hfl hF1 hsp hdn hrdn hcode i7
    gi_wp2
    have hS0 : Below W.heap.size W W.drew := (Below.refl _ W).drew
    refine region_round_held (fun Z => Below W.heap.size W Z) (by kernel_rfl) (by kernel_rfl) (by rintro ⟨a, w, h⟩; exact h) ?_
    refine wpAnyH_take (i := 0) (v := ?_) rfl (by kernel_rfl) (by kernel_rfl) (by kernel_rfl) (fun _ _ _ h => h) (Or.inl ⟨by rfl, ?_⟩) hS0 ?_
    rotate_left
    · intro Z hS
      obtain ⟨y0, y1, y2, y3, y4, y5, y6, y7⟩ := HCELLS.out Z hS
      go_simp
      try with_reducible rfl
    simp only [Act.put, List.setIfInBounds_toArray, List.set_cons_zero, List.set_cons_succ]
    refine wpAnyH_take (i := 1) (v := ?_) rfl (by kernel_rfl) (by kernel_rfl) (by kernel_rfl) (fun _ _ _ h => h) (Or.inl ⟨by rfl, ?_⟩) hS0 ?_
    rotate_left
    · intro Z hS
      obtain ⟨y0, y1, y2, y3, y4, y5, y6, y7⟩ := HCELLS.out Z hS
      go_simp
      try with_reducible rfl
    simp only [Act.put, List.setIfInBounds_toArray, List.set_cons_zero, List.set_cons_succ]
    refine wpAnyH_take (i := 2) (v := ?_) rfl (by kernel_rfl) (by kernel_rfl) (by kernel_rfl) (fun _ _ _ h => h) (Or.inl ⟨by rfl, ?_⟩) hS0 ?_
    rotate_left
    · intro Z hS
      obtain ⟨y0, y1, y2, y3, y4, y5, y6, y7⟩ := HCELLS.out Z hS
      go_simp
      try with_reducible rfl
    simp only [Act.put, List.setIfInBounds_toArray, List.set_cons_zero, List.set_cons_succ]
    refine wpAnyH_take (i := 3) (v := ?_) rfl (by kernel_rfl) (by kernel_rfl) (by kernel_rfl) (fun _ _ _ h => h) (Or.inl ⟨by rfl, ?_⟩) hS0 ?_
    rotate_left
    · intro Z hS
      obtain ⟨y0, y1, y2, y3, y4, y5, y6, y7⟩ := HCELLS.out Z hS
      go_simp
      try with_reducible rfl
    simp only [Act.put, List.setIfInBounds_toArray, List.set_cons_zero, List.set_cons_succ]
    refine wpAnyH_take (i := 4) (v := ?_) rfl (by kernel_rfl) (by kernel_rfl) (by kernel_rfl) (fun _ _ _ h => h) (Or.inl ⟨by rfl, ?_⟩) hS0 ?_
    rotate_left
    · intro Z hS
      obtain ⟨y0, y1, y2, y3, y4, y5, y6, y7⟩ := HCELLS.out Z hS
      go_simp
      try with_reducible rfl
    simp only [Act.put, List.setIfInBounds_toArray, List.set_cons_zero, List.set_cons_succ]
    refine wpAnyH_take (i := 5) (v := ?_) rfl (by kernel_rfl) (by kernel_rfl) (by kernel_rfl) (fun _ _ _ h => h) (Or.inl ⟨by rfl, ?_⟩) hS0 ?_
    rotate_left
    · intro Z hS
      obtain ⟨y0, y1, y2, y3, y4, y5, y6, y7⟩ := HCELLS.out Z hS
      go_simp
      try with_reducible rfl
    simp only [Act.put, List.setIfInBounds_toArray, List.set_cons_zero, List.set_cons_succ]
    refine wpAnyH_take (i := 6) (v := ?_) rfl (by kernel_rfl) (by kernel_rfl) (by kernel_rfl) (fun _ _ _ h => h) (Or.inl ⟨by rfl, ?_⟩) hS0 ?_
    rotate_left
    · intro Z hS
      obtain ⟨y0, y1, y2, y3, y4, y5, y6, y7⟩ := HCELLS.out Z hS
      go_simp
      try with_reducible rfl
    simp only [Act.put, List.setIfInBounds_toArray, List.set_cons_zero, List.set_cons_succ]
    obtain ⟨LB, hLB⟩ : ∃ LB, lbW ⟨code, te, th, el⟩ F1 want = LB := ⟨_, rfl⟩
    rw [hLB] at HLB
    have HLBE := Lib.hid hLB
    clear hLB
    refine wpAnyH_ready (rs := [7, 8]) (by kernel_rfl) (by simp) (AllReadyH.cons rfl (fun K hK => ?_) (AllReadyH.cons rfl (fun K hK => ?_) AllReadyH.nil))
    focus
      go_simp
      refine (HLB.out _ hS0).mono ?_
      rintro e w5 ⟨rfl, hb5⟩
      have hS5 : Below W.heap.size W w5 := hS0.trans hb5
      refine hK.out _ _ hS5 (fun _ => ?_)
      clear hK K
      refine wpAnyH_ready (rs := [8]) (by kernel_rfl) (by simp) (AllReadyH.cons rfl (fun K hK => ?_) AllReadyH.nil)
      go_simp
      refine hK.out _ _ (hS5.alloc hS5.size _) (fun _ => ?_)
      clear hK K
      refine wpAnyH_ready (rs := [9]) (by kernel_rfl) (by simp) (AllReadyH.cons rfl (fun K hK => ?_) AllReadyH.nil)
      go_simp
      refine hK.out _ _ (hS5.alloc hS5.size _) (fun _ => ?_)
      clear hK K
      refine wpAnyH_done (by kernel_rfl) ?_ _
      have hB5 : Below W.heap.size W (w5.alloc (Obj.cells #[Value.int IntKind.u32 ↑LB] 23)) := hS5.alloc hS5.size _
      have hO5 : Own (w5.alloc (Obj.cells #[Value.int IntKind.u32 ↑LB] 23)) w5.heap.size 23 [.int .u32 (LB : Nat)] := Own.new _ _ _
      have hBL : W.heap.size ≤ w5.heap.size := hS5.size
      obtain ⟨W5, hW5⟩ : ∃ W5, w5.alloc (Obj.cells #[Value.int IntKind.u32 ↑LB] 23) = W5 := ⟨_, rfl⟩
      rw [hW5] at hB5 hO5 ⊢
      clear hW5 hS5 hb5
      obtain ⟨BL, hBLe⟩ : ∃ BL, w5.heap.size = BL := ⟨_, rfl⟩
      rw [hBLe] at hO5 hBL ⊢
      clear hBLe
    rotate_left
    focus
      go_simp
      refine hK.out _ _ (hS0.alloc (Nat.le_refl _) _) (fun hS1 => ?_)
      clear hK K
      refine wpAnyH_ready (rs := [7]) (by kernel_rfl) (by simp) (AllReadyH.cons rfl (fun K hK => ?_) AllReadyH.nil)
      go_simp
      refine (HLB.out _ hS1).mono ?_
      rintro e w5 ⟨rfl, hb5⟩
      have hS5 : Below W.heap.size W w5 := hS1.trans (hb5.mono (by simp))
      have hq5 : Own w5 W.heap.size 23 [.int .u32 0] := (Own.new W.drew 23 [.int .u32 0]).below hb5 (by simp)
      have hc5 := hq5.cell (j := 0) rfl
      have hf5 := hq5.frozen 0
      refine hK.out _ _ hS5 (fun _ => ?_)
      clear hK K
      refine wpAnyH_ready (rs := [9]) (by kernel_rfl) (by simp) (AllReadyH.cons rfl (fun K hK => ?_) AllReadyH.nil)
      go_simp
      refine hK.out _ _ (hS5.setCell (p := ⟨W.heap.size, 0, none⟩) (Nat.le_refl _) _) (fun _ => ?_)
      clear hK K
      refine wpAnyH_done (by kernel_rfl) ?_ _
      have hB5 : Below W.heap.size W (w5.setCell ⟨W.heap.size, 0, none⟩ (Value.int IntKind.u32 ↑LB)) := hS5.setCell (p := ⟨W.heap.size, 0, none⟩) (Nat.le_refl _) _
      have hO5 : Own (w5.setCell ⟨W.heap.size, 0, none⟩ (Value.int IntKind.u32 ↑LB)) W.heap.size 23 [.int .u32 (LB : Nat)] := hq5.set 0 _
      have hBL : W.heap.size ≤ W.heap.size := Nat.le_refl _
      obtain ⟨W5, hW5⟩ : ∃ W5, w5.setCell ⟨W.heap.size, 0, none⟩ (Value.int IntKind.u32 ↑LB) = W5 := ⟨_, rfl⟩
      rw [hW5] at hB5 hO5 ⊢
      clear hW5 hS5 hb5 hq5 hc5 hf5 hS1
      obtain ⟨BL, hBLe⟩ : ∃ BL, BL = W.heap.size := ⟨_, rfl⟩
      rw [show (Value.pointer (some ⟨W.heap.size, 0, none⟩)) = Value.pointer (some ⟨BL, 0, none⟩) by rw [hBLe]]
      rw [← hBLe] at hO5
      replace hBL : W.heap.size ≤ BL := by omega
      clear hBLe
    all_goals
      have hB5s := hB5.size
      have hOlt := hO5.lt
      obtain ⟨y0, y1, y2, y3, y4, y5, y6, y7⟩ := HCELLS.out W5 hB5
      have h12 : 1 ≤ 7 - 1 - 1 := by omega
      have hko5 := keeps_below hB5
      gi_wp2_with (refine ⟨trivial, ?_⟩; gi_at_call 81; refine (CallsIn.inRound lb (backS_in Fence.wide _ trivial hro _ _ _ _)).mono ?_; rintro e w' ⟨rfl, rfl⟩)
      have hN := Own.new W5 49 [.slice Ac cl cc]
      have hr5 : (W5.alloc (.cells #[.slice Ac cl cc] 49)).heap[lb]? = some (.loop r) := (Below.heap_alloc W5 _ lb (Array.getElem?_eq_some_iff.1 (hko5.same _ _ hr rfl)).1).trans (hko5.same _ _ hr rfl)
      have hB6 : Below W.heap.size W (W5.alloc (.cells #[.slice Ac cl cc] 49)) := hB5.alloc hB5s _
      have hO6 := hO5.alloc (.cells #[.slice Ac cl cc] 49)
      have hKF6 : KeepsFrom W0.heap.size W (W5.alloc (.cells #[.slice Ac cl cc] 49)) := (hko5.trans (KeepsOthers.alloc _ _)).from _
      refine wpIn_rangeFunc_ownN (l₀ := lb) (r₀ := r) rfl hr5 h12 (gf := 102) (lb := #[.pointer (some ⟨W5.heap.size, 0, none⟩)]) rfl trivial (enters_of Try.func102 (by kernel_rfl) rfl)
        ((backS_stops Fence.wide _ trivial hro (by omega) W5.heap.size W.heap.size cl cc Ac code HCL.out (by omega) _ (by simp) (by simp; omega) (hN.cell (j := 0) rfl) (((HCODE.out.below HI3.out (Nat.le_refl _)).more hgW).below hB6 (Nat.le_refl _))).inRound lb) KpB.t (KpB.b (by simp; omega) (by simp)) (Below.refl _ _) (fun _ => rfl)
        (fun pre' W' => (Own W' BL 23 [.int .u32 (codF code pre' LB : Nat)] ∧ (Below W.heap.size W W' ∧ KeepsFrom W0.heap.size W W')) ∧ W5.heap.size < W'.heap.size)
        (fun _ _ _ => False)
        (OwnFrom.and (OwnFrom.and (_root_.Go.Own.from (fun s X Y row hs hg hr => hs.kept hg hr) _) (OwnFrom.and (ownFrom_below (Nat.le_refl _) (by simp; omega)) (ownFrom_keepsFrom (by simp; omega)))) (fun _ _ _ _ h hg _ => Nat.lt_of_lt_of_le h hg.size))
        (fun _ _ _ _ _ hs _ _ => hs)
        ⟨⟨hO6, hB6, hKF6⟩, by simp⟩
        (fun x a' W' => ∃ Bs, W5.heap.size < Bs ∧ Own W' Bs 87 [.int .i64 code[x.1].op, .int .i64 code[x.1].to, .int .i64 code[x.1].a, .int .i64 code[x.1].b, .int .i64 code[x.1].v] ∧
          a' = { tmps := #[.slice A len cap, .slice (some adn) len capN, .int .u32 (want : Nat), .slice (some ⟨g, 0, none⟩) len len, undef, .pointer (some ⟨w.heap.size, 0, none⟩), .pointer (some ⟨w.heap.size + 1, 0, none⟩), .pointer (some ⟨w.heap.size + 1 + 1, 0, none⟩), .bool false, .pointer (some ⟨w.heap.size + 1 + 1 + 1, 0, none⟩), .int .i64 (m : Int), .pointer (some ⟨Bx, 0, none⟩), .pointer (some ⟨BL, 0, none⟩), undef, .pointer (some ⟨Bs, 0, none⟩), .slice A len cap, .func (.func 119) #[] #[.pointer (some ⟨w.heap.size + 1 + 1 + 1 + 1, 0, none⟩)], .int .i64 (m : Int), .agg #[.slice Ac cl cc, .int .i64 te, .int .i64 th, .int .i64 el], .agg #[.slice Ac cl cc, .int .i64 te, .int .i64 th, .int .i64 el], .slice (some adn) len capN, .int .i64 (m : Int), .pointer (some (adn.add m)), .slice Ar fl cr, .int .u32 (want : Nat), .slice (some ⟨g, 0, none⟩) len len, .int .u32 (LB : Nat), .pointer (some ⟨Bx, 0, none⟩), .slice Ac cl cc, .func (.func 102) #[] #[.pointer (some ⟨W5.heap.size, 0, none⟩)], .int .i64 (x.1 : Int), .agg #[.int .i64 code[x.1].op, .int .i64 code[x.1].to, .int .i64 code[x.1].a, .int .i64 code[x.1].b, .int .i64 code[x.1].v], undef, undef, undef, undef, undef, undef, undef, undef, undef, undef, undef, undef, undef, undef], defers := [] })
        (fun x a' => _root_.Go.Own.from (fun s X Y row hs hg hr => by obtain ⟨Bs, h1, h2, h4⟩ := hs; exact ⟨Bs, h1, h2.kept hg hr, h4⟩) _)
        ?assign2 ?body2 ?done2 ?stop2
      case assign2 =>
        rintro l2 pre' x W' K ⟨⟨j1, j2, j3⟩, j4⟩ hK
        simp only [encS]
        have hs' := j2.size
        gi_wp2
        exact hK _ _ ((KeepsOthers.alloc _ _).from _) (KpB.alloc W' hs' j4 _) ⟨⟨j1.alloc _, j2.alloc hs' _, j3.trans ((KeepsOthers.alloc _ _).from _)⟩, by simp; omega⟩ ⟨W'.heap.size, j4, Own.new _ _ _, rfl⟩
      case body2 =>
        rintro l2 pre' ⟨k, hk2⟩ a'' W' _ _ ⟨⟨j1, j2, j3⟩, j4⟩ ⟨Bs, hBs, bS, rfl⟩ hlt2
        simp only at bS ⊢
        have hcs := (StOk.of HBK.out.code) code[k] (List.getElem_mem hk2)
        have hst := codF_snoc code pre' ⟨k, hk2⟩ LB
        have hLBn : LB < 2 ^ n := by rw [← HLBE.out]; exact lbW_lt HBK.out HSP.out.inv.lt hw
        have hXn := codF_lt (StOk.of HBK.out.code) pre' hLBn
        simp only at hst
        have HST := Lib.hid hst
        generalize code[k] = s at *
        obtain ⟨o, t, a, b, v⟩ := s
        simp only at hcs HST bS ⊢
        clear hst hlt2
        generalize codF code pre' LB = X at *
        have s0' := bS.cell (j := 0) rfl
        have s1' := bS.cell (j := 1) rfl
        have s2' := bS.cell (j := 2) rfl
        have s3' := bS.cell (j := 3) rfl
        have s4' := bS.cell (j := 4) rfl
        have l0' := j1.cell (j := 0) rfl
        have hj1 := j1.lt
        have h13 : 1 ≤ 7 - 1 - 1 - 1 := by omega
        have h14 : 1 ≤ 7 - 1 - 1 - 1 - 1 := by omega
        gi_wp2_with (refine ⟨trivial, ?_⟩; gi_at_call 82; refine (CallsIn.inRound l2 (CallsIn.inRound lb (callsIn_wide.2 (beforeStep_any n o t a b v X _ hcs hn6 hXn)))).mono ?_; rintro e w7 ⟨rfl, hb7⟩; have hj7 := j1.below hb7 hj1; have u0 := hj7.cell (j := 0) rfl; have u1 := hj7.frozen 0)
        have hne2 : BL ≠ W5.heap.size := by omega
        have hs' := j2.size
        have hs7 := hb7.size
        refine ⟨((keeps_below hb7).trans (KeepsOthers.setCell _ _ _)).from _, (kpB_below hb7 hs' j4).t (KpB.setCell _ (p := ⟨BL, 0, none⟩) hBL (by simp; omega) _), ⟨⟨by rw [HST.out]; exact hj7.set 0 _, (j2.trans (hb7.mono hs')).setCell (p := ⟨BL, 0, none⟩) hBL _, j3.trans (((keeps_below hb7).trans (KeepsOthers.setCell _ _ _)).from _)⟩, by simp; omega⟩⟩
      case done2 =>
        rintro ys' W' rfl ⟨⟨j1, j2, j3⟩, j4⟩
        rw [codF_all] at j1
        have HTR : Hid (codW code LB = trW ⟨code, te, th, el⟩ F1 want) := Lib.hid (by unfold trW; rw [HLBE.out])
        rw [HTR.out] at j1
        obtain ⟨X, hX⟩ : ∃ X, trW ⟨code, te, th, el⟩ F1 want = X := ⟨_, rfl⟩
        rw [hX] at j1
        have HX := Lib.hid hX
        obtain ⟨z0, z1, z2, z3, z5, z6, z7, z8⟩ := HCELLS.out W' j2
        have lx := j1.cell (j := 0) rfl
        obtain ⟨W1, hW1⟩ : ∃ W1, F1[m]? = some W1 := ⟨_, List.getElem?_eq_getElem (by rw [HF1.out]; exact hmlen)⟩
        have lg := (HI7.out.below j2 (by omega)).cell (uv_at hW1)
        have HW1 := Lib.hid hW1
        have hj2 := j2.size
        by_cases hXW : X = W1
        · have hne : ((X : Int) != (W1 : Int)) = false := by simp [hXW]
          have HXW := Lib.hid hXW
          clear hX hW1 hXW
          gi_wp2
          refine region_round_quiet (by kernel_rfl) (by kernel_rfl) (by rintro ⟨a, w, h⟩; exact h) (by kernel_rfl) ?_
          repeat (quiet_step (fail))
          refine wpQuiet_nil ?_
          intro Z hZ
          obtain ⟨nq, hZ⟩ := hZ
          subst hZ
          gi_wp2
          have hbq := below_drewL j2 nq
          exact ⟨j3.trans ((keeps_drewN W' nq).from _), kpB_below hbq hgW (by omega), ⟨i1.below hbq hl1, i2.below hbq hl2, i5.below hbq hl5, F1, ch, i6.below hbq i6.lt, HI7.out.below hbq (by omega), HSP.out.stay (fun i h => InF.snoc h) HPM.out HW1.out (HX.out.trans HXW.out)⟩, HI3.out.trans (hbq.mono hgW), Nat.le_trans i4 hbq.size⟩
        · have hne : ((X : Int) != (W1 : Int)) = true := by simp; omega
          have HXW := Lib.hid hXW
          clear hX hW1 hXW
          gi_wp2
          refine region_round_quiet (by kernel_rfl) (by kernel_rfl) (by rintro ⟨a, w, h⟩; exact h) (by kernel_rfl) ?_
          repeat (quiet_step (fail))
          refine wpQuiet_nil ?_
          intro Z hZ
          obtain ⟨nq, hZ⟩ := hZ
          subst hZ
          have hbq := below_drewL j2 nq
          have hkq := j3.trans ((keeps_drewN W' nq).from _)
          have hjq : Own (W'.drewN nq) BL 23 [.int .u32 (X : Nat)] := j1
          have hgq := HI7.out.below hbq (by omega)
          have q1 := hjq.cell (j := 0) rfl
          have q2 := (i5.below hbq hl5).cell (j := 0) rfl
          have q3 := hgq.cell (uv_at HW1.out)
          have q4 := hgq.frozen m
          have hq6 := i6.below hbq i6.lt
          have q5 := hq6.cell (j := 0) rfl
          have q6 := hq6.frozen 0
          have hsq := hbq.size
          generalize W'.drewN nq = Wq at *
          have HOW := Lib.hid (OwnU.set hgq m X)
          gi_wp2
          have hgo := HSP.out.go (D' := InF (pre ++ [⟨m, hm2⟩])) HC.out hw HPM.out HW1.out (by rw [HX.out]; exact HXW.out)
          rw [HX.out] at hgo
          have hbf : Below g W ((Wq.setCell ⟨g, m, none⟩ (.int .u32 (X : Nat))).setCell ⟨w.heap.size + 1 + 1 + 1, 0, none⟩ (.bool true)) := ((hbq.mono hgW).setCell (p := ⟨g, m, none⟩) (Nat.le_refl _) _).setCell (p := ⟨w.heap.size + 1 + 1 + 1, 0, none⟩) (by simp; omega) _
          have hBs : ((Wq.setCell ⟨g, m, none⟩ (.int .u32 (X : Nat))).setCell ⟨w.heap.size + 1 + 1 + 1, 0, none⟩ (.bool true)).heap[w.heap.size + 1 + 1 + 1 + 1]? = W.heap[w.heap.size + 1 + 1 + 1 + 1]? :=
            (Below.heap_setCell _ _ _ _ (by simp)).trans ((Below.heap_setCell _ _ _ _ (by simp; omega)).trans (hbq.block _ (by omega)))
          exact ⟨hkq.trans (((KeepsOthers.setCell _ _ _).trans (KeepsOthers.setCell _ _ _)).from _), ⟨hbf, hBs⟩, ⟨((i1.below hbq hl1).far (by simp; omega) _).far (by simp; omega) _, ((i2.below hbq hl2).far (by simp; omega) _).far (by simp) _, ((i5.below hbq hl5).far (by simp; omega) _).far (by simp) _, F1.set m X, true, (hq6.far (by simp; omega) _).set 0 _, HOW.out.far (by simp; omega) _, hgo⟩, HI3.out.trans hbf, Nat.le_trans i4 (Nat.le_trans hsq (by simp))⟩
      case stop2 =>
        rintro c pre' W' _ h
        exact h.elim
  case done =>
    rintro D ys W hD rfl ⟨⟨i1, i2, i5, F1, ch, i6, i7, hsp⟩, i3, i4⟩ hK
    have hcS := i6.cell (j := 0) rfl
    have HSP := Lib.hid hsp
    have HK := Lib.hid hK
    have HI7 := Lib.hid i7
    clear hsp hK i7
    gi_wp2
    refine ⟨by simp, .inl ⟨_, _, rfl, run_takeDeferred HK.out, ?_⟩⟩
    have hne : g ≠ D := by omega
    exact ⟨_, results_tmp rfl _ _ _, ch, F1, rfl, (World.putObj_heap_other hne).trans HI7.out, HSP.out.to fun i hi => ⟨⟨i, by rw [HQL.out]; exact hi⟩, bks_mem (by simp), rfl⟩, i3.trans (belowK_b (w := w) (Nat.le_of_lt hgl) W D _ _ (by omega) HK.out rfl rfl)⟩
  case stop =>
    rintro D c pre W _ _ h _
    exact h.elim

set_option maxHeartbeats 8000000 in
theorem liveBefore_any (n want : Nat) (A AN : Option Addr) (len cap capN : Nat) (p : List Bk) (w : World) (hx : RdP w w.heap.size A p) (hN : RdG w w.heap.size AN (nxP p)) (hl : p.length = len) (hc : ckProg n p = 0) (hw : want < 2 ^ n) :
    Calls Try.prog 47 #[.slice A len cap, .slice AN len capN, .int .u32 (want : Nat)] w fun e w' => ∃ F, e = .returned (.slice (some ⟨w.heap.size, 0, none⟩) len len) ∧ Own w' w.heap.size 23 (uv F) ∧ FlX n p want F ∧ Below w.heap.size w w' := by
  obtain ⟨b1, b2, b3, b4, b5, b6⟩ := ckProg_bd hc
  clear b6
  have HL := Lib.hid hl
  have HC := Lib.hid hc
  obtain ⟨qs, hq1, hq2, hq3⟩ := rdP_raw hx
  have HI0 := Lib.hid (FlI.start n p want)
  have HSP := Lib.hid (fun (F : List Nat) (w2 : World) (hb : Below w.heap.size w w2) (h1 : Own w2 w.heap.size 23 (uv F)) (h2 : FlI n p want F) => spreadLive_any n want A AN len cap capN w.heap.size p qs F w2 hq1 (RdR.below hq2 hb (Nat.le_refl _)) (hq3.below hb (Nat.le_refl _)) (hN.below hb (Nat.le_refl _)) hl hc hw h1 h2)
  have HDN : Hid (∀ s0 F, Spd n p want s0 F false (fun i => i < len) → FlX n p want F) := Lib.hid fun s0 F h => h.done hc fun i hi => by rw [← hl]; exact hi
  have HSM : Hid (∀ F, FlI n p want F → F.sum ≤ 512) := Lib.hid fun F h => h.sum_le hc
  rw [hl] at b3 b4 HI0
  have hmk := make_words (P := Try.prog) 24 23 Try.underlying24 (by kernel_rfl) len (by omega)
  have hown0 := Own.new w 23 (uv (List.replicate len 0))
  have hb0 : Below w.heap.size w (w.alloc (.cells (uv (List.replicate len 0)).toArray 23)) := by go_grown
  clear hx hl hc hN hq1 hq2 hq3
  go_enter Try.func47, Try.ntmps47
  go_wp2_with fail
  go_loopw [] (fun wr => ∃ (F : List Nat), FlI n p want F ∧ Own wr w.heap.size 23 (uv F) ∧ Below w.heap.size w wr) (fun wr => 513 - cellSum wr w.heap.size)
  case atStart => exact ⟨_, HI0.out, hown0, hb0⟩
  case round =>
    obtain ⟨F, hF, hown, hb⟩ := hrel
    have HF := Lib.hid hF
    have HCS := Lib.hid (cellSum_own hown)
    have HCALL := Lib.hid (HSP.out F wr hb hown hF)
    clear hF hown
    go_wp2_with fail
    refine HCALL.out.mono ?_
    rintro e w8 ⟨ch, F3, rfl, hown8, hsp8, hb8⟩
    have HSP8 := Lib.hid hsp8
    have hb9 := hb.trans hb8
    clear hsp8
    cases ch with
    | true =>
      have hlt := HSP8.out.more rfl
      have hle := HSM.out F3 HSP8.out.inv
      have HLT := Lib.hid (show 513 - F3.sum < 513 - F.sum by omega)
      clear hlt hle
      go_wp2
      go_round
      case rel => exact ⟨F3, HSP8.out.inv, hown8, hb9⟩
      case measure => rw [cellSum_own hown8, HCS.out]; exact HLT.out
    | false =>
      have HX := Lib.hid (HDN.out _ _ HSP8.out)
      go_wp2
      go_ret
      exact ⟨F3, rfl, hown8, HX.out, hb9⟩

end Go.Proofs.Ytfhnhbkdhdocjaa
