/-
  slices.Backward over steps and over blocks: its closure hands over (len - 1, last), .., (0, first), whatever the loop's body does that keeps what lay below.
-/
import Derived.Test.YtfhnhbkdhdocjaaBack
import Derived.Test.YtfhnhbkdhdocjaaLiveRaw
namespace Go.Proofs.Ytfhnhbkdhdocjaa
open Go.RowKit Go.Shelf
set_option linter.unusedSimpArgs false
set_option linter.unusedVariables false
set_option maxRecDepth 100000
attribute [local go_sem] Oper.semAt_some

/-- what the closure hands to the body: the number of a step, and the step -/
def encS (l : List St) (x : Fin l.length) : Array Value := #[.int .i64 (x.1 : Int), .agg #[.int .i64 l[x.1].op, .int .i64 l[x.1].to, .int .i64 l[x.1].a, .int .i64 l[x.1].b, .int .i64 l[x.1].v]]

/-- .. the number of a block, and the block -/
def encB (l : List (Bk × Option Addr × Nat)) (x : Fin l.length) : Array Value := #[.int .i64 (x.1 : Int), .agg #[.slice l[x.1].2.1 l[x.1].1.code.length l[x.1].2.2, .int .i64 l[x.1].1.test, .int .i64 l[x.1].1.th, .int .i64 l[x.1].1.el]]

set_option maxHeartbeats 2000000 in
theorem backS1_in (F : Fence) (n : Nat) (h7 : F.fn 102) (hro : F.round = none) (hn : 1 ≤ n) (l Bs n₀ len cap : Nat) (A : Option Addr) (ts : List St) (hl : ts.length = len) (hm : len * 40 ≤ 140737488351232) (J Jx : List (Fin ts.length) → World → Prop)
    (hY : ∀ pre x W, J pre W → pre.length < ts.length → YieldAt F (n - 1) Try.prog l (encS ts x) W fun e W' =>
      (e = .returned (.bool true) ∧ J (pre ++ [x]) W' ∧ KpB n₀ Bs W W') ∨ (e = .returned (.bool false) ∧ Jx (pre ++ [x]) W'))
    (W : World) (hBs : W.cell? ⟨Bs, 0, none⟩ = some (.slice A len cap)) (hc : RdS W n₀ A ts) (h0 : J [] W) :
    CallsIn F n Try.prog 102 #[.func (.yield l) #[] #[], .pointer (some ⟨Bs, 0, none⟩)] W fun e W' => (∃ v, e = .returned v) ∧
      ((∃ ys, ys = bks ts.length ts.length ∧ J ys W') ∨ (∃ pre, (∃ k, k ≤ ts.length ∧ pre = bks ts.length k) ∧ Jx pre W')) := by
  have HL := Lib.hid hl
  clear hl
  refine callsIn_of_wp Try.func102 rfl h7 ?_ hro
  simp only [Try.ntmps102, List.size_toArray, List.length_cons, List.length_nil, Nat.reduceAdd, Nat.reduceSub, Array.replicate_succ, Array.replicate_zero, List.push_toArray, List.append_toArray, List.nil_append, List.cons_append]
  gi_wp2
  gi_loopw [3] (fun i wr => ∃ (k : Nat) (z : Int), k ≤ len ∧ i = .int .i64 z ∧ z = (len : Int) - 1 - k ∧ J (bks ts.length k) wr ∧ KpB n₀ Bs W wr)
    (fun i _ => (intOf i + 1).toNat)
  case atStart => exact ⟨0, _, Nat.zero_le _, rfl, by omega, h0, KpB.refl _ _ _⟩
  case round =>
    obtain ⟨k, z, hk, rfl, hz, hJs, hnx⟩ := hrel
    have hbx : wr.cell? ⟨Bs, 0, none⟩ = some (.slice A len cap) := (World.cell?_of_block hnx.2).trans hBs
    by_cases hlt : k < len
    · obtain ⟨m, rfl⟩ : ∃ m : Nat, z = (m : Int) := ⟨len - 1 - k, by omega⟩
      have hmk : m < ts.length := by rw [HL.out]; omega
      obtain ⟨ad, o, t, a, b, v, rfl, hbl, hd, hc0, hc1, hc2, hc3, hc4⟩ := (hc.below hnx.1 (Nat.le_refl _)).at_ (k := m) hmk
      have hget : ts[m] = ⟨o, t, a, b, v⟩ := (List.getElem?_eq_some_iff.1 hd).2
      obtain ⟨fn, tmps, assign, body, hy, hR⟩ := hY _ ⟨m, hmk⟩ wr hJs (by rw [bks_len (by rw [HL.out]; omega), HL.out]; exact hlt)
      simp only [encS, hget] at hy
      have HZ := Lib.hid hz
      have HD := Lib.hid hd
      clear hz hd hget
      have hmlen : m < len := by have := HZ.out; omega
      gi_wp2
      refine hR.mono ?_
      rintro e W3 (⟨rfl, hJ3, hk3⟩ | ⟨rfl, hJx3⟩)
      · gi_wp2
        have hidx : (⟨m, hmk⟩ : Fin ts.length) = ⟨ts.length - 1 - k, by omega⟩ := by
          apply Fin.ext
          show m = ts.length - 1 - k
          have := HZ.out; have := HL.out; omega
        rw [hidx, ← bks_succ (by rw [HL.out]; exact hlt)] at hJ3
        go_roundw
        case rel => exact ⟨k + 1, _, by omega, rfl, by have := HZ.out; omega, hJ3, hnx.t hk3⟩
        case measure => simp [intOf]
      · gi_wp2
        have hidx : (⟨m, hmk⟩ : Fin ts.length) = ⟨ts.length - 1 - k, by omega⟩ := by
          apply Fin.ext
          show m = ts.length - 1 - k
          have := HZ.out; have := HL.out; omega
        rw [hidx, ← bks_succ (by rw [HL.out]; exact hlt)] at hJx3
        refine bodyPost_ret (results_none rfl _ _ _) rfl ?_
        exact ⟨⟨_, rfl⟩, .inr ⟨_, ⟨k + 1, by rw [HL.out]; omega, rfl⟩, hJx3⟩⟩
    · have hz0 : z < 0 := by omega
      have HZ := Lib.hid hz
      clear hz
      gi_wp2
      go_end0
      have : k = ts.length := by rw [HL.out]; omega
      subst this
      exact ⟨⟨_, rfl⟩, .inl ⟨_, rfl, hJs⟩⟩

set_option maxHeartbeats 1000000 in
theorem backS_in (F : Fence) (n : Nat) (h5 : F.fn 81) (hro : F.round = none) (A : Option Addr) (len cap : Nat) (w : World) :
    CallsIn F n Try.prog 81 #[.slice A len cap] w fun e w' => e = .returned (.func (.func 102) #[] #[.pointer (some ⟨w.heap.size, 0, none⟩)]) ∧ w' = w.alloc (.cells #[.slice A len cap] 49) := by
  refine callsIn_of_wp Try.func81 rfl h5 ?_ hro
  simp only [Try.ntmps81, List.size_toArray, List.length_cons, List.length_nil, Nat.reduceAdd, Nat.reduceSub, Array.replicate_succ, Array.replicate_zero, List.push_toArray, List.append_toArray, List.nil_append, List.cons_append]
  gi_wp2
  go_ret
  exact ⟨rfl, rfl⟩

theorem backS_stops (F : Fence) (n : Nat) (h8 : F.fn 102) (hro : F.round = none) (hn : 1 ≤ n) (Bs n₀ len cap : Nat) (A : Option Addr) (ts : List St) (hl : ts.length = len) (hm : len * 40 ≤ 140737488351232) (w : World) (hBn : Bs < w.heap.size) (hn₀ : n₀ ≤ w.heap.size)
    (hc : w.cell? ⟨Bs, 0, none⟩ = some (.slice A len cap)) (hx : RdS w n₀ A ts) :
    SeqStopsK F n Try.prog 102 #[.pointer (some ⟨Bs, 0, none⟩)] (encS ts) (KpB n₀ Bs) (fun ys => ys = bks ts.length ts.length)
      (fun pre => ∃ k, k ≤ ts.length ∧ pre = bks ts.length k) ts.length w := fun l J Jx W hW _ _ hY h0 =>
  backS1_in F n h8 hro hn l Bs n₀ len cap A ts hl hm J Jx hY W ((hW.cell (p := ⟨Bs, 0, none⟩) hBn).trans hc) (hx.below (hW.mono hn₀) (Nat.le_refl _)) h0

set_option maxHeartbeats 2000000 in
theorem backB1_in (F : Fence) (n : Nat) (h7 : F.fn 119) (hro : F.round = none) (hn : 1 ≤ n) (l Bs n₀ len cap : Nat) (A : Option Addr) (ts : List (Bk × Option Addr × Nat)) (hl : ts.length = len) (hm : len * 48 ≤ 140737488351232) (J Jx : List (Fin ts.length) → World → Prop)
    (hY : ∀ pre x W, J pre W → pre.length < ts.length → YieldAt F (n - 1) Try.prog l (encB ts x) W fun e W' =>
      (e = .returned (.bool true) ∧ J (pre ++ [x]) W' ∧ KpB n₀ Bs W W') ∨ (e = .returned (.bool false) ∧ Jx (pre ++ [x]) W'))
    (W : World) (hBs : W.cell? ⟨Bs, 0, none⟩ = some (.slice A len cap)) (hc : RdR cBk W n₀ A 4 ts) (h0 : J [] W) :
    CallsIn F n Try.prog 119 #[.func (.yield l) #[] #[], .pointer (some ⟨Bs, 0, none⟩)] W fun e W' => (∃ v, e = .returned v) ∧
      ((∃ ys, ys = bks ts.length ts.length ∧ J ys W') ∨ (∃ pre, (∃ k, k ≤ ts.length ∧ pre = bks ts.length k) ∧ Jx pre W')) := by
  have HL := Lib.hid hl
  clear hl
  refine callsIn_of_wp Try.func119 rfl h7 ?_ hro
  simp only [Try.ntmps119, List.size_toArray, List.length_cons, List.length_nil, Nat.reduceAdd, Nat.reduceSub, Array.replicate_succ, Array.replicate_zero, List.push_toArray, List.append_toArray, List.nil_append, List.cons_append]
  gi_wp2
  gi_loopw [3] (fun i wr => ∃ (k : Nat) (z : Int), k ≤ len ∧ i = .int .i64 z ∧ z = (len : Int) - 1 - k ∧ J (bks ts.length k) wr ∧ KpB n₀ Bs W wr)
    (fun i _ => (intOf i + 1).toNat)
  case atStart => exact ⟨0, _, Nat.zero_le _, rfl, by omega, h0, KpB.refl _ _ _⟩
  case round =>
    obtain ⟨k, z, hk, rfl, hz, hJs, hnx⟩ := hrel
    have hbx : wr.cell? ⟨Bs, 0, none⟩ = some (.slice A len cap) := (World.cell?_of_block hnx.2).trans hBs
    by_cases hlt : k < len
    · obtain ⟨m, rfl⟩ : ∃ m : Nat, z = (m : Int) := ⟨len - 1 - k, by omega⟩
      have hmk : m < ts.length := by rw [HL.out]; omega
      obtain ⟨ad, q, rfl, hbl, hd, hcell⟩ := RdR.cell cBk_len (by omega) (RdR.below hc hnx.1 (Nat.le_refl _)) (k := m) hmk
      have hget : ts[m] = q := (List.getElem?_eq_some_iff.1 hd).2
      obtain ⟨⟨code, te, th, el⟩, Ac, cc⟩ := q
      have hc0 := hcell 0 _ rfl
      have hc1 := hcell 1 _ rfl
      have hc2 := hcell 2 _ rfl
      have hc3 := hcell 3 _ rfl
      rw [addr_add_add, Nat.add_zero] at hc0
      simp only [] at hc0 hc1 hc2 hc3
      obtain ⟨fn, tmps, assign, body, hy, hR⟩ := hY _ ⟨m, hmk⟩ wr hJs (by rw [bks_len (by rw [HL.out]; omega), HL.out]; exact hlt)
      simp only [encB, hget] at hy
      obtain ⟨cl, hcl⟩ : ∃ cl, code.length = cl := ⟨_, rfl⟩
      rw [hcl] at hy hc0
      have HZ := Lib.hid hz
      have HD := Lib.hid hd
      clear hz hd hget hcell hcl
      have hmlen : m < len := by have := HZ.out; omega
      have hc1' : wr.cell? ⟨(ad.add (m * 4)).block, (ad.add (m * 4)).off + 1, none⟩ = some (.int .i64 te) := hc1
      have hc2' : wr.cell? ⟨(ad.add (m * 4)).block, (ad.add (m * 4)).off + 2, none⟩ = some (.int .i64 th) := hc2
      have hc3' : wr.cell? ⟨(ad.add (m * 4)).block, (ad.add (m * 4)).off + 3, none⟩ = some (.int .i64 el) := hc3
      clear hc1 hc2 hc3
      gi_wp2
      refine hR.mono ?_
      rintro e W3 (⟨rfl, hJ3, hk3⟩ | ⟨rfl, hJx3⟩)
      · gi_wp2
        have hidx : (⟨m, hmk⟩ : Fin ts.length) = ⟨ts.length - 1 - k, by omega⟩ := by
          apply Fin.ext
          show m = ts.length - 1 - k
          have := HZ.out; have := HL.out; omega
        rw [hidx, ← bks_succ (by rw [HL.out]; exact hlt)] at hJ3
        go_roundw
        case rel => exact ⟨k + 1, _, by omega, rfl, by have := HZ.out; omega, hJ3, hnx.t hk3⟩
        case measure => simp [intOf]
      · gi_wp2
        have hidx : (⟨m, hmk⟩ : Fin ts.length) = ⟨ts.length - 1 - k, by omega⟩ := by
          apply Fin.ext
          show m = ts.length - 1 - k
          have := HZ.out; have := HL.out; omega
        rw [hidx, ← bks_succ (by rw [HL.out]; exact hlt)] at hJx3
        refine bodyPost_ret (results_none rfl _ _ _) rfl ?_
        exact ⟨⟨_, rfl⟩, .inr ⟨_, ⟨k + 1, by rw [HL.out]; omega, rfl⟩, hJx3⟩⟩
    · have hz0 : z < 0 := by omega
      have HZ := Lib.hid hz
      clear hz
      gi_wp2
      go_end0
      have : k = ts.length := by rw [HL.out]; omega
      subst this
      exact ⟨⟨_, rfl⟩, .inl ⟨_, rfl, hJs⟩⟩

set_option maxHeartbeats 1000000 in
theorem backB_in (F : Fence) (n : Nat) (h5 : F.fn 101) (hro : F.round = none) (A : Option Addr) (len cap : Nat) (w : World) :
    CallsIn F n Try.prog 101 #[.slice A len cap] w fun e w' => e = .returned (.func (.func 119) #[] #[.pointer (some ⟨w.heap.size, 0, none⟩)]) ∧ w' = w.alloc (.cells #[.slice A len cap] 22) := by
  refine callsIn_of_wp Try.func101 rfl h5 ?_ hro
  simp only [Try.ntmps101, List.size_toArray, List.length_cons, List.length_nil, Nat.reduceAdd, Nat.reduceSub, Array.replicate_succ, Array.replicate_zero, List.push_toArray, List.append_toArray, List.nil_append, List.cons_append]
  gi_wp2
  go_ret
  exact ⟨rfl, rfl⟩

theorem backB_stops (F : Fence) (n : Nat) (h8 : F.fn 119) (hro : F.round = none) (hn : 1 ≤ n) (Bs n₀ len cap : Nat) (A : Option Addr) (ts : List (Bk × Option Addr × Nat)) (hl : ts.length = len) (hm : len * 48 ≤ 140737488351232) (w : World) (hBn : Bs < w.heap.size) (hn₀ : n₀ ≤ w.heap.size)
    (hc : w.cell? ⟨Bs, 0, none⟩ = some (.slice A len cap)) (hx : RdR cBk w n₀ A 4 ts) :
    SeqStopsK F n Try.prog 119 #[.pointer (some ⟨Bs, 0, none⟩)] (encB ts) (KpB n₀ Bs) (fun ys => ys = bks ts.length ts.length)
      (fun pre => ∃ k, k ≤ ts.length ∧ pre = bks ts.length k) ts.length w := fun l J Jx W hW _ _ hY h0 =>
  backB1_in F n h8 hro hn l Bs n₀ len cap A ts hl hm J Jx hY W ((hW.cell (p := ⟨Bs, 0, none⟩) hBn).trans hc) (RdR.below hx (hW.mono hn₀) (Nat.le_refl _)) h0

end Go.Proofs.Ytfhnhbkdhdocjaa
