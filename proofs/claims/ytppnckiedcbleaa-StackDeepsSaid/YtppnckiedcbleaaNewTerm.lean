/-
  stack.newTerm, the closure of stack.Back (C2).
-/
import Derived.Test.YtppnckiedcbleaaBacks
import Derived.Test.YtppnckiedcbleaaCombine
import Derived.Test.YtppnckiedcbleaaPrune
import Derived.Test.YtppnckiedcbleaaComb
import Derived.Deep.RegionHeld3
namespace Go.Proofs.Ytppnckiedcbleaa
open Go.RowKit
set_option linter.unusedSimpArgs false
set_option linter.unusedVariables false
set_option maxRecDepth 100000

/-- the term of an operation on terms a and b -/
def nwT (o v a b : Int) : Tm := if 3 ≤ o then ⟨o, a, b, 0⟩ else ⟨o, 0, 0, v⟩

set_option maxHeartbeats 1000000 in
theorem newTerm_any (o v a b : Int) (w : World) (h1 : 1 ≤ o) :
    Calls Try.prog 84 #[.agg #[.int .i64 o, .int .i64 v], .int .i64 a, .int .i64 b] w fun e w' =>
      e = .returned (.agg #[.int .i64 (nwT o v a b).op, .int .i64 (nwT o v a b).a, .int .i64 (nwT o v a b).b, .int .i64 (nwT o v a b).v]) ∧ Below w.heap.size w w' := by
  by_cases ho : 3 ≤ o
  · have hr : nwT o v a b = ⟨o, a, b, 0⟩ := by unfold nwT; rw [if_pos ho]
    rw [hr]
    have hlf : leafB' o = false := by unfold leafB'; simp; omega
    clear hr
    go_enter Try.func84, Try.ntmps84
    go_wp2_with (go_at_call 76; (with_reducible refine (isLeaf_any _ _).mono ?_); rintro e w1 ⟨rfl, rfl⟩)
    go_returns
    exact ⟨rfl, by go_grown⟩
  · have hr : nwT o v a b = ⟨o, 0, 0, v⟩ := by unfold nwT; rw [if_neg ho]
    rw [hr]
    have hlf : leafB' o = true := by unfold leafB'; simp; omega
    clear hr
    go_enter Try.func84, Try.ntmps84
    go_wp2_with (go_at_call 76; (with_reducible refine (isLeaf_any _ _).mono ?_); rintro e w1 ⟨rfl, rfl⟩)
    go_returns
    exact ⟨rfl, by go_grown⟩

/-- a block of the call's own written, all else below as it was -/
structure Wrote (g : Nat) (w w' : World) : Prop where
  os : w'.os = w.os
  tape : w'.tape = w.tape
  output : w'.output = w.output
  size : w.heap.size ≤ w'.heap.size
  block : ∀ k, k < w.heap.size → k ≠ g → w'.heap[k]? = w.heap[k]?

theorem Wrote.of_below {g : Nat} {w w' : World} (h : Below w.heap.size w w') : Wrote g w w' := ⟨h.os, h.tape, h.output, h.size, fun k hk _ => h.block k hk⟩

theorem Wrote.set {g : Nat} {w w' : World} (h : Wrote g w w') {p : Addr} (hp : p.block = g) (u : Value) : Wrote g w (w'.setCell p u) := by
  have hb : Below p.block w' (w'.setCell p u) := (Below.refl p.block w').setCell (Nat.le_refl _) u
  exact ⟨hb.os.trans h.os, hb.tape.trans h.tape, hb.output.trans h.output, Nat.le_trans h.size hb.size, fun k hk hne => (Below.heap_setCell w' p u k (by omega)).trans (h.block k hk hne)⟩

theorem Wrote.below {g B : Nat} {w w' : World} (h : Wrote g w w') (hB : B ≤ g) (hs : B ≤ w.heap.size) : Below B w w' := ⟨h.os, h.tape, h.output, h.size, fun k hk => h.block k (by omega) (by omega)⟩

theorem Wrote.cell {g : Nat} {w w' : World} (h : Wrote g w w') {p : Addr} (hp : p.block < w.heap.size) (hne : p.block ≠ g) : w'.cell? p = w.cell? p := World.cell?_of_block (w := w) (h.block p.block hp hne)

set_option maxHeartbeats 4000000 in
theorem pushBack_any (k : Nat) (o v a b : Int) (pc pl : Addr) (A : Option Addr) (len cap n : Nat) (gl : Nat) (c : List So) (ts : List Tm) (w : World) (hpc : w.cell? pc = some (.slice A len cap)) (hpl : w.cell? pl = some (.slice (some ⟨gl, 0, none⟩) n n)) (hx : RdO w gl A c) (hl : c.length = len)
    (hown : Own w gl 37 (tv ts)) (htl : ts.length = n) (hk : k < n) (hgc : gl ≠ pc.block) (hgp : gl ≠ pl.block) (hd : c[k]? = some ⟨o, v⟩) (h1 : 1 ≤ o) :
    Calls Try.prog 83 #[.int .i64 k, .int .i64 a, .int .i64 b, .pointer (some pc), .pointer (some pl)] w fun e w' =>
      e = .returned (.int .i64 k) ∧ Own w' gl 37 (tv (ts.set k (nwT o v a b))) ∧ Wrote gl w w' := by
  have hpcb := World.block_lt_of_cell? w pc hpc
  have hplb := World.block_lt_of_cell? w pl hpl
  have hglb := hown.lt
  have hkl := (List.getElem?_eq_some_iff.1 hd).1
  obtain ⟨ad, o', v', rfl, hbl, hd', hc0, hc1⟩ := hx.at_ (k := k) hkl
  rw [hd] at hd'
  injection hd' with hd'
  injection hd' with e1 e2
  subst e1 e2
  rw [hl] at hkl
  have HL := Lib.hid hl
  have HTL := Lib.hid htl
  have hblw : (ad.add (k * 2)).block < w.heap.size := by omega
  obtain ⟨rt, hrt⟩ : ∃ rt, rt = nwT o v a b := ⟨_, rfl⟩
  rw [← hrt]
  have HRT := Lib.hid hrt
  clear hd hl htl hx hrt
  go_enter Try.func83, Try.ntmps83
  go_wp2
  have HK : Hid (∀ Z : World, Wrote gl w Z → Z.cell? pc = some (.slice (some ad) len cap) ∧ Z.cell? pl = some (.slice (some ⟨gl, 0, none⟩) n n) ∧ Z.cell? (ad.add (k * 2)) = some (.int .i64 o) ∧ Z.cell? ⟨(ad.add (k * 2)).block, (ad.add (k * 2)).off + 1, none⟩ = some (.int .i64 v)) :=
    Lib.hid fun Z hZ => ⟨(hZ.cell hpcb (by omega)).trans hpc, (hZ.cell hplb (by omega)).trans hpl, (hZ.cell hblw (by omega)).trans hc0, (hZ.cell (p := ⟨(ad.add (k * 2)).block, (ad.add (k * 2)).off + 1, none⟩) hblw (by simp only []; omega)).trans hc1⟩
  clear hpc hpl hc0 hc1
  go_region_held3 (fun w' => w'.cell? pc = some (.slice (some ad) len cap) ∧ w'.cell? pl = some (.slice (some ⟨gl, 0, none⟩) n n) ∧ w'.cell? (ad.add (k * 2)) = some (.int .i64 o) ∧ w'.cell? ⟨(ad.add (k * 2)).block, (ad.add (k * 2)).off + 1, none⟩ = some (.int .i64 v))
    (first | (with_reducible exact HK.out _ (Wrote.of_below (Below.drew (Below.refl _ _)))) | (with_reducible exact HK.out _ (Wrote.of_below hbA)) | (refine HK.out _ (Wrote.set (Wrote.set (Wrote.set (Wrote.set (Wrote.of_below hbA) ?_ _) ?_ _) ?_ _) ?_ _) <;> rfl))
    (first
      | (go_at_call 84; (with_reducible refine (newTerm_any o v a b _ h1).mono ?_); rw [← HRT.out]; rintro e w1 ⟨rfl, hb1⟩; have hbA : Below w.heap.size w w1 := below_via (by go_grown) hb1; have hsA := hbA.size; have hO := hown.below hbA hglb; have e0 := hO.cell (tv_at (j := k * 4) (by rw [HTL.out]; omega)); have e1 := hO.cell (tv_at (j := k * 4 + 1) (by rw [HTL.out]; omega)); have e2 := hO.cell (tv_at (j := k * 4 + 2) (by rw [HTL.out]; omega)); have e3 := hO.cell (tv_at (j := k * 4 + 3) (by rw [HTL.out]; omega)); have f0 := hO.frozen (k * 4); have f1 := hO.frozen (k * 4 + 1); have f2 := hO.frozen (k * 4 + 2); have f3 := hO.frozen (k * 4 + 3)))
  all_goals
    go_wp2
    go_ret
    refine ⟨rfl, OwnT.set hO (by rw [HTL.out]; exact hk) rt, ?_⟩
    refine Wrote.set (Wrote.set (Wrote.set (Wrote.set (Wrote.of_below hbA) ?_ _) ?_ _) ?_ _) ?_ _ <;> rfl

end Go.Proofs.Ytppnckiedcbleaa
