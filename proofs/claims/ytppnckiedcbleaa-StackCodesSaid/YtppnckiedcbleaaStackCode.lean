/-
  stack.Code and its closure: a tree's stack code (C2).
-/
import Derived.Test.YtppnckiedcbleaaStackFace
import Derived.Test.YtppnckiedcbleaaLaid
import Derived.Test.YtppnckiedcbleaaEmit
import Derived.Test.YtppnckiedcbleaaNeed
import Derived.Test.YtppnckiedcbleaaPrune
import Derived.Laws.EntriesVeiled
namespace Go.Proofs.Ytppnckiedcbleaa
open Go.RowKit
set_option linter.unusedSimpArgs false
set_option linter.unusedVariables false
set_option maxRecDepth 100000

/-- a slice held in a box grows: nothing else turns but the box and the slice's own block -/
structure Grew (g : Nat) (v v' : Value) (w w' : World) : Prop where
  os : w'.os = w.os
  tape : w'.tape = w.tape
  output : w'.output = w.output
  size : w.heap.size ≤ w'.heap.size
  block : ∀ k, k < w.heap.size → k ≠ g → some k ≠ v.ownBlock → w'.heap[k]? = w.heap[k]?
  prov : Prov w v v'

theorem Grew.of {g : Nat} {v v' : Value} {w w' : World} (h : w.grownBy w' v.ownBlock) (hp : Prov w v v') : Grew g v v' w w' := ⟨h.os, h.tape, h.output, h.size, fun k hk _ hv => h.block k hk hv, hp⟩

theorem Grew.set {g : Nat} {v v' : Value} {w w' : World} (h : Grew g v v' w w') {p : Addr} (hp : p.block = g) (u : Value) : Grew g v v' w (w'.setCell p u) := by
  have hb : Below p.block w' (w'.setCell p u) := (Below.refl p.block w').setCell (Nat.le_refl _) u
  exact ⟨hb.os.trans h.os, hb.tape.trans h.tape, hb.output.trans h.output, Nat.le_trans h.size hb.size, fun k hk hne hv => (Below.heap_setCell w' p u k (by omega)).trans (h.block k hk hne hv), h.prov⟩

theorem Grew.trans {g : Nat} {v v1 v2 : Value} {w w1 w2 : World} (h : Grew g v v1 w w1) (h2 : Grew g v1 v2 w1 w2) : Grew g v v2 w w2 :=
  ⟨h2.os.trans h.os, h2.tape.trans h.tape, h2.output.trans h.output, Nat.le_trans h.size h2.size,
    fun k hk hne hv => (h2.block k (Nat.lt_of_lt_of_le hk h.size) hne (h.prov.far hk hv)).trans (h.block k hk hne hv), h.prov.trans h.size h2.prov⟩

theorem Grew.cell {g : Nat} {v v' : Value} {w w' : World} (h : Grew g v v' w w') {p : Addr} (hp : p.block < w.heap.size) (hne : p.block ≠ g) (hv : some p.block ≠ v.ownBlock) : w'.cell? p = w.cell? p := World.cell?_of_block (w := w) (h.block p.block hp hne hv)

theorem Grew.below {g B : Nat} {v v' : Value} {w w' : World} (h : Grew g v v' w w') (hB : B ≤ g) (hs : B ≤ w.heap.size) (hv : ∀ k, v.ownBlock = some k → B ≤ k) : Below B w w' :=
  ⟨h.os, h.tape, h.output, h.size, fun k hk => h.block k (by omega) (by omega) fun e => by have := hv k e.symm; omega⟩

theorem cellsO_at {X : World} {k : Nat} (hk : k = X.heap.size) (s : So) (cs : Array Value) (hcs : cs = (cSo s).toArray) (t : TypeId) : ∀ ad : Addr, some (⟨k, 0, none⟩ : Addr) = some ad → ∀ j u, (cSo s)[j]? = some u → (X.alloc (.cells cs t)).cell? (ad.add j) = some u := by
  subst hcs
  exact cells_at hk (cSo s) t

theorem own_set {w : World} {base size n : Nat} {e : TypeId} {v : Value} {xs : List Value} (h : w.ownsRow base e size v n xs) {g : Nat} (hg : some g ≠ v.ownBlock) (u : Value) : (w.setCell ⟨g, 0, none⟩ u).ownsRow base e size v n xs := by
  refine ⟨h.1, ?_⟩
  rcases h.2 with h2 | ⟨k, cap, cur, h1, h2, h3, h4⟩
  · exact .inl h2
  · refine .inr ⟨k, cap, cur, h1, h2, ?_, h4⟩
    subst h1
    exact (Below.heap_setCell w ⟨g, 0, none⟩ u k (fun e => hg (by rw [Value.ownBlock]; exact congrArg some e.symm))).trans h3

/-- the code of a term, appended to what lies in the box -/
def EmitO (gc base : Nat) (A : Option Addr) (n c m : Nat) (cs : List So) (w : World) (e : Ending) (w' : World) : Prop :=
  ∃ A' c', e = .returned (.tuple #[]) ∧ Own w' gc 66 [.slice A' (n + m) c'] ∧ w'.ownsRow base 77 2 (.slice A' (n + m) c') (n + m) (rv cSo cs) ∧ Grew gc (.slice A n c) (.slice A' (n + m) c') w w'

set_option maxHeartbeats 4000000 in
theorem emit_any (vars : Int) (lA : Option Addr) (lcap : Nat) (l : List Tm) (hc : ckTerms vars l = 0) (base gl gc ge : Nat) (hglc : gl ≠ gc) (hgec : ge ≠ gc) (hB0 : base ≤ gc) :
    ∀ i, i < l.length → ∀ (A : Option Addr) (n c m : Nat) (cs : List So) (w : World),
    Own w gc 66 [.slice A n c] → w.cell? ⟨gl, 0, none⟩ = some (.slice lA l.length lcap) → w.cell? ⟨ge, 0, none⟩ = some (.func (.func 75) #[] #[.pointer (some ⟨gl, 0, none⟩), .pointer (some ⟨gc, 0, none⟩), .pointer (some ⟨ge, 0, none⟩)]) →
    w.ownsRow base 77 2 (.slice A n c) n (rv cSo cs) → base ≤ w.heap.size → some gl ≠ (Value.slice A n c).ownBlock → some gc ≠ (Value.slice A n c).ownBlock → some ge ≠ (Value.slice A n c).ownBlock → RdT w base lA l → (ldA l i).length = m → n + m ≤ 65536 →
    Calls Try.prog 75 #[.int .i64 (i : Nat), .pointer (some ⟨gl, 0, none⟩), .pointer (some ⟨gc, 0, none⟩), .pointer (some ⟨ge, 0, none⟩)] w fun e w' => EmitO gc base A n c m (cs ++ ldA l i) w e w' := by
  refine tm_ind hc (fun i t h ho => ?_) fun i t h ho h1 h2 h3 h4 => ?_
  · intro A n c m cs w hO hcl hce hown hbase hneL hneC hneE hx hm hnm
    have hi := (List.getElem?_eq_some_iff.1 h).1
    obtain ⟨ad, o, a, b, v, rfl, hbl, hd, hc0, hc1, hc2, hc3⟩ := hx.at_ (k := i) hi
    rw [h] at hd
    injection hd with hd
    subst hd
    have HE := Lib.hid (show ldA l i = [⟨o, v⟩] by have := ldA_at hc h; rw [if_pos ho] at this; exact this)
    have hm1 : m = 1 := by rw [← hm, HE.out]; rfl
    subst hm1
    simp only [] at ho
    have hlf : leafB' o = true := by
      have hcs := ckTerm_cases (ckTerms_at hc h)
      simp only [] at hcs
      unfold leafB'; simp; omega
    have hblw : (ad.add (i * 4)).block < w.heap.size := by omega
    have h63 : n + 1 ≤ maxLen := by unfold maxLen; omega
    have hbig : (n + 1) * 16 ≤ 140737488355328 := by omega
    have hgcw : gc < w.heap.size := hO.lt
    have hglw : gl < w.heap.size := World.block_lt_of_cell? w _ hcl
    have hq0 := hO.cell (j := 0) rfl
    clear h hx hm hc
    generalize l.length = len at *
    go_enter Try.func75, Try.ntmps75
    go_wp2_with (first
      | (go_at_call 76; (with_reducible refine (isLeaf_any _ _).mono ?_); rintro e w1 ⟨rfl, rfl⟩)
      | (at_builtin; refine wpList_app' rfl (.tmp 13) (.tmp 19) 66 rfl base 77 2 16 so_app (rv cSo cs) rfl (own_below hown (by go_grown)) (cSo ⟨o, v⟩) rfl rfl (fun h => by cases h) (cellsO_at (by simp) ⟨o, v⟩ _ rfl _) (cSo_one _) h63 hbig (by simp; omega) ?_; intro A4 c4 w4 hown4 hg4 hb4 hk4; have hO4 : Own w4 gc 66 [.slice A n c] := (hg4.block gc (by simp; omega) hneC).trans ((hO.alloc _).alloc _); have hq4 := hO4.cell (j := 0) rfl; have hf4 := hO4.frozen 0))
    go_returns
    have hgr : w.grownBy w4 (Value.slice A n c).ownBlock := ((grown_alloc w _ _).andThen (grown_alloc _ _ _) fun j hj => .inr hj).andThen hg4 fun j hj => .inr hj
    have hpr : Prov w (.slice A n c) (.slice A4 (n + 1) c4) := by
      intro k hk
      rcases hk4 with hk4 | hk4
      · rw [hk4] at hk; exact .inr hk
      · rw [hk4] at hk; injection hk with hk; exact .inl (by simp at hk; omega)
    have hneC4 := hpr.far hgcw hneC
    exact ⟨A4, c4, rfl, hO4.set 0 _, by rw [HE.out, rv_append, rv_one]; exact own_set hown4 hneC4 _, Grew.set (p := ⟨gc, 0, none⟩) (Grew.of hgr hpr) rfl _⟩
  · intro A n c m cs w hO hcl hce hown hbase hneL hneC hneE hx hm hnm
    have hi := (List.getElem?_eq_some_iff.1 h).1
    obtain ⟨ad, o, a, b, v, rfl, hbl, hd, hc0, hc1, hc2, hc3⟩ := hx.at_ (k := i) hi
    rw [h] at hd
    injection hd with hd
    subst hd
    have hcs := ckTerm_cases (ckTerms_at hc h)
    have hno : ¬ (⟨o, a, b, v⟩ : Tm).op < 3 := by simp only [] at ho ⊢; omega
    have HE0 := ldA_at hc h
    rw [if_neg hno] at HE0
    clear hno
    simp only [] at ho h1 h2 h3 h4 hcs HE0
    obtain ⟨ha0, ha1, hb0, hb1⟩ : 0 ≤ a ∧ a < i ∧ 0 ≤ b ∧ b < i := by omega
    obtain ⟨an, rfl⟩ := Int.eq_ofNat_of_zero_le ha0
    obtain ⟨bn, rfl⟩ := Int.eq_ofNat_of_zero_le hb0
    simp only [Int.toNat_natCast] at h1 h2 h3 h4 HE0
    have HE := Lib.hid HE0
    have hlf : leafB' o = false := by unfold leafB'; simp; omega
    have hblw : (ad.add (i * 4)).block < w.heap.size := by omega
    have hgcw : gc < w.heap.size := hO.lt
    have hglw : gl < w.heap.size := World.block_lt_of_cell? w _ hcl
    have hgew : ge < w.heap.size := World.block_lt_of_cell? w _ hce
    obtain ⟨ma, hma⟩ : ∃ k, (ldA l an).length = k := ⟨_, rfl⟩
    obtain ⟨mb, hmb⟩ : ∃ k, (ldA l bn).length = k := ⟨_, rfl⟩
    have hmm : m = ma + mb + 1 := by rw [← hm, HE.out, List.length_append, List.length_append, hma, hmb]; rfl
    subst hmm
    have HMA := Lib.hid hma
    have HMB := Lib.hid hmb
    have hnm' : Hid (n + (ma + mb + 1) = n + ma + mb + 1) := Lib.hid (by omega)
    have h63 : n + ma + mb + 1 ≤ maxLen := by unfold maxLen; omega
    have hbig : (n + ma + mb + 1) * 16 ≤ 140737488355328 := by omega
    have hne0 := own_ne hown (Nat.le_refl _)
    have hq0 := hO.cell (j := 0) rfl
    have H3 := Lib.hid h3
    have H4 := Lib.hid h4
    have HX := Lib.hid hx
    have HO := Lib.hid hO
    clear h hcs h3 h4 hx hm hma hmb hc HE0
    go_enter Try.func75, Try.ntmps75
    go_wp2_with (go_at_call 76; (with_reducible refine (isLeaf_any _ _).mono ?_); rintro e w1 ⟨rfl, rfl⟩)
    refine (H3.out A n c ma cs _ (HO.out.alloc _) (((by go_grown : Below w.heap.size w _).cell hglw).trans hcl) (((by go_grown : Below w.heap.size w _).cell hgew).trans hce) (own_below hown (by go_grown)) (by simp; omega) hneL hneC hneE (HX.out.below (by go_grown : Below w.heap.size w _) (by omega)) HMA.out (by omega)).mono ?_
    rintro e w2 ⟨A1, c1, rfl, hO1, hown1, hG1⟩
    have hs1 : w.heap.size + 1 ≤ w2.heap.size := by have := hG1.size; simpa using this
    have d0 := (hG1.cell (p := ⟨w.heap.size, 0, none⟩) (by simp) (by simp only []; omega) hne0).trans (show _ = some (.int .i64 o) by simp)
    have d2 := (hG1.cell (p := ⟨w.heap.size, 2, none⟩) (by simp) (by simp only []; omega) hne0).trans (show _ = some (.int .i64 bn) by simp)
    have hne1 := hG1.prov.far (g := w.heap.size) (by simp) hne0
    have hneL1 := hG1.prov.far (g := gl) (by simp; omega) hneL
    have hneE1 := hG1.prov.far (g := ge) (by simp; omega) hneE
    have hneC1 := hG1.prov.far (g := gc) (by simp; omega) hneC
    have hGw : Grew gc (.slice A n c) (.slice A1 (n + ma) c1) w w2 := (Grew.of (grown_alloc w _ _) (Prov.refl w _)).trans hG1
    have dl := (hGw.cell (p := ⟨gl, 0, none⟩) hglw hglc hneL).trans hcl
    have de := (hGw.cell (p := ⟨ge, 0, none⟩) hgew hgec hneE).trans hce
    have hq1 := hO1.cell (j := 0) rfl
    have hx1 := HX.out.below (hGw.below hB0 (by omega) (fun k hk => by have := (hown.lt k hk).1; omega)) (Nat.le_refl _)
    have hgcw2 : gc < w2.heap.size := by omega
    have hglw2 : gl < w2.heap.size := by omega
    have hgew2 : ge < w2.heap.size := by omega
    have HX1 := Lib.hid hx1
    have HO1 := Lib.hid hO1
    clear hG1 hx1 hc0 hc1 hc2 hc3 hcl hce hq0
    go_wp2_with fail
    refine (H4.out A1 (n + ma) c1 mb (cs ++ ldA l an) w2 HO1.out dl de hown1 (by omega) hneL1 hneC1 hneE1 HX1.out HMB.out (by omega)).mono ?_
    rintro e w3 ⟨A2, c2, rfl, hO2, hown2, hG2⟩
    have hs2 := hG2.size
    have f0 := (hG2.cell (p := ⟨w.heap.size, 0, none⟩) (by simp only []; omega) (by simp only []; omega) hne1).trans d0
    have hq2 := hO2.cell (j := 0) rfl
    have hGw2 := hGw.trans hG2
    have hneC2 := hG2.prov.far hgcw2 hneC1
    have hgcw3 : gc < w3.heap.size := by omega
    clear d0 d2 hG2 dl de hq1 hGw
    go_wp2_with (at_builtin; refine wpList_app' rfl (.tmp 29) (.tmp 33) 66 rfl base 77 2 16 so_app (rv cSo (cs ++ ldA l an ++ ldA l bn)) rfl (own_below hown2 (by go_grown)) (cSo ⟨o, 0⟩) rfl rfl (fun h => by cases h) (cellsO_at (by simp) ⟨o, 0⟩ _ rfl _) (cSo_one _) h63 hbig (by simp; omega) ?_; intro A4 c4 w4 hown4 hg4 hb4 hk4; have hO4 : Own w4 gc 66 [.slice A2 (n + ma + mb) c2] := (hg4.block gc (by simp; omega) hneC2).trans (hO2.alloc _); have hq4 := hO4.cell (j := 0) rfl; have hf4 := hO4.frozen 0)
    go_returns
    have hgr : w3.grownBy w4 (Value.slice A2 (n + ma + mb) c2).ownBlock := (grown_alloc w3 _ _).andThen hg4 fun j hj => .inr hj
    have hpr : Prov w3 (.slice A2 (n + ma + mb) c2) (.slice A4 (n + ma + mb + 1) c4) := by
      intro k hk
      rcases hk4 with hk4 | hk4
      · rw [hk4] at hk; exact .inr hk
      · rw [hk4] at hk; injection hk with hk; exact .inl (by simp at hk; omega)
    have hneC4 := hpr.far hgcw3 hneC2
    unfold EmitO
    rw [hnm'.out]
    exact ⟨A4, c4, rfl, hO4.set 0 _, by rw [HE.out, ← List.append_assoc, ← List.append_assoc, rv_append, rv_one]; exact own_set hown4 hneC4 _, Grew.set (p := ⟨gc, 0, none⟩) (hGw2.trans (Grew.of hgr hpr)) rfl _⟩

theorem own_at {w : World} {g : Nat} (hg : g = w.heap.size) (t : TypeId) (cs : List Value) : Own (w.alloc (.cells cs.toArray t)) g t cs := by
  subst hg
  exact Own.new w t cs

theorem make_empty {P : Program} {z : Value} {size bytes : Nat} (t e : TypeId) (ht : P.underlying t = some (.slice e)) (hi : (P.info? e).map (fun i => (i.zero, i.size, i.bytes)) = some (some z, size, bytes)) (hbt : bytes ≤ 64) (n : Nat) (hn : n ≤ 65536) :
    ∃ mc : Array Value, mc.size = n * size ∧ ∀ w : World, (Instr.makeSlice t (.int .i64 0) (.int .i64 (n : Int))).run P w = .ok (.slice (some ⟨w.heap.size, 0, none⟩) 0 n) (w.alloc (.cells mc e)) := by
  obtain ⟨i0, hi0, hz, hs, hb⟩ := info_parts hi
  refine ⟨madeCells z.cells (n * size), by simp [madeCells], fun w => ?_⟩
  have hle : n * bytes ≤ 65536 * 64 := Nat.mul_le_mul hn hbt
  have h := run_make (P := P) w t e i0 _ ht hi0 hz .i64 .i64 (0 : Int) (n : Int) (by omega) (by omega) (by rw [hb, Int.mul_comm, ← Int.natCast_mul]; omega) (by omega)
  simp only [Int.toNat_natCast, hs] at h
  exact h

/-- C2: code told -/
def SCoded (l : List Tm) (len : Nat) (w : World) (e : Ending) (w' : World) : Prop :=
  ∃ A' c', e = .returned (.tuple #[.slice A' len c', .int .i64 0]) ∧ RdO w' w'.heap.size A' (ldA l (l.length - 1)) ∧ Below w.heap.size w w'

set_option maxHeartbeats 1000000 in
theorem scode_ok (vars : Int) (A : Option Addr) (len cap : Nat) (l : List Tm) (w : World) (hx : RdT w w.heap.size A l) (hl : l.length = len) (hc : ckTree vars l = 0) :
    Calls Try.prog 50 #[.int .i64 vars, .slice A len cap] w fun e w' => SCoded l len w e w' := by
  obtain ⟨hck, _, htl⟩ := ckTree_ok hc
  obtain ⟨b1, b2, b3, b4⟩ := ckTerms_bd hck
  have hlen := ld_root_len hck htl
  have hcv : (l.length : Int) - 1 = ((l.length - 1 : Nat) : Int) := by omega
  have HT := Lib.hid hc
  have HF := Lib.hid hck
  have HLN := Lib.hid hlen
  subst hl
  obtain ⟨mc, hmcs, hmk⟩ := make_empty (P := Try.prog) (z := .agg #[.int .i64 0, .int .i64 0]) (size := 2) (bytes := 16) 66 77 Try.underlying66 (by kernel_rfl) (by omega) l.length (by omega)
  have HMC := Lib.hid hmcs
  clear hc hck htl hlen hmcs
  go_enter Try.func50, Try.ntmps50
  go_wp2_with fail
  refine (need_any vars A _ cap l _ ((hx.below (by go_grown : Below w.heap.size w _) (Nat.le_refl _)).more (by simp)) rfl).mono ?_
  rintro e w1 ⟨rfl, hb1⟩
  rw [HT.out]
  have hB1 : Below w.heap.size w w1 := (by go_grown : Below w.heap.size w _).trans (hb1.mono (by simp))
  have d0 : w1.cell? ⟨w.heap.size, 0, none⟩ = some (.slice A l.length cap) := (hb1.cell (p := ⟨w.heap.size, 0, none⟩) (by simp)).trans (by simp)
  have hs1 : w.heap.size < w1.heap.size := World.block_lt_of_cell? w1 _ d0
  have hs2 : w.heap.size < w1.heap.size + 1 := by omega
  have hs3 : w.heap.size < w1.heap.size + 1 + 1 := by omega
  clear hb1
  go_wp2_with fail
  refine (emit_any vars A cap l HF.out w.heap.size w.heap.size (w1.heap.size + 1) (w1.heap.size + 1 + 1) (by omega) (by omega) (by omega) (l.length - 1) (by omega) (some ⟨w1.heap.size, 0, none⟩) 0 l.length l.length [] _ ?_ ?_ ?_ ?_ ?_ ?_ ?_ ?_ ?_ HLN.out (by omega)).mono ?_
  · exact (own_at (w := w1.alloc (.cells mc 77)) (by simp) _ [_]).alloc _
  · exact ((by go_grown : Below w1.heap.size w1 _).cell hs1).trans d0
  · exact (own_at (w := (w1.alloc (.cells mc 77)).alloc _) (by simp) _ [_]).cell (j := 0) rfl
  · exact own_below (World.ownsRow_made w1 mc l.length (by omega) (by unfold maxLen; omega) HMC.out) (by go_grown)
  · exact Nat.le_trans (Nat.le_of_lt hs1) (by go_grown : Below w1.heap.size w1 _).size
  · exact fun e => by simp [Value.ownBlock] at e; omega
  · exact fun e => by simp [Value.ownBlock] at e
  · exact fun e => by simp [Value.ownBlock] at e; omega
  · exact hx.below (hB1.trans ((by go_grown : Below w1.heap.size w1 _).mono (by omega))) (Nat.le_refl _)
  rintro e w2 ⟨A2, c2, rfl, hO2, hown2, hG2⟩
  have hB2 : Below w.heap.size w w2 := (hB1.trans ((by go_grown : Below w1.heap.size w1 _).mono (by omega))).trans (hG2.below (by omega) (by simp; omega) (fun k hk => by simp [Value.ownBlock] at hk; omega))
  rw [Nat.zero_add] at hO2 hown2
  have hq := hO2.cell (j := 0) rfl
  clear hG2
  go_wp2_with fail
  go_ret2
  exact ⟨A2, c2, rfl, own_rdR hown2 HLN.out, hB2⟩

set_option maxHeartbeats 1000000 in
theorem scode_bad (vars : Int) (A : Option Addr) (len cap : Nat) (l : List Tm) (w : World) (hx : RdT w w.heap.size A l) (hl : l.length = len) (hc : ckTree vars l ≠ 0) :
    Calls Try.prog 50 #[.int .i64 vars, .slice A len cap] w fun e w' => e = .returned (.tuple #[.slice none 0 0, .int .i64 (ckTree vars l)]) ∧ Below w.heap.size w w' := by
  have e1 : (ckTree vars l != 0) = true := by simp [hc]
  have HL := Lib.hid hl
  clear hl hc
  go_enter Try.func50, Try.ntmps50
  go_wp2_with fail
  refine (need_any vars A len cap l _ ((hx.below (by go_grown : Below w.heap.size w _) (Nat.le_refl _)).more (by simp)) HL.out).mono ?_
  rintro e w1 ⟨rfl, hb1⟩
  have hB1 : Below w.heap.size w w1 := (by go_grown : Below w.heap.size w _).trans (hb1.mono (by simp))
  go_wp2_with fail
  go_ret2
  exact ⟨rfl, hB1⟩

end Go.Proofs.Ytppnckiedcbleaa
