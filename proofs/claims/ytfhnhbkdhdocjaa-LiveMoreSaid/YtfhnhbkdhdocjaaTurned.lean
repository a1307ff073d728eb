/-
  codemasonref.Turned: a graph turned round.
-/
import Derived.Test.YtfhnhbkdhdocjaaMBase
namespace Go.Proofs.Ytfhnhbkdhdocjaa
open Go.RowKit
set_option linter.unusedSimpArgs false
set_option linter.unusedVariables false
set_option maxRecDepth 100000

/-- from which of the nodes below n an edge leads to j -/
def trR (nx : List (List Int)) (j n : Nat) : List Nat := (List.range n).filter fun i => decide (j ∈ sc nx i)

/-- a graph turned round -/
def trG (nx : List (List Int)) : List (List Int) := (List.range nx.length).map fun j => ni (trR nx j nx.length)

theorem trR_succ (nx : List (List Int)) (j n : Nat) : trR nx j (n + 1) = if j ∈ sc nx n then trR nx j n ++ [n] else trR nx j n := by
  unfold trR
  rw [List.range_succ, List.filter_append]
  by_cases h : j ∈ sc nx n
  · rw [if_pos h]; simp [h]
  · rw [if_neg h]; simp [h]

theorem trR_mem {nx : List (List Int)} {i j n : Nat} : i ∈ trR nx j n ↔ i < n ∧ j ∈ sc nx i := by
  unfold trR
  rw [List.mem_filter, List.mem_range, decide_eq_true_eq]

theorem trR_len (nx : List (List Int)) (j n : Nat) : (trR nx j n).length ≤ n := by
  unfold trR
  have := List.length_filter_le (fun i => decide (j ∈ sc nx i)) (List.range n)
  simpa using this

theorem trG_len (nx : List (List Int)) : (trG nx).length = nx.length := by unfold trG; simp

theorem trG_at {nx : List (List Int)} {j : Nat} (h : j < nx.length) : (trG nx)[j]? = some (ni (trR nx j nx.length)) := by
  unfold trG
  rw [List.getElem?_map, List.getElem?_range h]
  rfl

theorem sc_tr {nx : List (List Int)} (hc : ckWay nx = 0) {i j : Nat} : i ∈ sc (trG nx) j ↔ j ∈ sc nx i := by
  rcases Nat.lt_or_ge j nx.length with hj | hj
  · rw [sc_at (trG_at hj)]
    unfold ni
    rw [List.map_map]
    have e : (Int.toNat ∘ fun n : Nat => (n : Int)) = id := by funext n; simp
    rw [e, List.map_id, trR_mem]
    constructor
    · exact fun h => h.2
    · intro h
      refine ⟨?_, h⟩
      rcases Nat.lt_or_ge i nx.length with hi | hi
      · exact hi
      · rw [sc_out hi] at h; cases h
  · rw [sc_out (by rw [trG_len]; exact hj)]
    constructor
    · intro h; cases h
    · intro h; have := sc_lt hc h; omega

theorem Rea.turn {nx : List (List Int)} (hc : ckWay nx = 0) {i j : Nat} (h : Rea nx (-1) i j) : Rea (trG nx) (-1) j i := by
  induction h with
  | here => exact Rea.me _ _
  | @step j k h hk _ ih => exact (Rea.edge (nat_ne k) ((sc_tr hc).2 hk) (nat_ne j)).trans ih

theorem Rea.turned {nx : List (List Int)} (hc : ckWay nx = 0) {i j : Nat} (h : Rea (trG nx) (-1) i j) : Rea nx (-1) j i := by
  induction h with
  | here => exact Rea.me _ _
  | @step j k h hk _ ih => exact (Rea.edge (nat_ne k) ((sc_tr hc).1 hk) (nat_ne j)).trans ih

/-- all rows nil -/
def nils (n : Nat) : List Value := List.replicate n (.slice none 0 0)

theorem make_nils {P : Program} (t e : TypeId) (ht : P.underlying t = some (.slice e)) (hi : (P.info? e).map (fun i => (i.zero, i.size, i.bytes)) = some (some (.slice none 0 0), 1, 24)) (n : Nat) (hn : n ≤ 65536) (w : World) :
    (Instr.makeSlice t (.int .i64 (n : Int)) (.int .i64 (n : Int))).run P w = .ok (.slice (some ⟨w.heap.size, 0, none⟩) n n) (w.alloc (.cells (nils n).toArray e)) := by
  obtain ⟨i0, hi0, hz, hs, hb⟩ := info_parts hi
  have h := run_make (P := P) w t e i0 _ ht hi0 hz .i64 .i64 (n : Int) (n : Int) (by omega) (by omega) (by rw [hb]; omega) (by omega)
  simp only [Int.toNat_natCast, hs, Nat.mul_one] at h
  rw [h]
  have hm : madeCells (Value.slice none 0 0).cells n = (nils n).toArray := by
    apply Array.ext
    · simp [madeCells, nils]
    · intro j h1 h2
      simp [madeCells, nils, Value.cells, Nat.mod_one]
  rw [hm]

/-- rows that are done: below m each is a row of its own, not in block G -/
def RowsAt (w : World) (G : Nat) (nx : List (List Int)) (m : Nat) (cs : List Value) : Prop :=
  ∀ r, r < m → ∃ Ar cr, cs[r]? = some (.slice Ar (trR nx r nx.length).length cr) ∧ RdI w w.heap.size Ar (ni (trR nx r nx.length)) ∧ ∀ ad, Ar = some ad → G < ad.block

theorem RdI.but {w w' : World} {B G : Nat} {A : Option Addr} {xs : List Int} (h : RdI w B A xs) (hg : ∀ ad, A = some ad → ad.block ≠ G) (hk : ∀ p : Addr, p.block < B → p.block ≠ G → w'.cell? p = w.cell? p) : RdI w' B A xs := fun hm => by
  obtain ⟨ad, e, hb, hc⟩ := h hm
  exact ⟨ad, e, hb, fun j hj => (hk _ (by rw [addr_add_block]; exact hb) (by rw [addr_add_block]; exact hg ad e)).trans (hc j hj)⟩

theorem RowsAt.wrote {w w' : World} {G m : Nat} {nx : List (List Int)} {cs cs' : List Value} (h : RowsAt w G nx m cs) (hw : Wrote G w w') (hcs : ∀ r, r < m → cs'[r]? = cs[r]?) : RowsAt w' G nx m cs' := fun r hr => by
  obtain ⟨Ar, cr, h1, h2, h3⟩ := h r hr
  exact ⟨Ar, cr, by rw [hcs r hr]; exact h1, (h2.but (fun ad hA => by have := h3 ad hA; omega) fun p hp hne => hw.cell hp hne).more hw.size, h3⟩

theorem own_slice_block {w : World} {base : Nat} {e : TypeId} {A : Option Addr} {n c : Nat} {xs : List Value} (h : w.ownsRow base e 1 (.slice A n c) n xs) : ∀ ad, A = some ad → base ≤ ad.block := fun ad hA => by
  subst hA
  rcases h.2 with ⟨hv, _⟩ | ⟨g, cap, cur, hv, h1, _⟩
  · cases hv
  · injection hv with hv; injection hv with hv; rw [hv]; exact h1

/-- all blocks of a graph are new: none below base -/
def NewG (w : World) (base : Nat) (A : Option Addr) (nx : List (List Int)) : Prop :=
  ∀ ad, A = some ad → base ≤ ad.block ∧ ∀ r, r < nx.length → ∀ Ar n cr, w.cell? (ad.add r) = some (.slice Ar n cr) → ∀ a, Ar = some a → base ≤ a.block

theorem RowsAt.done {w : World} {G : Nat} {nx : List (List Int)} {cs : List Value} (hl : cs.length = nx.length) (ho : Own w G 39 cs) (h : RowsAt w G nx nx.length cs) : RdG w w.heap.size (some ⟨G, 0, none⟩) (trG nx) := fun hm => by
  refine ⟨_, rfl, ho.lt, fun r row hr => ?_⟩
  have hrl := (List.getElem?_eq_some_iff.1 hr).1
  rw [trG_len] at hrl
  rw [trG_at hrl] at hr
  injection hr with hr
  subst hr
  obtain ⟨Ar, cr, h1, h2, _⟩ := h r hrl
  refine ⟨Ar, cr, ?_, h2⟩
  have ha : (⟨G, 0, none⟩ : Addr).add r = ⟨G, r, none⟩ := by unfold Addr.add; split <;> simp_all
  rw [ha, ho.cell h1]
  simp [ni]

theorem RowsAt.new {w : World} {G : Nat} {nx : List (List Int)} {cs : List Value} (ho : Own w G 39 cs) (h : RowsAt w G nx nx.length cs) : NewG w G (some ⟨G, 0, none⟩) (trG nx) := fun ad hA => by
  injection hA with hA
  subst hA
  refine ⟨Nat.le_refl _, fun r hr Ar' n cr' hcell a ha => ?_⟩
  rw [trG_len] at hr
  obtain ⟨Ar, cr, h1, _, h3⟩ := h r hr
  have ha2 : (⟨G, 0, none⟩ : Addr).add r = ⟨G, r, none⟩ := by unfold Addr.add; split <;> simp_all
  rw [ha2, ho.cell h1] at hcell
  injection hcell with hcell
  injection hcell with e1 e2 e3
  have := h3 a (e1.trans ha)
  omega

end Go.Proofs.Ytfhnhbkdhdocjaa
