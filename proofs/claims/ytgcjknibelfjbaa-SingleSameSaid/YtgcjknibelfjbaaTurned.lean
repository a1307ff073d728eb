/-
  codemasonref.Turned: a graph turned round.
-/
import Derived.Test.YtgcjknibelfjbaaMBase
namespace Go.Proofs.Ytgcjknibelfjbaa
open Go.RowKit
set_option linter.unusedSimpArgs false
set_option linter.unusedVariables false
set_option maxRecDepth 100000

/-- from which of the nodes below n an edge leads to j -/
def trR (nx : List (List Int)) (j n : Nat) : List Nat := (List.range n).filter fun i => decide (j ∈ sc nx i)

/-- a graph turned round -/
def trG (nx : List (List Int)) : List (List Int) := (List.range nx.length).map fun j => ni (trR nx j nx.length)

theorem trR_succ (nx : List (List Int)) (j n : Nat) : trR nx j (n + 1) = if j ∈ sc nx n then trR nx j n ++ [n] else trR nx j n := by
  unfold trR
  rw [List.range_succ, List.filter_append]
  by_cases h : j ∈ sc nx n
  · rw [if_pos h]; simp [h]
  · rw [if_neg h]; simp [h]

theorem trR_mem {nx : List (List Int)} {i j n : Nat} : i ∈ trR nx j n ↔ i < n ∧ j ∈ sc nx i := by
  unfold trR
  rw [List.mem_filter, List.mem_range, decide_eq_true_eq]

theorem trR_len (nx : List (List Int)) (j n : Nat) : (trR nx j n).length ≤ n := by
  unfold trR
  have := List.length_filter_le (fun i => decide (j ∈ sc nx i)) (List.range n)
  simpa using this

theorem trG_len (nx : List (List Int)) : (trG nx).length = nx.length := by unfold trG; simp

theorem trG_at {nx : List (List Int)} {j : Nat} (h : j < nx.length) : (trG nx)[j]? = some (ni (trR nx j nx.length)) := by
  unfold trG
  rw [List.getElem?_map, List.getElem?_range h]
  rfl

theorem sc_tr {nx : List (List Int)} (hc : ckWay nx = 0) {i j : Nat} : i ∈ sc (trG nx) j ↔ j ∈ sc nx i := by
  rcases Nat.lt_or_ge j nx.length with hj | hj
  · rw [sc_at (trG_at hj)]
    unfold ni
    rw [List.map_map]
    have e : (Int.toNat ∘ fun n : Nat => (n : Int)) = id := by funext n; simp
    rw [e, List.map_id, trR_mem]
    constructor
    · exact fun h => h.2
    · intro h
      refine ⟨?_, h⟩
      rcases Nat.lt_or_ge i nx.length with hi | hi
      · exact hi
      · rw [sc_out hi] at h; cases h
  · rw [sc_out (by rw [trG_len]; exact hj)]
    constructor
    · intro h; cases h
    · intro h; have := sc_lt hc h; omega

theorem Rea.turn {nx : List (List Int)} (hc : ckWay nx = 0) {i j : Nat} (h : Rea nx (-1) i j) : Rea (trG nx) (-1) j i := by
  induction h with
  | here => exact Rea.me _ _
  | @step j k h hk _ ih => exact (Rea.edge (nat_ne k) ((sc_tr hc).2 hk) (nat_ne j)).trans ih

theorem Rea.turned {nx : List (List Int)} (hc : ckWay nx = 0) {i j : Nat} (h : Rea (trG nx) (-1) i j) : Rea nx (-1) j i := by
  induction h with
  | here => exact Rea.me _ _
  | @step j k h hk _ ih => exact (Rea.edge (nat_ne k) ((sc_tr hc).1 hk) (nat_ne j)).trans ih

/-- all rows nil -/
def nils (n : Nat) : List Value := List.replicate n (.slice none 0 0)

theorem make_nils {P : Program} (t e : TypeId) (ht : P.underlying t = some (.slice e)) (hi : (P.info? e).map (fun i => (i.zero, i.size, i.bytes)) = some (some (.slice none 0 0), 1, 24)) (n : Nat) (hn : n ≤ 65536) (w : World) :
    (Instr.makeSlice t (.int .i64 (n : Int)) (.int .i64 (n : Int))).run P w = .ok (.slice (some ⟨w.heap.size, 0, none⟩) n n) (w.alloc (.cells (nils n).toArray e)) := by
  obtain ⟨i0, hi0, hz, hs, hb⟩ := info_parts hi
  have h := run_make (P := P) w t e i0 _ ht hi0 hz .i64 .i64 (n : Int) (n : Int) (by omega) (by omega) (by rw [hb]; omega) (by omega)
  simp only [Int.toNat_natCast, hs, Nat.mul_one] at h
  rw [h]
  have hm : madeCells (Value.slice none 0 0).cells n = (nils n).toArray := by
    apply Array.ext
    · simp [madeCells, nils]
    · intro j h1 h2
      simp [madeCells, nils, Value.cells, Nat.mod_one]
  rw [hm]

/-- rows that are done: below m each is a row of its own, not in block G -/
def RowsAt (w : World) (G : Nat) (nx : List (List Int)) (m : Nat) (cs : List Value) : Prop :=
  ∀ r, r < m → ∃ Ar cr, cs[r]? = some (.slice Ar (trR nx r nx.length).length cr) ∧ RdI w w.heap.size Ar (ni (trR nx r nx.length)) ∧ ∀ ad, Ar = some ad → G < ad.block

theorem RdI.but {w w' : World} {B G : Nat} {A : Option Addr} {xs : List Int} (h : RdI w B A xs) (hg : ∀ ad, A = some ad → ad.block ≠ G) (hk : ∀ p : Addr, p.block < B → p.block ≠ G → w'.cell? p = w.cell? p) : RdI w' B A xs := fun hm => by
  obtain ⟨ad, e, hb, hc⟩ := h hm
  exact ⟨ad, e, hb, fun j hj => (hk _ (by rw [addr_add_block]; exact hb) (by rw [addr_add_block]; exact hg ad e)).trans (hc j hj)⟩

theorem RowsAt.wrote {w w' : World} {G m : Nat} {nx : List (List Int)} {cs cs' : List Value} (h : RowsAt w G nx m cs) (hw : Wrote G w w') (hcs : ∀ r, r < m → cs'[r]? = cs[r]?) : RowsAt w' G nx m cs' := fun r hr => by
  obtain ⟨Ar, cr, h1, h2, h3⟩ := h r hr
  exact ⟨Ar, cr, by rw [hcs r hr]; exact h1, (h2.but (fun ad hA => by have := h3 ad hA; omega) fun p hp hne => hw.cell hp hne).more hw.size, h3⟩

theorem own_slice_block {w : World} {base : Nat} {e : TypeId} {A : Option Addr} {n c : Nat} {xs : List Value} (h : w.ownsRow base e 1 (.slice A n c) n xs) : ∀ ad, A = some ad → base ≤ ad.block := fun ad hA => by
  subst hA
  rcases h.2 with ⟨hv, _⟩ | ⟨g, cap, cur, hv, h1, _⟩
  · cases hv
  · injection hv with hv; injection hv with hv; rw [hv]; exact h1

/-- all blocks of a graph are new: none below base -/
def NewG (w : World) (base : Nat) (A : Option Addr) (nx : List (List Int)) : Prop :=
  ∀ ad, A = some ad → base ≤ ad.block ∧ ∀ r, r < nx.length → ∀ Ar n cr, w.cell? (ad.add r) = some (.slice Ar n cr) → ∀ a, Ar = some a → base ≤ a.block

theorem RowsAt.done {w : World} {G : Nat} {nx : List (List Int)} {cs : List Value} (hl : cs.length = nx.length) (ho : Own w G 26 cs) (h : RowsAt w G nx nx.length cs) : RdG w w.heap.size (some ⟨G, 0, none⟩) (trG nx) := fun hm => by
  refine ⟨_, rfl, ho.lt, fun r row hr => ?_⟩
  have hrl := (List.getElem?_eq_some_iff.1 hr).1
  rw [trG_len] at hrl
  rw [trG_at hrl] at hr
  injection hr with hr
  subst hr
  obtain ⟨Ar, cr, h1, h2, _⟩ := h r hrl
  refine ⟨Ar, cr, ?_, h2⟩
  have ha : (⟨G, 0, none⟩ : Addr).add r = ⟨G, r, none⟩ := by unfold Addr.add; split <;> simp_all
  rw [ha, ho.cell h1]
  simp [ni]

theorem RowsAt.new {w : World} {G : Nat} {nx : List (List Int)} {cs : List Value} (ho : Own w G 26 cs) (h : RowsAt w G nx nx.length cs) : NewG w G (some ⟨G, 0, none⟩) (trG nx) := fun ad hA => by
  injection hA with hA
  subst hA
  refine ⟨Nat.le_refl _, fun r hr Ar' n cr' hcell a ha => ?_⟩
  rw [trG_len] at hr
  obtain ⟨Ar, cr, h1, _, h3⟩ := h r hr
  have ha2 : (⟨G, 0, none⟩ : Addr).add r = ⟨G, r, none⟩ := by unfold Addr.add; split <;> simp_all
  rw [ha2, ho.cell h1] at hcell
  injection hcell with hcell
  injection hcell with e1 e2 e3
  have := h3 a (e1.trans ha)
  omega

set_option maxHeartbeats 4000000 in
theorem refTurnedO_any (A : Option Addr) (len cap : Nat) (nx : List (List Int)) (w : World) (hx : RdG w w.heap.size A nx) (hl : nx.length = len) (hc : ckWay nx = 0) :
    Calls Try.prog 59 #[.slice A len cap] w fun e w' => ∃ cs, e = .returned (.slice (some ⟨w.heap.size, 0, none⟩) len len) ∧ cs.length = nx.length ∧ Own w' w.heap.size 26 cs ∧ RowsAt w' w.heap.size nx nx.length cs ∧ Below w.heap.size w w' := by
  obtain ⟨b1, b2, b3⟩ := ckWay_bd hc
  have HC := Lib.hid hc
  have HL := Lib.hid hl
  rw [hl] at b1 b2
  have hmk := make_nils (P := Try.prog) 51 26 Try.underlying51 (by kernel_rfl) len (by omega)
  clear hl hc b3
  go_enter Try.func59, Try.ntmps59
  go_wp2
  have hown0 := Own.new w 26 (nils len)
  clear hmk
  go_loopw [4] (fun z wr => ∃ (j : Nat) (cs : List Value), j ≤ len ∧ z = .int .i64 j ∧ cs.length = len ∧ Own wr w.heap.size 26 cs ∧ RowsAt wr w.heap.size nx j cs ∧ (∀ r, j ≤ r → r < len → cs[r]? = some (.slice none 0 0)) ∧ Below w.heap.size w wr) (fun z _ => len - (intOf z).toNat)
  case atStart => exact ⟨0, nils len, Nat.zero_le _, rfl, by simp [nils], hown0, fun r hr => by omega, fun r _ hr => by simp [nils, hr], by go_grown⟩
  case round =>
    obtain ⟨j, cs, hj, rfl, hcl, hown, hrows, hnil, hb⟩ := hrel
    have hsz := hb.size
    have hgl := hown.lt
    by_cases hlt : j < len
    · have hcj := hnil j (Nat.le_refl _) hlt
      have HCL := Lib.hid hcl
      have HNIL := Lib.hid hnil
      have HROWS := Lib.hid hrows
      obtain ⟨wo, rfl⟩ : ∃ wo : World, wo = wr := ⟨_, rfl⟩
      have hset : cs.set j (.slice none 0 0) = cs := by
        apply List.ext_getElem?
        intro r
        rw [List.getElem?_set]
        split
        · rename_i e; subst e; split
          · exact hcj.symm
          · rename_i h; exact absurd (by rw [hcl]; exact hlt) h
        · rfl
      have HSET := Lib.hid hset
      clear hcl hnil hrows hset hcj
      go_wp2
      go_loopw [5] (fun z wr => ∃ (i : Nat) (A1 : Option Addr) (c1 : Nat), i ≤ len ∧ z = .int .i64 i ∧ Own wr w.heap.size 26 (cs.set j (.slice A1 (trR nx j i).length c1)) ∧ wr.ownsRow wo.heap.size 3 1 (.slice A1 (trR nx j i).length c1) (trR nx j i).length (iv (ni (trR nx j i))) ∧ Wrote w.heap.size wo wr) (fun z _ => len - (intOf z).toNat)
      case atStart => exact ⟨0, none, 0, Nat.zero_le _, rfl, by show Own wo w.heap.size 26 (cs.set j (.slice none 0 0)); rw [HSET.out]; exact hown, World.ownsRow_nil _ _ _ _, Wrote.of_below (Below.refl _ _)⟩
      case round =>
        obtain ⟨i, A1, c1, hi, rfl, hown1, hrow1, hwr⟩ := hrel
        have hszw := hwr.size
        have hgl1 := hown1.lt
        by_cases hit : i < len
        · have hbw : Below w.heap.size w wr := hb.trans (hwr.below (Nat.le_refl _) hsz)
          obtain ⟨ad, row, Ar, cr, rfl, hbl, hd, hcell, hrow⟩ := (hx.below hbw (Nat.le_refl _)).at_ (k := i) (by rw [HL.out]; exact hit)
          have hrs := row_sc HC.out hd
          subst hrs
          obtain ⟨sl, hsl2⟩ : ∃ sl, (ni (sc nx i)).length = sl := ⟨_, rfl⟩
          have hsl3 : sl ≤ 3 := by have := sc_len HC.out i; rw [← hsl2]; simpa [ni] using this
          rw [hsl2] at hcell
          have HSL := Lib.hid hsl2
          have hslm : sl ≤ maxLen := by unfold maxLen; omega
          have hnx := trR_succ nx j i
          have htl := trR_len nx j i
          generalize trR nx j i = q at *
          have hql : q.length ≤ 8 := by omega
          clear hsl2 hd
          by_cases hin : j ∈ sc nx i
          · have e2 : hasB (ni (sc nx i)) (j : Int) = true := hasB_iff.2 (ni_mem.2 hin)
            rw [if_pos hin] at hnx
            have HNX := Lib.hid hnx
            obtain ⟨ql, hqe⟩ : ∃ ql, q.length = ql := ⟨_, rfl⟩
            have HQ := Lib.hid hqe
            rw [hqe] at hown1 hrow1 hql
            have hcj := hown1.cell (j := j) (v := .slice A1 ql c1) (by rw [List.getElem?_set_self (by rw [HCL.out]; exact hlt)])
            have h63 : ql + 1 ≤ maxLen := by unfold maxLen; omega
            have hbig : (ql + 1) * 8 ≤ 140737488355328 := by omega
            clear hnx hin hqe
            go_wp2_with (first
              | (go_at_call 41; (with_reducible refine (has_any _ Ar sl cr (ni (sc nx i)) _ _ hrow HSL.out hslm).mono ?_); rw [e2]; rintro e w5 ⟨rfl, rfl⟩)
              | (at_builtin; refine wpList_app rfl (.tmp 32) (.tmp 34) 26 rfl wo.heap.size 3 1 8 int_app _ rfl (hrow1.alloc _) [.int .i64 (i : Int)] rfl rfl (fun h => by cases h) (cells_at rfl _ _) (one_cell _) h63 hbig (by simp; omega) ?_; intro A5 c5 w5 hown5 hg5 hb5; have hO5 := (hown1.alloc (.cells #[.int .i64 (i : Int)] 3)).below hb5 (by omega); have hf5 := hO5.frozen j; have hc5 := hO5.cell (j := j) (v := .slice A1 ql c1) (by rw [List.getElem?_set_self (by rw [HCL.out]; exact hlt)]); have hw5 : Wrote w.heap.size wo w5 := (hwr.andThen ((by go_grown : Below wr.heap.size wr (wr.alloc (.cells #[.int .i64 (i : Int)] 3))).mono hszw)).andThen hb5))
            go_round
            case rel =>
              have hlx : (trR nx j (i + 1)).length = ql + 1 := by rw [HNX.out, List.length_append, HQ.out]; rfl
              refine ⟨i + 1, A5, c5, by omega, by go_num, ?_, ?_, hw5.set rfl _⟩
              · have := hO5.set j (.slice A5 (ql + 1) c5)
                rw [List.set_set] at this
                rw [hlx]
                exact this
              · rw [hlx, HNX.out, ni_append, iv_append]
                exact own_farW hown5 (by omega) _
            case measure => (simp [intOf]; omega)
          · have e2 : hasB (ni (sc nx i)) (j : Int) = false := by
              cases h : hasB (ni (sc nx i)) (j : Int) with
              | false => rfl
              | true => exact absurd (ni_mem.1 (hasB_iff.1 h)) hin
            rw [if_neg hin] at hnx
            have HNX := Lib.hid hnx
            clear hnx hin
            go_wp2_with (go_at_call 41; (with_reducible refine (has_any _ Ar sl cr (ni (sc nx i)) _ _ hrow HSL.out hslm).mono ?_); rw [e2]; rintro e w5 ⟨rfl, rfl⟩)
            go_round
            case rel => exact ⟨i + 1, A1, c1, by omega, by go_num, by rw [HNX.out]; exact hown1, by rw [HNX.out]; exact hrow1, hwr⟩
            case measure => (simp [intOf]; omega)
        · have hil : i = len := by omega
          subst hil
          have hrd := own_rdI hrow1 (by simp [ni])
          have hblk := own_slice_block hrow1
          show Code.wp _ _ _ _ _
          go_wp2
          go_round
          case rel =>
            refine ⟨j + 1, _, by omega, by go_num, by rw [List.length_set]; exact HCL.out, hown1, fun r hr => ?_, fun r h1 h2 => ?_, hb.trans (hwr.below (Nat.le_refl _) hsz)⟩
            · by_cases hrj : r = j
              · subst hrj
                rw [← HL.out] at hrd ⊢
                refine ⟨A1, c1, List.getElem?_set_self (by rw [HCL.out]; exact hlt), hrd, fun ad hA => ?_⟩
                have := hblk ad hA
                omega
              · exact RowsAt.wrote HROWS.out hwr (fun r hr => List.getElem?_set_ne (by omega)) r (by omega)
            · rw [List.getElem?_set_ne (by omega)]
              exact HNIL.out r (by omega) h2
          case measure => (simp [intOf]; omega)
    · have hjl : j = len := by omega
      subst hjl
      rw [← HL.out] at hrows hcl
      have HROW := Lib.hid hrows
      have HCLN := Lib.hid hcl
      clear hcl hnil hrows
      go_wp2
      go_ret
      exact ⟨_, rfl, HCLN.out, hown, HROW.out, hb⟩

theorem refTurnedN_any (A : Option Addr) (len cap : Nat) (nx : List (List Int)) (w : World) (hx : RdG w w.heap.size A nx) (hl : nx.length = len) (hc : ckWay nx = 0) :
    Calls Try.prog 59 #[.slice A len cap] w fun e w' => ∃ A' c', e = .returned (.slice A' len c') ∧ RdG w' w'.heap.size A' (trG nx) ∧ NewG w' w.heap.size A' (trG nx) ∧ Below w.heap.size w w' := by
  refine (refTurnedO_any A len cap nx w hx hl hc).mono ?_
  rintro e w' ⟨cs, h1, h2, h3, h4, h5⟩
  exact ⟨_, _, h1, RowsAt.done h2 h3 h4, RowsAt.new h3 h4, h5⟩

theorem refTurned_any (A : Option Addr) (len cap : Nat) (nx : List (List Int)) (w : World) (hx : RdG w w.heap.size A nx) (hl : nx.length = len) (hc : ckWay nx = 0) :
    Calls Try.prog 59 #[.slice A len cap] w fun e w' => ∃ A' c', e = .returned (.slice A' len c') ∧ RdG w' w'.heap.size A' (trG nx) ∧ Below w.heap.size w w' := by
  refine (refTurnedN_any A len cap nx w hx hl hc).mono ?_
  rintro e w' ⟨A', c', h1, h2, _, h4⟩
  exact ⟨A', c', h1, h2, h4⟩

end Go.Proofs.Ytgcjknibelfjbaa
