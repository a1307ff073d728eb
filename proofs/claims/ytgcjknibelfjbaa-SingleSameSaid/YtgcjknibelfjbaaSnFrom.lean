/-
  single.sources (M1, M2).
-/
import Derived.Test.YtgcjknibelfjbaaRowsO
import Derived.Test.YtgcjknibelfjbaaSingleFrom
import Derived.Test.YtgcjknibelfjbaaMBlock
import Derived.Deep.RegionLaw
import Derived.Laws.Rows
import Derived.BigRegion
namespace Go.Proofs.Ytgcjknibelfjbaa
open Go.RowKit
set_option linter.unusedSimpArgs false
set_option linter.unusedVariables false
set_option maxRecDepth 100000

/-- the sources found when i rows and c points of the next one have been looked at -/
def srcR (nx : List (List Int)) (i c : Nat) : List (List Int) :=
  (List.range nx.length).map fun j => (if j = 0 then [-1] else []) ++ ni (trR nx j i) ++ (if j ∈ (sc nx i).take c then [(i : Int)] else [])

theorem srcR_len (nx : List (List Int)) (i c : Nat) : (srcR nx i c).length = nx.length := by simp [srcR]

theorem srcR_at {nx : List (List Int)} {i c j : Nat} (h : j < nx.length) : (srcR nx i c)[j]? = some ((if j = 0 then [-1] else []) ++ ni (trR nx j i) ++ (if j ∈ (sc nx i).take c then [(i : Int)] else [])) := by
  unfold srcR
  rw [List.getElem?_map, List.getElem?_range h]
  rfl

theorem srcR_start {nx : List (List Int)} (h : 1 ≤ nx.length) : srcR nx 0 0 = (List.replicate nx.length []).set 0 [-1] := by
  apply List.ext_getElem?
  intro j
  rcases Nat.lt_or_ge j nx.length with hj | hj
  · rw [srcR_at hj]
    by_cases e : j = 0
    · subst e
      rw [List.getElem?_set_self (by simpa using hj)]
      simp [trR, ni]
    · rw [List.getElem?_set_ne (Ne.symm e), List.getElem?_replicate, if_pos hj, if_neg e]
      simp [trR, ni]
  · rw [List.getElem?_eq_none (by rw [srcR_len]; exact hj), List.getElem?_eq_none (by simpa using hj)]

theorem srcR_step {nx : List (List Int)} {i c t : Nat} {row : List Int} (hnd : (sc nx i).Nodup) (ht : (sc nx i)[c]? = some t) (hr : (srcR nx i c)[t]? = some row) : srcR nx i (c + 1) = (srcR nx i c).set t (row ++ [(i : Int)]) := by
  have htl : t < nx.length := by have := (List.getElem?_eq_some_iff.1 hr).1; rwa [srcR_len] at this
  have hnot : t ∉ (sc nx i).take c := fun hm => by
    obtain ⟨k, hk, e⟩ := List.getElem_of_mem hm
    rw [List.length_take] at hk
    have h1 : (sc nx i)[k]? = some t := by rw [← e, List.getElem_take]; exact List.getElem?_eq_getElem (by omega)
    have hkl : k < (sc nx i).length := by omega
    have := (List.getElem?_inj hkl hnd).1 (h1.trans ht.symm)
    omega
  have htk : ∀ j, j ∈ (sc nx i).take (c + 1) ↔ j ∈ (sc nx i).take c ∨ j = t := fun j => by
    rw [List.take_add_one, ht, Option.toList_some, List.mem_append, List.mem_singleton]
  apply List.ext_getElem?
  intro j
  rcases Nat.lt_or_ge j nx.length with hj | hj
  · rw [srcR_at hj]
    by_cases e : j = t
    · subst e
      rw [List.getElem?_set_self (by rw [srcR_len]; exact hj)]
      rw [srcR_at hj, if_neg hnot] at hr
      injection hr with hr
      rw [if_pos ((htk j).2 (.inr rfl)), ← hr]
      simp
    · rw [List.getElem?_set_ne (Ne.symm e), srcR_at hj]
      by_cases hm : j ∈ (sc nx i).take c
      · rw [if_pos hm, if_pos ((htk j).2 (.inl hm))]
      · have h2 : ¬ j ∈ (sc nx i).take (c + 1) := fun h => by
          rcases (htk j).1 h with h | h
          · exact hm h
          · exact e h
        rw [if_neg hm, if_neg h2]
  · rw [List.getElem?_eq_none (by rw [srcR_len]; exact hj), List.getElem?_eq_none (by rw [List.length_set, srcR_len]; exact hj)]

theorem srcR_row {nx : List (List Int)} {i c : Nat} (h : (sc nx i).length ≤ c) : srcR nx i c = srcR nx (i + 1) 0 := by
  apply List.ext_getElem?
  intro j
  rcases Nat.lt_or_ge j nx.length with hj | hj
  · rw [srcR_at hj, srcR_at hj, List.take_of_length_le h, trR_succ]
    by_cases hm : j ∈ sc nx i
    · rw [if_pos hm, if_pos hm, ni_append]
      simp [ni]
    · rw [if_neg hm, if_neg hm]
      simp
  · rw [List.getElem?_eq_none (by rw [srcR_len]; exact hj), List.getElem?_eq_none (by rw [srcR_len]; exact hj)]

theorem srcR_done (nx : List (List Int)) : srcR nx nx.length 0 = frG nx := by
  apply List.ext_getElem?
  intro j
  rcases Nat.lt_or_ge j nx.length with hj | hj
  · rw [srcR_at hj, frG_at hj]
    by_cases e : j = 0
    · subst e; simp
    · rw [if_neg e, if_neg e]; simp
  · rw [List.getElem?_eq_none (by rw [srcR_len]; exact hj), List.getElem?_eq_none (by rw [frG_len]; exact hj)]

theorem srcR_small {nx : List (List Int)} {i c j : Nat} {row : List Int} (h : (srcR nx i c)[j]? = some row) : row.length ≤ i + 2 := by
  have hj : j < nx.length := by have := (List.getElem?_eq_some_iff.1 h).1; rwa [srcR_len] at this
  rw [srcR_at hj] at h
  injection h with h
  have := trR_len nx j i
  rw [← h]
  simp only [List.length_append, ni, List.length_map]
  have h1 : (if j = 0 then [-1] else [] : List Int).length ≤ 1 := by split <;> simp
  have h2 : (if j ∈ (sc nx i).take c then [(i : Int)] else [] : List Int).length ≤ 1 := by split <;> simp
  omega

/-- each point once -/
theorem nxP_nodup {p : List Bk} (hc : ckWay (nxP p) = 0) (i : Nat) : (sc (nxP p) i).Nodup := by
  rcases Nat.lt_or_ge i (nxP p).length with h | h
  · have hp : i < p.length := by simpa [nxP] using h
    have e := nxP_got (List.getElem?_eq_getElem hp)
    have hrow := (ckWay_bd hc).2.2 _ (List.mem_of_getElem? e)
    rw [sc_at e]
    obtain ⟨b, hb⟩ : ∃ b, p[i] = b := ⟨_, rfl⟩
    rw [hb] at hrow ⊢
    unfold nxB at hrow ⊢
    by_cases h1 : b.th = -1
    · rw [if_pos h1]
      split <;> simp
    · rw [if_neg h1] at hrow ⊢
      by_cases h2 : b.test ≠ -1 ∧ b.th ≠ b.el
      · rw [if_pos h2] at hrow ⊢
        have g1 := hrow.2 b.th (by simp)
        have g2 := hrow.2 b.el (by simp)
        simp
        omega
      · rw [if_neg h2]
        simp
  · rw [sc_out h]
    exact List.nodup_nil

set_option maxHeartbeats 4000000 in
theorem sourcesO_any (A : Option Addr) (len cap : Nat) (nx : List (List Int)) (w : World) (hx : RdG w w.heap.size A nx) (hl : nx.length = len) (hc : ckWay nx = 0) (hnd : ∀ i, (sc nx i).Nodup) :
    Calls Try.prog 27 #[.slice A len cap] w fun e w' => ∃ cs, e = .returned (.slice (some ⟨w.heap.size, 0, none⟩) len len) ∧ RowsO w' w.heap.size (frG nx) cs ∧ Below w.heap.size w w' := by
  obtain ⟨b1, b2, b3⟩ := ckWay_bd hc
  have HC := Lib.hid hc
  have HL := Lib.hid hl
  have HND := Lib.hid hnd
  rw [hl] at b1 b2
  have hmk := make_nils (P := Try.prog) 51 26 Try.underlying51 (by kernel_rfl) len (by omega)
  clear hl hc b3 hnd
  have hmem0 : (nils len)[0]? = some (.slice none 0 0) := by
    unfold nils
    rw [List.getElem?_replicate, if_pos (by omega)]
  go_enter Try.func27, Try.ntmps27
  go_wp2
  have hlit : ((w.alloc (.cells ((nils len).set 0 (.slice (some ⟨w.heap.size + 1, 0, none⟩) 1 1)).toArray 26)).alloc (.cells #[.int .i64 (-1)] 3)).ownsRow (w.heap.size + 1) 3 1 (.slice (some ⟨w.heap.size + 1, 0, none⟩) 1 1) 1 [.int .i64 (-1)] := ⟨rfl, .inr ⟨w.heap.size + 1, 1, #[.int .i64 (-1)], rfl, Nat.le_refl _, by have := heap_alloc_new (w.alloc (.cells ((nils len).set 0 (.slice (some ⟨w.heap.size + 1, 0, none⟩) 1 1)).toArray 26)) (.cells #[.int .i64 (-1)] 3); simpa using this, Nat.le_refl _, by simp [maxLen], rfl, rfl⟩⟩
  have hR1 := RowsO.first b1 ((Own.new w 26 _).alloc _) hlit
  rw [← HL.out, ← srcR_start (by rw [HL.out]; exact b1)] at hR1
  have HR1 := Lib.hid hR1
  rw [HL.out] at HR1
  clear hlit hR1 hmem0 hmk
  go_loopw [16] (fun z wr => ∃ (k : Nat) (cs : List Value), k ≤ len ∧ z = .int .i64 k ∧ RowsO wr w.heap.size (srcR nx k 0) cs ∧ Below w.heap.size w wr) (fun z _ => len - (intOf z).toNat)
  case atStart => exact ⟨0, _, Nat.zero_le _, rfl, HR1.out, by go_grown⟩
  case round =>
    obtain ⟨k, cs, hk, rfl, hrs, hb⟩ := hrel
    have hsz := hb.size
    have HRS := Lib.hid hrs
    clear hrs HR1
    by_cases hlt : k < len
    · obtain ⟨ad, row, Ar, cr, rfl, hbl, hd, hcell, hrow⟩ := (hx.below hb (Nat.le_refl _)).at_ (k := k) (by rw [HL.out]; exact hlt)
      have hrs := row_sc HC.out hd
      subst hrs
      obtain ⟨sl, hsl2⟩ : ∃ sl, (ni (sc nx k)).length = sl := ⟨_, rfl⟩
      have hsl3 : sl ≤ 3 := by have := sc_len HC.out k; rw [← hsl2]; simpa [ni] using this
      have HSC : Hid ((sc nx k).length = sl) := Lib.hid (by rw [← hsl2]; simp [ni])
      rw [hsl2] at hcell
      have HSL := Lib.hid hsl2
      have HROW := Lib.hid hrow
      obtain ⟨wo, rfl⟩ : ∃ wo : World, wo = wr := ⟨_, rfl⟩
      clear hsl2 hd hrow
      go_wp2
      go_loopw [23] (fun z wr => ∃ (c : Nat) (cs : List Value), c ≤ sl ∧ z = .int .i64 c ∧ RowsO wr w.heap.size (srcR nx k c) cs ∧ Below w.heap.size wo wr) (fun z _ => sl - (intOf z).toNat)
      case atStart => exact ⟨0, cs, Nat.zero_le _, rfl, HRS.out, Below.refl _ _⟩
      case round =>
        obtain ⟨c, cs2, hc, rfl, hrs2, hwr⟩ := hrel
        have HRS2 := Lib.hid hrs2
        clear hrs2
        by_cases hct : c < sl
        · obtain ⟨ad2, x, rfl, hbl2, hd2, hcell2⟩ := (HROW.out.below hwr (Nat.le_refl _)).at_ (k := c) (by rw [HSL.out]; exact hct)
          have hx2 : ∃ t, (sc nx k)[c]? = some t ∧ x = (t : Int) := by
            unfold ni at hd2
            rw [List.getElem?_map] at hd2
            obtain ⟨t, h1, h2⟩ := Option.map_eq_some_iff.1 hd2
            exact ⟨t, h1, h2.symm⟩
          obtain ⟨t, ht, rfl⟩ := hx2
          have htl : t < len := by rw [← HL.out]; exact sc_lt HC.out (List.mem_of_getElem? ht)
          have hrow2 := List.getElem?_eq_getElem (l := srcR nx k c) (i := t) (by rw [srcR_len, HL.out]; exact htl)
          obtain ⟨row2, hrw⟩ : ∃ r, (srcR nx k c)[t]'(by rw [srcR_len, HL.out]; exact htl) = r := ⟨_, rfl⟩
          rw [hrw] at hrow2
          have HSTEP := Lib.hid (srcR_step (HND.out k) ht hrow2)
          have hsm := srcR_small hrow2
          obtain ⟨A1, c1, hcs, hown1⟩ := HRS2.out.rows t row2 hrow2
          have HROW2 := Lib.hid hrow2
          have HCS := Lib.hid hcs
          obtain ⟨ql, hql⟩ : ∃ ql, row2.length = ql := ⟨_, rfl⟩
          have HQL := Lib.hid hql
          rw [hql] at hcs hown1 hsm
          have HOWN1 := Lib.hid hown1
          have hq0 := HRS2.out.own.cell hcs
          have hf0 := HRS2.out.own.frozen t
          have hgl := HRS2.out.own.lt
          have h63 : ql + 1 ≤ maxLen := by unfold maxLen; omega
          have hbig : (ql + 1) * 8 ≤ 140737488355328 := by omega
          clear ht hd2 hrw hrow2 hcs hown1 hql
          go_wp2_with (at_builtin; refine wpList_app' rfl (.tmp 32) (.tmp 34) 26 rfl (w.heap.size + 1) 3 1 8 int_app _ rfl (HOWN1.out.alloc _) [.int .i64 (k : Int)] rfl rfl (fun h => by cases h) (cells_at (by simp) _ _) (one_cell _) h63 hbig (by simp; omega) ?_; intro A5 c5 w5 hown5 hg5 hb5 hk5; have hO5 := (HRS2.out.own.alloc (.cells #[.int .i64 (k : Int)] 3)).below hb5 (Nat.lt_succ_self _); have hc5 := hO5.cell HCS.out; have hf5 := hO5.frozen t)
          have hap := RowsO.app (x := (k : Int)) (A' := A5) (c' := c5) (w' := w5) (X := wr.alloc (.cells #[.int .i64 (k : Int)] 3)) HRS2.out (by go_grown) HROW2.out HCS.out (by rw [HQL.out]; exact hown5) (by rw [HQL.out]; exact hg5) (by rw [HQL.out]; exact hk5)
          rw [HQL.out, ← HSTEP.out] at hap
          have HAP := Lib.hid hap
          clear hap
          go_round
          case rel => exact ⟨c + 1, _, by omega, by go_num, HAP.out, hwr.trans ((Below.mono ((by go_grown : Below wr.heap.size wr _)) (by omega)).trans ((hb5.mono (Nat.le_succ _)).setCell (Nat.le_refl _) _))⟩
          case measure => (simp [intOf]; omega)
        · have HRS3 : Hid (RowsO wr w.heap.size (srcR nx (k + 1) 0) cs2) := Lib.hid (by rw [← srcR_row (i := k) (c := c) (by rw [HSC.out]; omega)]; exact HRS2.out)
          go_wp2
          go_round
          case rel => exact ⟨k + 1, _, by omega, by go_num, HRS3.out, hb.trans hwr⟩
          case measure => (simp [intOf]; omega)
    · have hkl : k = nx.length := by rw [HL.out]; omega
      have HRD : Hid (RowsO wr w.heap.size (frG nx) cs) := Lib.hid (by
        have := HRS.out
        rw [hkl, srcR_done] at this
        exact this)
      clear hkl
      go_wp2
      go_ret
      exact ⟨cs, rfl, HRD.out, hb⟩

theorem sources_any (A : Option Addr) (len cap : Nat) (nx : List (List Int)) (w : World) (hx : RdG w w.heap.size A nx) (hl : nx.length = len) (hc : ckWay nx = 0) (hnd : ∀ i, (sc nx i).Nodup) :
    Calls Try.prog 27 #[.slice A len cap] w fun e w' => ∃ A' c', e = .returned (.slice A' len c') ∧ RdG w' w'.heap.size A' (frG nx) ∧ Below w.heap.size w w' :=
  (sourcesO_any A len cap nx w hx hl hc hnd).mono fun e w' ⟨cs, he, hr, hb⟩ => ⟨_, _, he, hr.rd, hb⟩

end Go.Proofs.Ytgcjknibelfjbaa
