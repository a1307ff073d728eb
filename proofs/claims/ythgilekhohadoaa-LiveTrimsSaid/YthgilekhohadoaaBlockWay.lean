/-
  block.Way (J2).
-/
import Derived.Test.YthgilekhohadoaaBlockCheck
import Derived.Test.YthgilekhohadoaaTurned
import Derived.Test.YthgilekhohadoaaBlockNx
import Derived.Deep.RegionLaw
import Derived.Laws.Rows
import Derived.BigRegion
namespace Go.Proofs.Ythgilekhohadoaa
open Go.RowKit
set_option linter.unusedSimpArgs false
set_option linter.unusedVariables false
set_option maxRecDepth 100000

/-- rows that are done: below m each is a row of its own, not in block G -/
def RowsN (w : World) (G : Nat) (rows : List (List Int)) (m : Nat) (cs : List Value) : Prop :=
  ∀ (r : Nat) (row : List Int), r < m → rows[r]? = some row → ∃ Ar cr, cs[r]? = some (.slice Ar row.length cr) ∧ RdI w w.heap.size Ar row ∧ ∀ ad, Ar = some ad → G < ad.block

theorem RowsN.step {w w' : World} {G k n c : Nat} {A : Option Addr} {rows : List (List Int)} {row : List Int} {cs cs' : List Value} (h : RowsN w G rows k cs) (hw : Wrote G w w') (he : cs' = cs.set k (.slice A n c)) (hk : k < cs.length)
    (hr : rows[k]? = some row) (hn : row.length = n) (hrd : RdI w' w'.heap.size A row) (hA : ∀ ad, A = some ad → G < ad.block) : RowsN w' G rows (k + 1) cs' := fun r row' hrk hr' => by
  subst he
  by_cases e : r = k
  · subst e
    rw [hr] at hr'
    injection hr' with hr'
    subst hr'
    exact ⟨A, c, by rw [List.getElem?_set_self hk, hn], hrd, hA⟩
  · obtain ⟨Ar, cr, h1, h2, h3⟩ := h r row' (by omega) hr'
    exact ⟨Ar, cr, by rw [List.getElem?_set_ne (by omega)]; exact h1, (h2.but (fun ad hA => by have := h3 ad hA; omega) fun p hp hne => hw.cell hp hne).more hw.size, h3⟩

theorem RowsN.keep {w w' : World} {G k : Nat} {rows : List (List Int)} {cs : List Value} (h : RowsN w G rows k cs) (hw : Wrote G w w') (hr : rows[k]? = some []) (hc : cs[k]? = some (.slice none 0 0)) : RowsN w' G rows (k + 1) cs := fun r row' hrk hr' => by
  by_cases e : r = k
  · subst e
    rw [hr] at hr'
    injection hr' with hr'
    subst hr'
    exact ⟨none, 0, hc, fun h => by simp at h, fun ad hA => by cases hA⟩
  · obtain ⟨Ar, cr, h1, h2, h3⟩ := h r row' (by omega) hr'
    exact ⟨Ar, cr, h1, (h2.but (fun ad hA => by have := h3 ad hA; omega) fun p hp hne => hw.cell hp hne).more hw.size, h3⟩

theorem RowsN.done {w : World} {G : Nat} {rows : List (List Int)} {cs : List Value} (hl : cs.length = rows.length) (ho : Own w G 39 cs) (h : RowsN w G rows rows.length cs) : RdG w w.heap.size (some ⟨G, 0, none⟩) rows := fun hm => by
  refine ⟨_, rfl, ho.lt, fun r row hr => ?_⟩
  have hrl := (List.getElem?_eq_some_iff.1 hr).1
  obtain ⟨Ar, cr, h1, h2, _⟩ := h r row hrl hr
  refine ⟨Ar, cr, ?_, h2⟩
  have ha : (⟨G, 0, none⟩ : Addr).add r = ⟨G, r, none⟩ := by unfold Addr.add; split <;> simp_all
  rw [ha, ho.cell h1]

theorem nxP_got {p : List Bk} {k : Nat} {b : Bk} (h : p[k]? = some b) : (nxP p)[k]? = some (nxB b) := by
  unfold nxP
  rw [List.getElem?_map, h]
  rfl

set_option maxHeartbeats 8000000 in
theorem blockWay_any (n : Nat) (A : Option Addr) (len cap : Nat) (p : List Bk) (w0 : World) (hx0 : RdP w0 w0.heap.size A p) (hl : p.length = len) (hc : ckProg n p = 0) :
    Calls Try.prog 38 #[.int .i64 n, .slice A len cap] w0 fun e w' => ∃ A' c', e = .returned (.tuple #[.slice A' len c', .int .i64 0]) ∧ RdG w' w'.heap.size A' (nxP p) ∧ Below w0.heap.size w0 w' := by
  obtain ⟨b1, b2, b3, b4, b5, _⟩ := ckProg_bd hc
  have HC := Lib.hid hc
  have HL := Lib.hid hl
  have HLN : Hid ((nxP p).length = len) := Lib.hid (by simp [nxP, hl])
  rw [hl] at b3 b4
  have HCK := Lib.hid (blockCheck_any n A len cap p w0 hx0 hl (by unfold maxLen; omega) (CodeFits.of_ok hc))
  rw [hc] at HCK
  have hmk := make_nils (P := Try.prog) 49 39 Try.underlying49 (by kernel_rfl) len (by omega)
  clear hl hc b5
  go_enter Try.func38, Try.ntmps38
  go_wp2_with fail
  (with_reducible refine HCK.out.mono ?_)
  rintro e w ⟨rfl, hbw⟩
  have hx := (hx0.below hbw (Nat.le_refl _)).more hbw.size
  have hws := hbw.size
  clear hx0 HCK
  go_wp2
  have hown0 := Own.new w 39 (nils len)
  clear hmk
  go_loopw [21] (fun z wr => ∃ (k : Nat) (cs : List Value), k ≤ len ∧ z = .int .i64 k ∧ cs.length = len ∧ Own wr w.heap.size 39 cs ∧ RowsN wr w.heap.size (nxP p) k cs ∧ (∀ r, k ≤ r → r < len → cs[r]? = some (.slice none 0 0)) ∧ Below w.heap.size w wr) (fun z _ => len - (intOf z).toNat)
  case atStart => exact ⟨0, nils len, Nat.zero_le _, rfl, by simp [nils], hown0, fun r row hr => by omega, fun r _ hr => by simp [nils, hr], by go_grown⟩
  case round =>
    obtain ⟨k, cs, hk, rfl, hcl, hown, hrows, hnil, hb⟩ := hrel
    have hsz := hb.size
    have hgl := hown.lt
    by_cases hlt : k < len
    · obtain ⟨ad, ⟨code, te, th, el⟩, Ac, cc, rfl, hbl, hd, hrow, hc0, hc1, hc2, hc3⟩ := (hx.below hb (Nat.le_refl _)).at_ (k := k) (by rw [HL.out]; exact hlt)
      have hok := ckProg_at HC.out hd
      have HNX := Lib.hid (nxP_got hd)
      have hth := hok.th
      simp only [] at hth hc0 hc1 hc2 hc3 hrow
      obtain ⟨cl, hcle⟩ : ∃ cl, code.length = cl := ⟨_, rfl⟩
      rw [hcle] at hc0
      have hcj := hnil k (Nat.le_refl _) hlt
      have HCJ := Lib.hid hcj
      have HCL := Lib.hid hcl
      have HNIL := Lib.hid hnil
      have HROWS := Lib.hid hrows
      have HOWN := Lib.hid hown
      have q0 := hown.cell hcj
      have f0 := hown.frozen k
      clear hd hok hrow hcle hcl hnil hrows hcj
      rcases hth with ⟨ht0, ht1⟩ | ⟨rfl, rfl⟩
      · have e0 : (th != -1) = true := by simp; omega
        have hbox := Own.new wr 57 [.slice Ac cl cc, .int .i64 te, .int .i64 th, .int .i64 el]
        have HBOX := Lib.hid hbox
        have g63 : 0 + 1 ≤ maxLen := by unfold maxLen; omega
        have gbig : (0 + 1) * 8 ≤ 140737488355328 := by omega
        have h63 : 1 + 1 ≤ maxLen := by unfold maxLen; omega
        have hbig : (1 + 1) * 8 ≤ 140737488355328 := by omega
        clear hown hbox
        go_wp2
        go_region_law (refine step_app_any rfl (.tmp 34) (.tmp 37) 39 rfl (wr.heap.size + 1) 3 1 8 int_app [] rfl (World.ownsRow_nil _ _ _ _) [.int .i64 th] rfl rfl (fun h => by cases h) (cells_at (by simp) _ _) (one_cell _) g63 gbig (by simp) ?_; intro A5 c5 w5 hown5 hg5 hb5; have hbA : Below (wr.heap.size + 1) (wr.alloc (.cells #[.slice Ac cl cc, .int .i64 te, .int .i64 th, .int .i64 el] 57)) w5 := (by go_grown : Below (wr.heap.size + 1) (wr.alloc (.cells #[.slice Ac cl cc, .int .i64 te, .int .i64 th, .int .i64 el] 57)) _).trans hb5; have hO5 := (HOWN.out.alloc (.cells #[.slice Ac cl cc, .int .i64 te, .int .i64 th, .int .i64 el] 57)).below hbA (by omega); have hf5 := hO5.frozen k; have hc5 := hO5.cell HCJ.out; have hB5 := HBOX.out.below hbA (by omega))
        all_goals
          have hset := hO5.set k (.slice A5 1 c5)
          have hbx := hB5.far (p := ⟨w.heap.size, k, none⟩) (by simp; omega) (.slice A5 1 c5)
          have hrw := own_farW hown5 (p := ⟨w.heap.size, k, none⟩) (by simp; omega) (.slice A5 1 c5)
          have hWr : Wrote w.heap.size wr (w5.setCell ⟨w.heap.size, k, none⟩ (.slice A5 1 c5)) := (Wrote.of_below ((by go_grown : Below wr.heap.size wr (wr.alloc (.cells #[.slice Ac cl cc, .int .i64 te, .int .i64 th, .int .i64 el] 57))).trans (hbA.mono (by omega)))).set (p := ⟨w.heap.size, k, none⟩) rfl _
          obtain ⟨wq, hwq⟩ : ∃ wq, wq = w5.setCell ⟨w.heap.size, k, none⟩ (.slice A5 1 c5) := ⟨_, rfl⟩
          rw [← hwq] at hset hbx hrw hWr ⊢
          have HSET := Lib.hid hset
          have HBX := Lib.hid hbx
          have HRW := Lib.hid hrw
          have HWR := Lib.hid hWr
          have hcs := hset.cell (j := k) (v := .slice A5 1 c5) (List.getElem?_set_self (by rw [HCL.out]; exact hlt))
          have hfz := hset.frozen k
          have a1 := hbx.cell (j := 1) rfl
          have a2 := hbx.cell (j := 2) rfl
          have a3 := hbx.cell (j := 3) rfl
          have hq1 := hbx.lt
          have hq2 := hset.lt
          have HA5 := Lib.hid (own_slice_block hrw)
          clear hwq hset hbx hrw hWr hO5 hB5 hf5 hc5 hbA hown5 hg5 hb5 q0 f0
          by_cases h2 : te ≠ -1 ∧ th ≠ el
          · have hn : nxB ⟨code, te, th, el⟩ = [th, el] := by unfold nxB; rw [if_neg (by simp; omega), if_pos h2]; rfl
            rw [hn] at HNX
            have e1 : (te != -1) = true := by simp [h2.1]
            have e2 : (el != th) = true := by simp; exact fun h => h2.2 h.symm
            clear hn h2
            go_wp2
            go_region_law (refine step_app_any rfl (.tmp 55) (.tmp 58) 39 rfl (wr.heap.size + 1) 3 1 8 int_app _ rfl (own_below HRW.out (by go_grown)) [.int .i64 el] rfl rfl (fun h => by cases h) (cells_at (by simp) _ _) (one_cell _) h63 hbig (by simp; omega) ?_; intro A8 c8 w8 hown8 hg8 hb8; have hbB : Below (wr.heap.size + 1) wq w8 := (by go_grown : Below (wr.heap.size + 1) wq _).trans hb8; have hO8 := HSET.out.below hbB (by omega); have hf8 := hO8.frozen k; have hc8 := hO8.cell (j := k) (v := .slice A5 1 c5) (List.getElem?_set_self (by rw [HCL.out]; exact hlt)))
            all_goals
              have hset8 := hO8.set k (.slice A8 2 c8)
              rw [List.set_set] at hset8
              have hrw8 := own_farW hown8 (p := ⟨w.heap.size, k, none⟩) (by simp; omega) (.slice A8 2 c8)
              have hWr8 : Wrote w.heap.size wr (w8.setCell ⟨w.heap.size, k, none⟩ (.slice A8 2 c8)) := (HWR.out.andThen (hbB.mono (by omega))).set (p := ⟨w.heap.size, k, none⟩) rfl _
              have hA8 := own_slice_block hown8
              go_wp2
              go_round
              case rel => exact ⟨k + 1, _, by omega, by go_num, by rw [List.length_set]; exact HCL.out, hset8, HROWS.out.step hWr8 rfl (by rw [HCL.out]; exact hlt) HNX.out rfl (own_rdI (xs := [th, el]) hrw8 rfl) (fun a ha => by have := hA8 a ha; omega), fun r h1 h2 => by rw [List.getElem?_set_ne (by omega)]; exact HNIL.out r (by omega) h2, hb.trans (hWr8.below (Nat.le_refl _) hsz)⟩
              case measure => (simp [intOf]; omega)
          · have hn : nxB ⟨code, te, th, el⟩ = [th] := by unfold nxB; rw [if_neg (by simp; omega), if_neg h2]; rfl
            rw [hn] at HNX
            have h3 : te = -1 ∨ (te ≠ -1 ∧ el = th) := by omega
            clear hn h2
            rcases h3 with rfl | ⟨h3, rfl⟩
            · go_wp2
              go_round
              case rel => exact ⟨k + 1, _, by omega, by go_num, by rw [List.length_set]; exact HCL.out, HSET.out, HROWS.out.step HWR.out rfl (by rw [HCL.out]; exact hlt) HNX.out rfl (own_rdI (xs := [th]) HRW.out rfl) (fun a ha => by have := HA5.out a ha; omega), fun r h1 h2 => by rw [List.getElem?_set_ne (by omega)]; exact HNIL.out r (by omega) h2, hb.trans (HWR.out.below (Nat.le_refl _) hsz)⟩
              case measure => (simp [intOf]; omega)
            · have e1 : (te != -1) = true := by simp [h3]
              clear h3
              go_wp2
              go_round
              case rel => exact ⟨k + 1, _, by omega, by go_num, by rw [List.length_set]; exact HCL.out, HSET.out, HROWS.out.step HWR.out rfl (by rw [HCL.out]; exact hlt) HNX.out rfl (own_rdI (xs := [el]) HRW.out rfl) (fun a ha => by have := HA5.out a ha; omega), fun r h1 h2 => by rw [List.getElem?_set_ne (by omega)]; exact HNIL.out r (by omega) h2, hb.trans (HWR.out.below (Nat.le_refl _) hsz)⟩
              case measure => (simp [intOf]; omega)
      · have hn : nxB ⟨code, -1, -1, el⟩ = [] := by unfold nxB; rw [if_pos rfl, if_neg (by simp)]; rfl
        rw [hn] at HNX
        clear hn
        go_wp2
        go_round
        case rel => exact ⟨k + 1, cs, by omega, by go_num, HCL.out, hown.alloc _, HROWS.out.keep (Wrote.of_below (by go_grown)) HNX.out HCJ.out, fun r h1 h2 => HNIL.out r (by omega) h2, by go_grown⟩
        case measure => (simp [intOf]; omega)
    · have hkl : k = len := by omega
      subst hkl
      rw [← HLN.out] at hrows hcl
      have HRD := Lib.hid (RowsN.done hcl hown hrows)
      clear hcl hnil hrows
      go_wp2
      go_ret2
      exact ⟨_, _, rfl, HRD.out, hbw.trans (hb.mono hws)⟩

end Go.Proofs.Ythgilekhohadoaa
