/-
  cut.Slice (T2): package cut keeps its contracts.
-/
import Derived.Test.YtfhnhbkdhdocjaaCutCk
import Derived.Test.YtfhnhbkdhdocjaaCutKept
import Derived.Test.YtfhnhbkdhdocjaaBlocks
import Derived.Deep.RegionHeld
namespace Go.Proofs.Ytfhnhbkdhdocjaa
open Go.RowKit
set_option linter.unusedSimpArgs false
set_option linter.unusedVariables false
set_option maxRecDepth 100000

/-- the blocks done so far, in their places -/
def SlF (p : List Bk) (MS : Nat → Nat → Prop) (MT : Nat → Prop) (k : Nat) (qs : List (Bk × Option Addr × Nat)) : Prop := ∀ (i : Nat) (b : Bk), i < k → p[i]? = some b → ∃ q, qs[i]? = some q ∧ SlB p MS MT i b q.1

theorem SlF.put {p : List Bk} {MS : Nat → Nat → Prop} {MT : Nat → Prop} {k : Nat} {qs : List (Bk × Option Addr × Nat)} {b : Bk} {q : Bk × Option Addr × Nat} (h : SlF p MS MT k qs) (hk : k < qs.length) (hb : p[k]? = some b) (hs : SlB p MS MT k b q.1) : SlF p MS MT (k + 1) (qs.set k q) := fun i b' hi hb' => by
  by_cases e : i = k
  · subst e
    rw [hb] at hb'
    injection hb' with hb'
    subst hb'
    exact ⟨q, List.getElem?_set_self hk, hs⟩
  · obtain ⟨q', h1, h2⟩ := h i b' (by omega) hb'
    exact ⟨q', by rw [List.getElem?_set_ne (Ne.symm e)]; exact h1, h2⟩

theorem SlF.done {p : List Bk} {MS : Nat → Nat → Prop} {MT : Nat → Prop} {qs : List (Bk × Option Addr × Nat)} (h : SlF p MS MT p.length qs) (hl : qs.length = p.length) : SlP p MS MT (qs.map (·.1)) :=
  ⟨by rw [List.length_map]; exact hl, fun i b hb => by
    obtain ⟨q, h1, h2⟩ := h i b (List.getElem?_eq_some_iff.1 hb).1 hb
    exact ⟨q.1, by rw [List.getElem?_map, h1]; rfl, h2⟩⟩

/-- blocks kept, where nothing below turns -/
theorem FdG.below {w w' : World} {g S : Nat} {qs : List (Bk × Option Addr × Nat)} (hf : FdG w g S qs) (hb : Below w.heap.size w w') : FdG w' g S qs :=
  ⟨hf.own.below hb hf.own.lt, fun r q hq => ⟨((hf.rows r q hq).1.below hb (Nat.le_refl _)).more hb.size, (hf.rows r q hq).2⟩⟩

/-- a store into a block in which no row lies -/
theorem FdG.farB {w : World} {g S B : Nat} {qs : List (Bk × Option Addr × Nat)} (hf : FdG w g S qs) {p : Addr} (hp : p.block = B) (hg : g ≠ B) (hr : ∀ (r : Nat) (q : Bk × Option Addr × Nat), qs[r]? = some q → 0 < q.1.code.length → ∀ ad, q.2.1 = some ad → ad.block ≠ B) (v : Value) : FdG (w.setCell p v) g S qs :=
  ⟨hf.own.far (by rw [hp]; exact hg) v, fun r q hq => by
    obtain ⟨h1, h2, h3⟩ := hf.rows r q hq
    refine ⟨fun hm => ?_, h2, h3⟩
    obtain ⟨ad, e, hb, hc⟩ := h1 hm
    refine ⟨ad, e, by simpa using hb, fun j hj => ?_⟩
    rw [← hc j hj]
    refine World.cell?_of_block (Below.heap_setCell _ _ _ _ ?_)
    rw [addr_add_block, hp]
    exact hr r q hq (by omega) ad e⟩

theorem rdS_farB {w : World} {A : Option Addr} {l : List St} (h : RdS w w.heap.size A l) {p : Addr} (hp : ∀ ad, A = some ad → 0 < l.length → ad.block ≠ p.block) (v : Value) : RdS (w.setCell p v) (w.setCell p v).heap.size A l := fun hm => by
  obtain ⟨ad, e, hb, hc⟩ := h hm
  refine ⟨ad, e, by simpa using hb, fun j hj => ?_⟩
  rw [← hc j hj]
  refine World.cell?_of_block (Below.heap_setCell _ _ _ _ ?_)
  rw [addr_add_block]
  exact hp ad e (by omega)

theorem own_blkC {w : World} {base n c : Nat} {e : TypeId} {A : Option Addr} {xs : List Value} {size : Nat} (h : w.ownsRow base e size (.slice A n c) n xs) : ∀ ad, A = some ad → base ≤ ad.block := fun ad hA => (h.lt ad.block (by rw [hA]; rfl)).1

set_option maxHeartbeats 16000000 in
theorem cutSlice_any (n want : Nat) (A : Option Addr) (len cap : Nat) (p : List Bk) (w : World) (hx : RdP w w.heap.size A p) (hl : p.length = len) (hc : ckProg n p = 0) (hw : want < 2 ^ n) (hst : StopsP (nxP p)) :
    Calls Try.prog 43 #[.int .i64 n, .slice A len cap, .int .u32 (want : Nat)] w fun e w' => ∃ (A' : Option Addr) (c' : Nat) (q : List Bk) (MS : Nat → Nat → Prop) (MT : Nat → Prop), e = .returned (.tuple #[.slice A' len c', .int .i64 0]) ∧ Ndd p want MS MT ∧ SlP p MS MT q ∧ RdP w' w'.heap.size A' q ∧ Below w.heap.size w w' := by
  obtain ⟨_, _, b3, b4, b5, _⟩ := ckProg_bd hc
  have HCK := Lib.hid (cutCheck_any n want A len cap p true w hx hl hc hw ⟨fun _ => hst, fun _ => rfl⟩)
  have HRQ := Lib.hid (fun (NA : Option Addr) (nc : Nat) (Z : World) (hZ : Below w.heap.size w Z) (hg : RdG Z Z.heap.size NA (nxP p)) => required_any n want A NA len cap nc p Z ((hx.below hZ (Nat.le_refl _)).more hZ.size) hg hl hc hw)
  have HRP := Lib.hid (fun (Z : World) (hZ : Below w.heap.size w Z) => (RdP.below hx hZ (Nat.le_refl _)).more hZ.size)
  have HC := Lib.hid hc
  have HL := Lib.hid hl
  have HWAY := Lib.hid (nxP_way hc)
  have HNL : Hid ((nxP p).length = len) := Lib.hid (by unfold nxP; rw [List.length_map]; exact hl)
  have HCL20 : Hid (∀ (i : Nat) (b : Bk), p[i]? = some b → b.code.length ≤ 20) := Lib.hid fun i b hb => by have := manyS_le hb; omega
  rw [hl] at b3 b4
  have hmk := make_blocks (P := Try.prog) 22 79 Try.underlying22 (by kernel_rfl) len (by omega)
  obtain ⟨qs0, hqs0⟩ : ∃ qs0, qs0 = List.replicate len ((⟨[], 0, 0, 0⟩ : Bk), (none : Option Addr), 0) := ⟨_, rfl⟩
  rw [← hqs0] at hmk
  have HQ0 : Hid (qs0.length = len) := Lib.hid (by rw [hqs0]; simp)
  have HQR : Hid (∀ (r : Nat) (q : Bk × Option Addr × Nat), qs0[r]? = some q → q = ((⟨[], 0, 0, 0⟩ : Bk), (none : Option Addr), 0)) := Lib.hid fun r q hq => by
    rw [hqs0, List.getElem?_replicate] at hq
    split at hq
    · injection hq with hq; exact hq.symm
    · cases hq
  clear hx hl hc hst hqs0
  go_enter Try.func43, Try.ntmps43
  go_wp2_with fail
  refine HCK.out.mono ?_
  rintro e w1 ⟨(⟨_, NA, LA, nc, lc, ws, rfl, hlst, hg1, hu1⟩ | ⟨h, _⟩), hb1⟩
  rotate_left
  · cases h
  have HR1 := Lib.hid (HRQ.out NA nc w1 hb1 hg1)
  have HLS := Lib.hid hlst
  clear hlst hg1
  go_wp2_with fail
  refine HR1.out.mono ?_
  rintro e w2 ⟨MA, t, ms, rfl, hnd, hrm, hb2⟩
  have HND := Lib.hid hnd
  have hu2 := (RdU.below hu1 hb2 (Nat.le_refl _)).more hb2.size
  have hb02 := below_via hb1 hb2
  obtain ⟨g, hg⟩ : ∃ g, w2.heap.size = g := ⟨_, rfl⟩
  have hA : Below w2.heap.size w2 (w2.alloc (.cells (rv cBk qs0).toArray 79)) := by go_grown
  have HO0 : Hid (Own (w2.alloc (.cells (rv cBk qs0).toArray 79)) g 79 (rv cBk qs0)) := Lib.hid (by rw [← hg]; exact Own.new w2 _ _)
  have hsA : (w2.alloc (.cells (rv cBk qs0).toArray 79)).heap.size = g + 1 := by rw [← hg]; simp
  have HBA := Lib.hid (below_via hb02 hA)
  have HUA : Hid (RdU (w2.alloc (.cells (rv cBk qs0).toArray 79)) g LA ws) := Lib.hid (by rw [← hg]; exact RdU.below hu2 hA (Nat.le_refl _))
  have HMA : Hid (RdM2 (w2.alloc (.cells (rv cBk qs0).toArray 79)) g MA ms) := Lib.hid (by rw [← hg]; exact RdM2.below hrm hA (Nat.le_refl _))
  have HSA := Lib.hid hsA
  have HBG : Hid (w.heap.size ≤ g) := Lib.hid (by rw [← hg]; exact hb02.size)
  clear hnd hrm hu1 hu2 hb1 hb2 hb02 hA hsA
  go_wp2_with fail
  clear hg
  obtain ⟨wA, hwA⟩ : ∃ wA : World, w2.alloc (.cells (rv cBk qs0).toArray 79) = wA := ⟨_, rfl⟩
  rw [hwA] at HO0 HBA HUA HMA HSA ⊢
  clear hwA hmk
  have HF0 : Hid (FdG wA g (g + 1) qs0) := Lib.hid ⟨HO0.out, fun r q hq => by
    rw [HQR.out r q hq]
    exact ⟨fun hm => by simp at hm, Nat.le_refl _, fun ad hA => by cases hA⟩⟩
  go_loopw [39] (fun z wr => ∃ (i : Nat) (qs : List (Bk × Option Addr × Nat)), i ≤ len ∧ z = .int .i64 i ∧ Hid (FdG wr g (g + 1) qs) ∧ Hid (qs.length = len) ∧ Hid (SlF p (mkS ms) (mkT t) i qs) ∧ Hid (Below g wA wr)) (fun z _ => len - (intOf z).toNat)
  case atStart => exact ⟨0, qs0, Nat.zero_le _, rfl, HF0, HQ0, Lib.hid (fun i b h => by omega), Lib.hid (Below.refl _ _)⟩
  case round =>
    obtain ⟨i, qs, hi, rfl, HFG, HQL, HSF, HB⟩ := hrel
    have hszr := HB.out.size
    have hsA := HSA.out
    have hwg := HBG.out
    by_cases hit : i < len
    · have hbwr : Below w.heap.size w wr := HBA.out.trans (HB.out.mono hwg)
      obtain ⟨ad, bk, Ac, cc, rfl, hbl, hd, hrow, e0, e1, e2, e3⟩ := (HRP.out wr hbwr).at_ (k := i) (by rw [HL.out]; exact hit)
      have HD := Lib.hid hd
      have h20 := HCL20.out i bk hd
      obtain ⟨r0, hr0⟩ : ∃ r0, ms[i]? = some r0 := ⟨_, List.getElem?_eq_getElem (by rw [HND.out.sl, HL.out]; exact hit)⟩
      have hrl0 := HND.out.rl i bk r0 hd hr0
      obtain ⟨code, te, th, el⟩ := bk
      simp only [] at e0 e1 e2 e3 hrow h20 hrl0
      obtain ⟨cl, hcl⟩ : ∃ cl, code.length = cl := ⟨_, rfl⟩
      have HCL := Lib.hid hcl
      rw [hcl] at e0 h20 hrl0
      have hiq : i < qs.length := by rw [HQL.out]; exact hit
      obtain ⟨q0, hq0⟩ : ∃ q0, qs[i]? = some q0 := ⟨_, List.getElem?_eq_getElem hiq⟩
      obtain ⟨mad, row, Ar, cr, hMA, hmbl, hmrow, hmc, hmrd⟩ := (HMA.out.below HB.out (Nat.le_refl _)).at_ (k := i) (by rw [HND.out.sl, HL.out]; exact hit)
      subst hMA
      rw [hr0] at hmrow
      injection hmrow with hmrow
      subst hmrow
      rw [hrl0] at hmc
      have HMS : Hid (∀ k, mkS ms i k ↔ r0[k]? = some true) := Lib.hid fun k => by
        unfold mkS
        rw [List.getD_eq_getElem?_getD (l := ms), hr0, Option.getD_some, List.getD_eq_getElem?_getD]
        cases r0[k]? <;> simp
      obtain ⟨B, hBe⟩ : ∃ B, wr.heap.size = B := ⟨_, rfl⟩
      obtain ⟨Wb, hWb⟩ : ∃ Wb : World, (wr.alloc (.cells #[.slice Ac cl cc, .int .i64 te, .int .i64 th, .int .i64 el] 79)).drew = Wb := ⟨_, rfl⟩
      have hbB : Below wr.heap.size wr Wb := by rw [← hWb]; exact ((Below.refl wr.heap.size wr).alloc (Nat.le_refl _) _).drew
      have hsb : Wb.heap.size = B + 1 := by
        rw [← hWb, ← hBe]
        exact (World.size_alloc _ _)
      have hOb : Own Wb B 79 [.slice Ac cl cc, .int .i64 te, .int .i64 th, .int .i64 el] := by
        rw [← hWb, ← hBe]
        exact (Own.new wr 79 [.slice Ac cl cc, .int .i64 te, .int .i64 th, .int .i64 el]).drew
      have hmcb : Wb.cell? (mad.add i) = some (.slice Ar cl cr) := (hbB.cell (by omega)).trans hmc
      have HKP := Lib.hid (kept_any (mkS ms) i Ac Ar cl cc cr code r0 Wb ((hrow.below hbB (Nat.le_refl _)).more hbB.size) (((hmrd.more (by omega : g ≤ wr.heap.size)).below hbB (Nat.le_refl _)).more hbB.size) HCL.out hrl0 (by omega) HMS.out)
      have HBWB := Lib.hid hbB
      have HOB := Lib.hid hOb
      have hx0 := hOb.cell (j := 0) rfl
      have HROWS : Hid (∀ (r : Nat) (q : Bk × Option Addr × Nat), qs[r]? = some q → 0 < q.1.code.length → ∀ ad, q.2.1 = some ad → ad.block < B) := Lib.hid fun r q hq hm ad hA => by
        obtain ⟨ad', e, hb, _⟩ := (HFG.out.rows r q hq).1 (by omega)
        rw [hA] at e
        injection e with e
        subst e
        omega
      have HQ0' := Lib.hid hq0
      have hgl := HFG.out.own.lt
      rw [hBe] at hgl hszr
      rw [← hWb] at hmcb hx0
      have HT := HND.out.lt
      have hi32 : i < 32 := by omega
      obtain ⟨bt, hbt⟩ : ∃ bt, t.testBit i = bt := ⟨_, rfl⟩
      have HBT := Lib.hid hbt
      have HWB := Lib.hid hWb
      have HSB := Lib.hid hsb
      have HBE := Lib.hid hBe
      clear hd hr0 hcl hq0 hrow hmrd hmc hOb hbB hWb hsb hbt hBe
      have HK2 := HKP.out
      rw [← HWB.out] at HK2
      have HK3 := Lib.hid HK2
      clear HK2 HKP
      go_wp2_with fail
      rw [HBE.out]
      go_region_with ((go_at_call 75; (with_reducible refine HK3.out.mono ?_); rintro e w5 ⟨A5, c5, out, rfl, hkm, hrow5, hb5⟩; rw [HWB.out] at hrow5 hb5; have hO5 := HOB.out.below hb5 HOB.out.lt; have y0 := hO5.cell (j := 0) rfl; have y1 := hO5.frozen 0))
      all_goals
        clear hx0 hmcb
        have hb05 : Below wr.heap.size wr w5 := HBWB.out.trans (hb5.mono (by have := HBWB.out.size; omega))
        have hs5 := hb5.size
        have hsb := HSB.out
        have hbe := HBE.out
        have hO6 : Own (w5.setCell ⟨B, 0, none⟩ (.slice A5 out.length c5)) B 79 [.slice A5 out.length c5, .int .i64 te, .int .i64 th, .int .i64 el] := hO5.set 0 (.slice A5 out.length c5)
        have hgw : g ≤ wr.heap.size := by omega
        have hb5g : Below g wA w5 := HB.out.trans (hb05.mono hgw)
        have hgB : g ≤ B := by omega
        have hb6 : Below g wA (w5.setCell ⟨B, 0, none⟩ (.slice A5 out.length c5)) := hb5g.setCell (p := ⟨B, 0, none⟩) hgB _
        have hF6 : FdG (w5.setCell ⟨B, 0, none⟩ (.slice A5 out.length c5)) g (g + 1) qs := (HFG.out.below hb05).farB (B := B) (p := ⟨B, 0, none⟩) rfl (by omega) (fun r q hq hm ad hA => by have := HROWS.out r q hq hm ad hA; omega) _
        have hblk := own_blkC hrow5
        have hr6 : RdS (w5.setCell ⟨B, 0, none⟩ (.slice A5 out.length c5)) (w5.setCell ⟨B, 0, none⟩ (.slice A5 out.length c5)).heap.size A5 out := rdS_farB (own_rdR hrow5 rfl) (fun ad hA _ => by have := hblk ad hA; show ad.block ≠ B; omega) _
        have hcap := own_capB hrow5
        have HBLK : Hid (∀ ad, A5 = some ad → g + 1 ≤ ad.block ∧ ad.block ≠ B) := Lib.hid fun ad hA => by have := hblk ad hA; exact ⟨by omega, by omega⟩
        have HKM := Lib.hid hkm
        have hs6 : (w5.setCell ⟨B, 0, none⟩ (.slice A5 out.length c5)).heap.size = w5.heap.size := by simp
        have hB6 : B < (w5.setCell ⟨B, 0, none⟩ (.slice A5 out.length c5)).heap.size := by rw [hs6]; omega
        clear y0 y1 hO5 hrow5 hblk hkm hb5 hb05 hs6 hs5 hsb hbe
        obtain ⟨rn, hrn⟩ : ∃ rn, out.length = rn := ⟨_, rfl⟩
        have HRN := Lib.hid hrn
        rw [hrn] at hO6 hb6 hF6 hr6 hcap hB6 ⊢
        clear hrn hb5g hgw
        generalize w5.setCell ⟨B, 0, none⟩ (.slice A5 rn c5) = W6 at *
        have HO6 := Lib.hid hO6
        have HB6 := Lib.hid hb6
        have HF6 := Lib.hid hF6
        have HR6 := Lib.hid hr6
        cases bt
        case' true =>
          have hFX := hF6
          have c0 := hFX.own.cell (rv_at cBk_len HQ0'.out (i := 0) (by omega))
          have c1 := hFX.own.cell (rv_at cBk_len HQ0'.out (i := 1) (by omega))
          have c2 := hFX.own.cell (rv_at cBk_len HQ0'.out (i := 2) (by omega))
          have c3 := hFX.own.cell (rv_at cBk_len HQ0'.out (i := 3) (by omega))
          have f0 := hFX.own.frozen (i * 4)
          have f1 := hFX.own.frozen (i * 4 + 1)
          have f2 := hFX.own.frozen (i * 4 + 2)
          have f3 := hFX.own.frozen (i * 4 + 3)
          rw [Nat.add_zero] at c0
          have x0 := hO6.cell (j := 0) rfl
          have x1 := hO6.cell (j := 1) rfl
          have x2 := hO6.cell (j := 2) rfl
          have x3 := hO6.cell (j := 3) rfl
          have hput := FdG.put (i := i) (c := c5) (A := A5) (b := ⟨out, te, th, el⟩) hFX hiq (by omega) hr6 (by show out.length ≤ c5; rw [HRN.out]; exact hcap) (fun ad hA => (HBLK.out ad hA).1)
          simp only [HRN.out] at hput
          have HPUT := Lib.hid hput
          have HQS : Hid ((qs.set i ((⟨out, te, th, el⟩ : Bk), A5, c5)).length = len) := Lib.hid (by rw [List.length_set, HQL.out])
          have HSL : Hid (SlF p (mkS ms) (mkT t) (i + 1) (qs.set i ((⟨out, te, th, el⟩ : Bk), A5, c5))) := Lib.hid (HSF.out.put hiq HD.out ⟨HKM.out, fun _ => ⟨rfl, rfl, rfl⟩, fun h => absurd (show mkT t i from HBT.out) h⟩)
          clear hput hFX hF6 hr6 hO6 hb6
          go_wp2_with (go_at_call 76; (with_reducible refine (hasBit_any t i _ HT hi32).mono ?_); rw [HBT.out]; rintro e w7 ⟨rfl, rfl⟩)
          go_round
          case rel => exact ⟨i + 1, _, by omega, by go_num, HPUT, HQS, HSL, Lib.hid ((((HB6.out.setCell (Nat.le_refl _) _).setCell (Nat.le_refl _) _).setCell (Nat.le_refl _) _).setCell (Nat.le_refl _) _)⟩
          case measure => (simp [intOf]; omega)
        case' false =>
          have HIM := Lib.hid (immediate_any LA len lc i (nxP p) ws W6 ((HUA.out.below hb6 (Nat.le_refl _)).more (by omega)) HNL.out HWAY.out HLS.out hit)
          clear hF6 hr6 hO6 hb6
          go_wp2_with (go_at_call 76; (with_reducible refine (hasBit_any t i _ HT hi32).mono ?_); rw [HBT.out]; rintro e w7 ⟨rfl, rfl⟩)
          refine HIM.out.mono ?_
          rintro e w7 ⟨⟨z, rfl, hz⟩, hb7⟩
          have HZ := Lib.hid hz
          have hB7 : B < w7.heap.size := by have := hb7.size; omega
          have hO7 := HO6.out.below hb7 hB6
          have hb7g : Below g wA w7 := HB6.out.trans (hb7.mono (by omega))
          have hF7 := HF6.out.below hb7
          have hr7 := (HR6.out.below hb7 (Nat.le_refl _)).more hb7.size
          have hO8 : Own (((w7.setCell ⟨B, 1, none⟩ (.int .i64 (-1))).setCell ⟨B, 2, none⟩ (.int .i64 z)).setCell ⟨B, 3, none⟩ (.int .i64 0)) B 79 [.slice A5 rn c5, .int .i64 (-1), .int .i64 z, .int .i64 0] := ((hO7.set 1 (.int .i64 (-1))).set 2 (.int .i64 z)).set 3 (.int .i64 0)
          have hfar : ∀ (r : Nat) (q : Bk × Option Addr × Nat), qs[r]? = some q → 0 < q.1.code.length → ∀ ad, q.2.1 = some ad → ad.block ≠ B := fun r q hq hm ad hA => by have := HROWS.out r q hq hm ad hA; omega
          have hF8 : FdG (((w7.setCell ⟨B, 1, none⟩ (.int .i64 (-1))).setCell ⟨B, 2, none⟩ (.int .i64 z)).setCell ⟨B, 3, none⟩ (.int .i64 0)) g (g + 1) qs := ((hF7.farB (B := B) (p := ⟨B, 1, none⟩) rfl (by omega) hfar _).farB (B := B) (p := ⟨B, 2, none⟩) rfl (by omega) hfar _).farB (B := B) (p := ⟨B, 3, none⟩) rfl (by omega) hfar _
          have hr8 : RdS (((w7.setCell ⟨B, 1, none⟩ (.int .i64 (-1))).setCell ⟨B, 2, none⟩ (.int .i64 z)).setCell ⟨B, 3, none⟩ (.int .i64 0)) (((w7.setCell ⟨B, 1, none⟩ (.int .i64 (-1))).setCell ⟨B, 2, none⟩ (.int .i64 z)).setCell ⟨B, 3, none⟩ (.int .i64 0)).heap.size A5 out := rdS_farB (rdS_farB (rdS_farB hr7 (p := ⟨B, 1, none⟩) (fun ad hA _ => (HBLK.out ad hA).2) _) (p := ⟨B, 2, none⟩) (fun ad hA _ => (HBLK.out ad hA).2) _) (p := ⟨B, 3, none⟩) (fun ad hA _ => (HBLK.out ad hA).2) _
          have hb8 : Below g wA (((w7.setCell ⟨B, 1, none⟩ (.int .i64 (-1))).setCell ⟨B, 2, none⟩ (.int .i64 z)).setCell ⟨B, 3, none⟩ (.int .i64 0)) := ((hb7g.setCell (p := ⟨B, 1, none⟩) hgB _).setCell (p := ⟨B, 2, none⟩) hgB _).setCell (p := ⟨B, 3, none⟩) hgB _
          have x0 := hO8.cell (j := 0) rfl
          have x1 := hO8.cell (j := 1) rfl
          have x2 := hO8.cell (j := 2) rfl
          have x3 := hO8.cell (j := 3) rfl
          have y1 := hO7.cell (j := 1) rfl
          have y2 := hO7.cell (j := 2) rfl
          have y3 := hO7.cell (j := 3) rfl
          have g1 := hO7.frozen 1
          have g2 := hO7.frozen 2
          have g3 := hO7.frozen 3
          have hFX := hF8
          have c0 := hFX.own.cell (rv_at cBk_len HQ0'.out (i := 0) (by omega))
          have c1 := hFX.own.cell (rv_at cBk_len HQ0'.out (i := 1) (by omega))
          have c2 := hFX.own.cell (rv_at cBk_len HQ0'.out (i := 2) (by omega))
          have c3 := hFX.own.cell (rv_at cBk_len HQ0'.out (i := 3) (by omega))
          have f0 := hFX.own.frozen (i * 4)
          have f1 := hFX.own.frozen (i * 4 + 1)
          have f2 := hFX.own.frozen (i * 4 + 2)
          have f3 := hFX.own.frozen (i * 4 + 3)
          rw [Nat.add_zero] at c0
          have hput := FdG.put (i := i) (c := c5) (A := A5) (b := ⟨out, -1, z, 0⟩) hFX hiq (by omega) hr8 (by show out.length ≤ c5; rw [HRN.out]; exact hcap) (fun ad hA => (HBLK.out ad hA).1)
          simp only [HRN.out] at hput
          have HPUT := Lib.hid hput
          have HB8 := Lib.hid hb8
          have HQS : Hid ((qs.set i ((⟨out, -1, z, 0⟩ : Bk), A5, c5)).length = len) := Lib.hid (by rw [List.length_set, HQL.out])
          have HSL : Hid (SlF p (mkS ms) (mkT t) (i + 1) (qs.set i ((⟨out, -1, z, 0⟩ : Bk), A5, c5))) := Lib.hid (HSF.out.put hiq HD.out ⟨HKM.out, fun h => (by have h2 : t.testBit i = true := h; rw [HBT.out] at h2; cases h2), fun _ => ⟨rfl, rfl, HZ.out⟩⟩)
          clear hput hFX hF8 hF7 hr7 hr8 hO7 hO8 hb7g hb8 hfar hz hb7
          go_wp2
          go_round
          case rel => exact ⟨i + 1, _, by omega, by go_num, HPUT, HQS, HSL, Lib.hid ((((HB8.out.setCell (Nat.le_refl _) _).setCell (Nat.le_refl _) _).setCell (Nat.le_refl _) _).setCell (Nat.le_refl _) _)⟩
          case measure => (simp [intOf]; omega)
    · have hie : i = len := by omega
      subst hie
      have HSL : Hid (SlP p (mkS ms) (mkT t) (qs.map (·.1))) := Lib.hid (SlF.done (by rw [HL.out]; exact HSF.out) (by rw [HQL.out, HL.out]))
      have hbwr : Below w.heap.size w wr := HBA.out.trans (HB.out.mono hwg)
      go_wp2
      go_ret2
      exact ⟨some ⟨g, 0, none⟩, i, qs.map (·.1), mkS ms, mkT t, rfl, HND.out.nd, HSL.out, HFG.out.rd, hbwr⟩

set_option maxHeartbeats 4000000 in
theorem cutSlice_bad (vars : Int) (want : Nat) (A : Option Addr) (len cap : Nat) (p : List Bk) (T : Bool) (w : World) (hx : RdP w w.heap.size A p) (hl : p.length = len) (hm : len ≤ maxLen) (hin : ∀ b ∈ p, InBk b) (hw : want < 4294967296) (hT : T = true ↔ StopsP (nxP p)) (hc : ckCut vars p want T ≠ 0) :
    Calls Try.prog 43 #[.int .i64 vars, .slice A len cap, .int .u32 (want : Nat)] w fun e w' => ∃ A' c', e = .returned (.tuple #[.slice A' 0 c', .int .i64 (ckCut vars p want T)]) ∧ Below w.heap.size w w' := by
  have HCK := Lib.hid (cutCheck_not vars want A len cap p T w hx hl hm hin hw hT hc)
  obtain ⟨c, hce⟩ : ∃ c, ckCut vars p want T = c := ⟨_, rfl⟩
  rw [hce] at HCK hc ⊢
  have hne : (c != 0) = true := by simp [hc]
  clear hx hl hin hc hce hT
  go_enter Try.func43, Try.ntmps43
  go_wp2_with (go_at_call 70; (with_reducible refine HCK.out.mono ?_); rintro e w1 ⟨rfl, hb1⟩)
  go_returns
  exact ⟨_, _, rfl, hb1⟩

theorem cutIs : CutIs where
  needs := fun n want A len cap p w hx hl hc hw hst => cutNeeds_any n want A len cap p w hx hl hc hw hst
  needsBad := fun vars want A len cap p T w hx hl hm hin hw hT hc => cutNeeds_bad vars want A len cap p T w hx hl hm hin hw hT hc
  slice := fun n want A len cap p w hx hl hc hw hst => cutSlice_any n want A len cap p w hx hl hc hw hst
  sliceBad := fun vars want A len cap p T w hx hl hm hin hw hT hc => cutSlice_bad vars want A len cap p T w hx hl hm hin hw hT hc

end Go.Proofs.Ytfhnhbkdhdocjaa
