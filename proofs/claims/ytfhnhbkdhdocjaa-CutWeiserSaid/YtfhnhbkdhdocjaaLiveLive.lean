/-
  codemasonref.Live (K1): the walk.
-/
import Derived.Test.YtfhnhbkdhdocjaaLiveSpot
namespace Go.Proofs.Ytfhnhbkdhdocjaa
open Go.RowKit
set_option linter.unusedSimpArgs false
set_option linter.unusedVariables false
set_option maxRecDepth 100000

theorem us_step {p : List Bk} {want v i k : Nat} {b : Bk} {s : St} (hb : p[i]? = some b) (hs : b.code[k]? = some s) : Us p want v (i, k) ↔ UsesS s v := by
  constructor
  · rintro ⟨b', hb', ⟨s', hs', hu⟩ | ⟨hk, _⟩⟩
    · rw [hb] at hb'
      injection hb' with hb'
      subst hb'
      rw [hs] at hs'
      injection hs' with hs'
      subst hs'
      exact hu
    · rw [hb] at hb'
      injection hb' with hb'
      subst hb'
      have := (List.getElem?_eq_some_iff.1 hs).1
      simp only [] at hk
      omega
  · exact fun hu => ⟨b, hb, .inl ⟨s, hs, hu⟩⟩

theorem nx_step {p : List Bk} {v i k : Nat} {b : Bk} {s : St} (hb : p[i]? = some b) (hs : b.code[k]? = some s) {y : Nat × Nat} : Nx p v (i, k) y ↔ s.to ≠ (v : Int) ∧ y = (i, k + 1) := by
  constructor
  · rintro ⟨b', hb', ⟨s', hs', hu⟩ | ⟨hk, _⟩⟩
    · rw [hb] at hb'
      injection hb' with hb'
      subst hb'
      rw [hs] at hs'
      injection hs' with hs'
      subst hs'
      exact hu
    · rw [hb] at hb'
      injection hb' with hb'
      subst hb'
      have := (List.getElem?_eq_some_iff.1 hs).1
      simp only [] at hk
      omega
  · exact fun hu => ⟨b, hb, .inl ⟨s, hs, hu.1, hu.2⟩⟩

theorem us_end {p : List Bk} {want v i : Nat} {b : Bk} (hb : p[i]? = some b) : Us p want v (i, b.code.length) ↔ (b.test = (v : Int) ∨ (b.test = -1 ∧ b.th = -1 ∧ want.testBit v = true)) := by
  constructor
  · rintro ⟨b', hb', ⟨s', hs', hu⟩ | ⟨hk, hu⟩⟩
    · rw [hb] at hb'
      injection hb' with hb'
      subst hb'
      have := (List.getElem?_eq_some_iff.1 hs').1
      simp only [] at this
      omega
    · rw [hb] at hb'
      injection hb' with hb'
      subst hb'
      exact hu
  · exact fun hu => ⟨b, hb, .inr ⟨rfl, hu⟩⟩

theorem nx_end {p : List Bk} {v i : Nat} {b : Bk} (hb : p[i]? = some b) {y : Nat × Nat} : Nx p v (i, b.code.length) y ↔ ∃ j : Nat, (j : Int) ∈ nxB b ∧ y = (j, 0) := by
  constructor
  · rintro ⟨b', hb', ⟨s', hs', hu⟩ | ⟨hk, hu⟩⟩
    · rw [hb] at hb'
      injection hb' with hb'
      subst hb'
      have := (List.getElem?_eq_some_iff.1 hs').1
      simp only [] at this
      omega
    · rw [hb] at hb'
      injection hb' with hb'
      subst hb'
      exact hu
  · exact fun hu => ⟨b, hb, .inr ⟨rfl, hu⟩⟩

/-- the length that a slice has -/
def lenW : Value → Nat
  | .slice _ n _ => n
  | _ => 0

theorem bitB_small {W v : Nat} (hv : v < 32) : bitB W (v : Int) = W.testBit v := by unfold bitB; rw [decide_eq_true (by omega)]; rfl

theorem nxB_in {n : Nat} {p : List Bk} (hc : ckProg n p = 0) {i : Nat} {b : Bk} (hb : p[i]? = some b) {j : Int} (hj : j ∈ nxB b) : 0 ≤ j ∧ j < p.length := by
  have hok := ckProg_at hc hb
  obtain ⟨_, h6, h7, h8⟩ := hok
  unfold nxB at hj
  rw [List.mem_append] at hj
  rcases hj with hj | hj
  · split at hj
    · cases hj
    · rw [List.mem_singleton] at hj; omega
  · split at hj
    · rw [List.mem_singleton] at hj; omega
    · cases hj

set_option maxHeartbeats 16000000 in
theorem refLive_any (n want v : Nat) (A : Option Addr) (len cap : Nat) (p : List Bk) (i0 k0 : Nat) (w : World) (hx : RdP w w.heap.size A p) (hl : p.length = len) (hc : ckProg n p = 0) (hw : want < 4294967296) (hv : v < n) (hin : SpIn p (i0, k0)) :
    Calls Try.prog 20 #[.slice A len cap, .int .u32 (want : Nat), .int .i64 (v : Int), .agg #[.int .i64 (i0 : Int), .int .i64 (k0 : Int)]] w fun e w' => ∃ b : Bool, e = .returned (.bool b) ∧ (b = true ↔ Lv p want v (i0, k0)) ∧ Below w.heap.size w w' := by
  obtain ⟨b1, b2, b3, b4, b5, _⟩ := ckProg_bd hc
  have HC := Lib.hid hc
  have HL := Lib.hid hl
  have HH0 : Hid (Hs p want v (i0, k0) [(i0, k0)]) := Lib.hid (Hs.start hin)
  rw [hl] at b3 b4
  have hn6 : n ≤ 6 := by omega
  have hv32 : v < 32 := by omega
  have hrow0 : (((w.alloc (.cells #[.int .i64 (i0 : Int), .int .i64 (k0 : Int)] 32)).alloc (.cells #[.int .i64 (i0 : Int), .int .i64 (k0 : Int)] 32))).ownsRow w.heap.size 32 2 (.slice (some ⟨w.heap.size + 1, 0, none⟩) 1 1) 1 (rv cSp [(i0, k0)]) :=
    ⟨rfl, .inr ⟨w.heap.size + 1, 1, #[.int .i64 (i0 : Int), .int .i64 (k0 : Int)], rfl, by omega, by have := heap_alloc_new (w.alloc (.cells #[.int .i64 (i0 : Int), .int .i64 (k0 : Int)] 32)) (.cells #[.int .i64 (i0 : Int), .int .i64 (k0 : Int)] 32); rwa [World.size_alloc] at this, Nat.le_refl _, by simp [maxLen], rfl, rfl⟩⟩
  clear hl hc hin b1 b2
  go_enter Try.func20, Try.ntmps20
  go_wp2
  go_loopw [9, 10] (fun s9 s10 wr => ∃ (hs : List (Nat × Nat)) (k : Nat) (A2 : Option Addr) (c2 : Nat), k ≤ hs.length ∧ s10 = .int .i64 k ∧ s9 = .slice A2 hs.length c2 ∧ wr.ownsRow w.heap.size 32 2 (.slice A2 hs.length c2) hs.length (rv cSp hs) ∧ Below w.heap.size w wr ∧ Hs p want v (i0, k0) hs ∧ Dn p want v hs k)
    (fun s9 s10 _ => 2 * (168 - lenW s9) + (lenW s9 - (intOf s10).toNat))
  case atStart => exact ⟨[(i0, k0)], 0, _, _, by simp, rfl, rfl, hrow0, by go_grown, HH0.out, Dn.zero _ _ _ _⟩
  case round =>
    obtain ⟨hs, k, A2, c2, hk, rfl, rfl, hown, hb, hhs, hdn⟩ := hrel
    have hlen := hhs.len HC.out
    have HHS := Lib.hid hhs
    have HDN := Lib.hid hdn
    have HOWN := Lib.hid hown
    have hsz := hb.size
    obtain ⟨m, hme⟩ : ∃ m, hs.length = m := ⟨_, rfl⟩
    have HM := Lib.hid hme
    rw [hme] at hk hlen HOWN ⊢
    by_cases hlt : k < m
    · obtain ⟨ad2, x1, x2, rfl, hbl2, hsp, hs0, hs1⟩ := sp_at (own_rdR (c := cSp) hown rfl) (k := k) (by rw [hme]; exact hlt)
      have hxin : (x1, x2) ∈ hs := List.mem_of_getElem? hsp
      obtain ⟨bk, hbk, hxk⟩ := hhs.inn _ hxin
      simp only [] at hbk hxk
      have hx1 := (List.getElem?_eq_some_iff.1 hbk).1
      rw [HL.out] at hx1
      obtain ⟨ad, b', Ac, cc, rfl, hbl, hd, hrow, hc0, hc1, hc2, hc3⟩ := (hx.below hb (Nat.le_refl _)).at_ (k := x1) (by rw [HL.out]; exact hx1)
      rw [hbk] at hd
      injection hd with hd
      subst hd
      have HBK := Lib.hid hbk
      have HSP := Lib.hid hsp
      have HXIN := Lib.hid hxin
      have hbkok := ckProg_at HC.out hbk
      have hcl20 := manyS_le hbk
      have HFIT := Lib.hid (fun j (hj : j ∈ nxB bk) => nxB_in HC.out hbk hj)
      obtain ⟨code, te, th, el⟩ := bk
      simp only [] at hc0 hc1 hc2 hc3 hrow hxk hcl20
      have hcode := hbkok.code
      simp only [] at hcode
      have HCD := Lib.hid hcode
      obtain ⟨cl, hcl⟩ : ∃ cl, code.length = cl := ⟨_, rfl⟩
      have HCL := Lib.hid hcl
      rw [hcl] at hc0 hxk hcl20
      have hblr : (ad.add (x1 * 4)).block < wr.heap.size := by omega
      have hblr1 : (ad.add (x1 * 4)).block < wr.heap.size + 1 := by omega
      clear hown hhs hdn hme hsp hxin hbk hbkok hcode hcl
      by_cases hct : x2 < cl
      · obtain ⟨ad3, o, t, a, bb, vv, rfl, hbl3, hd3, e0, e1, e2, e3, e4⟩ := hrow.at_ (k := x2) (by rw [HCL.out]; exact hct)
        have hcks := ckStepsF_at HCD.out hd3
        simp only [] at hcks
        have HUS := Lib.hid (us_step (want := want) (v := v) HBK.out hd3)
        have HNX := Lib.hid (fun y => nx_step (v := v) (y := y) HBK.out hd3)
        have hrw := rdW_bit (s := ⟨o, t, a, bb, vv⟩) hcks v
        have hrl := rdW_lt (s := ⟨o, t, a, bb, vv⟩) hcks hn6
        obtain ⟨W, hW⟩ : ∃ W, rdW ⟨o, t, a, bb, vv⟩ = W := ⟨_, rfl⟩
        have HRD : Hid (∀ Z : World, Calls Try.prog 48 #[.agg #[.int .i64 o, .int .i64 t, .int .i64 a, .int .i64 bb, .int .i64 vv]] Z fun e w' => e = .returned (.int .u32 (W : Nat)) ∧ Below Z.heap.size Z w') := Lib.hid fun Z => by rw [← hW]; exact reads_any n o t a bb vv Z hcks hn6
        rw [hW] at hrw hrl
        have hrl32 : W < 4294967296 := Nat.lt_of_lt_of_le hrl (by decide)
        have hbb := bitB_small (W := W) hv32
        obtain ⟨tb, htb⟩ : ∃ tb, W.testBit v = tb := ⟨_, rfl⟩
        rw [htb] at hbb hrw
        have HRW := Lib.hid hrw
        have HBB := Lib.hid hbb
        have hbl3r : (ad3.add (x2 * 5)).block < wr.heap.size := by omega
        have hbl3r1 : (ad3.add (x2 * 5)).block < wr.heap.size + 1 := by omega
        have hbl3r2 : (ad3.add (x2 * 5)).block < wr.heap.size + 1 + 1 := by omega
        clear hd3 hcks hrl hW hbb htb hrw
        cases tb with
        | true =>
          have HLV : Hid (Lv p want v (i0, k0)) := Lib.hid (HHS.out.lv _ HXIN.out (.here (HUS.out.2 (HRW.out.1 rfl))))
          go_wp2_with (first
            | (go_at_call 48; (with_reducible refine (HRD.out _).mono ?_); rintro e w5 ⟨rfl, hb5⟩)
            | (go_at_call 19; (with_reducible refine (bit_any W _ _ hrl32).mono ?_); rw [HBB.out]; rintro e w6 ⟨rfl, rfl⟩))
          go_ret
          exact ⟨true, rfl, ⟨fun _ => HLV.out, fun _ => rfl⟩, (by go_grown : Below w.heap.size w _).trans (hb5.mono (by simp; omega))⟩
        | false =>
          have hnu : ¬ Us p want v (x1, x2) := fun h => by have := HRW.out.2 (HUS.out.1 h); cases this
          have HNU := Lib.hid hnu
          clear hnu
          by_cases hto : t = (v : Int)
          · have hdn2 : Dn p want v hs (k + 1) := HDN.out.succ HSP.out HNU.out fun y hy => absurd hto ((HNX.out y).1 hy).1
            have HDN2 := Lib.hid hdn2
            have hne : (t != (v : Int)) = false := by simp [hto]
            clear hdn2 hto
            go_wp2_with (first
              | (go_at_call 48; (with_reducible refine (HRD.out _).mono ?_); rintro e w5 ⟨rfl, hb5⟩; have q5 : w5.cell? ⟨wr.heap.size + 1 + 1, 1, none⟩ = some (.int .i64 t) := (hb5.cell (p := ⟨wr.heap.size + 1 + 1, 1, none⟩) (by simp)).trans (cell_new (by simp) rfl))
              | (go_at_call 19; (with_reducible refine (bit_any W _ _ hrl32).mono ?_); rw [HBB.out]; rintro e w6 ⟨rfl, rfl⟩))
            have hbr5 : Below wr.heap.size wr w5 := (by go_grown : Below wr.heap.size wr _).trans (hb5.mono (by simp; omega))
            go_round
            case rel => exact ⟨hs, k + 1, some ad2, c2, by rw [HM.out]; omega, by go_num, by rw [HM.out], by rw [HM.out]; exact own_below HOWN.out hbr5, hb.trans (hbr5.mono hsz), HHS.out, HDN2.out⟩
            case measure => simp [lenW, intOf]; omega
          · have hne : (t != (v : Int)) = true := by simp [hto]
            have hR1 := HHS.out.add HXIN.out ((HNX.out (x1, x2 + 1)).2 ⟨hto, rfl⟩) ⟨_, HBK.out, by show x2 + 1 ≤ code.length; rw [HCL.out]; omega⟩
            have hR2 : Dn p want v (addP hs (x1, x2 + 1)) (k + 1) := (HDN.out.grow (by rw [HM.out]; omega) fun m x h => addP_pre _ _ h).succ (addP_pre _ _ HSP.out) HNU.out fun y hy => addP_mem.2 (.inr ((HNX.out y).1 hy).2)
            have hR3 := addP_len hs (x1, x2 + 1)
            have hR4 := hR1.len HC.out
            have hcm : ∀ Z : World, Below wr.heap.size wr Z → Calls Try.prog 49 #[.slice (some ad2) m c2, .agg #[.int .i64 (x1 : Int), .int .i64 ((x2 : Int) + 1)]] Z fun e w' => ∃ A' c', e = .returned (.slice A' (addP hs (x1, x2 + 1)).length c') ∧
                w'.ownsRow w.heap.size 32 2 (.slice A' (addP hs (x1, x2 + 1)).length c') (addP hs (x1, x2 + 1)).length (rv cSp (addP hs (x1, x2 + 1))) ∧ Z.grownBy w' (Value.slice (some ad2) m c2).ownBlock := fun Z hZ =>
              (comesP_any w.heap.size (some ad2) m c2 hs x1 (x2 + 1) Z (own_below HOWN.out hZ) HM.out (Nat.le_trans hsz hZ.size) (by omega)).mono fun e w' ⟨A', c', h1, h2, h3, _⟩ => ⟨A', c', h1, h2, h3⟩
            obtain ⟨R, hRe⟩ : ∃ R, addP hs (x1, x2 + 1) = R := ⟨_, rfl⟩
            rw [hRe] at hR1 hR2 hR3 hR4 hcm
            rw [HM.out] at hR3
            have HR1 := Lib.hid hR1
            have HR2 := Lib.hid hR2
            have HCM := Lib.hid hcm
            clear hto hR1 hR2 hcm hRe
            go_wp2_with (first
              | (go_at_call 48; (with_reducible refine (HRD.out _).mono ?_); rintro e w5 ⟨rfl, hb5⟩; have q5 : w5.cell? ⟨wr.heap.size + 1 + 1, 1, none⟩ = some (.int .i64 t) := (hb5.cell (p := ⟨wr.heap.size + 1 + 1, 1, none⟩) (by simp)).trans (cell_new (by simp) rfl); have hbr5 : Below wr.heap.size wr w5 := (by go_grown : Below wr.heap.size wr _).trans (hb5.mono (by simp; omega)); have q6 : w5.cell? ⟨wr.heap.size, 0, none⟩ = some (.int .i64 (x1 : Int)) := (hb5.cell (p := ⟨wr.heap.size, 0, none⟩) (by simp; omega)).trans ((World.cell?_alloc_lt _ _ _ (by simp; omega)).trans (by simp)); have q7 : w5.cell? ⟨wr.heap.size, 1, none⟩ = some (.int .i64 (x2 : Int)) := (hb5.cell (p := ⟨wr.heap.size, 1, none⟩) (by simp; omega)).trans ((World.cell?_alloc_lt _ _ _ (by simp; omega)).trans (by simp)))
              | (go_at_call 19; (with_reducible refine (bit_any W _ _ hrl32).mono ?_); rw [HBB.out]; rintro e w6 ⟨rfl, rfl⟩)
              | (go_at_call 49; (with_reducible refine (HCM.out _ hbr5).mono ?_); rintro e w8 ⟨A8, c8, rfl, hown8, hg8⟩))
            have hb8 := own_base (own_below HOWN.out hbr5) hg8 (Nat.le_trans hsz hbr5.size)
            go_round
            case rel => exact ⟨R, k + 1, A8, c8, by omega, by go_num, rfl, hown8, (hb.trans (hbr5.mono hsz)).trans hb8, HR1.out, HR2.out⟩
            case measure => simp [lenW, intOf]; omega
      · have hxe : x2 = cl := by omega
        have hue := us_end (want := want) (v := v) HBK.out
        have hne := fun y => nx_end (v := v) (y := y) HBK.out
        simp only [] at hue hne
        rw [HCL.out, ← hxe] at hue hne
        have HUE := Lib.hid hue
        obtain ⟨js, hjs⟩ : ∃ js, nxB ⟨code, te, th, el⟩ = js := ⟨_, rfl⟩
        have hjl : js.length ≤ 2 := by rw [← hjs]; exact nxB_len _
        have HJIN : Hid (∀ j ∈ js, 0 ≤ j ∧ Nx p v (x1, x2) (j.toNat, 0) ∧ SpIn p (j.toNat, 0)) := Lib.hid fun j hj => by
          obtain ⟨h0, h1⟩ := HFIT.out j (by rw [hjs]; exact hj)
          refine ⟨h0, (hne _).2 ⟨j.toNat, by rw [hjs]; rwa [Int.toNat_of_nonneg h0], rfl⟩, ?_⟩
          have hjl : j.toNat < p.length := by omega
          exact ⟨_, List.getElem?_eq_getElem hjl, Nat.zero_le _⟩
        have HNE : Hid (∀ y, Nx p v (x1, x2) y → ∃ j : Nat, (j : Int) ∈ js ∧ y = (j, 0)) := Lib.hid fun y hy => by
          have := (hne y).1 hy
          rwa [hjs] at this
        have HNC : Hid (∀ Z : World, Below w.heap.size w Z → Calls Try.prog 50 #[.slice (some ad) len cap] Z fun e w' => ∃ ad5 c' Ar cr, e = .returned (.slice (some ad5) len c') ∧ w'.cell? (ad5.add x1) = some (.slice Ar js.length cr) ∧ RdI w' w'.heap.size Ar js ∧ (∀ a, Ar = some a → Z.heap.size ≤ a.block) ∧ Below Z.heap.size Z w') := Lib.hid fun Z hZ =>
          (refNextsN_any (some ad) len cap p Z ((hx.below hZ (Nat.le_refl _)).more hZ.size) HL.out (by omega)).mono fun e w' ⟨A5, c5, h1, h2, h3, h4⟩ => by
            obtain ⟨ad5, row, Ar, cr, rfl, hbl5, hd5, hcell5, hrd5⟩ := h2.at_ (k := x1) (by simp [nxP, HL.out]; exact hx1)
            have hrow5 : row = js := by
              rw [nxP, List.getElem?_map, HBK.out] at hd5
              injection hd5 with hd5
              rw [← hjs]
              exact hd5.symm
            subst hrow5
            exact ⟨ad5, c5, Ar, cr, h1, hcell5, hrd5, fun a ha => (h4 ad5 rfl).2 x1 (by simp [nxP, HL.out]; exact hx1) Ar _ cr hcell5 a ha, h3⟩
        clear hue hne hjs hxk hct HFIT HCD hrow
        by_cases hte : te = (v : Int)
        · have HLV : Hid (Lv p want v (i0, k0)) := Lib.hid (HHS.out.lv _ HXIN.out (.here (HUE.out.2 (.inl hte))))
          have e1 : (te == (v : Int)) = true := by simp [hte]
          clear hte
          go_wp2
          go_ret
          exact ⟨true, rfl, ⟨fun _ => HLV.out, fun _ => rfl⟩, by go_grown⟩
        · have e1 : (te == (v : Int)) = false := by simp [hte]
          obtain ⟨tb, htb⟩ : ∃ tb, want.testBit v = tb := ⟨_, rfl⟩
          have HBW : Hid (bitB want (v : Int) = tb) := Lib.hid (by rw [bitB_small hv32, htb])
          by_cases hyes : te = -1 ∧ th = -1 ∧ tb = true
          · obtain ⟨rfl, rfl, rfl⟩ := hyes
            have HLV : Hid (Lv p want v (i0, k0)) := Lib.hid (HHS.out.lv _ HXIN.out (.here (HUE.out.2 (.inr ⟨rfl, rfl, htb⟩))))
            clear hte htb
            go_wp2_with (go_at_call 19; (with_reducible refine (bit_any want _ _ hw).mono ?_); rw [HBW.out]; rintro e w6 ⟨rfl, rfl⟩)
            go_ret
            exact ⟨true, rfl, ⟨fun _ => HLV.out, fun _ => rfl⟩, by go_grown⟩
          · have HNU : Hid (¬ Us p want v (x1, x2)) := Lib.hid fun h => by
              rcases HUE.out.1 h with h | ⟨h1, h2, h3⟩
              · exact hte h
              · exact hyes ⟨h1, h2, by rw [← htb]; exact h3⟩
            have hways : (te == -1) = false ∨ ((te == -1) = true ∧ (th == -1) = false) ∨ (te = -1 ∧ th = -1 ∧ tb = false) := by
              by_cases h1 : te = -1
              · by_cases h2 : th = -1
                · exact .inr (.inr ⟨h1, h2, by cases tb with | false => rfl | true => exact absurd ⟨h1, h2, rfl⟩ hyes⟩)
                · exact .inr (.inl ⟨by simp [h1], by simp [h2]⟩)
              · exact .inl (by simp [h1])
            clear hte htb hyes
            rcases hways with f1 | ⟨f1, f2⟩ | ⟨rfl, rfl, rfl⟩
            all_goals
              go_wp2_with (go_at_call 19; (with_reducible refine (bit_any want _ _ hw).mono ?_); rw [HBW.out]; rintro e w6 ⟨rfl, rfl⟩)
              go_region_with (go_at_call 50; (with_reducible refine (HNC.out _ (by go_grown)).mono ?_); rintro e w5 ⟨ad5, c5, Ar, cr, rfl, hcell5, hrd5, hnew5, hb5⟩; have q6 : w5.cell? ⟨wr.heap.size, 0, none⟩ = some (.int .i64 (x1 : Int)) := (hb5.cell (p := ⟨wr.heap.size, 0, none⟩) (by simp; omega)).trans ((World.cell?_alloc_lt _ _ _ (by simp)).trans (by simp)))
              all_goals
                have hbr5 : Below wr.heap.size wr w5 := (by go_grown : Below wr.heap.size wr _).trans (hb5.mono (by simp; omega))
                have hown5 := own_below HOWN.out hbr5
                have hbw5 := hb.trans (hbr5.mono hsz)
                have hap5 : ∀ a, Ar = some a → (Value.slice (some ad2) m c2).ownBlock ≠ some a.block := fun a ha he => by
                  have h1 := (HOWN.out.lt _ he).2
                  have h2 := hnew5 a ha
                  simp at h2
                  omega
                have HRD5 := Lib.hid hrd5
                have HAP5 := Lib.hid hap5
                have HOW5 := Lib.hid hown5
                have HBW5 := Lib.hid hbw5
                obtain ⟨wo, rfl⟩ : ∃ wo : World, wo = wr := ⟨_, rfl⟩
                clear hcell5 hrd5 hnew5 hap5 hown5 hbw5 q6
                go_wp2
                try simp only [List.getElem_toArray, List.getElem_cons_succ, List.getElem_cons_zero]
                try go_frame
                go_loopw [9, 87] (fun s9 s87 wr => ∃ (c : Nat) (cur : List (Nat × Nat)) (A3 : Option Addr) (c3 : Nat), c ≤ js.length ∧ s87 = .int .i64 c ∧ s9 = .slice A3 cur.length c3 ∧ cur = addJ hs (js.take c) ∧
                    wr.ownsRow w.heap.size 32 2 (.slice A3 cur.length c3) cur.length (rv cSp cur) ∧ Below w.heap.size w wr ∧ RdI wr wr.heap.size Ar js ∧
                    (∀ a, Ar = some a → (Value.slice A3 cur.length c3).ownBlock ≠ some a.block)) (fun _ z _ => js.length - (intOf z).toNat)
                case atStart => exact ⟨0, hs, some ad2, c2, Nat.zero_le _, rfl, by rw [HM.out], rfl, by rw [HM.out]; exact HOW5.out, HBW5.out, HRD5.out, by rw [HM.out]; exact HAP5.out⟩
                case round =>
                  obtain ⟨c, cur, A3, c3, hc, rfl, rfl, hcur, hown3, hb3, hrd3, hap3⟩ := hrel
                  have hcH : Hs p want v (i0, k0) cur := by rw [hcur]; exact HHS.out.addJ HXIN.out fun j hj => ⟨_, rfl, (HJIN.out j (List.mem_of_mem_take hj)).2.1, (HJIN.out j (List.mem_of_mem_take hj)).2.2⟩
                  have hcl := hcH.len HC.out
                  have hge : m ≤ cur.length := by rw [hcur, ← HM.out]; exact (addJ_len (js.take c) hs).1
                  have HCH := Lib.hid hcH
                  have HCUR := Lib.hid hcur
                  have hsz3 := hb3.size
                  clear hcH hcur
                  by_cases hct : c < js.length
                  · obtain ⟨adr, z, rfl, hblr, hz, hcz⟩ := hrd3.at_ (k := c) hct
                    have hz0 := (HJIN.out z (List.mem_of_getElem? hz)).1
                    obtain ⟨zn, rfl⟩ := Int.eq_ofNat_of_zero_le hz0
                    have hnx := addJ_succ hs js hz
                    rw [← HCUR.out, Int.toNat_natCast] at hnx
                    have HNXT := Lib.hid hnx
                    have HCM : Hid (Calls Try.prog 49 #[.slice A3 cur.length c3, .agg #[.int .i64 (zn : Int), .int .i64 0]] wr fun e w' => ∃ A' c', e = .returned (.slice A' (addP cur (zn, 0)).length c') ∧
                        w'.ownsRow w.heap.size 32 2 (.slice A' (addP cur (zn, 0)).length c') (addP cur (zn, 0)).length (rv cSp (addP cur (zn, 0))) ∧ Below w.heap.size w w' ∧ RdI w' w'.heap.size (some adr) js ∧
                        (∀ a, some adr = some a → (Value.slice A' (addP cur (zn, 0)).length c').ownBlock ≠ some a.block)) := Lib.hid ((comesP_any w.heap.size A3 cur.length c3 cur zn 0 wr hown3 rfl hsz3 (by omega)).mono fun e w' ⟨A', c', h1, h2, h3, h4⟩ => by
                      refine ⟨A', c', h1, h2, hb3.trans (own_base hown3 h3 hsz3), hrd3.grown h3 hap3, fun a ha => ?_⟩
                      rcases h4 with h4 | ⟨g, h4, h5⟩
                      · rw [h4]; exact hap3 a ha
                      · rw [h4]
                        intro he
                        injection he with he
                        injection ha with ha
                        subst ha
                        rw [addr_add_block] at hblr
                        omega)
                    clear hz hz0 hnx hown3 hrd3 hap3
                    go_wp2_with (go_at_call 49; (with_reducible refine HCM.out.mono ?_); rintro e w8 ⟨A8, c8, rfl, hown8, hb8, hrd8, hap8⟩)
                    go_round
                    case rel => exact ⟨c + 1, addP cur (zn, 0), A8, c8, by omega, by go_num, rfl, HNXT.out.symm, hown8, hb8, hrd8, hap8⟩
                    case measure => (simp [intOf]; omega)
                  · have hcj : js.take c = js := List.take_of_length_le (by omega)
                    have hcur : cur = addJ hs js := by rw [HCUR.out, hcj]
                    have HDN2 : Hid (Dn p want v cur (k + 1)) := Lib.hid (by
                      rw [hcur]
                      exact (HDN.out.grow (by rw [HM.out]; omega) fun m x h => addJ_pre _ _ h).succ (addJ_pre _ _ HSP.out) HNU.out fun y hy => by
                        obtain ⟨j, hj, rfl⟩ := HNE.out y hy
                        exact addJ_mem js hs hj)
                    clear hcj hcur hrd3 hap3
                    go_wp2
                    go_round
                    case rel => exact ⟨cur, k + 1, A3, c3, by omega, by go_num, rfl, hown3, hb3, HCH.out, HDN2.out⟩
                    case measure => simp [lenW, intOf]; omega
    · have hkm : k = m := by omega
      have HNO : Hid (¬ Lv p want v (i0, k0)) := Lib.hid (Dn.no HHS.out (by rw [HM.out, ← hkm]; exact HDN.out))
      clear hown hhs hdn hme hkm
      go_wp2
      go_ret
      exact ⟨false, rfl, ⟨fun h => Bool.noConfusion h, fun h => absurd h HNO.out⟩, hb⟩

end Go.Proofs.Ytfhnhbkdhdocjaa
