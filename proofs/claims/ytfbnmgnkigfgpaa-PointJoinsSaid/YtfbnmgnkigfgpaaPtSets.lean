/-
  classes.equal, classes.sets and point.Joined return what they say (V2).
-/
import Derived.Test.YtfbnmgnkigfgpaaPtJoin
namespace Go.Proofs.Ytfbnmgnkigfgpaa
open Go.RowKit
set_option linter.unusedSimpArgs false
set_option linter.unusedVariables false
set_option maxRecDepth 100000

set_option maxHeartbeats 4000000 in
theorem equal_anyC (g h n cg g2 h2 c1 c2 : Nat) (hd : List Nat) (tg : List Int) (hd0 : List Int) (tg0 : List Int) (w : World) (c : Cm w g h n hd tg) (r1 : RdI w w.heap.size (some ⟨g2, 0, none⟩) hd0) (r2 : RdI w w.heap.size (some ⟨h2, 0, none⟩) tg0) (l1 : hd0.length = n) (l2 : tg0.length = n) (h8 : n ≤ 8) :
    Calls Try.prog 29 #[.agg #[.slice (some ⟨g, 0, none⟩) n cg, .slice (some ⟨h, 0, none⟩) n n], .agg #[.slice (some ⟨g2, 0, none⟩) n c1, .slice (some ⟨h2, 0, none⟩) n c2]] w fun e w' => e = .returned (.bool (decide (ni hd = hd0) && decide (tg = tg0))) ∧ Below w.heap.size w w' := by
  have hwb : Below w.heap.size w ((w.alloc (.cells #[.slice (some ⟨g, 0, none⟩) n cg, .slice (some ⟨h, 0, none⟩) n n] 52)).alloc (.cells #[.slice (some ⟨g2, 0, none⟩) n c1, .slice (some ⟨h2, 0, none⟩) n c2] 52)) := by go_grown
  have hq0 : Own ((w.alloc (.cells #[.slice (some ⟨g, 0, none⟩) n cg, .slice (some ⟨h, 0, none⟩) n n] 52)).alloc (.cells #[.slice (some ⟨g2, 0, none⟩) n c1, .slice (some ⟨h2, 0, none⟩) n c2] 52)) w.heap.size 52 [.slice (some ⟨g, 0, none⟩) n cg, .slice (some ⟨h, 0, none⟩) n n] := (Own.new w _ _).alloc _
  have hz0 : Own ((w.alloc (.cells #[.slice (some ⟨g, 0, none⟩) n cg, .slice (some ⟨h, 0, none⟩) n n] 52)).alloc (.cells #[.slice (some ⟨g2, 0, none⟩) n c1, .slice (some ⟨h2, 0, none⟩) n c2] 52)) (w.heap.size + 1) 52 [.slice (some ⟨g2, 0, none⟩) n c1, .slice (some ⟨h2, 0, none⟩) n c2] := by
    have hN := Own.new (w.alloc (.cells #[.slice (some ⟨g, 0, none⟩) n cg, .slice (some ⟨h, 0, none⟩) n n] 52)) 52 [.slice (some ⟨g2, 0, none⟩) n c1, .slice (some ⟨h2, 0, none⟩) n c2]
    rw [show (w.alloc (.cells #[.slice (some ⟨g, 0, none⟩) n cg, .slice (some ⟨h, 0, none⟩) n n] 52)).heap.size = w.heap.size + 1 from by simp] at hN
    exact hN
  have HE1 := Lib.hid (fun (Z : World) (hZ : Below w.heap.size w Z) => equalIQ_any (some ⟨g, 0, none⟩) (some ⟨g2, 0, none⟩) n cg c1 (ni hd) hd0 Z (c.quiet hZ).rdH ((r1.below hZ (Nat.le_refl _)).more hZ.size) (by rw [pn_len]; exact c.hl) l1 (by omega))
  have HE2 := Lib.hid (fun (Z : World) (hZ : Below w.heap.size w Z) => equalIQ_any (some ⟨h, 0, none⟩) (some ⟨h2, 0, none⟩) n n c2 tg tg0 Z (c.quiet hZ).rdT ((r2.below hZ (Nat.le_refl _)).more hZ.size) c.tl l2 (by omega))
  obtain ⟨b1, hb1⟩ : ∃ b, decide (ni hd = hd0) = b := ⟨_, rfl⟩
  obtain ⟨b2, hb2⟩ : ∃ b, decide (tg = tg0) = b := ⟨_, rfl⟩
  rw [hb1] at HE1 ⊢
  rw [hb2] at HE2 ⊢
  have HWB := Lib.hid hwb
  clear c r1 r2 hb1 hb2 hwb
  cases b1 with
  | true =>
    go_enter Try.func29, Try.ntmps29
    go_wp2_with (first
      | (go_at_call 42; (with_reducible refine (HE1.out _ HWB.out).mono ?_); rintro e w3 ⟨rfl, hb3⟩; have hx3 := below_via2 HWB.out hb3; have q3 := hq0.below hb3 hq0.lt; have z3 := hz0.below hb3 hz0.lt; have k0 := q3.cell (j := 0) rfl; have k1 := q3.cell (j := 1) rfl; have k2 := z3.cell (j := 0) rfl; have k3 := z3.cell (j := 1) rfl)
      | (go_at_call 42; (with_reducible refine (HE2.out _ hx3).mono ?_); rintro e w4 ⟨rfl, hb4⟩))
    go_ret
    exact ⟨ret_bool (by simp), below_via2 hx3 hb4⟩
  | false =>
    go_enter Try.func29, Try.ntmps29
    go_wp2_with (go_at_call 42; (with_reducible refine (HE1.out _ HWB.out).mono ?_); rintro e w3 ⟨rfl, hb3⟩; have hx3 := below_via2 HWB.out hb3)
    go_ret
    exact ⟨ret_bool (by simp), hx3⟩

/-- the members of each class -/
structure MbI (n : Nat) (hd : List Nat) (k : Nat) (M : List Nat) : Prop where
  len : M.length = n
  lt : ∀ i W : Nat, M[i]? = some W → W < 256
  bit : ∀ i x, i < n → (Bt M i x ↔ x < k ∧ hq hd x = i)

theorem rep_zero {n i W : Nat} (h : (List.replicate n 0)[i]? = some W) : W = 0 := by
  rw [List.getElem?_replicate] at h
  split at h
  · injection h with h; exact h.symm
  · cases h

theorem not_bt_zero {n i x : Nat} : ¬ Bt (List.replicate n 0) i x := fun h => by
  obtain ⟨W, hW, hb⟩ := h.ex
  rw [rep_zero hW, Nat.zero_testBit] at hb
  cases hb

theorem MbI.start (n : Nat) (hd : List Nat) : MbI n hd 0 (List.replicate n 0) := ⟨by simp, fun i W h => by rw [rep_zero h]; omega, fun i x _ => ⟨fun h => absurd h not_bt_zero, fun h => by omega⟩⟩

theorem bitQ_pow {f x : Nat} : (2 ^ f).testBit x = true ↔ x = f := by
  rw [Nat.testBit_two_pow]
  simp
  omega

theorem MbI.next {n k W v : Nat} {hd M : List Nat} (h : MbI n hd k M) (hv : hq hd k = v) (hW : M[v]? = some W) (hk : k < 8) : MbI n hd (k + 1) (M.set v (W ||| 2 ^ k)) := by
  have hl := (List.getElem?_eq_some_iff.1 hW).1
  have hp : 2 ^ k < 256 := by
    have : 2 ^ k ≤ 2 ^ 7 := Nat.pow_le_pow_right (by omega) (by omega)
    omega
  refine ⟨by rw [List.length_set]; exact h.len, fun i V hV => ?_, fun i x hi => ?_⟩
  · rw [List.getElem?_set] at hV
    by_cases e : v = i
    · rw [if_pos e, if_pos hl] at hV
      injection hV with hV
      subst hV
      exact Nat.or_lt_two_pow (n := 8) (h.lt v W hW) hp
    · rw [if_neg e] at hV
      exact h.lt i V hV
  · rw [bt_set hl, Nat.testBit_or, Bool.or_eq_true, bitQ_pow]
    constructor
    · rintro (⟨rfl, h2⟩ | ⟨h1, h2⟩)
      · rcases h2 with h2 | rfl
        · have := (h.bit i x hi).1 (Bt.of hW h2)
          exact ⟨by omega, this.2⟩
        · exact ⟨by omega, hv⟩
      · have := (h.bit i x hi).1 h2
        exact ⟨by omega, this.2⟩
    · rintro ⟨h1, h2⟩
      by_cases e : i = v
      · subst e
        by_cases ex : x = k
        · exact .inl ⟨rfl, .inr ex⟩
        · obtain ⟨W', hW', hb⟩ := ((h.bit i x hi).2 ⟨by omega, h2⟩).ex
          rw [hW] at hW'
          injection hW' with hW'
          subst hW'
          exact .inl ⟨rfl, .inl hb⟩
      · refine .inr ⟨e, (h.bit i x hi).2 ⟨?_, h2⟩⟩
        by_cases ex : x = k
        · subst ex
          rw [hv] at h2
          exact absurd h2.symm e
        · omega

/-- what the first k point to -/
structure StI (n : Nat) (hd : List Nat) (tg : List Int) (k : Nat) (S : List Nat) : Prop where
  len : S.length = n
  lt : ∀ i W : Nat, S[i]? = some W → W < 256
  bit : ∀ i x, i < n → (Bt S i x ↔ i < k ∧ x < n ∧ ToC hd tg i x)
  zero : ∀ i, k ≤ i → S.getD i 0 = 0

theorem StI.start (n : Nat) (hd : List Nat) (tg : List Int) : StI n hd tg 0 (List.replicate n 0) := ⟨by simp, fun i W h => by rw [rep_zero h]; omega, fun i x _ => ⟨fun h => absurd h not_bt_zero, fun h => by omega⟩, fun i _ => by
  rw [List.getD_eq_getElem?_getD]
  cases h : (List.replicate n 0)[i]? with
  | none => rfl
  | some W => rw [rep_zero h]; rfl⟩

theorem StI.skip {n k : Nat} {hd : List Nat} {tg : List Int} {S : List Nat} (h : StI n hd tg k S) (ht : tq hd tg k = -1) : StI n hd tg (k + 1) S :=
  ⟨h.len, h.lt, fun i x hi => by
    rw [h.bit i x hi]
    constructor
    · rintro ⟨h1, h2⟩; exact ⟨by omega, h2⟩
    · rintro ⟨h1, h2, h3⟩
      by_cases e : i = k
      · subst e
        obtain ⟨y, hy, _⟩ := h3
        omega
      · exact ⟨by omega, h2, h3⟩, fun i hi => h.zero i (by omega)⟩

theorem StI.put {n k y W : Nat} {hd : List Nat} {tg : List Int} {M S : List Nat} (h : StI n hd tg k S) (hM : MbI n hd n M) (ht : tq hd tg k = (y : Int)) (hy : hq hd y < n) (hW : M[hq hd y]? = some W) (hk : k < n) : StI n hd tg (k + 1) (S.set k W) := by
  have hl : k < S.length := by rw [h.len]; exact hk
  refine ⟨by rw [List.length_set]; exact h.len, fun i V hV => ?_, fun i x hi => ?_, fun i hi => ?_⟩
  · rw [List.getElem?_set] at hV
    by_cases e : k = i
    · rw [if_pos e, if_pos hl] at hV
      injection hV with hV
      subst hV
      exact hM.lt _ _ hW
    · rw [if_neg e] at hV
      exact h.lt i V hV
  · rw [bt_set hl]
    constructor
    · rintro (⟨rfl, h2⟩ | ⟨h1, h2⟩)
      · have := (hM.bit _ x hy).1 (Bt.of hW h2)
        exact ⟨by omega, this.1, y, ht, this.2.symm⟩
      · have := (h.bit i x hi).1 h2
        exact ⟨by omega, this.2⟩
    · rintro ⟨h1, h2, h3⟩
      by_cases e : i = k
      · subst e
        obtain ⟨z, hz, he⟩ := h3
        have : z = y := by omega
        subst this
        obtain ⟨W', hW', hb⟩ := ((hM.bit _ x hy).2 ⟨h2, he.symm⟩).ex
        rw [hW] at hW'
        injection hW' with hW'
        subst hW'
        exact .inl ⟨rfl, hb⟩
      · exact .inr ⟨e, (h.bit i x hi).2 ⟨by omega, h2, h3⟩⟩
  · rw [List.getD_eq_getElem?_getD, List.getElem?_set, if_neg (by omega), ← List.getD_eq_getElem?_getD]
    exact h.zero i (by omega)

theorem Cm.w2 {w w' : World} {g h n a b : Nat} {hd : List Nat} {tg : List Int} (c : Cm w g h n hd tg) (hw : Wrote2 a b w w') (h1 : g ≠ a) (h2 : g ≠ b) (h3 : h ≠ a) (h4 : h ≠ b) : Cm w' g h n hd tg := by
  obtain ⟨r, hr⟩ := c.hb
  exact ⟨⟨r, hw.own hr h1 h2⟩, hw.own c.tb h3 h4, c.ne, c.hl, c.tl⟩

set_option maxHeartbeats 8000000 in
theorem sets_anyC (l : List Qt) (g h n cg : Nat) (hd : List Nat) (tg : List Int) (w : World) (c : Cm w g h n hd tg) (hI : ClI l n hd tg) (h1 : 1 ≤ n) (h8 : n ≤ 8) :
    Calls Try.prog 30 #[.agg #[.slice (some ⟨g, 0, none⟩) n cg, .slice (some ⟨h, 0, none⟩) n n]] w fun e w' => ∃ S A' c', Tel n (fun i x => x < n ∧ ToC hd tg i x) S ∧ e = .returned (.slice A' n c') ∧ RdU w' w'.heap.size A' S ∧ Below w.heap.size w w' := by
  have HMK := Lib.hid (make_words (P := Try.prog) 23 38 Try.underlying23 (by kernel_rfl) n (by omega))
  have hmk := HMK.out (w.alloc (.cells #[.slice (some ⟨g, 0, none⟩) n cg, .slice (some ⟨h, 0, none⟩) n n] 52))
  have hwb : Below w.heap.size w (w.alloc (.cells #[.slice (some ⟨g, 0, none⟩) n cg, .slice (some ⟨h, 0, none⟩) n n] 52)) := by go_grown
  have hq0 := Own.new w 52 [.slice (some ⟨g, 0, none⟩) n cg, .slice (some ⟨h, 0, none⟩) n n]
  go_enter Try.func30, Try.ntmps30
  go_upto_region 3 with fail
  have hM0 : Own ((w.alloc (.cells #[.slice (some ⟨g, 0, none⟩) n cg, .slice (some ⟨h, 0, none⟩) n n] 52)).alloc (.cells (uv (List.replicate n 0)).toArray 38)) (w.heap.size + 1) 38 (uv (List.replicate n 0)) := by
    have hN := Own.new (w.alloc (.cells #[.slice (some ⟨g, 0, none⟩) n cg, .slice (some ⟨h, 0, none⟩) n n] 52)) 38 (uv (List.replicate n 0))
    rw [show (w.alloc (.cells #[.slice (some ⟨g, 0, none⟩) n cg, .slice (some ⟨h, 0, none⟩) n n] 52)).heap.size = w.heap.size + 1 from by simp] at hN
    exact hN
  have hqI := hq0.alloc (.cells (uv (List.replicate n 0)).toArray 38)
  have hwI := hwb.alloc hwb.size (.cells (uv (List.replicate n 0)).toArray 38)
  have hg := c.gl
  have hhl := c.hlt
  have hcI := c.quiet hwI
  obtain ⟨wI, hwIe⟩ : ∃ x, x = (w.alloc (.cells #[.slice (some ⟨g, 0, none⟩) n cg, .slice (some ⟨h, 0, none⟩) n n] 52)).alloc (.cells (uv (List.replicate n 0)).toArray 38) := ⟨_, rfl⟩
  rw [← hwIe] at hM0 hqI hwI hcI ⊢
  clear hwIe hq0 hwb c hmk
  obtain ⟨gm, hgm⟩ : ∃ b, w.heap.size + 1 = b := ⟨_, rfl⟩
  have hgm1 : w.heap.size < gm := by omega
  rw [hgm] at hM0 ⊢
  clear hgm
  obtain ⟨b1, hb1⟩ : ∃ b, w.heap.size = b := ⟨_, rfl⟩
  have HB1 := Lib.hid hb1
  have HWI := Lib.hid hwI
  have hII := Lib.hid hI
  rw [hb1] at hqI hgm1 hg hhl ⊢
  clear hb1 hwI hI
  go_loopw [16] (fun i wr => ∃ (k : Nat) (M : List Nat), k ≤ n ∧ i = .int .i64 k ∧ Own wr gm 38 (uv M) ∧ Hid (MbI n hd k M) ∧ Wrote2 gm gm wI wr) (fun i _ => n - (intOf i).toNat)
  case atStart => exact ⟨0, _, Nat.zero_le _, rfl, hM0, Lib.hid (MbI.start n hd), Wrote2.refl _⟩
  case round =>
    obtain ⟨k, M, hk, rfl, hown, HM, hw⟩ := hrel
    have hcr := hcI.w2 hw (by omega) (by omega) (by omega) (by omega)
    have hqr := hw.own hqI (by omega) (by omega)
    by_cases hlt : k < n
    · have hc1 := hcr.hc hlt
      have hv := hII.out.hlt k hlt
      obtain ⟨v, hve⟩ : ∃ v, hq hd k = v := ⟨_, rfl⟩
      rw [hve] at hc1 hv
      obtain ⟨W, hW⟩ : ∃ W, M[v]? = some W := ⟨_, List.getElem?_eq_getElem (by rw [HM.out.len]; exact hv)⟩
      have hW8 := HM.out.lt v W hW
      have hcw := hown.cell (uv_at hW)
      have hfw := hown.frozen v
      have hor : bits .or .u32 ((W : Nat) : Int) ((2 : Int) ^ k % 4294967296) = ((W ||| 2 ^ k : Nat) : Int) := or_powQ (by omega) (by omega)
      have H : Hid (Own (wr.setCell ⟨gm, v, none⟩ (.int .u32 (bits .or .u32 ((W : Nat) : Int) ((2 : Int) ^ k % 4294967296)))) gm 38 (uv (M.set v (W ||| 2 ^ k)))) := Lib.hid (by rw [hor]; exact OwnU.set hown v _)
      have HN := Lib.hid (HM.out.next hve hW (by omega))
      have hk64 : k < 64 := by omega
      clear hown hor hW hve
      go_wp2
      go_region
      all_goals
        go_wp2
        go_round
        case rel => exact ⟨k + 1, _, by omega, by go_num, H.out.drew, HN, (hw.set (p := ⟨gm, v, none⟩) (.inl rfl) _).drew⟩
        case measure => (simp [intOf]; omega)
    · have hkn : k = n := by omega
      have HMN : Hid (MbI n hd n M) := Lib.hid (by have q := HM.out; rw [hkn] at q; exact q)
      clear hkn
      have k0 := hqr.cell (j := 0) rfl
      have k1 := hqr.cell (j := 1) rfl
      have hmk := HMK.out wr
      have hql := hqr.lt
      have hml := hown.lt
      have hOs := Own.new wr 38 (uv (List.replicate n 0))
      have hqs := hqr.alloc (.cells (uv (List.replicate n 0)).toArray 38)
      have hms := hown.alloc (.cells (uv (List.replicate n 0)).toArray 38)
      have hcs := hcr.alloc (.cells (uv (List.replicate n 0)).toArray 38)
      have hbs : Below w.heap.size w (wr.alloc (.cells (uv (List.replicate n 0)).toArray 38)) := (HWI.out.trans (hw.below (by rw [HB1.out]; omega) (by rw [HB1.out]; omega) HWI.out.size)).alloc (by have := HWI.out.size; have := hw.size; omega) _
      have hsl := hcr.gl
      have hsl2 := hcr.hlt
      go_upto_region 9 with fail
      obtain ⟨wJ, hwJ⟩ : ∃ x, x = wr.alloc (.cells (uv (List.replicate n 0)).toArray 38) := ⟨_, rfl⟩
      rw [← hwJ] at hOs hqs hms hcs hbs ⊢
      clear hwJ hcr hqr hown hmk k0 k1 HM hw
      obtain ⟨gs, hgs⟩ : ∃ b, wr.heap.size = b := ⟨_, rfl⟩
      rw [hgs] at hOs hql hml hsl hsl2 ⊢
      clear hgs
      have HBS := Lib.hid hbs
      have hsJ := hbs.size
      rw [HB1.out] at hsJ
      clear hbs
      go_loopw [36] (fun i wr => ∃ (k : Nat) (S : List Nat), k ≤ n ∧ i = .int .i64 k ∧ Own wr gs 38 (uv S) ∧ Hid (StI n hd tg k S) ∧ Wrote2 gs gs wJ wr) (fun i _ => n - (intOf i).toNat)
      case atStart => exact ⟨0, _, Nat.zero_le _, rfl, hOs, Lib.hid (StI.start n hd tg), Wrote2.refl _⟩
      case round =>
        obtain ⟨k, S, hk, rfl, hown, HS, hw⟩ := hrel
        have hcr := hcs.w2 hw (by omega) (by omega) (by omega) (by omega)
        have hqr := hw.own hqs (by omega) (by omega)
        have hmr := hw.own hms (by omega) (by omega)
        have k0 := hqr.cell (j := 0) rfl
        have k1 := hqr.cell (j := 1) rfl
        have hgl := hown.lt
        by_cases hlt : k < n
        · have HT := Lib.hid (targetOf_any g h n cg k hd tg wr hcr hlt (hII.out.hlt k hlt) h8)
          have hto := hII.out.tlt (v := k)
          obtain ⟨t, ht⟩ : ∃ t, tq hd tg k = t := ⟨_, rfl⟩
          rw [ht] at HT hto
          by_cases h0 : t = -1
          · subst h0
            have HN := Lib.hid (HS.out.skip ht)
            have e2 : ((-1 : Int) != -1) = false := rfl
            have HOWN := Lib.hid hown
            clear ht hto hown
            go_wp2_with (go_at_call 41; (with_reducible refine HT.out.mono ?_); rintro e w5 ⟨rfl, hb5⟩)
            go_round
            case rel => exact ⟨k + 1, S, by omega, by go_num, HOWN.out.below hb5 hgl, HN, hw.trans (Wrote2.of_below hb5)⟩
            case measure => (simp [intOf]; omega)
          · obtain ⟨y, rfl⟩ := Int.eq_ofNat_of_zero_le (by omega : 0 ≤ t)
            have hyn : y < n := by omega
            have hhy := hII.out.hlt y hyn
            obtain ⟨W, hW⟩ : ∃ W, M[hq hd y]? = some W := ⟨_, List.getElem?_eq_getElem (by rw [HMN.out.len]; exact hhy)⟩
            have HN := Lib.hid (HS.out.put HMN.out ht hhy hW hlt)
            have e2 : (((y : Nat) : Int) != -1) = true := by simp
            obtain ⟨Z, hZ⟩ : ∃ Z, S[k]? = some Z := ⟨_, List.getElem?_eq_getElem (by rw [HS.out.len]; exact hlt)⟩
            have HOWN := Lib.hid hown
            have HZ := Lib.hid hZ
            have HW := Lib.hid hW
            have HCR := Lib.hid hcr
            have HMR := Lib.hid hmr
            obtain ⟨x, hx⟩ : ∃ x, hq hd y = x := ⟨_, rfl⟩
            rw [hx] at HW hhy
            have HX := Lib.hid hx
            clear ht hto hown hW hZ h0 hcr hmr hx
            go_wp2_with (go_at_call 41; (with_reducible refine HT.out.mono ?_); rintro e w5 ⟨rfl, hb5⟩; have q5 := hqr.below hb5 hqr.lt; have q50 := q5.cell (j := 0) rfl; have q51 := q5.cell (j := 1) rfl; have c5 := (HCR.out.quiet hb5).hc hyn; rw [HX.out] at c5; have m5 := (HMR.out.below hb5 HMR.out.lt).cell (uv_at HW.out); have o5 := HOWN.out.below hb5 hgl; have o51 := o5.cell (uv_at HZ.out); have o52 := o5.frozen k; have H5 := Lib.hid (OwnU.set o5 k W); clear o5)
            go_round
            case rel => exact ⟨k + 1, _, by omega, by go_num, H5.out, HN, (hw.trans (Wrote2.of_below hb5)).set (p := ⟨gs, k, none⟩) (.inl rfl) _⟩
            case measure => (simp [intOf]; omega)
        · have hkn : k = n := by omega
          have HT : Hid (Tel n (fun i x => x < n ∧ ToC hd tg i x) S) := Lib.hid ⟨HS.out.len, HS.out.lt, fun i x hi => by
            rw [HS.out.bit i x hi]
            exact ⟨fun q => q.2, fun q => ⟨by omega, q⟩⟩⟩
          go_wp2
          go_ret
          exact ⟨S, _, _, HT.out, rfl, (OwnU.rd hown).more hown.lt, HBS.out.trans (hw.below (by rw [HB1.out]; omega) (by rw [HB1.out]; omega) (by rw [HB1.out]; omega))⟩

end Go.Proofs.Ytfbnmgnkigfgpaa
