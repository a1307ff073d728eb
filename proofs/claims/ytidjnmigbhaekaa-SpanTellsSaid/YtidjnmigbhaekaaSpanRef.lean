/-
  codemasonref.IsSpan, SpanDo, SpanLists (R1, R2).
-/
import Derived.Test.YtidjnmigbhaekaaPureSpan
import Derived.Test.YtidjnmigbhaekaaSwapMv
import Derived.Test.YtidjnmigbhaekaaMBase
import Derived.Test.YtidjnmigbhaekaaMTerm
import Derived.Laws.Rows
namespace Go.Proofs.Ytidjnmigbhaekaa
open Go.RowKit
set_option linter.unusedSimpArgs false
set_option linter.unusedVariables false
set_option maxRecDepth 100000

/-- a span as a value -/
def vSp (s : Int × Int) : Value := .agg #[.int .i64 s.1, .int .i64 s.2]

theorem span_app : AppTy Try.prog 31 23 2 16 := appTy_of (z := .agg #[.int .i64 0, .int .i64 0]) Try.underlying31 (by kernel_rfl) rfl (by omega)

instance (s : Int × Int) : Decidable (SpOk s) := by unfold SpOk; exact inferInstance

set_option maxHeartbeats 1000000 in
theorem isSpan_any (lo hi : Int) (w : World) :
    Calls Try.prog 8 #[.agg #[.int .i64 lo, .int .i64 hi]] w fun e w' => e = .returned (.bool (decide (SpOk (lo, hi)))) ∧ Below w.heap.size w w' := by
  have HLO := Lib.hid (fun w => refValue_any lo w)
  have HHI := Lib.hid (fun w => refValue_any hi w)
  by_cases h1 : 0 ≤ lo ∧ lo ≤ 255
  · rw [decide_eq_true h1] at HLO
    by_cases h2 : 0 ≤ hi ∧ hi ≤ 255
    · rw [decide_eq_true h2] at HHI
      by_cases h3 : lo ≤ hi
      · have HR : Hid (decide (SpOk (lo, hi)) = true) := Lib.hid (decide_eq_true ⟨h1.1, h3, h2.2⟩)
        clear h1 h2
        go_enter Try.func8, Try.ntmps8
        go_wp2_with (first
          | (go_at_call 20; (with_reducible refine (HLO.out _).mono ?_); rintro e w1 ⟨rfl, rfl⟩)
          | (go_at_call 20; (with_reducible refine (HHI.out _).mono ?_); rintro e w1 ⟨rfl, rfl⟩))
        go_ret
        exact ⟨ret_bool (by rw [HR.out]), by go_grown⟩
      · have HR : Hid (decide (SpOk (lo, hi)) = false) := Lib.hid (decide_eq_false fun h => h3 h.2.1)
        have h3d : decide (lo ≤ hi) = false := by simpa using h3
        clear h1 h2
        go_enter Try.func8, Try.ntmps8
        go_wp2_with (first
          | (go_at_call 20; (with_reducible refine (HLO.out _).mono ?_); rintro e w1 ⟨rfl, rfl⟩)
          | (go_at_call 20; (with_reducible refine (HHI.out _).mono ?_); rintro e w1 ⟨rfl, rfl⟩))
        go_ret
        exact ⟨ret_bool (by rw [HR.out]), by go_grown⟩
    · rw [decide_eq_false h2] at HHI
      have HR : Hid (decide (SpOk (lo, hi)) = false) := Lib.hid (decide_eq_false fun h => h2 (by unfold SpOk at h; simp only at h; omega))
      clear h1 h2
      go_enter Try.func8, Try.ntmps8
      go_wp2_with (first
        | (go_at_call 20; (with_reducible refine (HLO.out _).mono ?_); rintro e w1 ⟨rfl, rfl⟩)
        | (go_at_call 20; (with_reducible refine (HHI.out _).mono ?_); rintro e w1 ⟨rfl, rfl⟩))
      go_ret
      exact ⟨ret_bool (by rw [HR.out]), by go_grown⟩
  · rw [decide_eq_false h1] at HLO
    have HR : Hid (decide (SpOk (lo, hi)) = false) := Lib.hid (decide_eq_false fun h => h1 (by unfold SpOk at h; simp only at h; omega))
    clear h1
    go_enter Try.func8, Try.ntmps8
    go_wp2_with (go_at_call 20; (with_reducible refine (HLO.out _).mono ?_); rintro e w1 ⟨rfl, rfl⟩)
    go_ret
    exact ⟨ret_bool (by rw [HR.out]), by go_grown⟩

/-- the boxes of SpanDo -/
structure SdB (n : Nat) (a b : Int × Int) (lo hi : Int) (w wr : World) : Prop where
  a : Own wr n 23 [.int .i64 a.1, .int .i64 a.2]
  b : Own wr (n + 1) 23 [.int .i64 b.1, .int .i64 b.2]
  r : Own wr (n + 2) 23 [.int .i64 0, .int .i64 0]
  s : Own wr (n + 3) 23 [.int .i64 lo, .int .i64 hi]
  bel : Below n w wr

theorem SdB.put0 {n : Nat} {a b : Int × Int} {lo hi x : Int} {w wr : World} (h : SdB n a b lo hi w wr) : SdB n a b x hi w (wr.setCell ⟨n + 3, 0, none⟩ (.int .i64 x)) :=
  ⟨h.a.far (by show n ≠ n + 3; omega) _, h.b.far (by show n + 1 ≠ n + 3; omega) _, h.r.far (by show n + 2 ≠ n + 3; omega) _, h.s.set 0 _, h.bel.setCell (by show n ≤ n + 3; omega) _⟩

theorem SdB.put1 {n : Nat} {a b : Int × Int} {lo hi x : Int} {w wr : World} (h : SdB n a b lo hi w wr) : SdB n a b lo x w (wr.setCell ⟨n + 3, 1, none⟩ (.int .i64 x)) :=
  ⟨h.a.far (by show n ≠ n + 3; omega) _, h.b.far (by show n + 1 ≠ n + 3; omega) _, h.r.far (by show n + 2 ≠ n + 3; omega) _, h.s.set 1 _, h.bel.setCell (by show n ≤ n + 3; omega) _⟩

/-- pairs seen: all of the rows below x, and of row x those below y -/
def SnP (a b : Int × Int) (x y u v : Int) : Prop := InSp v b ∧ a.1 ≤ u ∧ (u < x ∨ (u = x ∧ v < y))

theorem sn_in {a b : Int × Int} {x y u v : Int} (h : x ≤ a.2 ∨ x ≤ a.2 + 1 ∧ y = b.1) (hs : SnP a b x y u v) : InSp u a ∧ InSp v b := by
  unfold SnP InSp at *
  omega

theorem sn_add {a b : Int × Int} {x y u v : Int} (hx : InSp x a) (hy : InSp y b) : SnP a b x (y + 1) u v ↔ SnP a b x y u v ∨ u = x ∧ v = y := by
  unfold SnP InSp at *
  omega

theorem sn_row {a b : Int × Int} {x u v : Int} : SnP a b (x + 1) b.1 u v ↔ SnP a b x (b.2 + 1) u v := by
  unfold SnP InSp at *
  omega

theorem sn_none {a b : Int × Int} {u v : Int} : ¬ SnP a b a.1 b.1 u v := by
  unfold SnP InSp at *
  omega

theorem sn_all {a b : Int × Int} {x u v : Int} (hx : x = a.2 + 1) (h1 : InSp u a) (h2 : InSp v b) : SnP a b x b.1 u v := by
  unfold SnP InSp at *
  omega

set_option maxHeartbeats 16000000 in
theorem spanDo_any (o : Int) (a b : Int × Int) (w : World) (ho : 3 ≤ o) (ho' : o ≤ 6) (ha : SpOk a) (hb : SpOk b) :
    Calls Try.prog 9 #[.int .i64 o, vSp a, vSp b] w fun e w' => e = .returned (vSp (doSp o a b)) ∧ Below w.heap.size w w' := by
  have HAO := Lib.hid ha
  have HBO := Lib.hid hb
  obtain ⟨ha0, ha1, ha2⟩ := ha
  obtain ⟨hb0, hb1, hb2⟩ := hb
  obtain ⟨al, ah⟩ := a
  obtain ⟨bl, bh⟩ := b
  simp only at ha0 ha1 ha2 hb0 hb1 hb2
  have HOP := Lib.hid (fun x y w (h : InSp x (al, ah) ∧ InSp y (bl, bh)) => refOp_any o x y w (by have := h.1.1; simp only at this; omega) (by have := h.1.2; simp only at this; omega) (by have := h.2.1; simp only at this; omega) (by have := h.2.2; simp only at this; omega) ho ho')
  have HB0 : Hid (SdB w.heap.size (al, ah) (bl, bh) 255 0 w ((((w.alloc (.cells #[.int .i64 al, .int .i64 ah] 23)).alloc (.cells #[.int .i64 bl, .int .i64 bh] 23)).alloc (.cells #[.int .i64 0, .int .i64 0] 23)).alloc (.cells #[.int .i64 255, .int .i64 0] 23))) := Lib.hid
    ⟨(((Own.new w _ [.int .i64 al, .int .i64 ah]).alloc _).alloc _).alloc _, by simpa using ((Own.new (w.alloc _) 23 [.int .i64 bl, .int .i64 bh]).alloc _).alloc _, by simpa using (Own.new ((w.alloc _).alloc _) 23 [.int .i64 0, .int .i64 0]).alloc _, by simpa using Own.new (((w.alloc _).alloc _).alloc _) 23 [.int .i64 255, .int .i64 0], by go_grown⟩
  unfold vSp
  clear ho ho'
  go_enter Try.func9, Try.ntmps9
  go_wp2
  obtain ⟨n, hn⟩ : ∃ n, w.heap.size = n := ⟨_, rfl⟩
  have HN := Lib.hid hn
  rw [hn] at HB0
  simp only [hn]
  clear hn
  go_loopw [8] (fun x wr => ∃ xi lo hi : Int, al ≤ xi ∧ xi ≤ ah + 1 ∧ x = .int .i64 xi ∧ Hid (SeenI o (SnP (al, ah) (bl, bh) xi bl) lo hi) ∧ SdB n (al, ah) (bl, bh) lo hi w wr) (fun x _ => (ah + 1 - intOf x).toNat)
  case atStart => exact ⟨al, 255, 0, Int.le_refl _, by omega, rfl, Lib.hid ((SeenI.start o).congr fun u v => ⟨fun h => (sn_none h).elim, fun h => h.elim⟩), HB0.out⟩
  case round =>
    obtain ⟨xi, lo, hi, hx1, hx2, rfl, HS, hsd⟩ := hrel
    have HSD := Lib.hid hsd
    have a1 := hsd.a.cell (j := 1) rfl
    have b0 := hsd.b.cell (j := 0) rfl
    have hll := hsd.s.lt
    clear hsd
    by_cases hxa : xi ≤ ah
    · obtain ⟨wo, rfl⟩ : ∃ wo : World, wo = wr := ⟨_, rfl⟩
      go_wp2
      go_loopw [9] (fun y wr => ∃ yi lo hi : Int, bl ≤ yi ∧ yi ≤ bh + 1 ∧ y = .int .i64 yi ∧ Hid (SeenI o (SnP (al, ah) (bl, bh) xi yi) lo hi) ∧ SdB n (al, ah) (bl, bh) lo hi w wr) (fun y _ => (bh + 1 - intOf y).toNat)
      case atStart => exact ⟨bl, lo, hi, Int.le_refl _, by omega, rfl, HS, HSD.out⟩
      case round =>
        obtain ⟨yi, lo, hi, hy1, hy2, rfl, HS, hsd⟩ := hrel
        have HSD := Lib.hid hsd
        have b1 := hsd.b.cell (j := 1) rfl
        have s0 := hsd.s.cell (j := 0) rfl
        have s1 := hsd.s.cell (j := 1) rfl
        have f0 := hsd.s.frozen 0
        have f1 := hsd.s.frozen 1
        have g0 := hsd.r.frozen 0
        have g1 := hsd.r.frozen 1
        have r0 := hsd.r.cell (j := 0) rfl
        have r1 := hsd.r.cell (j := 1) rfl
        have hll := hsd.s.lt
        clear hsd
        by_cases hyb : yi ≤ bh
        · have HCO := Lib.hid (HOP.out xi yi wr ⟨⟨hx1, hxa⟩, ⟨hy1, hyb⟩⟩)
          have hvb := opv_bd o xi yi
          have HAD : Hid (∀ lo' hi' : Int, lo' = min lo (opv o xi yi) → hi' = max hi (opv o xi yi) → SeenI o (SnP (al, ah) (bl, bh) xi (yi + 1)) lo' hi') := Lib.hid fun lo' hi' h1 h2 => HS.out.add (fun u v => sn_add ⟨hx1, hxa⟩ ⟨hy1, hyb⟩) h1 h2
          have hbd := HS.out.bd
          obtain ⟨v, hv⟩ : ∃ v, opv o xi yi = v := ⟨_, rfl⟩
          rw [hv] at HCO hvb HAD
          clear hv
          have HEND : Hid (∀ lo' hi' : Int, SeenI o (SnP (al, ah) (bl, bh) xi (yi + 1)) lo' hi' → lo' = 0 → hi' = 255 → (lo', hi') = doSp o (al, ah) (bl, bh)) := Lib.hid fun lo' hi' h1 h2 h3 => (h1.done (fun u v h => sn_in (.inl hxa) h) ⟨xi, yi, (sn_add (a := (al, ah)) (b := (bl, bh)) ⟨hx1, hxa⟩ ⟨hy1, hyb⟩).2 (.inr ⟨rfl, rfl⟩)⟩ (.inr ⟨h2, h3⟩)).eq HAO.out HBO.out
          by_cases c1 : v < lo
          · by_cases c2 : hi < v
            · have HSN : Hid (SeenI o (SnP (al, ah) (bl, bh) xi (yi + 1)) v v) := Lib.hid (HAD.out v v (by omega) (by omega))
              have HS3 := Lib.hid ((HSD.out.put0 (x := v)).put1 (x := v))
              by_cases z1 : v = 0
              · have z1b : (v == 0) = true := by simp [z1]
                by_cases z2 : v = 255
                · have z2b : (v == 255) = true := by simp [z2]
                  have HE := Lib.hid (HEND.out v v HSN.out z1 z2)
                  omega
                · have z2b : (v == 255) = false := by simp [z2]
                  clear z1 z2
                  go_wp2_with (go_at_call 14; (with_reducible refine HCO.out.mono ?_); rintro e w1 ⟨rfl, rfl⟩)
                  go_round
                  case rel => exact ⟨yi + 1, v, v, by omega, by omega, by go_num, HSN, HS3.out⟩
                  case measure => (simp [intOf]; omega)
              · have z1b : (v == 0) = false := by simp [z1]
                clear z1
                go_wp2_with (go_at_call 14; (with_reducible refine HCO.out.mono ?_); rintro e w1 ⟨rfl, rfl⟩)
                go_round
                case rel => exact ⟨yi + 1, v, v, by omega, by omega, by go_num, HSN, HS3.out⟩
                case measure => (simp [intOf]; omega)
            · have HSN : Hid (SeenI o (SnP (al, ah) (bl, bh) xi (yi + 1)) v hi) := Lib.hid (HAD.out v hi (by omega) (by omega))
              have HS3 := Lib.hid (HSD.out.put0 (x := v))
              by_cases z1 : v = 0
              · have z1b : (v == 0) = true := by simp [z1]
                by_cases z2 : hi = 255
                · have z2b : (hi == 255) = true := by simp [z2]
                  have HE := Lib.hid (HEND.out v hi HSN.out z1 z2)
                  clear z1 z2
                  go_wp2_with (go_at_call 14; (with_reducible refine HCO.out.mono ?_); rintro e w1 ⟨rfl, rfl⟩)
                  try simp only [Exit.inBlock, Exit.then]
                  exact bodyPost_ret (v := .agg #[.int .i64 v, .int .i64 hi]) (results_cell_row rfl _ _ (n + 2) 23 _ _ _ rfl ((HS3.out.r.set 0 (.int .i64 v)).set 1 (.int .i64 hi)) Try.underlying23 rfl (by kernel_rfl)) rfl ⟨by rw [← HE.out], by rw [HN.out]; exact (HS3.out.bel.setCell (by show n ≤ n + 2; omega) _).setCell (by show n ≤ n + 2; omega) _⟩
                · have z2b : (hi == 255) = false := by simp [z2]
                  clear z1 z2
                  go_wp2_with (go_at_call 14; (with_reducible refine HCO.out.mono ?_); rintro e w1 ⟨rfl, rfl⟩)
                  go_round
                  case rel => exact ⟨yi + 1, v, hi, by omega, by omega, by go_num, HSN, HS3.out⟩
                  case measure => (simp [intOf]; omega)
              · have z1b : (v == 0) = false := by simp [z1]
                clear z1
                go_wp2_with (go_at_call 14; (with_reducible refine HCO.out.mono ?_); rintro e w1 ⟨rfl, rfl⟩)
                go_round
                case rel => exact ⟨yi + 1, v, hi, by omega, by omega, by go_num, HSN, HS3.out⟩
                case measure => (simp [intOf]; omega)
          · by_cases c2 : hi < v
            · have HSN : Hid (SeenI o (SnP (al, ah) (bl, bh) xi (yi + 1)) lo v) := Lib.hid (HAD.out lo v (by omega) (by omega))
              have HS3 := Lib.hid (HSD.out.put1 (x := v))
              by_cases z1 : lo = 0
              · have z1b : (lo == 0) = true := by simp [z1]
                by_cases z2 : v = 255
                · have z2b : (v == 255) = true := by simp [z2]
                  have HE := Lib.hid (HEND.out lo v HSN.out z1 z2)
                  clear z1 z2
                  go_wp2_with (go_at_call 14; (with_reducible refine HCO.out.mono ?_); rintro e w1 ⟨rfl, rfl⟩)
                  try simp only [Exit.inBlock, Exit.then]
                  exact bodyPost_ret (v := .agg #[.int .i64 lo, .int .i64 v]) (results_cell_row rfl _ _ (n + 2) 23 _ _ _ rfl ((HS3.out.r.set 0 (.int .i64 lo)).set 1 (.int .i64 v)) Try.underlying23 rfl (by kernel_rfl)) rfl ⟨by rw [← HE.out], by rw [HN.out]; exact (HS3.out.bel.setCell (by show n ≤ n + 2; omega) _).setCell (by show n ≤ n + 2; omega) _⟩
                · have z2b : (v == 255) = false := by simp [z2]
                  clear z1 z2
                  go_wp2_with (go_at_call 14; (with_reducible refine HCO.out.mono ?_); rintro e w1 ⟨rfl, rfl⟩)
                  go_round
                  case rel => exact ⟨yi + 1, lo, v, by omega, by omega, by go_num, HSN, HS3.out⟩
                  case measure => (simp [intOf]; omega)
              · have z1b : (lo == 0) = false := by simp [z1]
                clear z1
                go_wp2_with (go_at_call 14; (with_reducible refine HCO.out.mono ?_); rintro e w1 ⟨rfl, rfl⟩)
                go_round
                case rel => exact ⟨yi + 1, lo, v, by omega, by omega, by go_num, HSN, HS3.out⟩
                case measure => (simp [intOf]; omega)
            · have HSN : Hid (SeenI o (SnP (al, ah) (bl, bh) xi (yi + 1)) lo hi) := Lib.hid (HAD.out lo hi (by omega) (by omega))
              have HS3 := Lib.hid (HSD.out)
              by_cases z1 : lo = 0
              · have z1b : (lo == 0) = true := by simp [z1]
                by_cases z2 : hi = 255
                · have z2b : (hi == 255) = true := by simp [z2]
                  have HE := Lib.hid (HEND.out lo hi HSN.out z1 z2)
                  clear z1 z2
                  go_wp2_with (go_at_call 14; (with_reducible refine HCO.out.mono ?_); rintro e w1 ⟨rfl, rfl⟩)
                  try simp only [Exit.inBlock, Exit.then]
                  exact bodyPost_ret (v := .agg #[.int .i64 lo, .int .i64 hi]) (results_cell_row rfl _ _ (n + 2) 23 _ _ _ rfl ((HS3.out.r.set 0 (.int .i64 lo)).set 1 (.int .i64 hi)) Try.underlying23 rfl (by kernel_rfl)) rfl ⟨by rw [← HE.out], by rw [HN.out]; exact (HS3.out.bel.setCell (by show n ≤ n + 2; omega) _).setCell (by show n ≤ n + 2; omega) _⟩
                · have z2b : (hi == 255) = false := by simp [z2]
                  clear z1 z2
                  go_wp2_with (go_at_call 14; (with_reducible refine HCO.out.mono ?_); rintro e w1 ⟨rfl, rfl⟩)
                  go_round
                  case rel => exact ⟨yi + 1, lo, hi, by omega, by omega, by go_num, HSN, HS3.out⟩
                  case measure => (simp [intOf]; omega)
              · have z1b : (lo == 0) = false := by simp [z1]
                clear z1
                go_wp2_with (go_at_call 14; (with_reducible refine HCO.out.mono ?_); rintro e w1 ⟨rfl, rfl⟩)
                go_round
                case rel => exact ⟨yi + 1, lo, hi, by omega, by omega, by go_num, HSN, HS3.out⟩
                case measure => (simp [intOf]; omega)
        · have hyb2 : yi = bh + 1 := by omega
          have HS2 : Hid (SeenI o (SnP (al, ah) (bl, bh) (xi + 1) bl) lo hi) := Lib.hid (HS.out.congr fun u v => by rw [hyb2]; exact sn_row)
          clear hyb2
          go_wp2
          go_round
          case rel => exact ⟨xi + 1, lo, hi, by omega, by omega, by go_num, HS2, HSD.out⟩
          case measure => (simp [intOf]; omega)
    · have hxa2 : xi = ah + 1 := by omega
      have HE : Hid ((lo, hi) = doSp o (al, ah) (bl, bh)) := Lib.hid ((HS.out.done (fun u v h => sn_in (.inr ⟨by simp only; omega, rfl⟩) h) ⟨al, bl, sn_all (a := (al, ah)) (b := (bl, bh)) hxa2 ⟨by simp, ha1⟩ ⟨by simp, hb1⟩⟩ (.inl fun u v h1 h2 => sn_all hxa2 h1 h2)).eq HAO.out HBO.out)
      have s0 := HSD.out.s.cell (j := 0) rfl
      have s1 := HSD.out.s.cell (j := 1) rfl
      have g0 := HSD.out.r.frozen 0
      have g1 := HSD.out.r.frozen 1
      have r0 := HSD.out.r.cell (j := 0) rfl
      have r1 := HSD.out.r.cell (j := 1) rfl
      clear hxa2
      go_wp2
      try simp only [Exit.inBlock, Exit.then]
      exact bodyPost_ret (v := .agg #[.int .i64 lo, .int .i64 hi]) (results_cell_row rfl _ _ (n + 2) 23 _ _ _ rfl ((HSD.out.r.set 0 (.int .i64 lo)).set 1 (.int .i64 hi)) Try.underlying23 rfl (by kernel_rfl)) rfl ⟨by rw [← HE.out], by rw [HN.out]; exact (HSD.out.bel.setCell (by show n ≤ n + 2; omega) _).setCell (by show n ≤ n + 2; omega) _⟩

end Go.Proofs.Ytidjnmigbhaekaa
