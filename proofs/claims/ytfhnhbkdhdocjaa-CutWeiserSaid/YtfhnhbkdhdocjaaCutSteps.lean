/-
  cut.stepsFor (T1): which steps are required, from the back.
-/
import Derived.Test.YtfhnhbkdhdocjaaCutFn
import Derived.Test.YtfhnhbkdhdocjaaMLiveP
namespace Go.Proofs.Ytfhnhbkdhdocjaa
open Go.RowKit Go.Shelf
set_option linter.unusedSimpArgs false
set_option linter.unusedVariables false
set_option maxRecDepth 100000
attribute [local go_sem] Oper.semAt_some

theorem boolS_info : (Try.prog.info? 4).map (fun i => (i.zero, i.size, i.bytes)) = some (some (.bool false), 1, 1) := by kernel_rfl

/-- what stepsFor holds between two rounds -/
structure MkI (c : List St) (L h len : Nat) (pre : List (Fin c.length)) (W : World) : Prop where
  live : Own W h 23 [.int .u32 ((mkF c pre L).2 : Nat)]
  marks : Own W (h + 1) 4 (bv (mkF c pre L).1)
  box : Own W (h + 1 + 1) 76 [.slice (some ⟨h + 1, 0, none⟩) len len]

theorem MkI.kept {c : List St} {L h len : Nat} {pre : List (Fin c.length)} {W W' : World} {row : Option Nat} (hi : MkI c L h len pre W) (hg : W.grownBy W' row) (hr : ∀ r, row = some r → ∃ o : Obj, W.heap[r]? = some o ∧ o.isCells = false) : MkI c L h len pre W' := ⟨hi.live.kept hg hr, hi.marks.kept hg hr, hi.box.kept hg hr⟩

theorem MkI.below {c : List St} {L h len : Nat} {pre : List (Fin c.length)} {W W' : World} (hi : MkI c L h len pre W) (hb : Below W.heap.size W W') : MkI c L h len pre W' := ⟨hi.live.below hb hi.live.lt, hi.marks.below hb hi.marks.lt, hi.box.below hb hi.box.lt⟩

set_option maxHeartbeats 8000000 in
theorem stepsFor_any (n : Nat) (A : Option Addr) (len cap L : Nat) (l : List St) (w : World) (hx : RdS w w.heap.size A l) (hl : l.length = len) (hm : len ≤ 65536) (hc : StOk n l) (hn : n ≤ 6) (hL : L < 2 ^ n) :
    Calls Try.prog 116 #[.int .u32 (L : Nat), .slice A len cap] w fun e w' => ∃ g, e = .returned (.tuple #[.slice (some ⟨g, 0, none⟩) len len, .int .u32 ((mkL l L).2 : Nat)]) ∧ Own w' g 4 (bv (mkL l L).1) ∧ w.heap.size ≤ g ∧ Below w.heap.size w w' := by
  have HL := Lib.hid hl
  have HC := Lib.hid hc
  have h6 : 2 ^ n ≤ 2 ^ 6 := Nat.pow_le_pow_right (by omega) hn
  clear hc
  have hro : Fence.wide.round = none := rfl
  have h1 : 1 ≤ 5 := by omega
  have hmk := make_bools (P := Try.prog) 76 4 Try.underlying76 boolS_info len (by omega)
  refine (callsIn_wide (n := 5)).1 ?_
  refine callsIn_of_wp_marks Try.func116 rfl trivial ?_ hro
  simp only [Try.ntmps116, List.size_toArray, List.length_cons, List.length_nil, Nat.reduceAdd, Nat.reduceSub, Array.replicate_succ, Array.replicate_zero, List.push_toArray, List.append_toArray, List.nil_append, List.cons_append]
  gi_wp2_with (refine ⟨trivial, ?_⟩; gi_at_call 81; refine (backS_in Fence.wide _ trivial hro _ _ _ _).mono ?_; rintro e w' ⟨rfl, rfl⟩)
  obtain ⟨Y0, hY0⟩ : ∃ Y0 : World, Y0 = w.alloc (Obj.cells #[Value.int IntKind.u32 ↑L] 23) := ⟨_, rfl⟩
  obtain ⟨Y1, hY1⟩ : ∃ Y1 : World, Y1 = Y0.alloc (Obj.cells (bv (List.replicate len false)).toArray 4) := ⟨_, rfl⟩
  obtain ⟨Y2, hY2⟩ : ∃ Y2 : World, Y2 = Y1.alloc (Obj.cells #[Value.slice (some { block := w.heap.size + 1, off := 0 }) len len] 76) := ⟨_, rfl⟩
  obtain ⟨W0, hW0⟩ : ∃ W0 : World, W0 = Y2.alloc (Obj.cells #[Value.slice A len cap] 49) := ⟨_, rfl⟩
  rw [← hY0, ← hY1, ← hY2, ← hW0]
  have z0 : Y0.heap.size = w.heap.size + 1 := by rw [hY0]; simp
  have z1 : Y1.heap.size = w.heap.size + 1 + 1 := by rw [hY1]; simp [z0]
  have z2 : Y2.heap.size = w.heap.size + 1 + 1 + 1 := by rw [hY2]; simp [z1]
  have hs0 : W0.heap.size = w.heap.size + 1 + 1 + 1 + 1 := by rw [hW0]; simp [z2]
  have k0 : Own W0 w.heap.size 23 [.int .u32 (L : Nat)] := by
    rw [hW0, hY2, hY1, hY0]
    exact (((Own.new w 23 [.int .u32 (L : Nat)]).alloc _).alloc _).alloc _
  have k1 : Own W0 (w.heap.size + 1) 4 (bv (List.replicate len false)) := by
    have h := Own.new Y0 4 (bv (List.replicate len false))
    rw [z0] at h
    rw [hW0, hY2, hY1]
    exact (h.alloc _).alloc _
  have k2 : Own W0 (w.heap.size + 1 + 1) 76 [.slice (some ⟨w.heap.size + 1, 0, none⟩) len len] := by
    have h := Own.new Y1 76 [.slice (some ⟨w.heap.size + 1, 0, none⟩) len len]
    rw [z1] at h
    rw [hW0, hY2]
    exact h.alloc _
  have k3 : Own W0 (w.heap.size + 1 + 1 + 1) 49 [.slice A len cap] := by
    have h := Own.new Y2 49 [.slice A len cap]
    rw [z2] at h
    rw [hW0]
    exact h
  have hB0 : Below w.heap.size w W0 := by
    rw [hW0, hY2, hY1, hY0]
    go_grown
  clear hW0 hY2 hY1 hY0 z0 z1 z2 hmk
  have hs1 : w.heap.size + 1 + 1 + 1 < W0.heap.size := by omega
  have hs2 : w.heap.size ≤ W0.heap.size := by omega
  have hcap0 : W0.cell? ⟨w.heap.size + 1 + 1 + 1, 0, none⟩ = some (.slice A len cap) := k3.cell (j := 0) rfl
  have HI0 : Hid (MkI l L w.heap.size len ([] : List (Fin l.length)) W0) := Lib.hid ⟨k0, by
    have : mkF l [] L = (List.replicate len false, L) := by unfold mkF; rw [List.foldl_nil, hl]
    rw [this]
    exact k1, k2⟩
  clear hl k0 k1 k2 k3
  refine wpIn_rangeFunc_ownH hro h1 (gf := 102) (lb := #[.pointer (some ⟨w.heap.size + 1 + 1 + 1, 0, none⟩)]) rfl trivial (enters_of Try.func102 (by kernel_rfl) rfl)
    (backS_stops Fence.wide _ trivial hro (by omega) (w.heap.size + 1 + 1 + 1) w.heap.size len cap A l HL.out (by omega) W0 hs1 hs2 hcap0 (hx.below hB0 (Nat.le_refl _))) KpB.t (KpB.b hs2 hs1) (Below.refl _ _) (fun _ => rfl)
    (fun pre W => MkI l L w.heap.size len pre W ∧ (Below w.heap.size w W ∧ W0.heap.size ≤ W.heap.size))
    (fun _ _ _ => False)
    (OwnFrom.and (_root_.Go.Own.from (fun s X Y row hs hg hr => hs.kept hg hr) _) (OwnFrom.and (ownFrom_below (Nat.le_refl _) hs2) (fun _ _ _ _ h hg _ => Nat.le_trans h hg.size)))
    (fun _ _ _ _ _ hs _ _ => hs)
    ⟨HI0.out, hB0, Nat.le_refl _⟩
    (fun x a' W => ∃ Bx, W0.heap.size ≤ Bx ∧ Own W Bx 87 [.int .i64 l[x.1].op, .int .i64 l[x.1].to, .int .i64 l[x.1].a, .int .i64 l[x.1].b, .int .i64 l[x.1].v] ∧
      a' = { tmps := #[.int .u32 (L : Nat), .slice A len cap, .pointer (some ⟨w.heap.size, 0, none⟩), undef, .slice none 0 0, .int .u32 0, .pointer (some ⟨w.heap.size + 1 + 1, 0, none⟩), .int .i64 (x.1 : Int), .pointer (some ⟨Bx, 0, none⟩), .slice A len cap, .int .i64 len, .slice (some ⟨w.heap.size + 1, 0, none⟩) len len, .slice A len cap, .func (.func 102) #[] #[.pointer (some ⟨w.heap.size + 1 + 1 + 1, 0, none⟩)], .int .i64 (x.1 : Int), .agg #[.int .i64 l[x.1].op, .int .i64 l[x.1].to, .int .i64 l[x.1].a, .int .i64 l[x.1].b, .int .i64 l[x.1].v], undef, undef, undef, undef, undef, undef, undef, undef, undef, undef, undef, undef], defers := [] })
    (fun x a' => _root_.Go.Own.from (fun s X Y row hs hg hr => by obtain ⟨Bx, h1, h2, h3⟩ := hs; exact ⟨Bx, h1, h2.kept hg hr, h3⟩) _)
    ?assign ?body ?done ?stop
  case assign =>
    rintro lb pre x W K ⟨i1, i3, i4⟩ hK
    simp only [encS]
    gi_wp2
    exact hK _ _ ((KeepsOthers.alloc _ _).from _) (KpB.alloc W i3.size (by omega) _) ⟨i1.below (by go_grown), i3.alloc i3.size _, by simp; omega⟩ ⟨W.heap.size, i4, Own.new _ _ _, rfl⟩
  case body =>
    rintro lb pre ⟨m, hm2⟩ a' W hlb ⟨r, hr⟩ ⟨⟨i1, i2, i5⟩, i3, i4⟩ ⟨Bx, hBx, bX, rfl⟩ hlt
    simp only at bX ⊢
    have hcs := HC.out l[m] (List.getElem_mem hm2)
    have hst := mkF_snoc l pre ⟨m, hm2⟩ L
    have hlen := mkF_len l pre L
    rw [HL.out] at hlen
    have hlt6 := mkF_lt HC.out pre hL
    have hml : m < len := by have := HL.out; omega
    simp only at hst
    have HST := Lib.hid hst
    generalize l[m] = s at *
    obtain ⟨o, t, a, b, v⟩ := s
    simp only at hcs HST bX ⊢
    clear hst hlt
    have HCS := Lib.hid hcs
    obtain ⟨⟨t0, t1⟩, _⟩ := ckStep_cases hcs
    clear hcs
    obtain ⟨tn, rfl⟩ := Int.eq_ofNat_of_zero_le t0
    have htn : tn < 32 := by omega
    rw [show (((tn : Nat) : Int)).toNat = tn from rfl] at HST
    generalize mkF l pre L = st at *
    obtain ⟨R, X⟩ := st
    simp only at HST i1 i2 i5 hlen hlt6 ⊢
    have hX32 : X < 4294967296 := by omega
    obtain ⟨bt, hbt⟩ : ∃ bt, X.testBit tn = bt := ⟨_, rfl⟩
    rw [hbt] at HST
    have HB := Lib.hid hbt
    clear hbt
    have hc0 := i1.cell (j := 0) rfl
    have hb1 := bX.cell (j := 1) rfl
    have hS := i5.cell (j := 0) rfl
    have h12 : 1 ≤ 5 - 1 - 1 := by omega
    cases bt with
    | false =>
      rw [if_neg (by simp)] at HST
      gi_wp2_with (refine ⟨trivial, ?_⟩; gi_at_call 76; refine (CallsIn.inRound lb (callsIn_wide.2 (hasBit_any X tn _ hX32 htn))).mono ?_; rw [HB.out]; rintro e w5 ⟨rfl, rfl⟩)
      exact ⟨KeepsFrom.refl _ _, KpB.refl _ _ _, ⟨by rw [HST.out]; exact i1, by rw [HST.out]; exact i2, i5⟩, i3, i4⟩
    | true =>
      rw [if_pos rfl] at HST
      obtain ⟨bm, hbm⟩ : ∃ bm, R[m]? = some bm := ⟨_, List.getElem?_eq_getElem (by omega)⟩
      have hcN := i2.cell (bv_at hbm)
      have hfN := i2.frozen m
      have hBx2 : Bx ≠ w.heap.size + 1 := by omega
      have hh2 : w.heap.size ≠ w.heap.size + 1 := by omega
      have bX' := bX.far (p := ⟨w.heap.size + 1, m, none⟩) hBx2 (.bool true)
      have i1' := i1.far (p := ⟨w.heap.size + 1, m, none⟩) hh2 (.bool true)
      have i2' := OwnB.set i2 m true
      have i5' := i5.far (p := ⟨w.heap.size + 1, m, none⟩) (by show w.heap.size + 1 + 1 ≠ w.heap.size + 1; omega) (.bool true)
      have x0 := bX'.cell (j := 0) rfl
      have x1 := bX'.cell (j := 1) rfl
      have x2 := bX'.cell (j := 2) rfl
      have x3 := bX'.cell (j := 3) rfl
      have x4 := bX'.cell (j := 4) rfl
      have y0 := i1'.cell (j := 0) rfl
      have HI1 := Lib.hid i1'
      have HI2 := Lib.hid i2'
      have HI5 := Lib.hid i5'
      have HI3 := Lib.hid i3
      have HK1 : Hid (KeepsOthers W (W.setCell ⟨w.heap.size + 1, m, none⟩ (.bool true))) := Lib.hid (KeepsOthers.setCell _ _ _)
      have HK2 : Hid (KpB w.heap.size (w.heap.size + 1 + 1 + 1) W (W.setCell ⟨w.heap.size + 1, m, none⟩ (.bool true))) := Lib.hid (KpB.setCell _ (p := ⟨w.heap.size + 1, m, none⟩) (Nat.le_succ _) (by simp; omega) _)
      have HB1 : Hid (Below w.heap.size w (W.setCell ⟨w.heap.size + 1, m, none⟩ (.bool true))) := Lib.hid (i3.setCell (p := ⟨w.heap.size + 1, m, none⟩) (Nat.le_succ _) _)
      have hsz1 : (W.setCell ⟨w.heap.size + 1, m, none⟩ (.bool true)).heap.size = W.heap.size := by simp
      have HSZ := Lib.hid hsz1
      clear hbm i1' i2' i5' bX' i2 i3 hsz1
      gi_wp2_with (first
        | (refine ⟨trivial, ?_⟩; gi_at_call 76; refine (CallsIn.inRound lb (callsIn_wide.2 (hasBit_any X tn _ hX32 htn))).mono ?_; rw [HB.out]; rintro e w5 ⟨rfl, rfl⟩)
        | (refine ⟨trivial, ?_⟩; gi_at_call 82; refine (CallsIn.inRound lb (callsIn_wide.2 (beforeStep_any n o tn a b v X _ HCS.out hn hlt6))).mono ?_; rintro e w7 ⟨rfl, hb7⟩; have hj7 := HI1.out.below hb7 HI1.out.lt; have u0 := hj7.cell (j := 0) rfl; have u1 := hj7.frozen 0))
      have hsz := HSZ.out
      have hs7 := hb7.size
      refine ⟨(HK1.out.trans ((keeps_below hb7).trans (KeepsOthers.setCell _ _ _))).from _, KpB.t HK2.out (KpB.t (kpB_below hb7 (by omega) (by omega)) (KpB.setCell _ (p := ⟨w.heap.size, 0, none⟩) (Nat.le_refl _) (by simp; omega) _)), ⟨by rw [HST.out]; exact hj7.set 0 _, by rw [HST.out]; exact (HI2.out.below hb7 HI2.out.lt).far (by simp) _, (HI5.out.below hb7 HI5.out.lt).far (by simp; omega) _⟩, (HB1.out.trans (hb7.mono (by omega))).setCell (p := ⟨w.heap.size, 0, none⟩) (Nat.le_refl _) _, by simp; omega⟩
  case done =>
    rintro D ys W hD rfl ⟨⟨i1, i2, i5⟩, i3, i4⟩ hK
    rw [mkF_all] at i1 i2
    have hc0 := i1.cell (j := 0) rfl
    have hS := i5.cell (j := 0) rfl
    have HI2 := Lib.hid i2
    have HK := Lib.hid hK
    have HI3 := Lib.hid i3
    obtain ⟨X, hX⟩ : ∃ X, (mkL l L).2 = X := ⟨_, rfl⟩
    rw [hX] at hc0
    have HX := Lib.hid hX
    clear hK i1 i2 i3 hX
    gi_wp2
    gi_region
    gi_wp2
    refine ⟨by simp, .inl ⟨_, _, rfl, run_takeDeferred (by first | exact HK.out | exact HK.out), ?_⟩⟩
    have hne : w.heap.size + 1 ≠ D := by omega
    refine ⟨_, results_tmp2 rfl _ _ _, w.heap.size + 1, by rw [HX.out]; rfl, (World.putObj_heap_other hne).trans HI2.out, Nat.le_succ _, (HI3.out.drew).trans (belowK_b (w := w) (Nat.le_refl _) W.drew D _ _ (by omega) HK.out rfl rfl)⟩
  case stop =>
    rintro D c pre W _ _ h _
    exact h.elim

end Go.Proofs.Ytfhnhbkdhdocjaa
