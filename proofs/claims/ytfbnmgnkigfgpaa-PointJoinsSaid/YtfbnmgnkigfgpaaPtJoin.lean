/-
  point.singles, clone, equal and sets of classes return what they say (V2).
-/
import Derived.Test.YtfbnmgnkigfgpaaPtCls
import Derived.Test.YtfbnmgnkigfgpaaRepeat
import Derived.Test.YtfbnmgnkigfgpaaMBase
import Derived.Deep.RegionWith
import Derived.Laws.Rows
namespace Go.Proofs.Ytfbnmgnkigfgpaa
open Go.RowKit
set_option linter.unusedSimpArgs false
set_option linter.unusedVariables false
set_option maxRecDepth 100000

theorem row_own {w : World} {base n c g : Nat} {e : TypeId} {xs : List Value} (h : w.ownsRow base e 1 (.slice (some ⟨g, 0, none⟩) n c) n xs) (hn : 0 < n) : ∃ rest, Own w g e (xs ++ rest) := by
  rcases h.2 with ⟨hv, h0⟩ | ⟨g', cap, cur, hv, h1, h2, h3, h4, h5, h6⟩
  · omega
  · injection hv with hv
    injection hv with hv
    injection hv with hv
    subst hv
    refine ⟨cur.toList.drop (n * 1), ?_⟩
    unfold Own
    rw [h2, ← h6, List.take_append_drop]

theorem Cm.rdH {w : World} {g h n : Nat} {hd : List Nat} {tg : List Int} (c : Cm w g h n hd tg) : RdI w w.heap.size (some ⟨g, 0, none⟩) (ni hd) := fun _ =>
  ⟨⟨g, 0, none⟩, rfl, c.gl, fun j hj => by
    rw [pn_len, c.hl] at hj
    have ha : (⟨g, 0, none⟩ : Addr).add j = ⟨g, j, none⟩ := by unfold Addr.add; split <;> simp_all
    rw [ha, c.hc hj]
    unfold ic
    rw [List.getD_eq_getElem?_getD, ni_at (hq_at (by rw [c.hl]; exact hj))]
    rfl⟩

theorem Cm.rdT {w : World} {g h n : Nat} {hd : List Nat} {tg : List Int} (c : Cm w g h n hd tg) : RdI w w.heap.size (some ⟨h, 0, none⟩) tg := (OwnI.rd c.tb).more c.hlt

theorem RdI.wrote2 {w w' : World} {g h B b : Nat} {S : List Int} (hr : RdI w B (some ⟨b, 0, none⟩) S) (hw : Wrote2 g h w w') (h1 : b ≠ g) (h2 : b ≠ h) (hB : B ≤ w.heap.size) : RdI w' B (some ⟨b, 0, none⟩) S := fun hm => by
  obtain ⟨ad, e, hb, hc⟩ := hr hm
  injection e with e
  subst e
  exact ⟨_, rfl, hb, fun j hj => (World.cell?_of_block (w := w) (by rw [addr_add_block]; exact hw.block b (by simp only at hb; omega) h1 h2)).trans (hc j hj)⟩

theorem ni_inj : ∀ {a b : List Nat}, ni a = ni b → a = b
  | [], [], _ => rfl
  | [], _ :: _, h => by simp [ni] at h
  | _ :: _, [], h => by simp [ni] at h
  | x :: a, y :: b, h => by
    have h' : ((x : Nat) : Int) :: ni a = ((y : Nat) : Int) :: ni b := h
    injection h' with h1 h2
    rw [ni_inj h2, Int.ofNat.inj h1]

theorem size_setQ (w : World) (p : Addr) (u : Value) : (w.setCell p u).heap.size = w.heap.size := by simp [World.setCell]

set_option maxHeartbeats 8000000 in
theorem singles_any (n : Nat) (w : World) (h1 : 1 ≤ n) (h8 : n ≤ 8) :
    Calls Try.prog 26 #[.int .i64 n] w fun e w' => ∃ g h cg, e = .returned (.agg #[.slice (some ⟨g, 0, none⟩) n cg, .slice (some ⟨h, 0, none⟩) n n]) ∧ Cm w' g h n (List.range n) (List.replicate n (-1)) ∧ w.heap.size ≤ g ∧ w.heap.size ≤ h ∧ Below w.heap.size w w' := by
  have HREP := Lib.hid (repeat_any (-1) n h1 h8)
  go_enter Try.func26, Try.ntmps26
  go_wp2_with (go_at_call 34; (with_reducible refine (HREP.out _ _ _ (by simp) (by simp)).mono ?_); rintro e w2 ⟨rfl, hO, hb2⟩)
  rw [show ((w.alloc (.cells #[.slice none 0 0, .slice none 0 0] 52)).alloc (.cells #[.int .i64 (-1)] 3)).heap.size = w.heap.size + 1 + 1 from by simp] at hO hb2
  have hr0 : Own w2 w.heap.size 52 [.slice none 0 0, .slice none 0 0] := ((Own.new w 52 [.slice none 0 0, .slice none 0 0]).alloc _).below hb2 (by omega)
  have hbw : Below w.heap.size w w2 := (by go_grown : Below w.heap.size w ((w.alloc (.cells #[.slice none 0 0, .slice none 0 0] 52)).alloc (.cells #[.int .i64 (-1)] 3))).trans (hb2.mono (by omega))
  obtain ⟨h, hh⟩ : ∃ h, w.heap.size + 1 + 1 = h := ⟨_, rfl⟩
  have hhw : w.heap.size < h := by omega
  rw [hh] at hO ⊢
  clear hb2 hh HREP
  obtain ⟨b2, hb2⟩ : ∃ b, w.heap.size = b := ⟨_, rfl⟩
  have HB2 := Lib.hid hb2
  rw [hb2] at hr0 hhw ⊢
  clear hb2
  have hr1 := hr0.alloc (.cells #[.slice none 0 0, .slice (some ⟨h, 0, none⟩) n n] 52)
  have hO1 := hO.alloc (.cells #[.slice none 0 0, .slice (some ⟨h, 0, none⟩) n n] 52)
  have hN1 := Own.new w2 52 [.slice none 0 0, .slice (some ⟨h, 0, none⟩) n n]
  have hbo : Below w.heap.size w (w2.alloc (.cells #[.slice none 0 0, .slice (some ⟨h, 0, none⟩) n n] 52)) := hbw.alloc hbw.size _
  have hd1 : h < w2.heap.size := hO.lt
  have hd2 : b2 < w2.heap.size := hr0.lt
  obtain ⟨wo, hwo⟩ : ∃ x, x = w2.alloc (.cells #[.slice none 0 0, .slice (some ⟨h, 0, none⟩) n n] 52) := ⟨_, rfl⟩
  rw [← hwo] at hr1 hO1 hN1 hbo ⊢
  clear hwo hO hr0 hbw
  obtain ⟨b3, hb3⟩ : ∃ b, w2.heap.size = b := ⟨_, rfl⟩
  rw [hb3] at hN1 hd1 hd2 ⊢
  clear hb3
  have hg3 := hN1.lt
  have hso := hbo.size
  rw [HB2.out] at hso
  go_loopw [10] (fun i wr => ∃ (k : Nat) (A : Option Addr) (c : Nat), k ≤ n ∧ i = .int .i64 k ∧ Own wr b3 52 [.slice A k c, .slice (some ⟨h, 0, none⟩) n n] ∧ wr.ownsRow wo.heap.size 3 1 (.slice A k c) k (iv (ni (List.range k))) ∧
    Own wr h 3 (iv (List.replicate n (-1))) ∧ Own wr b2 52 [.slice none 0 0, .slice none 0 0] ∧ Below b2 w wr ∧ wo.heap.size ≤ wr.heap.size) (fun i _ => n - (intOf i).toNat)
  case atStart => exact ⟨0, none, 0, Nat.zero_le _, rfl, hN1, World.ownsRow_nil _ _ _ _, hO1, hr1, by rw [← HB2.out]; exact hbo, Nat.le_refl _⟩
  case round =>
    obtain ⟨k, A, c, hk, rfl, hB, hR, hT, hZ, hb, hsz⟩ := hrel
    have k0 := hB.cell (j := 0) rfl
    have k1 := hB.cell (j := 1) rfl
    have hbl := hB.lt
    by_cases hlt : k < n
    · have h63 : k + 1 ≤ maxLen := by unfold maxLen; omega
      have hbig : (k + 1) * 8 ≤ 140737488355328 := by omega
      have HR := Lib.hid hR
      have HB := Lib.hid hB
      have HT := Lib.hid hT
      have HZ := Lib.hid hZ
      clear hR hB hT hZ
      go_wp2_with (at_builtin; refine wpList_app rfl (.tmp 14) (.tmp 16) 31 rfl wo.heap.size 3 1 8 int_app _ rfl (own_below HR.out ((Below.refl _ _).alloc (Nat.le_refl _) _)) [.int .i64 (k : Int)] rfl rfl (fun h => by cases h) (cells_at rfl _ _) (one_cell _) h63 hbig (by simp; omega) ?_; intro A7 c7 w7 hown7 hg7 hb7; have hbA : Below wo.heap.size wr w7 := ((Below.refl _ _).alloc hsz _).trans hb7; have hB7 := HB.out.below hbA hg3; have q0 := hB7.cell (j := 0) rfl; have q1 := hB7.cell (j := 1) rfl; have q2 := hB7.frozen 0)
      have hlast : iv (ni (List.range k)) ++ [.int .i64 (k : Int)] = iv (ni (List.range (k + 1))) := by
        rw [List.range_succ, ni_append, iv_append]
        rfl
      rw [hlast] at hown7
      go_round
      case rel => exact ⟨k + 1, A7, c7, by omega, by go_num, Own.set hB7 0 _, own_farW hown7 (by show b3 < _; omega) _, ((HT.out.below hbA (by omega)).far (by show h ≠ b3; omega) _), ((HZ.out.below hbA (by omega)).far (by show b2 ≠ b3; omega) _), (hb.trans (hbA.mono (by omega))).setCell (p := ⟨b3, 0, none⟩) (by show b2 ≤ b3; omega) _, Nat.le_trans hsz (by rw [size_setQ]; exact hbA.size)⟩
      case measure => (simp [intOf]; omega)
    · have hkn : k = n := by omega
      rw [hkn] at k0 hR hB ⊢
      obtain ⟨g, rfl, hg1, hg2⟩ := own_formQ hR (by omega)
      obtain ⟨rest, hrest⟩ := row_own hR (by omega)
      have r0 := hZ.cell (j := 0) rfl
      have r1 := hZ.cell (j := 1) rfl
      have r2 := hZ.frozen 0
      have r3 := hZ.frozen 1
      have HFIN := Lib.hid (Own.set (Own.set hZ 0 (.slice (some ⟨g, 0, none⟩) n c)) 1 (.slice (some ⟨h, 0, none⟩) n n))
      have HCM : Hid (Cm ((wr.setCell ⟨b2, 0, none⟩ (.slice (some ⟨g, 0, none⟩) n c)).setCell ⟨b2, 1, none⟩ (.slice (some ⟨h, 0, none⟩) n n)) g h n (List.range n) (List.replicate n (-1))) := Lib.hid ⟨⟨rest, (hrest.far (by show g ≠ b2; omega) _).far (by show g ≠ b2; omega) _⟩, (hT.far (by show h ≠ b2; omega) _).far (by show h ≠ b2; omega) _, by omega, by simp, by simp⟩
      have hbf : Below b2 w ((wr.setCell ⟨b2, 0, none⟩ (.slice (some ⟨g, 0, none⟩) n c)).setCell ⟨b2, 1, none⟩ (.slice (some ⟨h, 0, none⟩) n n)) := (hb.setCell (p := ⟨b2, 0, none⟩) (Nat.le_refl _) _).setCell (p := ⟨b2, 1, none⟩) (Nat.le_refl _) _
      clear hR hB hT hZ hrest
      go_wp2
      exact bodyPost_ret (v := .agg #[.slice (some ⟨g, 0, none⟩) n c, .slice (some ⟨h, 0, none⟩) n n]) (results_cell_row rfl _ _ b2 52 _ _ _ rfl HFIN.out Try.underlying52 rfl (by kernel_rfl)) rfl ⟨g, h, c, rfl, HCM.out, by rw [HB2.out]; omega, by rw [HB2.out]; omega, by rw [HB2.out]; exact hbf⟩

/-- a copy made -/
structure ClnC (X Z w' : World) (g : Nat) (xs : List Int) : Prop where
  rd : RdI w' w'.heap.size (some ⟨g, 0, none⟩) xs
  be : Below X.heap.size X w'
  on : Below Z.heap.size Z w'
  lo : X.heap.size ≤ g
  hi : g < w'.heap.size

theorem ClnC.of {X Z w' : World} {g n c : Nat} {xs : List Int} (hZ : Below X.heap.size X Z) (hr : w'.ownsRow Z.heap.size 3 1 (.slice (some ⟨g, 0, none⟩) n c) n (iv xs)) (hb : Below Z.heap.size Z w') (hl : xs.length = n) (h1 : 1 ≤ n) : ClnC X Z w' g xs := by
  obtain ⟨g', e, h2, h3⟩ := own_formQ hr (by omega)
  injection e with e
  injection e with e
  subst e
  exact ⟨own_rdI hr hl, below_via2 hZ hb, hb, Nat.le_trans hZ.size h2, h3⟩

theorem cln_post {w X W : World} {b2 g3 g4 : Nat} {a b : List Int} (h3 : RdI W W.heap.size (some ⟨g3, 0, none⟩) a) (h4 : RdI W W.heap.size (some ⟨g4, 0, none⟩) b) (hb : Below X.heap.size X W) (l3 : X.heap.size ≤ g3) (l4 : X.heap.size ≤ g4) (hb2 : b2 < X.heap.size) (hw : Below w.heap.size w X) (hwb : w.heap.size ≤ b2) (u v : Value) :
    RdI ((W.setCell ⟨b2, 0, none⟩ u).setCell ⟨b2, 1, none⟩ v) ((W.setCell ⟨b2, 0, none⟩ u).setCell ⟨b2, 1, none⟩ v).heap.size (some ⟨g3, 0, none⟩) a ∧ RdI ((W.setCell ⟨b2, 0, none⟩ u).setCell ⟨b2, 1, none⟩ v) ((W.setCell ⟨b2, 0, none⟩ u).setCell ⟨b2, 1, none⟩ v).heap.size (some ⟨g4, 0, none⟩) b ∧ w.heap.size ≤ g3 ∧ w.heap.size ≤ g4 ∧ Below w.heap.size w ((W.setCell ⟨b2, 0, none⟩ u).setCell ⟨b2, 1, none⟩ v) := by
  have hW : Wrote2 b2 b2 W ((W.setCell ⟨b2, 0, none⟩ u).setCell ⟨b2, 1, none⟩ v) := ((Wrote2.refl W).set (p := ⟨b2, 0, none⟩) (.inl rfl) u).set (p := ⟨b2, 1, none⟩) (.inl rfl) v
  have hs := hw.size
  exact ⟨(h3.wrote2 hW (by omega) (by omega) (Nat.le_refl _)).more hW.size, (h4.wrote2 hW (by omega) (by omega) (Nat.le_refl _)).more hW.size, by omega, by omega, (hw.trans (hb.mono hs)).trans (hW.below hwb hwb (by have := hb.size; omega))⟩

set_option maxHeartbeats 8000000 in
theorem clone_anyC (g h n cg : Nat) (hd : List Nat) (tg : List Int) (w : World) (c : Cm w g h n hd tg) (h1 : 1 ≤ n) (h8 : n ≤ 8) :
    Calls Try.prog 27 #[.agg #[.slice (some ⟨g, 0, none⟩) n cg, .slice (some ⟨h, 0, none⟩) n n]] w fun e w' => ∃ g' h' c1 c2, e = .returned (.agg #[.slice (some ⟨g', 0, none⟩) n c1, .slice (some ⟨h', 0, none⟩) n c2]) ∧ RdI w' w'.heap.size (some ⟨g', 0, none⟩) (ni hd) ∧ RdI w' w'.heap.size (some ⟨h', 0, none⟩) tg ∧ w.heap.size ≤ g' ∧ w.heap.size ≤ h' ∧ Below w.heap.size w w' := by
  have hwb : Below w.heap.size w ((w.alloc (.cells #[.slice (some ⟨g, 0, none⟩) n cg, .slice (some ⟨h, 0, none⟩) n n] 52)).alloc (.cells #[.slice none 0 0, .slice none 0 0] 52)) := by go_grown
  have hq0 : Own ((w.alloc (.cells #[.slice (some ⟨g, 0, none⟩) n cg, .slice (some ⟨h, 0, none⟩) n n] 52)).alloc (.cells #[.slice none 0 0, .slice none 0 0] 52)) w.heap.size 52 [.slice (some ⟨g, 0, none⟩) n cg, .slice (some ⟨h, 0, none⟩) n n] := (Own.new w _ _).alloc _
  have hz0 : Own ((w.alloc (.cells #[.slice (some ⟨g, 0, none⟩) n cg, .slice (some ⟨h, 0, none⟩) n n] 52)).alloc (.cells #[.slice none 0 0, .slice none 0 0] 52)) (w.heap.size + 1) 52 [.slice none 0 0, .slice none 0 0] := by
    have hN := Own.new (w.alloc (.cells #[.slice (some ⟨g, 0, none⟩) n cg, .slice (some ⟨h, 0, none⟩) n n] 52)) 52 [.slice none 0 0, .slice none 0 0]
    rw [show (w.alloc (.cells #[.slice (some ⟨g, 0, none⟩) n cg, .slice (some ⟨h, 0, none⟩) n n] 52)).heap.size = w.heap.size + 1 from by simp] at hN
    exact hN
  have hcx := c.quiet hwb
  have HL1 : Hid ((ni hd).length = n) := Lib.hid (by rw [pn_len]; exact c.hl)
  have HL2 : Hid (tg.length = n) := Lib.hid c.tl
  clear c
  go_enter Try.func27, Try.ntmps27
  go_upto_region 1 with fail
  obtain ⟨X, hX⟩ : ∃ X, X = (w.alloc (.cells #[.slice (some ⟨g, 0, none⟩) n cg, .slice (some ⟨h, 0, none⟩) n n] 52)).alloc (.cells #[.slice none 0 0, .slice none 0 0] 52) := ⟨_, rfl⟩
  rw [← hX] at hwb hq0 hz0 hcx ⊢
  clear hX
  obtain ⟨b2, hb2⟩ : ∃ b, w.heap.size + 1 = b := ⟨_, rfl⟩
  have hwb2 : w.heap.size < b2 := by omega
  rw [hb2] at hz0 ⊢
  clear hb2
  obtain ⟨b1, hb1⟩ : ∃ b, w.heap.size = b := ⟨_, rfl⟩
  have HB1 := Lib.hid hb1
  have HWB := Lib.hid hwb
  rw [hb1] at hq0 hwb2 ⊢
  clear hb1 hwb
  have e0 := hq0.cell (j := 0) rfl
  have e1 := hq0.cell (j := 1) rfl
  have hl1 := hq0.lt
  have hl2 := hz0.lt
  have HZ0 := Lib.hid hz0
  have HC1 : Hid (∀ Z : World, Below X.heap.size X Z → Calls Try.prog 38 #[.slice (some ⟨g, 0, none⟩) n cg] Z fun e w' => ∃ g3 c3, e = .returned (.slice (some ⟨g3, 0, none⟩) n c3) ∧ ClnC X Z w' g3 (ni hd)) := Lib.hid fun Z hZ => (cloneIQ_any (some ⟨g, 0, none⟩) n cg (ni hd) Z (hcx.quiet hZ).rdH HL1.out h1 (by omega)).mono fun e w' ⟨g3, c3, he, hr, hb⟩ => ⟨g3, c3, he, ClnC.of hZ hr hb HL1.out h1⟩
  have HC2 : Hid (∀ Z : World, Below X.heap.size X Z → Calls Try.prog 38 #[.slice (some ⟨h, 0, none⟩) n n] Z fun e w' => ∃ g3 c3, e = .returned (.slice (some ⟨g3, 0, none⟩) n c3) ∧ ClnC X Z w' g3 tg) := Lib.hid fun Z hZ => (cloneIQ_any (some ⟨h, 0, none⟩) n n tg Z (hcx.quiet hZ).rdT HL2.out h1 (by omega)).mono fun e w' ⟨g3, c3, he, hr, hb⟩ => ⟨g3, c3, he, ClnC.of hZ hr hb HL2.out h1⟩
  clear hcx hz0 hq0
  go_region_with (first
    | (go_at_call 38; (with_reducible refine (HC1.out _ (by first | exact Below.drew (Below.refl _ _) | exact hq4.be | exact Below.drew hq4.be)).mono ?_); rintro e w3 ⟨g3, c3, rfl, hq3⟩; have a30 := (hq3.be.cell (p := ⟨b1, 0, none⟩) hl1).trans e0; have a31 := (hq3.be.cell (p := ⟨b1, 1, none⟩) hl1).trans e1; have z3 := HZ0.out.below hq3.be hl2; have z30 := z3.cell (j := 0) rfl; have z31 := z3.cell (j := 1) rfl; have z32 := z3.frozen 0; have z33 := z3.frozen 1)
    | (go_at_call 38; (with_reducible refine (HC2.out _ (by first | exact Below.drew (Below.refl _ _) | exact hq3.be | exact Below.drew hq3.be)).mono ?_); rintro e w4 ⟨g4, c4, rfl, hq4⟩; have a40 := (hq4.be.cell (p := ⟨b1, 0, none⟩) hl1).trans e0; have a41 := (hq4.be.cell (p := ⟨b1, 1, none⟩) hl1).trans e1; have z4 := HZ0.out.below hq4.be hl2; have z40 := z4.cell (j := 0) rfl; have z41 := z4.cell (j := 1) rfl; have z42 := z4.frozen 0; have z43 := z4.frozen 1))
  all_goals (
    go_wp2
    first
    | exact bodyPost_ret (v := .agg #[.slice (some ⟨g3, 0, none⟩) n c3, .slice (some ⟨g4, 0, none⟩) n c4]) (results_cell_row rfl _ _ b2 52 _ _ _ rfl (Own.set (Own.set z4 0 _) 1 _) Try.underlying52 rfl (by kernel_rfl)) rfl ⟨g3, g4, c3, c4, rfl, cln_post ((hq3.rd.below hq4.on (Nat.le_refl _)).more hq4.on.size) hq4.rd hq4.be hq3.lo hq4.lo hl2 HWB.out (by rw [HB1.out]; omega) _ _⟩
    | exact bodyPost_ret (v := .agg #[.slice (some ⟨g3, 0, none⟩) n c3, .slice (some ⟨g4, 0, none⟩) n c4]) (results_cell_row rfl _ _ b2 52 _ _ _ rfl (Own.set (Own.set z3 0 _) 1 _) Try.underlying52 rfl (by kernel_rfl)) rfl ⟨g3, g4, c3, c4, rfl, cln_post hq3.rd ((hq4.rd.below hq3.on (Nat.le_refl _)).more hq3.on.size) hq3.be hq3.lo hq4.lo hl2 HWB.out (by rw [HB1.out]; omega) _ _⟩)

end Go.Proofs.Ytfbnmgnkigfgpaa
