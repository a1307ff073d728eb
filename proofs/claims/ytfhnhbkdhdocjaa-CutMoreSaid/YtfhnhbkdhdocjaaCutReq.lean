/-
  cut.requiredSteps (T1): the steps that are required, with the tests as they are: sets of what is needed ahead of each block, until nothing changes.
-/
import Derived.Test.YtfhnhbkdhdocjaaCutRows
namespace Go.Proofs.Ytfhnhbkdhdocjaa
open Go.RowKit Go.Shelf
set_option linter.unusedSimpArgs false
set_option linter.unusedVariables false
set_option maxRecDepth 100000
attribute [local go_sem] Oper.semAt_some

/-- how much may still come: nothing where the flag is down -/
def qMu (g : Nat) (a : Act) (W : World) : Nat := match a.tmps.getD 11 undef with
  | .pointer (some ad) => (match W.cell? ad with
    | some (.bool true) => 514 - cellSum W g
    | _ => 0)
  | _ => 0

/-- what the outer loop holds -/
def QL (n want T : Nat) (p : List Bk) (A AN : Option Addr) (len cap capN : Nat) (w : World) (a : Act) (W : World) : Prop :=
  ∃ (Bc : Nat) (F : List Nat) (qs : List (List Bool × Option Addr × Nat)) (ch : Bool) (Dl : List Nat) (u21 u22 u23 u64 : Value), a = { tmps := #[.slice A len cap, .slice AN len capN, .int .u32 (want : Nat), .int .u32 (T : Nat), undef, .pointer (some ⟨w.heap.size, 0, none⟩), .pointer (some ⟨w.heap.size + 1, 0, none⟩), .pointer (some ⟨w.heap.size + 1 + 1, 0, none⟩), .slice none 0 0, .pointer (some ⟨w.heap.size + 1 + 1 + 1 + 1, 0, none⟩), .pointer (some ⟨w.heap.size + 1 + 1 + 1 + 1 + 1 + 1, 0, none⟩), .pointer (some ⟨Bc, 0, none⟩), undef, undef, undef, .slice A len cap, .int .i64 len, .slice (some ⟨w.heap.size + 1 + 1 + 1, 0, none⟩) len len, .slice A len cap, .int .i64 len, .slice (some ⟨w.heap.size + 1 + 1 + 1 + 1 + 1, 0, none⟩) len len, u21, u22, u23, undef, undef, undef, undef, undef, undef, undef, undef, undef, undef, undef, undef, undef, undef, undef, undef, undef, undef, undef, undef, undef, undef, undef, undef, undef, undef, undef, undef, undef, undef, undef, undef, undef, undef, undef, undef, undef, undef, undef, undef, u64, undef], defers := mksD Dl } ∧
    RqW want T w.heap.size len capN AN Bc F qs ch W ∧ Hid (RqI n p want T F (qs.map (·.1))) ∧ Hid (ch = false → RqS p want T (qs.map (·.1))) ∧ Hid (MksOk Dl W) ∧ Hid (Dl.Nodup ∧ ∀ D ∈ Dl, w.heap.size ≤ D ∧ D < W.heap.size) ∧ Below w.heap.size w W

/-- what it holds within a pass -/
def QP (n want T s0 : Nat) (p : List Bk) (AN : Option Addr) (len capN h Bc : Nat) {m : Nat} (pre : List (Fin m)) (W : World) : Prop :=
  ∃ (F : List Nat) (qs : List (List Bool × Option Addr × Nat)) (ch : Bool), RqW want T h len capN AN Bc F qs ch W ∧ RqP n p want T s0 F (qs.map (·.1)) ch (InF pre)

theorem QP.kept {n want T s0 : Nat} {p : List Bk} {AN : Option Addr} {len capN h Bc m : Nat} {pre : List (Fin m)} {W W' : World} {row : Option Nat} (hi : QP n want T s0 p AN len capN h Bc pre W) (hg : W.grownBy W' row) (hr : ∀ r, row = some r → ∃ o : Obj, W.heap[r]? = some o ∧ o.isCells = false) : QP n want T s0 p AN len capN h Bc pre W' := by
  obtain ⟨F, qs, ch, h1, h2⟩ := hi
  exact ⟨F, qs, ch, h1.kept hg hr, h2⟩

theorem QP.below {n want T s0 : Nat} {p : List Bk} {AN : Option Addr} {len capN h Bc m : Nat} {pre : List (Fin m)} {W W' : World} (hi : QP n want T s0 p AN len capN h Bc pre W) (hb : Below W.heap.size W W') : QP n want T s0 p AN len capN h Bc pre W' := by
  obtain ⟨F, qs, ch, h1, h2⟩ := hi
  exact ⟨F, qs, ch, h1.below hb, h2⟩

theorem rvM_nils (n : Nat) : rvM (List.replicate n (([] : List Bool), (none : Option Addr), 0)) = nils n := by
  unfold rvM nils
  rw [List.map_replicate]
  rfl

set_option maxHeartbeats 32000000 in
theorem requiredSteps_any (n want T : Nat) (A AN : Option Addr) (len cap capN : Nat) (p : List Bk) (w : World) (hx : RdP w w.heap.size A p) (hN : RdG w w.heap.size AN (nxP p)) (hl : p.length = len) (hc : ckProg n p = 0) (hw : want < 2 ^ n) (hT : TsOk p T) (hT8 : T < 256) :
    Calls Try.prog 96 #[.slice A len cap, .slice AN len capN, .int .u32 (want : Nat), .int .u32 (T : Nat)] w fun e w' => ∃ (A' : Option Addr) (ms : List (List Bool)), e = .returned (.slice A' len len) ∧ RqS p want T ms ∧ RdM2 w' w'.heap.size A' ms ∧ Below w.heap.size w w' := by
  obtain ⟨b1, b2, b3, b4, b5, b6⟩ := ckProg_bd hc
  clear b6
  obtain ⟨qb, hq, hxr, hr⟩ := rdP_raw hx
  have HL := Lib.hid hl
  have HC := Lib.hid hc
  have HQ := Lib.hid hq
  have HR := Lib.hid hr
  have HT := Lib.hid hT
  have hql : qb.length = len := by rw [← hl, ← hq, List.length_map]
  have HQL := Lib.hid hql
  have h6 : 2 ^ n ≤ 2 ^ 6 := Nat.pow_le_pow_right (by omega) (by omega)
  have hw32 : want < 4294967296 := by omega
  rw [hl] at b3 b4
  have hn6 : n ≤ 6 := by omega
  have HI0 : Hid (RqI n p want T (List.replicate len 0) ((List.replicate len (([] : List Bool), (none : Option Addr), 0)).map (·.1))) := Lib.hid (by rw [List.map_replicate, ← hl]; exact RqI.start n p want T)
  have hmk1 := make_nils (P := Try.prog) 71 76 Try.underlying71 (by kernel_rfl) len (by omega)
  have hmk2 := make_words (P := Try.prog) 24 23 Try.underlying24 (by kernel_rfl) len (by omega)
  clear hl hc hq hr hql hx hT
  have hro : Fence.wide.round = none := rfl
  have h1 : 1 ≤ 7 := by omega
  refine (callsIn_wide (n := 7)).1 ?_
  refine callsIn_of_wp_marks Try.func96 rfl trivial ?_ hro
  simp only [Try.ntmps96, List.size_toArray, List.length_cons, List.length_nil, Nat.reduceAdd, Nat.reduceSub, Array.replicate_succ, Array.replicate_zero, List.push_toArray, List.append_toArray, List.nil_append, List.cons_append]
  gi_wp2
  obtain ⟨Y0, hY0⟩ : ∃ Y0 : World, Y0 = w.alloc (Obj.cells #[Value.slice AN len capN] 80) := ⟨_, rfl⟩
  obtain ⟨Y1, hY1⟩ : ∃ Y1 : World, Y1 = Y0.alloc (Obj.cells #[Value.int IntKind.u32 ↑want] 23) := ⟨_, rfl⟩
  obtain ⟨Y2, hY2⟩ : ∃ Y2 : World, Y2 = Y1.alloc (Obj.cells #[Value.int IntKind.u32 ↑T] 23) := ⟨_, rfl⟩
  obtain ⟨Y3, hY3⟩ : ∃ Y3 : World, Y3 = Y2.alloc (Obj.cells (nils len).toArray 76) := ⟨_, rfl⟩
  obtain ⟨Y4, hY4⟩ : ∃ Y4 : World, Y4 = Y3.alloc (Obj.cells #[Value.slice (some { block := w.heap.size + 1 + 1 + 1, off := 0 }) len len] 71) := ⟨_, rfl⟩
  obtain ⟨Y5, hY5⟩ : ∃ Y5 : World, Y5 = Y4.alloc (Obj.cells (uv (List.replicate len 0)).toArray 23) := ⟨_, rfl⟩
  obtain ⟨Y6, hY6⟩ : ∃ Y6 : World, Y6 = Y5.alloc (Obj.cells #[Value.slice (some { block := w.heap.size + 1 + 1 + 1 + 1 + 1, off := 0 }) len len] 24) := ⟨_, rfl⟩
  obtain ⟨W0, hW0⟩ : ∃ W0 : World, W0 = Y6.alloc (Obj.cells #[Value.bool true] 4) := ⟨_, rfl⟩
  rw [← hY0, ← hY1, ← hY2, ← hY3, ← hY4, ← hY5, ← hY6, ← hW0]
  have z0 : Y0.heap.size = w.heap.size + 1 := by rw [hY0]; simp
  have z1 : Y1.heap.size = w.heap.size + 1 + 1 := by rw [hY1]; simp [z0]
  have z2 : Y2.heap.size = w.heap.size + 1 + 1 + 1 := by rw [hY2]; simp [z1]
  have z3 : Y3.heap.size = w.heap.size + 1 + 1 + 1 + 1 := by rw [hY3]; simp [z2]
  have z4 : Y4.heap.size = w.heap.size + 1 + 1 + 1 + 1 + 1 := by rw [hY4]; simp [z3]
  have z5 : Y5.heap.size = w.heap.size + 1 + 1 + 1 + 1 + 1 + 1 := by rw [hY5]; simp [z4]
  have z6 : Y6.heap.size = w.heap.size + 1 + 1 + 1 + 1 + 1 + 1 + 1 := by rw [hY6]; simp [z5]
  have z7 : W0.heap.size = w.heap.size + 1 + 1 + 1 + 1 + 1 + 1 + 1 + 1 := by rw [hW0]; simp [z6]
  have k0 : Own W0 w.heap.size 80 [.slice AN len capN] := by
    rw [hW0, hY6, hY5, hY4, hY3, hY2, hY1, hY0]
    exact (((((((Own.new w 80 [.slice AN len capN]).alloc _).alloc _).alloc _).alloc _).alloc _).alloc _).alloc _
  have k1 : Own W0 (w.heap.size + 1) 23 [.int .u32 (want : Nat)] := by
    have h := Own.new Y0 23 [.int .u32 (want : Nat)]
    rw [z0] at h
    rw [hW0, hY6, hY5, hY4, hY3, hY2, hY1]
    exact ((((((h.alloc _).alloc _).alloc _).alloc _).alloc _).alloc _)
  have k2 : Own W0 (w.heap.size + 1 + 1) 23 [.int .u32 (T : Nat)] := by
    have h := Own.new Y1 23 [.int .u32 (T : Nat)]
    rw [z1] at h
    rw [hW0, hY6, hY5, hY4, hY3, hY2]
    exact (((((h.alloc _).alloc _).alloc _).alloc _).alloc _)
  have k3 : Own W0 (w.heap.size + 1 + 1 + 1) 76 (nils len) := by
    have h := Own.new Y2 76 (nils len)
    rw [z2] at h
    rw [hW0, hY6, hY5, hY4, hY3]
    exact ((((h.alloc _).alloc _).alloc _).alloc _)
  have k4 : Own W0 (w.heap.size + 1 + 1 + 1 + 1) 71 [.slice (some ⟨w.heap.size + 1 + 1 + 1, 0, none⟩) len len] := by
    have h := Own.new Y3 71 [.slice (some ⟨w.heap.size + 1 + 1 + 1, 0, none⟩) len len]
    rw [z3] at h
    rw [hW0, hY6, hY5, hY4]
    exact (((h.alloc _).alloc _).alloc _)
  have k5 : Own W0 (w.heap.size + 1 + 1 + 1 + 1 + 1) 23 (uv (List.replicate len 0)) := by
    have h := Own.new Y4 23 (uv (List.replicate len 0))
    rw [z4] at h
    rw [hW0, hY6, hY5]
    exact ((h.alloc _).alloc _)
  have k6 : Own W0 (w.heap.size + 1 + 1 + 1 + 1 + 1 + 1) 24 [.slice (some ⟨w.heap.size + 1 + 1 + 1 + 1 + 1, 0, none⟩) len len] := by
    have h := Own.new Y5 24 [.slice (some ⟨w.heap.size + 1 + 1 + 1 + 1 + 1, 0, none⟩) len len]
    rw [z5] at h
    rw [hW0, hY6]
    exact h.alloc _
  have k7 : Own W0 (w.heap.size + 1 + 1 + 1 + 1 + 1 + 1 + 1) 4 [.bool true] := by
    have h := Own.new Y6 4 [.bool true]
    rw [z6] at h
    rw [hW0]
    exact h
  have hB0 : Below w.heap.size w W0 := by
    rw [hW0, hY6, hY5, hY4, hY3, hY2, hY1, hY0]
    go_grown
  have HW0 : Hid (RqW want T w.heap.size len capN AN (w.heap.size + 1 + 1 + 1 + 1 + 1 + 1 + 1) (List.replicate len 0) (List.replicate len (([] : List Bool), (none : Option Addr), 0)) true W0) := Lib.hid
    ⟨k0, k1, k2, k4, k6, k5, k7, ⟨by rw [rvM_nils]; exact k3, fun i q hq => by
      have hm := List.mem_of_getElem? hq
      rw [(List.mem_replicate.1 hm).2]
      exact .inl ⟨rfl, rfl⟩⟩, by omega⟩
  have HN := Lib.hid hN
  clear hW0 hY6 hY5 hY4 hY3 hY2 hY1 hY0 z0 z1 z2 z3 z4 z5 z6 k0 k1 k2 k3 k4 k5 k6 k7 hmk1 hmk2 hN
  refine wpIn_loop (QL n want T p A AN len cap capN w) (qMu (w.heap.size + 1 + 1 + 1 + 1 + 1)) ?start ?round
  case start => exact ⟨_, _, _, true, [], undef, undef, undef, undef, rfl, HW0.out, HI0, Lib.hid (fun h => by cases h), Lib.hid (fun D hD => by cases hD), Lib.hid ⟨List.nodup_nil, fun D hD => by cases hD⟩, hB0⟩
  case round =>
    rintro a wr ⟨Bc, F0, qs0, ch, Dl, u21, u22, u23, u64, rfl, hW, HI, HS, HM, HD, hB⟩
    clear HW0 HI0 hB0
    cases ch with
    | false =>
      have c0 := hW.bc.cell (j := 0) rfl
      have c1 := hW.bs.cell (j := 0) rfl
      have HWH := Lib.hid hW
      clear hW
      gi_wp2
      refine leaves_mks Dl wr HM.out HD.out.1 ?_
      refine ⟨_, results_tmp rfl _ _ _, some ⟨w.heap.size + 1 + 1 + 1, 0, none⟩, rfl, qs0.map (·.1), HS.out (by simp), ?_, hB.trans (shut_below HM.out HD.out.1 fun D hD => (HD.out.2 D hD).1)⟩
      have hkeep : ∀ {b : Nat} {t : TypeId} {cs : List Value}, Own wr b t cs → Own (shutD Dl wr) b t cs := fun ho => (shut_block (mks_no HM.out ho)).trans ho
      exact RqM.rd (g := w.heap.size + 1 + 1 + 1) (lo := w.heap.size + 7) (Bc := Bc) ⟨hkeep HWH.out.rows.own, fun i q hq => (HWH.out.rows.row i q hq).imp id fun ⟨b, k1, k2, k3, k4⟩ => ⟨b, k1, k2, k3, hkeep k4⟩⟩
    | true =>
      have HMU : Hid (qMu (w.heap.size + 1 + 1 + 1 + 1 + 1) { tmps := #[.slice A len cap, .slice AN len capN, .int .u32 (want : Nat), .int .u32 (T : Nat), undef, .pointer (some ⟨w.heap.size, 0, none⟩), .pointer (some ⟨w.heap.size + 1, 0, none⟩), .pointer (some ⟨w.heap.size + 1 + 1, 0, none⟩), .slice none 0 0, .pointer (some ⟨w.heap.size + 1 + 1 + 1 + 1, 0, none⟩), .pointer (some ⟨w.heap.size + 1 + 1 + 1 + 1 + 1 + 1, 0, none⟩), .pointer (some ⟨Bc, 0, none⟩), undef, undef, undef, .slice A len cap, .int .i64 len, .slice (some ⟨w.heap.size + 1 + 1 + 1, 0, none⟩) len len, .slice A len cap, .int .i64 len, .slice (some ⟨w.heap.size + 1 + 1 + 1 + 1 + 1, 0, none⟩) len len, u21, u22, u23, undef, undef, undef, undef, undef, undef, undef, undef, undef, undef, undef, undef, undef, undef, undef, undef, undef, undef, undef, undef, undef, undef, undef, undef, undef, undef, undef, undef, undef, undef, undef, undef, undef, undef, undef, undef, undef, undef, undef, undef, u64, undef], defers := mksD Dl } wr = 514 - F0.sum) := Lib.hid (by
        have e : qMu (w.heap.size + 1 + 1 + 1 + 1 + 1) { tmps := #[.slice A len cap, .slice AN len capN, .int .u32 (want : Nat), .int .u32 (T : Nat), undef, .pointer (some ⟨w.heap.size, 0, none⟩), .pointer (some ⟨w.heap.size + 1, 0, none⟩), .pointer (some ⟨w.heap.size + 1 + 1, 0, none⟩), .slice none 0 0, .pointer (some ⟨w.heap.size + 1 + 1 + 1 + 1, 0, none⟩), .pointer (some ⟨w.heap.size + 1 + 1 + 1 + 1 + 1 + 1, 0, none⟩), .pointer (some ⟨Bc, 0, none⟩), undef, undef, undef, .slice A len cap, .int .i64 len, .slice (some ⟨w.heap.size + 1 + 1 + 1, 0, none⟩) len len, .slice A len cap, .int .i64 len, .slice (some ⟨w.heap.size + 1 + 1 + 1 + 1 + 1, 0, none⟩) len len, u21, u22, u23, undef, undef, undef, undef, undef, undef, undef, undef, undef, undef, undef, undef, undef, undef, undef, undef, undef, undef, undef, undef, undef, undef, undef, undef, undef, undef, undef, undef, undef, undef, undef, undef, undef, undef, undef, undef, undef, undef, undef, undef, u64, undef], defers := mksD Dl } wr = 514 - cellSum wr (w.heap.size + 1 + 1 + 1 + 1 + 1) := by
          unfold qMu
          show (match wr.cell? ⟨Bc, 0, none⟩ with | some (.bool true) => 514 - cellSum wr (w.heap.size + 1 + 1 + 1 + 1 + 1) | _ => 0) = _
          rw [hW.bc.cell (j := 0) rfl]
        rw [e, cellSum_own hW.fs])
      rw [HMU.out]
      clear HS
      have c0 := hW.bc.cell (j := 0) rfl
      have c1 := hW.bc.frozen 0
      have hW1 := hW.flag false
      have hlo := hW.lo
      have hBclt := hW.bc.lt
      have HP0 := Lib.hid (RqP.start (D := InF ([] : List (Fin qb.length))) HI.out fun i ⟨x, hx, _⟩ => by cases hx)
      have HB := Lib.hid hB
      have hK1 : KeepsOthers wr (wr.setCell ⟨Bc, 0, none⟩ (.bool false)) := KeepsOthers.setCell _ _ _
      have hM1 := HM.out.keeps hK1
      have hB1 := hB.setCell (p := ⟨Bc, 0, none⟩) (by show w.heap.size ≤ Bc; omega) (.bool false)
      have hsz1 : (wr.setCell ⟨Bc, 0, none⟩ (.bool false)).heap.size = wr.heap.size := by simp
      have HK1 := Lib.hid hK1
      have HSZ1 := Lib.hid hsz1
      have HSUM0 : Hid (F0.sum ≤ 512) := Lib.hid (HI.out.sum_le HC.out)
      clear hW hB HI HM hK1 hsz1
      gi_wp2_with (refine ⟨trivial, ?_⟩; gi_at_call 101; refine (backB_in Fence.wide _ trivial hro _ _ _ _).mono ?_; rintro e w' ⟨rfl, rfl⟩)
      obtain ⟨W1, hW1e⟩ : ∃ W1 : World, W1 = (wr.setCell { block := Bc, off := 0 } (Value.bool false)).alloc (Obj.cells #[Value.slice A len cap] 22) := ⟨_, rfl⟩
      rw [← hW1e]
      have hs1 : wr.heap.size + 1 ≤ W1.heap.size := by rw [hW1e]; simp
      have hcap1 : W1.cell? ⟨wr.heap.size, 0, none⟩ = some (.slice A len cap) := by
        rw [hW1e]
        have h := (Own.new (wr.setCell ⟨Bc, 0, none⟩ (.bool false)) 22 [.slice A len cap]).cell (j := 0) rfl
        rwa [HSZ1.out] at h
      have hW2 : RqW want T w.heap.size len capN AN Bc F0 qs0 false W1 := by rw [hW1e]; exact hW1.below (by go_grown)
      have hM2 : MksOk Dl W1 := by rw [hW1e]; exact hM1.keeps (KeepsOthers.alloc _ _)
      have hB2 : Below w.heap.size w W1 := by rw [hW1e]; exact hB1.alloc hB1.size _
      have hwr : w.heap.size ≤ wr.heap.size := HB.out.size
      clear hW1e hW1 hM1 hB1 c0 c1
      refine wpIn_rangeFunc_ownH hro h1 (gf := 119) (lb := #[.pointer (some ⟨wr.heap.size, 0, none⟩)]) rfl trivial (enters_of Try.func119 (by kernel_rfl) rfl)
        (backB_stops Fence.wide _ trivial hro (by omega) wr.heap.size w.heap.size len cap A qb HQL.out (by omega) W1 (by omega) (by omega) hcap1 (RdR.below hxr hB2 (Nat.le_refl _))) KpB.t (KpB.b (by omega) (by omega)) (Below.refl _ _) (fun _ => rfl)
        (fun pre W => QP n want T F0.sum p AN len capN w.heap.size Bc pre W ∧ (MksOk Dl W ∧ (Below w.heap.size w W ∧ W1.heap.size ≤ W.heap.size)))
        (fun _ _ _ => False)
        (OwnFrom.and (_root_.Go.Own.from (fun s X Y row hs hg hr => hs.kept hg hr) _) (OwnFrom.and (mks_from fun D hD => by have := (HD.out.2 D hD).2; omega) (OwnFrom.and (ownFrom_below (Nat.le_refl _) (by omega)) (fun _ _ _ _ h hg _ => Nat.le_trans h hg.size))))
        (fun _ _ _ _ _ hs _ _ => hs)
        ⟨⟨F0, qs0, false, hW2, HP0.out⟩, hM2, hB2, Nat.le_refl _⟩
        (fun x a' W => ∃ Bx, W1.heap.size ≤ Bx ∧ Own W Bx 79 [.slice qb[x.1].2.1 qb[x.1].1.code.length qb[x.1].2.2, .int .i64 qb[x.1].1.test, .int .i64 qb[x.1].1.th, .int .i64 qb[x.1].1.el] ∧
          a' = { tmps := #[.slice A len cap, .slice AN len capN, .int .u32 (want : Nat), .int .u32 (T : Nat), undef, .pointer (some ⟨w.heap.size, 0, none⟩), .pointer (some ⟨w.heap.size + 1, 0, none⟩), .pointer (some ⟨w.heap.size + 1 + 1, 0, none⟩), .slice none 0 0, .pointer (some ⟨w.heap.size + 1 + 1 + 1 + 1, 0, none⟩), .pointer (some ⟨w.heap.size + 1 + 1 + 1 + 1 + 1 + 1, 0, none⟩), .pointer (some ⟨Bc, 0, none⟩), .int .i64 (x.1 : Int), .pointer (some ⟨Bx, 0, none⟩), undef, .slice A len cap, .int .i64 len, .slice (some ⟨w.heap.size + 1 + 1 + 1, 0, none⟩) len len, .slice A len cap, .int .i64 len, .slice (some ⟨w.heap.size + 1 + 1 + 1 + 1 + 1, 0, none⟩) len len, .bool true, .slice A len cap, .func (.func 119) #[] #[.pointer (some ⟨wr.heap.size, 0, none⟩)], .int .i64 (x.1 : Int), .agg #[.slice qb[x.1].2.1 qb[x.1].1.code.length qb[x.1].2.2, .int .i64 qb[x.1].1.test, .int .i64 qb[x.1].1.th, .int .i64 qb[x.1].1.el], undef, undef, undef, undef, undef, undef, undef, undef, undef, undef, undef, undef, undef, undef, undef, undef, undef, undef, undef, undef, undef, undef, undef, undef, undef, undef, undef, undef, undef, undef, undef, undef, undef, undef, undef, undef, undef, undef, u64, undef], defers := [] })
        (fun x a' => _root_.Go.Own.from (fun s X Y row hs hg hr => by obtain ⟨Bx, h1, h2, h4⟩ := hs; exact ⟨Bx, h1, h2.kept hg hr, h4⟩) _)
        ?assign ?body ?done ?stop
      case assign =>
        rintro lb pre x W K ⟨i1, im, i3, i4⟩ hK
        simp only [encB]
        have hgW : w.heap.size ≤ W.heap.size := i3.size
        gi_wp2
        exact hK _ _ ((KeepsOthers.alloc _ _).from _) (KpB.alloc W hgW (by omega) _) ⟨i1.below (by go_grown), im.keeps (KeepsOthers.alloc _ _), i3.alloc hgW _, by simp; omega⟩ ⟨W.heap.size, i4, Own.new _ _ _, rfl⟩
      case body =>
        rintro lb pre ⟨m, hm2⟩ a' W hlb ⟨r, hr⟩ ⟨⟨F1, qs1, ch, hWb, hsp⟩, hmk, i3, i4⟩ ⟨Bx, hBx, bX, rfl⟩ hlt
        simp only at bX ⊢
        have hmlen : m < len := by have := HQL.out; omega
        have hqm : qb[m]? = some qb[m] := List.getElem?_eq_getElem hm2
        obtain ⟨hcode, hccap⟩ := HR.out m _ hqm
        have hpm : p[m]? = some qb[m].1 := by rw [← HQ.out, List.getElem?_map, hqm]; rfl
        generalize qb[m] = q at *
        obtain ⟨⟨code, te, th, el⟩, Ac, cc⟩ := q
        simp only at bX hcode hccap hpm ⊢
        obtain ⟨cl, hcl⟩ : ∃ cl, code.length = cl := ⟨_, rfl⟩
        rw [hcl] at bX hccap ⊢
        have HCL := Lib.hid hcl
        have HPM := Lib.hid hpm
        have hbk := ckProg_at HC.out hpm
        have hcm := manyS_le hpm
        simp only at hcm
        rw [hcl] at hcm
        obtain ⟨adn, row, Ar, cr, hAN, hbln, hdn, hcn, hrdn⟩ := (HN.out.below i3 (Nat.le_refl _)).at_ (k := m) (by rw [nxP, List.length_map, HL.out]; exact hmlen)
        subst hAN
        have hrow : row = nxB ⟨code, te, th, el⟩ := by
          rw [nxP, List.getElem?_map, hpm] at hdn
          injection hdn with hdn
          exact hdn.symm
        subst hrow
        have HBK := Lib.hid hbk
        obtain ⟨fl, hfl⟩ : ∃ fl, (nxB ⟨code, te, th, el⟩).length = fl := ⟨_, rfl⟩
        rw [hfl] at hcn
        have HFL := Lib.hid hfl
        have hF1 : F1.length = len := by rw [hsp.inv.len, HL.out]
        have hQ1 : qs1.length = len := by have := hsp.inv.sl; rw [List.length_map, HL.out] at this; exact this
        have HF1 := Lib.hid hF1
        have HSP := Lib.hid hsp
        have HMK := Lib.hid hmk
        have HI3 := Lib.hid i3
        have HWB := Lib.hid hWb
        have hgW : w.heap.size ≤ W.heap.size := i3.size
        have hblW : (adn.add m).block < W.heap.size := by omega
        obtain ⟨bt, hbt⟩ : ∃ bt, T.testBit m = bt := ⟨_, rfl⟩
        have HTE : Hid (bt = true → 0 ≤ te) := Lib.hid fun h => HT.out.at_ hpm (by rw [hbt]; exact h)
        have HBT := Lib.hid hbt
        obtain ⟨E0, hE0⟩ : ∃ E0, edW ⟨code, te, th, el⟩ F1 want = E0 := ⟨_, rfl⟩
        have hE0l : E0 < 2 ^ n := by rw [← hE0]; exact edW_lt hbk hsp.inv.lt hw
        have HE0 := Lib.hid hE0
        have HE : Hid (∀ Z : World, Z.heap = W.heap → Calls Try.prog 115 #[.slice Ar fl cr, .int .u32 (want : Nat), .slice (some ⟨w.heap.size + 1 + 1 + 1 + 1 + 1, 0, none⟩) len len] Z fun e w' => e = .returned (.int .u32 (E0 : Nat)) ∧ w' = Z) := Lib.hid fun Z hZ => by
          rw [← HE0.out]
          exact neededAtEnd_any n p.length Ar (some ⟨w.heap.size + 1 + 1 + 1 + 1 + 1, 0, none⟩) fl cr len len want ⟨code, te, th, el⟩ F1 Z HBK.out hn6 (Rd.heapEq (Rd.more hrdn (by omega)) hZ) HFL.out (Rd.heapEq (Rd.more (OwnU.rd HWB.out.fs) HWB.out.fs.lt) hZ) HF1.out HL.out.symm HSP.out.inv.lt hw
        have HCODE := Lib.hid hcode
        have hlX := bX.lt
        have c1 := hWb.nx.cell (j := 0) rfl
        have c2 := hWb.wt.cell (j := 0) rfl
        have c3 := hWb.bi.cell (j := 0) rfl
        clear hcl hpm hbk hfl hF1 hsp hdn hrdn hcode hbt hE0 hmk i3 hWb
        gi_wp2
        refine region_round_quiet (by kernel_rfl) (by kernel_rfl) (by rintro ⟨a, w, h⟩; exact h) (by kernel_rfl) ?_
        repeat (quiet_step ((go_at_call 115; with_reducible exact Calls.quiet_of_same (HE.out _ rfl))))
        refine wpQuiet_nil ?_
        intro Z hZ
        obtain ⟨nq, hZ⟩ := hZ
        subst hZ
        have hbq : Below W.heap.size W (W.drewN nq) := below_drewL (Below.refl _ _) nq
        have hkq : KeepsOthers W (W.drewN nq) := keeps_drewN W nq
        have hWq := HWB.out.below hbq
        have bXq := bX.below hbq hlX
        have hsq : (W.drewN nq).heap.size = W.heap.size := rfl
        have HKQ := Lib.hid hkq
        have HBQ := Lib.hid hbq
        generalize W.drewN nq = Wq at *
        have c4 := hWq.ts.cell (j := 0) rfl
        have x1 := bXq.cell (j := 1) rfl
        have hm32 : m < 32 := by omega
        clear c1 c2 c3 hkq hbq
        have hE032 : E0 < 4294967296 := by omega
        cases bt
        focus
          gi_wp2_with (refine ⟨trivial, ?_⟩; gi_at_call 76; refine (CallsIn.inRound lb (callsIn_wide.2 (hasBit_any T m _ (by omega) hm32))).mono ?_; rw [HBT.out]; rintro e w5 ⟨rfl, rfl⟩)
          have HE2 : Hid (edT ⟨code, te, th, el⟩ F1 want (T.testBit m) = E0) := Lib.hid (by rw [HBT.out]; exact HE0.out)
          obtain ⟨E2, hE2⟩ : ∃ E2, E0 = E2 := ⟨_, rfl⟩
          rw [hE2] at HE2 ⊢
          rw [hE2] at hE0l
          have hE2l := hE0l
          clear hE2 hE0l
        rotate_left
        focus
          have hte0 := HTE.out rfl
          obtain ⟨tn, rfl⟩ := Int.eq_ofNat_of_zero_le hte0
          have htn : tn < n := by rcases HBK.out.test with h | h <;> simp only at h <;> omega
          have htn32 : tn < 32 := by omega
          have HOR := Lib.hid (or_pow (L := E0) (t := tn) hE032 htn32)
          gi_wp2_with (refine ⟨trivial, ?_⟩; gi_at_call 76; refine (CallsIn.inRound lb (callsIn_wide.2 (hasBit_any T m _ (by omega) hm32))).mono ?_; rw [HBT.out]; rintro e w5 ⟨rfl, rfl⟩)
          rw [HOR.out]
          have HE2 : Hid (edT ⟨code, (tn : Int), th, el⟩ F1 want (T.testBit m) = E0 ||| 2 ^ tn) := Lib.hid (by rw [HBT.out]; unfold edT; rw [if_pos rfl, HE0.out]; rfl)
          have hE2l : E0 ||| 2 ^ tn < 2 ^ n := Nat.or_lt_two_pow hE0l (Nat.pow_lt_pow_right (by omega) htn)
          obtain ⟨E2, hE2⟩ : ∃ E2, E0 ||| 2 ^ tn = E2 := ⟨_, rfl⟩
          rw [hE2] at HE2 hE2l ⊢
          clear hE2 hE0l HOR
          clear htn htn32 hte0
          generalize ((tn : Nat) : Int) = te at *
        all_goals
          clear c4 x1
          have c5 := hWq.bs.cell (j := 0) rfl
          have x0 := bXq.cell (j := 0) rfl
          have HWQ := Lib.hid hWq
          have HBX := Lib.hid bXq
          obtain ⟨R, hR0⟩ : ∃ R, (mkL code E2).1 = R := ⟨_, rfl⟩
          obtain ⟨X, hX0⟩ : ∃ X, (mkL code E2).2 = X := ⟨_, rfl⟩
          have HST : Hid (∀ Z : World, Below Wq.heap.size Wq Z → Calls Try.prog 116 #[.int .u32 (E2 : Nat), .slice Ac cl cc] Z fun e w' => ∃ g, e = .returned (.tuple #[.slice (some ⟨g, 0, none⟩) cl cl, .int .u32 (X : Nat)]) ∧ Own w' g 4 (bv R) ∧ Z.heap.size ≤ g ∧ Below Z.heap.size Z w') := Lib.hid fun Z hZ => by
            have hbZ : Below w.heap.size w Z := HI3.out.trans ((HBQ.out.mono hgW).trans (hZ.mono (by omega)))
            rw [← hR0, ← hX0]
            exact stepsFor_any n Ac cl cc E2 code Z ((HCODE.out.below hbZ (Nat.le_refl _)).more hbZ.size) HCL.out (by omega) (StOk.of HBK.out.code) hn6 hE2l
          have HRL : Hid (R.length = cl) := Lib.hid (by rw [← hR0, mk_len]; exact HCL.out)
          have HMB : Hid (mkB ⟨code, te, th, el⟩ F1 want (T.testBit m) = (R, X)) := Lib.hid (by unfold mkB; rw [HE2.out, ← hR0, ← hX0])
          have hX6 : X < 2 ^ n := by rw [← hX0]; exact mk_lt (.of HBK.out.code) hE2l
          clear hR0 hX0
          have hS0 : Wq.drew.cell? ⟨w.heap.size + 1 + 1 + 1 + 1, 0, none⟩ = some (.slice (some ⟨w.heap.size + 1 + 1 + 1, 0, none⟩) len len) ∧ Wq.drew.cell? ⟨Bx, 0, none⟩ = some (.slice Ac cl cc) := ⟨c5, x0⟩
          have hb0 : Below Wq.heap.size Wq Wq.drew := (Below.refl _ Wq).drew
          clear c5 x0 hWq bXq
          refine region_round_held (fun Z => Z.cell? ⟨w.heap.size + 1 + 1 + 1 + 1, 0, none⟩ = some (.slice (some ⟨w.heap.size + 1 + 1 + 1, 0, none⟩) len len) ∧ Z.cell? ⟨Bx, 0, none⟩ = some (.slice Ac cl cc)) (by kernel_rfl) (by kernel_rfl) (by rintro ⟨a, w, h⟩; exact h) ?_
          refine wpAnyH_take (i := 0) (v := ?_) rfl (by kernel_rfl) (by kernel_rfl) (by kernel_rfl) (fun _ _ _ h => h) (Or.inl ⟨by rfl, ?_⟩) hS0 ?_
          rotate_left
          · intro Z hS
            obtain ⟨y0, y1⟩ := hS
            go_simp
            try with_reducible rfl
          simp only [Act.put, List.setIfInBounds_toArray, List.set_cons_zero, List.set_cons_succ]
          refine wpAnyH_take (i := 1) (v := ?_) rfl (by kernel_rfl) (by kernel_rfl) (by kernel_rfl) (fun _ _ _ h => h) (Or.inl ⟨by rfl, ?_⟩) hS0 ?_
          rotate_left
          · intro Z hS
            obtain ⟨y0, y1⟩ := hS
            go_simp
            try with_reducible rfl
          simp only [Act.put, List.setIfInBounds_toArray, List.set_cons_zero, List.set_cons_succ]
          refine wpAnyH_take (i := 2) (v := ?_) rfl (by kernel_rfl) (by kernel_rfl) (by kernel_rfl) (fun _ _ _ h => h) (Or.inl ⟨by rfl, ?_⟩) hS0 ?_
          rotate_left
          · intro Z hS
            obtain ⟨y0, y1⟩ := hS
            go_simp
            try with_reducible rfl
          simp only [Act.put, List.setIfInBounds_toArray, List.set_cons_zero, List.set_cons_succ]
          refine wpAnyH_take (i := 3) (v := ?_) rfl (by kernel_rfl) (by kernel_rfl) (by kernel_rfl) (fun _ _ _ h => h) (Or.inl ⟨by rfl, ?_⟩) hS0 ?_
          rotate_left
          · intro Z hS
            obtain ⟨y0, y1⟩ := hS
            go_simp
            try with_reducible rfl
          simp only [Act.put, List.setIfInBounds_toArray, List.set_cons_zero, List.set_cons_succ]
          refine wpAnyH_take (i := 4) (v := ?_) rfl (by kernel_rfl) (by kernel_rfl) (by kernel_rfl) (fun _ _ _ h => h) (Or.inl ⟨by rfl, ?_⟩) hS0 ?_
          rotate_left
          · intro Z hS
            obtain ⟨y0, y1⟩ := hS
            go_simp
            try with_reducible rfl
          simp only [Act.put, List.setIfInBounds_toArray, List.set_cons_zero, List.set_cons_succ]
          refine wpAnyH_ready (rs := [5]) (by kernel_rfl) (by simp) (AllReadyH.cons rfl (fun K hK => ?_) AllReadyH.nil)
          go_simp
          refine (HST.out _ hb0).mono ?_
          rintro e w5 ⟨g8, rfl, hg8, hg8l, hb5⟩
          have hb05 : Below Wq.heap.size Wq w5 := hb0.trans hb5
          have hW5 := HWQ.out.below hb05
          have bX5 := HBX.out.below hb05 HBX.out.lt
          have hS5 : w5.cell? ⟨w.heap.size + 1 + 1 + 1 + 1, 0, none⟩ = some (.slice (some ⟨w.heap.size + 1 + 1 + 1, 0, none⟩) len len) ∧ w5.cell? ⟨Bx, 0, none⟩ = some (.slice Ac cl cc) := ⟨hW5.bs.cell (j := 0) rfl, bX5.cell (j := 0) rfl⟩
          refine hK.out _ _ hS5 (fun _ => ?_)
          clear hK K
          refine wpAnyH_take (i := 6) (v := ?_) rfl (by kernel_rfl) (by kernel_rfl) (by kernel_rfl) (fun _ _ _ h => h) (Or.inl ⟨by rfl, ?_⟩) hS5 ?_
          rotate_left
          · intro Z hS
            obtain ⟨y0, y1⟩ := hS
            go_simp
            try with_reducible rfl
          simp only [Act.put, List.setIfInBounds_toArray, List.set_cons_zero, List.set_cons_succ]
          refine wpAnyH_take (i := 7) (v := ?_) rfl (by kernel_rfl) (by kernel_rfl) (by kernel_rfl) (fun _ _ _ h => h) (Or.inl ⟨by rfl, ?_⟩) hS5 ?_
          rotate_left
          · intro Z hS
            obtain ⟨y0, y1⟩ := hS
            go_simp
            try with_reducible rfl
          simp only [Act.put, List.setIfInBounds_toArray, List.set_cons_zero, List.set_cons_succ]
          refine wpAnyH_take (i := 8) (v := ?_) rfl (by kernel_rfl) (by kernel_rfl) (by kernel_rfl) (fun _ _ _ h => h) (Or.inl ⟨by rfl, ?_⟩) hS5 ?_
          rotate_left
          · intro Z hS
            obtain ⟨y0, y1⟩ := hS
            go_simp
            try with_reducible rfl
          simp only [Act.put, List.setIfInBounds_toArray, List.set_cons_zero, List.set_cons_succ]
          refine wpAnyH_take (i := 9) (v := ?_) rfl (by kernel_rfl) (by kernel_rfl) (by kernel_rfl) (fun _ _ _ h => h) (Or.inl ⟨by rfl, ?_⟩) hS5 ?_
          rotate_left
          · intro Z hS
            obtain ⟨y0, y1⟩ := hS
            go_simp
            try with_reducible rfl
          simp only [Act.put, List.setIfInBounds_toArray, List.set_cons_zero, List.set_cons_succ]
          obtain ⟨qm, hqm⟩ : ∃ qm, qs1[m]? = some qm := ⟨_, List.getElem?_eq_getElem (by omega)⟩
          have e0 := hW5.rows.own.cell (rvM_at hqm)
          have e1 := hW5.rows.own.frozen m
          have hg8l' : Wq.heap.size ≤ g8 := hg8l
          have hlo2 : w.heap.size + 7 ≤ g8 := by omega
          have hW6 : RqW want T w.heap.size len capN (some adn) Bc F1 (qs1.set m (R, some ⟨g8, 0, none⟩, cl)) ch (w5.setCell ⟨w.heap.size + 1 + 1 + 1, m, none⟩ (.slice (some ⟨g8, 0, none⟩) cl cl)) := by
            have := hW5.row (m := m) (c := cl) hg8 hlo2 (by omega)
            rwa [HRL.out] at this
          have bX6 := bX5.far (p := ⟨w.heap.size + 1 + 1 + 1, m, none⟩) (by show Bx ≠ w.heap.size + 1 + 1 + 1; omega) (.slice (some ⟨g8, 0, none⟩) cl cl)
          have hS6 : (w5.setCell ⟨w.heap.size + 1 + 1 + 1, m, none⟩ (.slice (some ⟨g8, 0, none⟩) cl cl)).cell? ⟨w.heap.size + 1 + 1 + 1 + 1, 0, none⟩ = some (.slice (some ⟨w.heap.size + 1 + 1 + 1, 0, none⟩) len len) ∧ (w5.setCell ⟨w.heap.size + 1 + 1 + 1, m, none⟩ (.slice (some ⟨g8, 0, none⟩) cl cl)).cell? ⟨Bx, 0, none⟩ = some (.slice Ac cl cc) := ⟨hW6.bs.cell (j := 0) rfl, bX6.cell (j := 0) rfl⟩
          refine wpAnyH_ready (rs := [10]) (by kernel_rfl) (by simp) (AllReadyH.cons rfl (fun K hK => ?_) AllReadyH.nil)
          go_simp
          refine hK.out _ _ hS6 (fun _ => ?_)
          clear hK K
          refine wpAnyH_take (i := 11) (v := ?_) rfl (by kernel_rfl) (by kernel_rfl) (by kernel_rfl) (fun _ _ _ h => h) (Or.inl ⟨by rfl, ?_⟩) hS6 ?_
          rotate_left
          · intro Z hS
            obtain ⟨y0, y1⟩ := hS
            go_simp
            try with_reducible rfl
          simp only [Act.put, List.setIfInBounds_toArray, List.set_cons_zero, List.set_cons_succ]
          refine wpAnyH_done (by kernel_rfl) ?_ _
          have hkq6 : KeepsOthers W (w5.setCell ⟨w.heap.size + 1 + 1 + 1, m, none⟩ (.slice (some ⟨g8, 0, none⟩) cl cl)) := HKQ.out.trans ((keeps_below hb05).trans (KeepsOthers.setCell _ _ _))
          have hs65 : (w5.setCell ⟨w.heap.size + 1 + 1 + 1, m, none⟩ (.slice (some ⟨g8, 0, none⟩) cl cl)).heap.size = w5.heap.size := by simp
          have hsz5 := hb05.size
          have hkp6 : KpB w.heap.size wr.heap.size W (w5.setCell ⟨w.heap.size + 1 + 1 + 1, m, none⟩ (.slice (some ⟨g8, 0, none⟩) cl cl)) := (kpB_below HBQ.out hgW (by omega)).t ((kpB_below hb05 (by omega) (by omega)).t (KpB.setCell _ (p := ⟨w.heap.size + 1 + 1 + 1, m, none⟩) (by show w.heap.size ≤ w.heap.size + 1 + 1 + 1; omega) (by show wr.heap.size ≠ w.heap.size + 1 + 1 + 1; omega) _))
          clear hS0 hS5 hS6 bX5 bX6 e0 e1 hW5 hb0
          generalize w5.setCell ⟨w.heap.size + 1 + 1 + 1, m, none⟩ (.slice (some ⟨g8, 0, none⟩) cl cl) = W6 at *
          obtain ⟨W0', hW0'⟩ : ∃ V, F1[m]? = some V := ⟨_, List.getElem?_eq_getElem (by rw [HF1.out]; exact hmlen)⟩
          have hgo := HSP.out.go (D' := InF (pre ++ [⟨m, hm2⟩])) HC.out hw HT.out (fun i h => InF.snoc h) HPM.out hW0'
          rw [HMB.out] at hgo
          have hmap : (qs1.map (·.1)).set m R = (qs1.set m (R, some ⟨g8, 0, none⟩, cl)).map (·.1) := by rw [List.map_set]
          rw [hmap] at hgo
          have HGO := Lib.hid hgo
          have f0 := hW6.bc.cell (j := 0) rfl
          have f1 := hW6.bc.frozen 0
          have f2 := hW6.bi.cell (j := 0) rfl
          have f3 := hW6.fs.cell (uv_at hW0')
          have HKQ6 := Lib.hid hkq6
          have HKP6 := Lib.hid hkp6
          have HW6 := Lib.hid hW6
          have h5l := hW6.fs.lt
          have hBl := hW6.bc.lt
          clear hgo hmap hkq6 hkp6
          obtain ⟨d, hd⟩ : ∃ d, (ch || (X != W0')) = d := ⟨_, rfl⟩
          have hw7 := hW6.flag d
          have f4 := hw7.bi.cell (j := 0) rfl
          have f5 := hw7.fs.cell (uv_at hW0')
          have f6 := hw7.fs.frozen m
          have HW7 := Lib.hid hw7
          have HDD := Lib.hid hd
          have hne : (((X : Nat) : Int) != ((W0' : Nat) : Int)) = (X != W0') := by
            by_cases e : X = W0'
            · simp [e]
            · have e2 : ((X : Nat) : Int) ≠ ((W0' : Nat) : Int) := by omega
              rw [bne_iff_ne.2 e, bne_iff_ne.2 e2]
          have HFIN : Hid (∀ Y : World, Y = (W6.setCell ⟨Bc, 0, none⟩ (.bool d)).setCell ⟨w.heap.size + 1 + 1 + 1 + 1 + 1, m, none⟩ (.int .u32 (X : Nat)) → KeepsFrom W1.heap.size W Y ∧ KpB w.heap.size wr.heap.size W Y ∧ QP n want T F0.sum p (some adn) len capN w.heap.size Bc (pre ++ [⟨m, hm2⟩]) Y ∧ MksOk Dl Y ∧ Below w.heap.size w Y ∧ W1.heap.size ≤ Y.heap.size) := Lib.hid fun Y hY => by
            subst hY
            have hk : KeepsOthers W ((W6.setCell ⟨Bc, 0, none⟩ (.bool d)).setCell ⟨w.heap.size + 1 + 1 + 1 + 1 + 1, m, none⟩ (.int .u32 (X : Nat))) := HKQ6.out.trans ((KeepsOthers.setCell _ _ _).trans (KeepsOthers.setCell _ _ _))
            have hp : KpB w.heap.size wr.heap.size W ((W6.setCell ⟨Bc, 0, none⟩ (.bool d)).setCell ⟨w.heap.size + 1 + 1 + 1 + 1 + 1, m, none⟩ (.int .u32 (X : Nat))) := HKP6.out.t ((KpB.setCell _ (p := ⟨Bc, 0, none⟩) (by show w.heap.size ≤ Bc; omega) (by show wr.heap.size ≠ Bc; omega) _).t (KpB.setCell _ (p := ⟨w.heap.size + 1 + 1 + 1 + 1 + 1, m, none⟩) (by show w.heap.size ≤ w.heap.size + 1 + 1 + 1 + 1 + 1; omega) (by show wr.heap.size ≠ w.heap.size + 1 + 1 + 1 + 1 + 1; omega) _))
            refine ⟨hk.from _, hp, ⟨F1.set m X, qs1.set m (R, some ⟨g8, 0, none⟩, cl), d, HW7.out.word m X, by rw [← HDD.out]; exact HGO.out⟩, HMK.out.keeps hk, HI3.out.trans hp.1, Nat.le_trans i4 hp.1.size⟩
          clear hW6 hw7 hd hW0'
          cases ch with
          | true =>
            have hdt : d = true := by rw [← HDD.out]; rfl
            subst hdt
            gi_wp2
            exact HFIN.out _ rfl
          | false =>
            have hdt : (X != W0') = d := by rw [← HDD.out, Bool.false_or]
            rw [hdt] at hne
            clear hdt
            gi_wp2
            exact HFIN.out _ rfl
      case done =>
        rintro D ys W hD rfl ⟨⟨F1, qs1, ch, hWd, hsp⟩, hmk, i3, i4⟩ hK
        have d0 := hWd.bc.cell (j := 0) rfl
        have HWD := Lib.hid hWd
        have HSP := Lib.hid hsp
        have HMK := Lib.hid hmk
        have HK := Lib.hid hK
        have HI3 := Lib.hid i3
        clear hWd hsp hmk hK i3
        gi_wp2
        have hm2 : MksOk (D :: Dl) (W.alloc (.cells #[.bool ch] 4)) := fun E hE => by
          rcases List.mem_cons.1 hE with rfl | hE
          · exact (Below.heap_alloc W _ _ (Array.getElem?_eq_some_iff.1 HK.out).1).trans HK.out
          · exact (HMK.out.keeps (KeepsOthers.alloc _ _)) E hE
        have hdl : D < W.heap.size := (Array.getElem?_eq_some_iff.1 HK.out).1
        have hs5 := HSP.out.inv.sum_le HC.out
        refine ⟨⟨W.heap.size, F1, qs1, ch, D :: Dl, _, _, _, _, rfl, HWD.out.next (by have := HWD.out.lo; have := HWD.out.bc.lt; omega), Lib.hid HSP.out.inv, Lib.hid fun hch => ?_, Lib.hid hm2, Lib.hid ⟨List.nodup_cons.2 ⟨fun hDm => by have := (HD.out.2 D hDm).2; omega, HD.out.1⟩, fun E hE => ?_⟩, HI3.out.alloc HI3.out.size _⟩, ?_⟩
        · subst hch
          exact HSP.out.done HC.out fun i hi => ⟨⟨i, by rw [HQL.out, ← HL.out]; exact hi⟩, bks_mem (by simp), rfl⟩
        · rcases List.mem_cons.1 hE with rfl | hE
          · exact ⟨by omega, by simp; omega⟩
          · have := HD.out.2 E hE
            exact ⟨this.1, by simp; omega⟩
        · cases ch with
          | false =>
            have e : ∀ a : Act, a.tmps.getD 11 undef = .pointer (some ⟨W.heap.size, 0, none⟩) → qMu (w.heap.size + 1 + 1 + 1 + 1 + 1) a (W.alloc (.cells #[.bool false] 4)) = 0 := fun a ha => by
              unfold qMu
              rw [ha]
              show (match (W.alloc (.cells #[.bool false] 4)).cell? ⟨W.heap.size, 0, none⟩ with | some (.bool true) => 514 - cellSum (W.alloc (.cells #[.bool false] 4)) (w.heap.size + 1 + 1 + 1 + 1 + 1) | _ => 0) = _
              rw [(Own.new W 4 [.bool false]).cell (j := 0) rfl]
            rw [e _ rfl]
            have := HSUM0.out
            omega
          | true =>
            have e : ∀ a : Act, a.tmps.getD 11 undef = .pointer (some ⟨W.heap.size, 0, none⟩) → qMu (w.heap.size + 1 + 1 + 1 + 1 + 1) a (W.alloc (.cells #[.bool true] 4)) = 514 - F1.sum := fun a ha => by
              unfold qMu
              rw [ha]
              show (match (W.alloc (.cells #[.bool true] 4)).cell? ⟨W.heap.size, 0, none⟩ with | some (.bool true) => 514 - cellSum (W.alloc (.cells #[.bool true] 4)) (w.heap.size + 1 + 1 + 1 + 1 + 1) | _ => 0) = _
              rw [(Own.new W 4 [.bool true]).cell (j := 0) rfl]
              show 514 - cellSum (W.alloc (.cells #[.bool true] 4)) (w.heap.size + 1 + 1 + 1 + 1 + 1) = _
              rw [cellSum_own (HWD.out.fs.alloc _)]
            rw [e _ rfl]
            have := HSP.out.more rfl
            omega
      case stop =>
        rintro D c pre W _ _ h _
        exact h.elim

end Go.Proofs.Ytfhnhbkdhdocjaa
