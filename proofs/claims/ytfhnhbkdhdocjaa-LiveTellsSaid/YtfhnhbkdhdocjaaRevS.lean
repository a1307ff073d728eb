/-
  slices.Reverse at steps (K2).
-/
import Derived.Test.YtfhnhbkdhdocjaaLiveRaw
import Derived.BigRegion
import Derived.RangeFuncCalls
namespace Go.Proofs.Ytfhnhbkdhdocjaa
open Go.RowKit
set_option linter.unusedSimpArgs false
set_option linter.unusedVariables false
set_option maxRecDepth 100000

/-- a step stored, cell by cell -/
theorem rv5_set : ∀ (l : List St) (k : Nat) (o t a b v : Int), k < l.length →
    (((((rv cSt l).set (k * 5) (.int .i64 o)).set (k * 5 + 1) (.int .i64 t)).set (k * 5 + 2) (.int .i64 a)).set (k * 5 + 3) (.int .i64 b)).set (k * 5 + 4) (.int .i64 v) = rv cSt (l.set k ⟨o, t, a, b, v⟩)
  | [], _, _, _, _, _, _, h => by simp at h
  | s :: l, 0, o, t, a, b, v, _ => by
    show ((((([_, _, _, _, _] ++ rv cSt l).set 0 _).set 1 _).set 2 _).set 3 _).set 4 _ = cSt ⟨o, t, a, b, v⟩ ++ rv cSt l
    simp [cSt]
  | s :: l, k + 1, o, t, a, b, v, h => by
    have ih := rv5_set l k o t a b v (by simpa using h)
    have e1 : rv cSt (s :: l) = cSt s ++ rv cSt l := rfl
    have e2 : rv cSt ((s :: l).set (k + 1) ⟨o, t, a, b, v⟩) = cSt s ++ rv cSt (l.set k ⟨o, t, a, b, v⟩) := rfl
    have hs : ∀ (X : List Value) (j : Nat) (u : Value), (cSt s ++ X).set (5 + j) u = cSt s ++ X.set j u := fun X j u => by
      rw [List.set_append_right _ _ (by rw [cSt_len]; omega), cSt_len, Nat.add_sub_cancel_left]
    rw [e1, e2, ← ih, show (k + 1) * 5 = 5 + k * 5 by omega, hs, show 5 + k * 5 + 1 = 5 + (k * 5 + 1) by omega, hs, show 5 + k * 5 + 2 = 5 + (k * 5 + 2) by omega, hs, show 5 + k * 5 + 3 = 5 + (k * 5 + 3) by omega, hs, show 5 + k * 5 + 4 = 5 + (k * 5 + 4) by omega, hs]

/-- k swaps from both ends -/
def SwS (xs : List St) (k : Nat) (ys : List St) : Prop := ys.length = xs.length ∧ ∀ p, p < xs.length → ys[p]? = if p < k ∨ xs.length - 1 - k < p then xs[xs.length - 1 - p]? else xs[p]?

theorem SwS.zero (xs : List St) : SwS xs 0 xs := ⟨rfl, fun p hp => by rw [if_neg (by omega)]⟩

theorem SwS.next {xs ys : List St} {k j : Nat} (h : SwS xs k ys) (hj : j = xs.length - 1 - k) (hk : k < j) {x y : St} (hx : ys[k]? = some x) (hy : ys[j]? = some y) : SwS xs (k + 1) ((ys.set k y).set j x) := by
  obtain ⟨h1, h2⟩ := h
  refine ⟨by simp [h1], fun p hp => ?_⟩
  have hk2 := h2 k (by omega)
  have hj2 := h2 j (by omega)
  rw [if_neg (by omega)] at hk2 hj2
  rw [List.getElem?_set, List.getElem?_set]
  by_cases e1 : j = p
  · subst e1
    rw [if_pos rfl, if_pos (by simp [h1]; omega), if_pos (by omega), show xs.length - 1 - j = k by omega, ← hk2, hx]
  · rw [if_neg e1]
    by_cases e2 : k = p
    · subst e2
      rw [if_pos rfl, if_pos (by omega), if_pos (by omega), ← hj, ← hj2, hy]
    · rw [if_neg e2, h2 p hp]
      by_cases e3 : p < k ∨ xs.length - 1 - k < p
      · rw [if_pos e3, if_pos (by omega)]
      · rw [if_neg e3, if_neg (by omega)]

theorem SwS.done {xs ys : List St} {k : Nat} (h : SwS xs k ys) (hk : xs.length - 1 - k ≤ k) : ys = xs.reverse := by
  obtain ⟨h1, h2⟩ := h
  apply List.ext_getElem?
  intro p
  rcases Nat.lt_or_ge p xs.length with hp | hp
  · rw [h2 p hp, List.getElem?_reverse hp]
    split
    · rfl
    · rw [show xs.length - 1 - p = p by omega]
  · rw [List.getElem?_eq_none (by omega), List.getElem?_eq_none (by simp; omega)]

theorem rv5_at {l : List St} {k : Nat} {o t a b v : Int} (h : l[k]? = some ⟨o, t, a, b, v⟩) : (rv cSt l)[k * 5]? = some (.int .i64 o) ∧ (rv cSt l)[k * 5 + 1]? = some (.int .i64 t) ∧ (rv cSt l)[k * 5 + 2]? = some (.int .i64 a) ∧ (rv cSt l)[k * 5 + 3]? = some (.int .i64 b) ∧ (rv cSt l)[k * 5 + 4]? = some (.int .i64 v) :=
  ⟨rv_at cSt_len h (i := 0) (by omega), rv_at cSt_len h (i := 1) (by omega), rv_at cSt_len h (i := 2) (by omega), rv_at cSt_len h (i := 3) (by omega), rv_at cSt_len h (i := 4) (by omega)⟩

/-- a step of a row of the call's own, stored -/
theorem own5_set {w : World} {base g n c : Nat} {l : List St} (h : w.ownsRow base 87 5 (.slice (some ⟨g, 0, none⟩) n c) n (rv cSt l)) (hl : l.length = n) {k : Nat} (hk : k < n) (o t a b v : Int) :
    (((((w.setCell ⟨g, k * 5, none⟩ (.int .i64 o)).setCell ⟨g, k * 5 + 1, none⟩ (.int .i64 t)).setCell ⟨g, k * 5 + 2, none⟩ (.int .i64 a)).setCell ⟨g, k * 5 + 3, none⟩ (.int .i64 b)).setCell ⟨g, k * 5 + 4, none⟩ (.int .i64 v)).ownsRow base 87 5 (.slice (some ⟨g, 0, none⟩) n c) n (rv cSt (l.set k ⟨o, t, a, b, v⟩)) := by
  rw [← rv5_set l k o t a b v (by omega)]
  exact (((((h.stored _ _).1.stored _ _).1.stored _ _).1.stored _ _).1.stored _ _).1

theorem ownsRow_drewS {w : World} {base size n : Nat} {e : TypeId} {v : Value} {xs : List Value} (h : w.ownsRow base e size v n xs) : w.drew.ownsRow base e size v n xs := h

theorem below5_set {B g : Nat} {w X : World} (h : Below B w X) (hg : B ≤ g) (k : Nat) (o t a b v : Int) :
    Below B w (((((X.setCell ⟨g, k * 5, none⟩ (.int .i64 o)).setCell ⟨g, k * 5 + 1, none⟩ (.int .i64 t)).setCell ⟨g, k * 5 + 2, none⟩ (.int .i64 a)).setCell ⟨g, k * 5 + 3, none⟩ (.int .i64 b)).setCell ⟨g, k * 5 + 4, none⟩ (.int .i64 v)) :=
  ((((h.setCell (p := ⟨g, k * 5, none⟩) hg _).setCell (p := ⟨g, k * 5 + 1, none⟩) hg _).setCell (p := ⟨g, k * 5 + 2, none⟩) hg _).setCell (p := ⟨g, k * 5 + 3, none⟩) hg _).setCell (p := ⟨g, k * 5 + 4, none⟩) hg _

theorem keeps5_set {g : Nat} {w X : World} (h : KeepsOthers w X) (k : Nat) (o t a b v : Int) :
    KeepsOthers w (((((X.setCell ⟨g, k * 5, none⟩ (.int .i64 o)).setCell ⟨g, k * 5 + 1, none⟩ (.int .i64 t)).setCell ⟨g, k * 5 + 2, none⟩ (.int .i64 a)).setCell ⟨g, k * 5 + 3, none⟩ (.int .i64 b)).setCell ⟨g, k * 5 + 4, none⟩ (.int .i64 v)) :=
  ((((h.trans (KeepsOthers.setCell _ _ _)).trans (KeepsOthers.setCell _ _ _)).trans (KeepsOthers.setCell _ _ _)).trans (KeepsOthers.setCell _ _ _)).trans (KeepsOthers.setCell _ _ _)

set_option maxHeartbeats 8000000 in
theorem reverseS_any (A : Option Addr) (n c : Nat) (xs : List St) (base : Nat) (w : World) (hw : w.ownsRow base 87 5 (.slice A n c) n (rv cSt xs)) (hl : xs.length = n) (hm : n ≤ 65536) (hb : base ≤ w.heap.size) :
    Calls Try.prog 83 #[.slice A n c] w fun e w' => e = .returned (.tuple #[]) ∧ w'.ownsRow base 87 5 (.slice A n c) n (rv cSt xs.reverse) ∧ Below base w w' ∧ KeepsOthers w w' := by
  have HL := Lib.hid hl
  have hsub : (n : Int) - 1 - (0 : Nat) = (n : Int) - 1 := by simp
  clear hl
  go_enter Try.func83, Try.ntmps83
  go_wp2
  go_loopw [2, 3] (fun i j wr => ∃ (k : Nat) (ys : List St), k ≤ n ∧ i = .int .i64 k ∧ j = .int .i64 ((n : Int) - 1 - k) ∧ SwS xs k ys ∧ wr.ownsRow base 87 5 (.slice A n c) n (rv cSt ys) ∧ Below base w wr ∧ KeepsOthers w wr) (fun i _ _ => n - (intOf i).toNat)
  case atStart => exact ⟨0, xs, by omega, rfl, by rw [hsub], SwS.zero xs, hw, Below.refl _ _, KeepsOthers.refl _⟩
  case round =>
    obtain ⟨k, ys, hk, rfl, rfl, hs, hown, hbr, hko⟩ := hrel
    have HKO := Lib.hid hko
    clear hko
    have HS := Lib.hid hs
    have hyl := hs.1
    rw [HL.out] at hyl
    have HYL := Lib.hid hyl
    have hsz := hbr.size
    by_cases hlt : k < n - 1 - k
    · obtain ⟨g, rfl⟩ : ∃ g, A = some ⟨g, 0, none⟩ := by
        rcases hown.2 with ⟨hv, h0⟩ | ⟨g, cap', cur, hv, _⟩
        · omega
        · injection hv with h1
          exact ⟨g, h1⟩
      have hgb := hown.lt g rfl
      obtain ⟨jn, hjn⟩ : ∃ jn : Nat, jn = n - 1 - k := ⟨_, rfl⟩
      have hji : (n : Int) - 1 - k = (jn : Int) := by omega
      rw [← hjn] at hlt
      have HJ := Lib.hid hjn
      obtain ⟨⟨o1, t1, a1, b1, v1⟩, hx⟩ : ∃ x, ys[k]? = some x := ⟨_, List.getElem?_eq_getElem (by omega)⟩
      obtain ⟨⟨o2, t2, a2, b2, v2⟩, hy⟩ : ∃ y, ys[jn]? = some y := ⟨_, List.getElem?_eq_getElem (by omega)⟩
      obtain ⟨p0, p1, p2, p3, p4⟩ := rv5_at hx
      obtain ⟨q0, q1, q2, q3, q4⟩ := rv5_at hy
      have hkn : k < n := by omega
      have hjn' : jn < n := by omega
      have hk5 : k * 5 + 4 < n * 5 := by omega
      have hj5 : jn * 5 + 4 < n * 5 := by omega
      have hkj : k * 5 + 5 ≤ jn * 5 := by omega
      have c0 := (hown.cellAt (k * 5) (by omega)).trans p0
      have c1 := (hown.cellAt (k * 5 + 1) (by omega)).trans p1
      have c2 := (hown.cellAt (k * 5 + 2) (by omega)).trans p2
      have c3 := (hown.cellAt (k * 5 + 3) (by omega)).trans p3
      have c4 := (hown.cellAt (k * 5 + 4) (by omega)).trans p4
      have d0 := (hown.cellAt (jn * 5) (by omega)).trans q0
      have d1 := (hown.cellAt (jn * 5 + 1) (by omega)).trans q1
      have d2 := (hown.cellAt (jn * 5 + 2) (by omega)).trans q2
      have d3 := (hown.cellAt (jn * 5 + 3) (by omega)).trans q3
      have d4 := (hown.cellAt (jn * 5 + 4) (by omega)).trans q4
      have f0 := hown.frozenAt (k * 5)
      have f1 := hown.frozenAt (k * 5 + 1)
      have f2 := hown.frozenAt (k * 5 + 2)
      have f3 := hown.frozenAt (k * 5 + 3)
      have f4 := hown.frozenAt (k * 5 + 4)
      have g0 := hown.frozenAt (jn * 5)
      have g1 := hown.frozenAt (jn * 5 + 1)
      have g2 := hown.frozenAt (jn * 5 + 2)
      have g3 := hown.frozenAt (jn * 5 + 3)
      have g4 := hown.frozenAt (jn * 5 + 4)
      have HN := Lib.hid (hs.next (j := jn) (by rw [HL.out]; exact hjn) hlt hx hy)
      have HOWN := Lib.hid hown
      rw [hji]
      clear hs hyl hjn hx hy hji p0 p1 p2 p3 p4 q0 q1 q2 q3 q4 hown
      go_wp2
      go_region
      all_goals
        go_wp2
        go_round
        case rel =>
          refine ⟨k + 1, _, by omega, by go_num, ?_, HN.out, ?_, ?_, ?_⟩
          · have := HJ.out
            congr 1
            omega
          · exact ownsRow_drewS (own5_set (own5_set HOWN.out HYL.out hkn o2 t2 a2 b2 v2) (by rw [List.length_set]; exact HYL.out) hjn' o1 t1 a1 b1 v1)
          · exact (below5_set (below5_set hbr hgb.1 _ _ _ _ _ _) hgb.1 _ _ _ _ _ _).drew
          · exact (keeps5_set (keeps5_set HKO.out _ _ _ _ _ _) _ _ _ _ _ _).trans (KeepsOthers.drew _)
        case measure => (simp [intOf]; omega)
    · have HD := Lib.hid (hs.done (by rw [HL.out]; omega))
      have hle : ¬ (k : Int) < (n : Int) - 1 - k := by omega
      rw [HD.out] at hown
      clear hs hyl
      go_wp2
      go_returns
      exact ⟨rfl, hown, hbr, HKO.out⟩

end Go.Proofs.Ytfhnhbkdhdocjaa
