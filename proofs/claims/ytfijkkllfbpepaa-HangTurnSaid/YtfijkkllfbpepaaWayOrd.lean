/-
  slices.Reverse, slices.Index at ints; way.Reach, way.Order (E1, E2).
-/
import Derived.Test.YtfijkkllfbpepaaWayCheck
import Derived.Test.YtfijkkllfbpepaaWayFin
namespace Go.Proofs.Ytfijkkllfbpepaa
open Go.RowKit
set_option linter.unusedSimpArgs false
set_option linter.unusedVariables false
set_option maxRecDepth 100000

/-- k swaps from both ends -/
def SwK (xs : List Int) (k : Nat) (ys : List Int) : Prop := ys.length = xs.length ∧ ∀ p, p < xs.length → ys[p]? = if p < k ∨ xs.length - 1 - k < p then xs[xs.length - 1 - p]? else xs[p]?

theorem SwK.zero (xs : List Int) : SwK xs 0 xs := ⟨rfl, fun p hp => by rw [if_neg (by omega)]⟩

theorem SwK.next {xs ys : List Int} {k j : Nat} (h : SwK xs k ys) (hj : j = xs.length - 1 - k) (hk : k < j) {x y : Int} (hx : ys[k]? = some x) (hy : ys[j]? = some y) : SwK xs (k + 1) ((ys.set k y).set j x) := by
  obtain ⟨h1, h2⟩ := h
  refine ⟨by simp [h1], fun p hp => ?_⟩
  have hk2 := h2 k (by omega)
  have hj2 := h2 j (by omega)
  rw [if_neg (by omega)] at hk2 hj2
  rw [List.getElem?_set, List.getElem?_set]
  by_cases e1 : j = p
  · subst e1
    rw [if_pos rfl, if_pos (by simp [h1]; omega), if_pos (by omega), show xs.length - 1 - j = k by omega, ← hk2, hx]
  · rw [if_neg e1]
    by_cases e2 : k = p
    · subst e2
      rw [if_pos rfl, if_pos (by omega), if_pos (by omega), ← hj, ← hj2, hy]
    · rw [if_neg e2, h2 p hp]
      by_cases e3 : p < k ∨ xs.length - 1 - k < p
      · rw [if_pos e3, if_pos (by omega)]
      · rw [if_neg e3, if_neg (by omega)]

theorem SwK.done {xs ys : List Int} {k : Nat} (h : SwK xs k ys) (hk : xs.length - 1 - k ≤ k) : ys = xs.reverse := by
  obtain ⟨h1, h2⟩ := h
  apply List.ext_getElem?
  intro p
  rcases Nat.lt_or_ge p xs.length with hp | hp
  · rw [h2 p hp, List.getElem?_reverse hp]
    split
    · rfl
    · rw [show xs.length - 1 - p = p by omega]
  · rw [List.getElem?_eq_none (by omega), List.getElem?_eq_none (by simp; omega)]

set_option maxHeartbeats 4000000 in
theorem reverse_any (g n c : Nat) (xs : List Int) (base : Nat) (w : World) (hw : w.ownsRow base 3 1 (.slice (some ⟨g, 0, none⟩) n c) n (iv xs)) (hl : xs.length = n) (h0 : 0 < n) (hm : n ≤ 65536) (hb : base ≤ w.heap.size) :
    Calls Try.prog 31 #[.slice (some ⟨g, 0, none⟩) n c] w fun e w' => e = .returned (.tuple #[]) ∧ w'.ownsRow base 3 1 (.slice (some ⟨g, 0, none⟩) n c) n (iv xs.reverse) ∧ Below base w w' := by
  have HL := Lib.hid hl
  have hgb := hw.lt g rfl
  have hsub : (n : Int) - 1 - (0 : Nat) = (n : Int) - 1 := by simp
  clear hl
  go_enter Try.func31, Try.ntmps31
  go_wp2
  go_loopw [2, 3] (fun i j wr => ∃ (k : Nat) (ys : List Int), k ≤ n ∧ i = .int .i64 k ∧ j = .int .i64 ((n : Int) - 1 - k) ∧ SwK xs k ys ∧ wr.ownsRow base 3 1 (.slice (some ⟨g, 0, none⟩) n c) n (iv ys) ∧ Below base w wr) (fun i _ _ => n - (intOf i).toNat)
  case atStart => exact ⟨0, xs, by omega, rfl, by rw [hsub], SwK.zero xs, hw, Below.refl _ _⟩
  case round =>
    obtain ⟨k, ys, hk, rfl, rfl, hs, hown, hbr⟩ := hrel
    have HS := Lib.hid hs
    have hyl := hs.1
    rw [HL.out] at hyl
    have HYL := Lib.hid hyl
    have hsz := hbr.size
    by_cases hlt : k < n - 1 - k
    · obtain ⟨jn, hjn⟩ : ∃ jn : Nat, jn = n - 1 - k := ⟨_, rfl⟩
      have hji : (n : Int) - 1 - k = (jn : Int) := by omega
      rw [← hjn] at hlt
      have HJ := Lib.hid hjn
      obtain ⟨x, hx⟩ : ∃ x, ys[k]? = some x := ⟨_, List.getElem?_eq_getElem (by omega)⟩
      obtain ⟨y, hy⟩ : ∃ y, ys[jn]? = some y := ⟨_, List.getElem?_eq_getElem (by omega)⟩
      have c1 := (hown.cellAt k (by omega)).trans (iv_at hx)
      have c2 := (hown.cellAt jn (by omega)).trans (iv_at hy)
      have f1 := hown.frozenAt k
      have f2 := hown.frozenAt jn
      have hkn : k < n := by omega
      have hjn' : jn < n := by omega
      have hne : k ≠ jn := by omega
      have HN := Lib.hid (hs.next (j := jn) (by rw [HL.out]; exact hjn) hlt hx hy)
      rw [hji]
      clear hs hyl hjn hx hy hji
      go_wp2
      go_region
      go_wp2
      go_round
      case rel =>
        have s1 := hown.stored k (.int .i64 y)
        have s2 := s1.1.stored jn (.int .i64 x)
        refine ⟨k + 1, _, by omega, by go_num, ?_, HN.out, ?_, ?_⟩
        · have := HJ.out
          congr 1
          omega
        · have := s2.1
          rw [iv_set, iv_set] at this
          exact this
        · exact ((hbr.setCell (show base ≤ (⟨g, k, none⟩ : Addr).block from hgb.1) _).setCell (show base ≤ (⟨g, jn, none⟩ : Addr).block from hgb.1) _).drew
      case measure => (simp [intOf]; omega)
    · have HD := Lib.hid (hs.done (by rw [HL.out]; omega))
      have hle : ¬ (k : Int) < (n : Int) - 1 - k := by omega
      rw [HD.out] at hown
      clear hs hyl
      go_wp2
      go_returns
      exact ⟨rfl, hown, hbr⟩

/-- the first place of a number, or -1 -/
def idxL (L : List Nat) (x : Nat) : Int := if x ∈ L then (posL L x : Nat) else -1

theorem posL_first : ∀ {L : List Nat} {k x : Nat}, x ∉ L.take k → L[k]? = some x → posL L x = k
  | y :: L, 0, x, _, h => by simp at h; subst h; unfold posL; rw [if_pos rfl]
  | y :: L, k + 1, x, hn, h => by
    rw [List.take_succ_cons, List.mem_cons, not_or] at hn
    unfold posL
    rw [if_neg (fun e => hn.1 e.symm), posL_first hn.2 (by simpa using h)]

set_option maxHeartbeats 1000000 in
theorem wayOrder_any (A : Option Addr) (len cap : Nat) (nx : List (List Int)) (w : World) (hx : RdG w w.heap.size A nx) (hl : nx.length = len) (hc : ckWay nx = 0) :
    Calls Try.prog 23 #[.slice A len cap] w fun e w' => ∃ A' c', e = .returned (.tuple #[.slice A' (finL nx).length c', .int .i64 0]) ∧ RdI w' w'.heap.size A' (ni (finL nx).reverse) ∧ Below w.heap.size w w' := by
  obtain ⟨b1, b2, _⟩ := ckWay_bd hc
  have HC := Lib.hid hc
  have HL := Lib.hid hl
  rw [hl] at b1 b2
  have hfl := fin_len hc
  rw [hl] at hfl
  have hf0 : 0 < (finL nx).length := by
    obtain ⟨p, hp⟩ := fin_last hc
    rw [hp]
    simp
  have hmm : len ≤ maxLen := by unfold maxLen; omega
  clear hc hl
  go_enter Try.func23, Try.ntmps23
  go_wp2_with fail
  refine (wayCheck_any A len cap nx _ hx HL.out hmm).mono ?_
  rintro e w1 ⟨rfl, hb1⟩
  rw [HC.out]
  have hx1 := (hx.below hb1 (Nat.le_refl _)).more hb1.size
  go_wp2_with fail
  refine (wayFin_any A len cap nx 0 _ hx1 HL.out HC.out (by omega)).mono ?_
  rintro e w2 ⟨A2, c2, rfl, hr2, hb2⟩
  rw [fiL_zero] at hr2 ⊢
  obtain ⟨m, hm⟩ : ∃ m, (finL nx).length = m := ⟨_, rfl⟩
  rw [hm] at hr2 hfl hf0
  have HM := Lib.hid hm
  obtain ⟨g, rfl⟩ : ∃ g, A2 = some ⟨g, 0, none⟩ := by
    rcases hr2.2 with ⟨hv, _⟩ | ⟨g, cap', cur, hv, _⟩
    · injection hv with h1 h2 h3
      omega
    · injection hv with h1
      exact ⟨g, h1⟩
  have hs2 := hb2.size
  rw [hm]
  clear hm
  go_wp2_with fail
  refine (reverse_any g m c2 (ni (finL nx)) w1.heap.size w2 hr2 (by simp [ni, HM.out]) hf0 (by omega) hs2).mono ?_
  rintro e w3 ⟨rfl, hr3, hb3⟩
  have he : (ni (finL nx)).reverse = ni (finL nx).reverse := by unfold ni; rw [List.map_reverse]
  rw [he] at hr3
  have hrd := own_rdI hr3 (by simp [ni, HM.out])
  have hbw : Below w.heap.size w w3 := hb1.trans ((hb2.trans hb3).mono hb1.size)
  go_wp2
  go_ret2
  exact ⟨_, c2, by rw [HM.out]; rfl, hrd, hbw⟩

theorem wayOrder_bad (A : Option Addr) (len cap : Nat) (nx : List (List Int)) (w : World) (hx : RdG w w.heap.size A nx) (hl : nx.length = len) (hm : len ≤ maxLen) (hc : ckWay nx ≠ 0) :
    Calls Try.prog 23 #[.slice A len cap] w fun e w' => ∃ A' c', e = .returned (.tuple #[.slice A' 0 c', .int .i64 (ckWay nx)]) ∧ Below w.heap.size w w' := by
  have hne : (ckWay nx != 0) = true := by simp [hc]
  clear hc
  go_enter Try.func23, Try.ntmps23
  go_wp2_with fail
  refine (wayCheck_any A len cap nx _ hx hl hm).mono ?_
  rintro e w1 ⟨rfl, hb1⟩
  go_wp2
  go_ret2
  exact ⟨none, 0, rfl, hb1⟩

end Go.Proofs.Ytfijkkllfbpepaa
