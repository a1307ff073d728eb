/-
  slices.Reverse, slices.Index at ints; way.Reach, way.Order (E1, E2).
-/
import Derived.Test.YtmbabbdcijgnoaaWayCheck
import Derived.Test.YtmbabbdcijgnoaaWayFin
namespace Go.Proofs.Ytmbabbdcijgnoaa
open Go.RowKit
set_option linter.unusedSimpArgs false
set_option linter.unusedVariables false
set_option maxRecDepth 100000

/-- k swaps from both ends -/
def SwK (xs : List Int) (k : Nat) (ys : List Int) : Prop := ys.length = xs.length ∧ ∀ p, p < xs.length → ys[p]? = if p < k ∨ xs.length - 1 - k < p then xs[xs.length - 1 - p]? else xs[p]?

theorem SwK.zero (xs : List Int) : SwK xs 0 xs := ⟨rfl, fun p hp => by rw [if_neg (by omega)]⟩

theorem SwK.next {xs ys : List Int} {k j : Nat} (h : SwK xs k ys) (hj : j = xs.length - 1 - k) (hk : k < j) {x y : Int} (hx : ys[k]? = some x) (hy : ys[j]? = some y) : SwK xs (k + 1) ((ys.set k y).set j x) := by
  obtain ⟨h1, h2⟩ := h
  refine ⟨by simp [h1], fun p hp => ?_⟩
  have hk2 := h2 k (by omega)
  have hj2 := h2 j (by omega)
  rw [if_neg (by omega)] at hk2 hj2
  rw [List.getElem?_set, List.getElem?_set]
  by_cases e1 : j = p
  · subst e1
    rw [if_pos rfl, if_pos (by simp [h1]; omega), if_pos (by omega), show xs.length - 1 - j = k by omega, ← hk2, hx]
  · rw [if_neg e1]
    by_cases e2 : k = p
    · subst e2
      rw [if_pos rfl, if_pos (by omega), if_pos (by omega), ← hj, ← hj2, hy]
    · rw [if_neg e2, h2 p hp]
      by_cases e3 : p < k ∨ xs.length - 1 - k < p
      · rw [if_pos e3, if_pos (by omega)]
      · rw [if_neg e3, if_neg (by omega)]

theorem SwK.done {xs ys : List Int} {k : Nat} (h : SwK xs k ys) (hk : xs.length - 1 - k ≤ k) : ys = xs.reverse := by
  obtain ⟨h1, h2⟩ := h
  apply List.ext_getElem?
  intro p
  rcases Nat.lt_or_ge p xs.length with hp | hp
  · rw [h2 p hp, List.getElem?_reverse hp]
    split
    · rfl
    · rw [show xs.length - 1 - p = p by omega]
  · rw [List.getElem?_eq_none (by omega), List.getElem?_eq_none (by simp; omega)]

/-- the first place of a number, or -1 -/
def idxL (L : List Nat) (x : Nat) : Int := if x ∈ L then (posL L x : Nat) else -1

theorem posL_first : ∀ {L : List Nat} {k x : Nat}, x ∉ L.take k → L[k]? = some x → posL L x = k
  | y :: L, 0, x, _, h => by simp at h; subst h; unfold posL; rw [if_pos rfl]
  | y :: L, k + 1, x, hn, h => by
    rw [List.take_succ_cons, List.mem_cons, not_or] at hn
    unfold posL
    rw [if_neg (fun e => hn.1 e.symm), posL_first hn.2 (by simpa using h)]

set_option maxHeartbeats 1000000 in
theorem wayReach_any (A : Option Addr) (len cap : Nat) (nx : List (List Int)) (w : World) (hx : RdG w w.heap.size A nx) (hl : nx.length = len) (hm : len ≤ maxLen) :
    Calls Try.prog 18 #[.slice A len cap] w fun e w' => e = .returned (.tuple #[.int .u32 (reachW nx : Nat), .int .i64 (ckWay nx)]) ∧ Below w.heap.size w w' := by
  by_cases hc : ckWay nx = 0
  · have hrw : reachW nx = setW (fiL nx 0) := by unfold reachW; rw [if_pos hc, fiL_zero]
    obtain ⟨b1, b2, _⟩ := ckWay_bd hc
    have HC := Lib.hid hc
    have HR := Lib.hid hrw
    have HL := Lib.hid hl
    rw [hl] at b1 b2
    have hfl := fi_len hc (i := 0) (by rw [hl]; omega)
    rw [hl] at hfl
    have HLT : Hid (∀ x ∈ fiL nx 0, x < 32) := Lib.hid fun x hx => by have := fi_lt hc (i := 0) (by rw [hl]; omega) hx; omega
    clear hc hrw hl
    go_enter Try.func18, Try.ntmps18
    go_wp2_with fail
    refine (wayCheck_any A len cap nx _ hx HL.out hm).mono ?_
    rintro e w1 ⟨rfl, hb1⟩
    rw [HC.out]
    have hx1 := (hx.below hb1 (Nat.le_refl _)).more hb1.size
    go_wp2_with fail
    refine (wayFin_any A len cap nx 0 _ hx1 HL.out HC.out (by omega)).mono ?_
    rintro e w2 ⟨A2, c2, rfl, hr2, hb2⟩
    go_wp2_with fail
    refine (waySetOf_any A2 _ c2 (fiL nx 0) _ _ (own_rdI hr2 (by simp [ni])) rfl HLT.out (by omega)).mono ?_
    rintro e w3 ⟨rfl, rfl⟩
    go_wp2
    go_ret2
    exact ⟨by rw [HR.out, HC.out]; rfl, hb1.trans (hb2.mono hb1.size)⟩
  · have hrw : reachW nx = 0 := by unfold reachW; rw [if_neg hc]
    have HR := Lib.hid hrw
    have hne : (ckWay nx != 0) = true := by simp [hc]
    clear hc hrw
    go_enter Try.func18, Try.ntmps18
    go_wp2_with fail
    refine (wayCheck_any A len cap nx _ hx hl hm).mono ?_
    rintro e w1 ⟨rfl, hb1⟩
    go_wp2
    go_ret2
    exact ⟨by rw [HR.out]; rfl, hb1⟩

end Go.Proofs.Ytmbabbdcijgnoaa
