/-
  The inner closures of hold.Min and hold.Lru: how far (P1).
-/
import Derived.Test.YtjnmohphinldkaaHoldIx
import Derived.Deep.QuietTactic
namespace Go.Proofs.Ytjnmohphinldkaa
open Go.RowKit
set_option linter.unusedSimpArgs false
set_option linter.unusedVariables false
set_option maxRecDepth 100000

theorem below_drewH {B : Nat} {X Y : World} (h : Below B X Y) (q : Nat) : Below B X (Y.drewN q) := ⟨h.os, h.tape, h.output, h.size, h.block⟩

theorem RdI.drop {w : World} {B : Nat} {ad : Addr} {xs : List Int} (h : RdI w B (some ad) xs) (k : Nat) (hk : k < xs.length) : RdI w B (some (ad.add k)) (xs.drop k) := fun _ => by
  obtain ⟨ad', e, hb, hc⟩ := h (by omega)
  injection e with e
  subst e
  refine ⟨ad.add k, rfl, by rw [addr_add_block]; exact hb, fun j hj => ?_⟩
  rw [List.length_drop] at hj
  rw [addr_add_add, hc (k + j) (by omega)]
  simp [ic, List.getD_eq_getElem?_getD, List.getElem?_drop]

theorem RdI.take {w : World} {B : Nat} {A : Option Addr} {xs : List Int} (h : RdI w B A xs) (k : Nat) : RdI w B A (xs.take k) := fun hp => by
  rw [List.length_take] at hp
  obtain ⟨ad', e, hb, hc⟩ := h (by omega)
  refine ⟨ad', e, hb, fun j hj => ?_⟩
  rw [List.length_take] at hj
  rw [hc j (by omega)]
  simp [ic, List.getD_eq_getElem?_getD, List.getElem?_take, show j < k by omega]

set_option maxHeartbeats 1000000 in
theorem minIn_any (g1 g2 len cap now B : Nat) (A : Option Addr) (refs : List Int) (x : Int) (w : World) (hx : RdI w B A refs) (hl : refs.length = len) (hlc : len ≤ cap) (hcm : cap ≤ maxLen) (hn : now < len) (hO1 : Own w g1 22 [.slice A len cap]) (hO2 : Own w g2 3 [.int .i64 now]) :
    Calls Try.prog 23 #[.int .i64 x, .pointer (some ⟨g1, 0, none⟩), .pointer (some ⟨g2, 0, none⟩)] w fun e w' => e = .returned (.int .i64 (nxtA x (refs.drop now) : Nat)) ∧ ∃ q, w' = w.drewN q := by
  have hc1 := hO1.cell (j := 0) rfl
  have hc2 := hO2.cell (j := 0) rfl
  obtain ⟨ad, y, rfl, _, _, _⟩ := hx.at_ (k := now) (by omega)
  have hd := hx.drop now (by omega)
  have hdl : (refs.drop now).length = len - now := by rw [List.length_drop, hl]
  have HU := Lib.hid (fun c => nextUse_any _ _ c _ x B w hd hdl (by omega))
  unfold maxLen at hcm
  have hne : ¬ cap = now := by omega
  obtain ⟨z, hz⟩ : ∃ z, nxtA x (refs.drop now) = z := ⟨_, rfl⟩
  rw [hz] at HU ⊢
  clear hx hl hO1 hO2 hd hdl hz
  go_enter Try.func23, Try.ntmps23
  go_wp2_with (go_at_call 24; (refine (HU.out _).mono ?_); rintro e w1 ⟨rfl, rfl⟩)
  go_ret
  exact ⟨rfl, 0, rfl⟩

set_option maxHeartbeats 1000000 in
theorem lruIn_any (g1 g2 len cap now B : Nat) (A : Option Addr) (refs : List Int) (x : Int) (w : World) (hx : RdI w B A refs) (hl : refs.length = len) (hlc : len ≤ cap) (hcm : cap ≤ maxLen) (hn : now < len) (hin : x ∈ refs.take now) (hO1 : Own w g1 22 [.slice A len cap]) (hO2 : Own w g2 3 [.int .i64 now]) :
    Calls Try.prog 29 #[.int .i64 x, .pointer (some ⟨g2, 0, none⟩), .pointer (some ⟨g1, 0, none⟩)] w fun e w' => e = .returned (.int .i64 (nxtA x (refs.take now).reverse + 1 : Nat)) ∧ ∃ q, w' = w.drewN q := by
  have hc1 := hO1.cell (j := 0) rfl
  have hc2 := hO2.cell (j := 0) rfl
  obtain ⟨ad, y, rfl, _, _, _⟩ := hx.at_ (k := now) (by omega)
  have hd := hx.take now
  have hdl : (refs.take now).length = now := by rw [List.length_take, hl]; omega
  obtain ⟨i, hi⟩ : ∃ i, i + (nxtA x (refs.take now).reverse + 1) = now := by
    obtain ⟨i, h⟩ := List.getElem?_of_mem hin
    have := nxt_lt (List.mem_reverse.2 hin)
    rw [List.length_reverse, hdl] at this
    exact ⟨now - (nxtA x (refs.take now).reverse + 1), by omega⟩
  have HU : Hid (∀ c m, Calls Try.prog 30 #[.slice (some ad) now c, .int .i64 x] (w.drewN m) fun e w' => e = .returned (.int .i64 (i : Nat)) ∧ ∃ q, w' = (w.drewN m).drewN q) := Lib.hid fun c m => by
    refine (lastUse_any _ _ c _ x B (w.drewN m) (hd.below (below_drewH (Below.refl B w) m) (Nat.le_refl _)) hdl (by omega) hin).mono ?_
    rintro e w' ⟨⟨i', rfl, hi'⟩, rfl⟩
    exact ⟨by rw [show i' = i by omega], 0, rfl⟩
  unfold maxLen at hcm
  have hne : ¬ cap = now := by omega
  obtain ⟨z, hz⟩ : ∃ z, nxtA x (refs.take now).reverse + 1 = z := ⟨_, rfl⟩
  rw [hz] at hi ⊢
  have HI := Lib.hid hi
  have hnc : now ≤ cap := by omega
  clear hx hl hO1 hO2 hd hdl hz hi hin
  go_enter Try.func29, Try.ntmps29
  go_wp2
  go_quiet ((go_at_call 30; exact Calls.quiet_of (HU.out _ _)))
  go_wp2
  go_ret
  exact ⟨congrArg Ending.returned (show Value.int .i64 (IntKind.i64.wrap ((now : Int) - (i : Int))) = .int .i64 (z : Int) by
    have hh := HI.out
    rw [IntWalk.i64_in _ ⟨by omega, by omega⟩, show (now : Int) - (i : Int) = (z : Int) by omega]), nq, rfl⟩

end Go.Proofs.Ytjnmohphinldkaa
