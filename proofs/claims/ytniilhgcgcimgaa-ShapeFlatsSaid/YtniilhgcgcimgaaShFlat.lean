/-
  shape.Flat (U2).
-/
import Derived.Test.YtniilhgcgcimgaaShFlD
import Derived.Test.YtniilhgcgcimgaaShCheck
namespace Go.Proofs.Ytniilhgcgcimgaa
open Go.RowKit
set_option linter.unusedSimpArgs false
set_option linter.unusedVariables false
set_option maxRecDepth 100000

/-- nothing yet -/
theorem flQ_start {B : Nat} {w : World} (hB : B ≤ w.heap.size) : FlQ B w.heap.size (fun b => b = w.heap.size) [] (w.alloc (.cells #[.slice none 0 0] 60)) := by
  refine ⟨none, 0, [], rfl, Own.new w _ [_], World.ownsRow_nil _ _ _ _, fun i q h => by simp at h, hB, by simp [Value.ownBlock], fun i q h => by simp at h, fun i j q q' b _ h => by simp at h, fun b hb => ?_, rfl, fun b h => by simp [Value.ownBlock] at h, fun i q b h => by simp at h⟩
  subst hb
  exact ⟨by simp, hB⟩

/-- what is made reads as a program -/
theorem FlQ.rdP {B g : Nat} {F : Nat → Prop} {p : List Bk} {w : World} (h : FlQ B g F p w) : ∃ A c, Own w g 60 [.slice A p.length c] ∧ RdP w w.heap.size A p := by
  obtain ⟨A, c, qs, rfl, h⟩ := h
  refine ⟨A, c, by rw [List.length_map]; exact h.box, rdP_of_raw (own_rdR h.arr rfl) fun k q hq => ?_⟩
  have hr := h.rows k q hq
  refine ⟨(rdSL_own hr rfl).1, ?_⟩
  rcases hr.2 with ⟨h1, h2⟩ | ⟨k, cap, cur, h1, _, _, h2, _⟩
  · omega
  · unfold rowV at h1
    injection h1 with _ _ h1
    rw [h1]; exact h2

set_option maxHeartbeats 8000000 in
theorem flat_any (n : Nat) (l : Sh) (lo : Nat) (A : Option Addr) (len cap : Nat) (w : World) (hx : RdH w lo w.heap.size l A 0) (hl : l.len = len) (hin : InSh l) (hlen : len * 88 ≤ 140737488351232) (hc : ckShape n l = 0) :
    Calls Try.prog 13 #[.int .i64 n, .slice A len cap] w fun e w' => (∃ A' c', e = .returned (.tuple #[.slice A' (flSh l).length c', .int .i64 0]) ∧ RdP w' w'.heap.size A' (flSh l)) ∧ Below w.heap.size w w' := by
  obtain ⟨n', hn', hn1, hn6, hm8, hs20, _, hcs⟩ := ckShape_ok hc
  obtain rfl : n = n' := by omega
  clear hn'
  have hft : FitSh l := ⟨by omega, by omega⟩
  have HCK := Lib.hid (shapeCheck_any n l lo A len cap w hx hl hin hlen)
  rw [hc] at HCK
  have HNB : Hid (∀ w1 : World, Below w.heap.size w w1 → Calls Try.prog 28 #[.pointer (some ⟨w1.heap.size, 0, none⟩)] (w1.alloc (.cells #[.slice none 0 0] 60)) fun e w' => e = .returned (.int .i64 0) ∧ ∃ F', FlQ w.heap.size w1.heap.size F' [bkO] w' ∧ Below w.heap.size w w') := Lib.hid fun w1 h1 => by
    refine (newBlock_any w.heap.size w1.heap.size _ [] _ (flQ_start h1.size) (by simp)).mono ?_
    rintro e w2 ⟨rfl, F2, h2, h3⟩
    exact ⟨rfl, F2, h2, (below_via h1 (by go_grown)).trans (h3.below (fun b hb => by subst hb; exact h1.size) (by simp; have := h1.size; omega))⟩
  have HAD : Hid (∀ (g : Nat) (F : Nat → Prop) (w2 : World), Below w.heap.size w w2 → FlQ w.heap.size g F [bkO] w2 → Calls Try.prog 27 #[.pointer (some ⟨g, 0, none⟩), .slice A len cap, .int .i64 0] w2 fun e w' => ∃ a, e = .returned (.int .i64 (a : Nat)) ∧ (∃ A' c', Own w' g 60 [.slice A' (flSh l).length c'] ∧ RdP w' w'.heap.size A' (flSh l)) ∧ Below w.heap.size w w') := Lib.hid fun g F w2 h1 h2 => by
    have h := add_any lo w.heap.size g n _ l (Nat.le_refl _) hft hcs A cap w2 F [bkO] 0 (RdH.below h1 (Nat.le_refl _) hx) h2 (by simp) ⟨by simp; omega, by simp [manyS, bkO]; omega⟩
    rw [hl] at h
    refine h.mono ?_
    rintro e w3 ⟨rfl, F3, h3, h4⟩
    exact ⟨_, rfl, h3.rdP, h1.trans (h4.below h2.base.1 h2.base.2.1)⟩
  clear hx hin hlen hc hft hcs hm8 hs20 hl
  go_enter Try.func13, Try.ntmps13
  go_wp2_with (first
    | (go_at_call 7; (with_reducible refine HCK.out.mono ?_); rintro e w1 ⟨rfl, hb1⟩; have HB1 := Lib.hid hb1; clear hb1)
    | (go_at_call 28; (with_reducible refine (HNB.out w1 HB1.out).mono ?_); rintro e w2 ⟨rfl, F2, h2, hb2⟩; have H2 := Lib.hid h2; have HB2 := Lib.hid hb2; clear h2 hb2)
    | (go_at_call 27; (with_reducible refine (HAD.out _ F2 w2 HB2.out H2.out).mono ?_); rintro e w3 ⟨a3, rfl, ⟨A3, c3, hO3, hR3⟩, hb3⟩; have c0 := hO3.cell (j := 0) rfl; have HR3 := Lib.hid hR3; have HB3 := Lib.hid hb3; clear hO3 hR3 hb3))
  go_returns
  exact ⟨⟨A3, c3, rfl, HR3.out⟩, HB3.out⟩

set_option maxHeartbeats 4000000 in
theorem flat_bad (vars : Int) (l : Sh) (lo : Nat) (A : Option Addr) (len cap : Nat) (w : World) (hx : RdH w lo w.heap.size l A 0) (hl : l.len = len) (hin : InSh l) (hlen : len * 88 ≤ 140737488351232) (hc : ckShape vars l ≠ 0) :
    Calls Try.prog 13 #[.int .i64 vars, .slice A len cap] w fun e w' => e = .returned (.tuple #[.slice none 0 0, .int .i64 (ckShape vars l)]) ∧ Below w.heap.size w w' := by
  have HCK := Lib.hid (shapeCheck_any vars l lo A len cap w hx hl hin hlen)
  obtain ⟨c, hce⟩ : ∃ c, ckShape vars l = c := ⟨_, rfl⟩
  rw [hce] at hc HCK ⊢
  have hne : (c != 0) = true := by simp [hc]
  clear hx hin hlen hce hc hl
  go_enter Try.func13, Try.ntmps13
  go_wp2_with (go_at_call 7; (with_reducible refine HCK.out.mono ?_); rintro e w1 ⟨rfl, hb1⟩; have HB1 := Lib.hid hb1; clear hb1)
  go_returns
  exact ⟨rfl, HB1.out⟩

end Go.Proofs.Ytniilhgcgcimgaa
