/-
  shape.Run (U1).
-/
import Derived.Test.YtniilhgcgcimgaaShRun
import Derived.Test.YtniilhgcgcimgaaShCheck
import Derived.Test.YtniilhgcgcimgaaShShaped
namespace Go.Proofs.Ytniilhgcgcimgaa
open Go.RowKit
set_option linter.unusedSimpArgs false
set_option linter.unusedVariables false
set_option maxRecDepth 100000

/-- what shape.Run answers -/
def RunTo (n : Nat) (r : Option (Nat × List Int)) (e : Ending) (w' : World) : Prop :=
  (∃ x h c, r = some x ∧ e = .returned (.tuple #[.slice (some ⟨h, 0, none⟩) n c, .int .i64 0]) ∧ RdI w' w'.heap.size (some ⟨h, 0, none⟩) x.2) ∨
  (r = none ∧ e = .returned (.tuple #[.slice none 0 0, .int .i64 7]))

theorem RunTo.yes {n : Nat} {x : Nat × List Int} {e : Ending} {w' : World} (h : RunTo n (some x) e w') : ∃ h1 c, e = .returned (.tuple #[.slice (some ⟨h1, 0, none⟩) n c, .int .i64 0]) ∧ RdI w' w'.heap.size (some ⟨h1, 0, none⟩) x.2 := by
  rcases h with ⟨y, h1, c, h2, h3, h4⟩ | ⟨h2, _⟩
  · injection h2 with h2
    subst h2
    exact ⟨h1, c, h3, h4⟩
  · cases h2

theorem RunTo.no {n : Nat} {e : Ending} {w' : World} (h : RunTo n none e w') : e = .returned (.tuple #[.slice none 0 0, .int .i64 7]) := by
  rcases h with ⟨y, h1, c, h2, _⟩ | ⟨_, h2⟩
  · cases h2
  · exact h2

set_option maxHeartbeats 8000000 in
theorem shapeRun_any (n : Nat) (l : Sh) (lo : Nat) (A HA : Option Addr) (len cap hcap : Nat) (hv : List Int) (w : World) (hx : RdH w lo w.heap.size l A 0) (hl : l.len = len) (hin : InSh l) (hlen : len * 88 ≤ 140737488351232) (hh : RdI w w.heap.size HA hv) (hc : ckShape n l = 0) (hk : ckHave n hv = 0) :
    Calls Try.prog 9 #[.int .i64 n, .slice A len cap, .slice HA n hcap] w fun e w' => RunTo n (exSh l 200 hv) e w' ∧ Below w.heap.size w w' := by
  obtain ⟨n', hn', hn1, hn6, hm8, hs20, _, hcs⟩ := ckShape_ok hc
  obtain rfl : n = n' := by omega
  clear hn'
  have hvo := valsOk_of hk
  have HVO := Lib.hid hvo
  have hft : FitSh l := ⟨by omega, by omega⟩
  have HTM := Lib.hid (exSh_tame hcs)
  have HCK := Lib.hid (shapeCheck_any n l lo A len cap w hx hl hin hlen)
  rw [hc] at HCK
  have HHC := Lib.hid (fun (Z : World) (hZ : Below w.heap.size w Z) => checkHave_any n HA n hcap hv Z (hh.up hZ) hvo.1 (by unfold maxLen; omega))
  rw [hk] at HHC
  have HCN := Lib.hid (fun (Z : World) (hZ : Below w.heap.size w Z) => clone_any HA n hcap hv Z (hh.up hZ) hvo.1 hn1 (by omega))
  have HEX := Lib.hid (fun (g h c : Nat) (Z : World) (hZ : Below w.heap.size w Z) (hr : RnS w.heap.size n g h c 0 hv Z) => by
    have := execute_any lo w.heap.size n g h c (by omega) _ l (Nat.le_refl _) hft hcs A cap 200 hv Z (RdH.below hZ (Nat.le_refl _) hx) hr hvo (Nat.le_refl _)
    rw [hl] at this
    exact this)
  clear hx hin hlen hh hc hk hvo hft hcs hm8 hs20 hl
  go_enter Try.func9, Try.ntmps9
  go_wp2_with fail
  (with_reducible refine HCK.out.mono ?_)
  rintro e w1 ⟨rfl, hb1⟩
  have HB1 := Lib.hid hb1
  clear hb1
  go_wp2_with fail
  (with_reducible refine (HHC.out _ HB1.out).mono ?_)
  rintro e w2 ⟨rfl, hb2⟩
  have HB2 := Lib.hid (below_via HB1.out hb2)
  clear hb2
  go_wp2_with fail
  (with_reducible refine (HCN.out _ HB2.out).mono ?_)
  rintro e w3 ⟨h, c, rfl, hown, hb3⟩
  have HB3 := Lib.hid (below_via HB2.out hb3)
  have HRN : Hid (RnS w.heap.size n w3.heap.size h c 0 hv (w3.alloc (.cells #[.slice (some ⟨h, 0, none⟩) n c, .int .i64 0] 53))) := Lib.hid ⟨Own.new w3 _ _, (own_mono hown (HB2.out.size)).alloc _, by have := (hown.lt h rfl).2; omega, HB3.out.size⟩
  have HB4 : Hid (Below w.heap.size w (w3.alloc (.cells #[.slice (some ⟨h, 0, none⟩) n c, .int .i64 0] 53))) := Lib.hid (below_via HB3.out (by go_grown))
  have HCA := Lib.hid (HEX.out _ h c _ HB4.out HRN.out)
  have HLO := Lib.hid (show w.heap.size ≤ w3.heap.size ∧ w.heap.size ≤ h from ⟨HB3.out.size, by have := (hown.lt h rfl).1; have := HB2.out.size; omega⟩)
  clear hown hb3
  cases hy : exSh l 200 hv with
  | none =>
    rw [hy] at HCA
    have HHY := Lib.hid hy
    clear hy
    go_wp2_with (go_at_call 24; (with_reducible refine HCA.out.mono ?_); rintro e w7 hex; obtain ⟨rfl, hk7⟩ := hex.no; have HK7 := Lib.hid hk7; clear hk7 hex)
    go_returns
    exact ⟨.inr ⟨HHY.out, rfl⟩, HB4.out.trans (HK7.out.below HLO.out.1 HLO.out.2 HB4.out.size)⟩
  | some y =>
    rw [hy] at HCA
    have HY2 := Lib.hid (HTM.out 200 hv y HVO.out hy)
    have HHY := Lib.hid hy
    clear hy
    go_wp2_with (go_at_call 24; (with_reducible refine HCA.out.mono ?_); rintro e w7 hex; obtain ⟨rfl, hy7, hr7, hk7⟩ := hex.yes; have HK7 := Lib.hid hk7; have HR7 := Lib.hid hr7; have d0 := HR7.out.box.cell (j := 0) rfl; clear hk7 hr7 hex)
    go_returns
    exact ⟨.inl ⟨y, h, c, HHY.out, rfl, HR7.out.vals HY2.out.2.1⟩, HB4.out.trans (HK7.out.below HLO.out.1 HLO.out.2 HB4.out.size)⟩

set_option maxHeartbeats 4000000 in
theorem shapeRun_bad (vars : Int) (l : Sh) (lo : Nat) (A HA : Option Addr) (len cap hl hcap : Nat) (hv : List Int) (w : World) (hx : RdH w lo w.heap.size l A 0) (hll : l.len = len) (hin : InSh l) (hlen : len * 88 ≤ 140737488351232) (hh : RdI w w.heap.size HA hv) (hhl : hv.length = hl) (hhm : hl ≤ maxLen) (hc : ckShRun vars l hv ≠ 0) :
    Calls Try.prog 9 #[.int .i64 vars, .slice A len cap, .slice HA hl hcap] w fun e w' => e = .returned (.tuple #[.slice none 0 0, .int .i64 (ckShRun vars l hv)]) ∧ Below w.heap.size w w' := by
  have HCK := Lib.hid (shapeCheck_any vars l lo A len cap w hx hll hin hlen)
  have HHC := Lib.hid (fun (Z : World) (hZ : Below w.heap.size w Z) => checkHave_any vars HA hl hcap hv Z (hh.up hZ) hhl hhm)
  unfold ckShRun at hc ⊢
  by_cases h0 : ckShape vars l = 0
  · rw [if_pos h0] at hc ⊢
    rw [h0] at HCK
    obtain ⟨c, hce⟩ : ∃ c, ckHave vars hv = c := ⟨_, rfl⟩
    rw [hce] at hc HHC ⊢
    have hne : (c != 0) = true := by simp [hc]
    clear hx hin hlen hh h0 hce hc hll
    go_enter Try.func9, Try.ntmps9
    go_wp2_with (first
      | (go_at_call 7; (with_reducible refine HCK.out.mono ?_); rintro e w1 ⟨rfl, hb1⟩; have HB1 := Lib.hid hb1; clear hb1)
      | (go_at_call 22; (with_reducible refine (HHC.out _ HB1.out).mono ?_); rintro e w2 ⟨rfl, hb2⟩; have HB2 := Lib.hid (below_via HB1.out hb2); clear hb2))
    go_returns
    exact ⟨rfl, HB2.out⟩
  · rw [if_neg h0] at hc ⊢
    obtain ⟨c, hce⟩ : ∃ c, ckShape vars l = c := ⟨_, rfl⟩
    rw [hce] at hc HCK ⊢
    have hne : (c != 0) = true := by simp [hc]
    clear hx hin hlen hh h0 hce hc hll
    go_enter Try.func9, Try.ntmps9
    go_wp2_with (go_at_call 7; (with_reducible refine HCK.out.mono ?_); rintro e w1 ⟨rfl, hb1⟩; have HB1 := Lib.hid hb1; clear hb1)
    go_returns
    exact ⟨rfl, HB1.out⟩

end Go.Proofs.Ytniilhgcgcimgaa
