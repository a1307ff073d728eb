/-
  Package block's functions do what the document says (J1, J2).
-/
import Derived.Test.YthgilekhohadoaaBlockRun
import Derived.Test.YthgilekhohadoaaBlockWay
namespace Go.Proofs.Ythgilekhohadoaa
open Go.RowKit
set_option linter.unusedSimpArgs false
set_option linter.unusedVariables false
set_option maxRecDepth 100000

set_option maxHeartbeats 4000000 in
theorem blockWay_bad (vars : Int) (A : Option Addr) (len cap : Nat) (p : List Bk) (w : World) (hx : RdP w w.heap.size A p) (hl : p.length = len) (hm : len ≤ maxLen) (hin : ∀ b ∈ p, InBk b) (hc : ckProg vars p ≠ 0) :
    Calls Try.prog 38 #[.int .i64 vars, .slice A len cap] w fun e w' => ∃ A' c', e = .returned (.tuple #[.slice A' 0 c', .int .i64 (ckProg vars p)]) ∧ Below w.heap.size w w' := by
  have HCK := Lib.hid (blockCheck_any vars A len cap p w hx hl hm (CodeFits.of_in hin))
  have e1 : (ckProg vars p != 0) = true := by simp [hc]
  clear hx hl hin hc
  go_enter Try.func38, Try.ntmps38
  go_wp2_with (go_at_call 33; (with_reducible refine HCK.out.mono ?_); rintro e w1 ⟨rfl, hb1⟩)
  go_returns
  exact ⟨_, _, rfl, hb1⟩

set_option maxHeartbeats 4000000 in
theorem blockRun_bad (vars : Int) (A HA : Option Addr) (len cap hl hcap : Nat) (p : List Bk) (hv : List Int) (w : World) (hx : RdP w w.heap.size A p) (hh : RdI w w.heap.size HA hv) (hpl : p.length = len) (hm : len ≤ maxLen) (hin : ∀ b ∈ p, InBk b) (hhl : hv.length = hl) (hhm : hl ≤ maxLen) (hc : ckGo vars p hv ≠ 0) :
    Calls Try.prog 18 #[.int .i64 vars, .slice A len cap, .slice HA hl hcap] w fun e w' => ∃ A1 A2 c1 c2, e = .returned (.tuple #[.slice A1 0 c1, .slice A2 0 c2, .int .i64 (ckGo vars p hv)]) ∧ Below w.heap.size w w' := by
  have HCK := Lib.hid (blockCheck_any vars A len cap p w hx hpl hm (CodeFits.of_in hin))
  unfold ckGo at hc ⊢
  by_cases h0 : ckProg vars p = 0
  · rw [if_pos h0] at hc ⊢
    rw [h0] at HCK
    have e2 : (ckHave vars hv != 0) = true := by simp [hc]
    clear hx hin hc h0
    go_enter Try.func18, Try.ntmps18
    go_wp2_with fail
    (with_reducible refine HCK.out.mono ?_)
    rintro e w1 ⟨rfl, hb1⟩
    go_wp2_with fail
    refine (checkHave_any vars HA hl hcap hv _ ((hh.below hb1 (Nat.le_refl _)).more hb1.size) hhl hhm).mono ?_
    rintro e w2 ⟨rfl, hb2⟩
    go_wp2_with fail
    go_returns
    exact ⟨_, _, _, _, rfl, hb1.trans (hb2.mono hb1.size)⟩
  · rw [if_neg h0] at hc ⊢
    have e1 : (ckProg vars p != 0) = true := by simp [h0]
    clear hx hin hc h0 hh
    go_enter Try.func18, Try.ntmps18
    go_wp2_with (go_at_call 33; (with_reducible refine HCK.out.mono ?_); rintro e w1 ⟨rfl, hb1⟩)
    go_returns
    exact ⟨_, _, _, _, rfl, hb1⟩

theorem goIs : GoIs := ⟨fun n A HA len cap hcap p hv w hx hh hl hc hok => blockRun_any n A HA len cap hcap p hv w hx hh hl hc hok⟩

theorem blockIs : BlockIs where
  check := fun vars A len cap p w hx hl hm hin => blockCheck_any vars A len cap p w hx hl hm (CodeFits.of_in hin)
  way := fun n A len cap p w hx hl hc => blockWay_any n A len cap p w hx hl hc
  wayBad := fun vars A len cap p w hx hl hm hin hc => blockWay_bad vars A len cap p w hx hl hm hin hc
  run := fun n A HA len cap hcap p hv w hx hh hl hc hok => blockRun_any n A HA len cap hcap p hv w hx hh hl hc hok
  runBad := fun vars A HA len cap hl hcap p hv w hx hh hpl hm hin hhl hhm hc => blockRun_bad vars A HA len cap hl hcap p hv w hx hh hpl hm hin hhl hhm hc

end Go.Proofs.Ythgilekhohadoaa
