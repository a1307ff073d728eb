/-
  tile.choices, tile.Cost: what they return, for all arguments (W2).
-/
import Derived.Test.YteogdcjigigeeaaTiChos
namespace Go.Proofs.Yteogdcjigigeeaa
open Go.RowKit
set_option linter.unusedSimpArgs false
set_option linter.unusedVariables false
set_option maxRecDepth 100000

set_option maxHeartbeats 1000000 in
theorem choices_ok {vars : Int} (A : Option Addr) (len cap : Nat) (l : List Tm) (w : World) (hx : RdT w w.heap.size A l) (hl : l.length = len) (E : Option Addr) (tn te : Nat) (ts : List Ti) (ht : RdTi w w.heap.size E ts) (htl : ts.length = tn) (hck : ckTl vars l ts = 0) :
    Calls Try.prog 15 #[.int .i64 vars, .slice A len cap, .slice E tn te] w fun e w' => ∃ g, e = .returned (.tuple #[.slice (some ⟨g, 0, none⟩) len len, .int .i64 0]) ∧ w.heap.size ≤ g ∧ OwnCh w' g ((List.range len).map (cho l ts)) ∧ Below w.heap.size w w' := by
  obtain ⟨h1, n, c, h2⟩ := ckTl_ok hck
  refine (choices_loop A len cap l w hx hl E tn te ts ht htl h1).mono ?_
  rintro e w' ⟨g, hg, ho, hb, he⟩
  rw [← hl, h2] at he
  rw [hl] at he
  exact ⟨g, he, hg, ho, hb⟩

set_option maxHeartbeats 1000000 in
theorem choices_no {vars : Int} (A : Option Addr) (len cap : Nat) (l : List Tm) (w : World) (hx : RdT w w.heap.size A l) (hl : l.length = len) (E : Option Addr) (tn te : Nat) (ts : List Ti) (ht : RdTi w w.heap.size E ts) (htl : ts.length = tn) (hck : ckTl vars l ts ≠ 0) :
    Calls Try.prog 15 #[.int .i64 vars, .slice A len cap, .slice E tn te] w fun e w' => e = .returned (.tuple #[.slice none 0 0, .int .i64 (ckTl vars l ts)]) ∧ Below w.heap.size w w' := by
  by_cases h1 : ckTT vars l ts = 0
  · refine (choices_loop A len cap l w hx hl E tn te ts ht htl h1).mono ?_
    rintro e w' ⟨g, hg, ho, hb, he⟩
    unfold ckTl at hck ⊢
    rw [if_pos h1] at hck ⊢
    rw [← hl] at he
    cases hc : cho l ts (l.length - 1) with
    | none =>
      rw [hc] at he
      rw [if_pos rfl]
      exact ⟨he, hb⟩
    | some p =>
      rw [hc, if_neg (by intro h; cases h)] at hck
      exact absurd rfl hck
  · have HE : Hid (ckTl vars l ts = ckTT vars l ts) := Lib.hid (by unfold ckTl; rw [if_neg h1])
    have HCH := Lib.hid (tiCheck_any vars A E len cap tn te l ts w hx hl ht htl)
    have hne : (ckTT vars l ts != 0) = true := by simp [h1]
    clear hx hl ht htl hck h1
    rw [HE.out]
    go_enter Try.func15, Try.ntmps15
    go_wp2_with fail
    refine HCH.out.mono ?_
    rintro e w1 ⟨rfl, hb1⟩
    go_wp2
    go_ret2
    exact ⟨rfl, hb1⟩

/-- what tile.Cost returns beside the code -/
def tcR (vars : Int) (l : List Tm) (ts : List Ti) : Int := if ckTl vars l ts = 0 then (coA l ts (l.length - 1) : Nat) else 0

set_option maxHeartbeats 1000000 in
theorem tileCost_any (vars : Int) (A : Option Addr) (len cap : Nat) (l : List Tm) (w : World) (hx : RdT w w.heap.size A l) (hl : l.length = len) (E : Option Addr) (tn te : Nat) (ts : List Ti) (ht : RdTi w w.heap.size E ts) (htl : ts.length = tn) :
    Calls Try.prog 7 #[.int .i64 vars, .slice A len cap, .slice E tn te] w fun e w' => e = .returned (.tuple #[.int .i64 (tcR vars l ts), .int .i64 (ckTl vars l ts)]) ∧ Below w.heap.size w w' := by
  by_cases hck : ckTl vars l ts = 0
  · obtain ⟨h1, n, c, h2⟩ := ckTl_ok hck
    have hbd := ckTerms_bd (ckTree_ok (ckTT_ok h1).1).1
    have HC := Lib.hid (choices_ok A len cap l w hx hl E tn te ts ht htl hck)
    have HR : Hid (tcR vars l ts = (c : Nat)) := Lib.hid (by unfold tcR; rw [if_pos hck, coA_of h2])
    have HK := Lib.hid hck
    rw [hl] at hbd h2
    have hlast : ((List.range len).map (cho l ts))[len - 1]? = some (some (n, c)) := by rw [List.getElem?_map, List.getElem?_range (by omega), ← h2]; rfl
    have HLAST := Lib.hid hlast
    have hlp : 0 < len := hbd.2.2.1
    have hl16 : len ≤ 16 := hbd.2.2.2
    have hi1 : IntKind.i64.wrap ((len : Int) - 1) = ((len - 1 : Nat) : Int) := by rw [IntKind.wrap_i64]; omega
    have hi2 : ((len : Int) - 1) = ((len - 1 : Nat) : Int) := by omega
    have hi3 : len - 1 < len := by omega
    clear hx hl ht htl hck h1 h2 hbd hlast
    rw [HR.out, HK.out]
    go_enter Try.func7, Try.ntmps7
    go_wp2_with fail
    refine HC.out.mono ?_
    rintro e w1 ⟨g, rfl, hg, ho, hb1⟩
    obtain ⟨u0, u1⟩ := ho.cells HLAST.out rfl
    have hgl := ho.lt
    clear ho
    go_wp2
    go_ret2
    exact ⟨rfl, hb1⟩
  · have HC := Lib.hid (choices_no A len cap l w hx hl E tn te ts ht htl hck)
    have HR : Hid (tcR vars l ts = 0) := Lib.hid (by unfold tcR; rw [if_neg hck])
    have hne : (ckTl vars l ts != 0) = true := by simp [hck]
    clear hx hl ht htl hck
    rw [HR.out]
    go_enter Try.func7, Try.ntmps7
    go_wp2_with fail
    refine HC.out.mono ?_
    rintro e w1 ⟨rfl, hb1⟩
    go_wp2
    go_ret2
    exact ⟨rfl, hb1⟩

end Go.Proofs.Yteogdcjigigeeaa
