/-
  codemasonlaw.codeCode: the code of a block's steps.
-/
import Derived.Test.YtniilhgcgcimgaaMBlkR
namespace Go.Proofs.Ytniilhgcgcimgaa
open Go.RowKit
set_option linter.unusedSimpArgs false
set_option linter.unusedVariables false
set_option maxRecDepth 100000

/-- steps as a program of one block -/
def bkC (code : List St) : Bk := ⟨code, -1, -1, 0⟩

theorem rdP_oneC {X w' : World} {A : Option Addr} {len cap G : Nat} {code : List St} (hG : Own w' G 39 [.slice A len cap, .int .i64 (-1), .int .i64 (-1), .int .i64 0]) (hx : RdS w' w'.heap.size A code) (hl : code.length = len) (hcap : len ≤ cap) : RdP w' w'.heap.size (some ⟨G, 0, none⟩) [bkC code] := fun _ => by
  refine ⟨⟨G, 0, none⟩, rfl, hG.lt, fun k b hk => ?_⟩
  have hk0 : k = 0 := by have := (List.getElem?_eq_some_iff.1 hk).1; simpa using this
  subst hk0
  simp at hk
  subst hk
  have ha : (⟨G, 0, none⟩ : Addr).add (0 * 4) = ⟨G, 0, none⟩ := by unfold Addr.add; simp
  rw [ha]
  exact ⟨A, cap, hx, by rw [show (bkC code).code.length = len from hl]; exact hG.cell (j := 0) rfl, hG.cell (j := 1) rfl, hG.cell (j := 2) rfl, hG.cell (j := 3) rfl, by rw [show (bkC code).code.length = len from hl]; exact hcap⟩

theorem inBk_oneC {code : List St} (h : code.length * 40 ≤ 140737488351232) : ∀ b ∈ [bkC code], InBk b := fun b hb => by
  rw [List.mem_singleton.1 hb]
  exact ⟨h, by unfold inI bkC; simp, by unfold inI bkC; simp, by unfold inI bkC; simp⟩

set_option maxHeartbeats 2000000 in
theorem codeCodeC_any (vars : Int) (A : Option Addr) (len cap : Nat) (code : List St) (w : World) (hx : RdS w w.heap.size A code) (hl : code.length = len) (hcap : len ≤ cap) (hm : len * 40 ≤ 140737488351232) :
    Calls Try.prog 14 #[.int .i64 vars, .slice A len cap] w fun e w' => e = .returned (.int .i64 (ckProg vars [bkC code])) ∧ Below w.heap.size w w' := by
  have HP : Hid (RdP (w.alloc (.cells #[.slice A len cap, .int .i64 (-1), .int .i64 (-1), .int .i64 0] 39)) (w.alloc (.cells #[.slice A len cap, .int .i64 (-1), .int .i64 (-1), .int .i64 0] 39)).heap.size (some ⟨w.heap.size, 0, none⟩) [bkC code]) := Lib.hid (rdP_oneC (X := w) (Own.new w 39 [.slice A len cap, .int .i64 (-1), .int .i64 (-1), .int .i64 0]) ((RdS.below hx (by go_grown : Below w.heap.size w _) (Nat.le_refl _)).more (by simp)) hl hcap)
  have HC := Lib.hid (refProgCheck_any vars (some ⟨w.heap.size, 0, none⟩) 1 1 [bkC code] _ HP.out rfl (by unfold maxLen; omega) (inBk_oneC (by rw [hl]; exact hm)))
  clear hx hl
  go_enter Try.func14, Try.ntmps14
  go_wp2_with (go_at_call 29; (with_reducible refine HC.out.mono ?_); rintro e w1 ⟨rfl, hb1⟩)
  go_ret
  exact ⟨rfl, Below.trans (by go_grown) (hb1.mono (by simp))⟩

/-- steps that are right, and few -/
theorem ckProg_oneC {n : Nat} {code : List St} (h1 : 1 ≤ n) (h6 : n ≤ 6) (hc : ckStepsF n n code = 0) (hl : code.length ≤ 20) : ckProg n [bkC code] = 0 := by
  refine ckProg_of (by omega) (by omega) (by simp) (by simp) (by simp [manyS, bkC]; exact hl) ?_
  simp [ckBks, ckBk, bkC, hc]

end Go.Proofs.Ytniilhgcgcimgaa
