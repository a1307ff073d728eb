/-
  need.Need, need.Code; codemasonlaw.treeCode, codemasonkeep.treed: register need and code of a tree, or the first error (B2).
-/
import Derived.Test.YteogdcjigigeeaaEmit
import Derived.Test.YteogdcjigigeeaaMTerm
import Derived.Test.YteogdcjigigeeaaTermsRef
namespace Go.Proofs.Yteogdcjigigeeaa
open Go.RowKit
set_option linter.unusedSimpArgs false
set_option linter.unusedVariables false
set_option maxRecDepth 100000

/-- B2: the code of a tree -/
def ckTree (vars : Int) (l : List Tm) : Int := if ckTerms vars l = 0 then (if treeB l = true then 0 else 3) else ckTerms vars l

/-- B2: the need of a tree, or 0 -/
def needR (vars : Int) (l : List Tm) : Int := if ckTree vars l = 0 then (ndA l (l.length - 1) : Int) else 0

theorem ckTree_ok {vars : Int} {l : List Tm} (h : ckTree vars l = 0) : ckTerms vars l = 0 ∧ treeB l = true ∧ treeL l := by
  unfold ckTree at h
  split at h
  · split at h
    · exact ⟨by assumption, by assumption, treeB_iff.1 (by assumption)⟩
    · omega
  · exact absurd h (by assumption)

theorem ckTree_of {vars : Int} {l : List Tm} (h : ckTerms vars l = 0) (h' : treeB l = true) : ckTree vars l = 0 := by
  unfold ckTree
  rw [if_pos h, if_pos h']

theorem ckTerms_ge (vars : Int) (l : List Tm) : 0 ≤ ckTerms vars l := by
  have h : ∀ (r : List Tm) (k : Nat), 0 ≤ ckAll vars k r := by
    intro r
    induction r with
    | nil => intro k; simp [ckAll]
    | cons t r ih =>
      intro k
      unfold ckAll
      split
      · exact ih _
      · unfold ckT ckTerm; (repeat' split) <;> omega
  unfold ckTerms
  split
  · omega
  · exact h _ _

set_option maxHeartbeats 1000000 in
theorem need_any (vars : Int) (A : Option Addr) (len cap : Nat) (l : List Tm) (w : World) (hx : RdT w w.heap.size A l) (hl : l.length = len) :
    Calls Try.prog 29 #[.int .i64 vars, .slice A len cap] w fun e w' => e = .returned (.tuple #[.int .i64 (needR vars l), .int .i64 (ckTree vars l)]) ∧ Below w.heap.size w w' := by
  by_cases h1 : ckTerms vars l = 0
  · have HC := Lib.hid h1
    obtain ⟨b1, b2, b3, b4⟩ := ckTerms_bd h1
    rw [hl] at b3 b4
    have HL := Lib.hid hl
    clear hl h1
    by_cases h2 : treeB l = true
    · have e1 : ckTree vars l = 0 := ckTree_of HC.out h2
      have e2 : needR vars l = (ndA l (len - 1) : Int) := by unfold needR; rw [if_pos e1, HL.out]
      rw [e1, e2]
      have H2 := Lib.hid h2
      clear e1 e2 h2
      go_enter Try.func29, Try.ntmps29
      go_wp2_with fail
      refine (check_any vars A len cap l _ hx HL.out).mono ?_
      rintro e w1 ⟨rfl, hb1⟩
      rw [HC.out]
      go_wp2_with fail
      refine (isTree_any vars A len cap l _ ((hx.below hb1 (Nat.le_refl _)).more hb1.size) HL.out HC.out).mono ?_
      rintro e w2 ⟨rfl, hb2⟩
      rw [H2.out]
      have hbw := hb1.trans (hb2.mono hb1.size)
      go_wp2_with fail
      refine (needs2_any vars A len cap l _ ((hx.below hbw (Nat.le_refl _)).more hbw.size) HL.out HC.out).mono ?_
      rintro e w3 ⟨rfl, hown, hb3⟩
      have hcv : (len : Int) - 1 = ((len - 1 : Nat) : Int) := by omega
      have hcc := hown.cell (iv_at (ndL_at (l := l) (i := len - 1) (by rw [HL.out]; omega)))
      go_wp2_with fail
      go_ret2
      exact ⟨rfl, hbw.trans (hb3.mono hbw.size)⟩
    · have e1 : ckTree vars l = 3 := by unfold ckTree; rw [if_pos HC.out, if_neg h2]
      have e2 : needR vars l = 0 := by unfold needR; rw [e1, if_neg (by omega)]
      rw [e1, e2]
      have h2' : treeB l = false := by simpa using h2
      have H2 := Lib.hid h2'
      clear e1 e2 h2 h2'
      go_enter Try.func29, Try.ntmps29
      go_wp2_with fail
      refine (check_any vars A len cap l _ hx HL.out).mono ?_
      rintro e w1 ⟨rfl, hb1⟩
      rw [HC.out]
      go_wp2_with fail
      refine (isTree_any vars A len cap l _ ((hx.below hb1 (Nat.le_refl _)).more hb1.size) HL.out HC.out).mono ?_
      rintro e w2 ⟨rfl, hb2⟩
      rw [H2.out]
      go_wp2_with fail
      go_ret2
      exact ⟨rfl, hb1.trans (hb2.mono hb1.size)⟩
  · have e1 : ckTree vars l = ckTerms vars l := by unfold ckTree; rw [if_neg h1]
    have e2 : needR vars l = 0 := by unfold needR; rw [e1, if_neg h1]
    rw [e1, e2]
    have e3 : (ckTerms vars l != 0) = true := by simp [h1]
    have HL := Lib.hid hl
    clear e1 e2 h1 hl
    go_enter Try.func29, Try.ntmps29
    go_wp2_with fail
    refine (check_any vars A len cap l _ hx HL.out).mono ?_
    rintro e w1 ⟨rfl, hb1⟩
    go_wp2_with fail
    go_ret2
    exact ⟨rfl, hb1⟩

/-- B2: the code of a code -/
def ckCode (vars : Int) (l : List Tm) (regs : Int) : Int :=
  if regs < 1 ∨ 8 < regs then 1 else if ckTree vars l = 0 then (if regs < needR vars l then 5 else 0) else ckTree vars l

theorem ckCode_ok {vars regs : Int} {l : List Tm} (h : ckCode vars l regs = 0) : 1 ≤ regs ∧ regs ≤ 8 ∧ ckTree vars l = 0 ∧ (ndA l (l.length - 1) : Int) ≤ regs := by
  unfold ckCode at h
  split at h
  · omega
  · split at h
    · have ht : ckTree vars l = 0 := by assumption
      split at h
      · omega
      · have e : needR vars l = (ndA l (l.length - 1) : Int) := by unfold needR; rw [if_pos ht]
        omega
    · exact absurd h (by assumption)

/-- steps made by a call -/
def Coded (l : List Tm) (len : Nat) (w : World) (e : Ending) (w' : World) : Prop :=
  ∃ A' c', e = .returned (.tuple #[.slice A' len c', .int .i64 0]) ∧ RdS w' w'.heap.size A' (codeL l) ∧ Below w.heap.size w w'

set_option maxHeartbeats 1000000 in
theorem treeCode_any (vars : Int) (A : Option Addr) (len cap : Nat) (l : List Tm) (w : World) (hx : RdT w w.heap.size A l) (hl : l.length = len) :
    Calls Try.prog 16 #[.int .i64 vars, .slice A len cap] w fun e w' => e = .returned (.int .i64 (ckTree vars l)) ∧ Below w.heap.size w w' := by
  have HL := Lib.hid hl
  clear hl
  by_cases h1 : ckTerms vars l = 0
  · have HC := Lib.hid h1
    have e0 : ckTree vars l = if treeB l = true then 0 else 3 := by unfold ckTree; rw [if_pos h1]
    have HE := Lib.hid e0
    clear h1 e0
    go_enter Try.func16, Try.ntmps16
    go_wp2_with fail
    refine (termsCheck_any vars A len cap l _ hx HL.out).mono ?_
    rintro e w1 ⟨rfl, hb1⟩
    rw [HC.out]
    go_wp2_with fail
    refine (refTree_any vars A len cap l _ ((hx.below hb1 (Nat.le_refl _)).more hb1.size) HL.out HC.out).mono ?_
    rintro e w2 ⟨rfl, hb2⟩
    have hbw := hb1.trans (hb2.mono hb1.size)
    cases htb : treeB l
    all_goals
      go_wp2_with fail
      go_ret
      exact ⟨ret_int (by rw [HE.out, htb]; simp), hbw⟩
  · have e1 : ckTree vars l = ckTerms vars l := by unfold ckTree; rw [if_neg h1]
    rw [e1]
    have e3 : (ckTerms vars l == 0) = false := by simp [h1]
    clear e1 h1
    go_enter Try.func16, Try.ntmps16
    go_wp2_with fail
    refine (termsCheck_any vars A len cap l _ hx HL.out).mono ?_
    rintro e w1 ⟨rfl, hb1⟩
    go_wp2_with fail
    go_ret
    exact ⟨rfl, hb1⟩

end Go.Proofs.Yteogdcjigigeeaa
