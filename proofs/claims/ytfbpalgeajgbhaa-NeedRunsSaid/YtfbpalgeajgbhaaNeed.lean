/-
  need.Need, need.Code; codemasonlaw.treeCode, codemasonkeep.treed: register need and code of a tree, or the first error (B2).
-/
import Derived.Test.YtfbpalgeajgbhaaEmit
import Derived.Test.YtfbpalgeajgbhaaSteps
import Derived.Test.YtfbpalgeajgbhaaTermsRef
namespace Go.Proofs.Ytfbpalgeajgbhaa
open Go.RowKit
set_option linter.unusedSimpArgs false
set_option linter.unusedVariables false
set_option maxRecDepth 100000

/-- B2: the code of a tree -/
def ckTree (vars : Int) (l : List Tm) : Int := if ckTerms vars l = 0 then (if treeB l = true then 0 else 3) else ckTerms vars l

/-- B2: the need of a tree, or 0 -/
def needR (vars : Int) (l : List Tm) : Int := if ckTree vars l = 0 then (ndA l (l.length - 1) : Int) else 0

theorem ckTree_ok {vars : Int} {l : List Tm} (h : ckTree vars l = 0) : ckTerms vars l = 0 ∧ treeB l = true ∧ treeL l := by
  unfold ckTree at h
  split at h
  · split at h
    · exact ⟨by assumption, by assumption, treeB_iff.1 (by assumption)⟩
    · omega
  · exact absurd h (by assumption)

theorem ckTree_of {vars : Int} {l : List Tm} (h : ckTerms vars l = 0) (h' : treeB l = true) : ckTree vars l = 0 := by
  unfold ckTree
  rw [if_pos h, if_pos h']

theorem ckTerms_ge (vars : Int) (l : List Tm) : 0 ≤ ckTerms vars l := by
  have h : ∀ (r : List Tm) (k : Nat), 0 ≤ ckAll vars k r := by
    intro r
    induction r with
    | nil => intro k; simp [ckAll]
    | cons t r ih =>
      intro k
      unfold ckAll
      split
      · exact ih _
      · unfold ckT ckTerm; (repeat' split) <;> omega
  unfold ckTerms
  split
  · omega
  · exact h _ _

set_option maxHeartbeats 1000000 in
theorem need_any (vars : Int) (A : Option Addr) (len cap : Nat) (l : List Tm) (w : World) (hx : RdT w w.heap.size A l) (hl : l.length = len) :
    Calls Try.prog 36 #[.int .i64 vars, .slice A len cap] w fun e w' => e = .returned (.tuple #[.int .i64 (needR vars l), .int .i64 (ckTree vars l)]) ∧ Below w.heap.size w w' := by
  by_cases h1 : ckTerms vars l = 0
  · have HC := Lib.hid h1
    obtain ⟨b1, b2, b3, b4⟩ := ckTerms_bd h1
    rw [hl] at b3 b4
    have HL := Lib.hid hl
    clear hl h1
    by_cases h2 : treeB l = true
    · have e1 : ckTree vars l = 0 := ckTree_of HC.out h2
      have e2 : needR vars l = (ndA l (len - 1) : Int) := by unfold needR; rw [if_pos e1, HL.out]
      rw [e1, e2]
      have H2 := Lib.hid h2
      clear e1 e2 h2
      go_enter Try.func36, Try.ntmps36
      go_wp2_with fail
      refine (check_any vars A len cap l _ hx HL.out).mono ?_
      rintro e w1 ⟨rfl, hb1⟩
      rw [HC.out]
      go_wp2_with fail
      refine (isTree_any vars A len cap l _ ((hx.below hb1 (Nat.le_refl _)).more hb1.size) HL.out HC.out).mono ?_
      rintro e w2 ⟨rfl, hb2⟩
      rw [H2.out]
      have hbw := hb1.trans (hb2.mono hb1.size)
      go_wp2_with fail
      refine (needs2_any vars A len cap l _ ((hx.below hbw (Nat.le_refl _)).more hbw.size) HL.out HC.out).mono ?_
      rintro e w3 ⟨rfl, hown, hb3⟩
      have hcv : (len : Int) - 1 = ((len - 1 : Nat) : Int) := by omega
      have hcc := hown.cell (iv_at (ndL_at (l := l) (i := len - 1) (by rw [HL.out]; omega)))
      go_wp2_with fail
      go_ret2
      exact ⟨rfl, hbw.trans (hb3.mono hbw.size)⟩
    · have e1 : ckTree vars l = 3 := by unfold ckTree; rw [if_pos HC.out, if_neg h2]
      have e2 : needR vars l = 0 := by unfold needR; rw [e1, if_neg (by omega)]
      rw [e1, e2]
      have h2' : treeB l = false := by simpa using h2
      have H2 := Lib.hid h2'
      clear e1 e2 h2 h2'
      go_enter Try.func36, Try.ntmps36
      go_wp2_with fail
      refine (check_any vars A len cap l _ hx HL.out).mono ?_
      rintro e w1 ⟨rfl, hb1⟩
      rw [HC.out]
      go_wp2_with fail
      refine (isTree_any vars A len cap l _ ((hx.below hb1 (Nat.le_refl _)).more hb1.size) HL.out HC.out).mono ?_
      rintro e w2 ⟨rfl, hb2⟩
      rw [H2.out]
      go_wp2_with fail
      go_ret2
      exact ⟨rfl, hb1.trans (hb2.mono hb1.size)⟩
  · have e1 : ckTree vars l = ckTerms vars l := by unfold ckTree; rw [if_neg h1]
    have e2 : needR vars l = 0 := by unfold needR; rw [e1, if_neg h1]
    rw [e1, e2]
    have e3 : (ckTerms vars l != 0) = true := by simp [h1]
    have HL := Lib.hid hl
    clear e1 e2 h1 hl
    go_enter Try.func36, Try.ntmps36
    go_wp2_with fail
    refine (check_any vars A len cap l _ hx HL.out).mono ?_
    rintro e w1 ⟨rfl, hb1⟩
    go_wp2_with fail
    go_ret2
    exact ⟨rfl, hb1⟩

/-- B2: the code of a code -/
def ckCode (vars : Int) (l : List Tm) (regs : Int) : Int :=
  if regs < 1 ∨ 8 < regs then 1 else if ckTree vars l = 0 then (if regs < needR vars l then 5 else 0) else ckTree vars l

set_option maxHeartbeats 1000000 in
theorem code_bad (vars regs : Int) (A : Option Addr) (len cap : Nat) (l : List Tm) (w : World) (hx : RdT w w.heap.size A l) (hl : l.length = len) (hc : ckCode vars l regs ≠ 0) :
    Calls Try.prog 14 #[.int .i64 vars, .slice A len cap, .int .i64 regs] w fun e w' => e = .returned (.tuple #[.slice none 0 0, .int .i64 (ckCode vars l regs)]) ∧ Below w.heap.size w w' := by
  by_cases hr : regs < 1 ∨ 8 < regs
  · have e1 : ckCode vars l regs = 1 := by unfold ckCode; rw [if_pos hr]
    have e2 : decide (1 ≤ regs ∧ regs ≤ 8) = false := by simp; omega
    rw [e1]
    clear hc e1 hr hx hl
    go_enter Try.func14, Try.ntmps14
    go_wp2_with fail
    refine (validCount_any _ _).mono ?_
    rintro e w1 ⟨rfl, rfl⟩
    rw [e2]
    go_wp2_with fail
    go_ret2
    exact ⟨rfl, Below.refl _ _⟩
  · have e2 : decide (1 ≤ regs ∧ regs ≤ 8) = true := by simp; omega
    unfold ckCode at hc ⊢
    rw [if_neg hr] at hc ⊢
    have HL := Lib.hid hl
    clear hr hl
    by_cases ht : ckTree vars l = 0
    · have HT := Lib.hid ht
      rw [if_pos ht] at hc ⊢
      clear ht
      have hn : regs < needR vars l := by
        split at hc
        · assumption
        · omega
      rw [if_pos hn]
      clear hc
      go_enter Try.func14, Try.ntmps14
      go_wp2_with fail
      refine (validCount_any _ _).mono ?_
      rintro e w1 ⟨rfl, rfl⟩
      rw [e2]
      go_wp2_with fail
      refine (need_any vars A len cap l _ hx HL.out).mono ?_
      rintro e w1 ⟨rfl, hb1⟩
      rw [HT.out]
      go_wp2_with fail
      go_ret2
      exact ⟨rfl, hb1⟩
    · rw [if_neg ht] at hc ⊢
      have e1 : (ckTree vars l != 0) = true := by simp [ht]
      clear ht hc
      go_enter Try.func14, Try.ntmps14
      go_wp2_with fail
      refine (validCount_any _ _).mono ?_
      rintro e w1 ⟨rfl, rfl⟩
      rw [e2]
      go_wp2_with fail
      refine (need_any vars A len cap l _ hx HL.out).mono ?_
      rintro e w1 ⟨rfl, hb1⟩
      go_wp2_with fail
      go_ret2
      exact ⟨rfl, hb1⟩

theorem ckCode_ok {vars regs : Int} {l : List Tm} (h : ckCode vars l regs = 0) : 1 ≤ regs ∧ regs ≤ 8 ∧ ckTree vars l = 0 ∧ (ndA l (l.length - 1) : Int) ≤ regs := by
  unfold ckCode at h
  split at h
  · omega
  · split at h
    · have ht : ckTree vars l = 0 := by assumption
      split at h
      · omega
      · have e : needR vars l = (ndA l (l.length - 1) : Int) := by unfold needR; rw [if_pos ht]
        omega
    · exact absurd h (by assumption)

/-- steps made by a call -/
def Coded (l : List Tm) (len : Nat) (w : World) (e : Ending) (w' : World) : Prop :=
  ∃ A' c', e = .returned (.tuple #[.slice A' len c', .int .i64 0]) ∧ RdS w' w'.heap.size A' (codeL l) ∧ Below w.heap.size w w'

set_option maxHeartbeats 1000000 in
theorem code_ok_any (vars regs : Int) (A : Option Addr) (len cap : Nat) (l : List Tm) (w : World) (hx : RdT w w.heap.size A l) (hl : l.length = len) (hc : ckCode vars l regs = 0) :
    Calls Try.prog 14 #[.int .i64 vars, .slice A len cap, .int .i64 regs] w fun e w' => Coded l len w e w' := by
  obtain ⟨hr1, hr2, ht, hn⟩ := ckCode_ok hc
  obtain ⟨hck, _, htl⟩ := ckTree_ok ht
  obtain ⟨b1, b2, b3, b4⟩ := ckTerms_bd hck
  have hnr : ¬ regs < needR vars l := by
    have e : needR vars l = (ndA l (l.length - 1) : Int) := by unfold needR; rw [if_pos ht]
    omega
  have hpos : needR vars l ≤ regs := by omega
  have e2 : decide (1 ≤ regs ∧ regs ≤ 8) = true := by simp; omega
  have HCL : Hid ((emL l (len - 1) 0).length = len) := Lib.hid (by rw [← hl, ← codeL_em b3]; exact code_len hck htl)
  have HCE : Hid (codeL l = [] ++ emL l (len - 1) 0) := Lib.hid (by rw [← hl, ← codeL_em b3, List.nil_append])
  have HT := Lib.hid ht
  have HK := Lib.hid hck
  rw [hl] at b3 b4
  have hcv : (len : Int) - 1 = ((len - 1 : Nat) : Int) := by omega
  have HL := Lib.hid hl
  clear hl hc hn ht hck htl hnr
  go_enter Try.func14, Try.ntmps14
  go_wp2_with fail
  refine (validCount_any _ _).mono ?_
  rintro e w1 ⟨rfl, rfl⟩
  rw [e2]
  go_wp2_with fail
  refine (need_any vars A len cap l _ hx HL.out).mono ?_
  rintro e w1 ⟨rfl, hb1⟩
  rw [HT.out]
  have hx1 := (hx.below hb1 (Nat.le_refl _)).more hb1.size
  go_wp2_with fail
  refine (needs2_any vars A len cap l _ hx1 HL.out HK.out).mono ?_
  rintro e w2 ⟨rfl, hown, hb2⟩
  have hx2 := (hx1.below hb2 (Nat.le_refl _)).more hb2.size
  have hlt := hown.lt
  have hcl := appendCode_any vars A (some ⟨w1.heap.size, 0, none⟩) cap len l HK.out w2.heap.size (len - 1) (by rw [HL.out]; omega) 0 none 0 0 len [] w2 (World.ownsRow_nil _ _ _ _) (Nat.le_refl _) hx2 ((OwnI.rd hown).more (by omega)) HCL.out (by omega) (by omega)
  rw [HL.out] at hcl
  simp only [Nat.zero_add, Int.natCast_zero, Int.ofNat_zero] at hcl
  clear hx hx1 hx2
  go_wp2_with fail
  refine hcl.mono ?_
  clear hcl
  rintro e w3 ⟨A3, c3, rfl, hown3, hg3, hp3⟩
  rw [Nat.zero_add] at hown3 ⊢
  go_wp2_with fail
  go_ret2
  refine ⟨A3, c3, rfl, ?_, hb1.trans ((hb2.mono hb1.size).trans ?_)⟩
  · rw [HCE.out]
    exact own_rdR hown3 (by rw [List.nil_append]; exact HCL.out)
  · exact (own_base (World.ownsRow_nil w2 w2.heap.size 62 5) hg3 (Nat.le_refl _)).mono (Nat.le_trans hb1.size hb2.size)

end Go.Proofs.Ytfbpalgeajgbhaa
