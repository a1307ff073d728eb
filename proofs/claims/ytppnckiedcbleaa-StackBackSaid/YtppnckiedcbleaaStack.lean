/-
  stack.Run, stack.Back: what their callers see (C1, C2).
-/
import Derived.Test.YtppnckiedcbleaaExec
import Derived.Test.YtppnckiedcbleaaStackBack
import Derived.Test.YtppnckiedcbleaaStackCode

namespace Go.Proofs.Ytppnckiedcbleaa
open Go.RowKit
set_option linter.unusedSimpArgs false
set_option linter.unusedVariables false
set_option maxRecDepth 100000

/-- C1: a stack told -/
def SRan (c : List So) (xs : List Int) (w : World) (e : Ending) (w' : World) : Prop :=
  ∃ A' c', e = .returned (.tuple #[.slice A' (stkF xs c []).length c', .int .i64 0]) ∧ RdI w' w'.heap.size A' (stkF xs c []) ∧ Below w.heap.size w w'

set_option maxHeartbeats 1000000 in
theorem srun_ok (vars : Int) (A HA : Option Addr) (len cap hcap : Nat) (c : List So) (xs : List Int) (w : World) (hx : RdO w w.heap.size A c) (hh : RdI w w.heap.size HA xs) (hl : c.length = len) (hc : ckStk vars c = 0) (hv : ckHave vars xs = 0) :
    Calls Try.prog 53 #[.int .i64 vars, .slice A len cap, .slice HA xs.length hcap] w fun e w' => SRan c xs w e w' := by
  obtain ⟨v0, v6, c40, hcf⟩ := ckStk_ok hc
  obtain ⟨hv1, hv2⟩ := ckHave_ok hv
  have hhm : xs.length ≤ maxLen := by unfold maxLen; omega
  have HL := Lib.hid hl
  have HC := Lib.hid hc
  have HF := Lib.hid hcf
  have HV := Lib.hid hv
  rw [hl] at c40
  clear hl hc hv hcf hv1
  go_enter Try.func53, Try.ntmps53
  go_wp2_with fail
  refine (scheck_any vars A len cap c _ ((hx.below (by go_grown : Below w.heap.size w _) (Nat.le_refl _)).more (by simp; omega)) HL.out).mono ?_
  rintro e w1 ⟨rfl, hb1⟩
  rw [HC.out]
  have hB1 : Below w.heap.size w w1 := (by go_grown : Below w.heap.size w _).trans (hb1.mono (by simp; omega))
  have d0 : w1.cell? ⟨w.heap.size, 0, none⟩ = some (.slice A len cap) := (hb1.cell (p := ⟨w.heap.size, 0, none⟩) (by simp; omega)).trans (by simp)
  have d1 : w1.cell? ⟨w.heap.size + 1, 0, none⟩ = some (.slice HA xs.length hcap) := (hb1.cell (p := ⟨w.heap.size + 1, 0, none⟩) (by simp)).trans (by simp)
  have hs1 := hB1.size
  clear hb1
  go_wp2_with fail
  refine (checkHave_any vars HA _ hcap xs _ ((hh.below hB1 (Nat.le_refl _)).more hs1) rfl hhm).mono ?_
  rintro e w2 ⟨rfl, hb2⟩
  rw [HV.out]
  have hB2 : Below w.heap.size w w2 := hB1.trans (hb2.mono hs1)
  have e0 := (hb2.cell (World.block_lt_of_cell? w1 _ d0)).trans d0
  have e1 := (hb2.cell (World.block_lt_of_cell? w1 _ d1)).trans d1
  have hs2 := hB2.size
  clear hb2 d0 d1
  go_wp2_with fail
  refine (execRun_any vars ⟨w.heap.size, 0, none⟩ ⟨w.heap.size + 1, 0, none⟩ A HA len cap hcap c xs _ e0 e1 ((hx.below hB2 (Nat.le_refl _)).more hs2) ((hh.below hB2 (Nat.le_refl _)).more hs2) HL.out v0 c40 HF.out HV.out).mono ?_
  rintro e w3 ⟨A3, c3, rfl, hr3, hb3⟩
  go_wp2_with fail
  go_ret2
  exact ⟨A3, c3, rfl, hr3, hB2.trans (hb3.mono hs2)⟩

set_option maxHeartbeats 1000000 in
theorem srun_bad (vars : Int) (A HA : Option Addr) (len cap hcap : Nat) (c : List So) (xs : List Int) (w : World) (hx : RdO w w.heap.size A c) (hh : RdI w w.heap.size HA xs) (hl : c.length = len) (hhm : xs.length ≤ maxLen) (hc : ckSRun vars c xs ≠ 0) :
    Calls Try.prog 53 #[.int .i64 vars, .slice A len cap, .slice HA xs.length hcap] w fun e w' => e = .returned (.tuple #[.slice none 0 0, .int .i64 (ckSRun vars c xs)]) ∧ Below w.heap.size w w' := by
  have HL := Lib.hid hl
  clear hl
  by_cases hs : ckStk vars c = 0
  · have e2 : ckSRun vars c xs = ckHave vars xs := by unfold ckSRun; rw [if_pos hs]
    rw [e2] at hc ⊢
    have HS := Lib.hid hs
    have e3 : (ckHave vars xs != 0) = true := by simp [hc]
    clear hc e2 hs
    go_enter Try.func53, Try.ntmps53
    go_wp2_with fail
    refine (scheck_any vars A len cap c _ ((hx.below (by go_grown : Below w.heap.size w _) (Nat.le_refl _)).more (by simp; omega)) HL.out).mono ?_
    rintro e w1 ⟨rfl, hb1⟩
    rw [HS.out]
    have hB1 : Below w.heap.size w w1 := (by go_grown : Below w.heap.size w _).trans (hb1.mono (by simp; omega))
    have d0 : w1.cell? ⟨w.heap.size, 0, none⟩ = some (.slice A len cap) := (hb1.cell (p := ⟨w.heap.size, 0, none⟩) (by simp; omega)).trans (by simp)
    have d1 : w1.cell? ⟨w.heap.size + 1, 0, none⟩ = some (.slice HA xs.length hcap) := (hb1.cell (p := ⟨w.heap.size + 1, 0, none⟩) (by simp)).trans (by simp)
    have hs1 := hB1.size
    clear hb1
    go_wp2_with fail
    refine (checkHave_any vars HA _ hcap xs _ ((hh.below hB1 (Nat.le_refl _)).more hs1) rfl hhm).mono ?_
    rintro e w2 ⟨rfl, hb2⟩
    go_wp2_with fail
    go_ret2
    exact ⟨rfl, hB1.trans (hb2.mono hs1)⟩
  · have e2 : ckSRun vars c xs = ckStk vars c := by unfold ckSRun; rw [if_neg hs]
    rw [e2]
    have e3 : (ckStk vars c != 0) = true := by simp [hs]
    clear hc e2 hs
    go_enter Try.func53, Try.ntmps53
    go_wp2_with fail
    refine (scheck_any vars A len cap c _ ((hx.below (by go_grown : Below w.heap.size w _) (Nat.le_refl _)).more (by simp; omega)) HL.out).mono ?_
    rintro e w1 ⟨rfl, hb1⟩
    have hB1 : Below w.heap.size w w1 := (by go_grown : Below w.heap.size w _).trans (hb1.mono (by simp; omega))
    go_wp2_with fail
    go_ret2
    exact ⟨rfl, hB1⟩

/-- C2: terms told -/
def SBacked (c : List So) (len : Nat) (w : World) (e : Ending) (w' : World) : Prop :=
  ∃ A' c', e = .returned (.tuple #[.slice A' len c', .int .i64 0]) ∧ RdT w' w'.heap.size A' (bkL c) ∧ Below w.heap.size w w'

set_option maxHeartbeats 1000000 in
theorem sback_ok (vars : Int) (A : Option Addr) (len cap : Nat) (c : List So) (w : World) (hx : RdO w w.heap.size A c) (hl : c.length = len) (hc : ckBack vars c = 0) :
    Calls Try.prog 58 #[.int .i64 vars, .slice A len cap] w fun e w' => SBacked c len w e w' := by
  obtain ⟨hk, h0, h16, h1⟩ := ckBack_ok hc
  obtain ⟨v0, v6, c40, hcf⟩ := ckStk_ok hk
  have HL := Lib.hid hl
  have HC := Lib.hid hk
  have HF := Lib.hid hcf
  have H1 := Lib.hid h1
  rw [hl] at c40 h0 h16
  have hne : ((len : Int) == 0) = false := by simp; omega
  have hlt : ¬ (16 : Int) < (len : Int) := by omega
  have hmk := make_terms (P := Try.prog) 22 37 Try.underlying22 term_info len (by omega)
  clear hl hc hk hcf h1
  go_enter Try.func58, Try.ntmps58
  go_wp2_with fail
  refine (scheck_any vars A len cap c _ ((hx.below (by go_grown : Below w.heap.size w _) (Nat.le_refl _)).more (by simp)) HL.out).mono ?_
  rintro e w1 ⟨rfl, hb1⟩
  rw [HC.out]
  have hB1 : Below w.heap.size w w1 := (by go_grown : Below w.heap.size w _).trans (hb1.mono (by simp))
  have d0 : w1.cell? ⟨w.heap.size, 0, none⟩ = some (.slice A len cap) := (hb1.cell (p := ⟨w.heap.size, 0, none⟩) (by simp)).trans (by simp)
  have hs1 : w.heap.size < w1.heap.size := World.block_lt_of_cell? w1 _ d0
  clear hb1
  go_wp2_with fail
  refine (execBack_any vars ⟨w.heap.size, 0, none⟩ ⟨w1.heap.size + 1, 0, none⟩ A len cap w1.heap.size c _ ?_ ?_ ?_ HL.out ?_ (by simp only []; omega) (by simp only []; omega) c40 HF.out).mono ?_
  · exact (((by go_grown : Below w1.heap.size w1 _)).cell hs1).trans d0
  · simp
  · exact (hx.below (hB1.trans ((by go_grown : Below w1.heap.size w1 _).mono (by omega))) (Nat.le_refl _)).more (by omega)
  · first | exact (Own.new w1 _ _).alloc _ | exact ((Own.new w1 _ _).alloc _).far (p := ⟨w1.heap.size + 1, 0, none⟩) (by simp) _
  rintro e w2 ⟨A2, c2, rfl, hO, hW⟩
  rw [H1.out]
  have e1 : w2.cell? ⟨w1.heap.size + 1, 0, none⟩ = some (.slice (some ⟨w1.heap.size, 0, none⟩) len len) := (hW.cell (p := ⟨w1.heap.size + 1, 0, none⟩) (by simp) (by simp only []; omega)).trans (by simp)
  have hB2 : Below w.heap.size w w2 := (hB1.trans ((by go_grown : Below w1.heap.size w1 _).mono (by omega))).trans (hW.below (by omega) (by simp; omega))
  go_wp2_with fail
  go_ret2
  exact ⟨some ⟨w1.heap.size, 0, none⟩, len, rfl, (OwnT.rd hO).more hO.lt, hB2⟩

set_option maxHeartbeats 1000000 in
theorem sback_bad (vars : Int) (A : Option Addr) (len cap : Nat) (c : List So) (w : World) (hx : RdO w w.heap.size A c) (hl : c.length = len) (hc : ckBack vars c ≠ 0) :
    Calls Try.prog 58 #[.int .i64 vars, .slice A len cap] w fun e w' => e = .returned (.tuple #[.slice none 0 0, .int .i64 (ckBack vars c)]) ∧ Below w.heap.size w w' := by
  have HL := Lib.hid hl
  by_cases hs : ckStk vars c = 0
  · have HS := Lib.hid hs
    obtain ⟨v0, v6, c40, hcf⟩ := ckStk_ok hs
    by_cases hn : c.length < 1 ∨ 16 < c.length
    · have e2 : ckBack vars c = 1 := by unfold ckBack; rw [if_pos hs, if_pos hn]
      rw [e2]
      rw [hl] at hn
      clear hc e2 hs hcf hl
      rcases hn with hn | hn
      · have hn1 : len = 0 := by omega
        subst hn1
        go_enter Try.func58, Try.ntmps58
        go_wp2_with fail
        refine (scheck_any vars A 0 cap c _ ((hx.below (by go_grown : Below w.heap.size w _) (Nat.le_refl _)).more (by simp)) HL.out).mono ?_
        rintro e w1 ⟨rfl, hb1⟩
        rw [HS.out]
        have hB1 : Below w.heap.size w w1 := (by go_grown : Below w.heap.size w _).trans (hb1.mono (by simp))
        have d0 : w1.cell? ⟨w.heap.size, 0, none⟩ = some (.slice A 0 cap) := (hb1.cell (p := ⟨w.heap.size, 0, none⟩) (by simp)).trans (by simp)
        clear hb1
        go_wp2_with fail
        go_ret2
        exact ⟨rfl, hB1⟩
      · have hne : ((len : Int) == 0) = false := by simp; omega
        have hlt : (16 : Int) < (len : Int) := by omega
        go_enter Try.func58, Try.ntmps58
        go_wp2_with fail
        refine (scheck_any vars A len cap c _ ((hx.below (by go_grown : Below w.heap.size w _) (Nat.le_refl _)).more (by simp)) HL.out).mono ?_
        rintro e w1 ⟨rfl, hb1⟩
        rw [HS.out]
        have hB1 : Below w.heap.size w w1 := (by go_grown : Below w.heap.size w _).trans (hb1.mono (by simp))
        have d0 : w1.cell? ⟨w.heap.size, 0, none⟩ = some (.slice A len cap) := (hb1.cell (p := ⟨w.heap.size, 0, none⟩) (by simp)).trans (by simp)
        clear hb1
        go_wp2_with fail
        go_ret2
        exact ⟨rfl, hB1⟩
    · have hb : (bkR c).length ≠ 1 := fun h => hc (by unfold ckBack; rw [if_pos hs, if_neg hn, if_pos h])
      have e2 : ckBack vars c = 3 := by unfold ckBack; rw [if_pos hs, if_neg hn, if_neg hb]
      rw [e2]
      rw [hl] at hn c40
      have HF := Lib.hid hcf
      have hne : ((len : Int) == 0) = false := by simp; omega
      have hlt : ¬ (16 : Int) < (len : Int) := by omega
      have hmk := make_terms (P := Try.prog) 22 37 Try.underlying22 term_info len (by omega)
      obtain ⟨bn, hbn⟩ : ∃ n, (bkR c).length = n := ⟨_, rfl⟩
      have HBN := Lib.hid hbn
      rw [hbn] at hb
      have hb1' : ((bn : Int) != 1) = true := by simp; omega
      clear hc e2 hs hcf hl hn hb hbn
      go_enter Try.func58, Try.ntmps58
      go_wp2_with fail
      refine (scheck_any vars A len cap c _ ((hx.below (by go_grown : Below w.heap.size w _) (Nat.le_refl _)).more (by simp)) HL.out).mono ?_
      rintro e w1 ⟨rfl, hb1⟩
      rw [HS.out]
      have hB1 : Below w.heap.size w w1 := (by go_grown : Below w.heap.size w _).trans (hb1.mono (by simp))
      have d0 : w1.cell? ⟨w.heap.size, 0, none⟩ = some (.slice A len cap) := (hb1.cell (p := ⟨w.heap.size, 0, none⟩) (by simp)).trans (by simp)
      have hs1 : w.heap.size < w1.heap.size := World.block_lt_of_cell? w1 _ d0
      clear hb1
      go_wp2_with fail
      refine (execBack_any vars ⟨w.heap.size, 0, none⟩ ⟨w1.heap.size + 1, 0, none⟩ A len cap w1.heap.size c _ ?_ ?_ ?_ HL.out ?_ (by simp only []; omega) (by simp only []; omega) c40 HF.out).mono ?_
      · exact (((by go_grown : Below w1.heap.size w1 _)).cell hs1).trans d0
      · simp
      · exact (hx.below (hB1.trans ((by go_grown : Below w1.heap.size w1 _).mono (by omega))) (Nat.le_refl _)).more (by omega)
      · first | exact (Own.new w1 _ _).alloc _ | exact ((Own.new w1 _ _).alloc _).far (p := ⟨w1.heap.size + 1, 0, none⟩) (by simp) _
      rintro e w2 ⟨A2, c2, rfl, hO, hW⟩
      rw [HBN.out]
      have hB2 : Below w.heap.size w w2 := (hB1.trans ((by go_grown : Below w1.heap.size w1 _).mono (by omega))).trans (hW.below (by omega) (by simp; omega))
      go_wp2_with fail
      go_ret2
      exact ⟨rfl, hB2⟩
  · have e2 : ckBack vars c = ckStk vars c := by unfold ckBack; rw [if_neg hs]
    rw [e2]
    have e3 : (ckStk vars c != 0) = true := by simp [hs]
    clear hc e2 hs hl
    go_enter Try.func58, Try.ntmps58
    go_wp2_with fail
    refine (scheck_any vars A len cap c _ ((hx.below (by go_grown : Below w.heap.size w _) (Nat.le_refl _)).more (by simp)) HL.out).mono ?_
    rintro e w1 ⟨rfl, hb1⟩
    have hB1 : Below w.heap.size w w1 := (by go_grown : Below w.heap.size w _).trans (hb1.mono (by simp))
    go_wp2_with fail
    go_ret2
    exact ⟨rfl, hB1⟩

end Go.Proofs.Ytppnckiedcbleaa
