/-
  What the laws of package block share: equal lists of lists; codemasonlaw.progCode, codemasonkeep.runs.
-/
import Derived.Test.YtfbpalgeajgbhaaBlockIs
import Derived.Test.YtfbpalgeajgbhaaIntsSame
import Derived.Test.YtfbpalgeajgbhaaTermed
import Derived.Deep.RegionWith
namespace Go.Proofs.Ytfbpalgeajgbhaa
open Go.RowKit Go.ChangeShapes Go.WideShapes Go.ChangeAt Go.Deep
set_option linter.unusedSimpArgs false
set_option linter.unusedVariables false
set_option maxRecDepth 100000

set_option maxHeartbeats 1000000 in
theorem lists_same (A B : Option Addr) (n ca cb : Nat) (nx : List (List Int)) (w : World) (hx : RdG w w.heap.size A nx) (hy : RdG w w.heap.size B nx) (hl : nx.length = n) (hm : n ≤ maxLen) (hrows : ∀ row ∈ nx, row.length ≤ maxLen) :
    Calls Try.prog 21 #[.slice A n ca, .slice B n cb] w fun e w' => e = .returned (.bool true) ∧ Below w.heap.size w w' := by
  unfold maxLen at hm
  have HL := Lib.hid hl
  have HRW := Lib.hid hrows
  clear hl hrows
  go_enter Try.func21, Try.ntmps21
  go_wp2
  go_loopw [5] (fun i wr => ∃ k : Nat, k ≤ n ∧ i = .int .i64 k ∧ Below w.heap.size w wr) (fun i _ => n - (intOf i).toNat)
  case atStart => exact ⟨0, Nat.zero_le _, rfl, Below.refl _ _⟩
  case round =>
    obtain ⟨k, hk, rfl, hb⟩ := hrel
    have hsz := hb.size
    by_cases hlt : k < n
    · obtain ⟨ad, row, Ar, cr, rfl, hbl, hd, hcell, hrow⟩ := (hx.below hb (Nat.le_refl _)).at_ (k := k) (by rw [HL.out]; exact hlt)
      obtain ⟨ad2, row2, Ar2, cr2, rfl, hbl2, hd2, hcell2, hrow2⟩ := (hy.below hb (Nat.le_refl _)).at_ (k := k) (by rw [HL.out]; exact hlt)
      rw [hd] at hd2
      injection hd2 with hd2
      subst hd2
      have hrm := HRW.out row (List.mem_of_getElem? hd)
      obtain ⟨rl, hrl⟩ : ∃ rl, row.length = rl := ⟨_, rfl⟩
      rw [hrl] at hcell hcell2 hrm
      have HRL := Lib.hid hrl
      clear hd hrl
      have HI := Lib.hid (ints_same Ar Ar2 rl cr cr2 row wr.drew (hrow.more hsz) (hrow2.more hsz) HRL.out hrm)
      clear hrow hrow2
      go_wp2
      go_region_with (go_at_call 12; (with_reducible refine HI.out.mono ?_); rintro e w5 ⟨rfl, hb5⟩)
      all_goals
        go_wp2
        go_round
        case rel => exact ⟨k + 1, by omega, by go_num, hb.drew.trans (hb5.mono hsz)⟩
        case measure => (simp [intOf]; omega)
    · go_wp2
      go_ret
      exact ⟨rfl, hb⟩

theorem nxP_len (p : List Bk) : (nxP p).length = p.length := by simp [nxP]

theorem nxP_rows (p : List Bk) : ∀ row ∈ nxP p, row.length ≤ maxLen := fun row hr => by
  obtain ⟨b, _, rfl⟩ := List.mem_map.1 hr
  have := nxB_len b
  unfold maxLen
  omega

set_option maxHeartbeats 1000000 in
theorem progCode_any (vars : Int) (A HA : Option Addr) (len cap hl hcap : Nat) (p : List Bk) (hv : List Int) (w : World) (hx : RdP w w.heap.size A p) (hh : RdI w w.heap.size HA hv) (hlen : p.length = len) (hm : len ≤ maxLen) (hin : ∀ b ∈ p, InBk b) (hhl : hv.length = hl) (hhm : hl ≤ maxLen) :
    Calls Try.prog 24 #[.int .i64 vars, .slice A len cap, .slice HA hl hcap] w fun e w' => e = .returned (.int .i64 (ckGo vars p hv)) ∧ Below w.heap.size w w' := by
  have HIN := Lib.hid hin
  have HL := Lib.hid hlen
  have HHL := Lib.hid hhl
  clear hin hlen hhl
  by_cases h1 : ckProg vars p = 0
  · have e0 : ckGo vars p hv = ckHave vars hv := by unfold ckGo; rw [if_pos h1]
    rw [e0]
    have H1 := Lib.hid h1
    clear h1 e0
    go_enter Try.func24, Try.ntmps24
    go_wp2_with fail
    refine (refProgCheck_any vars A len cap p _ hx HL.out hm HIN.out).mono ?_
    rintro e w1 ⟨rfl, hb1⟩
    rw [H1.out]
    go_wp2_with fail
    refine (haveCheck_any vars HA _ hcap hv _ _ (hh.below hb1 (Nat.le_refl _)) HHL.out hhm).mono ?_
    rintro e w2 ⟨rfl, rfl⟩
    go_wp2_with fail
    go_ret
    exact ⟨rfl, hb1⟩
  · have e0 : ckGo vars p hv = ckProg vars p := by unfold ckGo; rw [if_neg h1]
    rw [e0]
    have e1 : (ckProg vars p == 0) = false := by simp [h1]
    clear h1 e0
    go_enter Try.func24, Try.ntmps24
    go_wp2_with fail
    refine (refProgCheck_any vars A len cap p _ hx HL.out hm HIN.out).mono ?_
    rintro e w1 ⟨rfl, hb1⟩
    go_wp2_with fail
    go_ret
    exact ⟨rfl, hb1⟩

set_option maxHeartbeats 1000000 in
theorem runs_any (vars : Int) (A HA : Option Addr) (len cap hl hcap : Nat) (p : List Bk) (hv : List Int) (w : World) (hx : RdP w w.heap.size A p) (hh : RdI w w.heap.size HA hv) (hlen : p.length = len) (hm : len ≤ maxLen) (hin : ∀ b ∈ p, InBk b) (hhl : hv.length = hl) (hhm : hl ≤ maxLen) :
    Calls Try.prog 26 #[.int .i64 vars, .slice A len cap, .slice HA hl hcap] w fun e w' => e = .returned (.bool (decide (ckGo vars p hv = 0))) ∧ Below w.heap.size w w' := by
  have HIN := Lib.hid hin
  have HL := Lib.hid hlen
  have HHL := Lib.hid hhl
  clear hin hlen hhl
  by_cases h1 : ckProg vars p = 0
  · have e0 : decide (ckGo vars p hv = 0) = (ckHave vars hv == 0) := by unfold ckGo; rw [if_pos h1]; rw [Bool.eq_iff_iff]; simp
    rw [e0]
    have H1 := Lib.hid h1
    clear h1 e0
    go_enter Try.func26, Try.ntmps26
    go_wp2_with fail
    refine (refProgCheck_any vars A len cap p _ hx HL.out hm HIN.out).mono ?_
    rintro e w1 ⟨rfl, hb1⟩
    rw [H1.out]
    go_wp2_with fail
    refine (given_any vars HA _ hcap hv _ _ (hh.below hb1 (Nat.le_refl _)) HHL.out hhm).mono ?_
    rintro e w2 ⟨rfl, rfl⟩
    go_wp2_with fail
    go_ret
    exact ⟨rfl, hb1⟩
  · have e0 : decide (ckGo vars p hv = 0) = false := by unfold ckGo; rw [if_neg h1]; simp [h1]
    rw [e0]
    have e1 : (ckProg vars p == 0) = false := by simp [h1]
    clear h1 e0
    go_enter Try.func26, Try.ntmps26
    go_wp2_with fail
    refine (refProgCheck_any vars A len cap p _ hx HL.out hm HIN.out).mono ?_
    rintro e w1 ⟨rfl, hb1⟩
    go_wp2_with fail
    go_ret
    exact ⟨rfl, hb1⟩

end Go.Proofs.Ytfbpalgeajgbhaa
