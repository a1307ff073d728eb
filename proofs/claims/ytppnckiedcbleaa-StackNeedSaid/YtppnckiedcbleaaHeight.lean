/-
  stack.greatestHeight, stack.check, stack.Deep: stack code checked and measured (C1).
-/
import Derived.Test.YtppnckiedcbleaaStackFace
import Derived.Test.YtppnckiedcbleaaSo
import Derived.Test.YtppnckiedcbleaaTermCk
import Derived.Test.YtppnckiedcbleaaCombine
namespace Go.Proofs.Ytppnckiedcbleaa
open Go.RowKit
set_option linter.unusedSimpArgs false
set_option linter.unusedVariables false
set_option maxRecDepth 100000

/-- the code of stack code that is measured on the way -/
def ckG (vars : Int) (c : List So) : Int := if 40 < c.length then 1 else ckSoF vars 0 c

/-- its greatest height -/
def deepG (vars : Int) (c : List So) : Int := if ckG vars c = 0 then (dpF c 0 0 : Nat) else 0

theorem ckG_deep (c : List So) : ckG (-1) c = ckStack (-1) c := by
  unfold ckG ckStack
  by_cases h : 40 < c.length
  · rw [if_pos h, if_pos (Or.inr h)]
  · rw [if_neg h, if_neg (by omega)]

theorem deepG_deep (c : List So) : deepG (-1) c = deepR c := by unfold deepG deepR; rw [ckG_deep]

theorem ckG_stk {vars : Int} (h0 : 0 ≤ vars) (h6 : vars ≤ 6) (c : List So) : ckG vars c = ckStk vars c := by
  unfold ckG ckStk ckStack
  by_cases h : 40 < c.length
  · rw [if_pos h, if_neg (by omega), if_pos (Or.inr h)]
  · rw [if_neg h, if_neg (by omega), if_neg (by omega)]

/-- what an operation is told by itself, then by the height -/
def ChkSo (vars : Int) (chk : Int → Int → Int) : Prop := ∀ (d : Nat) (o v : Int), (chk o v = 0 → 1 ≤ o ∧ o ≤ 6) ∧ ckSo vars d o v = if chk o v = 0 then (if 3 ≤ o ∧ d < 2 then 5 else 0) else chk o v

theorem chkSo_vars {vars : Int} (h0 : 0 ≤ vars) : ChkSo vars (ckOpn vars) := fun d o v => by
  unfold ckSo ckOpn
  constructor
  · intro h
    (repeat' split at h) <;> omega
  · (repeat' split) <;> omega

theorem chkSo_deep : ChkSo (-1) (fun o _ => ckOpn 1 o 0) := fun d o v => by
  unfold ckSo ckOpn
  constructor
  · intro h
    simp only [] at h
    (repeat' split at h) <;> omega
  · simp only []
    (repeat' split) <;> omega

/-- heights on the way, checked on the way -/
def GhAt (vars : Int) (c : List So) (k d m : Nat) : Prop := ckSoF vars 0 c = ckSoF vars d (c.drop k) ∧ dpF c 0 0 = dpF (c.drop k) d m ∧ d ≤ k ∧ m ≤ k

theorem GhAt.start (vars : Int) (c : List So) : GhAt vars c 0 0 0 := ⟨rfl, rfl, Nat.le_refl _, Nat.le_refl _⟩

section
variable {vars : Int} {c : List So} {k d m : Nat} {o v : Int}
theorem GhAt.stop {e : Int} (h : GhAt vars c k d m) (hl : c.length ≤ 40) (hd : c.drop k = ⟨o, v⟩ :: c.drop (k + 1)) (he : ckSo vars d o v = e) (hne : e ≠ 0) : deepG vars c = 0 ∧ ckG vars c = e := by
  have h1 : ckG vars c = e := by unfold ckG; rw [if_neg (by omega), h.1, hd]; exact (ckSoF_stop he hne).symm
  exact ⟨by unfold deepG; rw [h1, if_neg hne], h1⟩

theorem GhAt.step {d1 m1 : Nat} (h : GhAt vars c k d m) (hd : c.drop k = ⟨o, v⟩ :: c.drop (k + 1)) (hck : ckSo vars d o v = 0) (h1 : d1 = nxD d o) (h2 : m1 = max m d1) : GhAt vars c (k + 1) d1 m1 := by
  obtain ⟨g1, g2, g3, g4⟩ := h
  have hn : nxD d o ≤ k + 1 := by unfold nxD; split <;> omega
  exact ⟨by rw [g1, hd, ckSoF_go hck, h1], by rw [g2, hd, dpF, h2, h1], by omega, by omega⟩

theorem GhAt.done (h : GhAt vars c c.length d m) (hl : c.length ≤ 40) : deepG vars c = m ∧ ckG vars c = 0 := by
  have h1 : ckG vars c = 0 := by unfold ckG; rw [if_neg (by omega), h.1, List.drop_of_length_le (Nat.le_refl _)]; rfl
  refine ⟨?_, h1⟩
  unfold deepG
  rw [h1, if_pos rfl, h.2.1, List.drop_of_length_le (Nat.le_refl _)]
  rfl
end

set_option maxHeartbeats 400000 in
theorem schk_any (vars o v : Int) (p : Addr) (w : World) (hp : w.cell? p = some (.int .i64 vars)) :
    Calls Try.prog 89 #[.agg #[.int .i64 o, .int .i64 v], .pointer (some p)] w fun e w' => e = .returned (.int .i64 (ckOpn vars o v)) ∧ Below w.heap.size w w' := by
  have hpb := World.block_lt_of_cell? w p hp
  go_enter Try.func89, Try.ntmps89
  go_wp2_with (go_at_call 82; (with_reducible refine (checkOp_any vars o v _).mono ?_); rintro e w1 ⟨rfl, hb1⟩)
  go_returns
  exact ⟨rfl, (by go_grown : Below w.heap.size w _).trans (hb1.mono (by simp))⟩

set_option maxHeartbeats 400000 in
theorem dchk_any (o v : Int) (w : World) :
    Calls Try.prog 81 #[.agg #[.int .i64 o, .int .i64 v]] w fun e w' => e = .returned (.int .i64 (ckOpn 1 o 0)) ∧ Below w.heap.size w w' := by
  go_enter Try.func81, Try.ntmps81
  go_wp2_with (go_at_call 82; (with_reducible refine (checkOp_any 1 o 0 _).mono ?_); rintro e w1 ⟨rfl, hb1⟩)
  go_returns
  exact ⟨rfl, (by go_grown : Below w.heap.size w _).trans (hb1.mono (by simp))⟩

set_option maxHeartbeats 4000000 in
theorem greatS_any (vars : Int) (p : Addr) (A : Option Addr) (len cap : Nat) (c : List So) (w : World) (hx : RdO w w.heap.size A c) (hl : c.length = len) (hp : w.cell? p = some (.int .i64 vars)) (hv0 : 0 ≤ vars) :
    Calls Try.prog 80 #[.slice A len cap, .func (.func 89) #[] #[.pointer (some p)]] w fun e w' => e = .returned (.tuple #[.int .i64 (deepG vars c), .int .i64 (ckG vars c)]) ∧ Below w.heap.size w w' := by
  by_cases h40 : 40 < len
  · have e0 : ckG vars c = 1 := by unfold ckG; rw [hl, if_pos h40]
    have e1 : deepG vars c = 0 := by unfold deepG; rw [e0, if_neg (by omega)]
    rw [e0, e1]
    clear e0 e1 hl hx
    have h40' : (40 : Int) < (len : Int) := by omega
    go_enter Try.func80, Try.ntmps80
    go_wp2
    go_ret2
    exact ⟨rfl, Below.refl _ _⟩
  · have h40' : ¬ (40 : Int) < (len : Int) := by omega
    have HL := Lib.hid hl
    have HK := Lib.hid (show ChkSo vars (ckOpn vars) from chkSo_vars hv0)
    have hpb := World.block_lt_of_cell? w p hp
    clear hl
    go_enter Try.func80, Try.ntmps80
    go_wp2
    go_loopw [6, 7, 16] (fun dv mv i wr => ∃ k d m : Nat, k ≤ len ∧ i = .int .i64 k ∧ dv = .int .i64 d ∧ mv = .int .i64 m ∧ d ≤ k ∧ m ≤ k ∧ Hid (GhAt vars c k d m) ∧ Below w.heap.size w wr) (fun _ _ i _ => len - (intOf i).toNat)
    case atStart => exact ⟨0, 0, 0, Nat.zero_le _, rfl, rfl, rfl, Nat.le_refl _, Nat.le_refl _, Lib.hid (GhAt.start _ _), Below.refl _ _⟩
    case round =>
      obtain ⟨k, d, m, hk, rfl, rfl, rfl, hdk, hmk, HR, hb⟩ := hrel
      have hsz := hb.size
      by_cases hlt : k < len
      · obtain ⟨ad, o, v, rfl, hbl, hd, hc0, hc1⟩ := (hx.below hb (Nat.le_refl _)).at_ (k := k) (by rw [HL.out]; exact hlt)
        have HD := Lib.hid (drop_at hd)
        obtain ⟨hop, hcs⟩ := HK.out d o v
        (try simp only [] at hop hcs)
        clear hd
        have HCS := Lib.hid hcs
        clear hcs
        by_cases hz : ckOpn vars o v = 0
        · obtain ⟨ho1, ho6⟩ := hop hz
          have e1 : (ckOpn vars o v != 0) = false := by simp [hz]
          have HZ := Lib.hid hz
          clear hz hop
          by_cases ho : 3 ≤ o
          · have hlf : leafB' o = false := by unfold leafB'; simp; omega
            by_cases hd2 : d < 2
            · have hd2' : (d : Int) < 2 := by omega
              have HS := Lib.hid (HR.out.stop (by rw [HL.out]; omega) HD.out (e := 5) (by rw [HCS.out, if_pos HZ.out, if_pos ⟨ho, hd2⟩]) (by omega))
              go_wp2_with fail
              (with_reducible refine (schk_any vars o v p _ (((by go_grown : Below w.heap.size w _).cell hpb).trans hp)).mono ?_)
              rintro e w1 ⟨rfl, hb1⟩
              have d0 : w1.cell? ⟨wr.heap.size, 0, none⟩ = some (.int .i64 o) := (hb1.cell (p := ⟨wr.heap.size, 0, none⟩) (by simp)).trans (by simp)
              go_wp2_with (go_at_call 76; (with_reducible refine (isLeaf_any _ _).mono ?_); rintro e w2 ⟨rfl, rfl⟩)
              go_ret2
              exact ⟨ret_ii HS.out.1.symm HS.out.2.symm, (by go_grown : Below w.heap.size w _).trans (hb1.mono (by simp; omega))⟩
            · have hd2' : ¬ (d : Int) < 2 := by omega
              have hcv : (d : Int) - 1 = ((d - 1 : Nat) : Int) := by omega
              have HC := Lib.hid (show ckSo vars d o v = 0 by rw [HCS.out, if_pos HZ.out, if_neg (by omega)])
              have HN : Hid (d - 1 = nxD d o) := Lib.hid (by unfold nxD; rw [if_pos ho])
              go_wp2_with fail
              (with_reducible refine (schk_any vars o v p _ (((by go_grown : Below w.heap.size w _).cell hpb).trans hp)).mono ?_)
              rintro e w1 ⟨rfl, hb1⟩
              have d0 : w1.cell? ⟨wr.heap.size, 0, none⟩ = some (.int .i64 o) := (hb1.cell (p := ⟨wr.heap.size, 0, none⟩) (by simp)).trans (by simp)
              go_wp2_with (go_at_call 76; (with_reducible refine (isLeaf_any _ _).mono ?_); rintro e w2 ⟨rfl, rfl⟩)
              go_round
              case rel => exact ⟨k + 1, d - 1, max m (d - 1), by omega, by go_num, by go_num, by go_num, by omega, by omega, Lib.hid (HR.out.step HD.out HC.out HN.out rfl), (by go_grown : Below w.heap.size w _).trans (hb1.mono (by simp; omega))⟩
              case measure => (simp [intOf]; omega)
          · have hlf : leafB' o = true := by unfold leafB'; simp; omega
            have HC := Lib.hid (show ckSo vars d o v = 0 by rw [HCS.out, if_pos HZ.out, if_neg (by omega)])
            have HN : Hid (d + 1 = nxD d o) := Lib.hid (by unfold nxD; rw [if_neg ho])
            go_wp2_with fail
            (with_reducible refine (schk_any vars o v p _ (((by go_grown : Below w.heap.size w _).cell hpb).trans hp)).mono ?_)
            rintro e w1 ⟨rfl, hb1⟩
            have d0 : w1.cell? ⟨wr.heap.size, 0, none⟩ = some (.int .i64 o) := (hb1.cell (p := ⟨wr.heap.size, 0, none⟩) (by simp)).trans (by simp)
            go_wp2_with (go_at_call 76; (with_reducible refine (isLeaf_any _ _).mono ?_); rintro e w2 ⟨rfl, rfl⟩)
            go_round
            case rel => exact ⟨k + 1, d + 1, max m (d + 1), by omega, by go_num, by go_num, by go_num, by omega, by omega, Lib.hid (HR.out.step HD.out HC.out HN.out rfl), (by go_grown : Below w.heap.size w _).trans (hb1.mono (by simp; omega))⟩
            case measure => (simp [intOf]; omega)
        · have e1 : (ckOpn vars o v != 0) = true := by simp [hz]
          have HS := Lib.hid (HR.out.stop (by rw [HL.out]; omega) HD.out (by rw [HCS.out, if_neg hz]) hz)
          clear hz hop
          go_wp2_with fail
          (with_reducible refine (schk_any vars o v p _ (((by go_grown : Below w.heap.size w _).cell hpb).trans hp)).mono ?_)
          rintro e w1 ⟨rfl, hb1⟩
          go_wp2_with fail
          go_ret2
          exact ⟨ret_ii HS.out.1.symm HS.out.2.symm, (by go_grown : Below w.heap.size w _).trans (hb1.mono (by simp; omega))⟩
      · have hkl : k = len := by omega
        subst hkl
        have hq := HR.out
        rw [← HL.out] at hq
        have HM := Lib.hid (hq.done (by rw [HL.out]; omega))
        go_wp2
        go_ret2
        exact ⟨ret_ii HM.out.1.symm HM.out.2.symm, hb⟩

set_option maxHeartbeats 4000000 in
theorem greatD_any (A : Option Addr) (len cap : Nat) (c : List So) (w : World) (hx : RdO w w.heap.size A c) (hl : c.length = len) :
    Calls Try.prog 80 #[.slice A len cap, .func (.func 81) #[] #[]] w fun e w' => e = .returned (.tuple #[.int .i64 (deepG (-1) c), .int .i64 (ckG (-1) c)]) ∧ Below w.heap.size w w' := by
  by_cases h40 : 40 < len
  · have e0 : ckG (-1) c = 1 := by unfold ckG; rw [hl, if_pos h40]
    have e1 : deepG (-1) c = 0 := by unfold deepG; rw [e0, if_neg (by omega)]
    rw [e0, e1]
    clear e0 e1 hl hx
    have h40' : (40 : Int) < (len : Int) := by omega
    go_enter Try.func80, Try.ntmps80
    go_wp2
    go_ret2
    exact ⟨rfl, Below.refl _ _⟩
  · have h40' : ¬ (40 : Int) < (len : Int) := by omega
    have HL := Lib.hid hl
    have HK := Lib.hid (show ChkSo (-1) (fun o _ => ckOpn 1 o 0) from chkSo_deep)
    clear hl
    go_enter Try.func80, Try.ntmps80
    go_wp2
    go_loopw [6, 7, 16] (fun dv mv i wr => ∃ k d m : Nat, k ≤ len ∧ i = .int .i64 k ∧ dv = .int .i64 d ∧ mv = .int .i64 m ∧ d ≤ k ∧ m ≤ k ∧ Hid (GhAt (-1) c k d m) ∧ Below w.heap.size w wr) (fun _ _ i _ => len - (intOf i).toNat)
    case atStart => exact ⟨0, 0, 0, Nat.zero_le _, rfl, rfl, rfl, Nat.le_refl _, Nat.le_refl _, Lib.hid (GhAt.start _ _), Below.refl _ _⟩
    case round =>
      obtain ⟨k, d, m, hk, rfl, rfl, rfl, hdk, hmk, HR, hb⟩ := hrel
      have hsz := hb.size
      by_cases hlt : k < len
      · obtain ⟨ad, o, v, rfl, hbl, hd, hc0, hc1⟩ := (hx.below hb (Nat.le_refl _)).at_ (k := k) (by rw [HL.out]; exact hlt)
        have HD := Lib.hid (drop_at hd)
        obtain ⟨hop, hcs⟩ := HK.out d o v
        (try simp only [] at hop hcs)
        clear hd
        have HCS := Lib.hid hcs
        clear hcs
        by_cases hz : ckOpn 1 o 0 = 0
        · obtain ⟨ho1, ho6⟩ := hop hz
          have e1 : (ckOpn 1 o 0 != 0) = false := by simp [hz]
          have HZ := Lib.hid hz
          clear hz hop
          by_cases ho : 3 ≤ o
          · have hlf : leafB' o = false := by unfold leafB'; simp; omega
            by_cases hd2 : d < 2
            · have hd2' : (d : Int) < 2 := by omega
              have HS := Lib.hid (HR.out.stop (by rw [HL.out]; omega) HD.out (e := 5) (by rw [HCS.out, if_pos HZ.out, if_pos ⟨ho, hd2⟩]) (by omega))
              go_wp2_with fail
              (with_reducible refine (dchk_any o v _).mono ?_)
              rintro e w1 ⟨rfl, hb1⟩
              have d0 : w1.cell? ⟨wr.heap.size, 0, none⟩ = some (.int .i64 o) := (hb1.cell (p := ⟨wr.heap.size, 0, none⟩) (by simp)).trans (by simp)
              go_wp2_with (go_at_call 76; (with_reducible refine (isLeaf_any _ _).mono ?_); rintro e w2 ⟨rfl, rfl⟩)
              go_ret2
              exact ⟨ret_ii HS.out.1.symm HS.out.2.symm, (by go_grown : Below w.heap.size w _).trans (hb1.mono (by simp; omega))⟩
            · have hd2' : ¬ (d : Int) < 2 := by omega
              have hcv : (d : Int) - 1 = ((d - 1 : Nat) : Int) := by omega
              have HC := Lib.hid (show ckSo (-1) d o v = 0 by rw [HCS.out, if_pos HZ.out, if_neg (by omega)])
              have HN : Hid (d - 1 = nxD d o) := Lib.hid (by unfold nxD; rw [if_pos ho])
              go_wp2_with fail
              (with_reducible refine (dchk_any o v _).mono ?_)
              rintro e w1 ⟨rfl, hb1⟩
              have d0 : w1.cell? ⟨wr.heap.size, 0, none⟩ = some (.int .i64 o) := (hb1.cell (p := ⟨wr.heap.size, 0, none⟩) (by simp)).trans (by simp)
              go_wp2_with (go_at_call 76; (with_reducible refine (isLeaf_any _ _).mono ?_); rintro e w2 ⟨rfl, rfl⟩)
              go_round
              case rel => exact ⟨k + 1, d - 1, max m (d - 1), by omega, by go_num, by go_num, by go_num, by omega, by omega, Lib.hid (HR.out.step HD.out HC.out HN.out rfl), (by go_grown : Below w.heap.size w _).trans (hb1.mono (by simp; omega))⟩
              case measure => (simp [intOf]; omega)
          · have hlf : leafB' o = true := by unfold leafB'; simp; omega
            have HC := Lib.hid (show ckSo (-1) d o v = 0 by rw [HCS.out, if_pos HZ.out, if_neg (by omega)])
            have HN : Hid (d + 1 = nxD d o) := Lib.hid (by unfold nxD; rw [if_neg ho])
            go_wp2_with fail
            (with_reducible refine (dchk_any o v _).mono ?_)
            rintro e w1 ⟨rfl, hb1⟩
            have d0 : w1.cell? ⟨wr.heap.size, 0, none⟩ = some (.int .i64 o) := (hb1.cell (p := ⟨wr.heap.size, 0, none⟩) (by simp)).trans (by simp)
            go_wp2_with (go_at_call 76; (with_reducible refine (isLeaf_any _ _).mono ?_); rintro e w2 ⟨rfl, rfl⟩)
            go_round
            case rel => exact ⟨k + 1, d + 1, max m (d + 1), by omega, by go_num, by go_num, by go_num, by omega, by omega, Lib.hid (HR.out.step HD.out HC.out HN.out rfl), (by go_grown : Below w.heap.size w _).trans (hb1.mono (by simp; omega))⟩
            case measure => (simp [intOf]; omega)
        · have e1 : (ckOpn 1 o 0 != 0) = true := by simp [hz]
          have HS := Lib.hid (HR.out.stop (by rw [HL.out]; omega) HD.out (by rw [HCS.out, if_neg hz]) hz)
          clear hz hop
          go_wp2_with fail
          (with_reducible refine (dchk_any o v _).mono ?_)
          rintro e w1 ⟨rfl, hb1⟩
          go_wp2_with fail
          go_ret2
          exact ⟨ret_ii HS.out.1.symm HS.out.2.symm, (by go_grown : Below w.heap.size w _).trans (hb1.mono (by simp; omega))⟩
      · have hkl : k = len := by omega
        subst hkl
        have hq := HR.out
        rw [← HL.out] at hq
        have HM := Lib.hid (hq.done (by rw [HL.out]; omega))
        go_wp2
        go_ret2
        exact ⟨ret_ii HM.out.1.symm HM.out.2.symm, hb⟩

set_option maxHeartbeats 400000 in
theorem scheck_any (vars : Int) (A : Option Addr) (len cap : Nat) (c : List So) (w : World) (hx : RdO w w.heap.size A c) (hl : c.length = len) :
    Calls Try.prog 77 #[.int .i64 vars, .slice A len cap] w fun e w' => e = .returned (.int .i64 (ckStk vars c)) ∧ Below w.heap.size w w' := by
  by_cases hbad : vars < 0 ∨ 6 < vars
  · have e0 : ckStk vars c = 1 := by
      unfold ckStk ckStack
      split
      · rfl
      · rw [if_pos (by omega)]
    rw [e0]
    clear e0 hx hl
    go_enter Try.func77, Try.ntmps77
    go_wp2
    all_goals first
      | (go_ret; exact ⟨rfl, by go_grown⟩)
      | (exfalso; simp_all; omega)
  · have h0 : 0 ≤ vars := by omega
    have h6 : vars ≤ 6 := by omega
    have h0' : ¬ vars < 0 := by omega
    have h6' : ¬ 6 < vars := by omega
    clear hbad
    rw [← ckG_stk h0 h6]
    go_enter Try.func77, Try.ntmps77
    go_wp2_with fail
    refine (greatS_any vars ⟨w.heap.size, 0, none⟩ A len cap c _ ((hx.below (by go_grown : Below w.heap.size w _) (Nat.le_refl _)).more (by simp)) hl (by simp) h0).mono ?_
    rintro e w1 ⟨rfl, hb1⟩
    go_wp2_with fail
    go_ret
    exact ⟨rfl, (by go_grown : Below w.heap.size w _).trans (hb1.mono (by simp))⟩

set_option maxHeartbeats 400000 in
theorem sdeep_any (A : Option Addr) (len cap : Nat) (c : List So) (w : World) (hx : RdO w w.heap.size A c) (hl : c.length = len) :
    Calls Try.prog 56 #[.slice A len cap] w fun e w' => e = .returned (.tuple #[.int .i64 (deepR c), .int .i64 (ckStack (-1) c)]) ∧ Below w.heap.size w w' := by
  rw [← deepG_deep, ← ckG_deep]
  go_enter Try.func56, Try.ntmps56
  go_wp2_with fail
  refine (greatD_any A len cap c _ hx hl).mono ?_
  rintro e w1 ⟨rfl, hb1⟩
  go_wp2_with fail
  go_ret2
  exact ⟨rfl, hb1⟩

end Go.Proofs.Ytppnckiedcbleaa
