/-
  Stack code as cells; codemasonref.StackCheck, codemasonlaw.stackCode (C1).
-/
import Derived.Test.YtppnckiedcbleaaPureStack
import Derived.Test.YtppnckiedcbleaaRec
import Derived.Test.YtppnckiedcbleaaInside
import Derived.Test.YtppnckiedcbleaaOpen
namespace Go.Proofs.Ytppnckiedcbleaa
open Go.RowKit
set_option linter.unusedSimpArgs false
set_option linter.unusedVariables false
set_option maxRecDepth 100000

def cSo (s : So) : List Value := [.int .i64 s.op, .int .i64 s.v]

theorem cSo_len (s : So) : (cSo s).length = 2 := rfl

theorem cSo_one (s : So) : ∀ u ∈ cSo s, u.oneCell' = true := fun u hu => by
  simp [cSo] at hu
  rcases hu with rfl | rfl <;> rfl

/-- a slice of stack operations -/
def RdO (w : World) (B : Nat) (A : Option Addr) (l : List So) : Prop := RdR cSo w B A 2 l

theorem RdO.below {w w' : World} {B B' : Nat} {A : Option Addr} {l : List So} (h : RdO w B A l) (hb : Below B' w w') (hB : B ≤ B') : RdO w' B A l := Rd.below h hb hB

theorem RdO.more {w : World} {B B' : Nat} {A : Option Addr} {l : List So} (h : RdO w B A l) (hB : B ≤ B') : RdO w B' A l := Rd.more h hB

theorem RdO.at_ {w : World} {B : Nat} {A : Option Addr} {l : List So} {k : Nat} (h : RdO w B A l) (hk : k < l.length) :
    ∃ (ad : Addr) (o v : Int), A = some ad ∧ (ad.add (k * 2)).block < B ∧ l[k]? = some ⟨o, v⟩ ∧ w.cell? (ad.add (k * 2)) = some (.int .i64 o) ∧
      w.cell? ⟨(ad.add (k * 2)).block, (ad.add (k * 2)).off + 1, none⟩ = some (.int .i64 v) := by
  obtain ⟨ad, x, hA, hb, hx, hc⟩ := RdR.cell cSo_len (by omega) h hk
  exact ⟨ad, x.op, x.v, hA, hb, hx, hc 0 _ rfl, hc 1 _ rfl⟩

set_option maxHeartbeats 2000000 in
theorem stackCheck_any (vars : Int) (A : Option Addr) (len cap : Nat) (c : List So) (w : World) (hx : RdO w w.heap.size A c) (hl : c.length = len) :
    Calls Try.prog 57 #[.int .i64 vars, .slice A len cap] w fun e w' => e = .returned (.int .i64 (ckStack vars c)) ∧ Below w.heap.size w w' := by
  by_cases hbad : 6 < vars ∨ 40 < len
  · have hf : ckStack vars c = 1 := by unfold ckStack; rw [hl, if_pos hbad]
    rw [hf]
    clear hf hx hl
    go_enter Try.func57, Try.ntmps57
    go_wp2
    all_goals first
      | (go_ret; exact ⟨rfl, by go_grown⟩)
      | (exfalso; simp_all; omega)
  · have hf : ckStack vars c = ckSoF vars 0 c := by unfold ckStack; rw [hl, if_neg hbad]
    rw [hf]
    clear hf
    have h2 : vars ≤ 6 := by omega
    have h3 : len ≤ 40 := by omega
    clear hbad
    have HL := Lib.hid hl
    clear hl
    go_enter Try.func57, Try.ntmps57
    go_wp2
    go_loopw [5, 17] (fun d i wr => ∃ k m : Nat, k ≤ len ∧ m ≤ k ∧ i = .int .i64 k ∧ d = .int .i64 m ∧ Hid (ckSoF vars 0 c = ckSoF vars m (c.drop k)) ∧ Below w.heap.size w wr) (fun _ i _ => len - (intOf i).toNat)
    case atStart => exact ⟨0, 0, Nat.zero_le _, Nat.le_refl _, rfl, rfl, Lib.hid rfl, Below.refl _ _⟩
    case round =>
      obtain ⟨k, m, hk, hmk, rfl, rfl, HR, hb⟩ := hrel
      by_cases hlt : k < len
      · obtain ⟨ad, o, v, rfl, hbl, hd, hc0, hc1⟩ := (hx.below hb (Nat.le_refl _)).at_ (k := k) (by rw [HL.out]; exact hlt)
        have HD := Lib.hid (drop_at hd)
        clear hd
        have hsz := hb.size
        go_wp2_with (first
          | (go_at_call 35; (with_reducible refine (refValue_any _ _).mono ?_); rintro e w1 ⟨rfl, rfl⟩)
          | (go_at_call 37; (with_reducible refine (inside1_any _ v _ _ _ ?_).mono ?_); (· (exact cell_new (by simp) rfl)); rintro e w1 ⟨rfl, rfl⟩))
        all_goals first
          | (go_ret
             refine ⟨ret_int ?_, by go_grown⟩
             rw [HR.out, HD.out]
             refine ckSoF_stop ?_ (by omega)
             (go_light; (try simp only [Bool.not_eq_true', Bool.not_eq_false', decide_eq_true_eq, decide_eq_false_iff_not, beq_iff_eq, beq_eq_false_iff_ne, bne_iff_ne, bne_eq_false_iff_eq, ne_eq, Bool.and_eq_true, Bool.or_eq_true, Bool.and_eq_false_iff, Bool.or_eq_false_iff, Decidable.not_not] at *))
             unfold ckSo
             (repeat' split) <;> omega)
          | (go_round
             case rel =>
               refine ⟨k + 1, nxD m o, by omega, ?_, by go_num, ?_, Lib.hid ?_, by go_grown⟩
               · unfold nxD; split <;> omega
               · (go_light; (try simp only [Bool.not_eq_true', Bool.not_eq_false', decide_eq_true_eq, decide_eq_false_iff_not, beq_iff_eq, beq_eq_false_iff_ne, bne_iff_ne, bne_eq_false_iff_eq, ne_eq, Bool.and_eq_true, Bool.or_eq_true, Bool.and_eq_false_iff, Bool.or_eq_false_iff, Decidable.not_not] at *))
                 unfold nxD
                 first
                   | (rw [if_pos (by omega)]; first | go_num | (refine congrArg (Value.int .i64) ?_; omega))
                   | (rw [if_neg (by omega)]; first | go_num | (refine congrArg (Value.int .i64) ?_; omega))
               · rw [HR.out, HD.out]
                 refine ckSoF_go ?_
                 (go_light; (try simp only [Bool.not_eq_true', Bool.not_eq_false', decide_eq_true_eq, decide_eq_false_iff_not, beq_iff_eq, beq_eq_false_iff_ne, bne_iff_ne, bne_eq_false_iff_eq, ne_eq, Bool.and_eq_true, Bool.or_eq_true, Bool.and_eq_false_iff, Bool.or_eq_false_iff, Decidable.not_not] at *))
                 unfold ckSo
                 (repeat' split) <;> omega
             case measure => simp [intOf]; omega)
      · go_wp2
        go_ret
        exact ⟨ret_int (by rw [HR.out, List.drop_of_length_le (by rw [HL.out]; omega)]; rfl), hb⟩

set_option maxHeartbeats 400000 in
theorem stackCode_any (vars : Int) (A : Option Addr) (len cap : Nat) (c : List So) (w : World) (hx : RdO w w.heap.size A c) (hl : c.length = len) :
    Calls Try.prog 54 #[.int .i64 vars, .slice A len cap] w fun e w' => e = .returned (.int .i64 (ckStk vars c)) ∧ Below w.heap.size w w' := by
  have HL := Lib.hid hl
  clear hl
  by_cases h : vars < 0
  · have e0 : ckStk vars c = 1 := by unfold ckStk; rw [if_pos h]
    rw [e0]
    go_enter Try.func54, Try.ntmps54
    go_wp2_with fail
    go_ret
    exact ⟨rfl, Below.refl _ _⟩
  · have e0 : ckStk vars c = ckStack vars c := by unfold ckStk; rw [if_neg h]
    rw [e0]
    clear e0
    go_enter Try.func54, Try.ntmps54
    go_wp2_with fail
    refine (stackCheck_any vars A len cap c _ hx HL.out).mono ?_
    rintro e w1 ⟨rfl, hb1⟩
    go_wp2_with fail
    go_ret
    exact ⟨rfl, hb1⟩

end Go.Proofs.Ytppnckiedcbleaa
