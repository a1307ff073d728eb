/-
  Pieces in memory; jump.check and codemasonref.PieceCheck return what they say (X1).
-/
import Derived.Test.YthckglpleiojkaaPureJump
import Derived.Test.YthckglpleiojkaaMBase
import Derived.BigQuiet
namespace Go.Proofs.Ythckglpleiojkaa
open Go.RowKit
set_option linter.unusedSimpArgs false
set_option linter.unusedVariables false
set_option maxRecDepth 100000

def cPc (p : Pc) : List Value := [.int .i64 p.b, .bool p.j, .int .i64 p.to]

theorem cPc_len (p : Pc) : (cPc p).length = 3 := rfl

/-- a slice of pieces -/
def RdPc (w : World) (B : Nat) (A : Option Addr) (l : List Pc) : Prop := RdR cPc w B A 3 l

theorem RdPc.below {w w' : World} {B B' : Nat} {A : Option Addr} {l : List Pc} (h : RdPc w B A l) (hb : Below B' w w') (hB : B ≤ B') : RdPc w' B A l := Rd.below h hb hB

theorem RdPc.more {w : World} {B B' : Nat} {A : Option Addr} {l : List Pc} (h : RdPc w B A l) (hB : B ≤ B') : RdPc w B' A l := Rd.more h hB

theorem RdPc.at_ {w : World} {B : Nat} {A : Option Addr} {l : List Pc} {k : Nat} (h : RdPc w B A l) (hk : k < l.length) :
    ∃ (ad : Addr) (b : Int) (j : Bool) (t : Int), A = some ad ∧ (ad.add (k * 3)).block < B ∧ l[k]? = some ⟨b, j, t⟩ ∧ w.cell? (ad.add (k * 3)) = some (.int .i64 b) ∧
      w.cell? ⟨(ad.add (k * 3)).block, (ad.add (k * 3)).off + 1, none⟩ = some (.bool j) ∧ w.cell? ⟨(ad.add (k * 3)).block, (ad.add (k * 3)).off + 2, none⟩ = some (.int .i64 t) := by
  obtain ⟨ad, x, hA, hb, hx, hc⟩ := RdR.cell cPc_len (by omega) h hk
  exact ⟨ad, x.b, x.j, x.to, hA, hb, hx, hc 0 _ rfl, hc 1 _ rfl, hc 2 _ rfl⟩

theorem ckPc1_byt (n : Nat) (b t : Int) : ckPc1 n ⟨b, false, t⟩ = if 0 ≤ b ∧ b ≤ 200 then 0 else 4 := by
  unfold ckPc1
  rw [if_pos rfl]

theorem ckPc1_jmp (n : Nat) (b t : Int) : ckPc1 n ⟨b, true, t⟩ = if 0 ≤ t ∧ t ≤ (n : Int) then 0 else 2 := by
  unfold ckPc1
  rw [if_neg (by simp)]

set_option maxHeartbeats 4000000 in
theorem pcCheck_any (A : Option Addr) (len cap : Nat) (l : List Pc) (w : World) (hx : RdPc w w.heap.size A l) (hl : l.length = len) :
    Calls Try.prog 10 #[.slice A len cap] w fun e w' => e = .returned (.int .i64 (ckPc l)) ∧ Below w.heap.size w w' := by
  have HT := Lib.hid hl
  by_cases h2 : 10 < len
  · have HF : Hid (ckPc l = 1) := Lib.hid (by unfold ckPc; rw [if_pos (by rw [hl]; exact h2)])
    have h2' : (10 : Int) < (len : Int) := by omega
    clear hl hx h2
    go_enter Try.func10, Try.ntmps10
    go_wp2
    go_ret
    exact ⟨ret_int (by rw [HF.out]), Below.refl _ _⟩
  · have HF : Hid (ckPc l = ckPcL len l) := Lib.hid (by unfold ckPc; rw [if_neg (by rw [hl]; exact h2), hl])
    have h2' : ¬ (10 : Int) < (len : Int) := by omega
    have hsm : len ≤ 10 := by omega
    clear hl h2
    go_enter Try.func10, Try.ntmps10
    go_wp2
    go_loopw [10] (fun i wr => ∃ k : Nat, k ≤ len ∧ i = .int .i64 k ∧ ckPcL len l = ckPcL len (l.drop k) ∧ Below w.heap.size w wr) (fun i _ => len - (intOf i).toNat)
    case atStart => exact ⟨0, Nat.zero_le _, rfl, rfl, Below.refl _ _⟩
    case round =>
      obtain ⟨k, hk, rfl, hr, hb⟩ := hrel
      have HR := Lib.hid hr
      clear hr
      by_cases hlt : k < len
      · obtain ⟨ad, b, j, t, rfl, hbl, hd, hc0, hc1, hc2⟩ := RdPc.at_ (hx.below hb (Nat.le_refl _)) (k := k) (by rw [HT.out]; exact hlt)
        have HD := Lib.hid (ckPcL_at (n := len) hd)
        clear hd
        have hsz := hb.size
        cases j
        · have HK := Lib.hid (ckPc1_byt len b t)
          go_wp2
          all_goals first
            | (go_ret
               refine ⟨ret_int ?_, hb.trans (by go_grown)⟩
               rw [HF.out, HR.out, HD.out, HK.out]
               (go_light; (try simp only [Bool.not_eq_true', Bool.not_eq_false', decide_eq_true_eq, decide_eq_false_iff_not, beq_iff_eq, beq_eq_false_iff_ne, bne_iff_ne, bne_eq_false_iff_eq, ne_eq, Bool.and_eq_true, Bool.or_eq_true, Bool.and_eq_false_iff, Bool.or_eq_false_iff, Decidable.not_not] at *))
               (repeat' split) <;> first | omega | simp_all)
            | (go_round
               case rel =>
                 refine ⟨k + 1, by omega, by go_num, ?_, hb.trans (by go_grown)⟩
                 rw [HR.out, HD.out, HK.out]
                 (go_light; (try simp only [Bool.not_eq_true', Bool.not_eq_false', decide_eq_true_eq, decide_eq_false_iff_not, beq_iff_eq, beq_eq_false_iff_ne, bne_iff_ne, bne_eq_false_iff_eq, ne_eq, Bool.and_eq_true, Bool.or_eq_true, Bool.and_eq_false_iff, Bool.or_eq_false_iff, Decidable.not_not] at *))
                 rw [if_pos (by (repeat' split) <;> first | omega | simp_all)]
               case measure => (simp [intOf]; omega))
        · have HK := Lib.hid (ckPc1_jmp len b t)
          go_wp2
          all_goals first
            | (go_ret
               refine ⟨ret_int ?_, hb.trans (by go_grown)⟩
               rw [HF.out, HR.out, HD.out, HK.out]
               (go_light; (try simp only [Bool.not_eq_true', Bool.not_eq_false', decide_eq_true_eq, decide_eq_false_iff_not, beq_iff_eq, beq_eq_false_iff_ne, bne_iff_ne, bne_eq_false_iff_eq, ne_eq, Bool.and_eq_true, Bool.or_eq_true, Bool.and_eq_false_iff, Bool.or_eq_false_iff, Decidable.not_not] at *))
               (repeat' split) <;> first | omega | simp_all)
            | (go_round
               case rel =>
                 refine ⟨k + 1, by omega, by go_num, ?_, hb.trans (by go_grown)⟩
                 rw [HR.out, HD.out, HK.out]
                 (go_light; (try simp only [Bool.not_eq_true', Bool.not_eq_false', decide_eq_true_eq, decide_eq_false_iff_not, beq_iff_eq, beq_eq_false_iff_ne, bne_iff_ne, bne_eq_false_iff_eq, ne_eq, Bool.and_eq_true, Bool.or_eq_true, Bool.and_eq_false_iff, Bool.or_eq_false_iff, Decidable.not_not] at *))
                 rw [if_pos (by (repeat' split) <;> first | omega | simp_all)]
               case measure => (simp [intOf]; omega))
      · have hkn : k = l.length := by rw [HT.out]; omega
        go_wp2
        go_ret
        exact ⟨ret_int (by rw [HF.out, HR.out, hkn, List.drop_length]; rfl), hb⟩

/-! ### The reference's -/

set_option maxHeartbeats 8000000 in
theorem refPieces_any (A : Option Addr) (len cap : Nat) (l : List Pc) (w : World) (hx : RdPc w w.heap.size A l) (hl : l.length = len) :
    Calls Try.prog 6 #[.slice A len cap] w fun e w' => e = .returned (.int .i64 (ckPc l)) ∧ Below w.heap.size w w' := by
  have HT := Lib.hid hl
  by_cases h2 : 10 < len
  · have HF : Hid (ckPc l = 1) := Lib.hid (by unfold ckPc; rw [if_pos (by rw [hl]; exact h2)])
    have h2' : (10 : Int) < (len : Int) := by omega
    clear hl hx h2
    go_enter Try.func6, Try.ntmps6
    go_wp2
    go_ret
    exact ⟨ret_int (by rw [HF.out]), Below.refl _ _⟩
  · have HF : Hid (ckPc l = ckPcL len l) := Lib.hid (by unfold ckPc; rw [if_neg (by rw [hl]; exact h2), hl])
    have h2' : ¬ (10 : Int) < (len : Int) := by omega
    have hsm : len ≤ 10 := by omega
    clear hl h2
    go_enter Try.func6, Try.ntmps6
    go_wp2
    go_loopw [10] (fun i wr => ∃ k : Nat, k ≤ len ∧ i = .int .i64 k ∧ ckPcL len l = ckPcL len (l.drop k) ∧ Below w.heap.size w wr) (fun i _ => len - (intOf i).toNat)
    case atStart => exact ⟨0, Nat.zero_le _, rfl, rfl, Below.refl _ _⟩
    case round =>
      obtain ⟨k, hk, rfl, hr, hb⟩ := hrel
      have HR := Lib.hid hr
      clear hr
      by_cases hlt : k < len
      · obtain ⟨ad, b, j, t, rfl, hbl, hd, hc0, hc1, hc2⟩ := RdPc.at_ (hx.below hb (Nat.le_refl _)) (k := k) (by rw [HT.out]; exact hlt)
        have HD := Lib.hid (ckPcL_at (n := len) hd)
        clear hd
        have hsz := hb.size
        cases j
        · have HK := Lib.hid (ckPc1_byt len b t)
          go_wp2
          all_goals first
            | (go_ret
               refine ⟨ret_int ?_, hb.trans (by go_grown)⟩
               rw [HF.out, HR.out, HD.out, HK.out]
               (go_light; (try simp only [Bool.not_eq_true', Bool.not_eq_false', decide_eq_true_eq, decide_eq_false_iff_not, beq_iff_eq, beq_eq_false_iff_ne, bne_iff_ne, bne_eq_false_iff_eq, ne_eq, Bool.and_eq_true, Bool.or_eq_true, Bool.and_eq_false_iff, Bool.or_eq_false_iff, Decidable.not_not] at *))
               (repeat' split) <;> first | omega | simp_all)
            | (go_round
               case rel =>
                 refine ⟨k + 1, by omega, by go_num, ?_, hb.trans (by go_grown)⟩
                 rw [HR.out, HD.out, HK.out]
                 (go_light; (try simp only [Bool.not_eq_true', Bool.not_eq_false', decide_eq_true_eq, decide_eq_false_iff_not, beq_iff_eq, beq_eq_false_iff_ne, bne_iff_ne, bne_eq_false_iff_eq, ne_eq, Bool.and_eq_true, Bool.or_eq_true, Bool.and_eq_false_iff, Bool.or_eq_false_iff, Decidable.not_not] at *))
                 rw [if_pos (by (repeat' split) <;> first | omega | simp_all)]
               case measure => (simp [intOf]; omega))
        · by_cases hin : 0 ≤ t ∧ t ≤ (len : Int)
          · have HK : Hid (ckPc1 len ⟨b, true, t⟩ = 0) := Lib.hid (by rw [ckPc1_jmp, if_pos hin])
            have hdec : decide (0 ≤ t ∧ t < (len : Int) + 1) = true := by rw [decide_eq_true_eq]; omega
            go_wp2_with (go_at_call 14; (with_reducible refine (inside1_any _ t _ _ _ (by simp)).mono ?_); rw [hdec]; rintro e w5 ⟨rfl, rfl⟩)
            go_round
            case rel => exact ⟨k + 1, by omega, by go_num, by rw [HR.out, HD.out, if_pos HK.out], hb.trans (by go_grown)⟩
            case measure => (simp [intOf]; omega)
          · have HK : Hid (ckPc1 len ⟨b, true, t⟩ = 2) := Lib.hid (by rw [ckPc1_jmp, if_neg hin])
            have hdec : decide (0 ≤ t ∧ t < (len : Int) + 1) = false := by rw [decide_eq_false_iff_not]; omega
            go_wp2_with (go_at_call 14; (with_reducible refine (inside1_any _ t _ _ _ (by simp)).mono ?_); rw [hdec]; rintro e w5 ⟨rfl, rfl⟩)
            go_ret
            exact ⟨ret_int (by rw [HF.out, HR.out, HD.out, HK.out]; rfl), hb.trans (by go_grown)⟩
      · have hkn : k = l.length := by rw [HT.out]; omega
        go_wp2
        go_ret
        exact ⟨ret_int (by rw [HF.out, HR.out, hkn, List.drop_length]; rfl), hb⟩

end Go.Proofs.Ythckglpleiojkaa
