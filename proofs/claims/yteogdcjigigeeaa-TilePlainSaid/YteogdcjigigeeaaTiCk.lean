/-
  Tiles in memory; tile.isOperation, tile.checkTile, tile.check and codemasonref.TilesCheck return what they say (W1, W2).
-/
import Derived.Test.YteogdcjigigeeaaPureTile
import Derived.Test.YteogdcjigigeeaaMBase
import Derived.Test.YteogdcjigigeeaaMTerm
import Derived.Test.YteogdcjigigeeaaNeed
import Derived.BigQuiet
namespace Go.Proofs.Yteogdcjigigeeaa
open Go.RowKit
set_option linter.unusedSimpArgs false
set_option linter.unusedVariables false
set_option maxRecDepth 100000

def cTi (t : Ti) : List Value := [.int .i64 t.op, .int .i64 t.lt, .int .i64 t.rt, .int .i64 t.c]

theorem cTi_len (t : Ti) : (cTi t).length = 4 := rfl

theorem cTi_one (t : Ti) : ∀ u ∈ cTi t, u.oneCell' = true := fun u hu => by
  simp [cTi] at hu
  rcases hu with rfl | rfl | rfl | rfl <;> rfl

/-- a slice of tiles -/
def RdTi (w : World) (B : Nat) (A : Option Addr) (l : List Ti) : Prop := RdR cTi w B A 4 l

theorem RdTi.below {w w' : World} {B B' : Nat} {A : Option Addr} {l : List Ti} (h : RdTi w B A l) (hb : Below B' w w') (hB : B ≤ B') : RdTi w' B A l := Rd.below h hb hB

theorem RdTi.more {w : World} {B B' : Nat} {A : Option Addr} {l : List Ti} (h : RdTi w B A l) (hB : B ≤ B') : RdTi w B' A l := Rd.more h hB

theorem RdTi.at_ {w : World} {B : Nat} {A : Option Addr} {l : List Ti} {k : Nat} (h : RdTi w B A l) (hk : k < l.length) :
    ∃ (ad : Addr) (o a b v : Int), A = some ad ∧ (ad.add (k * 4)).block < B ∧ l[k]? = some ⟨o, a, b, v⟩ ∧ w.cell? (ad.add (k * 4)) = some (.int .i64 o) ∧
      w.cell? ⟨(ad.add (k * 4)).block, (ad.add (k * 4)).off + 1, none⟩ = some (.int .i64 a) ∧ w.cell? ⟨(ad.add (k * 4)).block, (ad.add (k * 4)).off + 2, none⟩ = some (.int .i64 b) ∧
      w.cell? ⟨(ad.add (k * 4)).block, (ad.add (k * 4)).off + 3, none⟩ = some (.int .i64 v) := by
  obtain ⟨ad, x, hA, hb, hx, hc⟩ := RdR.cell cTi_len (by omega) h hk
  exact ⟨ad, x.op, x.lt, x.rt, x.c, hA, hb, hx, hc 0 _ rfl, hc 1 _ rfl, hc 2 _ rfl, hc 3 _ rfl⟩

/-! ### The program's check -/

def opB (o : Int) : Bool := decide (1 ≤ o ∧ o ≤ 6)

theorem opB_eq {o : Int} {b : Bool} (h : decide (1 ≤ o ∧ o ≤ 6) = b) : opB o = b := h

set_option maxHeartbeats 400000 in
theorem isOp_any (o : Int) (w : World) :
    Calls Try.prog 39 #[.int .i64 o] w fun e w' => e = .returned (.bool (opB o)) ∧ Below w.heap.size w w' := by
  have hk : (ckOpn 1 o 0 == 0) = opB o := by
    unfold opB ckOpn
    by_cases h : o < 1 ∨ 6 < o
    · rw [if_pos h]
      have : ¬ (1 ≤ o ∧ o ≤ 6) := by omega
      simp [this]
    · rw [if_neg h, if_neg (by omega)]
      have : 1 ≤ o ∧ o ≤ 6 := by omega
      simp [this]
  have HK := Lib.hid hk
  clear hk
  go_enter Try.func39, Try.ntmps39
  go_wp2_with fail
  refine (checkOp_any 1 o 0 _).mono ?_
  rintro e w1 ⟨rfl, hb1⟩
  go_wp2
  go_ret
  exact ⟨ret_bool HK.out, hb1⟩

theorem isOp_told {o : Int} {b : Bool} (h : opB o = b) (w : World) :
    Calls Try.prog 39 #[.int .i64 o] w fun e w' => e = .returned (.bool b) ∧ Below w.heap.size w w' := by
  rw [← h]
  exact isOp_any o w

/-- a side of a tile: what is covered there is an operation -/
def sideB (a : Int) : Bool := a == 0 || opB a

theorem ckTi1_cases (o a b v : Int) : ckTi1 ⟨o, a, b, v⟩ = if opB o = true ∧ sideB a = true ∧ sideB b = true then (if o ≤ 2 ∧ ¬ (a = 0 ∧ b = 0) then 3 else if 0 ≤ v ∧ v ≤ 99 then 0 else 4) else 6 := by
  unfold ckTi1 sideB opB
  simp only [Bool.or_eq_true, beq_iff_eq, decide_eq_true_eq]
  have : (1 ≤ o ∧ o ≤ 6 ∧ 0 ≤ a ∧ a ≤ 6 ∧ 0 ≤ b ∧ b ≤ 6) ↔ ((1 ≤ o ∧ o ≤ 6) ∧ (a = 0 ∨ (1 ≤ a ∧ a ≤ 6)) ∧ (b = 0 ∨ (1 ≤ b ∧ b ≤ 6))) := by omega
  simp only [this]

set_option maxHeartbeats 4000000 in
theorem checkTile_any (o a b v : Int) (w : World) :
    Calls Try.prog 30 #[.agg #[.int .i64 o, .int .i64 a, .int .i64 b, .int .i64 v]] w fun e w' => e = .returned (.int .i64 (ckTi1 ⟨o, a, b, v⟩)) ∧ Below w.heap.size w w' := by
  go_enter Try.func30, Try.ntmps30
  go_wp2_with (first | (go_at_call 39; (with_reducible refine (isOp_any _ _).mono ?_); rintro e w5 ⟨rfl, hb5⟩; have d0 : w5.cell? ⟨w.heap.size, 0, none⟩ = some (.int .i64 o) := (hb5.cell (p := ⟨w.heap.size, 0, none⟩) (by first | (simp; done) | omega)).trans (by first | assumption | (simp; done)); have d1 : w5.cell? ⟨w.heap.size, 1, none⟩ = some (.int .i64 a) := (hb5.cell (p := ⟨w.heap.size, 1, none⟩) (by first | (simp; done) | omega)).trans (by first | assumption | (simp; done)); have d2 : w5.cell? ⟨w.heap.size, 2, none⟩ = some (.int .i64 b) := (hb5.cell (p := ⟨w.heap.size, 2, none⟩) (by first | (simp; done) | omega)).trans (by first | assumption | (simp; done)); have d3 : w5.cell? ⟨w.heap.size, 3, none⟩ = some (.int .i64 v) := (hb5.cell (p := ⟨w.heap.size, 3, none⟩) (by first | (simp; done) | omega)).trans (by first | assumption | (simp; done)); have hB5 : Below w.heap.size w w5 := (by first | assumption | go_grown : Below w.heap.size w _).trans (hb5.mono (by first | omega | (simp; done))); have hs5 : w.heap.size < w5.heap.size := Nat.lt_of_lt_of_le (by first | assumption | (simp; done)) hb5.size; clear hb5) | (go_at_call 27; (with_reducible refine (isLeaf_any _ _).mono ?_); rintro e w6 ⟨rfl, rfl⟩))
  all_goals
    go_returns
    refine ⟨ret_int ?_, by first | assumption | go_grown⟩
    unfold ckTi1
    simp only [opB, leafB'] at *
    (go_light; (try simp only [Bool.not_eq_true', Bool.not_eq_false', decide_eq_true_eq, decide_eq_false_iff_not, beq_iff_eq, beq_eq_false_iff_ne, bne_iff_ne, bne_eq_false_iff_eq, ne_eq, Bool.and_eq_true, Bool.or_eq_true, Bool.and_eq_false_iff, Bool.or_eq_false_iff, Decidable.not_not] at *))
    (repeat' split) <;> first | omega | simp_all

theorem ckTiL_at {ts : List Ti} {i : Nat} {t : Ti} (h : ts[i]? = some t) : ckTiL (ts.drop i) = if ckTi1 t = 0 then ckTiL (ts.drop (i + 1)) else ckTi1 t := by
  rw [drop_at h]
  rfl

/-- W2: the code of all but that there is a cover -/
def ckTT (vars : Int) (l : List Tm) (ts : List Ti) : Int := if ckTree vars l = 0 then ckTi ts else ckTree vars l

theorem checkTile_told {o a b v c : Int} (h : ckTi1 ⟨o, a, b, v⟩ = c) (w : World) :
    Calls Try.prog 30 #[.agg #[.int .i64 o, .int .i64 a, .int .i64 b, .int .i64 v]] w fun e w' => e = .returned (.int .i64 c) ∧ Below w.heap.size w w' := by
  rw [← h]
  exact checkTile_any o a b v w

set_option maxHeartbeats 4000000 in
theorem tiCheck_any (vars : Int) (A D : Option Addr) (len cap tn tc : Nat) (l : List Tm) (ts : List Ti) (w : World) (hx : RdT w w.heap.size A l) (hl : l.length = len) (ht : RdTi w w.heap.size D ts) (htl : ts.length = tn) :
    Calls Try.prog 22 #[.int .i64 vars, .slice A len cap, .slice D tn tc] w fun e w' => e = .returned (.int .i64 (ckTT vars l ts)) ∧ Below w.heap.size w w' := by
  have HT := Lib.hid htl
  by_cases h1 : ckTree vars l = 0
  · have HE : Hid (ckTT vars l ts = ckTi ts) := Lib.hid (by unfold ckTT; rw [if_pos h1])
    have H1 := Lib.hid h1
    by_cases h2 : 10 < tn
    · have HF : Hid (ckTi ts = 1) := Lib.hid (by unfold ckTi; rw [if_pos (by rw [htl]; exact h2)])
      have h2' : (10 : Int) < (tn : Int) := by omega
      clear h1 htl ht h2
      go_enter Try.func22, Try.ntmps22
      go_wp2_with fail
      refine (need_any vars A len cap l _ hx hl).mono ?_
      rintro e w1 ⟨rfl, hb1⟩
      rw [H1.out]
      go_wp2
      go_ret
      exact ⟨ret_int (by rw [HE.out, HF.out]), hb1⟩
    · have HF : Hid (ckTi ts = ckTiL ts) := Lib.hid (by unfold ckTi; rw [if_neg (by rw [htl]; exact h2)])
      have h2' : ¬ (10 : Int) < (tn : Int) := by omega
      have hsm : tn ≤ 10 := by omega
      clear h1 htl h2
      go_enter Try.func22, Try.ntmps22
      go_wp2_with fail
      refine (need_any vars A len cap l _ hx hl).mono ?_
      rintro e w1 ⟨rfl, hb1⟩
      rw [H1.out]
      have ht1 := (ht.below hb1 (Nat.le_refl _)).more hb1.size
      clear hx hl ht
      go_wp2
      go_loopw [26] (fun i wr => ∃ k : Nat, k ≤ tn ∧ i = .int .i64 k ∧ ckTiL ts = ckTiL (ts.drop k) ∧ Below w1.heap.size w1 wr) (fun i _ => tn - (intOf i).toNat)
      case atStart => exact ⟨0, Nat.zero_le _, rfl, rfl, Below.refl _ _⟩
      case round =>
        obtain ⟨k, hk, rfl, hr, hb⟩ := hrel
        have HR := Lib.hid hr
        clear hr
        by_cases hlt : k < tn
        · obtain ⟨ad, o, a, b, v, rfl, hbl, hd, hc0, hc1, hc2, hc3⟩ := RdTi.at_ (ht1.below hb (Nat.le_refl _)) (k := k) (by rw [HT.out]; exact hlt)
          have HD := Lib.hid (ckTiL_at hd)
          clear hd
          have hsz := hb.size
          by_cases hz : ckTi1 ⟨o, a, b, v⟩ = 0
          · have HS : Hid (ckTiL ts = ckTiL (ts.drop (k + 1))) := Lib.hid (by rw [HR.out, HD.out, if_pos hz])
            have HC := Lib.hid (checkTile_told hz)
            clear hz
            go_wp2_with fail
            refine (HC.out _).mono ?_
            rintro e w5 ⟨rfl, hb5⟩
            go_wp2
            go_round
            case rel => exact ⟨k + 1, by omega, by go_num, HS.out, hb.trans ((by go_grown : Below w1.heap.size wr _).trans (hb5.mono (by simp; omega)))⟩
            case measure => (simp [intOf]; omega)
          · have HS : Hid (ckTiL ts = ckTi1 ⟨o, a, b, v⟩) := Lib.hid (by rw [HR.out, HD.out, if_neg hz])
            have hne : (ckTi1 ⟨o, a, b, v⟩ != 0) = true := by simp [hz]
            obtain ⟨c, hc⟩ : ∃ c, ckTi1 ⟨o, a, b, v⟩ = c := ⟨_, rfl⟩
            have HC := Lib.hid (checkTile_told hc)
            rw [hc] at hne HS
            clear hz hc
            go_wp2_with fail
            refine (HC.out _).mono ?_
            rintro e w5 ⟨rfl, hb5⟩
            go_wp2
            go_ret
            exact ⟨ret_int (by rw [HE.out, HF.out, HS.out]), hb1.trans ((hb.trans ((by go_grown : Below w1.heap.size wr _).trans (hb5.mono (by simp; omega)))).mono hb1.size)⟩
        · have hkn : k = ts.length := by rw [HT.out]; omega
          go_wp2
          go_ret
          exact ⟨ret_int (by rw [HE.out, HF.out, HR.out, hkn, List.drop_length]; rfl), hb1.trans (hb.mono hb1.size)⟩
  · have HE : Hid (ckTT vars l ts = ckTree vars l) := Lib.hid (by unfold ckTT; rw [if_neg h1])
    have hne : (ckTree vars l != 0) = true := by simp [h1]
    clear h1
    go_enter Try.func22, Try.ntmps22
    go_wp2_with fail
    refine (need_any vars A len cap l _ hx hl).mono ?_
    rintro e w1 ⟨rfl, hb1⟩
    clear hl htl
    go_wp2
    go_ret
    exact ⟨ret_int HE.out.symm, hb1⟩

/-! ### The reference's -/

set_option maxHeartbeats 8000000 in
theorem refTiles_any (D : Option Addr) (tn tc : Nat) (ts : List Ti) (w : World) (ht : RdTi w w.heap.size D ts) (htl : ts.length = tn) :
    Calls Try.prog 13 #[.slice D tn tc] w fun e w' => e = .returned (.int .i64 (ckTi ts)) ∧ Below w.heap.size w w' := by
  have HT := Lib.hid htl
  by_cases h2 : 10 < tn
  · have HF : Hid (ckTi ts = 1) := Lib.hid (by unfold ckTi; rw [if_pos (by rw [htl]; exact h2)])
    have h2' : (10 : Int) < (tn : Int) := by omega
    clear htl ht h2
    go_enter Try.func13, Try.ntmps13
    go_wp2
    go_ret
    exact ⟨ret_int (by rw [HF.out]), Below.refl _ _⟩
  · have HF : Hid (ckTi ts = ckTiL ts) := Lib.hid (by unfold ckTi; rw [if_neg (by rw [htl]; exact h2)])
    have h2' : ¬ (10 : Int) < (tn : Int) := by omega
    have hsm : tn ≤ 10 := by omega
    clear htl h2
    go_enter Try.func13, Try.ntmps13
    go_wp2
    go_loopw [10] (fun i wr => ∃ k : Nat, k ≤ tn ∧ i = .int .i64 k ∧ ckTiL ts = ckTiL (ts.drop k) ∧ Below w.heap.size w wr) (fun i _ => tn - (intOf i).toNat)
    case atStart => exact ⟨0, Nat.zero_le _, rfl, rfl, Below.refl _ _⟩
    case round =>
      obtain ⟨k, hk, rfl, hr, hb⟩ := hrel
      have HR := Lib.hid hr
      clear hr
      by_cases hlt : k < tn
      · obtain ⟨ad, o, a, b, v, rfl, hbl, hd, hc0, hc1, hc2, hc3⟩ := RdTi.at_ (ht.below hb (Nat.le_refl _)) (k := k) (by rw [HT.out]; exact hlt)
        have HD := Lib.hid (ckTiL_at hd)
        clear hd
        have hsz := hb.size
        have hcase : (ckTi1 ⟨o, a, b, v⟩ = 6 ∧ (o < 1 ∨ 6 < o ∨ a < 0 ∨ 6 < a ∨ b < 0 ∨ 6 < b)) ∨ (ckTi1 ⟨o, a, b, v⟩ = 3 ∧ 1 ≤ o ∧ o ≤ 2 ∧ 0 ≤ a ∧ a ≤ 6 ∧ 0 ≤ b ∧ b ≤ 6 ∧ (a ≠ 0 ∨ b ≠ 0)) ∨ (ckTi1 ⟨o, a, b, v⟩ = 4 ∧ 1 ≤ o ∧ o ≤ 6 ∧ 0 ≤ a ∧ a ≤ 6 ∧ 0 ≤ b ∧ b ≤ 6 ∧ (o ≤ 2 → a = 0 ∧ b = 0) ∧ (v < 0 ∨ 99 < v)) ∨ (ckTi1 ⟨o, a, b, v⟩ = 0 ∧ 1 ≤ o ∧ o ≤ 6 ∧ 0 ≤ a ∧ a ≤ 6 ∧ 0 ≤ b ∧ b ≤ 6 ∧ (o ≤ 2 → a = 0 ∧ b = 0) ∧ 0 ≤ v ∧ v ≤ 99) := by
          unfold ckTi1
          (repeat' split) <;> simp_all <;> omega
        have HK := Lib.hid hcase
        clear hcase
        go_wp2
        all_goals first
          | (go_ret
             refine ⟨ret_int ?_, hb.trans (by go_grown)⟩
             rw [HF.out, HR.out, HD.out]
             have hk2 := HK.out
             (go_light; (try simp only [Bool.not_eq_true', Bool.not_eq_false', decide_eq_true_eq, decide_eq_false_iff_not, beq_iff_eq, beq_eq_false_iff_ne, bne_iff_ne, bne_eq_false_iff_eq, ne_eq, Bool.and_eq_true, Bool.or_eq_true, Bool.and_eq_false_iff, Bool.or_eq_false_iff, Decidable.not_not] at *))
             (repeat' split) <;> omega)
          | (go_round
             case rel =>
               refine ⟨k + 1, by omega, by go_num, ?_, hb.trans (by go_grown)⟩
               rw [HR.out, HD.out]
               have hk2 := HK.out
               (go_light; (try simp only [Bool.not_eq_true', Bool.not_eq_false', decide_eq_true_eq, decide_eq_false_iff_not, beq_iff_eq, beq_eq_false_iff_ne, bne_iff_ne, bne_eq_false_iff_eq, ne_eq, Bool.and_eq_true, Bool.or_eq_true, Bool.and_eq_false_iff, Bool.or_eq_false_iff, Decidable.not_not] at *))
               rw [if_pos (by omega)]
             case measure => (simp [intOf]; omega))
      · have hkn : k = ts.length := by rw [HT.out]; omega
        go_wp2
        go_ret
        exact ⟨ret_int (by rw [HF.out, HR.out, hkn, List.drop_length]; rfl), hb⟩

end Go.Proofs.Yteogdcjigigeeaa
