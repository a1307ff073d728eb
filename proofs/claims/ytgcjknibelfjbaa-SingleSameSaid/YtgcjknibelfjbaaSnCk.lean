/-
  single.areNames, operands, checkStep (M2).
-/
import Derived.Test.YtgcjknibelfjbaaSingleOpen
import Derived.Test.YtgcjknibelfjbaaMTerm
import Derived.Test.YtgcjknibelfjbaaMBase
namespace Go.Proofs.Ytgcjknibelfjbaa
open Go.RowKit
set_option linter.unusedSimpArgs false
set_option linter.unusedVariables false
set_option maxRecDepth 100000

theorem nmsOk_drop {xs : List Int} {k : Nat} {x : Int} (h : xs[k]? = some x) : nmsOk (xs.drop k) = (isNm x && nmsOk (xs.drop (k + 1))) := by
  rw [drop_at h]
  rfl

set_option maxHeartbeats 1000000 in
theorem areNames_any (A : Option Addr) (len cap : Nat) (xs : List Int) (B : Nat) (w : World) (hx : RdI w B A xs) (hl : xs.length = len) (hm : len ≤ maxLen) :
    Calls Try.prog 79 #[.slice A len cap] w fun e w' => e = .returned (.bool (nmsOk xs)) ∧ w = w' := by
  unfold maxLen at hm
  have HL := Lib.hid hl
  clear hl
  go_enter Try.func79, Try.ntmps79
  go_wp2
  go_loop [7] (fun i => ∃ k : Nat, k ≤ len ∧ i = .int .i64 k ∧ nmsOk xs = nmsOk (xs.drop k)) (fun i => len - (intOf i).toNat)
  case atStart => exact ⟨0, Nat.zero_le _, rfl, rfl⟩
  case round =>
    obtain ⟨k, hk, rfl, hr⟩ := hrel
    have HR := Lib.hid hr
    clear hr
    by_cases hlt : k < len
    · obtain ⟨ad, x, rfl, _, hd, hcell⟩ := hx.at_ (k := k) (by rw [HL.out]; exact hlt)
      have HD := Lib.hid (nmsOk_drop hd)
      clear hd
      go_wp2
      all_goals first
        | (go_ret; exact ⟨ret_bool (by
            rw [HR.out, HD.out]
            have : isNm x = false := by
              unfold isNm
              rw [decide_eq_false_iff_not]
              (go_light; (try simp only [Bool.not_eq_true', Bool.not_eq_false', decide_eq_true_eq, decide_eq_false_iff_not, beq_iff_eq, beq_eq_false_iff_ne, bne_iff_ne, bne_eq_false_iff_eq, ne_eq, Bool.and_eq_true, Bool.or_eq_true, Bool.and_eq_false_iff, Bool.or_eq_false_iff, Decidable.not_not] at *))
              omega
            rw [this]
            rfl), rfl⟩)
        | (go_round
           case rel =>
             have : isNm x = true := by
               rw [isNm_iff]
               (go_light; (try simp only [Bool.not_eq_true', Bool.not_eq_false', decide_eq_true_eq, decide_eq_false_iff_not, beq_iff_eq, beq_eq_false_iff_ne, bne_iff_ne, bne_eq_false_iff_eq, ne_eq, Bool.and_eq_true, Bool.or_eq_true, Bool.and_eq_false_iff, Bool.or_eq_false_iff, Decidable.not_not] at *))
               omega
             exact ⟨k + 1, by omega, by go_num, by rw [HR.out, HD.out, this]; rfl⟩
           case measure => (simp [intOf]; omega))
    · go_wp2
      go_ret
      exact ⟨ret_bool (by rw [HR.out, List.drop_of_length_le (by rw [HL.out]; omega)]; rfl), rfl⟩

theorem name1_any (x : Int) (p : Addr) (c : Nat) (w : World) (h : w.cell? p = some (.int .i64 x)) :
    Calls Try.prog 79 #[.slice (some p) 1 c] w fun e w' => e = .returned (.bool (isNm x)) ∧ w = w' :=
  (areNames_any (some p) 1 c [x] _ w (rdI_one h) rfl (by simp [maxLen])).mono fun e w' ⟨he, hw⟩ => ⟨by rw [he]; refine ret_bool ?_; simp [nmsOk], hw⟩

/-- the names that a step uses -/
def opsN (o a b v : Int) : List Int := if o = 1 then [] else if o = 2 then [v] else [a, b]

theorem opsN_len (o a b v : Int) : (opsN o a b v).length ≤ 2 := by
  unfold opsN
  split
  · simp
  · split <;> simp

set_option maxHeartbeats 1000000 in
theorem operands_any (o t a b v : Int) (w : World) :
    Calls Try.prog 66 #[.agg #[.int .i64 o, .int .i64 t, .int .i64 a, .int .i64 b, .int .i64 v]] w fun e w' => ∃ A c, e = .returned (.slice A (opsN o a b v).length c) ∧ RdI w' w'.heap.size A (opsN o a b v) ∧ Below w.heap.size w w' := by
  by_cases h1 : o = 1
  · subst h1
    have HO : Hid (opsN 1 a b v = []) := Lib.hid rfl
    rw [HO.out]
    go_enter Try.func66, Try.ntmps66
    go_wp2
    go_ret
    exact ⟨_, _, rfl, fun h => by simp at h, by go_grown⟩
  · by_cases h2 : o = 2
    · subst h2
      have HO : Hid (opsN 2 a b v = [v]) := Lib.hid rfl
      rw [HO.out]
      clear h1
      go_enter Try.func66, Try.ntmps66
      go_wp2
      go_ret
      exact ⟨_, _, rfl, (rdI_one (p := ⟨w.heap.size + 1, 0, none⟩) (by simp)).more (by simp), by go_grown⟩
    · have HO : Hid (opsN o a b v = [a, b]) := Lib.hid (by unfold opsN; rw [if_neg h1, if_neg h2])
      rw [HO.out]
      have e1 : (o == 1) = false := by simp [h1]
      have e2 : (o == 2) = false := by simp [h2]
      clear h1 h2
      go_enter Try.func66, Try.ntmps66
      go_wp2
      go_ret
      exact ⟨_, _, rfl, (rdI_two (p := ⟨w.heap.size + 1, 0, none⟩) (by simp) (by simp)).more (by simp), by go_grown⟩

/-- what is wrong with a step, in the order in which it is looked at -/
theorem ckStN_first {o t a b v : Int} (h : o ≠ 2) (hc : ckOpn 0 o v ≠ 0) : ckStN ⟨o, t, a, b, v⟩ = ckOpn 0 o v := by
  unfold ckStN
  unfold ckOpn at hc ⊢
  (repeat' split at hc) <;> (repeat' split) <;> simp_all <;> omega

theorem isNm_out {x : Int} (h : isNm x = false) : ¬ (0 ≤ x ∧ x < 128) := fun h2 => by rw [isNm_iff.2 h2] at h; cases h

theorem ckStN_then {o t a b v : Int} (h : o = 2 ∨ ckOpn 0 o v = 0) : ckStN ⟨o, t, a, b, v⟩ = if isNm t = true ∧ nmsOk (opsN o a b v) = true then 0 else 2 := by
  have h6 : 1 ≤ o ∧ o ≤ 6 := by
    rcases h with h | h
    · omega
    · exact ckOpn_op h
  have hv : o = 1 → 0 ≤ v ∧ v ≤ 255 := by
    intro e
    rcases h with h | h
    · omega
    · unfold ckOpn at h
      (repeat' split at h) <;> omega
  have hn : nmsOk (opsN o a b v) = true ↔ (o = 1 ∨ (o = 2 ∧ 0 ≤ v ∧ v < 128) ∨ (3 ≤ o ∧ 0 ≤ a ∧ a < 128 ∧ 0 ≤ b ∧ b < 128)) := by
    unfold opsN
    split
    · rename_i e; simp [nmsOk, e]
    · rename_i e1
      split
      · rename_i e
        have : nmsOk [v] = true ↔ 0 ≤ v ∧ v < 128 := by rw [← isNm_iff]; simp [nmsOk]
        rw [this]
        omega
      · rename_i e2
        have : nmsOk [a, b] = true ↔ (0 ≤ a ∧ a < 128) ∧ (0 ≤ b ∧ b < 128) := by rw [← isNm_iff, ← isNm_iff]; simp [nmsOk]
        rw [this]
        omega
  have hiff : (isNm t = true ∧ nmsOk (opsN o a b v) = true) ↔ ((0 ≤ t ∧ t < 128) ∧ (o = 1 ∨ (o = 2 ∧ 0 ≤ v ∧ v < 128) ∨ (3 ≤ o ∧ 0 ≤ a ∧ a < 128 ∧ 0 ≤ b ∧ b < 128))) := by rw [hn, isNm_iff]
  by_cases hB : isNm t = true ∧ nmsOk (opsN o a b v) = true
  · rw [if_pos hB]
    rw [hiff] at hB
    unfold ckStN
    simp only []
    (repeat' split) <;> omega
  · rw [if_neg hB]
    rw [hiff] at hB
    unfold ckStN
    simp only []
    (repeat' split) <;> omega

set_option maxHeartbeats 4000000 in
theorem snStep_any (o t a b v : Int) (w : World) :
    Calls Try.prog 80 #[.agg #[.int .i64 o, .int .i64 t, .int .i64 a, .int .i64 b, .int .i64 v]] w fun e w' => e = .returned (.int .i64 (ckStN ⟨o, t, a, b, v⟩)) ∧ Below w.heap.size w w' := by
  by_cases hbad : o ≠ 2 ∧ ckOpn 0 o v ≠ 0
  · have HE := Lib.hid (ckStN_first (t := t) (a := a) (b := b) hbad.1 hbad.2)
    have e1 : (o != 2) = true := by simp [hbad.1]
    have e2 : (ckOpn 0 o v != 0) = true := by simp [hbad.2]
    clear hbad
    rw [HE.out]
    go_enter Try.func80, Try.ntmps80
    go_wp2_with (go_at_call 90; (with_reducible refine (checkOp_any 0 o v _).mono ?_); rintro e w1 ⟨rfl, hb1⟩)
    go_ret
    exact ⟨rfl, (by go_grown : Below w.heap.size w _).trans (hb1.mono (by simp))⟩
  · have HE := Lib.hid (ckStN_then (o := o) (t := t) (a := a) (b := b) (v := v) (by
      by_cases h : o = 2
      · exact .inl h
      · exact .inr (Classical.byContradiction fun h2 => hbad ⟨h, h2⟩)))
    have HOP := Lib.hid (operands_any o t a b v)
    have hol := opsN_len o a b v
    obtain ⟨N, hN⟩ : ∃ N, opsN o a b v = N := ⟨_, rfl⟩
    obtain ⟨b1, hb1⟩ : ∃ b, isNm t = b := ⟨_, rfl⟩
    obtain ⟨b2, hb2⟩ : ∃ b, nmsOk N = b := ⟨_, rfl⟩
    rw [hN] at HOP hol HE
    rw [hb1, hb2] at HE
    have HN1 : Hid (∀ (p : Addr) (c : Nat) (X : World), X.cell? p = some (.int .i64 t) → Calls Try.prog 79 #[.slice (some p) 1 c] X fun e w' => e = .returned (.bool b1) ∧ X = w') := Lib.hid fun p c X h => by rw [← hb1]; exact name1_any t p c X h
    obtain ⟨m, hm⟩ : ∃ m, N.length = m := ⟨_, rfl⟩
    have HM := Lib.hid hm
    rw [hm] at HOP hol
    have HN2 : Hid (∀ (A : Option Addr) (c : Nat) (X : World), RdI X X.heap.size A N → Calls Try.prog 79 #[.slice A m c] X fun e w' => e = .returned (.bool b2) ∧ X = w') := Lib.hid fun A c X h => by rw [← hb2]; exact areNames_any A m c N _ X h HM.out (by unfold maxLen; omega)
    have hcase : (o != 2) = false ∨ ((o != 2) = true ∧ (ckOpn 0 o v != 0) = false) := by
      by_cases h : o = 2
      · exact .inl (by simp [h])
      · exact .inr ⟨by simp [h], by have : ckOpn 0 o v = 0 := Classical.byContradiction fun h2 => hbad ⟨h, h2⟩; simp [this]⟩
    rw [HE.out]
    clear hbad hN hb1 hb2 hm
    have key : ∀ (X : World), Below w.heap.size w X → w.heap.size < X.heap.size → X.cell? ⟨w.heap.size, 0, none⟩ = some (.int .i64 o) → X.cell? ⟨w.heap.size, 1, none⟩ = some (.int .i64 t) → X.cell? ⟨w.heap.size, 2, none⟩ = some (.int .i64 a) → X.cell? ⟨w.heap.size, 3, none⟩ = some (.int .i64 b) → X.cell? ⟨w.heap.size, 4, none⟩ = some (.int .i64 v) → True := fun _ _ _ _ _ _ _ _ => trivial
    clear key
    rcases hcase with e1 | ⟨e1, e2⟩
    · go_enter Try.func80, Try.ntmps80
      cases b1 <;> cases b2
      all_goals
        go_wp2_with (first
          | (go_at_call 79; (with_reducible refine (HN1.out _ _ _ ?_).mono ?_); (· (exact cell_new (by simp) rfl)); rintro e w1 ⟨rfl, rfl⟩)
          | (go_at_call 66; (with_reducible refine (HOP.out _).mono ?_); rintro e w2 ⟨A2, c2, rfl, hr2, hb2⟩; have HR2 := Lib.hid hr2; clear hr2)
          | (go_at_call 79; (with_reducible refine (HN2.out _ _ _ HR2.out).mono ?_); rintro e w1 ⟨rfl, rfl⟩))
        go_ret
        first
          | exact ⟨rfl, (by go_grown : Below w.heap.size w _).trans (hb2.mono (by go_size))⟩
          | exact ⟨rfl, by go_grown⟩
    · go_enter Try.func80, Try.ntmps80
      go_wp2_with fail
      (with_reducible refine (checkOp_any 0 o v _).mono ?_)
      rintro e w1 ⟨rfl, hb1⟩
      have d0 : w1.cell? ⟨w.heap.size, 0, none⟩ = some (.int .i64 o) := (hb1.cell (p := ⟨w.heap.size, 0, none⟩) (by simp)).trans (by simp)
      have d1 : w1.cell? ⟨w.heap.size, 1, none⟩ = some (.int .i64 t) := (hb1.cell (p := ⟨w.heap.size, 1, none⟩) (by simp)).trans (by simp)
      have d2 : w1.cell? ⟨w.heap.size, 2, none⟩ = some (.int .i64 a) := (hb1.cell (p := ⟨w.heap.size, 2, none⟩) (by simp)).trans (by simp)
      have d3 : w1.cell? ⟨w.heap.size, 3, none⟩ = some (.int .i64 b) := (hb1.cell (p := ⟨w.heap.size, 3, none⟩) (by simp)).trans (by simp)
      have d4 : w1.cell? ⟨w.heap.size, 4, none⟩ = some (.int .i64 v) := (hb1.cell (p := ⟨w.heap.size, 4, none⟩) (by simp)).trans (by simp)
      have hB : Below w.heap.size w w1 := (by go_grown : Below w.heap.size w _).trans (hb1.mono (by simp))
      have hsz : w.heap.size < w1.heap.size := by have := hb1.size; simp at this; omega
      clear hb1
      cases b1 <;> cases b2
      all_goals
        go_wp2_with (first
          | (go_at_call 79; (with_reducible refine (HN1.out _ _ _ ?_).mono ?_); (· (exact cell_new (by simp) rfl)); rintro e w3 ⟨rfl, rfl⟩)
          | (go_at_call 66; (with_reducible refine (HOP.out _).mono ?_); rintro e w2 ⟨A2, c2, rfl, hr2, hb2⟩; have HR2 := Lib.hid hr2; clear hr2)
          | (go_at_call 79; (with_reducible refine (HN2.out _ _ _ HR2.out).mono ?_); rintro e w3 ⟨rfl, rfl⟩))
        go_ret
        first
          | exact ⟨rfl, hB.trans (((by go_grown : Below w1.heap.size w1 _).trans (hb2.mono (by go_size))).mono (by omega))⟩
          | exact ⟨rfl, hB.trans (by go_grown)⟩

end Go.Proofs.Ytgcjknibelfjbaa
