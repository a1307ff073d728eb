/-
  The reference's ClashCheck, Clash, Once and codemasonkeep's most, degree, clashes return what they say (O1, O2).
-/
import Derived.Test.YthmcigdoaededaaDoorPureColor
import Derived.Test.YthmcigdoaededaaDoorSwapMv
import Derived.Test.YthmcigdoaededaaDoorMBase
import Derived.Test.YthmcigdoaededaaDoorHasC
namespace Go.Proofs.YthmcigdoaededaaDoor
open Go.RowKit
set_option linter.unusedSimpArgs false
set_option linter.unusedVariables false
set_option maxRecDepth 100000

/-! ### The check -/

def sizesC (n : Int) (l : List (Int × Int)) : Prop := 1 ≤ n ∧ n ≤ 8 ∧ l.length ≤ 28

instance (n : Int) (l : List (Int × Int)) : Decidable (sizesC n l) := inferInstanceAs (Decidable (1 ≤ n ∧ n ≤ 8 ∧ l.length ≤ 28))

/-- no thing with itself -/
def twoM (l : List (Int × Int)) : Bool := l.all fun p => p.1 != p.2

def ckCl (n : Int) (l : List (Int × Int)) : Int := if sizesC n l then (if allM n l then (if twoM l then 0 else 3) else 2) else 1

theorem ckCl_large {n : Int} {l : List (Int × Int)} (h : ¬ sizesC n l) : ckCl n l = 1 := by unfold ckCl; rw [if_neg h]

theorem ckCl_arg {n : Int} {l : List (Int × Int)} (h : sizesC n l) (h2 : allM n l = false) : ckCl n l = 2 := by unfold ckCl; rw [if_pos h, h2]; rfl

theorem ckCl_form {n : Int} {l : List (Int × Int)} (h : sizesC n l) (h2 : allM n l = true) (h3 : twoM l = false) : ckCl n l = 3 := by unfold ckCl; rw [if_pos h, h2, h3]; rfl

theorem ckCl_zero {n : Int} {l : List (Int × Int)} (h : sizesC n l) (h2 : allM n l = true) (h3 : twoM l = true) : ckCl n l = 0 := by unfold ckCl; rw [if_pos h, h2, h3]; rfl

theorem twoM_drop {l : List (Int × Int)} {k : Nat} {t f : Int} (h : l[k]? = some (t, f)) : twoM (l.drop k) = ((t != f) && twoM (l.drop (k + 1))) := by
  rw [drop_at h]
  rfl

/-- things that clash, as they may be -/
structure ClOk (n : Nat) (ps : List (Nat × Nat)) : Prop where
  pos : 1 ≤ n
  small : n ≤ 8
  short : ps.length ≤ 28
  ins : ∀ p ∈ ps, p.1 < n ∧ p.2 < n
  ne : ∀ p ∈ ps, p.1 ≠ p.2

theorem ClOk.gr {n : Nat} {ps : List (Nat × Nat)} (h : ClOk n ps) : Gr (clP ps) := clP_gr h.ne

theorem ckCl_ok {n : Int} {l : List (Int × Int)} (h : ckCl n l = 0) : ∃ (k : Nat) (q : List (Nat × Nat)), n = k ∧ l = mvI q ∧ ClOk k q := by
  unfold ckCl at h
  split at h
  · rename_i h1
    split at h
    · rename_i h2
      split at h
      · rename_i h3
        obtain ⟨ha, hb, hc⟩ := h1
        obtain ⟨k, rfl⟩ : ∃ k : Nat, n = k := ⟨n.toNat, by omega⟩
        obtain ⟨q, rfl, hi⟩ := allM_nat h2
        rw [mvI_len] at hc
        refine ⟨k, q, rfl, rfl, by omega, by omega, hc, hi, fun p hp => ?_⟩
        unfold twoM at h3
        rw [List.all_eq_true] at h3
        have := h3 _ (List.mem_map.2 ⟨p, hp, rfl⟩)
        simp at this
        omega
      · cases h
    · cases h
  · cases h

set_option maxHeartbeats 4000000 in
theorem clashCheck_any (n : Int) (A : Option Addr) (len cap : Nat) (l : List (Int × Int)) (w : World) (hx : RdM w w.heap.size A l) (hl : l.length = len) (hm : len ≤ maxLen) :
    Calls Tryd.prog 7 #[.int .i64 n, .slice A len cap] w fun e w' => e = .returned (.int .i64 (ckCl n l)) ∧ Below w.heap.size w w' := by
  unfold maxLen at hm
  by_cases hz : sizesC n l
  · have HZ := Lib.hid hz
    obtain ⟨h1, h8, hl8⟩ := hz
    rw [hl] at hl8
    have HL := Lib.hid hl
    have g1 : ¬ n < 1 := by omega
    have g2 : ¬ 8 < n := by omega
    have g3 : ¬ (28 : Int) < (len : Int) := by omega
    clear hl
    go_enter Tryd.func7, Tryd.ntmps7
    go_wp2
    go_loopw [22] (fun i wr => ∃ k : Nat, k ≤ len ∧ i = .int .i64 k ∧ allM n l = allM n (l.drop k) ∧ Below w.heap.size w wr) (fun i _ => len - (intOf i).toNat)
    case atStart => exact ⟨0, Nat.zero_le _, rfl, rfl, Below.refl _ _⟩
    case round =>
      obtain ⟨k, hk, rfl, hr, hb⟩ := hrel
      have HR := Lib.hid hr
      have hsz := hb.size
      clear hr
      by_cases hlt : k < len
      · obtain ⟨ad, a, b, rfl, hbl, hd, hc0, hc1⟩ := RdM.at_ (hx.below hb (Nat.le_refl _)) (k := k) (by rw [HL.out]; exact hlt)
        have HD := Lib.hid (allM_drop (n := n) hd)
        clear hd
        have hin : inM n (a, b) = decide (0 ≤ a ∧ a < n ∧ 0 ≤ b ∧ b < n) := rfl
        by_cases he : inM n (a, b) = true
        · have HE := Lib.hid he
          rw [he] at hin
          have HIN := Lib.hid hin
          clear he hin
          go_wp2_with (go_at_call 22; (with_reducible refine (inside2_any n a b _ _ _ (by simp) (by simp)).mono ?_); rintro e w2 ⟨rfl, rfl⟩; rw [← HIN.out])
          go_round
          case rel => exact ⟨k + 1, by omega, by go_num, by rw [HR.out, HD.out, HE.out, Bool.true_and], hb.trans (by go_grown)⟩
          case measure => (simp [intOf]; omega)
        · have he2 : inM n (a, b) = false := by simpa using he
          have HE := Lib.hid he2
          rw [he2] at hin
          have HIN := Lib.hid hin
          clear he he2 hin
          go_wp2_with (go_at_call 22; (with_reducible refine (inside2_any n a b _ _ _ (by simp) (by simp)).mono ?_); rintro e w2 ⟨rfl, rfl⟩; rw [← HIN.out])
          go_ret
          exact ⟨ret_int (by rw [ckCl_arg HZ.out (by rw [HR.out, HD.out, HE.out, Bool.false_and])]), hb.trans (by go_grown)⟩
      · have hall : allM n l = true := by rw [HR.out, List.drop_of_length_le (by rw [HL.out]; omega)]; rfl
        have HA := Lib.hid hall
        clear hall
        obtain ⟨w1, rfl⟩ : ∃ w1 : World, w1 = wr := ⟨_, rfl⟩
        go_wp2
        go_loopw [37] (fun i wr => ∃ k : Nat, k ≤ len ∧ i = .int .i64 k ∧ twoM l = twoM (l.drop k) ∧ Below w.heap.size w wr) (fun i _ => len - (intOf i).toNat)
        case atStart => exact ⟨0, Nat.zero_le _, rfl, rfl, hb⟩
        case round =>
          obtain ⟨k, hk, rfl, hr, hb2⟩ := hrel
          have HT := Lib.hid hr
          have hsz2 := hb2.size
          clear hr
          by_cases hlt : k < len
          · obtain ⟨ad, a, b, rfl, hbl, hd, hc0, hc1⟩ := RdM.at_ (hx.below hb2 (Nat.le_refl _)) (k := k) (by rw [HL.out]; exact hlt)
            have HD := Lib.hid (twoM_drop hd)
            clear hd
            by_cases he : a = b
            · have hbe : (a == b) = true := by simp [he]
              have HE : Hid ((a != b) = false) := Lib.hid (by simp [he])
              clear he
              go_wp2
              go_ret
              exact ⟨ret_int (by rw [ckCl_form HZ.out HA.out (by rw [HT.out, HD.out, HE.out, Bool.false_and])]), hb2.trans (by go_grown)⟩
            · have hbe : (a == b) = false := by simp [he]
              have HE : Hid ((a != b) = true) := Lib.hid (by simp [he])
              clear he
              go_wp2
              go_round
              case rel => exact ⟨k + 1, by omega, by go_num, by rw [HT.out, HD.out, HE.out, Bool.true_and], hb2.trans (by go_grown)⟩
              case measure => (simp [intOf]; omega)
          · have htw : twoM l = true := by rw [HT.out, List.drop_of_length_le (by rw [HL.out]; omega)]; rfl
            have HW := Lib.hid htw
            clear htw
            go_wp2
            go_ret
            exact ⟨ret_int (by rw [ckCl_zero HZ.out HA.out HW.out]), hb2⟩
  · have g : n < 1 ∨ 8 < n ∨ 28 < len := by
      unfold sizesC at hz
      rw [hl] at hz
      omega
    rw [ckCl_large hz]
    clear hz hl
    by_cases g1 : n < 1
    · go_enter Tryd.func7, Tryd.ntmps7
      go_wp2
      go_ret
      exact ⟨rfl, Below.refl _ _⟩
    · by_cases g2 : 8 < n
      · go_enter Tryd.func7, Tryd.ntmps7
        go_wp2
        go_ret
        exact ⟨rfl, Below.refl _ _⟩
      · have g3 : (28 : Int) < (len : Int) := by omega
        go_enter Tryd.func7, Tryd.ntmps7
        go_wp2
        go_ret
        exact ⟨rfl, Below.refl _ _⟩

theorem clashes_any (n : Int) (A : Option Addr) (len cap : Nat) (l : List (Int × Int)) (w : World) (hx : RdM w w.heap.size A l) (hl : l.length = len) (hm : len ≤ maxLen) :
    Calls Tryd.prog 10 #[.int .i64 n, .slice A len cap] w fun e w' => e = .returned (.bool (ckCl n l == 0)) ∧ Below w.heap.size w w' := by
  have HC := Lib.hid (clashCheck_any n A len cap l w hx hl hm)
  obtain ⟨x, hx0⟩ : ∃ x, ckCl n l = x := ⟨_, rfl⟩
  rw [hx0] at HC ⊢
  clear hx hl hm hx0
  go_enter Tryd.func10, Tryd.ntmps10
  go_wp2_with fail
  refine HC.out.mono ?_
  rintro e w1 ⟨rfl, hb1⟩
  go_wp2
  go_ret
  exact ⟨rfl, hb1⟩

/-! ### Do two clash? -/

theorem clP_cons (p : Nat × Nat) (ps : List (Nat × Nat)) (i j : Nat) : clP (p :: ps) i j = (((p.1 == i && p.2 == j) || (p.1 == j && p.2 == i)) || clP ps i j) := rfl

theorem clP_hit {ps : List (Nat × Nat)} {k a b i j : Nat} (h : ps[k]? = some (a, b)) (hh : a = i ∧ b = j ∨ a = j ∧ b = i) : clP (ps.drop k) i j = true := by
  rw [drop_at h, clP_cons]
  rcases hh with ⟨rfl, rfl⟩ | ⟨rfl, rfl⟩ <;> simp

theorem clP_miss {ps : List (Nat × Nat)} {k a b i j : Nat} (h : ps[k]? = some (a, b)) (hh : ¬ (a = i ∧ b = j ∨ a = j ∧ b = i)) : clP (ps.drop k) i j = clP (ps.drop (k + 1)) i j := by
  rw [drop_at h, clP_cons]
  have e : ((a == i && b == j) || (a == j && b == i)) = false := by
    rw [Bool.eq_false_iff]
    intro h2
    simp at h2
    exact hh h2
  simp only
  rw [e, Bool.false_or]

set_option maxHeartbeats 4000000 in
theorem clash_any (A : Option Addr) (len cap : Nat) (ps : List (Nat × Nat)) (i j : Nat) (w : World) (hx : RdM w w.heap.size A (mvI ps)) (hl : ps.length = len) (hm : len ≤ 65536) :
    Calls Tryd.prog 9 #[.slice A len cap, .int .i64 i, .int .i64 j] w fun e w' => e = .returned (.bool (clP ps i j)) ∧ Below w.heap.size w w' := by
  have HL := Lib.hid hl
  clear hl
  go_enter Tryd.func9, Tryd.ntmps9
  go_wp2
  go_loopw [11] (fun s wr => ∃ k : Nat, k ≤ len ∧ s = .int .i64 k ∧ clP ps i j = clP (ps.drop k) i j ∧ Below w.heap.size w wr) (fun s _ => len - (intOf s).toNat)
  case atStart => exact ⟨0, Nat.zero_le _, rfl, rfl, Below.refl _ _⟩
  case round =>
    obtain ⟨k, hk, rfl, hr, hb⟩ := hrel
    have HR := Lib.hid hr
    have hsz := hb.size
    clear hr
    by_cases hlt : k < len
    · obtain ⟨ad, a, b, rfl, hbl, hd, hc0, hc1⟩ := RdN.at_ (hx.below hb (Nat.le_refl _)) (k := k) (by rw [HL.out]; exact hlt)
      have HD := Lib.hid hd
      clear hd
      by_cases hh : a = i ∧ b = j ∨ a = j ∧ b = i
      · have HH := Lib.hid (clP_hit HD.out hh)
        by_cases h1 : a = i ∧ b = j
        · have e1 : ((a : Int) == (i : Int)) = true := by simp [h1.1]
          have e2 : ((b : Int) == (j : Int)) = true := by simp [h1.2]
          clear h1 hh
          go_wp2
          go_ret
          exact ⟨ret_bool (by rw [HR.out, HH.out]), hb.trans (by go_grown)⟩
        · have h2 : a = j ∧ b = i := hh.resolve_left h1
          have e3 : ((a : Int) == (j : Int)) = true := by simp [h2.1]
          have e4 : ((b : Int) == (i : Int)) = true := by simp [h2.2]
          have h3 : ((a : Int) == (i : Int)) = false ∨ ((a : Int) == (i : Int)) = true ∧ ((b : Int) == (j : Int)) = false := by
            by_cases h4 : a = i
            · exact .inr ⟨by simp [h4], by simp; omega⟩
            · exact .inl (by simp; omega)
          clear h1 h2 hh
          rcases h3 with e1 | ⟨e1, e2⟩
          · go_wp2
            go_ret
            exact ⟨ret_bool (by rw [HR.out, HH.out]), hb.trans (by go_grown)⟩
          · go_wp2
            go_ret
            exact ⟨ret_bool (by rw [HR.out, HH.out]), hb.trans (by go_grown)⟩
      · have HH := Lib.hid (clP_miss HD.out hh)
        have h3 : ((a : Int) == (i : Int)) = false ∨ ((a : Int) == (i : Int)) = true ∧ ((b : Int) == (j : Int)) = false := by
          by_cases h4 : a = i
          · exact .inr ⟨by simp [h4], by simp; omega⟩
          · exact .inl (by simp; omega)
        have h5 : ((a : Int) == (j : Int)) = false ∨ ((a : Int) == (j : Int)) = true ∧ ((b : Int) == (i : Int)) = false := by
          by_cases h4 : a = j
          · exact .inr ⟨by simp [h4], by simp; omega⟩
          · exact .inl (by simp; omega)
        clear hh
        rcases h3 with e1 | ⟨e1, e2⟩
        all_goals
          rcases h5 with e3 | ⟨e3, e4⟩
        all_goals (
          go_wp2
          go_round
          case rel => exact ⟨k + 1, by omega, by go_num, by rw [HR.out, HH.out], hb.trans (by go_grown)⟩
          case measure => (simp [intOf]; omega))
    · go_wp2
      go_ret
      exact ⟨ret_bool (by rw [HR.out, List.drop_of_length_le (by rw [HL.out]; omega)]; rfl), hb⟩

end Go.Proofs.YthmcigdoaededaaDoor
