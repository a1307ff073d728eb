/-
  The reference's MoveFrom, MovesCheck, Moved return what they say (N1).
-/
import Derived.Test.YtlknmfabfmmggaaSwapMv
import Derived.Test.YtlknmfabfmmggaaMBase
import Derived.BigQuiet
namespace Go.Proofs.Ytlknmfabfmmggaa
open Go.RowKit
set_option linter.unusedSimpArgs false
set_option linter.unusedVariables false
set_option maxRecDepth 100000

theorem nvF_drop {l : List (Nat × Nat)} {k a b : Nat} (h : l[k]? = some (a, b)) (r : Nat) : nvF (l.drop k) r = if a = r then b else nvF (l.drop (k + 1)) r := by
  rw [drop_at h, nvF_cons]

set_option maxHeartbeats 1000000 in
theorem moveFrom_any (A : Option Addr) (len cap : Nat) (l : List (Nat × Nat)) (r : Nat) (w : World) (hx : RdM w w.heap.size A (mvI l)) (hl : l.length = len) (hm : len ≤ 65536) :
    Calls Try.prog 12 #[.slice A len cap, .int .i64 r] w fun e w' => e = .returned (.int .i64 (nvF l r : Nat)) ∧ Below w.heap.size w w' := by
  have HL := Lib.hid hl
  clear hl
  go_enter Try.func12, Try.ntmps12
  go_wp2
  go_loopw [9] (fun i wr => ∃ k : Nat, k ≤ len ∧ i = .int .i64 k ∧ nvF l r = nvF (l.drop k) r ∧ Below w.heap.size w wr) (fun i _ => len - (intOf i).toNat)
  case atStart => exact ⟨0, Nat.zero_le _, rfl, rfl, Below.refl _ _⟩
  case round =>
    obtain ⟨k, hk, rfl, hr, hb⟩ := hrel
    have HR := Lib.hid hr
    have hsz := hb.size
    clear hr
    by_cases hlt : k < len
    · obtain ⟨ad, a, b, rfl, hbl, hd, hc0, hc1⟩ := RdN.at_ (hx.below hb (Nat.le_refl _)) (k := k) (by rw [HL.out]; exact hlt)
      have HD := Lib.hid (nvF_drop hd r)
      clear hd
      by_cases he : a = r
      · have HE := Lib.hid he
        have hb1 : ((a : Int) == (r : Int)) = true := by simp [he]
        clear he
        go_wp2
        go_ret
        exact ⟨ret_int (by rw [HR.out, HD.out, if_pos HE.out]), hb.trans (by go_grown)⟩
      · have HE := Lib.hid he
        have hb1 : ((a : Int) == (r : Int)) = false := by simp; omega
        clear he
        go_wp2
        go_round
        case rel => exact ⟨k + 1, by omega, by go_num, by rw [HR.out, HD.out, if_neg HE.out], hb.trans (by go_grown)⟩
        case measure => (simp [intOf]; omega)
    · go_wp2
      go_ret
      exact ⟨ret_int (by rw [HR.out, List.drop_of_length_le (by rw [HL.out]; omega)]; rfl), hb⟩

/-! ### The check -/

theorem tos_at {l : List (Int × Int)} {i : Nat} {t f : Int} (h : l[i]? = some (t, f)) : (l.map Prod.fst)[i]? = some t := by rw [List.getElem?_map, h]; rfl

theorem nd_hit {l : List (Int × Int)} {i j : Nat} {t f g : Int} (h : l[i]? = some (t, f)) (h2 : l[j]? = some (t, g)) (hj : j < i) : ¬ (l.map Prod.fst).Nodup := fun hn => by
  have h3 := tos_at h
  have h4 := tos_at h2
  unfold List.Nodup at hn
  rw [List.pairwise_iff_getElem] at hn
  obtain ⟨p1, q1⟩ := List.getElem?_eq_some_iff.1 h3
  obtain ⟨p2, q2⟩ := List.getElem?_eq_some_iff.1 h4
  exact hn j i p2 p1 hj (q2.trans q1.symm)

theorem nd_all {l : List (Int × Int)} (h : ∀ a b, b < a → a < l.length → (l.map Prod.fst)[a]? ≠ (l.map Prod.fst)[b]?) : (l.map Prod.fst).Nodup := by
  unfold List.Nodup
  rw [List.pairwise_iff_getElem]
  intro j i hj hi hji he
  refine h i j hji (by simpa using hi) ?_
  rw [List.getElem?_eq_getElem hi, List.getElem?_eq_getElem hj, he]

set_option maxHeartbeats 4000000 in
theorem movesCheck_any (n : Int) (A : Option Addr) (len cap : Nat) (l : List (Int × Int)) (w : World) (hx : RdM w w.heap.size A l) (hl : l.length = len) (hm : len ≤ maxLen) :
    Calls Try.prog 7 #[.int .i64 n, .slice A len cap] w fun e w' => e = .returned (.int .i64 (ckMv n l)) ∧ Below w.heap.size w w' := by
  have HM := Lib.hid hm
  unfold maxLen at hm
  by_cases hz : sizesM n l
  · have HZ := Lib.hid hz
    obtain ⟨h1, h8, hl8⟩ := hz
    rw [hl] at hl8
    have HL := Lib.hid hl
    have g1 : ¬ n < 1 := by omega
    have g2 : ¬ 8 < n := by omega
    have g3 : ¬ (8 : Int) < (len : Int) := by omega
    clear hl
    go_enter Try.func7, Try.ntmps7
    go_wp2
    go_loopw [22] (fun i wr => ∃ k : Nat, k ≤ len ∧ i = .int .i64 k ∧ allM n l = allM n (l.drop k) ∧ Below w.heap.size w wr) (fun i _ => len - (intOf i).toNat)
    case atStart => exact ⟨0, Nat.zero_le _, rfl, rfl, Below.refl _ _⟩
    case round =>
      obtain ⟨k, hk, rfl, hr, hb⟩ := hrel
      have HR := Lib.hid hr
      have hsz := hb.size
      clear hr
      by_cases hlt : k < len
      · obtain ⟨ad, a, b, rfl, hbl, hd, hc0, hc1⟩ := RdM.at_ (hx.below hb (Nat.le_refl _)) (k := k) (by rw [HL.out]; exact hlt)
        have HD := Lib.hid (allM_drop (n := n) hd)
        clear hd
        have hin : inM n (a, b) = decide (0 ≤ a ∧ a < n ∧ 0 ≤ b ∧ b < n) := rfl
        by_cases he : inM n (a, b) = true
        · have HE := Lib.hid he
          rw [he] at hin
          have HIN := Lib.hid hin
          clear he hin
          go_wp2_with (go_at_call 10; (with_reducible refine (inside2_any n a b _ _ _ (by simp) (by simp)).mono ?_); rintro e w2 ⟨rfl, rfl⟩; rw [← HIN.out])
          go_round
          case rel => exact ⟨k + 1, by omega, by go_num, by rw [HR.out, HD.out, HE.out, Bool.true_and], hb.trans (by go_grown)⟩
          case measure => (simp [intOf]; omega)
        · have he2 : inM n (a, b) = false := by simpa using he
          have HE := Lib.hid he2
          rw [he2] at hin
          have HIN := Lib.hid hin
          clear he he2 hin
          go_wp2_with (go_at_call 10; (with_reducible refine (inside2_any n a b _ _ _ (by simp) (by simp)).mono ?_); rintro e w2 ⟨rfl, rfl⟩; rw [← HIN.out])
          go_ret
          exact ⟨ret_int (by rw [ckMv_arg HZ.out (by rw [HR.out, HD.out, HE.out, Bool.false_and])]), hb.trans (by go_grown)⟩
      · have hall : allM n l = true := by rw [HR.out, List.drop_of_length_le (by rw [HL.out]; omega)]; rfl
        have HA := Lib.hid hall
        have hx1 := (hx.below hb (Nat.le_refl _)).more hb.size
        clear hall
        obtain ⟨w1, rfl⟩ : ∃ w1 : World, w1 = wr := ⟨_, rfl⟩
        go_wp2
        go_loopw [7] (fun i wr => ∃ k : Nat, k ≤ len ∧ i = .int .i64 k ∧ Hid (∀ a b, b < a → a < k → (l.map Prod.fst)[a]? ≠ (l.map Prod.fst)[b]?) ∧ Below w1.heap.size w1 wr) (fun i _ => len - (intOf i).toNat)
        case atStart => exact ⟨0, Nat.zero_le _, rfl, Lib.hid fun a b _ h => by omega, Below.refl _ _⟩
        case round =>
          obtain ⟨k, hk, rfl, HN, hb2⟩ := hrel
          have hsz2 := hb2.size
          by_cases hkl : k < len
          · obtain ⟨ad, t, f, rfl, hbl, hd, hc0, hc1⟩ := RdM.at_ hx1 (k := k) (by rw [HL.out]; exact hkl)
            have HD := Lib.hid hd
            clear hd hc1
            obtain ⟨w3, rfl⟩ : ∃ w3 : World, w3 = wr := ⟨_, rfl⟩
            go_wp2
            go_loopw [8] (fun i wr => ∃ j : Nat, j ≤ k ∧ i = .int .i64 j ∧ Hid (∀ b, b < j → (l.map Prod.fst)[k]? ≠ (l.map Prod.fst)[b]?) ∧ Below w1.heap.size w1 wr) (fun i _ => k - (intOf i).toNat)
            case atStart => exact ⟨0, Nat.zero_le _, rfl, Lib.hid fun b h => by omega, hb2⟩
            case round =>
              obtain ⟨j, hj, rfl, HJ, hb3⟩ := hrel
              have hsz3 := hb3.size
              by_cases hjk : j < k
              · obtain ⟨ad', t', f', hAA, hbl', hd', hc0', hc1'⟩ := RdM.at_ hx1 (k := j) (by rw [HL.out]; omega)
                injection hAA with hAA
                subst hAA
                have HD' := Lib.hid hd'
                have hp0 := (hb3.cell hbl).trans hc0
                have hp1 := (hb3.cell hbl').trans hc0'
                clear hd' hc1' hc0'
                by_cases ht : t = t'
                · have hbt : (t == t') = true := by simp [ht]
                  have HT := Lib.hid ht
                  clear ht
                  go_wp2
                  go_quiet (fail)
                  go_wp2
                  go_ret
                  exact ⟨ret_int (by rw [ckMv_form HZ.out HA.out (nd_hit HD.out (by rw [HT.out]; exact HD'.out) hjk)]), below_drewN (hb.trans (hb3.mono hsz)) _⟩
                · have hbt : (t == t') = false := by simp [ht]
                  have HT := Lib.hid ht
                  clear ht
                  go_wp2
                  go_quiet (fail)
                  go_wp2
                  go_round
                  case rel =>
                    refine ⟨j + 1, by omega, by go_num, Lib.hid fun b hb => ?_, below_drewN hb3 _⟩
                    rcases Nat.lt_or_ge b j with h | h
                    · exact HJ.out b h
                    · have : b = j := by omega
                      subst this
                      rw [tos_at HD.out, tos_at HD'.out]
                      intro h
                      injection h with h
                      exact HT.out h
                  case measure => (simp [intOf]; omega)
              · have hjk2 : j = k := by omega
                subst hjk2
                go_wp2
                go_round
                case rel =>
                  refine ⟨j + 1, by omega, by go_num, Lib.hid fun a b h1 h2 => ?_, hb3⟩
                  rcases Nat.lt_or_ge a j with h | h
                  · exact HN.out a b h1 h
                  · have : a = j := by omega
                    subst this
                    exact HJ.out b h1
                case measure => (simp [intOf]; omega)
          · go_wp2
            go_ret
            exact ⟨ret_int (by rw [ckMv_zero HZ.out HA.out (nd_all fun a b h1 h2 => HN.out a b h1 (by rw [HL.out] at h2; omega))]), hb.trans (hb2.mono hsz)⟩
    -- no
  · have g : n < 1 ∨ 8 < n ∨ 8 < len := by
      unfold sizesM at hz
      rw [hl] at hz
      omega
    rw [ckMv_large hz]
    clear hz hl
    by_cases g1 : n < 1
    · go_enter Try.func7, Try.ntmps7
      go_wp2
      go_ret
      exact ⟨rfl, Below.refl _ _⟩
    · by_cases g2 : 8 < n
      · go_enter Try.func7, Try.ntmps7
        go_wp2
        go_ret
        exact ⟨rfl, Below.refl _ _⟩
      · have g3 : (8 : Int) < (len : Int) := by omega
        go_enter Try.func7, Try.ntmps7
        go_wp2
        go_ret
        exact ⟨rfl, Below.refl _ _⟩

end Go.Proofs.Ytlknmfabfmmggaa
