/-
  known.check (L1, L2), with its closure and slices.ContainsFunc over ints.
-/
import Derived.Test.YtdckagledddkdaaKnownIs
import Derived.Test.YtdckagledddkdaaBlockCheck
namespace Go.Proofs.Ytdckagledddkdaa
open Go.RowKit
set_option linter.unusedSimpArgs false
set_option linter.unusedVariables false
set_option maxRecDepth 100000

set_option maxHeartbeats 1000000 in
theorem isWrong_any (x : Int) (w : World) :
    Calls Try.prog 37 #[.int .i64 x] w fun e w' => e = .returned (.bool (!okS1 x)) ∧ w = w' := by
  by_cases h1 : x = -1
  · have f1 : (x != -1) = false := by simp [h1]
    have HO : Hid ((!okS1 x) = false) := Lib.hid (by simp [okS1, h1])
    rw [HO.out]
    clear h1
    go_enter Try.func37, Try.ntmps37
    go_wp2
    go_ret
    exact ⟨rfl, rfl⟩
  · have f1 : (x != -1) = true := by simp [h1]
    by_cases h2 : x < 0
    · have f2 : decide (x < 0) = true := by simp [h2]
      have HO : Hid ((!okS1 x) = true) := Lib.hid (by simp [okS1]; omega)
      rw [HO.out]
      clear h1 h2
      go_enter Try.func37, Try.ntmps37
      go_wp2
      go_ret
      exact ⟨rfl, rfl⟩
    · have f2 : decide (x < 0) = false := by simp; omega
      have HO : Hid ((!okS1 x) = decide (255 < x)) := Lib.hid (by
        unfold okS1
        by_cases h3 : x ≤ 255
        · rw [decide_eq_true (by omega), decide_eq_false (by omega)]; rfl
        · rw [decide_eq_false (by omega), decide_eq_true (by omega)]; rfl)
      rw [HO.out]
      clear h1 h2
      go_enter Try.func37, Try.ntmps37
      go_wp2
      go_ret
      exact ⟨rfl, rfl⟩

set_option maxHeartbeats 4000000 in
theorem indexWrong_any (A : Option Addr) (n c : Nat) (l : List Int) (w : World) (hx : RdI w w.heap.size A l) (hl : l.length = n) (hn : n ≤ maxLen) :
    Calls Try.prog 47 #[.slice A n c, .func (.func 37) #[] #[]] w fun e w' => ∃ r : Int, e = .returned (.int .i64 r) ∧ decide (0 ≤ r) = !l.all okS1 ∧ w = w' := by
  unfold maxLen at hn
  have HL := Lib.hid hl
  clear hl
  go_enter Try.func47, Try.ntmps47
  go_wp2
  go_loop [8] (fun z => ∃ k : Nat, k ≤ n ∧ z = .int .i64 k ∧ (l.take k).all okS1 = true) (fun z => n - (intOf z).toNat)
  case atStart => exact ⟨0, Nat.zero_le _, rfl, rfl⟩
  case round =>
    obtain ⟨k, hk, rfl, hok⟩ := hrel
    have HO := Lib.hid hok
    clear hok
    by_cases hlt : k < n
    · obtain ⟨ad, x, rfl, hbl, hd, hcell⟩ := hx.at_ (k := k) (by rw [HL.out]; exact hlt)
      have HD := Lib.hid hd
      clear hd
      cases hb : okS1 x
      · have HNO : Hid (l.all okS1 = false) := Lib.hid (by
          cases e : l.all okS1 with
          | false => rfl
          | true =>
            have := List.all_eq_true.1 e x (List.mem_of_getElem? HD.out)
            rw [hb] at this
            cases this)
        have HB := Lib.hid hb
        clear hb
        go_wp2_with (go_at_call 37; (with_reducible refine (isWrong_any x _).mono ?_); rw [HB.out]; rintro e w5 ⟨rfl, rfl⟩)
        go_ret
        exact ⟨_, rfl, by rw [HNO.out]; simp, rfl⟩
      · have HNX : Hid ((l.take (k + 1)).all okS1 = true) := Lib.hid (by rw [List.take_add_one, HD.out, Option.toList_some, List.all_append, HO.out]; simp [hb])
        have HB := Lib.hid hb
        clear hb
        go_wp2_with (go_at_call 37; (with_reducible refine (isWrong_any x _).mono ?_); rw [HB.out]; rintro e w5 ⟨rfl, rfl⟩)
        go_round
        case rel => exact ⟨k + 1, by omega, by go_num, HNX.out⟩
        case measure => (simp [intOf]; omega)
    · have HYES : Hid (l.all okS1 = true) := Lib.hid (by
        have := HO.out
        rwa [List.take_of_length_le (by rw [HL.out]; omega)] at this)
      go_wp2
      go_ret
      exact ⟨_, rfl, by rw [HYES.out]; rfl, rfl⟩

set_option maxHeartbeats 1000000 in
theorem containsWrong_any (A : Option Addr) (n c : Nat) (l : List Int) (w : World) (hx : RdI w w.heap.size A l) (hl : l.length = n) (hn : n ≤ maxLen) :
    Calls Try.prog 38 #[.slice A n c, .func (.func 37) #[] #[]] w fun e w' => e = .returned (.bool (!l.all okS1)) ∧ w = w' := by
  have HC := Lib.hid (indexWrong_any A n c l w hx hl hn)
  clear hx hl
  go_enter Try.func38, Try.ntmps38
  go_wp2_with fail
  refine HC.out.mono ?_
  rintro e w5 ⟨r, rfl, hr, rfl⟩
  have HR := Lib.hid hr
  clear hr
  go_wp2
  go_ret
  exact ⟨ret_bool (by rw [← HR.out]), rfl⟩

set_option maxHeartbeats 4000000 in
theorem knownCheck_any (vars : Int) (A VA : Option Addr) (len cap vl vcap : Nat) (p : List Bk) (hv : List Int) (w : World) (hx : RdP w w.heap.size A p) (hh : RdI w w.heap.size VA hv) (hl : p.length = len) (hm : len ≤ maxLen) (hin : CodeFits p) (hhl : hv.length = vl) (hvm : vl ≤ maxLen) :
    Calls Try.prog 22 #[.int .i64 vars, .slice A len cap, .slice VA vl vcap] w fun e w' => e = .returned (.int .i64 (ckKnow vars p hv)) ∧ Below w.heap.size w w' := by
  have HCK := Lib.hid (blockCheck_any vars A len cap p w hx hl hm hin)
  unfold ckKnow
  by_cases h0 : ckProg vars p = 0
  · rw [if_pos h0]
    rw [h0] at HCK
    unfold ckStart
    rw [hhl]
    by_cases h1 : (vl : Int) ≠ vars
    · rw [if_pos h1]
      have f1 : ((vl : Int) != vars) = true := by simp [h1]
      clear hx hl hin h0 h1 hh hhl
      go_enter Try.func22, Try.ntmps22
      go_wp2_with (go_at_call 31; (with_reducible refine HCK.out.mono ?_); rintro e w1 ⟨rfl, hb1⟩)
      go_ret
      exact ⟨rfl, hb1⟩
    · rw [if_neg h1]
      have f1 : ((vl : Int) != vars) = false := by simp; omega
      have HCF := Lib.hid (fun (Z : World) (hZ : Below w.heap.size w Z) => containsWrong_any VA vl vcap hv Z ((hh.below hZ (Nat.le_refl _)).more hZ.size) hhl hvm)
      obtain ⟨b, hb⟩ : ∃ b, hv.all okS1 = b := ⟨_, rfl⟩
      rw [hb] at HCF ⊢
      clear hx hl hin h0 h1 hh hhl hb
      cases b
      · go_enter Try.func22, Try.ntmps22
        go_wp2_with (go_at_call 31; (with_reducible refine HCK.out.mono ?_); rintro e w1 ⟨rfl, hb1⟩)
        go_wp2_with fail
        refine (HCF.out _ hb1).mono ?_
        rintro e w2 ⟨rfl, rfl⟩
        go_wp2
        go_ret
        exact ⟨rfl, hb1⟩
      · go_enter Try.func22, Try.ntmps22
        go_wp2_with (go_at_call 31; (with_reducible refine HCK.out.mono ?_); rintro e w1 ⟨rfl, hb1⟩)
        go_wp2_with fail
        refine (HCF.out _ hb1).mono ?_
        rintro e w2 ⟨rfl, rfl⟩
        go_wp2
        go_ret
        exact ⟨rfl, hb1⟩
  · rw [if_neg h0]
    have e1 : (ckProg vars p != 0) = true := by simp [h0]
    clear hx hl hin h0 hh hhl
    go_enter Try.func22, Try.ntmps22
    go_wp2_with (go_at_call 31; (with_reducible refine HCK.out.mono ?_); rintro e w1 ⟨rfl, hb1⟩)
    go_ret
    exact ⟨rfl, hb1⟩

end Go.Proofs.Ytdckagledddkdaa
