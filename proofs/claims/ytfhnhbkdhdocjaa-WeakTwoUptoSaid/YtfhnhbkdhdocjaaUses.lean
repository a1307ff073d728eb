/-
  term.Uses returns the variables on which the last term depends, or the first error.
-/
import Derived.Test.YtfhnhbkdhdocjaaNeeds
import Derived.Test.YtfhnhbkdhdocjaaMTerm
import Derived.Laws.BitsAllLaws
namespace Go.Proofs.Ytfhnhbkdhdocjaa
open Go.RowKit
set_option linter.unusedSimpArgs false
set_option linter.unusedVariables false
set_option maxRecDepth 100000

theorem ret_ui {a c d : Int} {b : Int} (h : a = b) (h' : c = d) : Ending.returned (.tuple #[.int .u32 a, .int .i64 c]) = .returned (.tuple #[.int .u32 b, .int .i64 d]) := by rw [h, h']

theorem or_lt {a b : Nat} (ha : a < 64) (hb : b < 64) : a ||| b < 64 := Nat.or_lt_two_pow (n := 6) ha hb

theorem pow_lt_64 {v : Nat} (h : v < 6) : 2 ^ v < 64 := by
  have : 2 ^ v ≤ 2 ^ 5 := Nat.pow_le_pow_right (by omega) (by omega)
  omega

theorem pow_u32 {v : Nat} (h : v < 6) : (2 : Int) ^ v % 4294967296 = ((2 ^ v : Nat) : Int) := by
  have h1 := pow_lt_64 h
  have h2 : (2 : Int) ^ v = ((2 ^ v : Nat) : Int) := by simp
  rw [h2]
  exact Int.emod_eq_of_lt (Int.natCast_nonneg _) (Int.ofNat_lt.2 (show 2 ^ v < 4294967296 by omega))

set_option maxHeartbeats 4000000 in
theorem uses_any (vars : Int) (A : Option Addr) (len cap : Nat) (l : List Tm) (w : World) (hx : RdT w w.heap.size A l) (hl : l.length = len) :
    Calls Try.prog 63 #[.int .i64 vars, .slice A len cap] w fun e w' => e = .returned (.tuple #[.int .u32 (usesR vars l : Nat), .int .i64 (ckTerms vars l)]) ∧ Below w.heap.size w w' := by
  have HL := Lib.hid hl
  clear hl
  by_cases h1 : ckTerms vars l = 0
  · have HC := Lib.hid h1
    have hR : usesR vars l = usW (needL l) l 0 := by unfold usesR usesW; rw [if_pos h1]
    have hbd := ckTerms_bd h1
    rw [hR, h1]
    rw [HL.out] at hbd
    clear hR h1
    go_enter Try.func63, Try.ntmps63
    go_wp2_with fail
    refine (check_any vars A len cap l _ hx HL.out).mono ?_
    rintro e w1 ⟨rfl, hb1⟩
    rw [HC.out]
    go_wp2_with fail
    refine (needs_any vars A len cap l _ ((hx.below hb1 (Nat.le_refl _)).more hb1.size) HL.out HC.out).mono ?_
    rintro e w2 ⟨g, rfl, hown, hb2, hg⟩
    have hbw := hb1.trans (hb2.mono hb1.size)
    have hx2 := (hx.below hbw (Nat.le_refl _)).more hbw.size
    have HNL := Lib.hid (needL_len l)
    clear hx hb1 hb2
    go_wp2_with fail
    go_loop [7, 19] (fun s i => ∃ k acc : Nat, k ≤ len ∧ acc < 64 ∧ i = .int .i64 k ∧ s = .int .u32 acc ∧ usW (needL l) l 0 = usW ((needL l).drop k) (l.drop k) acc) (fun _ i => len - (intOf i).toNat)
    case atStart => exact ⟨0, 0, Nat.zero_le _, by omega, rfl, rfl, rfl⟩
    case round =>
      obtain ⟨k, acc, hk, hacc, rfl, rfl, hr⟩ := hrel
      have HR := Lib.hid hr
      clear hr
      by_cases hlt : k < len
      · obtain ⟨ad, o, a, b, v, rfl, hbl, hd, hc0, hc1, hc2, hc3⟩ := hx2.at_ (k := k) (by rw [HL.out]; exact hlt)
        obtain ⟨bb, hbb⟩ : ∃ bb, (needL l)[k]? = some bb := ⟨_, List.getElem?_eq_getElem (by rw [HNL.out, HL.out]; exact hlt)⟩
        have hcn := hown.cell (bv_at hbb)
        have hcase := ckTerms_cases HC.out hd
        have hst : usW ((needL l).drop k) (l.drop k) acc = usW ((needL l).drop (k + 1)) (l.drop (k + 1)) (if bb = true ∧ o = 2 then acc ||| 2 ^ v.toNat else acc) := by rw [drop_at hd, drop_at hbb]; rfl
        cases bb with
        | false =>
          rw [if_neg (by simp)] at hst
          have HS := Lib.hid hst
          clear hst hd hbb hcase
          go_wp2
          go_round
          case rel => exact ⟨k + 1, acc, by omega, hacc, by go_num, rfl, by rw [HR.out, HS.out]⟩
          case measure => (simp [intOf]; omega)
        | true =>
          by_cases ho : o = 2
          · rw [if_pos ⟨rfl, ho⟩] at hst
            subst ho
            obtain ⟨vn, rfl⟩ : ∃ vn : Nat, v = vn := ⟨v.toNat, by omega⟩
            have hv6 : vn < 6 := by omega
            have HS := Lib.hid hst
            have hp := pow_lt_64 hv6
            have hor : bits .or .u32 (acc : Int) ((2 ^ vn : Nat) : Int) = ((acc ||| 2 ^ vn : Nat) : Int) := u32_or_nat _ _ (by omega) (by omega)
            clear hst hd hbb hcase
            go_wp2
            go_round
            case rel =>
              refine ⟨k + 1, acc ||| 2 ^ vn, by omega, or_lt hacc hp, by go_num, ?_, by rw [HR.out, HS.out]; rfl⟩
              rw [← hor, pow_u32 hv6]
            case measure => (simp [intOf]; omega)
          · rw [if_neg (by simp [ho])] at hst
            have hob : (o == 2) = false := by simp [ho]
            have HS := Lib.hid hst
            clear hst hd hbb hcase ho
            go_wp2
            go_round
            case rel => exact ⟨k + 1, acc, by omega, hacc, by go_num, rfl, by rw [HR.out, HS.out]⟩
            case measure => (simp [intOf]; omega)
      · have hkl : k = l.length := by rw [HL.out]; omega
        go_wp2
        go_ret2
        exact ⟨ret_ui (by rw [HR.out, hkl, List.drop_length]; cases (needL l).drop l.length <;> rfl) rfl, hbw⟩
  · have hR : usesR vars l = 0 := by unfold usesR; rw [if_neg h1]
    have e1 : (ckTerms vars l != 0) = true := by simp [h1]
    rw [hR]
    clear hR h1
    go_enter Try.func63, Try.ntmps63
    go_wp2_with fail
    refine (check_any vars A len cap l _ hx HL.out).mono ?_
    rintro e w1 ⟨rfl, hb1⟩
    go_wp2_with fail
    go_ret2
    exact ⟨ret_ui rfl rfl, hb1⟩

end Go.Proofs.Ytfhnhbkdhdocjaa
