/-
  codemasonref.Level (Q1).
-/
import Derived.Test.YthmcigdoaededaaPlanPure
namespace Go.Proofs.Ythmcigdoaededaa
open Go.RowKit
set_option linter.unusedSimpArgs false
set_option linter.unusedVariables false
set_option maxRecDepth 100000

set_option maxHeartbeats 4000000 in
theorem level_any (n c B : Nat) (A : Option Addr) (ps : List (Nat × Nat)) (hk : TkOk n ps) : ∀ (q i : Nat) (w : World), i < n → lvT n ps i ≤ q → RdG w B A (bhG n ps) →
    Calls Try.prog 12 #[.slice A n c, .int .i64 i] w fun e w' => e = .returned (.int .i64 (lvT n ps i : Nat)) ∧ w = w'
  | 0, i, w, hi, hq, _ => by have := hk.lev.pos i hi; omega
  | q + 1, i, w, hi, hq, hx => by
    have IH := Lib.hid (fun j (hj : j < n) (hlt : lvT n ps j ≤ q) => level_any n c B A ps hk q j w hj hlt hx)
    obtain ⟨ad, row, Ar, cr, rfl, hbl, hd, hcell, hrow⟩ := hx.at_ (k := i) (by rw [bhG_len]; exact hi)
    rw [bhG_at ps hi] at hd
    injection hd with hd
    have HROWE := Lib.hid hd
    obtain ⟨rl, hrl⟩ : ∃ rl, row.length = rl := ⟨_, rfl⟩
    have HRL := Lib.hid hrl
    rw [hrl] at hcell
    have HRW := Lib.hid hrow
    have hs := hk.short
    have hrl28 : rl ≤ 28 := by
      have := bhL_len ps i
      rw [← hrl, ← hd]
      simp [ni]
      omega
    have HBL : Hid ((bhL ps i).length = rl) := Lib.hid (by rw [← hrl, ← hd]; simp [ni])
    have HST := Lib.hid (hk.lev_step hi)
    have HDN : Hid (∀ b, b ∈ bhL ps i → b < n ∧ lvT n ps b ≤ q ∧ lvT n ps b ≤ n) := Lib.hid fun b hb => by
      have h1 := hk.ins _ (bhL_mem.1 hb)
      have h2 := hk.lev.down i b hi h1.2 (bhL_mem.1 hb)
      exact ⟨h1.2, by omega, hk.lev_le h1.2⟩
    have hn8 := hk.small
    clear hd hrl hrow hs hk
    go_enter Try.func12, Try.ntmps12
    go_wp2
    go_loop [5, 14] (fun m z => ∃ (c mo : Nat), c ≤ rl ∧ mo ≤ n ∧ z = .int .i64 c ∧ m = .int .i64 mo ∧ Hid (mo = mxL (((bhL ps i).take c).map (lvT n ps)))) (fun _ z => rl - (intOf z).toNat)
    case atStart => exact ⟨0, 0, Nat.zero_le _, Nat.zero_le _, rfl, rfl, Lib.hid rfl⟩
    case round =>
      obtain ⟨c2, mo, hc, hmo, rfl, rfl, HM⟩ := hrel
      by_cases hcl : c2 < rl
      · obtain ⟨ar, x, rfl, hbr, hxr, hcx⟩ := HRW.out.at_ (k := c2) (by rw [HRL.out]; exact hcl)
        have hxb : ∃ b, (bhL ps i)[c2]? = some b ∧ x = (b : Int) := by
          rw [← HROWE.out] at hxr
          unfold ni at hxr
          rw [List.getElem?_map] at hxr
          obtain ⟨b, e1, e2⟩ := Option.map_eq_some_iff.1 hxr
          exact ⟨b, e1, e2.symm⟩
        obtain ⟨b, hbc, rfl⟩ := hxb
        obtain ⟨d1, d2, d3⟩ := HDN.out b (List.mem_of_getElem? hbc)
        have HL := Lib.hid (IH.out b d1 d2)
        have HM2 : Hid (max mo (lvT n ps b) = mxL (((bhL ps i).take (c2 + 1)).map (lvT n ps))) := Lib.hid (by rw [List.take_add_one, hbc, Option.toList_some, List.map_append, HM.out]; exact (mxL_snoc _ _).symm)
        obtain ⟨lb, hlb⟩ : ∃ lb, lvT n ps b = lb := ⟨_, rfl⟩
        rw [hlb] at HL HM2 d3
        clear hxr hbc hlb d2
        by_cases hgt : mo < lb
        · rw [Nat.max_eq_right (by omega)] at HM2
          go_wp2_with (go_at_call 12; (with_reducible refine HL.out.mono ?_); rintro e w5 ⟨rfl, rfl⟩)
          go_round
          case rel => exact ⟨c2 + 1, lb, by omega, by omega, by go_num, rfl, HM2⟩
          case measure => (simp [intOf]; omega)
        · rw [Nat.max_eq_left (by omega)] at HM2
          go_wp2_with (go_at_call 12; (with_reducible refine HL.out.mono ?_); rintro e w5 ⟨rfl, rfl⟩)
          go_round
          case rel => exact ⟨c2 + 1, mo, by omega, by omega, by go_num, rfl, HM2⟩
          case measure => (simp [intOf]; omega)
      · have hcr : c2 = rl := by omega
        subst hcr
        have HF : Hid (lvT n ps i = mo + 1) := Lib.hid (by rw [HST.out, HM.out, List.take_of_length_le (by rw [HBL.out]; exact Nat.le_refl _)])
        go_wp2
        go_ret
        exact ⟨ret_int (by rw [HF.out]; go_num), rfl⟩

end Go.Proofs.Ythmcigdoaededaa
