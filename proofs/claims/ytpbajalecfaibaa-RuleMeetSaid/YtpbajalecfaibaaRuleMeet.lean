/-
  rule.frontier, rule.Meet (F2).
-/
import Derived.Test.YtpbajalecfaibaaRuleEdge
namespace Go.Proofs.Ytpbajalecfaibaa
open Go.RowKit
set_option linter.unusedSimpArgs false
set_option linter.unusedVariables false
set_option maxRecDepth 100000

set_option maxHeartbeats 1000000 in
theorem frontier_any (A : Option Addr) (n c : Nat) (eg : List Nat) (s B : Nat) (w : World) (hx : RdU w B A eg) (hl : eg.length = n) (hlt : ∀ (i W : Nat), eg[i]? = some W → W < 256) (hs : s < 4294967296) (hm : n ≤ 8) :
    Calls Try.prog 32 #[.slice A n c, .int .u32 (s : Nat)] w fun e w' => e = .returned (.int .u32 (frW eg s n : Nat)) ∧ w = w' := by
  have HL := Lib.hid hl
  have HLT := Lib.hid hlt
  have HFL := Lib.hid (fun k => frW_lt (n := 8) (s := s) hlt k)
  clear hl hlt
  go_enter Try.func32, Try.ntmps32
  go_wp2
  go_loop [5, 10] (fun z i => ∃ k m : Nat, k ≤ n ∧ i = .int .i64 k ∧ z = .int .u32 (m : Nat) ∧ m = frW eg s k) (fun _ i => n - (intOf i).toNat)
  case atStart => exact ⟨0, 0, Nat.zero_le _, rfl, rfl, rfl⟩
  case round =>
    obtain ⟨k, m, hk, rfl, rfl, hm0⟩ := hrel
    have hml := HFL.out k
    rw [← hm0] at hml
    have HM := Lib.hid hm0
    clear hm0
    by_cases hlt : k < n
    · obtain ⟨ad, W, rfl, hbl, hd, hcell⟩ := hx.at_ (k := k) (by rw [HL.out]; exact hlt)
      have hW := HLT.out k W hd
      have hk32 : k < 32 := by omega
      have hg : eg.getD k 0 = W := by rw [List.getD_eq_getElem?_getD, hd]; rfl
      have hor : bits .or .u32 ((m : Nat) : Int) ((W : Nat) : Int) = ((m ||| W : Nat) : Int) := u32_or_nat _ _ (by omega) (by omega)
      have hnx := frW_succ eg s k
      rw [hg, ← HM.out] at hnx
      obtain ⟨b, hb⟩ : ∃ b, s.testBit k = b := ⟨_, rfl⟩
      rw [hb] at hnx
      have HB := Lib.hid hb
      have HOR := Lib.hid hor
      clear hd hg hor hb
      cases b with
      | true =>
        rw [if_pos rfl] at hnx
        have HNX := Lib.hid hnx
        clear hnx
        go_wp2_with (go_at_call 40; (with_reducible refine (wayHas_any s k _ hs hk32).mono ?_); rw [HB.out]; rintro e w5 ⟨rfl, rfl⟩)
        go_round
        case rel => exact ⟨k + 1, m ||| W, by omega, by go_num, by rw [HOR.out], HNX.out.symm⟩
        case measure => (simp [intOf]; omega)
      | false =>
        rw [if_neg (by simp)] at hnx
        have HNX := Lib.hid hnx
        clear hnx
        go_wp2_with (go_at_call 40; (with_reducible refine (wayHas_any s k _ hs hk32).mono ?_); rw [HB.out]; rintro e w5 ⟨rfl, rfl⟩)
        go_round
        case rel => exact ⟨k + 1, m, by omega, by go_num, rfl, HNX.out.symm⟩
        case measure => (simp [intOf]; omega)
    · have hkn : k = n := by omega
      have hmn : m = frW eg s n := by rw [HM.out, hkn]
      have HMN := Lib.hid hmn
      clear hkn hmn
      go_wp2
      go_ret
      exact ⟨ret_int (congrArg _ HMN.out), rfl⟩

theorem shr_zero {s n : Nat} (h : s < 2 ^ n) : ((s : Nat) : Int) / 2 ^ n = 0 := by
  have h2 : ((s : Nat) : Int) / 2 ^ n = ((s / 2 ^ n : Nat) : Int) := by simp
  rw [h2, Nat.div_eq_of_lt h]
  rfl

theorem shr_not {s n : Nat} (h : ¬ s < 2 ^ n) : (((s : Nat) : Int) / 2 ^ n != 0) = true := by
  have h2 : ((s : Nat) : Int) / 2 ^ n = ((s / 2 ^ n : Nat) : Int) := by simp
  have h3 : 0 < s / 2 ^ n := Nat.div_pos (by omega) (Nat.two_pow_pos n)
  rw [h2]
  simp only [bne_iff_ne, ne_eq]
  omega

set_option maxHeartbeats 4000000 in
theorem ruleMeet_any (A : Option Addr) (len cap : Nat) (nx : List (List Int)) (s : Nat) (w : World) (hx : RdG w w.heap.size A nx) (hl : nx.length = len) (hs : s < 4294967296) (hck : ckMeet nx s = 0) :
    Calls Try.prog 12 #[.slice A len cap, .int .u32 (s : Nat)] w fun e w' => ∃ m : Nat, m < 256 ∧ (∀ j, m.testBit j = true ↔ Mt nx s j) ∧ e = .returned (.tuple #[.int .u32 (m : Nat), .int .i64 0]) ∧ Below w.heap.size w w' := by
  obtain ⟨hc, hsl⟩ := ckMeet_ok hck
  obtain ⟨b1, b2, b3⟩ := ckWay_bd hc
  have HC := Lib.hid hc
  have HL := Lib.hid hl
  rw [hl] at b1 b2 hsl
  have hshr := shr_zero hsl
  have hs256 : s < 256 := Nat.lt_of_lt_of_le hsl (show 2 ^ len ≤ 2 ^ 8 from Nat.pow_le_pow_right (by omega) b2)
  clear hl hc b3 hck hsl
  go_enter Try.func12, Try.ntmps12
  go_wp2_with fail
  refine (ruleEdge_any A len cap nx _ hx HL.out HC.out).mono ?_
  rintro e wo ⟨eg, A2, c2, hed, rfl, hrd, hb1⟩
  have he : EgI nx eg (EdgeP nx) := ⟨hed.len, hed.lt, hed.mem⟩
  have hel := hed.len
  rw [HL.out] at hel
  have HEL := Lib.hid hel
  have HLT := Lib.hid hed.lt
  have HNXT := Lib.hid (fun m (h : MtI nx eg s m) => h.next he)
  have HLE := Lib.hid (fun m (h : MtI nx eg s m) => h.le)
  have HDN := Lib.hid (fun m (h : MtI nx eg s m) (e : frW eg (s ||| m) nx.length = m) => h.done HC.out he e)
  rw [HL.out] at HNXT HLE HDN
  clear hed he hel
  go_wp2_with fail
  go_loop [8] (fun z => ∃ m : Nat, z = .int .u32 (m : Nat) ∧ MtI nx eg s m) (fun z => 256 - (intOf z).toNat)
  case atStart => exact ⟨0, rfl, MtI.start⟩
  case round =>
    obtain ⟨m, rfl, hmt⟩ := hrel
    have hm256 := hmt.lt
    have HMT := Lib.hid hmt
    have hnx := HNXT.out m hmt
    have hle := HLE.out m hmt
    have hm2 := hnx.lt
    have hdn := HDN.out m hmt
    have hor : bits .or .u32 ((s : Nat) : Int) ((m : Nat) : Int) = ((s ||| m : Nat) : Int) := u32_or_nat _ _ hs (by omega)
    have hsm : s ||| m < 4294967296 := Nat.lt_of_lt_of_le (Nat.or_lt_two_pow (n := 8) hs256 hm256) (by omega)
    obtain ⟨x, hx2⟩ : ∃ x, s ||| m = x := ⟨_, rfl⟩
    rw [hx2] at hor hsm hnx hle hm2 hdn
    obtain ⟨m2, hf⟩ : ∃ m2, frW eg x len = m2 := ⟨_, rfl⟩
    rw [hf] at hnx hle hm2 hdn
    have HF := Lib.hid hf
    have HNX := Lib.hid hnx
    have HDN2 := Lib.hid hdn
    clear hmt hx2 hf hnx hdn
    by_cases hmm : m2 = m
    · subst hmm
      have HB := Lib.hid (HDN2.out rfl)
      go_wp2_with (go_at_call 32; (with_reducible refine (frontier_any A2 len c2 eg x _ _ hrd HEL.out HLT.out hsm (by omega)).mono ?_); rw [HF.out]; rintro e w5 ⟨rfl, rfl⟩)
      go_ret2
      exact ⟨m2, hm256, HB.out, rfl, hb1⟩
    · have hne : (((m2 : Nat) : Int) == ((m : Nat) : Int)) = false := by simp; omega
      have hlt : m < m2 := by omega
      clear hmm
      go_wp2_with (go_at_call 32; (with_reducible refine (frontier_any A2 len c2 eg x _ _ hrd HEL.out HLT.out hsm (by omega)).mono ?_); rw [HF.out]; rintro e w5 ⟨rfl, rfl⟩)
      go_round
      case rel => exact ⟨m2, rfl, HNX.out⟩
      case measure => (simp [intOf]; omega)

set_option maxHeartbeats 1000000 in
theorem ruleMeet_bad (A : Option Addr) (len cap : Nat) (nx : List (List Int)) (s : Nat) (w : World) (hx : RdG w w.heap.size A nx) (hl : nx.length = len) (hm : len ≤ maxLen) (hs : s < 4294967296) (hck : ckMeet nx s ≠ 0) :
    Calls Try.prog 12 #[.slice A len cap, .int .u32 (s : Nat)] w fun e w' => e = .returned (.tuple #[.int .u32 0, .int .i64 (ckMeet nx s)]) ∧ Below w.heap.size w w' := by
  by_cases hc : ckWay nx = 0
  · obtain ⟨b1, b2, b3⟩ := ckWay_bd hc
    have hsl : ¬ s < 2 ^ nx.length := fun h => hck (ckMeet_of hc h)
    have hck4 : ckMeet nx s = 4 := by unfold ckMeet; rw [if_pos hc, if_neg hsl]
    rw [hck4]
    have HC := Lib.hid hc
    have HL := Lib.hid hl
    rw [hl] at b1 b2 hsl
    have hshr := shr_not hsl
    clear hl hc b3 hck hsl hck4
    go_enter Try.func12, Try.ntmps12
    go_wp2_with fail
    refine (ruleEdge_any A len cap nx _ hx HL.out HC.out).mono ?_
    rintro e wo ⟨eg, A2, c2, hed, rfl, hrd, hb1⟩
    clear hed
    go_wp2
    go_ret2
    exact ⟨rfl, hb1⟩
  · have hck4 : ckMeet nx s = ckWay nx := by unfold ckMeet; rw [if_neg hc]
    rw [hck4]
    have HC := Lib.hid hc
    have hne : (ckWay nx != 0) = true := by simp [hc]
    clear hc hck hck4
    go_enter Try.func12, Try.ntmps12
    go_wp2_with fail
    refine (ruleEdge_bad A len cap nx _ hx hl hm HC.out).mono ?_
    rintro e w1 ⟨A1, c1, rfl, hb1⟩
    go_wp2
    go_ret2
    exact ⟨rfl, hb1⟩

end Go.Proofs.Ytpbajalecfaibaa
