/-
  color.everything, isClique, colorsOf; way.Has (O1, O2).
-/
import Derived.Test.YthmcigdoaededaaDoorColorC
import Derived.Test.YthmcigdoaededaaDoorMBase
namespace Go.Proofs.YthmcigdoaededaaDoor
open Go.RowKit
set_option linter.unusedSimpArgs false
set_option linter.unusedVariables false
set_option maxRecDepth 100000

theorem full_u32 {n : Nat} (hn : n ≤ 8) : IntKind.u32.wrap ((2 : Int) ^ n % 4294967296 - 1) = ((2 ^ n - 1 : Nat) : Int) := by
  have h : n = 0 ∨ n = 1 ∨ n = 2 ∨ n = 3 ∨ n = 4 ∨ n = 5 ∨ n = 6 ∨ n = 7 ∨ n = 8 := by omega
  rcases h with rfl | rfl | rfl | rfl | rfl | rfl | rfl | rfl | rfl <;> decide

set_option maxHeartbeats 1000000 in
theorem everything_any (n : Nat) (w : World) (hn : n ≤ 8) :
    Calls Tryd.prog 28 #[.int .i64 n] w fun e w' => e = .returned (.int .u32 (2 ^ n - 1 : Nat)) ∧ w = w' := by
  have HF := Lib.hid (full_u32 hn)
  go_enter Tryd.func28, Tryd.ntmps28
  go_wp2
  go_ret
  exact ⟨ret_int HF.out, rfl⟩

/-- the bit of a word, by a shift -/
theorem shr_bitC (W j : Nat) (hW : W < 4294967296) : (bits .and .u32 (((W : Nat) : Int) / 2 ^ j) 1 != 0) = W.testBit j := by
  have h : ((W : Nat) : Int) / 2 ^ j = ((W / 2 ^ j : Nat) : Int) := by simp
  have h2 : bits .and .u32 ((W / 2 ^ j : Nat) : Int) ((1 : Nat) : Int) = ((W / 2 ^ j &&& 1 : Nat) : Int) := u32_and_nat _ _ (Nat.lt_of_le_of_lt (Nat.div_le_self ..) hW) (by omega)
  rw [h]
  change (bits .and .u32 ((W / 2 ^ j : Nat) : Int) ((1 : Nat) : Int) != 0) = _
  rw [h2, Nat.and_one_is_mod, Nat.testBit_eq_decide_div_mod_eq]
  by_cases e : W / 2 ^ j % 2 = 1
  · rw [e]; rfl
  · have e0 : W / 2 ^ j % 2 = 0 := by omega
    rw [e0]; rfl

theorem cHas_any (W j : Nat) (w : World) (hW : W < 256) (hj : j < 8) :
    Calls Tryd.prog 33 #[.int .u32 (W : Nat), .int .i64 j] w fun e w' => e = .returned (.bool (W.testBit j)) ∧ w = w' := by
  have HR := Lib.hid (shr_bitC W j (by omega))
  go_enter Tryd.func33, Tryd.ntmps33
  go_wp2
  go_ret
  exact ⟨ret_bool HR.out, rfl⟩

theorem andC_u32 {V C : Nat} (hV : V < 256) (hC : C < 256) : bits .andNot .u32 ((V : Nat) : Int) ((C : Nat) : Int) = ((V &&& (4294967295 - C) : Nat) : Int) := u32_andNot_nat _ _ (by omega) (by omega)

theorem lt_256 {n W : Nat} (hn : n ≤ 8) (h : W < 2 ^ n) : W < 256 := Nat.lt_of_lt_of_le h (Nat.pow_le_pow_right (n := 2) (by omega) hn)

/-- one of a word: all others of it clash with it, or not -/
theorem clq_test {n : Nat} {ad : Nat → Nat → Bool} (hg : Gr ad) {ws : List Nat} (h : AdW n ad ws) {v C W : Nat} (hn : n ≤ 8) (hv : ws[v]? = some C) (hW : W < 256) (hb : W.testBit v = true) (hvn : v < 8) :
    (bits .andNot .u32 ((W : Nat) : Int) ((C : Nat) : Int) != (2 : Int) ^ v % 4294967296) = false ↔ ∀ j, W.testBit j = true → j ≠ v → ad v j = true := by
  have hC := lt_256 hn (h.lt _ _ hv)
  have hcv : C.testBit v = false := by rw [h.bit _ _ hv]; exact hg.irr v
  have h1 := andC_one (v := v) hW hC hb hcv
  rw [andC_u32 hW hC, pow_u32' (by omega), bne_eq_false_iff_eq, Int.ofNat_inj, h1]
  constructor
  · intro h2 j hj hne
    rw [← h.bit _ _ hv]
    exact h2 j hj hne
  · intro h2 j hj hne
    rw [h.bit _ _ hv]
    exact h2 j hj hne

set_option maxHeartbeats 4000000 in
theorem isClique_any (n : Nat) (ad : Nat → Nat → Bool) (ws : List Nat) (hg : Gr ad) (hws : AdW n ad ws) (hn : n ≤ 8) (A : Option Addr) (cap W B : Nat) (w : World) (hx : RdU w B A ws) (hW : W < 2 ^ n) :
    Calls Tryd.prog 27 #[.slice A n cap, .int .u32 (W : Nat)] w fun e w' => e = .returned (.bool (clqN n ad W)) ∧ w = w' := by
  have hW8 := lt_256 hn hW
  have HL := Lib.hid hws.len
  have HT : Hid (∀ v C, v < n → ws[v]? = some C → W.testBit v = true → ((bits .andNot .u32 ((W : Nat) : Int) ((C : Nat) : Int) != (2 : Int) ^ v % 4294967296) = false ↔ ∀ j, W.testBit j = true → j ≠ v → ad v j = true)) := Lib.hid fun v C hvn hv hb => clq_test hg hws hn hv hW8 hb (by omega)
  have HC : Hid (clqU ad W n ↔ clqN n ad W = true) := Lib.hid ((clqU_clq hW).trans clqN_iff.symm)
  obtain ⟨r, hr⟩ : ∃ r, clqN n ad W = r := ⟨_, rfl⟩
  rw [hr] at HC ⊢
  clear hr hws hg hW
  go_enter Tryd.func27, Tryd.ntmps27
  go_wp2
  go_loop [9] (fun i => ∃ k : Nat, k ≤ n ∧ i = .int .i64 k ∧ Hid (clqU ad W k)) (fun i => n - (intOf i).toNat)
  case atStart => exact ⟨0, Nat.zero_le _, rfl, Lib.hid fun v h => by omega⟩
  case round =>
    obtain ⟨k, hk, rfl, HU⟩ := hrel
    by_cases hlt : k < n
    · obtain ⟨ad', C, rfl, hbl, hd, hc⟩ := hx.at_ (k := k) (by rw [HL.out]; exact hlt)
      have hk8 : k < 8 := by omega
      have HB := Lib.hid (cHas_any W k w hW8 hk8)
      have HT2 := Lib.hid (HT.out k C hlt hd)
      cases hb : W.testBit k with
      | false =>
        rw [hb] at HB
        have HU2 : Hid (clqU ad W (k + 1)) := Lib.hid fun v hv h1 => by
          rcases Nat.lt_or_ge v k with h2 | h2
          · exact HU.out v h2 h1
          · have : v = k := by omega
            subst this
            rw [hb] at h1; cases h1
        clear hd hb
        go_wp2_with (go_at_call 33; (with_reducible refine HB.out.mono ?_); rintro e w1 ⟨rfl, rfl⟩)
        go_round
        case rel => exact ⟨k + 1, by omega, by go_num, HU2⟩
        case measure => (simp [intOf]; omega)
      | true =>
        rw [hb] at HB
        have HT3 := Lib.hid (HT2.out hb)
        by_cases ht : (bits .andNot .u32 ((W : Nat) : Int) ((C : Nat) : Int) != (2 : Int) ^ k % 4294967296) = false
        · have HU2 : Hid (clqU ad W (k + 1)) := Lib.hid fun v hv h1 => by
            rcases Nat.lt_or_ge v k with h2 | h2
            · exact HU.out v h2 h1
            · have : v = k := by omega
              subst this
              exact HT3.out.1 ht
          clear hd hb
          go_wp2_with (go_at_call 33; (with_reducible refine HB.out.mono ?_); rintro e w1 ⟨rfl, rfl⟩)
          go_round
          case rel => exact ⟨k + 1, by omega, by go_num, HU2⟩
          case measure => (simp [intOf]; omega)
        · have ht2 : (bits .andNot .u32 ((W : Nat) : Int) ((C : Nat) : Int) != (2 : Int) ^ k % 4294967296) = true := by simpa using ht
          have HR : Hid (r = false) := Lib.hid (by
            rw [Bool.eq_false_iff]
            intro h
            exact ht (HT3.out.2 (HC.out.2 h k hlt hb)))
          clear hd hb ht
          go_wp2_with (go_at_call 33; (with_reducible refine HB.out.mono ?_); rintro e w1 ⟨rfl, rfl⟩)
          go_ret
          exact ⟨ret_bool HR.out.symm, rfl⟩
    · have hkn : k = n := by omega
      subst hkn
      go_wp2
      go_ret
      exact ⟨ret_bool (HC.out.1 HU.out).symm, rfl⟩

set_option maxHeartbeats 4000000 in
theorem colorsOf_any (W : Nat) (cs : List Int) (A : Option Addr) (n cap B : Nat) (w : World) (hx : RdI w B A cs) (hl : cs.length = n) (hn : n ≤ 8) (hW : W < 256) (hc : ∀ x ∈ cs, x = -1 ∨ 0 ≤ x ∧ x < 8) :
    Calls Tryd.prog 21 #[.int .u32 (W : Nat), .slice A n cap] w fun e w' => (∃ s : Nat, e = .returned (.int .u32 s) ∧ TakN W cs n s) ∧ w = w' := by
  have HL := Lib.hid hl
  have HC := Lib.hid hc
  clear hl hc
  go_enter Tryd.func21, Tryd.ntmps21
  go_wp2
  go_loop [5, 10] (fun s i => ∃ (k t : Nat), k ≤ n ∧ i = .int .i64 k ∧ s = .int .u32 t ∧ t < 256 ∧ Hid (TakN W cs k t)) (fun _ i => n - (intOf i).toNat)
  case atStart => exact ⟨0, 0, Nat.zero_le _, rfl, rfl, by omega, Lib.hid (TakN.zero W cs)⟩
  case round =>
    obtain ⟨k, t, hk, rfl, rfl, ht8, HK⟩ := hrel
    by_cases hlt : k < n
    · obtain ⟨ad', c, rfl, hbl, hd, hcell⟩ := hx.at_ (k := k) (by rw [HL.out]; exact hlt)
      have hk8 : k < 8 := by omega
      have hcc := HC.out c (List.mem_of_getElem? hd)
      have HB := Lib.hid (cHas_any W k w hW hk8)
      rcases hcc with rfl | ⟨hc0, hc8⟩
      · have HK2 := Lib.hid (HK.out.skip (.inr hd))
        clear hd
        go_wp2
        go_round
        case rel => exact ⟨k + 1, t, by omega, by go_num, rfl, ht8, HK2⟩
        case measure => (simp [intOf]; omega)
      · obtain ⟨c, rfl⟩ := Int.eq_ofNat_of_zero_le hc0
        have hne : ((c : Int) != -1) = true := by simp
        have hc8' : c < 8 := by omega
        cases hb : W.testBit k with
        | false =>
          rw [hb] at HB
          have HK2 := Lib.hid (HK.out.skip (.inl hb))
          clear hd hb
          go_wp2_with (go_at_call 33; (with_reducible refine HB.out.mono ?_); rintro e w1 ⟨rfl, rfl⟩)
          go_round
          case rel => exact ⟨k + 1, t, by omega, by go_num, rfl, ht8, HK2⟩
          case measure => (simp [intOf]; omega)
        | true =>
          rw [hb] at HB
          have HK2 := Lib.hid (HK.out.put hb hd hc8')
          have HO := Lib.hid (or_pow_u ht8 hc8')
          have hlt2 := HK2.out.lt
          clear hd hb
          go_wp2_with (go_at_call 33; (with_reducible refine HB.out.mono ?_); rintro e w1 ⟨rfl, rfl⟩)
          go_round
          case rel => exact ⟨k + 1, t ||| 2 ^ c, by omega, by go_num, by rw [HO.out], hlt2, HK2⟩
          case measure => (simp [intOf]; omega)
    · have hkn : k = n := by omega
      subst hkn
      go_wp2
      go_ret
      exact ⟨⟨t, rfl, HK.out⟩, rfl⟩

end Go.Proofs.YthmcigdoaededaaDoor
