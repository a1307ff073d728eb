/-
  jump.distance, jump.smallest and jump.addresses return what they say (X1).
-/
import Derived.Test.YthckglpleiojkaaJpCk
import Derived.Test.YthckglpleiojkaaMBase
namespace Go.Proofs.Ythckglpleiojkaa
open Go.RowKit
set_option linter.unusedSimpArgs false
set_option linter.unusedVariables false
set_option maxRecDepth 100000

/-- how far apart -/
def dsJ (a b : Int) : Int := if a ≤ b then b - a else a - b

theorem dsJ_far {l : List Pc} {W i t : Nat} : 50 < dsJ (atP l W (i + 1)) (atP l W t) ↔ 50 < farP l W i t ∨ farP l W i t < -50 := by
  unfold dsJ farP
  split <;> omega

set_option maxHeartbeats 1000000 in
theorem distance_any (a b : Int) (w : World) (ha : 0 ≤ a ∧ a ≤ 4000) (hb : 0 ≤ b ∧ b ≤ 4000) :
    Calls Try.prog 18 #[.int .i64 a, .int .i64 b] w fun e w' => e = .returned (.int .i64 (dsJ a b)) ∧ w = w' := by
  obtain ⟨a0, a1⟩ := ha
  obtain ⟨b0, b1⟩ := hb
  have e1 : IntKind.i64.wrap (a - b) = a - b := by rw [IntKind.wrap_i64]; omega
  have e2 : IntKind.i64.wrap (b - a) = b - a := by rw [IntKind.wrap_i64]; omega
  by_cases h : a ≤ b
  · have HE : Hid (dsJ a b = b - a) := Lib.hid (by unfold dsJ; rw [if_pos h])
    go_enter Try.func18, Try.ntmps18
    go_wp2
    all_goals (go_ret; exact ⟨ret_int (by rw [HE.out]; try omega), rfl⟩)
  · have HE : Hid (dsJ a b = a - b) := Lib.hid (by unfold dsJ; rw [if_neg h])
    go_enter Try.func18, Try.ntmps18
    go_wp2
    all_goals (go_ret; exact ⟨ret_int (by rw [HE.out]; try omega), rfl⟩)

set_option maxHeartbeats 4000000 in
theorem smallest_any (A : Option Addr) (len cap : Nat) (l : List Pc) (w : World) (hx : RdPc w w.heap.size A l) (hl : l.length = len) (hk : PcOk l) :
    Calls Try.prog 11 #[.slice A len cap] w fun e w' => e = .returned (.slice (some ⟨w.heap.size, 0, none⟩) len len) ∧ Own w' w.heap.size 3 (iv (szl l 0)) ∧ Below w.heap.size w w' := by
  have HL := Lib.hid hl
  have HK := Lib.hid hk
  have hlen : len ≤ 10 := by rw [← hl]; exact hk.len
  have hmk := make_ints (P := Try.prog) 23 3 Try.underlying23 (by kernel_rfl) len (by omega)
  have hz : List.replicate len (0 : Int) = szU l 0 0 := by rw [szU_zero, hl]
  rw [hz] at hmk
  have hlc : ((szU l 0 0).length) = len := by simp [szU, hl]
  clear hl hk hz
  go_enter Try.func11, Try.ntmps11
  go_wp2
  have hO := Own.new w 3 (iv (szU l 0 0))
  go_loopw [11] (fun i wr => ∃ k : Nat, k ≤ len ∧ i = .int .i64 k ∧ Own wr w.heap.size 3 (iv (szU l 0 k)) ∧ Below w.heap.size w wr) (fun i _ => len - (intOf i).toNat)
  case atStart => exact ⟨0, Nat.zero_le _, rfl, hO, by go_grown⟩
  case round =>
    obtain ⟨k, hk, rfl, hown, hb⟩ := hrel
    have hsz := hb.size
    have hgl := hown.lt
    by_cases hlt : k < len
    · obtain ⟨ad, b, j, t, rfl, hbl, hd, hc0, hc1, hc2⟩ := RdPc.at_ (hx.below hb (Nat.le_refl _)) (k := k) (by rw [HL.out]; exact hlt)
      have hkl : k < l.length := by rw [HL.out]; exact hlt
      have hcg := hown.cell (iv_at (szU_at (W := 0) hkl))
      have hfg := hown.frozen k
      have h2 := OwnI.set (OwnI.set hown k b) k 2
      rw [List.set_set] at h2
      have h1 := OwnI.set hown k b
      cases j
      · rw [szU_set (W := 0) hkl (szP_byt (W := 0) hd rfl).symm] at h1
        have H1 := Lib.hid h1
        clear hd hkl h1 h2 hown hO
        go_wp2
        go_round
        case rel => exact ⟨k + 1, by omega, by go_num, H1.out.alloc _, by go_grown⟩
        case measure => (simp [intOf]; omega)
      · rw [szU_set (W := 0) (x := 2) hkl (by rw [szP_jmp hd rfl]; simp)] at h2
        have H2 := Lib.hid h2
        clear hd hkl h1 h2 hown hO
        go_wp2
        go_round
        case rel => exact ⟨k + 1, by omega, by go_num, H2.out.alloc _, by go_grown⟩
        case measure => (simp [intOf]; omega)
    · have hkn : k = len := by omega
      subst hkn
      have HS : Hid (szU l 0 k = szl l 0) := Lib.hid (by rw [← HL.out, szU_all])
      rw [HS.out] at hown
      have HO := Lib.hid hown
      clear hown hO
      go_wp2
      go_ret
      exact ⟨rfl, HO.out, hb⟩

set_option maxHeartbeats 4000000 in
theorem addresses_any (A : Option Addr) (len cap : Nat) (l : List Pc) (W : Nat) (w : World) (hx : RdI w w.heap.size A (szl l W)) (hl : l.length = len) (hk : PcOk l) :
    Calls Try.prog 12 #[.slice A len cap] w fun e w' => e = .returned (.slice (some ⟨w.heap.size, 0, none⟩) (len + 1) (len + 1)) ∧ Own w' w.heap.size 3 (iv (atl l W)) ∧ Below w.heap.size w w' := by
  have HL := Lib.hid hl
  have HK := Lib.hid hk
  have hlen : len ≤ 10 := by rw [← hl]; exact hk.len
  have hmk := make_ints (P := Try.prog) 23 3 Try.underlying23 (by kernel_rfl) (len + 1) (by omega)
  have hz : List.replicate (len + 1) (0 : Int) = atU l W 0 := by rw [atU_zero, hl]
  rw [hz, show ((len + 1 : Nat) : Int) = (len : Int) + 1 from by omega] at hmk
  have hlc : (szl l W).length = len := by rw [szl_len, hl]
  have HLC := Lib.hid hlc
  clear hl hk hz hlc
  go_enter Try.func12, Try.ntmps12
  go_wp2
  have hO := Own.new w 3 (iv (atU l W 0))
  go_loopw [12] (fun i wr => ∃ k : Nat, k ≤ len ∧ i = .int .i64 k ∧ Own wr w.heap.size 3 (iv (atU l W k)) ∧ Below w.heap.size w wr) (fun i _ => len - (intOf i).toNat)
  case atStart => exact ⟨0, Nat.zero_le _, rfl, hO, by go_grown⟩
  case round =>
    obtain ⟨k, hk, rfl, hown, hb⟩ := hrel
    have hsz := hb.size
    have hgl := hown.lt
    by_cases hlt : k < len
    · obtain ⟨ad, s, rfl, hbl, hd, hc0⟩ := (hx.below hb (Nat.le_refl _)).at_ (k := k) (by rw [HLC.out]; exact hlt)
      have hkl : k < l.length := by rw [HL.out]; exact hlt
      rw [szl_at hkl] at hd
      injection hd with hd
      have hcg := hown.cell (iv_at (atU_at (W := W) (k := k) (by omega)))
      have hcn := hown.cell (iv_at (atU_next (W := W) hkl))
      have hfg := hown.frozen (k + 1)
      have h1 := OwnI.set hown (k + 1) (atP l W k + szP l W k)
      rw [atU_set hkl] at h1
      have hbd := at_bd HK.out W k
      have hbs := szP_bd HK.out W k
      have hwr : IntKind.i64.wrap (atP l W k + szP l W k) = atP l W k + szP l W k := by rw [IntKind.wrap_i64]; omega
      rw [hd] at h1 hwr hbs
      obtain ⟨x, hx2⟩ : ∃ x, atP l W k = x := ⟨_, rfl⟩
      rw [hx2] at h1 hwr hcg hbd
      obtain ⟨b1, b2⟩ := hbd
      obtain ⟨b3, b4⟩ := hbs
      have b5 : x ≤ 2000 := by omega
      have H1 := Lib.hid h1
      clear hd hkl h1 hown hO hx2 b2
      go_wp2
      go_round
      case rel => exact ⟨k + 1, by omega, by go_num, H1.out, by go_grown⟩
      case measure => (simp [intOf]; omega)
    · have hkn : k = len := by omega
      subst hkn
      have HS : Hid (atU l W k = atl l W) := Lib.hid (by rw [← HL.out, atU_all])
      rw [HS.out] at hown
      have HO := Lib.hid hown
      clear hown hO
      go_wp2
      go_ret
      exact ⟨rfl, HO.out, hb⟩

end Go.Proofs.Ythckglpleiojkaa
