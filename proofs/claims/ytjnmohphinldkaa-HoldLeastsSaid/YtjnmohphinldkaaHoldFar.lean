/-
  hold.farthest over the inner closures of hold.Min and hold.Lru; the outer ones (P1).
-/
import Derived.Test.YtjnmohphinldkaaHoldIn
import Derived.Deep.QuietTactic
namespace Go.Proofs.Ytjnmohphinldkaa
open Go.RowKit
set_option linter.unusedSimpArgs false
set_option linter.unusedVariables false
set_option maxRecDepth 100000

set_option maxHeartbeats 4000000 in
theorem farMin_any (c1 c2 : Nat) (d : Int → Nat) (C : List Int) (w0 : World) (hf : ∀ x w1, x ∈ C → Below w0.heap.size w0 w1 → Calls Try.prog 23 #[.int .i64 x, .pointer (some ⟨c1, 0, none⟩), .pointer (some ⟨c2, 0, none⟩)] w1 fun e w' => e = .returned (.int .i64 (d x : Nat)) ∧ ∃ q, w' = w1.drewN q)
    (A : Option Addr) (n cap : Nat) (hx : RdI w0 w0.heap.size A C) (hl : C.length = n) (hm : n ≤ 8) (h0 : 0 < n) :
    Calls Try.prog 22 #[.slice A n cap, .func (.func 23) #[] #[.pointer (some ⟨c1, 0, none⟩), .pointer (some ⟨c2, 0, none⟩)]] w0 fun e w' => e = .returned (.int .i64 (farK d C n : Nat)) ∧ Below w0.heap.size w0 w' := by
  have HF := Lib.hid hf
  have HL := Lib.hid hl
  clear hf hl
  go_enter Try.func22, Try.ntmps22
  go_wp2
  go_loopw [5, 10] (fun p i wr => ∃ k : Nat, k ≤ n ∧ i = .int .i64 k ∧ p = .int .i64 (farK d C k : Nat) ∧ Below w0.heap.size w0 wr) (fun _ i _ => n - (intOf i).toNat)
  case atStart => exact ⟨0, Nat.zero_le _, rfl, rfl, Below.refl _ _⟩
  case round =>
    obtain ⟨k, hk, rfl, rfl, hb⟩ := hrel
    by_cases hlt : k < n
    · have hfl : farK d C k < n := by have := farK_le d C k; omega
      have hxr := hx.below hb (Nat.le_refl _)
      obtain ⟨ad, t, rfl, hbl, hd, hc⟩ := hxr.at_ (k := k) (by rw [HL.out]; exact hlt)
      obtain ⟨ad', p, e, hbl2, hd2, hc2⟩ := hxr.at_ (k := farK d C k) (by rw [HL.out]; exact hfl)
      injection e with e
      subst e
      have HS : Hid (farK d C (k + 1) = if d p < d t then k else farK d C k) := Lib.hid (by rw [farK, List.getD_eq_getElem?_getD, List.getD_eq_getElem?_getD, hd, hd2]; rfl)
      have HQ1 : Hid (∀ m, Calls Try.prog 23 #[.int .i64 t, .pointer (some ⟨c1, 0, none⟩), .pointer (some ⟨c2, 0, none⟩)] (wr.drewN m) fun e w' => e = .returned (.int .i64 (d t : Nat)) ∧ ∃ q, w' = (wr.drewN m).drewN q) := Lib.hid fun m => HF.out t _ (List.mem_of_getElem? hd) (below_drewH hb m)
      have HQ2 : Hid (∀ m, Calls Try.prog 23 #[.int .i64 p, .pointer (some ⟨c1, 0, none⟩), .pointer (some ⟨c2, 0, none⟩)] (wr.drewN m) fun e w' => e = .returned (.int .i64 (d p : Nat)) ∧ ∃ q, w' = (wr.drewN m).drewN q) := Lib.hid fun m => HF.out p _ (List.mem_of_getElem? hd2) (below_drewH hb m)
      obtain ⟨z, hz⟩ : ∃ z, farK d C k = z := ⟨_, rfl⟩
      obtain ⟨zt, hzt⟩ : ∃ z, d t = z := ⟨_, rfl⟩
      obtain ⟨zp, hzp⟩ : ∃ z, d p = z := ⟨_, rfl⟩
      rw [hz] at hfl hc2 hbl2 HS ⊢
      rw [hzt] at HQ1 HS
      rw [hzp] at HQ2 HS
      clear hz hzt hzp hd hd2 hxr
      by_cases hcmp : zp < zt
      · rw [if_pos hcmp] at HS
        go_wp2
        go_quiet ((go_at_call 23; first | (with_reducible exact Calls.quiet_of (HQ1.out _)) | (with_reducible exact Calls.quiet_of (HQ2.out _))))
        go_wp2
        go_round
        case rel => exact ⟨k + 1, by omega, by go_num, by rw [HS.out], below_drewH hb _⟩
        case measure => (simp [intOf]; omega)
      · rw [if_neg hcmp] at HS
        go_wp2
        go_quiet ((go_at_call 23; first | (with_reducible exact Calls.quiet_of (HQ1.out _)) | (with_reducible exact Calls.quiet_of (HQ2.out _))))
        go_wp2
        go_round
        case rel => exact ⟨k + 1, by omega, by go_num, by rw [HS.out], below_drewH hb _⟩
        case measure => (simp [intOf]; omega)
    · have hkn : k = n := by omega
      subst hkn
      go_wp2
      go_ret
      exact ⟨rfl, hb⟩

set_option maxHeartbeats 1000000 in
theorem chMin_any (g1 len cap now B : Nat) (A : Option Addr) (refs : List Int) (C : List Int) (A2 : Option Addr) (n cap2 : Nat) (q : Nat) (w : World) (hx : RdI w B A refs) (hB : B ≤ w.heap.size) (hl : refs.length = len) (hlc : len ≤ cap) (hcm : cap ≤ maxLen) (hn : now < len) (hO1 : Own w g1 22 [.slice A len cap])
    (hx2 : RdI w w.heap.size A2 C) (hl2 : C.length = n) (hm : n ≤ 8) (h0 : 0 < n) (hin : ∀ x ∈ C, x ∈ refs.take now) :
    Calls Try.prog 21 #[.slice A2 n cap2, .int .i64 now, .pointer (some ⟨g1, 0, none⟩)] w fun e w' => e = .returned (.int .i64 (minCh refs C now q)) ∧ Below w.heap.size w w' := by
  have hO2 := Own.new w 3 [.int .i64 now]
  have hO1a : Own (w.alloc (.cells #[.int .i64 now] 3)) g1 22 [.slice A len cap] := hO1.alloc _
  have hb1 : Below w.heap.size w (w.alloc (.cells #[.int .i64 now] 3)) := by go_grown
  have hg1 := hO1.lt
  have hs1 := hb1.size
  have HF : Hid _ := Lib.hid (farMin_any g1 w.heap.size (fun x => nxtA x (refs.drop now)) C (w.alloc (.cells #[.int .i64 now] 3)) (fun x w1 hxC hb => by
    have hb2 : Below w.heap.size w w1 := hb1.trans (hb.mono hs1)
    exact minIn_any g1 w.heap.size len cap now B A refs x w1 (hx.below hb2 hB) hl hlc hcm hn (hO1a.below hb hO1a.lt) (hO2.below hb hO2.lt)) A2 n cap2 ((hx2.below hb1 (Nat.le_refl _)).more hs1) hl2 hm h0)
  have HC : Hid (minCh refs C now q = (farK (fun x => nxtA x (refs.drop now)) C n : Nat)) := Lib.hid (by rw [← hl2]; rfl)
  rw [HC.out]
  clear hx hl hO1 hO2 hO1a hx2 hl2 HC hin
  go_enter Try.func21, Try.ntmps21
  go_wp2_with fail
  refine HF.out.mono ?_
  rintro e w1 ⟨rfl, hb3⟩
  go_wp2
  go_ret
  exact ⟨rfl, hb1.trans (hb3.mono hs1)⟩

set_option maxHeartbeats 4000000 in
theorem farLru_any (c1 c2 : Nat) (d : Int → Nat) (C : List Int) (w0 : World) (hf : ∀ x w1, x ∈ C → Below w0.heap.size w0 w1 → Calls Try.prog 29 #[.int .i64 x, .pointer (some ⟨c1, 0, none⟩), .pointer (some ⟨c2, 0, none⟩)] w1 fun e w' => e = .returned (.int .i64 (d x : Nat)) ∧ ∃ q, w' = w1.drewN q)
    (A : Option Addr) (n cap : Nat) (hx : RdI w0 w0.heap.size A C) (hl : C.length = n) (hm : n ≤ 8) (h0 : 0 < n) :
    Calls Try.prog 22 #[.slice A n cap, .func (.func 29) #[] #[.pointer (some ⟨c1, 0, none⟩), .pointer (some ⟨c2, 0, none⟩)]] w0 fun e w' => e = .returned (.int .i64 (farK d C n : Nat)) ∧ Below w0.heap.size w0 w' := by
  have HF := Lib.hid hf
  have HL := Lib.hid hl
  clear hf hl
  go_enter Try.func22, Try.ntmps22
  go_wp2
  go_loopw [5, 10] (fun p i wr => ∃ k : Nat, k ≤ n ∧ i = .int .i64 k ∧ p = .int .i64 (farK d C k : Nat) ∧ Below w0.heap.size w0 wr) (fun _ i _ => n - (intOf i).toNat)
  case atStart => exact ⟨0, Nat.zero_le _, rfl, rfl, Below.refl _ _⟩
  case round =>
    obtain ⟨k, hk, rfl, rfl, hb⟩ := hrel
    by_cases hlt : k < n
    · have hfl : farK d C k < n := by have := farK_le d C k; omega
      have hxr := hx.below hb (Nat.le_refl _)
      obtain ⟨ad, t, rfl, hbl, hd, hc⟩ := hxr.at_ (k := k) (by rw [HL.out]; exact hlt)
      obtain ⟨ad', p, e, hbl2, hd2, hc2⟩ := hxr.at_ (k := farK d C k) (by rw [HL.out]; exact hfl)
      injection e with e
      subst e
      have HS : Hid (farK d C (k + 1) = if d p < d t then k else farK d C k) := Lib.hid (by rw [farK, List.getD_eq_getElem?_getD, List.getD_eq_getElem?_getD, hd, hd2]; rfl)
      have HQ1 : Hid (∀ m, Calls Try.prog 29 #[.int .i64 t, .pointer (some ⟨c1, 0, none⟩), .pointer (some ⟨c2, 0, none⟩)] (wr.drewN m) fun e w' => e = .returned (.int .i64 (d t : Nat)) ∧ ∃ q, w' = (wr.drewN m).drewN q) := Lib.hid fun m => HF.out t _ (List.mem_of_getElem? hd) (below_drewH hb m)
      have HQ2 : Hid (∀ m, Calls Try.prog 29 #[.int .i64 p, .pointer (some ⟨c1, 0, none⟩), .pointer (some ⟨c2, 0, none⟩)] (wr.drewN m) fun e w' => e = .returned (.int .i64 (d p : Nat)) ∧ ∃ q, w' = (wr.drewN m).drewN q) := Lib.hid fun m => HF.out p _ (List.mem_of_getElem? hd2) (below_drewH hb m)
      obtain ⟨z, hz⟩ : ∃ z, farK d C k = z := ⟨_, rfl⟩
      obtain ⟨zt, hzt⟩ : ∃ z, d t = z := ⟨_, rfl⟩
      obtain ⟨zp, hzp⟩ : ∃ z, d p = z := ⟨_, rfl⟩
      rw [hz] at hfl hc2 hbl2 HS ⊢
      rw [hzt] at HQ1 HS
      rw [hzp] at HQ2 HS
      clear hz hzt hzp hd hd2 hxr
      by_cases hcmp : zp < zt
      · rw [if_pos hcmp] at HS
        go_wp2
        go_quiet ((go_at_call 29; first | (with_reducible exact Calls.quiet_of (HQ1.out _)) | (with_reducible exact Calls.quiet_of (HQ2.out _))))
        go_wp2
        go_round
        case rel => exact ⟨k + 1, by omega, by go_num, by rw [HS.out], below_drewH hb _⟩
        case measure => (simp [intOf]; omega)
      · rw [if_neg hcmp] at HS
        go_wp2
        go_quiet ((go_at_call 29; first | (with_reducible exact Calls.quiet_of (HQ1.out _)) | (with_reducible exact Calls.quiet_of (HQ2.out _))))
        go_wp2
        go_round
        case rel => exact ⟨k + 1, by omega, by go_num, by rw [HS.out], below_drewH hb _⟩
        case measure => (simp [intOf]; omega)
    · have hkn : k = n := by omega
      subst hkn
      go_wp2
      go_ret
      exact ⟨rfl, hb⟩

set_option maxHeartbeats 1000000 in
theorem chLru_any (g1 len cap now B : Nat) (A : Option Addr) (refs : List Int) (C : List Int) (A2 : Option Addr) (n cap2 : Nat) (q : Nat) (w : World) (hx : RdI w B A refs) (hB : B ≤ w.heap.size) (hl : refs.length = len) (hlc : len ≤ cap) (hcm : cap ≤ maxLen) (hn : now < len) (hO1 : Own w g1 22 [.slice A len cap])
    (hx2 : RdI w w.heap.size A2 C) (hl2 : C.length = n) (hm : n ≤ 8) (h0 : 0 < n) (hin : ∀ x ∈ C, x ∈ refs.take now) :
    Calls Try.prog 28 #[.slice A2 n cap2, .int .i64 now, .pointer (some ⟨g1, 0, none⟩)] w fun e w' => e = .returned (.int .i64 (lruCh refs C now q)) ∧ Below w.heap.size w w' := by
  have hO2 := Own.new w 3 [.int .i64 now]
  have hO1a : Own (w.alloc (.cells #[.int .i64 now] 3)) g1 22 [.slice A len cap] := hO1.alloc _
  have hb1 : Below w.heap.size w (w.alloc (.cells #[.int .i64 now] 3)) := by go_grown
  have hg1 := hO1.lt
  have hs1 := hb1.size
  have HF : Hid _ := Lib.hid (farLru_any w.heap.size g1 (fun x => nxtA x (refs.take now).reverse + 1) C (w.alloc (.cells #[.int .i64 now] 3)) (fun x w1 hxC hb => by
    have hb2 : Below w.heap.size w w1 := hb1.trans (hb.mono hs1)
    exact lruIn_any g1 w.heap.size len cap now B A refs x w1 (hx.below hb2 hB) hl hlc hcm hn (hin x hxC) (hO1a.below hb hO1a.lt) (hO2.below hb hO2.lt)) A2 n cap2 ((hx2.below hb1 (Nat.le_refl _)).more hs1) hl2 hm h0)
  have HC : Hid (lruCh refs C now q = (farK (fun x => nxtA x (refs.take now).reverse + 1) C n : Nat)) := Lib.hid (by rw [← hl2]; rfl)
  rw [HC.out]
  clear hx hl hO1 hO2 hO1a hx2 hl2 HC hin
  go_enter Try.func28, Try.ntmps28
  go_wp2_with fail
  refine HF.out.mono ?_
  rintro e w1 ⟨rfl, hb3⟩
  go_wp2
  go_ret
  exact ⟨rfl, hb1.trans (hb3.mono hs1)⟩

set_option maxHeartbeats 1000000 in
theorem chFifo_any (v : Value) (now q : Nat) (C : List Int) (w : World) :
    Calls Try.prog 31 #[v, .int .i64 now] w fun e w' => e = .returned (.int .i64 (fifoCh C now q)) ∧ Below w.heap.size w w' := by
  go_enter Try.func31, Try.ntmps31
  go_wp2
  go_ret
  exact ⟨rfl, Below.refl _ _⟩

end Go.Proofs.Ytjnmohphinldkaa
