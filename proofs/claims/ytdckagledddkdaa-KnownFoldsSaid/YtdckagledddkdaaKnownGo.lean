/-
  codemasonref.Goings, StartCheck (L1).
-/
import Derived.Test.YtdckagledddkdaaKnownRef
namespace Go.Proofs.Ytdckagledddkdaa
open Go.RowKit
set_option linter.unusedSimpArgs false
set_option linter.unusedVariables false
set_option maxRecDepth 100000

set_option maxHeartbeats 4000000 in
theorem goings_any (n m : Nat) (Ac VA : Option Addr) (cl cc vc : Nat) (code : List St) (te th el : Int) (v : List Int) (w : World) (hr : RdI w w.heap.size VA v) (hk : KOk n v) (hb : BkOk n m ⟨code, te, th, el⟩) :
    Calls Try.prog 25 #[.agg #[.slice Ac cl cc, .int .i64 te, .int .i64 th, .int .i64 el], .slice VA n vc] w fun e w' => ∃ A', (∃ c', e = .returned (.slice A' (goK ⟨code, te, th, el⟩ v).length c')) ∧ RdI w' w'.heap.size A' (goK ⟨code, te, th, el⟩ v) ∧ (∀ a, A' = some a → w.heap.size ≤ a.block) ∧ Below w.heap.size w w' := by
  obtain ⟨_, h2, h3, h4⟩ := hb
  simp only [] at h2 h3 h4
  have one : ∀ x : Int, RdI ((w.alloc (.cells #[.slice Ac cl cc, .int .i64 te, .int .i64 th, .int .i64 el] 44)).alloc (.cells #[.int .i64 x] 3)) (w.heap.size + 1 + 1) (some ⟨w.heap.size + 1, 0, none⟩) [x] := fun x => by
    have h := Own.new (w.alloc (.cells #[.slice Ac cl cc, .int .i64 te, .int .i64 th, .int .i64 el] 44)) 3 (iv [x])
    have e : (w.alloc (.cells #[.slice Ac cl cc, .int .i64 te, .int .i64 th, .int .i64 el] 44)).heap.size = w.heap.size + 1 := by simp
    rw [e] at h
    exact OwnI.rd h
  have two : ∀ x y : Int, RdI ((w.alloc (.cells #[.slice Ac cl cc, .int .i64 te, .int .i64 th, .int .i64 el] 44)).alloc (.cells #[.int .i64 x, .int .i64 y] 3)) (w.heap.size + 1 + 1) (some ⟨w.heap.size + 1, 0, none⟩) [x, y] := fun x y => by
    have h := Own.new (w.alloc (.cells #[.slice Ac cl cc, .int .i64 te, .int .i64 th, .int .i64 el] 44)) 3 (iv [x, y])
    have e : (w.alloc (.cells #[.slice Ac cl cc, .int .i64 te, .int .i64 th, .int .i64 el] 44)).heap.size = w.heap.size + 1 := by simp
    rw [e] at h
    exact OwnI.rd h
  have HO1 := Lib.hid one
  have HO2 := Lib.hid two
  clear one two
  by_cases ht : te = -1
  · subst ht
    by_cases hth : th = -1
    · subst hth
      have hg : goK ⟨code, -1, -1, el⟩ v = [] := by unfold goK; rw [if_pos ⟨rfl, rfl⟩]
      rw [hg]
      clear hg
      go_enter Try.func25, Try.ntmps25
      go_wp2
      go_ret
      exact ⟨none, ⟨0, rfl⟩, (fun h => by simp at h), (fun a h => by cases h), by go_grown⟩
    · have hg : goK ⟨code, -1, th, el⟩ v = [th] := by unfold goK; rw [if_neg (fun h => hth h.2), if_pos (.inl rfl)]
      rw [hg]
      have f1 : (th == -1) = false := by simp [hth]
      clear hg
      go_enter Try.func25, Try.ntmps25
      go_wp2
      go_ret
      exact ⟨_, ⟨_, rfl⟩, (HO1.out th).more (by simp), (fun a h => by injection h with h; subst h; simp), by go_grown⟩
  · have h0 : 0 ≤ te ∧ te < n := by omega
    obtain ⟨tn, rfl⟩ := Int.eq_ofNat_of_zero_le h0.1
    obtain ⟨ad, x, rfl, hbl, hx, hcx⟩ := hr.at_ (k := tn) (by rw [hk.1]; omega)
    have hxb := hk.2 _ _ hx
    have hgx : v.getD ((tn : Int)).toNat 0 = x := by rw [Int.toNat_natCast]; exact getD_at hx
    have f1 : ((tn : Int) == -1) = false := by simp
    have htn : tn < n := by omega
    have hgo : goK ⟨code, (tn : Int), th, el⟩ v = if 0 < x then [th] else if x = 0 then [el] else [th, el] := by
      unfold goK
      simp only [hgx]
      rw [if_neg (by omega)]
      by_cases h : 0 < x
      · rw [if_pos h, if_pos (.inr h)]
      · rw [if_neg h, if_neg (by omega)]
    rw [hgo]
    clear hgo hgx hx ht
    by_cases h7 : 0 < x
    · rw [if_pos h7]
      have f2 : decide (0 < x) = true := by simp [h7]
      go_enter Try.func25, Try.ntmps25
      go_wp2
      go_ret
      exact ⟨_, ⟨_, rfl⟩, (HO1.out th).more (by simp), (fun a h => by injection h with h; subst h; simp), by go_grown⟩
    · rw [if_neg h7]
      have f2 : decide (0 < x) = false := by simp; omega
      by_cases h8 : x = 0
      · rw [if_pos h8]
        have f3 : (x == 0) = true := by simp [h8]
        clear h8
        go_enter Try.func25, Try.ntmps25
        go_wp2
        go_ret
        exact ⟨_, ⟨_, rfl⟩, (HO1.out el).more (by simp), (fun a h => by injection h with h; subst h; simp), by go_grown⟩
      · rw [if_neg h8]
        have f3 : (x == 0) = false := by simp [h8]
        go_enter Try.func25, Try.ntmps25
        go_wp2
        go_ret
        exact ⟨_, ⟨_, rfl⟩, (HO2.out th el).more (by simp), (fun a h => by injection h with h; subst h; simp), by go_grown⟩

/-- L1: one element of a beginning -/
def okS1 (x : Int) : Bool := decide (-1 ≤ x ∧ x ≤ 255)

/-- L1: a beginning -/
def ckStart (vars : Int) (hv : List Int) : Int := if (hv.length : Int) ≠ vars then 3 else if hv.all okS1 = true then 0 else 4

theorem ckStart_ok {n : Nat} {hv : List Int} : ckStart n hv = 0 ↔ KOk n hv := by
  unfold ckStart
  constructor
  · intro h
    split at h
    · cases h
    · rename_i h1
      split at h
      · rename_i h2
        refine ⟨by omega, fun j x hx => ?_⟩
        have := List.all_eq_true.1 h2 x (List.mem_of_getElem? hx)
        simpa [okS1] using this
      · cases h
  · rintro ⟨h1, h2⟩
    rw [if_neg (by simp [h1]), if_pos]
    rw [List.all_eq_true]
    intro x hx
    obtain ⟨j, hj, rfl⟩ := List.getElem_of_mem hx
    have := h2 j _ (List.getElem?_eq_getElem hj)
    simpa [okS1] using this

set_option maxHeartbeats 4000000 in
theorem startCheck_any (vars : Int) (A : Option Addr) (len cap : Nat) (hv : List Int) (B : Nat) (w : World) (hx : RdI w B A hv) (hl : hv.length = len) (hm : len ≤ maxLen) :
    Calls Try.prog 16 #[.int .i64 vars, .slice A len cap] w fun e w' => e = .returned (.int .i64 (ckStart vars hv)) ∧ w = w' := by
  unfold maxLen at hm
  unfold ckStart
  rw [hl]
  by_cases hne : (len : Int) ≠ vars
  · rw [if_pos hne]
    have f1 : ((len : Int) != vars) = true := by simp [hne]
    clear hne hl hx
    go_enter Try.func16, Try.ntmps16
    go_wp2
    go_ret
    exact ⟨rfl, rfl⟩
  · rw [if_neg hne]
    have f1 : ((len : Int) != vars) = false := by simp; omega
    have HL := Lib.hid hl
    clear hne hl
    obtain ⟨R, hR⟩ : ∃ R, (if hv.all okS1 = true then (0 : Int) else 4) = R := ⟨_, rfl⟩
    rw [hR]
    have HR := Lib.hid hR
    clear hR
    go_enter Try.func16, Try.ntmps16
    go_wp2
    go_loopw [13] (fun z wr => ∃ k : Nat, k ≤ len ∧ z = .int .i64 k ∧ (hv.take k).all okS1 = true ∧ w = wr) (fun z _ => len - (intOf z).toNat)
    case atStart => exact ⟨0, Nat.zero_le _, rfl, rfl, rfl⟩
    case round =>
      obtain ⟨k, hk, rfl, hpre, rfl⟩ := hrel
      have HP := Lib.hid hpre
      clear hpre
      by_cases hlt : k < len
      · obtain ⟨ad, x, rfl, hbl, hd, hcx⟩ := hx.at_ (k := k) (by rw [HL.out]; exact hlt)
        by_cases hok : okS1 x = true
        · have HNX : Hid ((hv.take (k + 1)).all okS1 = true) := Lib.hid (by rw [List.take_add_one, hd, Option.toList_some, List.all_append, HP.out]; simp [hok])
          have hxb : -1 ≤ x ∧ x ≤ 255 := by simpa [okS1] using hok
          clear hd hok
          by_cases h1 : x = -1
          · have f2 : (x != -1) = false := by simp [h1]
            clear h1
            go_wp2
            go_round
            case rel => exact ⟨k + 1, by omega, by go_num, HNX.out, by first | trivial | rfl⟩
            case measure => (simp [intOf]; omega)
          · have f2 : (x != -1) = true := by simp [h1]
            have f3 : decide (0 ≤ x ∧ x ≤ 255) = true := by simp; omega
            go_wp2_with (go_at_call 29; (with_reducible refine (refValue_any _ _).mono ?_); rw [f3]; rintro e w5 ⟨rfl, rfl⟩)
            go_round
            case rel => exact ⟨k + 1, by omega, by go_num, HNX.out, by first | trivial | rfl⟩
            case measure => (simp [intOf]; omega)
        · have HNO : Hid (R = 4) := Lib.hid (by
            rw [← HR.out, if_neg]
            intro h
            exact hok (List.all_eq_true.1 h x (List.mem_of_getElem? hd)))
          have hxb : ¬ (-1 ≤ x ∧ x ≤ 255) := by simpa [okS1] using hok
          have f2 : (x != -1) = true := by simp; omega
          have f3 : decide (0 ≤ x ∧ x ≤ 255) = false := by simp; omega
          clear hd hok hxb
          go_wp2_with (go_at_call 29; (with_reducible refine (refValue_any _ _).mono ?_); rw [f3]; rintro e w5 ⟨rfl, rfl⟩)
          go_ret
          exact ⟨ret_int HNO.out.symm, rfl⟩
      · have HYES : Hid (R = 0) := Lib.hid (by
          rw [← HR.out, if_pos]
          have := HP.out
          rwa [List.take_of_length_le (by rw [HL.out]; omega)] at this)
        go_wp2
        go_ret
        exact ⟨ret_int HYES.out.symm, rfl⟩

end Go.Proofs.Ytdckagledddkdaa
