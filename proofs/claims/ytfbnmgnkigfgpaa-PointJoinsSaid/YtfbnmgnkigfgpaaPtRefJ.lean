/-
  codemasonref.pointees and Set return what they say (V2).
-/
import Derived.Test.YtfbnmgnkigfgpaaPurePtJ
import Derived.Test.YtfbnmgnkigfgpaaPtSet
import Derived.Test.YtfbnmgnkigfgpaaPtCk
import Derived.Test.YtfbnmgnkigfgpaaPtWords
namespace Go.Proofs.Ytfbnmgnkigfgpaa
open Go.RowKit
set_option linter.unusedSimpArgs false
set_option linter.unusedVariables false
set_option maxRecDepth 100000

set_option maxHeartbeats 4000000 in
theorem pointees_any (n a bT : Nat) (T : Prs) (w : World) (hM : OwnL w bT T) (h8 : n ≤ 8) (ha : a < 8) :
    Calls Try.prog 31 #[.int .i64 n, .map (some bT), .int .i64 a] w fun e w' => ∃ A m c, e = .returned (.slice A m c) ∧ (poL T a n).length = m ∧ RdI w' w'.heap.size A (ni (poL T a n)) ∧ Below w.heap.size w w' := by
  have HM := Lib.hid hM
  clear hM
  go_enter Try.func31, Try.ntmps31
  go_wp2
  go_loopw [7, 8] (fun s z wr => ∃ (b : Nat) (A : Option Addr) (c : Nat), b ≤ n ∧ z = .int .i64 b ∧ s = .slice A (poL T a b).length c ∧ wr.ownsRow w.heap.size 3 1 (.slice A (poL T a b).length c) (poL T a b).length (iv (ni (poL T a b))) ∧ Below w.heap.size w wr) (fun _ z _ => n - (intOf z).toNat)
  case atStart => exact ⟨0, none, 0, Nat.zero_le _, rfl, rfl, World.ownsRow_nil _ _ _ _, Below.refl _ _⟩
  case round =>
    obtain ⟨b, A, c, hb', rfl, rfl, hown, hb⟩ := hrel
    have hsz := hb.size
    by_cases hlt : b < n
    · have hmr := HM.out.below hb HM.out.lt
      obtain ⟨q1, hq1⟩ : ∃ x, decide ((a, b) ∈ T) = x := ⟨_, rfl⟩
      have hl1 := hmr.run (x := a) (y := b) (by omega) (by omega) hq1
      have hfl := poL_len (T := T) (a := a) b
      have hnx : poL T a (b + 1) = if (a, b) ∈ T then poL T a b ++ [b] else poL T a b := rfl
      clear hmr
      generalize poL T a b = fl at *
      cases q1 with
      | true =>
        rw [if_pos (of_decide_eq_true hq1)] at hnx
        have HNX := Lib.hid hnx
        have h63 : fl.length + 1 ≤ maxLen := by unfold maxLen; omega
        have hbig : (fl.length + 1) * 8 ≤ 140737488355328 := by omega
        clear hnx hq1
        go_wp2_with (at_builtin; refine wpList_app rfl (.tmp 19) (.tmp 21) 31 rfl w.heap.size 3 1 8 int_app _ rfl (own_below hown ((Below.refl _ _).alloc (Nat.le_refl _) _)) [.int .i64 (b : Int)] rfl rfl (fun h => by cases h) (cells_at rfl _ _) (one_cell _) h63 hbig (by simp; omega) ?_; intro A7 c7 w7 hown7 hg7 hb7)
        go_round
        case rel =>
          have hlx : (poL T a (b + 1)).length = fl.length + 1 := by rw [HNX.out]; simp
          exact ⟨b + 1, A7, c7, by omega, by go_num, by rw [hlx], by rw [hlx, HNX.out, ni_append, iv_append]; exact hown7, (hb.alloc hsz _).trans hb7⟩
        case measure => (simp [intOf]; omega)
      | false =>
        rw [if_neg (of_decide_eq_false hq1)] at hnx
        have HNX := Lib.hid hnx
        clear hnx hq1
        go_wp2
        go_round
        case rel => exact ⟨b + 1, A, c, by omega, by go_num, by rw [HNX.out], by rw [HNX.out]; exact hown, hb⟩
        case measure => (simp [intOf]; omega)
    · have hbn : b = n := by omega
      rw [hbn] at hown ⊢
      go_wp2
      go_ret
      exact ⟨A, _, c, rfl, rfl, own_rdI hown (by rw [pn_len]), hb⟩

set_option maxHeartbeats 4000000 in
theorem setRef_any (A : Option Addr) (m c : Nat) (l : List Nat) (B : Nat) (w : World) (hx : RdI w B A (ni l)) (hl : l.length = m) (hm : m ≤ 8) (h8 : ∀ x ∈ l, x < 8) :
    Calls Try.prog 32 #[.slice A m c] w fun e w' => e = .returned (.int .u32 (setOf l : Nat)) ∧ w' = w := by
  have HL := Lib.hid hl
  have H8 := Lib.hid h8
  clear hl h8
  go_enter Try.func32, Try.ntmps32
  go_wp2
  go_loop [3, 8] (fun s z => ∃ k W : Nat, k ≤ m ∧ z = .int .i64 k ∧ s = .int .u32 (W : Nat) ∧ Hid (W < 256 ∧ ∀ j, W.testBit j = true ↔ j ∈ l.take k)) (fun _ z => m - (intOf z).toNat)
  case atStart => exact ⟨0, 0, Nat.zero_le _, rfl, rfl, Lib.hid ⟨by omega, fun j => by simp⟩⟩
  case round =>
    obtain ⟨k, W, hk, rfl, rfl, HW⟩ := hrel
    by_cases hlt : k < m
    · obtain ⟨ad, x, rfl, hbl, hd, hcell⟩ := hx.at_ (k := k) (by rw [pn_len, HL.out]; exact hlt)
      obtain ⟨xn, rfl, hxn⟩ := pn_inv hd
      have hx8 := H8.out xn (List.mem_of_getElem? hxn)
      have hW8 := HW.out.1
      have hor : bits .or .u32 ((W : Nat) : Int) ((2 : Int) ^ xn % 4294967296) = ((W ||| 2 ^ xn : Nat) : Int) := or_powQ (by omega) (by omega)
      have HOR := Lib.hid hor
      have HN : Hid (W ||| 2 ^ xn < 256 ∧ ∀ j, (W ||| 2 ^ xn).testBit j = true ↔ j ∈ l.take (k + 1)) := Lib.hid ⟨Nat.or_lt_two_pow (n := 8) hW8 (by
        have : 2 ^ xn ≤ 2 ^ 7 := Nat.pow_le_pow_right (by omega) (by omega)
        omega), fun j => by
        rw [Nat.testBit_or, Bool.or_eq_true, HW.out.2 j, Nat.testBit_two_pow, List.take_add_one, hxn, Option.toList_some, List.mem_append, List.mem_singleton]
        constructor
        · rintro (h | h)
          · exact .inl h
          · exact .inr (by simpa using (by simpa using h : xn = j).symm)
        · rintro (h | rfl)
          · exact .inl h
          · exact .inr (by simp)⟩
      have hx64 : xn < 64 := by omega
      clear hd hxn hor
      go_wp2
      go_round
      case rel => exact ⟨k + 1, W ||| 2 ^ xn, by omega, by go_num, by rw [HOR.out], HN⟩
      case measure => (simp [intOf]; omega)
    · have hWS : W = setOf l := Nat.eq_of_testBit_eq fun j => by
        rw [Bool.eq_iff_iff, HW.out.2 j, setOf_bit, List.take_of_length_le (by rw [HL.out]; omega)]
      have HWS := Lib.hid hWS
      clear hWS
      go_wp2
      go_ret
      exact ⟨ret_int (congrArg _ HWS.out), rfl⟩

end Go.Proofs.Ytfbnmgnkigfgpaa
