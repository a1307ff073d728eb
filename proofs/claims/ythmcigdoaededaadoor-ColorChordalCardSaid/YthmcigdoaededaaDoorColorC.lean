/-
  color.conflictSets: the check, and for each thing the word of those it conflicts with (O1, O2).
-/
import Derived.Test.YthmcigdoaededaaDoorPureColorP
import Derived.Test.YthmcigdoaededaaDoorColorIs
import Derived.Test.YthmcigdoaededaaDoorWordsOwn
import Derived.Deep.Cut
namespace Go.Proofs.YthmcigdoaededaaDoor
open Go.RowKit
set_option linter.unusedSimpArgs false
set_option linter.unusedVariables false
set_option maxRecDepth 100000

/-- the words told -/
def CfTold (n : Nat) (ps : List (Nat × Nat)) (w : World) (e : Ending) (w' : World) : Prop :=
  ∃ A' c' ws, e = .returned (.tuple #[.slice A' n c', .int .i64 0]) ∧ RdU w' w'.heap.size A' ws ∧ AdW n (clP ps) ws ∧ Below w.heap.size w w'

set_option maxHeartbeats 1000000 in
theorem conflicts_large (n : Int) (A : Option Addr) (len cap : Nat) (l : List (Int × Int)) (w : World) (hl : l.length = len) (hm : len ≤ maxLen) (hz : ¬ sizesC n l) :
    Calls Tryd.prog 17 #[.int .i64 n, .slice A len cap] w fun e w' => e = .returned (.tuple #[.slice none 0 0, .int .i64 1]) ∧ Below w.heap.size w w' := by
  unfold maxLen at hm
  have g : n < 1 ∨ 8 < n ∨ 28 < len := by
    unfold sizesC at hz
    rw [hl] at hz
    omega
  clear hz hl
  by_cases g1 : n < 1
  · go_enter Tryd.func17, Tryd.ntmps17
    go_wp2
    go_ret2
    exact ⟨rfl, Below.refl _ _⟩
  · by_cases g2 : 8 < n
    · go_enter Tryd.func17, Tryd.ntmps17
      go_wp2
      go_ret2
      exact ⟨rfl, Below.refl _ _⟩
    · have g3 : (28 : Int) < (len : Int) := by omega
      go_enter Tryd.func17, Tryd.ntmps17
      go_wp2
      go_ret2
      exact ⟨rfl, Below.refl _ _⟩

set_option maxHeartbeats 4000000 in
theorem conflicts_arg (n : Int) (A : Option Addr) (len cap : Nat) (l : List (Int × Int)) (w : World) (hx : RdM w w.heap.size A l) (hl : l.length = len) (hz : sizesC n l) (hin : allM n l = false) :
    Calls Tryd.prog 17 #[.int .i64 n, .slice A len cap] w fun e w' => e = .returned (.tuple #[.slice none 0 0, .int .i64 2]) ∧ Below w.heap.size w w' := by
  obtain ⟨h1, h8, hl8⟩ := hz
  rw [hl] at hl8
  have HL := Lib.hid hl
  have HIN := Lib.hid hin
  have g1 : ¬ n < 1 := by omega
  have g2 : ¬ 8 < n := by omega
  have g3 : ¬ (28 : Int) < (len : Int) := by omega
  clear hl hin
  go_enter Tryd.func17, Tryd.ntmps17
  go_wp2
  go_loopw [24] (fun i wr => ∃ k : Nat, k ≤ len ∧ i = .int .i64 k ∧ allM n l = allM n (l.drop k) ∧ Below w.heap.size w wr) (fun i _ => len - (intOf i).toNat)
  case atStart => exact ⟨0, Nat.zero_le _, rfl, rfl, Below.refl _ _⟩
  case round =>
    obtain ⟨k, hk, rfl, hr, hb⟩ := hrel
    have HR := Lib.hid hr
    have hsz := hb.size
    clear hr
    by_cases hlt : k < len
    · obtain ⟨ad, a, b, rfl, hbl, hd, hc0, hc1⟩ := RdM.at_ (hx.below hb (Nat.le_refl _)) (k := k) (by rw [HL.out]; exact hlt)
      have HD := Lib.hid (allM_drop (n := n) hd)
      clear hd
      by_cases he : inM n (a, b) = true
      · have HE := Lib.hid he
        obtain ⟨e1, e2, e3, e4⟩ := inM_iff.1 he
        simp only at e1 e2 e3 e4
        clear he
        rcases Int.lt_or_le b a with f1 | f1
        all_goals (
          go_wp2
          all_goals (
            go_round
            case rel => exact ⟨k + 1, by omega, by go_num, by rw [HR.out, HD.out, HE.out, Bool.true_and], hb.trans (by go_grown)⟩
            case measure => (simp [intOf]; omega)))
      · have he2 : ¬ (0 ≤ a ∧ a < n ∧ 0 ≤ b ∧ b < n) := fun h => he (inM_iff.2 h)
        clear he
        rcases Int.lt_or_le b a with f1 | f1
        all_goals (
          rcases Int.lt_or_le a 0 with f2 | f2
          all_goals (
            rcases Int.lt_or_le b 0 with f3 | f3
            all_goals (
              go_wp2
              all_goals first
                | (exfalso; omega)
                | (go_ret2; exact ⟨rfl, hb.trans (by go_grown)⟩))))
    · exfalso
      have := HR.out
      rw [List.drop_of_length_le (by rw [HL.out]; omega), HIN.out] at this
      cases this

theorem or_pow_u {X j : Nat} (hX : X < 256) (hj : j < 8) : bits .or .u32 ((X : Nat) : Int) ((2 : Int) ^ j % 4294967296) = ((X ||| 2 ^ j : Nat) : Int) := by
  rw [pow_u32' (by omega), u32_or_nat _ _ (by omega) (pow_lt_32 (by omega))]

theorem take_snoc {α : Type} {l : List α} {k : Nat} {x : α} (h : l[k]? = some x) : l.take (k + 1) = l.take k ++ [x] := by rw [List.take_add_one, h]; rfl

theorem mvI_get {l : List (Nat × Nat)} {k a b : Nat} (h : (mvI l)[k]? = some ((a : Int), (b : Int))) : l[k]? = some (a, b) := by
  obtain ⟨c, d, h1, h2, h3⟩ := mvI_at h
  have : a = c := by omega
  have : b = d := by omega
  subst_vars
  exact h3

set_option maxHeartbeats 8000000 in
theorem conflicts_in (n : Nat) (A : Option Addr) (len cap : Nat) (ps : List (Nat × Nat)) (w : World) (hx : RdM w w.heap.size A (mvI ps)) (hl : ps.length = len) (hz : sizesC n (mvI ps)) (hin : ∀ p ∈ ps, p.1 < n ∧ p.2 < n) :
    Calls Tryd.prog 17 #[.int .i64 n, .slice A len cap] w fun e w' => (twoM (mvI ps) = true → CfTold n ps w e w') ∧ (twoM (mvI ps) = false → e = .returned (.tuple #[.slice none 0 0, .int .i64 3]) ∧ Below w.heap.size w w') := by
  obtain ⟨h1, h8, hl8⟩ := hz
  rw [mvI_len, hl] at hl8
  have HL := Lib.hid hl
  have HIN := Lib.hid hin
  have g1 : ¬ (n : Int) < 1 := by omega
  have g2 : ¬ (8 : Int) < n := by omega
  have g3 : ¬ (28 : Int) < (len : Int) := by omega
  have hmk := make_words (P := Tryd.prog) 39 35 Tryd.underlying39 (by kernel_rfl) n (by omega)
  clear hl hin
  go_enter Tryd.func17, Tryd.ntmps17
  go_wp2
  go_loopw [24] (fun i wr => ∃ k : Nat, k ≤ len ∧ i = .int .i64 k ∧ Below w.heap.size w wr) (fun i _ => len - (intOf i).toNat)
  case atStart => exact ⟨0, Nat.zero_le _, rfl, Below.refl _ _⟩
  case round =>
    obtain ⟨k, hk, rfl, hb⟩ := hrel
    have hsz := hb.size
    by_cases hlt : k < len
    · obtain ⟨ad, a, b, rfl, hbl, hd, hc0, hc1⟩ := RdN.at_ (hx.below hb (Nat.le_refl _)) (k := k) (by rw [HL.out]; exact hlt)
      obtain ⟨e2, e4⟩ := HIN.out _ (List.mem_of_getElem? hd)
      simp only at e2 e4
      have e5 : (a : Int) < n := by omega
      have e6 : (b : Int) < n := by omega
      clear hd
      rcases Int.lt_or_le (b : Int) a with f1 | f1
      all_goals (
        go_wp2
        all_goals (
          go_round
          case rel => exact ⟨k + 1, by omega, by go_num, hb.trans (by go_grown)⟩
          case measure => (simp [intOf]; omega)))
    · obtain ⟨w1, rfl⟩ : ∃ w1 : World, w1 = wr := ⟨_, rfl⟩
      have HB := Lib.hid hb
      go_wp2_with fail
      have hown1 := Own.new w1 35 (uv (List.replicate n 0))
      go_loopw [48] (fun z wr => ∃ (k : Nat) (ws : List Nat), k ≤ len ∧ z = .int .i64 k ∧ AdW n (clP (ps.take k)) ws ∧ twoM (mvI ps) = twoM ((mvI ps).drop k) ∧ Own wr w1.heap.size 35 (uv ws) ∧ Below w1.heap.size w1 wr) (fun z _ => len - (intOf z).toNat)
      case atStart => exact ⟨0, _, Nat.zero_le _, rfl, AdW.zero n, rfl, hown1, by go_grown⟩
      case round =>
        obtain ⟨k, ws, hk, rfl, hws, htw, hown, hb1⟩ := hrel
        have HT := Lib.hid htw
        have HW := Lib.hid hws
        have hgl := hown.lt
        have hsz1 := hb1.size
        have hbw : Below w.heap.size w wr := HB.out.trans (hb1.mono hsz)
        clear htw hws
        by_cases hlt2 : k < len
        · obtain ⟨ad, a, b, rfl, hbl, hd, hc0, hc1⟩ := RdN.at_ (hx.below hbw (Nat.le_refl _)) (k := k) (by rw [HL.out]; exact hlt2)
          obtain ⟨e2, e4⟩ := HIN.out _ (List.mem_of_getElem? hd)
          simp only at e2 e4
          have hdI : (mvI ps)[k]? = some ((a : Int), (b : Int)) := by unfold mvI; rw [List.getElem?_map, hd]; rfl
          have HD2 := Lib.hid (twoM_drop hdI)
          have HTK := Lib.hid (take_snoc hd)
          clear hd hdI
          by_cases hab : a = b
          · have hbe : ((a : Int) == (b : Int)) = true := by simp [hab]
            have HF : Hid (twoM (mvI ps) = false) := Lib.hid (by rw [HT.out, HD2.out]; simp [hab])
            clear hab
            go_wp2
            go_ret2
            exact ⟨fun h => absurd h (by rw [HF.out]; simp), fun _ => ⟨rfl, hbw.trans (by go_grown)⟩⟩
          · have hbe : ((a : Int) == (b : Int)) = false := by simp; omega
            have HN : Hid (twoM ((mvI ps).drop k) = twoM ((mvI ps).drop (k + 1))) := Lib.hid (by rw [HD2.out]; simp; omega)
            obtain ⟨X, hX⟩ := HW.out.get e2
            obtain ⟨Y, hY⟩ := HW.out.get e4
            have HSTEP := Lib.hid (HW.out.step e2 e4 hab hX hY)
            have hX8 : X < 256 := Nat.lt_of_lt_of_le (HW.out.lt _ _ hX) (Nat.pow_le_pow_right (n := 2) (by omega) (by omega : n ≤ 8))
            have hY8 : Y < 256 := Nat.lt_of_lt_of_le (HW.out.lt _ _ hY) (Nat.pow_le_pow_right (n := 2) (by omega) (by omega : n ≤ 8))
            have hcX := hown.cell (uv_at hX)
            have hfX := hown.frozen a
            have hcY := hown.cell (uv_at hY)
            have hfY := hown.frozen b
            have HOW := Lib.hid hown
            have HO1 := Lib.hid (or_pow_u hX8 (j := b) (by omega))
            have HO2 := Lib.hid (or_pow_u hY8 (j := a) (by omega))
            have ha8 : a < 8 := by omega
            have hb8 : b < 8 := by omega
            have HAB := Lib.hid hab
            have hO2 := OwnU.set hown a (X ||| 2 ^ b)
            have hcY2 := hO2.cell (uv_at (j := b) (x := Y) (by rw [List.getElem?_set, if_neg hab]; exact hY))
            have hfY2 := hO2.frozen b
            have HO3 := Lib.hid (OwnU.set hO2 b (Y ||| 2 ^ a))
            have hgl2 := hO2.lt
            clear hX hY hown hab hO2
            go_upto_region 15 with fail
            go_region
            all_goals (
              rw [HO1.out]
              go_upto_region 16 with fail
              go_region
              all_goals (
                rw [HO2.out]
                go_wp2
                go_round
                case rel => exact ⟨k + 1, _, by omega, by go_num, by rw [HTK.out]; exact HSTEP.out, by rw [HT.out, HN.out], HO3.out.alloc _, by go_grown⟩
                case measure => (simp [intOf]; omega)))
        · have hkn : k = len := by omega
          subst hkn
          rw [List.take_of_length_le (by rw [HL.out]; omega)] at HW
          have HF : Hid (twoM (mvI ps) = true) := Lib.hid (by rw [HT.out, List.drop_of_length_le (by rw [mvI_len, HL.out]; omega)]; rfl)
          go_wp2
          go_ret2
          exact ⟨fun _ => ⟨_, _, ws, rfl, (OwnU.rd hown).more (by omega), HW.out, hbw⟩, fun h => absurd h (by rw [HF.out]; simp)⟩

theorem conflicts_ok (n : Nat) (A : Option Addr) (len cap : Nat) (ps : List (Nat × Nat)) (w : World) (hx : RdM w w.heap.size A (mvI ps)) (hl : ps.length = len) (hk : ClOk n ps) :
    Calls Tryd.prog 17 #[.int .i64 n, .slice A len cap] w fun e w' => CfTold n ps w e w' := by
  have hz : sizesC n (mvI ps) := ⟨by have := hk.pos; omega, by have := hk.small; omega, by rw [mvI_len]; exact hk.short⟩
  have ht : twoM (mvI ps) = true := by
    unfold twoM
    rw [List.all_eq_true]
    intro m hm
    obtain ⟨p, hp, rfl⟩ := List.mem_map.1 hm
    have := hk.ne p hp
    simp
    omega
  exact (conflicts_in n A len cap ps w hx hl hz hk.ins).mono fun e w' h => h.1 ht

theorem conflicts_bad (n : Int) (A : Option Addr) (len cap : Nat) (l : List (Int × Int)) (w : World) (hx : RdM w w.heap.size A l) (hl : l.length = len) (hm : len ≤ maxLen) (hc : ckCl n l ≠ 0) :
    Calls Tryd.prog 17 #[.int .i64 n, .slice A len cap] w fun e w' => e = .returned (.tuple #[.slice none 0 0, .int .i64 (ckCl n l)]) ∧ Below w.heap.size w w' := by
  by_cases hz : sizesC n l
  · cases hin : allM n l with
    | false => rw [ckCl_arg hz hin]; exact conflicts_arg n A len cap l w hx hl hz hin
    | true =>
      obtain ⟨k, rfl⟩ : ∃ k : Nat, n = k := ⟨n.toNat, by have := hz.1; omega⟩
      obtain ⟨q, rfl, hi⟩ := allM_nat hin
      cases ht : twoM (mvI q) with
      | true => exact absurd (ckCl_zero hz hin ht) hc
      | false =>
        rw [ckCl_form hz hin ht]
        exact (conflicts_in k A len cap q w hx (by rw [← hl, mvI_len]) hz hi).mono fun e w' h => h.2 ht
  · rw [ckCl_large hz]
    exact conflicts_large n A len cap l w hl hm hz

end Go.Proofs.YthmcigdoaededaaDoor
