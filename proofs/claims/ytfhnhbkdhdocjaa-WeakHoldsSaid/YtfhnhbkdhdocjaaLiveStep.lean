/-
  live.beforeStep, live.liveBehind, way.Has (K1).
-/
import Derived.Test.YtfhnhbkdhdocjaaMPure
import Derived.Test.YtfhnhbkdhdocjaaBlockNx
import Derived.Test.YtfhnhbkdhdocjaaWords
import Derived.Laws.BitsAllLaws
import Derived.BigQuiet
namespace Go.Proofs.Ytfhnhbkdhdocjaa
open Go.RowKit
set_option linter.unusedSimpArgs false
set_option linter.unusedVariables false
set_option maxRecDepth 100000

theorem below_drewL {B : Nat} {X Y : World} (h : Below B X Y) (q : Nat) : Below B X (Y.drewN q) := ⟨h.os, h.tape, h.output, h.size, h.block⟩

theorem andNot_powN {L t P : Nat} (hL : L < 4294967296) (ht : t < 32) (hP : 2 ^ t = P) : bits .andNot .u32 ((L : Nat) : Int) ((P : Nat) : Int) = ((L &&& (4294967295 - P) : Nat) : Int) := u32_andNot_nat _ _ hL (by rw [← hP]; exact pow_lt_32 ht)

theorem or_powN {L t P : Nat} (hL : L < 4294967296) (ht : t < 32) (hP : 2 ^ t = P) : bits .or .u32 ((L : Nat) : Int) ((P : Nat) : Int) = ((L ||| P : Nat) : Int) := u32_or_nat _ _ hL (by rw [← hP]; exact pow_lt_32 ht)

theorem or_pow {L t : Nat} (hL : L < 4294967296) (ht : t < 32) : bits .or .u32 ((L : Nat) : Int) ((2 : Int) ^ t % 4294967296) = ((L ||| 2 ^ t : Nat) : Int) := by
  rw [pow_u32' ht]
  exact u32_or_nat _ _ hL (pow_lt_32 ht)

theorem only_any (t P : Nat) (w : World) (ht : t < 32) (hP : 2 ^ t = P) :
    Calls Try.prog 103 #[.int .i64 (t : Nat)] w fun e w' => e = .returned (.int .u32 (P : Nat)) ∧ w' = w := by
  have HP : Hid ((2 : Int) ^ t % 4294967296 = ((P : Nat) : Int)) := Lib.hid (by rw [pow_u32' ht, hP])
  clear hP
  go_enter Try.func103, Try.ntmps103
  go_wp2
  go_ret
  exact ⟨congrArg (fun z => Ending.returned (.int .u32 z)) HP.out, rfl⟩

set_option maxHeartbeats 4000000 in
theorem beforeStep_any (n : Nat) (o t a b v : Int) (L : Nat) (w : World) (hc : ckStep n n o t a b v = 0) (hn : n ≤ 6) (hL : L < 2 ^ n) :
    Calls Try.prog 82 #[.agg #[.int .i64 o, .int .i64 t, .int .i64 a, .int .i64 b, .int .i64 v], .int .u32 (L : Nat)] w fun e w' => e = .returned (.int .u32 (befW ⟨o, t, a, b, v⟩ L : Nat)) ∧ Below w.heap.size w w' := by
  obtain ⟨⟨t0, t1⟩, hcase⟩ := ckStep_cases hc
  have h6 : 2 ^ n ≤ 2 ^ 6 := Nat.pow_le_pow_right (by omega) hn
  have hL32 : L < 4294967296 := by omega
  obtain ⟨tn, rfl⟩ := Int.eq_ofNat_of_zero_le t0
  have htn : tn < 32 := by omega
  obtain ⟨P, hP⟩ : ∃ P, 2 ^ tn = P := ⟨_, rfl⟩
  have hand := andNot_powN hL32 htn hP
  have hX : L &&& (4294967295 - P) < 4294967296 := Nat.lt_of_le_of_lt Nat.and_le_left hL32
  have HO := Lib.hid (fun Z => only_any tn P Z htn hP)
  obtain ⟨X, hXe⟩ : ∃ X, L &&& (4294967295 - P) = X := ⟨_, rfl⟩
  rw [hXe] at hand hX
  have hXp : L &&& (4294967295 - 2 ^ tn) = X := by rw [hP]; exact hXe
  clear hc hP hXe
  rcases hcase with ⟨rfl, _⟩ | ⟨rfl, h2, h3⟩ | ⟨h1, h2, h3, h4, h5, h6⟩
  · have hr : befW ⟨1, (tn : Int), a, b, v⟩ L = X := by rw [← hXp]; rfl
    have HR := Lib.hid hr
    have HA := Lib.hid hand
    clear hr hXp hand
    go_enter Try.func82, Try.ntmps82
    go_wp2_with (go_at_call 103; (with_reducible refine (HO.out _).mono ?_); rintro e w1 ⟨rfl, rfl⟩)
    go_ret
    exact ⟨by rw [HR.out, ← HA.out]; rfl, by go_grown⟩
  · obtain ⟨vn, rfl⟩ := Int.eq_ofNat_of_zero_le h2
    have hvn : vn < 32 := by omega
    have hr : befW ⟨2, (tn : Int), a, b, (vn : Int)⟩ L = X ||| 2 ^ vn := by rw [← hXp]; rfl
    obtain ⟨V, hV⟩ : ∃ V, 2 ^ vn = V := ⟨_, rfl⟩
    have HO2 := Lib.hid (fun Z => only_any vn V Z hvn hV)
    have HB := Lib.hid (or_powN hX hvn hV)
    rw [hV] at hr
    have HR := Lib.hid hr
    clear hr hXp hV
    go_enter Try.func82, Try.ntmps82
    go_wp2_with (first | (go_at_call 103; (with_reducible refine (HO.out _).mono ?_); rintro e w1 ⟨rfl, rfl⟩) | (go_at_call 103; (with_reducible refine (HO2.out _).mono ?_); rintro e w1 ⟨rfl, rfl⟩))
    go_ret
    exact ⟨by rw [HR.out, ← HB.out]; rfl, by go_grown⟩
  · obtain ⟨an, rfl⟩ := Int.eq_ofNat_of_zero_le h3
    obtain ⟨bn, rfl⟩ := Int.eq_ofNat_of_zero_le h5
    have han : an < 32 := by omega
    have hbn : bn < 32 := by omega
    have hr : befW ⟨o, (tn : Int), (an : Int), (bn : Int), v⟩ L = X ||| 2 ^ an ||| 2 ^ bn := by unfold befW; rw [if_neg (by show ¬ o = 1; omega), if_neg (by show ¬ o = 2; omega), ← hXp]; rfl
    obtain ⟨PA, hPA⟩ : ∃ V, 2 ^ an = V := ⟨_, rfl⟩
    obtain ⟨PB, hPB⟩ : ∃ V, 2 ^ bn = V := ⟨_, rfl⟩
    have HOA := Lib.hid (fun Z => only_any an PA Z han hPA)
    have HOB := Lib.hid (fun Z => only_any bn PB Z hbn hPB)
    have HB := Lib.hid (or_powN hX han hPA)
    have HB2 := Lib.hid (or_powN (L := X ||| PA) (Nat.or_lt_two_pow (n := 32) hX (by rw [← hPA]; exact pow_lt_32 han)) hbn hPB)
    rw [hPA, hPB] at hr
    have HR := Lib.hid hr
    have o1 : (o == 1) = false := by simp; omega
    have o2 : (o == 2) = false := by simp; omega
    clear hr hXp hPA hPB
    go_enter Try.func82, Try.ntmps82
    go_wp2_with (go_at_call 103; (with_reducible refine (HO.out _).mono ?_); rintro e w1 ⟨rfl, rfl⟩)
    go_quiet ((go_at_call 103; first | (with_reducible exact Calls.quiet_of_same (HOA.out _)) | (with_reducible exact Calls.quiet_of_same (HOB.out _))))
    go_wp2
    go_ret
    exact ⟨by rw [HR.out, ← HB2.out, ← HB.out]; rfl, below_drewL (by go_grown) _⟩

/-- the bit of a word, by a shift -/
theorem shr_bitL (W j : Nat) (hW : W < 4294967296) : (bits .and .u32 (((W : Nat) : Int) / 2 ^ j) 1 != 0) = W.testBit j := by
  have h : ((W : Nat) : Int) / 2 ^ j = ((W / 2 ^ j : Nat) : Int) := by simp
  have h2 : bits .and .u32 ((W / 2 ^ j : Nat) : Int) ((1 : Nat) : Int) = ((W / 2 ^ j &&& 1 : Nat) : Int) := u32_and_nat _ _ (Nat.lt_of_le_of_lt (Nat.div_le_self ..) hW) (by omega)
  rw [h]
  change (bits .and .u32 ((W / 2 ^ j : Nat) : Int) ((1 : Nat) : Int) != 0) = _
  rw [h2, Nat.and_one_is_mod, Nat.testBit_eq_decide_div_mod_eq]
  by_cases e : W / 2 ^ j % 2 = 1
  · rw [e]; rfl
  · have e0 : W / 2 ^ j % 2 = 0 := by omega
    rw [e0]; rfl

theorem hasBit_any (W j : Nat) (w : World) (hW : W < 4294967296) (hj : j < 32) :
    Calls Try.prog 76 #[.int .u32 (W : Nat), .int .i64 j] w fun e w' => e = .returned (.bool (W.testBit j)) ∧ w = w' := by
  have HR := Lib.hid (shr_bitL W j hW)
  go_enter Try.func76, Try.ntmps76
  go_wp2
  go_ret
  exact ⟨ret_bool HR.out, rfl⟩

set_option maxHeartbeats 4000000 in
theorem liveBehind_any (n m : Nat) (Ac Af AF : Option Addr) (cl cc fl fc flen fcap want B : Nat) (b : Bk) (F : List Nat) (w : World) (hb : BkOk n m b) (hn : n ≤ 6) (hcl : b.code.length = cl) (hf : RdI w w.heap.size Af (nxB b)) (hfl : (nxB b).length = fl) (hF : RdU w w.heap.size AF F) (hFl : F.length = flen) (hFm : flen = m)
    (hlt : ∀ (i W : Nat), F[i]? = some W → W < 2 ^ n) (hw : want < 2 ^ n) :
    Calls Try.prog 53 #[.agg #[.slice Ac cl cc, .int .i64 b.test, .int .i64 b.th, .int .i64 b.el], .slice Af fl fc, .int .u32 (want : Nat), .slice AF flen fcap] w fun e w' => e = .returned (.int .u32 (lbW b F want : Nat)) ∧ Below w.heap.size w w' := by
  have h6 : 2 ^ n ≤ 2 ^ 6 := Nat.pow_le_pow_right (by omega) hn
  obtain ⟨js, hjs⟩ : ∃ js, nxB b = js := ⟨_, rfl⟩
  have h2 := nxB_len b
  have hjl : ∀ j ∈ js, 0 ≤ j ∧ j < flen := fun j hj => by have := nxB_lt hb (hjs ▸ hj); omega
  have hte := hb.test
  rw [hjs] at hf hfl h2
  have HFL := Lib.hid hfl
  have HFF := Lib.hid hFl
  by_cases h0 : js = []
  · have hr : lbW b F want = want := by unfold lbW; rw [if_pos (by rw [hjs]; exact h0)]
    have hz : fl = 0 := by rw [← hfl, h0]; rfl
    subst hz
    rw [hr]
    clear hr hjs h0 hf hF hfl
    go_enter Try.func53, Try.ntmps53
    go_wp2
    go_ret
    exact ⟨rfl, by go_grown⟩
  · have hpos : (fl == 0) = false := by
      have : js.length ≠ 0 := fun e => h0 (List.eq_nil_of_length_eq_zero e)
      simp; omega
    have hpos2 : ((fl : Int) == 0) = false := by
      have : js.length ≠ 0 := fun e => h0 (List.eq_nil_of_length_eq_zero e)
      simp; omega
    have hor0 : ∀ k, orL F (js.take k) 0 < 2 ^ n := fun k => orL_lt hlt (Nat.two_pow_pos n)
    have HOR0 := Lib.hid hor0
    have HLT := Lib.hid hlt
    have HJL := Lib.hid hjl
    have hbox := Own.new w 79 [.slice Ac cl cc, .int .i64 b.test, .int .i64 b.th, .int .i64 b.el]
    have HR : Hid (lbW b F want = if 0 ≤ b.test then orL F js 0 ||| 2 ^ b.test.toNat else orL F js 0) := Lib.hid (by unfold lbW; rw [hjs, if_neg h0])
    obtain ⟨te, hteq⟩ : ∃ te, b.test = te := ⟨_, rfl⟩
    rw [hteq] at hte hbox HR ⊢
    generalize b.th = th at *
    generalize b.el = el at *
    have hb0 : Below w.heap.size w (w.alloc (.cells #[.slice Ac cl cc, .int .i64 te, .int .i64 th, .int .i64 el] 79)) := by go_grown
    have hfl2 : fl ≤ 2 := by omega
    clear hjs hlt hjl h0 hb hor0 hteq hfl hFl
    go_enter Try.func53, Try.ntmps53
    go_wp2
    go_loopw [9, 18] (fun s z wr => ∃ (k X : Nat), k ≤ fl ∧ z = .int .i64 k ∧ s = .int .u32 (X : Nat) ∧ X = orL F (js.take k) 0 ∧ Own wr w.heap.size 79 [.slice Ac cl cc, .int .i64 te, .int .i64 th, .int .i64 el] ∧ Below w.heap.size w wr) (fun _ z _ => fl - (intOf z).toNat)
    case atStart => exact ⟨0, 0, Nat.zero_le _, rfl, rfl, rfl, hbox, hb0⟩
    case round =>
      obtain ⟨k, X, hk, rfl, rfl, hX, hown, hbr⟩ := hrel
      have hXl := HOR0.out k
      rw [← hX] at hXl
      have HX := Lib.hid hX
      have hsz := hbr.size
      clear hX
      by_cases hlt : k < fl
      · obtain ⟨adf, j, rfl, hblf, hdj, hcj⟩ := (hf.below hbr (Nat.le_refl _)).at_ (k := k) (by rw [HFL.out]; exact hlt)
        obtain ⟨hj0, hj1⟩ := HJL.out j (List.mem_of_getElem? hdj)
        obtain ⟨jn, rfl⟩ := Int.eq_ofNat_of_zero_le hj0
        have hjn : jn < flen := by omega
        obtain ⟨adF, W, rfl, hblF, hdW, hcW⟩ := (hF.below hbr (Nat.le_refl _)).at_ (k := jn) (by rw [HFF.out]; exact hjn)
        have hWl := HLT.out jn W hdW
        have hor : bits .or .u32 ((X : Nat) : Int) ((W : Nat) : Int) = ((X ||| W : Nat) : Int) := u32_or_nat _ _ (by omega) (by omega)
        have HOR := Lib.hid hor
        have HNX : Hid (X ||| W = orL F (js.take (k + 1)) 0) := Lib.hid (by rw [orL_take hdj, ← HX.out, Int.toNat_natCast, List.getD_eq_getElem?_getD, hdW]; rfl)
        have hbF' : (adF.add jn).block < wr.heap.size := by omega
        have hbf' : (adf.add k).block < wr.heap.size := by omega
        clear hdj hdW hor
        go_wp2
        go_round
        case rel => exact ⟨k + 1, X ||| W, by omega, by go_num, by rw [HOR.out], HNX.out, hown, hbr⟩
        case measure => (simp [intOf]; omega)
      · have hkl : js.take k = js := List.take_of_length_le (by rw [HFL.out]; omega)
        have HXJ : Hid (X = orL F js 0) := Lib.hid (by rw [HX.out, hkl])
        have hc1 := hown.cell (j := 1) rfl
        clear hkl
        rcases hte with rfl | ⟨ht0, ht1⟩
        · have HR2 : Hid (lbW b F want = X) := Lib.hid (by rw [HR.out, if_neg (by omega), HXJ.out])
          go_wp2
          go_ret
          exact ⟨by rw [HR2.out]; rfl, hbr⟩
        · obtain ⟨tn, rfl⟩ := Int.eq_ofNat_of_zero_le ht0
          have htn : tn < 32 := by omega
          have HR2 : Hid (lbW b F want = X ||| 2 ^ tn) := Lib.hid (by rw [HR.out, if_pos (by omega), HXJ.out]; rfl)
          have ho := or_pow (L := X) (t := tn) (by omega) htn
          go_wp2
          go_ret
          exact ⟨by rw [HR2.out]; first | rfl | (rw [← ho]; rfl), hbr⟩

end Go.Proofs.Ytfhnhbkdhdocjaa
