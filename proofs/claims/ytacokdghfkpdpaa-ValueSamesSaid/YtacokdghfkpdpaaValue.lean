/-
  Package value's contracts (D1).
-/
import Derived.Test.YtacokdghfkpdpaaValueFace
import Derived.Test.YtacokdghfkpdpaaClassWalk
import Derived.Test.YtacokdghfkpdpaaFold
import Derived.Test.YtacokdghfkpdpaaTermCheck
namespace Go.Proofs.Ytacokdghfkpdpaa
open Go.RowKit
set_option linter.unusedSimpArgs false
set_option linter.unusedVariables false
set_option maxRecDepth 100000

set_option maxHeartbeats 2000000 in
theorem vsame_any (vars i j : Int) (A : Option Addr) (len cap : Nat) (l : List Tm) (w : World) (hx : RdT w w.heap.size A l) (hl : l.length = len) :
    Calls Try.prog 20 #[.int .i64 vars, .slice A len cap, .int .i64 i, .int .i64 j] w fun e w' => e = .returned (.tuple #[.bool (sameR vars l i j), .int .i64 (ckSame vars l i j)]) ∧ Below w.heap.size w w' := by
  have HL := Lib.hid hl
  by_cases hc : ckTerms vars l = 0
  · have HC := Lib.hid hc
    by_cases hi : inB l.length i ∧ inB l.length j
    · have h0 : ckSame vars l i j = 0 := ckSame_of hc hi.1 hi.2
      rw [sameR_of h0, h0]
      obtain ⟨⟨i0, i1⟩, j0, j1⟩ := hi
      obtain ⟨an, rfl⟩ := Int.eq_ofNat_of_zero_le i0
      obtain ⟨bn, rfl⟩ := Int.eq_ofNat_of_zero_le j0
      simp only [Int.toNat_natCast]
      rw [hl] at i1 j1
      have han : an < len := by omega
      have hbn : bn < len := by omega
      have g : ∀ x : Nat, x < len → (ni (fsL l))[x]? = some ((fv l x : Nat) : Int) := fun x hx => ni_at (fs_at (by rw [hl]; exact hx))
      have HFL := Lib.hid (show (fsL l).length = len by rw [fsL_len, hl])
      have G1 := Lib.hid (g an han)
      have G2 := Lib.hid (g bn hbn)
      have t1 : decide ((an : Int) < 0) = false := by simp
      have t2 : decide ((bn : Int) < 0) = false := by simp
      have t3 : decide (len ≤ an) = false := by simp; omega
      have t4 : decide (len ≤ bn) = false := by simp; omega
      clear hc h0 hl g i0 i1 j0 j1
      go_enter Try.func20, Try.ntmps20
      go_wp2_with fail
      refine (check_any vars A len cap l _ hx HL.out).mono ?_
      rintro e w1 ⟨rfl, hb1⟩
      rw [HC.out]
      have hx1 := (hx.below hb1 (Nat.le_refl _)).more hb1.size
      go_wp2_with fail
      refine (classes_any vars A len cap l _ hx1 HL.out HC.out).mono ?_
      rintro e w2 ⟨A1, c1, A2, c2, rfl, hr1, hr2, hc2, hb2⟩
      obtain ⟨fa, x1, rfl, m1, y1, z1⟩ := hr1.at_ (k := an) (by simp [ni]; rw [HFL.out]; exact han)
      obtain ⟨fa2, x2, hA2, m2, y2, z2⟩ := hr1.at_ (k := bn) (by simp [ni]; rw [HFL.out]; exact hbn)
      injection hA2 with hA2
      subst hA2
      rw [G1.out] at y1
      rw [G2.out] at y2
      injection y1 with y1
      injection y2 with y2
      subst y1 y2
      have e5 : ((fv l an : Int) == (fv l bn : Int)) = decide (fv l an = fv l bn) := by rw [Bool.eq_iff_iff]; simp; omega
      obtain ⟨dd, hdd⟩ : ∃ dd, decide (fv l an = fv l bn) = dd := ⟨_, rfl⟩
      rw [hdd] at e5
      have HDQ := Lib.hid hdd
      clear hdd
      go_wp2
      go_region
      all_goals
        go_wp2
        go_ret2
        refine ⟨?_, (hb1.trans (hb2.mono hb1.size)).drew⟩
        rw [HDQ.out]
        rfl
    · have h0 : ckSame vars l i j = 2 := by unfold ckSame; rw [if_pos hc, if_neg hi]
      have hr0 : sameR vars l i j = false := by unfold sameR; rw [h0, if_neg (by omega)]
      rw [h0, hr0]
      rw [hl] at hi
      unfold inB at hi
      clear hc h0 hl hr0
      have go : ∀ b1 b2 b3 b4 : Bool, decide (i < 0) = b1 → decide ((len : Int) ≤ i) = b2 → decide (j < 0) = b3 → decide ((len : Int) ≤ j) = b4 → (b1 || b2 || b3 || b4) = true → Calls Try.prog 20 #[.int .i64 vars, .slice A len cap, .int .i64 i, .int .i64 j] w fun e w' => e = .returned (.tuple #[.bool false, .int .i64 2]) ∧ Below w.heap.size w w' := by
        intro b1 b2 b3 b4 e1 e2 e3 e4 ho
        clear hi
        cases b1 <;> cases b2 <;> cases b3 <;> cases b4
        all_goals first | (exact absurd ho (by decide)) | skip
        all_goals
          clear ho
          go_enter Try.func20, Try.ntmps20
          go_wp2_with fail
          refine (check_any vars A len cap l _ hx HL.out).mono ?_
          rintro e w1 ⟨rfl, hb1⟩
          rw [HC.out]
          go_wp2_with fail
          go_ret2
          exact ⟨rfl, hb1⟩
      refine go _ _ _ _ rfl rfl rfl rfl ?_
      simp only [Bool.or_eq_true, decide_eq_true_eq]
      omega
  · have h0 : ckSame vars l i j = ckTerms vars l := by unfold ckSame; rw [if_neg hc]
    have hr0 : sameR vars l i j = false := by unfold sameR; rw [h0, if_neg hc]
    rw [h0, hr0]
    have e3 : (ckTerms vars l != 0) = true := by simp [hc]
    clear hc h0 hl hr0
    go_enter Try.func20, Try.ntmps20
    go_wp2_with fail
    refine (check_any vars A len cap l _ hx HL.out).mono ?_
    rintro e w1 ⟨rfl, hb1⟩
    go_wp2_with fail
    go_ret2
    exact ⟨rfl, hb1⟩

set_option maxHeartbeats 2000000 in
theorem vleast_ok (vars : Int) (A : Option Addr) (len cap : Nat) (l : List Tm) (w : World) (hx : RdT w w.heap.size A l) (hl : l.length = len) (hc : ckTerms vars l = 0) :
    Calls Try.prog 17 #[.int .i64 vars, .slice A len cap] w fun e w' => ∃ A' c', e = .returned (.tuple #[.slice A' (lsL l).length c', .int .i64 0]) ∧ RdT w' w'.heap.size A' (lsL l) ∧ Below w.heap.size w w' := by
  obtain ⟨b1, b2, b3, b4⟩ := ckTerms_bd hc
  have hrt := rt_lt hc
  have hck := lsL_pn_ck hc
  have hls := lsL_pn hc
  have hfs : (ni (fsL l))[len - 1]? = some ((rtL l : Nat) : Int) := by
    have := ni_at (fs_at (l := l) (k := len - 1) (by omega))
    rw [this]
    unfold rtL
    rw [hl]
  have hpl : ((pnL l).take (rtL l + 1)).length = rtL l + 1 := by rw [List.length_take, pnL_len]; omega
  rw [hl] at b3 b4 hrt
  generalize rtL l = r at *
  have hl1 : (len : Int) - 1 = ((len - 1 : Nat) : Int) := by omega
  have HL := Lib.hid hl
  have HC := Lib.hid hc
  have HCK := Lib.hid hck
  have HLS := Lib.hid hls
  have HFS := Lib.hid hfs
  have HPL := Lib.hid hpl
  have HFL := Lib.hid (show (ni (fsL l)).length = len by unfold ni; rw [List.length_map, fsL_len, hl])
  have hln : len - 1 < len := by omega
  clear hl hc hck hls hfs hpl
  go_enter Try.func17, Try.ntmps17
  go_wp2_with fail
  refine (check_any vars A len cap l _ hx HL.out).mono ?_
  rintro e w1 ⟨rfl, hb1⟩
  rw [HC.out]
  have hx1 := (hx.below hb1 (Nat.le_refl _)).more hb1.size
  go_wp2_with fail
  refine (classes_any vars A len cap l _ hx1 HL.out HC.out).mono ?_
  rintro e w2 ⟨A1, c1, A2, c2, rfl, hr1, hr2, hc2, hb2⟩
  obtain ⟨fa, x1, rfl, m1, y1, z1⟩ := hr1.at_ (k := len - 1) (by rw [HFL.out]; exact hln)
  rw [HFS.out] at y1
  injection y1 with y1
  subst y1
  have hb12 := hb1.trans (hb2.mono hb1.size)
  go_wp2_with fail
  refine (prune_any vars A2 (r + 1) c2 ((pnL l).take (r + 1)) _ (hr2.take (r + 1)) HPL.out HCK.out).mono ?_
  rw [HLS.out]
  rintro e w3 ⟨A3, c3, rfl, hr3, hb3⟩
  go_wp2
  go_returns
  exact ⟨A3, c3, rfl, hr3, hb12.trans (hb3.mono hb12.size)⟩

set_option maxHeartbeats 2000000 in
theorem vleast_bad (vars : Int) (A : Option Addr) (len cap : Nat) (l : List Tm) (w : World) (hx : RdT w w.heap.size A l) (hl : l.length = len) (hc : ckTerms vars l ≠ 0) :
    Calls Try.prog 17 #[.int .i64 vars, .slice A len cap] w fun e w' => e = .returned (.tuple #[.slice none 0 0, .int .i64 (ckTerms vars l)]) ∧ Below w.heap.size w w' := by
  have HL := Lib.hid hl
  have e1 : (ckTerms vars l != 0) = true := by simp [hc]
  clear hl hc
  go_enter Try.func17, Try.ntmps17
  go_wp2_with fail
  refine (check_any vars A len cap l _ hx HL.out).mono ?_
  rintro e w1 ⟨rfl, hb1⟩
  go_wp2_with fail
  go_ret2
  exact ⟨rfl, hb1⟩

end Go.Proofs.Ytacokdghfkpdpaa
