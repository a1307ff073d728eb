/-
  codemasonref.Rules and Edge (F1, F2).
-/
import Derived.Test.YtgcjknibelfjbaaReachRef
import Derived.Test.YtgcjknibelfjbaaMPure
namespace Go.Proofs.Ytgcjknibelfjbaa
open Go.RowKit
set_option linter.unusedSimpArgs false
set_option linter.unusedVariables false
set_option maxRecDepth 100000

theorem has_iff {hs : List Nat} {j : Nat} {b : Bool} (h : j ∈ hs ↔ b = true) : hasB (ni hs) (j : Int) = b := by
  rw [Bool.eq_iff_iff, hasB_iff, ni_mem]
  exact h

theorem bool_of (P : Prop) : ∃ b : Bool, b = true ↔ P := by
  by_cases h : P
  · exact ⟨true, by simp [h]⟩
  · exact ⟨false, by simp [h]⟩

set_option maxHeartbeats 4000000 in
theorem refRules_any (f : Nat → Nat → Bool) (A : Option Addr) (len cap : Nat) (nx : List (List Int)) (i j : Nat) (w : World) (hf : ∀ i j, f i j = true ↔ Dom nx i j) (hx : RdG w w.heap.size A nx) (hl : nx.length = len) (hc : ckWay nx = 0) (hi : i < len) (hj : j < len) :
    Calls Try.prog 39 #[.slice A len cap, .int .i64 i, .int .i64 j] w fun e w' => e = .returned (.bool (f i j)) ∧ Below w.heap.size w w' := by
  obtain ⟨b1, b2, _⟩ := ckWay_bd hc
  have HC := Lib.hid hc
  have HL := Lib.hid hl
  rw [hl] at b1 b2
  obtain ⟨bi, hbi⟩ := bool_of (Rea nx (-1) 0 i)
  obtain ⟨bj, hbj⟩ := bool_of (Rea nx (-1) 0 j)
  obtain ⟨bn, hbn⟩ := bool_of (Rea nx (i : Int) 0 j)
  have hij : f i j = (bi && bj && (decide (i = j) || !bn)) := by
    rw [Bool.eq_iff_iff, hf]
    unfold Dom
    simp only [Bool.and_eq_true, Bool.or_eq_true, decide_eq_true_eq, Bool.not_eq_true', hbi, hbj, and_assoc]
    cases bn with
    | true => simp only [true_iff] at hbn; simp [hbn]
    | false => simp only [Bool.false_eq_true, false_iff] at hbn; simp [hbn]
  have HBI := Lib.hid hbi
  have HBJ := Lib.hid hbj
  have HBN := Lib.hid hbn
  rw [hij]
  clear hij hbi hbj hbn hf hl hc
  by_cases hne : i = j
  · subst hne
    have hbb : bi = bj := by rw [Bool.eq_iff_iff, HBI.out, HBJ.out]
    subst hbb
    rw [show (bi && bi && (decide (i = i) || !bn)) = bi by simp]
    go_enter Try.func39, Try.ntmps39
    go_wp2_with fail
    refine (refReach_any A _ cap nx 0 (-1) _ hx HL.out HC.out b1).mono ?_
    rintro e w1 ⟨hs, A1, c1, hrc, rfl, hr1, hb1⟩
    have hhl := hrc.len
    have hE1 : hasB (ni hs) (i : Int) = bi := has_iff (by rw [hrc.mem, HBI.out])
    have E1 := Lib.hid hE1
    rw [HL.out] at hhl
    have hx1 := (hx.below hb1 (Nat.le_refl _)).more hb1.size
    clear hrc hE1
    go_wp2_with fail
    refine (has_any _ A1 _ c1 (ni hs) _ _ hr1 (by simp [ni]) (by unfold maxLen; omega)).mono ?_
    rw [E1.out]
    rintro e w2 ⟨rfl, rfl⟩
    cases bi with
    | true =>
      go_wp2_with fail
      refine (refReach_any A _ cap nx 0 (-1) _ hx1 HL.out HC.out b1).mono ?_
      rintro e w2 ⟨hs2, A2, c2, hrc, rfl, hr2, hb2⟩
      have hhl2 := hrc.len
      have hE2 : hasB (ni hs2) (i : Int) = true := has_iff (by rw [hrc.mem]; have := HBJ.out; simpa using this)
      have E2 := Lib.hid hE2
      rw [HL.out] at hhl2
      have hb12 := hb1.trans (hb2.mono hb1.size)
      clear hrc hE2
      go_wp2_with fail
      refine (has_any _ A2 _ c2 (ni hs2) _ _ hr2 (by simp [ni]) (by unfold maxLen; omega)).mono ?_
      rw [E2.out]
      rintro e w3 ⟨rfl, rfl⟩
      go_wp2
      go_ret
      exact ⟨rfl, hb12⟩
    | false =>
      go_wp2
      go_ret
      exact ⟨rfl, hb1⟩
  · rw [show (bi && bj && (decide (i = j) || !bn)) = (bi && bj && !bn) by rw [decide_eq_false hne, Bool.false_or]]
    have e0 : ((i : Int) == (j : Int)) = false := by simp; omega
    clear hne
    go_enter Try.func39, Try.ntmps39
    go_wp2_with fail
    refine (refReach_any A _ cap nx 0 (-1) _ hx HL.out HC.out b1).mono ?_
    rintro e w1 ⟨hs, A1, c1, hrc, rfl, hr1, hb1⟩
    have hhl := hrc.len
    have hE1 : hasB (ni hs) (i : Int) = bi := has_iff (by rw [hrc.mem, HBI.out])
    have E1 := Lib.hid hE1
    rw [HL.out] at hhl
    have hx1 := (hx.below hb1 (Nat.le_refl _)).more hb1.size
    clear hrc hE1
    go_wp2_with fail
    refine (has_any _ A1 _ c1 (ni hs) _ _ hr1 (by simp [ni]) (by unfold maxLen; omega)).mono ?_
    rw [E1.out]
    rintro e w2 ⟨rfl, rfl⟩
    cases bi with
    | true =>
      go_wp2_with fail
      refine (refReach_any A _ cap nx 0 (-1) _ hx1 HL.out HC.out b1).mono ?_
      rintro e w2 ⟨hs2, A2, c2, hrc, rfl, hr2, hb2⟩
      have hhl2 := hrc.len
      have hE2 : hasB (ni hs2) (j : Int) = bj := has_iff (by rw [hrc.mem, HBJ.out])
      have E2 := Lib.hid hE2
      rw [HL.out] at hhl2
      have hb12 := hb1.trans (hb2.mono hb1.size)
      have hx2 := (hx.below hb12 (Nat.le_refl _)).more hb12.size
      clear hrc hE2
      go_wp2_with fail
      refine (has_any _ A2 _ c2 (ni hs2) _ _ hr2 (by simp [ni]) (by unfold maxLen; omega)).mono ?_
      rw [E2.out]
      rintro e w3 ⟨rfl, rfl⟩
      cases bj with
      | true =>
        go_wp2_with fail
        refine (refReach_any A _ cap nx 0 (i : Int) _ hx2 HL.out HC.out b1).mono ?_
        rintro e w3 ⟨hs3, A3, c3, hrc, rfl, hr3, hb3⟩
        have hhl3 := hrc.len
        have hE3 : hasB (ni hs3) (j : Int) = bn := has_iff (by rw [hrc.mem, HBN.out])
        have E3 := Lib.hid hE3
        rw [HL.out] at hhl3
        have hb13 := hb12.trans (hb3.mono hb12.size)
        clear hrc hE3
        go_wp2_with fail
        refine (has_any _ A3 _ c3 (ni hs3) _ _ hr3 (by simp [ni]) (by unfold maxLen; omega)).mono ?_
        rw [E3.out]
        rintro e w4 ⟨rfl, rfl⟩
        go_wp2
        go_ret
        exact ⟨ret_bool (by cases bn <;> rfl), hb13⟩
      | false =>
        go_wp2
        go_ret
        exact ⟨rfl, hb12⟩
    | false =>
      go_wp2
      go_ret
      exact ⟨rfl, hb1⟩

/-- the edge of i by the first k nodes -/
def EdK (nx : List (List Int)) (i k acc : Nat) : Prop := ∀ f, acc.testBit f = true ↔ ∃ q, q < k ∧ Dom nx i q ∧ f ∈ sc nx q ∧ (f = i ∨ ¬ Dom nx i f)

/-- .. and by the first c edges of node k -/
def EdC (nx : List (List Int)) (i : Nat) (ss : List Nat) (acc c acc' : Nat) : Prop := ∀ f, acc'.testBit f = true ↔ acc.testBit f = true ∨ (f ∈ ss.take c ∧ (f = i ∨ ¬ Dom nx i f))

theorem EdK.skip {nx : List (List Int)} {i k acc : Nat} (h : EdK nx i k acc) (hd : ¬ Dom nx i k) : EdK nx i (k + 1) acc := fun f => by
  rw [h]
  constructor
  · rintro ⟨q, h1, h2⟩; exact ⟨q, by omega, h2⟩
  · rintro ⟨q, h1, h2, h3⟩
    by_cases e : q = k
    · subst e; exact absurd h2 hd
    · exact ⟨q, by omega, h2, h3⟩

theorem EdK.take {nx : List (List Int)} {i k acc acc' : Nat} (h : EdK nx i k acc) (hd : Dom nx i k) (hc : EdC nx i (sc nx k) acc (sc nx k).length acc') : EdK nx i (k + 1) acc' := fun f => by
  rw [hc, h, List.take_length]
  constructor
  · rintro (⟨q, h1, h2⟩ | ⟨h1, h2⟩)
    · exact ⟨q, by omega, h2⟩
    · exact ⟨k, by omega, hd, h1, h2⟩
  · rintro ⟨q, h1, h2, h3, h4⟩
    by_cases e : q = k
    · subst e; exact .inr ⟨h3, h4⟩
    · exact .inl ⟨q, by omega, h2, h3, h4⟩

theorem take_mem {ss : List Nat} {c x f : Nat} (h : ss[c]? = some x) : f ∈ ss.take (c + 1) ↔ f ∈ ss.take c ∨ f = x := by
  rw [List.take_add_one, h, Option.toList_some, List.mem_append, List.mem_singleton]

theorem EdC.yes {nx : List (List Int)} {i : Nat} {ss : List Nat} {acc c acc' x : Nat} (h : EdC nx i ss acc c acc') (hx : ss[c]? = some x) (hd : x = i ∨ ¬ Dom nx i x) : EdC nx i ss acc (c + 1) (acc' ||| 2 ^ x) := fun f => by
  rw [Nat.testBit_or, Bool.or_eq_true, h, Nat.testBit_two_pow, decide_eq_true_eq, take_mem hx]
  constructor
  · rintro ((h1 | ⟨h1, h2⟩) | h1)
    · exact .inl h1
    · exact .inr ⟨.inl h1, h2⟩
    · subst h1; exact .inr ⟨.inr rfl, hd⟩
  · rintro (h1 | ⟨h1 | h1, h2⟩)
    · exact .inl (.inl h1)
    · exact .inl (.inr ⟨h1, h2⟩)
    · exact .inr h1.symm

theorem EdC.no {nx : List (List Int)} {i : Nat} {ss : List Nat} {acc c acc' x : Nat} (h : EdC nx i ss acc c acc') (hx : ss[c]? = some x) (hd : ¬ (x = i ∨ ¬ Dom nx i x)) : EdC nx i ss acc (c + 1) acc' := fun f => by
  rw [h, take_mem hx]
  constructor
  · rintro (h1 | ⟨h1, h2⟩)
    · exact .inl h1
    · exact .inr ⟨.inl h1, h2⟩
  · rintro (h1 | ⟨h1 | h1, h2⟩)
    · exact .inl h1
    · exact .inr ⟨h1, h2⟩
    · subst h1; exact absurd h2 hd

theorem EdK.done {nx : List (List Int)} (hc : ckWay nx = 0) {i acc W : Nat} (h : EdK nx i nx.length acc) (hW : ∀ j, W.testBit j = true ↔ EdgeP nx i j) : acc = W := word_ext fun f => by
  rw [h, hW]
  constructor
  · rintro ⟨q, _, h2, h3⟩; exact ⟨q, h2, h3⟩
  · rintro ⟨q, h2, h3⟩; exact ⟨q, (h2.lt hc).2, h2, h3⟩

theorem or_lt8 {a x : Nat} (ha : a < 256) (hx : x < 8) : a ||| 2 ^ x < 256 := Nat.or_lt_two_pow (n := 8) ha (Nat.pow_lt_pow_right (by omega) hx)

end Go.Proofs.Ytgcjknibelfjbaa
