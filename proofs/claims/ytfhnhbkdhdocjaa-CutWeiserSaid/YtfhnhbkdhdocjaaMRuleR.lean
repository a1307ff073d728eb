/-
  Several texts in one: RuleRef, RuleIs, LoopRef, LoopIs, HangRef, HangIs, CutStops.
-/
import Derived.Test.YtfhnhbkdhdocjaaMWayR
import Derived.Test.YtfhnhbkdhdocjaaMPure
import Derived.Test.YtfhnhbkdhdocjaaMHang
import Derived.Deep.RegionWith

/-
  codemasonref.Rules and Edge (F1, F2).
-/

namespace Go.Proofs.Ytfhnhbkdhdocjaa
open Go.RowKit
set_option linter.unusedSimpArgs false
set_option linter.unusedVariables false
set_option maxRecDepth 100000

theorem has_iff {hs : List Nat} {j : Nat} {b : Bool} (h : j ∈ hs ↔ b = true) : hasB (ni hs) (j : Int) = b := by
  rw [Bool.eq_iff_iff, hasB_iff, ni_mem]
  exact h

theorem bool_of (P : Prop) : ∃ b : Bool, b = true ↔ P := by
  by_cases h : P
  · exact ⟨true, by simp [h]⟩
  · exact ⟨false, by simp [h]⟩

/-- the edge of i by the first k nodes -/
def EdK (nx : List (List Int)) (i k acc : Nat) : Prop := ∀ f, acc.testBit f = true ↔ ∃ q, q < k ∧ Dom nx i q ∧ f ∈ sc nx q ∧ (f = i ∨ ¬ Dom nx i f)

/-- .. and by the first c edges of node k -/
def EdC (nx : List (List Int)) (i : Nat) (ss : List Nat) (acc c acc' : Nat) : Prop := ∀ f, acc'.testBit f = true ↔ acc.testBit f = true ∨ (f ∈ ss.take c ∧ (f = i ∨ ¬ Dom nx i f))

theorem EdK.skip {nx : List (List Int)} {i k acc : Nat} (h : EdK nx i k acc) (hd : ¬ Dom nx i k) : EdK nx i (k + 1) acc := fun f => by
  rw [h]
  constructor
  · rintro ⟨q, h1, h2⟩; exact ⟨q, by omega, h2⟩
  · rintro ⟨q, h1, h2, h3⟩
    by_cases e : q = k
    · subst e; exact absurd h2 hd
    · exact ⟨q, by omega, h2, h3⟩

theorem EdK.take {nx : List (List Int)} {i k acc acc' : Nat} (h : EdK nx i k acc) (hd : Dom nx i k) (hc : EdC nx i (sc nx k) acc (sc nx k).length acc') : EdK nx i (k + 1) acc' := fun f => by
  rw [hc, h, List.take_length]
  constructor
  · rintro (⟨q, h1, h2⟩ | ⟨h1, h2⟩)
    · exact ⟨q, by omega, h2⟩
    · exact ⟨k, by omega, hd, h1, h2⟩
  · rintro ⟨q, h1, h2, h3, h4⟩
    by_cases e : q = k
    · subst e; exact .inr ⟨h3, h4⟩
    · exact .inl ⟨q, by omega, h2, h3, h4⟩

theorem take_mem {ss : List Nat} {c x f : Nat} (h : ss[c]? = some x) : f ∈ ss.take (c + 1) ↔ f ∈ ss.take c ∨ f = x := by
  rw [List.take_add_one, h, Option.toList_some, List.mem_append, List.mem_singleton]

theorem EdC.yes {nx : List (List Int)} {i : Nat} {ss : List Nat} {acc c acc' x : Nat} (h : EdC nx i ss acc c acc') (hx : ss[c]? = some x) (hd : x = i ∨ ¬ Dom nx i x) : EdC nx i ss acc (c + 1) (acc' ||| 2 ^ x) := fun f => by
  rw [Nat.testBit_or, Bool.or_eq_true, h, Nat.testBit_two_pow, decide_eq_true_eq, take_mem hx]
  constructor
  · rintro ((h1 | ⟨h1, h2⟩) | h1)
    · exact .inl h1
    · exact .inr ⟨.inl h1, h2⟩
    · subst h1; exact .inr ⟨.inr rfl, hd⟩
  · rintro (h1 | ⟨h1 | h1, h2⟩)
    · exact .inl (.inl h1)
    · exact .inl (.inr ⟨h1, h2⟩)
    · exact .inr h1.symm

theorem EdC.no {nx : List (List Int)} {i : Nat} {ss : List Nat} {acc c acc' x : Nat} (h : EdC nx i ss acc c acc') (hx : ss[c]? = some x) (hd : ¬ (x = i ∨ ¬ Dom nx i x)) : EdC nx i ss acc (c + 1) acc' := fun f => by
  rw [h, take_mem hx]
  constructor
  · rintro (h1 | ⟨h1, h2⟩)
    · exact .inl h1
    · exact .inr ⟨.inl h1, h2⟩
  · rintro (h1 | ⟨h1 | h1, h2⟩)
    · exact .inl h1
    · exact .inr ⟨h1, h2⟩
    · subst h1; exact absurd h2 hd

theorem EdK.done {nx : List (List Int)} (hc : ckWay nx = 0) {i acc W : Nat} (h : EdK nx i nx.length acc) (hW : ∀ j, W.testBit j = true ↔ EdgeP nx i j) : acc = W := word_ext fun f => by
  rw [h, hW]
  constructor
  · rintro ⟨q, _, h2, h3⟩; exact ⟨q, h2, h3⟩
  · rintro ⟨q, h2, h3⟩; exact ⟨q, (h2.lt hc).2, h2, h3⟩

theorem or_lt8 {a x : Nat} (ha : a < 256) (hx : x < 8) : a ||| 2 ^ x < 256 := Nat.or_lt_two_pow (n := 8) ha (Nat.pow_lt_pow_right (by omega) hx)

end Go.Proofs.Ytfhnhbkdhdocjaa

/-
  What package rule's functions do (F1, F2): their contracts in one word; codemasonref.Fits.
-/

namespace Go.Proofs.Ytfhnhbkdhdocjaa
open Go.RowKit
set_option linter.unusedSimpArgs false
set_option linter.unusedVariables false
set_option maxRecDepth 100000

/-- F1: who dominates whom, as words -/
structure Tbl (nx : List (List Int)) (ws : List Nat) : Prop where
  len : ws.length = nx.length
  lt : ∀ (i W : Nat), ws[i]? = some W → W < 256
  mem : ∀ (i W : Nat), ws[i]? = some W → ∀ j, W.testBit j = true ↔ Dom nx j i

/-- F1: the tree -/
structure Tre (nx : List (List Int)) (ts : List Int) : Prop where
  len : ts.length = nx.length
  at_ : ∀ (i : Nat) (t : Int), ts[i]? = some t → TreeAt nx i t

/-- F2: the edges, as words -/
structure Edg (nx : List (List Int)) (ws : List Nat) : Prop where
  len : ws.length = nx.length
  lt : ∀ (i W : Nat), ws[i]? = some W → W < 256
  mem : ∀ (i W : Nat), ws[i]? = some W → ∀ j, W.testBit j = true ↔ EdgeP nx i j

/-- F2: the code of Meet -/
def ckMeet (nx : List (List Int)) (s : Nat) : Int := if ckWay nx = 0 then (if s < 2 ^ nx.length then 0 else 4) else ckWay nx

theorem ckMeet_ok {nx : List (List Int)} {s : Nat} (h : ckMeet nx s = 0) : ckWay nx = 0 ∧ s < 2 ^ nx.length := by
  unfold ckMeet at h
  split at h
  · split at h
    · rename_i h1 h2; exact ⟨h1, h2⟩
    · omega
  · rename_i h1; exact absurd h h1

theorem ckMeet_of {nx : List (List Int)} {s : Nat} (h : ckWay nx = 0) (h2 : s < 2 ^ nx.length) : ckMeet nx s = 0 := by
  unfold ckMeet
  rw [if_pos h, if_pos h2]

end Go.Proofs.Ytfhnhbkdhdocjaa

/-
  codemasonref.Tame and Loop (G).
-/

namespace Go.Proofs.Ytfhnhbkdhdocjaa
open Go.RowKit
set_option linter.unusedSimpArgs false
set_option linter.unusedVariables false
set_option maxRecDepth 100000

theorem bk_lt {nx : List (List Int)} {p : Nat × Nat} (hc : ckWay nx = 0) (h : p ∈ bkL nx) : p.1 < nx.length ∧ p.2 < nx.length := by
  have := bkM_mem.1 h
  exact ⟨this.1, this.2.1⟩

theorem bkL_len (nx : List (List Int)) (hc : ckWay nx = 0) : (bkL nx).length ≤ 64 := by
  obtain ⟨b1, b2, _⟩ := ckWay_bd hc
  have h := bkM_len nx nx.length
  have : nx.length * nx.length ≤ 8 * 8 := Nat.mul_le_mul b2 b2
  unfold bkL
  omega

/-- the first k pairs that go back are ruled -/
def TmK (nx : List (List Int)) (k : Nat) : Prop := ∀ a b, (a, b) ∈ (bkL nx).take k → Dom nx b a

theorem TmK.next {nx : List (List Int)} {k a b : Nat} (h : TmK nx k) (hk : (bkL nx)[k]? = some (a, b)) (hd : Dom nx b a) : TmK nx (k + 1) := fun x y hm => by
  rw [List.take_add_one, hk, Option.toList_some, List.mem_append, List.mem_singleton] at hm
  rcases hm with hm | hm
  · exact h x y hm
  · injection hm with e1 e2
    subst e1 e2
    exact hd

/-- G1: the part of the loop at h that the first k pairs give -/
def LpK (nx : List (List Int)) (h k acc : Nat) : Prop := ∀ x, acc.testBit x = true ↔ ∃ a, (a, h) ∈ (bkL nx).take k ∧ Dom nx h a ∧ (x = h ∨ (Rea nx (-1) 0 x ∧ Rea nx (h : Int) x a))

/-- .. and the nodes below c that come to a without h -/
def LpC (nx : List (List Int)) (h a acc c acc' : Nat) : Prop := ∀ x, acc'.testBit x = true ↔ acc.testBit x = true ∨ x = h ∨ (x < c ∧ Rea nx (-1) 0 x ∧ Rea nx (h : Int) x a)

theorem LpK.skip {nx : List (List Int)} {h k acc a b : Nat} (hl : LpK nx h k acc) (hk : (bkL nx)[k]? = some (a, b)) (hn : ¬ (b = h ∧ Dom nx h a)) : LpK nx h (k + 1) acc := fun x => by
  rw [hl, List.take_add_one, hk, Option.toList_some]
  simp only [List.mem_append, List.mem_singleton]
  constructor
  · rintro ⟨c, h1, h2⟩; exact ⟨c, .inl h1, h2⟩
  · rintro ⟨c, h1 | h1, h2, h3⟩
    · exact ⟨c, h1, h2, h3⟩
    · injection h1 with e1 e2
      subst e1 e2
      exact absurd ⟨rfl, h2⟩ hn

theorem LpK.take {nx : List (List Int)} (hc : ckWay nx = 0) {h k acc acc' a : Nat} (hl : LpK nx h k acc) (hk : (bkL nx)[k]? = some (a, h)) (hd : Dom nx h a) (hcc : LpC nx h a acc nx.length acc') : LpK nx h (k + 1) acc' := fun x => by
  rw [hcc, hl, List.take_add_one, hk, Option.toList_some]
  simp only [List.mem_append, List.mem_singleton]
  constructor
  · rintro (⟨c, h1, h2⟩ | h1 | ⟨_, h1, h2⟩)
    · exact ⟨c, .inl h1, h2⟩
    · exact ⟨a, .inr rfl, hd, .inl h1⟩
    · exact ⟨a, .inr rfl, hd, .inr ⟨h1, h2⟩⟩
  · rintro ⟨c, h1 | h1, h2, h3⟩
    · exact .inl ⟨c, h1, h2, h3⟩
    · injection h1 with e1 _
      subst e1
      rcases h3 with h3 | ⟨h3, h4⟩
      · exact .inr (.inl h3)
      · exact .inr (.inr ⟨(Rea.lt hc h3 (ckWay_bd hc).1), h3, h4⟩)

theorem LpC.yes {nx : List (List Int)} {h a acc c acc' : Nat} (hl : LpC nx h a acc c acc') (h1 : Rea nx (-1) 0 c) (h2 : Rea nx (h : Int) c a) : LpC nx h a acc (c + 1) (acc' ||| 2 ^ c) := fun x => by
  rw [Nat.testBit_or, Bool.or_eq_true, hl, Nat.testBit_two_pow, decide_eq_true_eq]
  constructor
  · rintro ((h3 | h3 | ⟨h3, h4⟩) | h3)
    · exact .inl h3
    · exact .inr (.inl h3)
    · exact .inr (.inr ⟨by omega, h4⟩)
    · subst h3; exact .inr (.inr ⟨by omega, h1, h2⟩)
  · rintro (h3 | h3 | ⟨h3, h4⟩)
    · exact .inl (.inl h3)
    · exact .inl (.inr (.inl h3))
    · by_cases e : c = x
      · exact .inr e
      · exact .inl (.inr (.inr ⟨by omega, h4⟩))

theorem LpC.no {nx : List (List Int)} {h a acc c acc' : Nat} (hl : LpC nx h a acc c acc') (hn : ¬ (Rea nx (-1) 0 c ∧ Rea nx (h : Int) c a)) : LpC nx h a acc (c + 1) acc' := fun x => by
  rw [hl]
  constructor
  · rintro (h3 | h3 | ⟨h3, h4⟩)
    · exact .inl h3
    · exact .inr (.inl h3)
    · exact .inr (.inr ⟨by omega, h4⟩)
  · rintro (h3 | h3 | ⟨h3, h4⟩)
    · exact .inl h3
    · exact .inr (.inl h3)
    · by_cases e : c = x
      · subst e; exact absurd h4 hn
      · exact .inr (.inr ⟨by omega, h4⟩)

theorem LpC.start (nx : List (List Int)) (h a acc : Nat) : LpC nx h a acc 0 (acc ||| 2 ^ h) := fun x => by
  rw [Nat.testBit_or, Bool.or_eq_true, Nat.testBit_two_pow, decide_eq_true_eq]
  constructor
  · rintro (h1 | h1)
    · exact .inl h1
    · exact .inr (.inl h1.symm)
  · rintro (h1 | h1 | ⟨h1, _⟩)
    · exact .inl h1
    · exact .inr h1.symm
    · omega

theorem LpK.done {nx : List (List Int)} {h acc W : Nat} (hl : LpK nx h (bkL nx).length acc) (hW : ∀ x, W.testBit x = true ↔ LoopP nx h x) : acc = W := word_ext fun x => by
  rw [hl, hW, List.take_length]
  exact Iff.rfl

end Go.Proofs.Ytfhnhbkdhdocjaa

/-
  What package loop's functions do (G1, G2): their contracts in one word.
-/

namespace Go.Proofs.Ytfhnhbkdhdocjaa
open Go.RowKit
set_option linter.unusedSimpArgs false
set_option linter.unusedVariables false
set_option maxRecDepth 100000

/-- G1: the loops, as words -/
structure Lps (nx : List (List Int)) (ws : List Nat) : Prop where
  len : ws.length = nx.length
  lt : ∀ (i W : Nat), ws[i]? = some W → W < 256
  mem : ∀ (i W : Nat), ws[i]? = some W → ∀ j, W.testBit j = true ↔ LoopP nx i j

/-- the loops among the first m that hold i -/
def dpN (ws : List Nat) (i m : Nat) : Nat := ((ws.take m).filter fun W => W.testBit i).length

/-- G1: of how many loops each node is -/
structure Dps (nx : List (List Int)) (ds : List Int) : Prop where
  len : ds.length = nx.length
  at_ : ∀ (i : Nat) (d : Int), ds[i]? = some d → ∀ ws, Lps nx ws → d = (dpN ws i ws.length : Nat)

end Go.Proofs.Ytfhnhbkdhdocjaa

/-
  codemasonref.ends, Sure, Hangs (H1, H2).
-/

namespace Go.Proofs.Ytfhnhbkdhdocjaa
open Go.RowKit
set_option linter.unusedSimpArgs false
set_option linter.unusedVariables false
set_option maxRecDepth 100000

theorem sc_nil {nx : List (List Int)} {j : Nat} : sc nx j = [] ↔ (ni (sc nx j)).length = 0 := by simp [ni]

set_option maxHeartbeats 4000000 in
theorem refEnds_any (T : Bool) (A : Option Addr) (len cap : Nat) (nx : List (List Int)) (i : Nat) (wo : Int) (w : World) (hT : T = true ↔ EndP nx wo i) (hx : RdG w w.heap.size A nx) (hl : nx.length = len) (hc : ckWay nx = 0) (hi : i < len) :
    Calls Try.prog 99 #[.slice A len cap, .int .i64 i, .int .i64 wo] w fun e w' => e = .returned (.bool T) ∧ Below w.heap.size w w' := by
  obtain ⟨b1, b2, _⟩ := ckWay_bd hc
  have HC := Lib.hid hc
  have HL := Lib.hid hl
  have HT := Lib.hid hT
  rw [hl] at b1 b2
  clear hl hc hT
  go_enter Try.func99, Try.ntmps99
  go_wp2_with fail
  refine (refReach_any A len cap nx i wo _ hx HL.out HC.out hi).mono ?_
  rintro e w1 ⟨hs, A1, c1, hrc, rfl, hr1, hb1⟩
  have hhl := hrc.len
  rw [HL.out] at hhl
  have hx1 := (hx.below hb1 (Nat.le_refl _)).more hb1.size
  have HRC := Lib.hid hrc
  obtain ⟨n, hn⟩ : ∃ n, hs.length = n := ⟨_, rfl⟩
  rw [hn] at hhl ⊢
  have HN := Lib.hid hn
  have HNL : Hid ((ni hs).length = n) := Lib.hid (by simp [ni, hn])
  clear hrc hn
  go_wp2
  go_loop [14] (fun z => ∃ k : Nat, k ≤ n ∧ z = .int .i64 k ∧ ∀ x ∈ hs.take k, sc nx x ≠ []) (fun z => n - (intOf z).toNat)
  case atStart => exact ⟨0, Nat.zero_le _, rfl, fun x hx => by simp at hx⟩
  case round =>
    obtain ⟨k, hk, rfl, hno⟩ := hrel
    have HNO := Lib.hid hno
    clear hno
    by_cases hlt : k < n
    · obtain ⟨ad1, x', rfl, hbl1, hd1, hc1⟩ := hr1.at_ (k := k) (by rw [HNL.out]; exact hlt)
      obtain ⟨x, hxx⟩ : ∃ x, hs[k]? = some x := ⟨_, List.getElem?_eq_getElem (by rw [HN.out]; exact hlt)⟩
      rw [ni_at hxx] at hd1
      injection hd1 with hd1
      subst hd1
      have hxm := List.mem_of_getElem? hxx
      have hxl := HRC.out.lt x hxm
      rw [HL.out] at hxl
      have HXR := Lib.hid ((HRC.out.mem x).1 hxm)
      obtain ⟨ad, row, Ar, cr, rfl, hbl, hd, hcell, hrow⟩ := hx1.at_ (k := x) (by rw [HL.out]; exact hxl)
      have hrs := row_sc HC.out hd
      subst hrs
      have HTK := Lib.hid (fun y => take_mem (f := y) hxx)
      clear hd hxx hxm
      by_cases hs0 : sc nx x = []
      · have h0 : (ni (sc nx x)).length = 0 := by simp [ni, hs0]
        rw [h0] at hcell
        have HTT := Lib.hid (HT.out.2 ⟨x, HXR.out, hs0⟩)
        clear hs0 h0
        go_wp2
        go_ret
        exact ⟨ret_bool HTT.out.symm, hb1⟩
      · have h0 : ((((ni (sc nx x)).length : Nat) : Int) == 0) = false := by
          have : (ni (sc nx x)).length ≠ 0 := fun h => hs0 (sc_nil.2 h)
          simp [this]
        obtain ⟨sl, hsl⟩ : ∃ sl, (ni (sc nx x)).length = sl := ⟨_, rfl⟩
        rw [hsl] at hcell h0
        have HS0 := Lib.hid hs0
        clear hs0 hsl
        go_wp2
        go_round
        case rel =>
          refine ⟨k + 1, by omega, by go_num, fun y hy => ?_⟩
          rcases (HTK.out y).1 hy with hy | rfl
          · exact HNO.out y hy
          · exact HS0.out
        case measure => (simp [intOf]; omega)
    · have htk : hs.take k = hs := List.take_of_length_le (by rw [HN.out]; omega)
      rw [htk] at HNO
      have HTF : Hid (T = false) := Lib.hid (by
        cases h : T with
        | false => rfl
        | true =>
          obtain ⟨j, h1, h2⟩ := HT.out.1 h
          exact absurd h2 (HNO.out j ((HRC.out.mem j).2 h1)))
      clear htk
      go_wp2
      go_ret
      exact ⟨ret_bool HTF.out.symm, hb1⟩

set_option maxHeartbeats 4000000 in
theorem refSure_any (f : Nat → Nat → Bool) (A : Option Addr) (len cap : Nat) (nx : List (List Int)) (i k : Nat) (w : World) (hf : ∀ i k, f i k = true ↔ SureP nx i k) (hx : RdG w w.heap.size A nx) (hl : nx.length = len) (hc : ckWay nx = 0) (hi : i < len) :
    Calls Try.prog 78 #[.slice A len cap, .int .i64 i, .int .i64 k] w fun e w' => e = .returned (.bool (f i k)) ∧ Below w.heap.size w w' := by
  have HC := Lib.hid hc
  have HL := Lib.hid hl
  obtain ⟨b1, hb1⟩ := bool_of (EndP nx (-1) i)
  obtain ⟨b2, hb2⟩ := bool_of (EndP nx (k : Int) i)
  have hr : f i k = (b1 && (decide (i = k) || !b2)) := by
    rw [Bool.eq_iff_iff, hf]
    unfold SureP
    simp only [Bool.and_eq_true, Bool.or_eq_true, decide_eq_true_eq, Bool.not_eq_true', hb1]
    cases b2 with
    | true => simp only [true_iff] at hb2; simp [hb2]
    | false => simp only [Bool.false_eq_true, false_iff] at hb2; simp [hb2]
  rw [hr]
  have HB1 := Lib.hid hb1
  have HB2 := Lib.hid hb2
  clear hr hb1 hb2 hf hl hc
  go_enter Try.func78, Try.ntmps78
  go_wp2_with fail
  refine (refEnds_any b1 A len cap nx i (-1) _ HB1.out hx HL.out HC.out hi).mono ?_
  rintro e w1 ⟨rfl, hw1⟩
  have hx1 := (hx.below hw1 (Nat.le_refl _)).more hw1.size
  cases b1 with
  | false =>
    go_wp2
    go_ret
    exact ⟨rfl, hw1⟩
  | true =>
    by_cases hik : i = k
    · subst hik
      go_wp2
      go_ret
      exact ⟨ret_bool (by simp), hw1⟩
    · have e0 : ((i : Int) == (k : Int)) = false := by simp; omega
      have HIK := Lib.hid hik
      clear hik
      go_wp2_with fail
      refine (refEnds_any b2 A len cap nx i (k : Int) _ HB2.out hx1 HL.out HC.out hi).mono ?_
      rintro e w2 ⟨rfl, hw2⟩
      have hw12 := hw1.trans (hw2.mono hw1.size)
      go_wp2
      go_ret
      exact ⟨ret_bool (by rw [decide_eq_false HIK.out]; cases b2 <;> rfl), hw12⟩

set_option maxHeartbeats 4000000 in
theorem refHangs_any (f g : Nat → Nat → Bool) (A : Option Addr) (len cap : Nat) (nx : List (List Int)) (i k : Nat) (w : World) (hf : ∀ i k, f i k = true ↔ SureP nx i k) (hg : ∀ i k, g i k = true ↔ HangP nx i k) (hx : RdG w w.heap.size A nx) (hl : nx.length = len) (hc : ckWay nx = 0) (hi : i < len) :
    Calls Try.prog 74 #[.slice A len cap, .int .i64 i, .int .i64 k] w fun e w' => e = .returned (.bool (g i k)) ∧ Below w.heap.size w w' := by
  have HC := Lib.hid hc
  have HL := Lib.hid hl
  have HF := Lib.hid hf
  have HSL3 := Lib.hid (sc_len hc i)
  have HSLT := Lib.hid (fun x => sc_lt hc (i := i) (x := x))
  have hgk := hg i k
  generalize g i k = T at *
  have HG := Lib.hid hgk
  obtain ⟨ad, row, Ar, cr, rfl, hbl, hd, hcell, hrow⟩ := hx.at_ (k := i) (by rw [hl]; exact hi)
  have hrs := row_sc hc hd
  subst hrs
  obtain ⟨ss, hss⟩ : ∃ ss, sc nx i = ss := ⟨_, rfl⟩
  have hnl : (ni ss).length = ss.length := by simp [ni]
  rw [hss] at hrow hcell
  rw [hnl] at hcell
  obtain ⟨sl, hsl⟩ : ∃ sl, ss.length = sl := ⟨_, rfl⟩
  rw [hsl] at hcell hnl
  have HSS := Lib.hid hss
  have HSL := Lib.hid hsl
  have HNL := Lib.hid hnl
  have hsl3 : sl ≤ 3 := by have := HSL3.out; rw [hss, hsl] at this; exact this
  clear hg hgk hl hc hf hd hss hsl hnl
  go_enter Try.func74, Try.ntmps74
  go_wp2
  go_loopw [14] (fun z wr => ∃ c : Nat, c ≤ sl ∧ z = .int .i64 c ∧ (∀ j ∈ ss.take c, ¬ (SureP nx j k ∧ (i = k ∨ ¬ SureP nx i k))) ∧ Below w.heap.size w wr) (fun z _ => sl - (intOf z).toNat)
  case atStart => exact ⟨0, Nat.zero_le _, rfl, fun x hx => by simp at hx, Below.refl _ _⟩
  case round =>
    obtain ⟨c, hc', rfl, hno, hb⟩ := hrel
    have HNO := Lib.hid hno
    have hsz := hb.size
    clear hno
    by_cases hct : c < sl
    · have hrowi : RdI wr w.heap.size Ar (ni ss) := hrow.below hb (Nat.le_refl _)
      obtain ⟨ar, x', rfl, hbr, hxr2, hcx⟩ := hrowi.at_ (k := c) (by rw [HNL.out]; exact hct)
      obtain ⟨x, hxx⟩ : ∃ x, ss[c]? = some x := ⟨_, List.getElem?_eq_getElem (by rw [HSL.out]; exact hct)⟩
      rw [ni_at hxx] at hxr2
      injection hxr2 with hxr2
      subst hxr2
      have hxm := List.mem_of_getElem? hxx
      have hxl := HSLT.out x (by rw [HSS.out]; exact hxm)
      rw [HL.out] at hxl
      have HXM : Hid (x ∈ sc nx i) := Lib.hid (by rw [HSS.out]; exact hxm)
      have HTK := Lib.hid (fun y => take_mem (f := y) hxx)
      have hxi := (hx.below hb (Nat.le_refl _)).more hsz
      obtain ⟨v1, hv1⟩ : ∃ v, f x k = v := ⟨_, rfl⟩
      obtain ⟨v2, hv2⟩ : ∃ v, f i k = v := ⟨_, rfl⟩
      have HV1 := Lib.hid hv1
      have HV2 := Lib.hid hv2
      have h1 := HF.out x k
      have h2 := HF.out i k
      rw [hv1] at h1
      rw [hv2] at h2
      have hgo : (¬ (SureP nx x k ∧ (i = k ∨ ¬ SureP nx i k))) → ∀ j ∈ ss.take (c + 1), ¬ (SureP nx j k ∧ (i = k ∨ ¬ SureP nx i k)) := fun hn j hj => by
        rcases (HTK.out j).1 hj with hj | rfl
        · exact HNO.out j hj
        · exact hn
      have HGO := Lib.hid hgo
      have H1 := Lib.hid h1
      have H2 := Lib.hid h2
      clear hv1 hv2 h1 h2 hgo hxx hxm
      go_wp2_with fail
      refine (refSure_any f _ len cap nx x k _ HF.out hxi HL.out HC.out hxl).mono ?_
      rw [HV1.out]
      rintro e w5 ⟨rfl, hb5⟩
      have hb15 := hb.trans (hb5.mono hsz)
      have hsz5 := hb15.size
      have hx5 := (hx.below hb15 (Nat.le_refl _)).more hsz5
      cases v1 with
      | false =>
        have HN := Lib.hid (HGO.out (fun h => by have := H1.out.2 h.1; cases this))
        go_wp2
        go_round
        case rel => exact ⟨c + 1, by omega, by go_num, HN.out, hb15⟩
        case measure => (simp [intOf]; omega)
      | true =>
        have HS1 := Lib.hid (H1.out.1 rfl)
        by_cases hik : i = k
        · have e0 : ((i : Int) == (k : Int)) = true := by simp; omega
          have HT := Lib.hid (HG.out.2 ⟨x, HXM.out, HS1.out, .inl hik⟩)
          clear hik
          go_wp2
          go_ret
          exact ⟨ret_bool HT.out.symm, hb15⟩
        · have e0 : ((i : Int) == (k : Int)) = false := by simp; omega
          have HIK := Lib.hid hik
          clear hik
          go_wp2_with fail
          refine (refSure_any f _ len cap nx i k _ HF.out hx5 HL.out HC.out hi).mono ?_
          rw [HV2.out]
          rintro e w6 ⟨rfl, hb6⟩
          have hb16 := hb15.trans (hb6.mono hsz5)
          cases v2 with
          | true =>
            have HN := Lib.hid (HGO.out (fun h => h.2.elim HIK.out fun q => q (H2.out.1 rfl)))
            go_wp2
            go_round
            case rel => exact ⟨c + 1, by omega, by go_num, HN.out, hb16⟩
            case measure => (simp [intOf]; omega)
          | false =>
            have HT := Lib.hid (HG.out.2 ⟨x, HXM.out, HS1.out, .inr fun h => by have := H2.out.2 h; cases this⟩)
            go_wp2
            go_ret
            exact ⟨ret_bool HT.out.symm, hb16⟩
    · have htk : ss.take c = ss := List.take_of_length_le (by rw [HSL.out]; omega)
      rw [htk] at HNO
      have HTF : Hid (T = false) := Lib.hid (by
        cases h : T with
        | false => rfl
        | true =>
          obtain ⟨j, h1, h2⟩ := HG.out.1 h
          rw [HSS.out] at h1
          exact absurd h2 (HNO.out j h1))
      clear htk
      go_wp2
      go_ret
      exact ⟨ret_bool HTF.out.symm, hb⟩

end Go.Proofs.Ytfhnhbkdhdocjaa

/-
  What package hang's functions do (H1, H2): their contracts in one word.
-/

namespace Go.Proofs.Ytfhnhbkdhdocjaa
open Go.RowKit
set_option linter.unusedSimpArgs false
set_option linter.unusedVariables false
set_option maxRecDepth 100000

/-- H1: who postdominates each node, as words -/
structure Lst (nx : List (List Int)) (ws : List Nat) : Prop where
  len : ws.length = nx.length
  lt : ∀ (i W : Nat), ws[i]? = some W → W < 2 ^ nx.length
  mem : ∀ (i W : Nat), ws[i]? = some W → ∀ j, W.testBit j = true ↔ SureP nx i j

/-- H2: what hangs on each node, as words -/
structure Hgs (nx : List (List Int)) (ws : List Nat) : Prop where
  len : ws.length = nx.length
  lt : ∀ (i W : Nat), ws[i]? = some W → W < 2 ^ nx.length
  mem : ∀ (i W : Nat), ws[i]? = some W → ∀ j, W.testBit j = true ↔ HangP nx i j

/-- .. of package hang's first function -/
structure LastIs : Prop where
  last : ∀ (A : Option Addr) (len cap : Nat) (nx : List (List Int)) (w : World), RdG w w.heap.size A nx → nx.length = len → ckWay nx = 0 →
    Calls Try.prog 94 #[.slice A len cap] w fun e w' => ∃ ws A' c', Lst nx ws ∧ e = .returned (.tuple #[.slice A' len c', .int .i64 0]) ∧ RdU w' w'.heap.size A' ws ∧ Below w.heap.size w w'
  lastBad : ∀ (A : Option Addr) (len cap : Nat) (nx : List (List Int)) (w : World), RdG w w.heap.size A nx → nx.length = len → len ≤ maxLen → ckWay nx ≠ 0 →
    Calls Try.prog 94 #[.slice A len cap] w fun e w' => ∃ A' c', e = .returned (.tuple #[.slice A' 0 c', .int .i64 (ckWay nx)]) ∧ Below w.heap.size w w'

/-- .. of its second one -/
structure OnIs : Prop where
  on : ∀ (A : Option Addr) (len cap : Nat) (nx : List (List Int)) (w : World), RdG w w.heap.size A nx → nx.length = len → ckWay nx = 0 →
    Calls Try.prog 95 #[.slice A len cap] w fun e w' => ∃ ws A' c', Hgs nx ws ∧ e = .returned (.tuple #[.slice A' len c', .int .i64 0]) ∧ RdU w' w'.heap.size A' ws ∧ Below w.heap.size w w'
  onBad : ∀ (A : Option Addr) (len cap : Nat) (nx : List (List Int)) (w : World), RdG w w.heap.size A nx → nx.length = len → len ≤ maxLen → ckWay nx ≠ 0 →
    Calls Try.prog 95 #[.slice A len cap] w fun e w' => ∃ A' c', e = .returned (.tuple #[.slice A' 0 c', .int .i64 (ckWay nx)]) ∧ Below w.heap.size w w'

end Go.Proofs.Ytfhnhbkdhdocjaa

/-
  codemasonref.StopsCheck (T1): can one come, from each block to which one comes, to one that stops?
-/

namespace Go.Proofs.Ytfhnhbkdhdocjaa
open Go.RowKit
set_option linter.unusedSimpArgs false
set_option linter.unusedVariables false
set_option maxRecDepth 100000

/-- T1: from each node that is reached one comes to an end -/
def StopsP (nx : List (List Int)) : Prop := ∀ c, Rea nx (-1) 0 c → EndP nx (-1) c

theorem stops_bool (nx : List (List Int)) : ∃ b : Bool, b = true ↔ StopsP nx := ⟨@decide (StopsP nx) (Classical.propDecidable _), by rw [@decide_eq_true_eq _ (Classical.propDecidable _)]⟩

theorem end_bool (nx : List (List Int)) (i : Nat) : ∃ b : Bool, b = true ↔ EndP nx (-1) i := ⟨@decide (EndP nx (-1) i) (Classical.propDecidable _), by rw [@decide_eq_true_eq _ (Classical.propDecidable _)]⟩

set_option maxHeartbeats 4000000 in
theorem refStops_any (T : Bool) (A : Option Addr) (len cap : Nat) (nx : List (List Int)) (w : World) (hT : T = true ↔ StopsP nx) (hx : RdG w w.heap.size A nx) (hl : nx.length = len) (hc : ckWay nx = 0) :
    Calls Try.prog 72 #[.slice A len cap] w fun e w' => e = .returned (.bool T) ∧ Below w.heap.size w w' := by
  obtain ⟨b1, b2, _⟩ := ckWay_bd hc
  have HC := Lib.hid hc
  have HL := Lib.hid hl
  have HT := Lib.hid hT
  rw [hl] at b1 b2
  have HR := Lib.hid (refReach_any A len cap nx 0 (-1) w hx hl hc (by omega))
  have HE := Lib.hid (fun (Z : World) (i : Nat) (b : Bool) (hb : b = true ↔ EndP nx (-1) i) (hi : i < len) (hZ : Below w.heap.size w Z) => refEnds_any b A len cap nx i (-1) Z hb ((hx.below hZ (Nat.le_refl _)).more hZ.size) hl hc hi)
  clear hx hl hc hT
  go_enter Try.func72, Try.ntmps72
  go_wp2_with (go_at_call 98; (refine HR.out.mono ?_); rintro e w1 ⟨hs, A1, c1, hrc, rfl, hr1, hb1⟩)
  have HRC := Lib.hid hrc
  have HRD := Lib.hid hr1
  have HB1 := Lib.hid hb1
  obtain ⟨hl1, hle⟩ : ∃ n, hs.length = n := ⟨_, rfl⟩
  have HLE := Lib.hid hle
  rw [hle]
  have hl8 : hl1 ≤ 8 := by have := hrc.len; rw [HL.out, hle] at this; omega
  clear hrc hr1 hb1 hle
  go_loopw [8] (fun z wr => ∃ k : Nat, k ≤ hl1 ∧ z = .int .i64 k ∧ Hid (∀ j ∈ hs.take k, EndP nx (-1) j) ∧ Hid (Below w1.heap.size w1 wr)) (fun z _ => hl1 - (intOf z).toNat)
  case atStart => exact ⟨0, Nat.zero_le _, rfl, Lib.hid (fun x hx => by simp at hx), Lib.hid (Below.refl _ _)⟩
  case round =>
    obtain ⟨k, hk, rfl, HAL, HB⟩ := hrel
    by_cases hlt : k < hl1
    · obtain ⟨ad, x, rfl, hbl, hxx, hcx⟩ := ((HRD.out.below HB.out (Nat.le_refl _)).more HB.out.size).at_ (k := k) (by unfold ni; rw [List.length_map, HLE.out]; exact hlt)
      obtain ⟨j, hj⟩ : ∃ j, hs[k]? = some j := ⟨_, List.getElem?_eq_getElem (by rw [HLE.out]; exact hlt)⟩
      rw [ni_at hj] at hxx
      injection hxx with hxx
      subst hxx
      have hjl := HRC.out.lt j (List.mem_of_getElem? hj)
      rw [HL.out] at hjl
      obtain ⟨b, hb⟩ := end_bool nx j
      have HEB := Lib.hid hb
      have HJ := Lib.hid hj
      have HEC := Lib.hid (HE.out wr j b hb hjl (below_via HB1.out HB.out))
      clear hj hb
      cases b with
      | true =>
        go_wp2_with (go_at_call 99; (with_reducible refine HEC.out.mono ?_); rintro e w2 ⟨rfl, hb2⟩)
        go_round
        case rel => exact ⟨k + 1, by omega, by go_num, Lib.hid (fun y hy => by
          rw [List.take_add_one, HJ.out, Option.toList_some, List.mem_append] at hy
          rcases hy with hy | hy
          · exact HAL.out y hy
          · rw [List.mem_singleton.1 hy]; exact HEB.out.1 (by simp)), Lib.hid (below_via HB.out hb2)⟩
        case measure => (simp [intOf]; omega)
      | false =>
        have HNO : Hid (T = false) := Lib.hid (by
          cases T with
          | false => rfl
          | true =>
            have := HEB.out.2 (HT.out.1 rfl j ((HRC.out.mem j).1 (List.mem_of_getElem? HJ.out)))
            cases this)
        go_wp2_with (go_at_call 99; (with_reducible refine HEC.out.mono ?_); rintro e w2 ⟨rfl, hb2⟩)
        go_ret
        exact ⟨ret_bool HNO.out.symm, below_via HB1.out (below_via HB.out hb2)⟩
    · have HYES : Hid (T = true) := Lib.hid (HT.out.2 fun c hc => by
        have := (HRC.out.mem c).2 hc
        exact HAL.out c (by rw [List.take_of_length_le (by rw [HLE.out]; omega)]; exact this))
      go_wp2
      go_ret
      exact ⟨ret_bool HYES.out.symm, below_via HB1.out HB.out⟩

end Go.Proofs.Ytfhnhbkdhdocjaa
