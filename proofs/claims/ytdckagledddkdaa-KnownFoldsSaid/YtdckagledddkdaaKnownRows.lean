/-
  Rows of constants in a block of the call's own: read, made, written in place (L1).
-/
import Derived.Test.YtdckagledddkdaaMPure
import Derived.Test.YtdckagledddkdaaMBase
namespace Go.Proofs.Ytdckagledddkdaa
open Go.RowKit
set_option linter.unusedSimpArgs false
set_option linter.unusedVariables false
set_option maxRecDepth 100000

/-- rows that are read: an empty one is nil -/
structure KG (w : World) (g : Nat) (X : List (List Int)) (cs : List Value) : Prop where
  len : cs.length = X.length
  own : Own w g 23 cs
  rows : ∀ (i : Nat) (a : List Int), X[i]? = some a → (a = [] ∧ cs[i]? = some (.slice none 0 0)) ∨ (a ≠ [] ∧ ∃ h c, cs[i]? = some (.slice (some ⟨h, 0, none⟩) a.length c) ∧ RdI w w.heap.size (some ⟨h, 0, none⟩) a)

theorem KG.below {w w' : World} {g : Nat} {X : List (List Int)} {cs : List Value} (h : KG w g X cs) (hb : Below w.heap.size w w') : KG w' g X cs := by
  refine ⟨h.len, h.own.below hb h.own.lt, fun i a ha => ?_⟩
  rcases h.rows i a ha with h1 | ⟨h1, k, c, h2, h3⟩
  · exact .inl h1
  · exact .inr ⟨h1, k, c, h2, (h3.below hb (Nat.le_refl _)).more hb.size⟩

theorem addr_zero_add (g k : Nat) : (⟨g, 0, none⟩ : Addr).add k = ⟨g, k, none⟩ := by unfold Addr.add; split <;> simp_all

theorem KG.rd {w : World} {g : Nat} {X : List (List Int)} {cs : List Value} (h : KG w g X cs) : RdG w w.heap.size (some ⟨g, 0, none⟩) X := fun hm => by
  refine ⟨_, rfl, h.own.lt, fun r row hr => ?_⟩
  rcases h.rows r row hr with ⟨rfl, h2⟩ | ⟨_, k, c, h2, h3⟩
  · exact ⟨none, 0, by rw [addr_zero_add]; exact h.own.cell h2, fun h => by simp at h⟩
  · exact ⟨_, c, by rw [addr_zero_add]; exact h.own.cell h2, h3⟩

/-- rows that are made: each in a block of its own behind G, apart from each other -/
structure KN (w : World) (G n : Nat) (Y : List (List Int)) (cs : List Value) : Prop where
  len : cs.length = Y.length
  own : Own w G 23 cs
  rows : ∀ (i : Nat) (a : List Int), Y[i]? = some a → (a = [] ∧ cs[i]? = some (.slice none 0 0)) ∨ (a ≠ [] ∧ a.length = n ∧ ∃ h c, cs[i]? = some (.slice (some ⟨h, 0, none⟩) n c) ∧ w.ownsRow (G + 1) 3 1 (.slice (some ⟨h, 0, none⟩) n c) n (iv a))
  apart : ∀ (i j h n1 c1 n2 c2 : Nat), i ≠ j → cs[i]? = some (.slice (some ⟨h, 0, none⟩) n1 c1) → cs[j]? ≠ some (.slice (some ⟨h, 0, none⟩) n2 c2)

/-- a block that is none of the rows' -/
def Free (cs : List Value) (b : Nat) : Prop := ∀ (i h n c : Nat), cs[i]? = some (.slice (some ⟨h, 0, none⟩) n c) → h ≠ b

theorem KN.quiet {w w' : World} {G n : Nat} {Y : List (List Int)} {cs : List Value} (h : KN w G n Y cs) (hb : Below w.heap.size w w') : KN w' G n Y cs := by
  refine ⟨h.len, h.own.below hb h.own.lt, fun i a ha => ?_, h.apart⟩
  rcases h.rows i a ha with h1 | ⟨h1, h2, k, c, h3, h4⟩
  · exact .inl h1
  · exact .inr ⟨h1, h2, k, c, h3, own_below h4 hb⟩

theorem KN.free {w : World} {G n : Nat} {Y : List (List Int)} {cs : List Value} (h : KN w G n Y cs) {b : Nat} (hb : w.heap.size ≤ b) : Free cs b := fun i k n' c hc e => by
  have hil : i < Y.length := by rw [← h.len]; exact (List.getElem?_eq_some_iff.1 hc).1
  rcases h.rows i _ (List.getElem?_eq_getElem hil) with ⟨_, h2⟩ | ⟨_, _, k', c', h3, h4⟩
  · rw [hc] at h2; cases h2
  · rw [hc] at h3
    injection h3 with h3
    injection h3 with h5 _ _
    injection h5 with h5
    injection h5 with h5 _ _
    have := (h4.lt k' rfl).2
    omega

theorem KN.start {w : World} {n m : Nat} : KN (w.alloc (.cells (List.replicate m (Value.slice none 0 0)).toArray 23)) w.heap.size n (List.replicate m []) (List.replicate m (.slice none 0 0)) := by
  refine ⟨by simp, Own.new w _ _, fun i a ha => ?_, fun i j h n1 c1 n2 c2 _ hc => ?_⟩
  · rw [List.getElem?_replicate] at ha
    split at ha
    · rename_i hi
      injection ha with ha
      exact .inl ⟨ha.symm, by rw [List.getElem?_replicate, if_pos hi]⟩
    · cases ha
  · rw [List.getElem?_replicate] at hc
    split at hc
    · injection hc with hc; cases hc
    · cases hc

/-- a row that is new -/
theorem KN.put {w w1 : World} {G n j h c : Nat} {Y : List (List Int)} {cs : List Value} {a : List Int} (hk : KN w G n Y cs) (hb : Below w.heap.size w w1) (ha : a.length = n) (hn : 0 < n)
    (ho : w1.ownsRow (G + 1) 3 1 (.slice (some ⟨h, 0, none⟩) n c) n (iv a)) (hh : w.heap.size ≤ h) :
    KN (w1.setCell ⟨G, j, none⟩ (.slice (some ⟨h, 0, none⟩) n c)) G n (Y.set j a) (cs.set j (.slice (some ⟨h, 0, none⟩) n c)) := by
  have hq := hk.quiet hb
  have hfr := hk.free hh
  refine ⟨by simp [hk.len], hq.own.set j _, fun i b hbi => ?_, fun i k h' n1 c1 n2 c2 hne hc1 hc2 => ?_⟩
  · by_cases e : j = i
    · subst e
      have hjl : j < Y.length := by have := (List.getElem?_eq_some_iff.1 hbi).1; simpa using this
      rw [List.getElem?_set_self hjl] at hbi
      injection hbi with hbi
      subst hbi
      refine .inr ⟨fun e => by rw [e] at ha; simp at ha; omega, ha, h, c, List.getElem?_set_self (by rw [hk.len]; exact hjl), own_farW ho (by show G < G + 1; omega) _⟩
    · rw [List.getElem?_set_ne e] at hbi
      rcases hq.rows i b hbi with ⟨h1, h2⟩ | ⟨h1, h2, k', c', h3, h4⟩
      · exact .inl ⟨h1, by rw [List.getElem?_set_ne e]; exact h2⟩
      · exact .inr ⟨h1, h2, k', c', by rw [List.getElem?_set_ne e]; exact h3, own_farW h4 (by show G < G + 1; omega) _⟩
  · by_cases e1 : j = i
    · subst e1
      have hjl := (List.getElem?_eq_some_iff.1 hc1).1
      rw [List.length_set] at hjl
      rw [List.getElem?_set_self hjl] at hc1
      injection hc1 with hc1
      injection hc1 with hc1 _ _
      injection hc1 with hc1
      injection hc1 with hc1 _ _
      subst hc1
      rw [List.getElem?_set_ne hne] at hc2
      exact hfr k h n2 c2 hc2 rfl
    · rw [List.getElem?_set_ne e1] at hc1
      by_cases e2 : j = k
      · subst e2
        have hjl := (List.getElem?_eq_some_iff.1 hc2).1
        rw [List.length_set] at hjl
        rw [List.getElem?_set_self hjl] at hc2
        injection hc2 with hc2
        injection hc2 with hc2 _ _
        injection hc2 with hc2
        injection hc2 with hc2 _ _
        subst hc2
        exact hfr i h n1 c1 hc1 rfl
      · rw [List.getElem?_set_ne e2] at hc2
        exact hk.apart i k h' n1 c1 n2 c2 hne hc1 hc2

/-- a value of a row written -/
theorem KN.poke {w : World} {G n j h c u : Nat} {Y : List (List Int)} {cs : List Value} {a : List Int} {x : Int} (hk : KN w G n Y cs) (hj : Y[j]? = some a) (hc : cs[j]? = some (.slice (some ⟨h, 0, none⟩) n c)) (hu : u < n) (hn : 0 < n) :
    KN (w.setCell ⟨h, u, none⟩ (.int .i64 x)) G n (Y.set j (a.set u x)) cs := by
  have hjl := (List.getElem?_eq_some_iff.1 hj).1
  obtain ⟨hane, hal, h', c', h3, h4⟩ : a ≠ [] ∧ a.length = n ∧ ∃ h c, cs[j]? = some (.slice (some ⟨h, 0, none⟩) n c) ∧ w.ownsRow (G + 1) 3 1 (.slice (some ⟨h, 0, none⟩) n c) n (iv a) := by
    rcases hk.rows j a hj with ⟨_, h2⟩ | h2
    · rw [hc] at h2; cases h2
    · exact h2
  rw [hc] at h3
  injection h3 with h3
  injection h3 with h5 _ h6
  injection h5 with h5
  injection h5 with h5 _ _
  subst h5 h6
  have hlt := h4.lt h rfl
  have hst := (h4.stored u (.int .i64 x)).1
  rw [iv_set] at hst
  refine ⟨by simp [hk.len], hk.own.far (by show G ≠ h; omega) _, fun i b hb => ?_, hk.apart⟩
  by_cases e : j = i
  · subst e
    rw [List.getElem?_set_self hjl] at hb
    injection hb with hb
    subst hb
    exact .inr ⟨fun e => hane (List.eq_nil_of_length_eq_zero (by have := congrArg List.length e; simpa using this)), by rw [List.length_set]; exact hal, h, c, hc, hst⟩
  · rw [List.getElem?_set_ne e] at hb
    rcases hk.rows i b hb with h1 | ⟨h1, h2, k', c', h3, h4'⟩
    · exact .inl h1
    · refine .inr ⟨h1, h2, k', c', h3, ownsRow_setCell_other h4' ?_ _⟩
      intro e2
      have : k' = h := by simpa [Value.ownBlock] using e2
      subst this
      exact hk.apart j i k' n c n c' e hc h3

theorem KN.kg {w : World} {G n : Nat} {Y : List (List Int)} {cs : List Value} (h : KN w G n Y cs) : KG w G Y cs := by
  refine ⟨h.len, h.own, fun i a ha => ?_⟩
  rcases h.rows i a ha with h1 | ⟨h1, h2, k, c, h3, h4⟩
  · exact .inl h1
  · exact .inr ⟨h1, k, c, by rw [h2]; exact h3, own_rdI h4 h2⟩

/-- reading across a write to another block -/
theorem RdI.other {w : World} {A : Option Addr} {xs : List Int} {p : Addr} {v : Value} (h : RdI w w.heap.size A xs) (hp : ∀ ad, A = some ad → ad.block ≠ p.block) : RdI (w.setCell p v) (w.setCell p v).heap.size A xs := fun hm => by
  obtain ⟨ad, e, hb, hc⟩ := h hm
  have hw : Wrote p.block w (w.setCell p v) := (Wrote.of_below (Below.refl _ _)).set rfl v
  refine ⟨ad, e, Nat.lt_of_lt_of_le hb hw.size, fun j hj => ?_⟩
  rw [← hc j hj]
  exact hw.cell (by rw [addr_add_block]; exact hb) (by rw [addr_add_block]; exact hp ad e)

/-! ### How much may still be forgotten, out of the world -/

def cntR (w : World) (ad : Addr) (m : Nat) : Nat := ((List.range m).filter fun j => match w.cell? (ad.add j) with
  | some (.int .i64 x) => decide (x ≠ -1)
  | _ => true).length

def cntK (n : Nat) (w : World) : Value → Nat
  | .slice (some ad) len _ => ((List.range len).map fun i => match w.cell? (ad.add i) with
    | some (.slice (some a) m _) => cntR w a m
    | _ => n + 1).sum
  | _ => 0

theorem knC_range : ∀ a : List Int, knC a = ((List.range a.length).filter fun j => decide (a.getD j 0 ≠ -1)).length
  | [] => rfl
  | x :: a => by
    have ih := knC_range a
    unfold knC at ih ⊢
    rw [List.length_cons, List.range_succ_eq_map, List.filter_cons, List.filter_cons, List.filter_map]
    have e : ((fun j => decide ((x :: a).getD j 0 ≠ -1)) ∘ Nat.succ) = fun j => decide (a.getD j 0 ≠ -1) := by
      funext j
      simp
    rw [e]
    have e0 : (x :: a).getD 0 0 = x := rfl
    rw [e0]
    by_cases hx : x = -1
    · simp only [hx, ne_eq, not_true_eq_false, decide_false, Bool.false_eq_true, if_false]
      rw [List.length_map]
      exact ih
    · simp only [hx, ne_eq, not_false_eq_true, decide_true, if_true, List.length_cons, List.length_map]
      exact congrArg (· + 1) ih

theorem cntK_eq {w : World} {g n c : Nat} {X : List (List Int)} {cs : List Value} (h : KG w g X cs) : cntK n w (.slice (some ⟨g, 0, none⟩) X.length c) = wtM n X := by
  unfold cntK wtM
  refine congrArg List.sum ?_
  apply List.ext_getElem?
  intro i
  rcases Nat.lt_or_ge i X.length with hi | hi
  · rw [List.getElem?_map, List.getElem?_range hi, List.getElem?_map, List.getElem?_eq_getElem hi]
    simp only [Option.map_some, Option.some.injEq]
    rcases h.rows i _ (List.getElem?_eq_getElem hi) with ⟨h1, h2⟩ | ⟨h1, k, c', h2, h3⟩
    · rw [addr_zero_add, h.own.cell h2, h1]
      simp [wtR]
    · rw [addr_zero_add, h.own.cell h2]
      simp only []
      unfold wtR
      rw [if_neg h1, knC_range]
      unfold cntR
      refine congrArg List.length ?_
      apply List.filter_congr
      intro j hj
      have hjl := List.mem_range.1 hj
      obtain ⟨ad, x, e, _, hx, hcx⟩ := h3.at_ (k := j) hjl
      injection e with e
      subst e
      rw [hcx, getD_at hx]
  · rw [List.getElem?_eq_none (by simpa using hi), List.getElem?_eq_none (by simpa using hi)]

end Go.Proofs.Ytdckagledddkdaa
