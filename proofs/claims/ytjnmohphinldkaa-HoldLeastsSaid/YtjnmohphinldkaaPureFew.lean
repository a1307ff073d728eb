/-
  Plain mathematics of the fewest misses by all sets of things that can be there (P1).
-/
import Derived.Test.YtjnmohphinldkaaPureHoldP
import Derived.Test.YtjnmohphinldkaaMPure
namespace Go.Proofs.Ytjnmohphinldkaa
set_option linter.unusedSimpArgs false
set_option linter.unusedVariables false

/-! ### the least for each word -/

/-- the lesser is kept -/
def putM (g : Nat → Option Nat) (W k : Nat) : Nat → Option Nat := fun x => if x = W then (match g W with | some o => if k < o then some k else some o | none => some k) else g x

/-- g tells of each word the least of what S says -/
def CovI (S : Nat → Nat → Prop) (g : Nat → Option Nat) : Prop := (∀ W k, g W = some k → S W k) ∧ ∀ W k, S W k → ∃ k', k' ≤ k ∧ g W = some k'

theorem CovI.congr {S T : Nat → Nat → Prop} {g : Nat → Option Nat} (h : CovI S g) (he : ∀ W k, S W k ↔ T W k) : CovI T g := ⟨fun W k hg => (he W k).1 (h.1 W k hg), fun W k ht => h.2 W k ((he W k).2 ht)⟩

theorem CovI.put {S : Nat → Nat → Prop} {g : Nat → Option Nat} (h : CovI S g) (W k : Nat) : CovI (fun W' k' => S W' k' ∨ W' = W ∧ k' = k) (putM g W k) := by
  refine ⟨fun W' k' hg => ?_, fun W' k' hs => ?_⟩
  · unfold putM at hg
    by_cases hW : W' = W
    · subst hW
      rw [if_pos rfl] at hg
      cases ho : g W' with
      | none => rw [ho] at hg; injection hg with hg; exact .inr ⟨rfl, hg.symm⟩
      | some o =>
        rw [ho] at hg
        simp only at hg
        split at hg
        · injection hg with hg; exact .inr ⟨rfl, hg.symm⟩
        · injection hg with hg; subst hg; exact .inl (h.1 _ _ ho)
    · rw [if_neg hW] at hg
      exact .inl (h.1 _ _ hg)
  · unfold putM
    by_cases hW : W' = W
    · subst hW
      rw [if_pos rfl]
      cases ho : g W' with
      | none =>
        rcases hs with hs | ⟨_, rfl⟩
        · obtain ⟨k1, _, h2⟩ := h.2 _ _ hs
          rw [ho] at h2
          cases h2
        · exact ⟨_, Nat.le_refl _, rfl⟩
      | some o =>
        simp only
        rcases hs with hs | ⟨_, rfl⟩
        · obtain ⟨k1, h1, h2⟩ := h.2 _ _ hs
          rw [ho] at h2
          injection h2 with h2
          split
          · exact ⟨_, by omega, rfl⟩
          · exact ⟨_, by omega, rfl⟩
        · split
          · exact ⟨_, Nat.le_refl _, rfl⟩
          · exact ⟨_, by omega, rfl⟩
    · rw [if_neg hW]
      rcases hs with hs | ⟨e, _⟩
      · exact h.2 _ _ hs
      · exact absurd e hW

/-! ### words of things -/

/-- the word of those of d, by their places in nm -/
def wordOf (nm d : List Int) : Nat := setW ((List.range nm.length).filter fun i => decide (nm.getD i 0 ∈ d))

theorem wordOf_bit {nm d : List Int} {i : Nat} : (wordOf nm d).testBit i = true ↔ i < nm.length ∧ nm.getD i 0 ∈ d := by
  unfold wordOf
  rw [setW_bit, List.mem_filter, List.mem_range, decide_eq_true_eq]

theorem wordOf_lt (nm d : List Int) : wordOf nm d < 2 ^ nm.length := setW_lt fun x hx => List.mem_range.1 (List.mem_filter.1 hx).1

theorem bit_eq {b c : Bool} (h : b = true ↔ c = true) : b = c := by
  cases b <;> cases c <;> simp at h <;> rfl

theorem wordOf_same {nm d e : List Int} (h : ∀ x, x ∈ d ↔ x ∈ e) : wordOf nm d = wordOf nm e := Nat.eq_of_testBit_eq fun i => bit_eq (by rw [wordOf_bit, wordOf_bit, h])

theorem wordOf_size {nm d : List Int} (hn : nm.Nodup) (hd : d.Nodup) (hs : ∀ x ∈ d, x ∈ nm) : szW (wordOf nm d) nm.length = d.length := by
  unfold wordOf
  rw [szW_len (List.nodup_range.sublist List.filter_sublist) fun x hx => List.mem_range.1 (List.mem_filter.1 hx).1]
  have h1 : nm = (List.range nm.length).map fun i => nm.getD i 0 := by
    apply List.ext_getElem
    · simp
    · intro i h1 h2
      simp [List.getD_eq_getElem?_getD, List.getElem?_eq_getElem h1]
  have h2 : (nm.filter fun x => decide (x ∈ d)).length = ((List.range nm.length).filter fun i => decide (nm.getD i 0 ∈ d)).length := by
    have h3 : (nm.filter fun x => decide (x ∈ d)).length = (((List.range nm.length).map fun i => nm.getD i 0).filter fun x => decide (x ∈ d)).length := congrArg (fun l => (l.filter fun x => decide (x ∈ d)).length) h1
    rw [h3, List.filter_map, List.length_map]
    rfl
  rw [← h2]
  exact ((List.perm_ext_iff_of_nodup (hn.sublist List.filter_sublist) hd).2 fun x => by
    rw [List.mem_filter, decide_eq_true_eq]
    exact ⟨fun h => h.2, fun h => ⟨hs x h, h⟩⟩).length_eq

theorem testBit_sub_pow : ∀ (i W j : Nat), W.testBit i = true → (W - 2 ^ i).testBit j = (W.testBit j && !decide (j = i))
  | 0, W, j, h => by
    rw [Nat.testBit_zero, decide_eq_true_eq] at h
    cases j with
    | zero =>
      rw [Nat.testBit_zero, Nat.testBit_zero, Nat.pow_zero, show (W - 1) % 2 = 0 by omega]
      simp
    | succ j =>
      rw [Nat.testBit_succ, Nat.testBit_succ, Nat.pow_zero, show (W - 1) / 2 = W / 2 by omega]
      simp
  | i + 1, W, j, h => by
    rw [Nat.testBit_succ] at h
    have hp : 2 ^ (i + 1) = 2 * 2 ^ i := by rw [Nat.pow_succ]; omega
    cases j with
    | zero =>
      rw [Nat.testBit_zero, Nat.testBit_zero, hp]
      have hge : 2 ^ i ≤ W / 2 := Nat.ge_two_pow_of_testBit h
      rw [show (W - 2 * 2 ^ i) % 2 = W % 2 by omega]
      simp
    | succ j =>
      rw [Nat.testBit_succ, Nat.testBit_succ, hp, show (W - 2 * 2 ^ i) / 2 = W / 2 - 2 ^ i by omega, testBit_sub_pow i _ _ h]
      simp

/-! ### one more asked for -/

theorem Run.join {p : Nat} {c d rs : List Int} {k : Nat} (h : Run p c rs k d) : ∀ {r e : List Int} {q : Nat}, Run p d r q e → Run p c (rs ++ r) (k + q) e := by
  induction h with
  | nil c => exact fun h => by rw [Nat.zero_add]; exact h
  | hit h1 h2 _ ih => exact fun h => .hit h1 h2 (ih h)
  | room h1 h2 h3 _ ih => exact fun h => by rw [show ∀ a q : Nat, a + 1 + q = a + q + 1 from fun a q => by omega]; exact .room h1 h2 h3 (ih h)
  | out h1 h2 h3 h4 _ ih => exact fun h => by rw [show ∀ a q : Nat, a + 1 + q = a + q + 1 from fun a q => by omega]; exact .out h1 h2 h3 h4 (ih h)

theorem Run.sub {p : Nat} {c d rs : List Int} {k : Nat} (h : Run p c rs k d) : ∀ x ∈ d, x ∈ c ∨ x ∈ rs := by
  induction h with
  | nil c => exact fun x hx => .inl hx
  | hit h1 h2 _ ih =>
    intro x hx
    rcases ih x hx with h | h
    · exact .inl (h2.mem_iff.1 h)
    · exact .inr (List.mem_cons_of_mem _ h)
  | room h1 h2 h3 _ ih =>
    intro x hx
    rcases ih x hx with h | h
    · rcases List.mem_cons.1 (h3.mem_iff.1 h) with e | e
      · exact .inr (by rw [e]; simp)
      · exact .inl e
    · exact .inr (List.mem_cons_of_mem _ h)
  | out h1 h2 h3 h4 _ ih =>
    intro x hx
    rcases ih x hx with h | h
    · rcases List.mem_cons.1 (h4.mem_iff.1 h) with e | e
      · exact .inr (by rw [e]; simp)
      · exact .inl (List.mem_of_mem_erase e)
    · exact .inr (List.mem_cons_of_mem _ h)

/-- W can be there, after so many misses -/
def RchW (p : Nat) (nm a : List Int) (W k : Nat) : Prop := ∃ d, Run p [] a k d ∧ wordOf nm d = W

theorem rch_start {p : Nat} {nm : List Int} {W k : Nat} : RchW p nm [] W k ↔ W = 0 ∧ k = 0 := by
  have h0 : wordOf nm [] = 0 := Nat.eq_of_testBit_eq fun i => bit_eq (by rw [wordOf_bit]; simp)
  constructor
  · rintro ⟨d, h1, h2⟩
    cases h1
    exact ⟨by rw [← h2, h0], rfl⟩
  · rintro ⟨rfl, rfl⟩
    exact ⟨[], .nil _, h0⟩

/-- what can be there when the j-th is asked for -/
def SuccW (p n j W k W' k' : Nat) : Prop :=
  W.testBit j = true ∧ W' = W ∧ k' = k ∨ W.testBit j = false ∧ szW W n < p ∧ W' = W ||| 2 ^ j ∧ k' = k + 1 ∨ W.testBit j = false ∧ ¬ szW W n < p ∧ ∃ i, i < n ∧ W.testBit i = true ∧ W' = (W - 2 ^ i) ||| 2 ^ j ∧ k' = k + 1

theorem word_room {nm d e : List Int} {j : Nat} {r : Int} (hn : nm.Nodup) (hj : nm[j]? = some r) (h : e.Perm (r :: d)) : wordOf nm e = wordOf nm d ||| 2 ^ j := Nat.eq_of_testBit_eq fun i => bit_eq (by
  obtain ⟨hjl, hjr⟩ := List.getElem?_eq_some_iff.1 hj
  rw [wordOf_bit, Nat.testBit_or, Bool.or_eq_true, wordOf_bit, Nat.testBit_two_pow, decide_eq_true_eq, h.mem_iff, List.mem_cons]
  constructor
  · rintro ⟨h1, h2 | h2⟩
    · right
      rw [List.getD_eq_getElem?_getD, List.getElem?_eq_getElem h1, Option.getD_some, ← hjr] at h2
      exact ((List.getElem_inj hn).1 h2).symm
    · exact .inl ⟨h1, h2⟩
  · rintro (⟨h1, h2⟩ | h2)
    · exact ⟨h1, .inr h2⟩
    · subst h2
      exact ⟨hjl, .inl (by rw [List.getD_eq_getElem?_getD, hj]; rfl)⟩)

theorem word_out {nm d e : List Int} {i j : Nat} {r x : Int} (hn : nm.Nodup) (hd : d.Nodup) (hj : nm[j]? = some r) (hi : nm[i]? = some x) (hx : x ∈ d) (h : e.Perm (r :: d.erase x)) : wordOf nm e = (wordOf nm d - 2 ^ i) ||| 2 ^ j := by
  obtain ⟨hil, hir⟩ := List.getElem?_eq_some_iff.1 hi
  have hb : (wordOf nm d).testBit i = true := wordOf_bit.2 ⟨hil, by rw [List.getD_eq_getElem?_getD, hi]; exact hx⟩
  have h2 : wordOf nm (d.erase x) = wordOf nm d - 2 ^ i := Nat.eq_of_testBit_eq fun t => bit_eq (by
    rw [testBit_sub_pow _ _ _ hb, Bool.and_eq_true, wordOf_bit, wordOf_bit]
    constructor
    · rintro ⟨h1, h2⟩
      refine ⟨⟨h1, List.mem_of_mem_erase h2⟩, ?_⟩
      simp only [Bool.not_eq_true', decide_eq_false_iff_not]
      intro e
      subst e
      rw [List.getD_eq_getElem?_getD, hi] at h2
      exact List.Nodup.not_mem_erase hd h2
    · rintro ⟨⟨h1, h2⟩, h3⟩
      simp only [Bool.not_eq_true', decide_eq_false_iff_not] at h3
      refine ⟨h1, (List.mem_erase_of_ne fun e => h3 ?_).2 h2⟩
      rw [List.getD_eq_getElem?_getD, List.getElem?_eq_getElem h1, Option.getD_some, ← hir] at e
      exact (List.getElem_inj hn).1 e)
  rw [word_room hn hj h, h2]

theorem rch_step {p j : Nat} {nm a : List Int} {r : Int} (hn : nm.Nodup) (hs : ∀ x ∈ a, x ∈ nm) (hj : nm[j]? = some r) {W' k' : Nat} :
    RchW p nm (a ++ [r]) W' k' ↔ ∃ W k, RchW p nm a W k ∧ SuccW p nm.length j W k W' k' := by
  obtain ⟨hjl, hjr⟩ := List.getElem?_eq_some_iff.1 hj
  have hjd : nm.getD j 0 = r := by rw [List.getD_eq_getElem?_getD, hj]; rfl
  constructor
  · rintro ⟨d, hrun, rfl⟩
    obtain ⟨k1, k2, e, h1, h2, rfl⟩ := hrun.split
    by_cases hp : e.length ≤ p
    · obtain ⟨hed, _⟩ : e.Nodup ∧ e.length ≤ p := h1.keep List.nodup_nil (by simp)
      have hes : ∀ x ∈ e, x ∈ nm := fun x hx => hs x ((h1.sub x hx).resolve_left (by simp))
      refine ⟨wordOf nm e, k1, ⟨e, h1, rfl⟩, ?_⟩
      have hbit : (wordOf nm e).testBit j = true ↔ r ∈ e := by rw [wordOf_bit, hjd]; exact ⟨fun h => h.2, fun h => ⟨hjl, h⟩⟩
      have hsz := wordOf_size hn hed hes
      cases h2 with
      | hit g1 g2 g3 =>
        cases g3
        exact .inl ⟨hbit.2 g1, wordOf_same fun x => g2.mem_iff, rfl⟩
      | room g1 g2 g3 g4 =>
        cases g4
        exact .inr (.inl ⟨Bool.eq_false_iff.2 fun h => g1 (hbit.1 h), by rw [hsz]; exact g2, word_room hn hj g3, rfl⟩)
      | @out _ _ _ _ x _ _ g1 g2 g3 g4 g5 =>
        cases g5
        obtain ⟨i, hi⟩ := List.getElem?_of_mem (hes x g3)
        have hil := (List.getElem?_eq_some_iff.1 hi).1
        exact .inr (.inr ⟨Bool.eq_false_iff.2 fun h => g1 (hbit.1 h), by rw [hsz]; omega, i, hil, wordOf_bit.2 ⟨hil, by rw [List.getD_eq_getElem?_getD, hi]; exact g3⟩, word_out hn hed hj hi g3 g4, rfl⟩)
    · exact absurd (h1.keep List.nodup_nil (by simp)).2 hp
  · rintro ⟨W, k, ⟨e, h1, rfl⟩, hsc⟩
    obtain ⟨hed, hel⟩ : e.Nodup ∧ e.length ≤ p := h1.keep List.nodup_nil (by simp)
    have hes : ∀ x ∈ e, x ∈ nm := fun x hx => hs x ((h1.sub x hx).resolve_left (by simp))
    have hbit : (wordOf nm e).testBit j = true ↔ r ∈ e := by rw [wordOf_bit, hjd]; exact ⟨fun h => h.2, fun h => ⟨hjl, h⟩⟩
    have hsz := wordOf_size hn hed hes
    rcases hsc with ⟨g1, rfl, rfl⟩ | ⟨g1, g2, rfl, rfl⟩ | ⟨g1, g2, i, g3, g4, rfl, rfl⟩
    · exact ⟨e, h1.join (.hit (hbit.1 g1) (List.Perm.refl _) (.nil e)), rfl⟩
    · have hr : r ∉ e := fun h => by rw [hbit.2 h] at g1; cases g1
      exact ⟨r :: e, h1.join (.room hr (by rw [← hsz]; exact g2) (List.Perm.refl _) (.nil _)), word_room hn hj (List.Perm.refl _)⟩
    · have hr : r ∉ e := fun h => by rw [hbit.2 h] at g1; cases g1
      have hx := (wordOf_bit.1 g4).2
      have hi : nm[i]? = some (nm.getD i 0) := by rw [List.getD_eq_getElem?_getD, List.getElem?_eq_getElem g3]; rfl
      exact ⟨r :: e.erase (nm.getD i 0), h1.join (.out hr (by omega) hx (List.Perm.refl _) (.nil _)), word_out hn hed hj hi hx (List.Perm.refl _)⟩

/-- what is put when all of now are gone through -/
def NextS (p n j : Nat) (now : Nat → Option Nat) (W' k' : Nat) : Prop := ∃ W k, now W = some k ∧ SuccW p n j W k W' k'

theorem SuccW.less {p n j W k k0 W' k' : Nat} (h : SuccW p n j W k W' k') (hk : k0 ≤ k) : ∃ k1, k1 ≤ k' ∧ SuccW p n j W k0 W' k1 := by
  rcases h with ⟨g1, rfl, rfl⟩ | ⟨g1, g2, rfl, rfl⟩ | ⟨g1, g2, i, g3, g4, rfl, rfl⟩
  · exact ⟨k0, hk, .inl ⟨g1, rfl, rfl⟩⟩
  · exact ⟨k0 + 1, by omega, .inr (.inl ⟨g1, g2, rfl, rfl⟩)⟩
  · exact ⟨k0 + 1, by omega, .inr (.inr ⟨g1, g2, i, g3, g4, rfl, rfl⟩)⟩

theorem cov_step {p j : Nat} {nm a : List Int} {r : Int} (hn : nm.Nodup) (hs : ∀ x ∈ a, x ∈ nm) (hj : nm[j]? = some r) {now next : Nat → Option Nat} (h : CovI (RchW p nm a) now) (h' : CovI (NextS p nm.length j now) next) : CovI (RchW p nm (a ++ [r])) next := by
  refine ⟨fun W' k' hg => ?_, fun W' k' hr => ?_⟩
  · obtain ⟨W, k, h1, h2⟩ := h'.1 _ _ hg
    exact (rch_step hn hs hj).2 ⟨W, k, h.1 _ _ h1, h2⟩
  · obtain ⟨W, k, h1, h2⟩ := (rch_step hn hs hj).1 hr
    obtain ⟨k0, h3, h4⟩ := h.2 _ _ h1
    obtain ⟨k1, h5, h6⟩ := h2.less h3
    obtain ⟨k2, h7, h8⟩ := h'.2 _ _ ⟨W, k0, h4, h6⟩
    exact ⟨k2, Nat.le_trans h7 h5, h8⟩

theorem cov_best {p : Nat} {nm rs : List Int} {g : Nat → Option Nat} (h : CovI (RchW p nm rs) g) {k : Nat} (hk : ∃ W, g W = some k) (hl : ∀ W k', g W = some k' → k ≤ k') : Best p rs k := by
  obtain ⟨W, hW⟩ := hk
  obtain ⟨d, h1, _⟩ := h.1 _ _ hW
  refine ⟨⟨d, h1⟩, fun k' d' hr => ?_⟩
  obtain ⟨k0, h2, h3⟩ := h.2 _ _ ⟨d', hr, rfl⟩
  exact Nat.le_trans (hl _ _ h3) h2

end Go.Proofs.Ytjnmohphinldkaa
