/-
  Plain mathematics of lists of pairs that grow (V2): what codemasonref.Within and Joined lay in their maps; no program's text.
-/
import Derived.Test.YtfbnmgnkigfgpaaPurePoint
namespace Go.Proofs.Ytfbnmgnkigfgpaa
set_option linter.unusedSimpArgs false
set_option linter.unusedVariables false

/-- a pair laid to the others -/
def insP (L : List (Nat × Nat)) (p : Nat × Nat) : List (Nat × Nat) := if p ∈ L then L else L ++ [p]

section
variable {L L0 L1 : List (Nat × Nat)} {p x : Nat × Nat}

theorem insP_mem : x ∈ insP L p ↔ x ∈ L ∨ x = p := by
  unfold insP
  split
  · rename_i h
    exact ⟨.inl, fun q => q.elim id fun e => by rw [e]; exact h⟩
  · rw [List.mem_append, List.mem_singleton]

theorem insP_self : p ∈ insP L p := insP_mem.2 (.inr rfl)

theorem insP_sub (h : x ∈ L) : x ∈ insP L p := insP_mem.2 (.inl h)

theorem insP_old (h : p ∈ L) : insP L p = L := by unfold insP; rw [if_pos h]

theorem insP_len : (insP L p).length = if p ∈ L then L.length else L.length + 1 := by
  unfold insP
  split <;> simp

/-- grown out of L0 -/
structure GrP (L0 L : List (Nat × Nat)) : Prop where
  pre : ∃ M, L = L0 ++ M
  nd : L.Nodup

theorem GrP.refl (h : L.Nodup) : GrP L L := ⟨⟨[], by simp⟩, h⟩

theorem GrP.put (h : GrP L0 L) : GrP L0 (insP L p) := by
  obtain ⟨⟨M, rfl⟩, hn⟩ := h
  unfold insP
  split
  · exact ⟨⟨M, rfl⟩, hn⟩
  · rename_i hp
    refine ⟨⟨M ++ [p], by simp⟩, ?_⟩
    rw [List.nodup_append]
    exact ⟨hn, by simp, fun a ha b hb => by
      simp at hb
      subst hb
      intro e
      exact hp (by rw [← e]; exact ha)⟩

theorem GrP.trans (h : GrP L0 L) (h2 : GrP L L1) : GrP L0 L1 := by
  obtain ⟨⟨M, rfl⟩, _⟩ := h
  obtain ⟨⟨N, rfl⟩, hn⟩ := h2
  exact ⟨⟨M ++ N, by simp⟩, hn⟩

theorem GrP.sub (h : GrP L0 L) (hx : x ∈ L0) : x ∈ L := by
  obtain ⟨⟨M, rfl⟩, _⟩ := h
  exact List.mem_append_left _ hx

theorem GrP.le (h : GrP L0 L) : L0.length ≤ L.length := by
  obtain ⟨⟨M, rfl⟩, _⟩ := h
  simp

theorem GrP.same (h : GrP L0 L) (hl : L.length ≤ L0.length) : L = L0 := by
  obtain ⟨⟨M, rfl⟩, _⟩ := h
  rw [List.length_append] at hl
  have : M = [] := List.eq_nil_of_length_eq_zero (by omega)
  rw [this, List.append_nil]

theorem nodup_le {A : List Nat} {m : Nat} (hn : A.Nodup) (hl : ∀ x ∈ A, x < m) : A.length ≤ m := by
  have hp : A.Perm ((List.range m).filter fun x => decide (x ∈ A)) := (List.perm_ext_iff_of_nodup hn (List.nodup_range.sublist List.filter_sublist)).2 fun x => by
    rw [List.mem_filter, List.mem_range]
    simp only [decide_eq_true_eq]
    exact ⟨fun h => ⟨hl x h, h⟩, fun h => h.2⟩
  rw [hp.length_eq]
  have := List.length_filter_le (fun x => decide (x ∈ A)) (List.range m)
  simpa using this

theorem pairs_le (hn : L.Nodup) (hl : ∀ p ∈ L, p.1 < 8 ∧ p.2 < 8) : L.length ≤ 64 := by
  have h1 : (L.map fun p => p.1 * 8 + p.2).Nodup := by
    unfold List.Nodup
    rw [List.pairwise_map]
    refine List.Pairwise.imp_of_mem (fun {a b} ha hb hne he => ?_) hn
    have h1 := hl a ha
    have h2 := hl b hb
    have e1 : a.1 = b.1 := by omega
    have e2 : a.2 = b.2 := by omega
    exact hne (Prod.ext e1 e2)
  have h2 := nodup_le (m := 64) h1 fun x hx => by
    obtain ⟨p, hp, rfl⟩ := List.mem_map.1 hx
    have := hl p hp
    omega
  simpa using h2

end

/-! ### By inclusion -/

/-- a pass over the statements: what has grown, all of it what may be -/
structure PsA (l : List Qt) (L0 L : List (Nat × Nat)) : Prop where
  gr : GrP L0 L
  snd : ∀ x ∈ L, An l x.1 x.2

theorem PsA.put {l : List Qt} {L0 L : List (Nat × Nat)} (h : PsA l L0 L) {a b : Nat} (ha : An l a b) : PsA l L0 (insP L (a, b)) :=
  ⟨h.gr.put, fun x hx => (insP_mem.1 hx).elim (h.snd x) fun e => by rw [e]; exact ha⟩

/-- what a statement asks of the variables below X, and of X's below Y -/
def DlA (p : Qt) (L0 L : List (Nat × Nat)) (X Y : Nat) : Prop :=
  (p.k = 1 → (p.t, p.f) ∈ L) ∧ (p.k = 2 → ∀ x, x < X → (p.f, x) ∈ L0 → (p.t, x) ∈ L) ∧ (p.k = 3 → ∀ x y, (x < X ∨ (x = X ∧ y < Y)) → (p.f, x) ∈ L0 → (x, y) ∈ L0 → (p.t, y) ∈ L) ∧
    (p.k = 4 → ∀ x y, (x < X ∨ (x = X ∧ y < Y)) → (p.t, x) ∈ L0 → (p.f, y) ∈ L0 → (x, y) ∈ L)

theorem DlA.sub {p : Qt} {L0 L L' : List (Nat × Nat)} {X Y : Nat} (h : DlA p L0 L X Y) (hs : ∀ x ∈ L, x ∈ L') : DlA p L0 L' X Y :=
  ⟨fun e => hs _ (h.1 e), fun e x h1 h2 => hs _ (h.2.1 e x h1 h2), fun e x y h1 h2 h3 => hs _ (h.2.2.1 e x y h1 h2 h3), fun e x y h1 h2 h3 => hs _ (h.2.2.2 e x y h1 h2 h3)⟩

theorem DlA.ins {p : Qt} {L0 L : List (Nat × Nat)} {X Y : Nat} (h : DlA p L0 L X Y) (q : Nat × Nat) : DlA p L0 (insP L q) X Y := h.sub fun _ hx => insP_sub hx

theorem DlA.start {p : Qt} {L0 L : List (Nat × Nat)} (h : p.k = 1 → (p.t, p.f) ∈ L) : DlA p L0 L 0 0 :=
  ⟨h, fun _ x h1 => by omega, fun _ x y h1 => by omega, fun _ x y h1 => by omega⟩

/-- through with X -/
theorem DlA.row {p : Qt} {L0 L : List (Nat × Nat)} {X n : Nat} (h : DlA p L0 L X n) (hn : ∀ x ∈ L0, x.2 < n) (h2 : p.k = 2 → (p.f, X) ∈ L0 → (p.t, X) ∈ L) : DlA p L0 L (X + 1) 0 := by
  refine ⟨h.1, fun e x hx hm => ?_, fun e x y hxy h1 h3 => ?_, fun e x y hxy h1 h3 => ?_⟩
  · by_cases q : x = X
    · subst q; exact h2 e hm
    · exact h.2.1 e x (by omega) hm
  · have := hn _ h3
    simp only at this
    exact h.2.2.1 e x y (by omega) h1 h3
  · have := hn _ h3
    simp only at this
    exact h.2.2.2 e x y (by omega) h1 h3

/-- through with Y -/
theorem DlA.col {p : Qt} {L0 L : List (Nat × Nat)} {X Y : Nat} (h : DlA p L0 L X Y) (h3 : p.k = 3 → (p.f, X) ∈ L0 → (X, Y) ∈ L0 → (p.t, Y) ∈ L) (h4 : p.k = 4 → (p.t, X) ∈ L0 → (p.f, Y) ∈ L0 → (X, Y) ∈ L) : DlA p L0 L X (Y + 1) := by
  refine ⟨h.1, h.2.1, fun e x y hxy h1 h5 => ?_, fun e x y hxy h1 h5 => ?_⟩
  · by_cases q : x = X ∧ y = Y
    · obtain ⟨rfl, rfl⟩ := q; exact h3 e h1 h5
    · exact h.2.2.1 e x y (by omega) h1 h5
  · by_cases q : x = X ∧ y = Y
    · obtain ⟨rfl, rfl⟩ := q; exact h4 e h1 h5
    · exact h.2.2.2 e x y (by omega) h1 h5

theorem An.toldL {l : List Qt} {n : Nat} {L : List (Nat × Nat)} (hl : QOk n l) (h : ∀ p ∈ l, DlA p L L n 0) {i x : Nat} (ha : An l i x) : (i, x) ∈ L := by
  induction ha with
  | addr hp hk => exact (h _ hp).1 hk
  | copy hp hk h1 ih => exact (h _ hp).2.1 hk _ (h1.lt hl).2 ih
  | load hp hk h1 _ ih1 ih2 => exact (h _ hp).2.2.1 hk _ _ (.inl (h1.lt hl).2) ih1 ih2
  | store hp hk h1 _ ih1 ih2 => exact (h _ hp).2.2.2 hk _ _ (.inl (h1.lt hl).2) ih1 ih2

/-! ### Words of pairs -/

/-- the first b of a's pairs as a word -/
def wordL (L : List (Nat × Nat)) (a : Nat) : Nat → Nat
  | 0 => 0
  | b + 1 => if (a, b) ∈ L then wordL L a b + 2 ^ b else wordL L a b

theorem wordL_lt {L : List (Nat × Nat)} {a : Nat} : ∀ b, wordL L a b < 2 ^ b
  | 0 => by simp [wordL]
  | b + 1 => by
    have ih := wordL_lt (L := L) (a := a) b
    unfold wordL
    rw [Nat.pow_succ]
    split <;> omega

theorem wordL_bit {L : List (Nat × Nat)} {a j : Nat} : ∀ {b : Nat}, (wordL L a b).testBit j = true ↔ j < b ∧ (a, j) ∈ L
  | 0 => by simp [wordL]
  | b + 1 => by
    have ih := wordL_bit (L := L) (a := a) (j := j) (b := b)
    have hlt := wordL_lt (L := L) (a := a) b
    unfold wordL
    by_cases h : (a, b) ∈ L
    · rw [if_pos h]
      have h1 := Nat.two_pow_add_eq_or_of_lt hlt 1
      rw [Nat.mul_one] at h1
      rw [Nat.add_comm, h1, Nat.testBit_or, Bool.or_eq_true, ih, Nat.testBit_two_pow]
      constructor
      · rintro (e | ⟨h2, h3⟩)
        · have : b = j := by simpa using e
          subst this
          exact ⟨by omega, h⟩
        · exact ⟨by omega, h3⟩
      · rintro ⟨h2, h3⟩
        by_cases e : b = j
        · exact .inl (by simp [e])
        · exact .inr ⟨by omega, h3⟩
    · rw [if_neg h, ih]
      constructor
      · rintro ⟨h2, h3⟩
        exact ⟨by omega, h3⟩
      · rintro ⟨h2, h3⟩
        by_cases e : j = b
        · subst e; exact absurd h3 h
        · exact ⟨by omega, h3⟩

/-- the first m rows -/
def rowsL (L : List (Nat × Nat)) (n m : Nat) : List Nat := (List.range m).map fun a => wordL L a n

theorem rowsL_succ (L : List (Nat × Nat)) (n m : Nat) : rowsL L n (m + 1) = rowsL L n m ++ [wordL L m n] := by
  unfold rowsL
  rw [List.range_succ, List.map_append]
  rfl

theorem rowsL_len (L : List (Nat × Nat)) (n m : Nat) : (rowsL L n m).length = m := by simp [rowsL]

theorem rowsL_tel {L : List (Nat × Nat)} {n : Nat} (h8 : n ≤ 8) {R : Nat → Nat → Prop} (h : ∀ a b, (a, b) ∈ L ↔ R a b) (hR : ∀ a b, R a b → b < n) : Tel n R (rowsL L n n) := by
  have hat : ∀ i, i < n → (rowsL L n n)[i]? = some (wordL L i n) := fun i hi => by simp [rowsL, hi]
  refine ⟨rowsL_len L n n, fun i W hW => ?_, fun i x hi => ?_⟩
  · have hi : i < n := by
      have := (List.getElem?_eq_some_iff.1 hW).1
      rwa [rowsL_len] at this
    rw [hat i hi] at hW
    injection hW with hW
    rw [← hW]
    have h2 : 2 ^ n ≤ 2 ^ 8 := Nat.pow_le_pow_right (by omega) h8
    have := wordL_lt (L := L) (a := i) n
    omega
  · unfold Bt
    rw [getD_at (hat i hi), wordL_bit, h]
    exact ⟨fun q => q.2, fun q => ⟨hR i x q, q⟩⟩

end Go.Proofs.Ytfbnmgnkigfgpaa
