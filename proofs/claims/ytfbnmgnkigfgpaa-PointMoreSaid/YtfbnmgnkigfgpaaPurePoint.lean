/-
  Plain mathematics of pointer assignments (V1, V2): what may point to what, by inclusion and by unification; no program's text.
-/
import Derived.Test.YtfbnmgnkigfgpaaMPure
namespace Go.Proofs.Ytfbnmgnkigfgpaa
set_option linter.unusedSimpArgs false
set_option linter.unusedVariables false

/-- a pointer assignment of variables -/
structure Qt where
  k : Nat
  t : Nat
  f : Nat

/-- statements over n variables -/
def QOk (n : Nat) (l : List Qt) : Prop := ∀ p ∈ l, 1 ≤ p.k ∧ p.k ≤ 4 ∧ p.t < n ∧ p.f < n

/-- ANDERSEN: what may point to what, by inclusion -/
inductive An (l : List Qt) : Nat → Nat → Prop
  | addr {p : Qt} : p ∈ l → p.k = 1 → An l p.t p.f
  | copy {p : Qt} {x : Nat} : p ∈ l → p.k = 2 → An l p.f x → An l p.t x
  | load {p : Qt} {x y : Nat} : p ∈ l → p.k = 3 → An l p.f x → An l x y → An l p.t y
  | store {p : Qt} {x y : Nat} : p ∈ l → p.k = 4 → An l p.t x → An l p.f y → An l x y

/-- STEENSGAARD: what may point to what (true), what is one (false), by unification -/
inductive Sg (l : List Qt) (n : Nat) : Bool → Nat → Nat → Prop
  | refl {i : Nat} : i < n → Sg l n false i i
  | addr {p : Qt} : p ∈ l → p.k = 1 → Sg l n true p.t p.f
  | copyF {p : Qt} {x : Nat} : p ∈ l → p.k = 2 → Sg l n true p.f x → Sg l n true p.t x
  | copyT {p : Qt} {x : Nat} : p ∈ l → p.k = 2 → Sg l n true p.t x → Sg l n true p.f x
  | loadF {p : Qt} {j x : Nat} : p ∈ l → p.k = 3 → Sg l n true p.f j → Sg l n true j x → Sg l n true p.t x
  | loadT {p : Qt} {j x : Nat} : p ∈ l → p.k = 3 → Sg l n true p.f j → Sg l n true p.t x → Sg l n true j x
  | storeF {p : Qt} {i x : Nat} : p ∈ l → p.k = 4 → Sg l n true p.t i → Sg l n true p.f x → Sg l n true i x
  | storeT {p : Qt} {i x : Nat} : p ∈ l → p.k = 4 → Sg l n true p.t i → Sg l n true i x → Sg l n true p.f x
  | one {i j k : Nat} : Sg l n true i j → Sg l n true i k → Sg l n false j k
  | trans {i j k : Nat} : Sg l n false i j → Sg l n false j k → Sg l n false i k
  | into {i j k : Nat} : Sg l n true i j → Sg l n false j k → Sg l n true i k
  | from_ {i j k : Nat} : Sg l n false i j → Sg l n true j k → Sg l n true i k

section
variable {l : List Qt} {n : Nat}

theorem An.lt (h : QOk n l) {i x : Nat} (ha : An l i x) : i < n ∧ x < n := by
  induction ha with
  | addr hp _ => exact ⟨(h _ hp).2.2.1, (h _ hp).2.2.2⟩
  | copy hp _ _ ih => exact ⟨(h _ hp).2.2.1, ih.2⟩
  | load hp _ _ _ _ ih => exact ⟨(h _ hp).2.2.1, ih.2⟩
  | store hp _ _ _ ih1 ih2 => exact ⟨ih1.2, ih2.2⟩

theorem Sg.lt (h : QOk n l) {b : Bool} {i x : Nat} (ha : Sg l n b i x) : i < n ∧ x < n := by
  induction ha with
  | refl hi => exact ⟨hi, hi⟩
  | addr hp _ => exact ⟨(h _ hp).2.2.1, (h _ hp).2.2.2⟩
  | copyF hp _ _ ih => exact ⟨(h _ hp).2.2.1, ih.2⟩
  | copyT hp _ _ ih => exact ⟨(h _ hp).2.2.2, ih.2⟩
  | loadF hp _ _ _ _ ih => exact ⟨(h _ hp).2.2.1, ih.2⟩
  | loadT hp _ _ _ ih1 ih2 => exact ⟨ih1.2, ih2.2⟩
  | storeF hp _ _ _ ih1 ih2 => exact ⟨ih1.2, ih2.2⟩
  | storeT hp _ _ _ _ ih => exact ⟨(h _ hp).2.2.2, ih.2⟩
  | one _ _ ih1 ih2 => exact ⟨ih1.2, ih2.2⟩
  | trans _ _ ih1 ih2 => exact ⟨ih1.1, ih2.2⟩
  | into _ _ ih1 ih2 => exact ⟨ih1.1, ih2.2⟩
  | from_ _ _ ih1 ih2 => exact ⟨ih1.1, ih2.2⟩

theorem Sg.symm' {b : Bool} {i j : Nat} (h : Sg l n b i j) : b = false → Sg l n false j i := by
  induction h with
  | refl hi => exact fun _ => .refl hi
  | one h1 h2 _ _ => exact fun _ => .one h2 h1
  | trans _ _ ih1 ih2 => exact fun _ => .trans (ih2 rfl) (ih1 rfl)
  | _ => intro h; cases h

theorem Sg.symm {i j : Nat} (h : Sg l n false i j) : Sg l n false j i := h.symm' rfl

/-- inclusion is within unification -/
theorem An.sg {i x : Nat} (h : An l i x) : Sg l n true i x := by
  induction h with
  | addr hp hk => exact .addr hp hk
  | copy hp hk _ ih => exact .copyF hp hk ih
  | load hp hk _ _ ih1 ih2 => exact .loadF hp hk ih1 ih2
  | store hp hk _ _ ih1 ih2 => exact .storeF hp hk ih1 ih2

/-- two that share something are told the same -/
theorem Sg.same {i j x y : Nat} (h : Sg l n true i x) (h2 : Sg l n true j x) (h3 : Sg l n true i y) : Sg l n true j y := .into h2 (.one h h3)

theorem An.mono {l' : List Qt} (hl : ∀ p ∈ l, p ∈ l') {i x : Nat} (h : An l i x) : An l' i x := by
  induction h with
  | addr hp hk => exact .addr (hl _ hp) hk
  | copy hp hk _ ih => exact .copy (hl _ hp) hk ih
  | load hp hk _ _ ih1 ih2 => exact .load (hl _ hp) hk ih1 ih2
  | store hp hk _ _ ih1 ih2 => exact .store (hl _ hp) hk ih1 ih2

end

/-! ### A run -/

/-- what a statement makes of what each variable points to (-1: none) -/
def doP (p : Qt) (v : List Int) : List Int :=
  if p.k = 1 then v.set p.t (p.f : Int)
  else if p.k = 2 then v.set p.t (v.getD p.f (-1))
  else if p.k = 3 then (if v.getD p.f (-1) < 0 then v else v.set p.t (v.getD (v.getD p.f (-1)).toNat (-1)))
  else (if v.getD p.t (-1) < 0 then v else v.set (v.getD p.t (-1)).toNat (v.getD p.f (-1)))

/-- statements by their numbers -/
def goPt (l : List Qt) : List Nat → List Int → List Int
  | [], v => v
  | k :: s, v => match l[k]? with
    | some p => goPt l s (doP p v)
    | none => goPt l s v

theorem goPt_at {l : List Qt} {s : List Nat} {i k : Nat} {p : Qt} {v : List Int} (h : s[i]? = some k) (hp : l[k]? = some p) : goPt l (s.drop i) v = goPt l (s.drop (i + 1)) (doP p v) := by
  rw [drop_at h]
  show (match l[k]? with | some p => goPt l (s.drop (i + 1)) (doP p v) | none => _) = _
  rw [hp]

/-- what n variables may hold -/
structure PvI (n : Nat) (v : List Int) : Prop where
  len : v.length = n
  rng : ∀ (i : Nat) (x : Int), v[i]? = some x → -1 ≤ x ∧ x < (n : Int)

theorem PvI.getD {n : Nat} {v : List Int} (h : PvI n v) (i : Nat) : -1 ≤ v.getD i (-1) ∧ v.getD i (-1) < (n : Int) := by
  rw [List.getD_eq_getElem?_getD]
  cases hi : v[i]? with
  | none => rw [Option.getD_none]; omega
  | some x => exact h.rng i x hi

theorem PvI.set {n : Nat} {v : List Int} (h : PvI n v) {i : Nat} {x : Int} (h1 : -1 ≤ x) (h2 : x < n) : PvI n (v.set i x) := by
  refine ⟨by rw [List.length_set]; exact h.len, fun j y hy => ?_⟩
  rw [List.getElem?_set] at hy
  split at hy
  · split at hy
    · injection hy with hy; subst hy; exact ⟨h1, h2⟩
    · cases hy
  · exact h.rng j y hy

theorem PvI.start (n : Nat) : PvI n (List.replicate n (-1)) := by
  refine ⟨by simp, fun i x hx => ?_⟩
  rw [List.getElem?_replicate] at hx
  split at hx
  · injection hx with hx; subst hx; omega
  · cases hx

theorem PvI.doP {n : Nat} {l : List Qt} (hl : QOk n l) {p : Qt} (hp : p ∈ l) {v : List Int} (h : PvI n v) : PvI n (doP p v) := by
  obtain ⟨_, _, ht, hf⟩ := hl p hp
  have g := h.getD
  unfold Go.Proofs.Ytfbnmgnkigfgpaa.doP
  split
  · exact h.set (by omega) (by omega)
  · split
    · exact h.set (g _).1 (g _).2
    · split
      · split
        · exact h
        · exact h.set (g _).1 (g _).2
      · split
        · exact h
        · exact h.set (g _).1 (g _).2

/-- what is held may be held -/
def PvS (l : List Qt) (v : List Int) : Prop := ∀ i (x : Nat), v[i]? = some (x : Int) → An l i x

theorem PvS.getD {l : List Qt} {v : List Int} (h : PvS l v) {i x : Nat} (he : v.getD i (-1) = (x : Int)) : An l i x := by
  rw [List.getD_eq_getElem?_getD] at he
  cases hi : v[i]? with
  | none => rw [hi, Option.getD_none] at he; omega
  | some y => rw [hi, Option.getD_some] at he; subst he; exact h i x hi

theorem PvS.set {l : List Qt} {v : List Int} (h : PvS l v) {i : Nat} {y : Int} (hy : ∀ x : Nat, y = (x : Int) → An l i x) : PvS l (v.set i y) := fun j x hx => by
  rw [List.getElem?_set] at hx
  split at hx
  · rename_i he
    subst he
    split at hx
    · injection hx with hx; exact hy x hx
    · cases hx
  · exact h j x hx

theorem PvS.start (l : List Qt) (n : Nat) : PvS l (List.replicate n (-1)) := fun i x hx => by
  rw [List.getElem?_replicate] at hx
  split at hx
  · injection hx with hx; omega
  · cases hx

theorem PvS.doP {n : Nat} {l : List Qt} (hl : QOk n l) {p : Qt} (hp : p ∈ l) {v : List Int} (h : PvS l v) : PvS l (doP p v) := by
  obtain ⟨h1, h4, ht, hf⟩ := hl p hp
  unfold Go.Proofs.Ytfbnmgnkigfgpaa.doP
  split
  · rename_i hk
    refine h.set fun x hx => ?_
    have : x = p.f := by omega
    subst this
    exact .addr hp hk
  · split
    · rename_i hk
      exact h.set fun x hx => .copy hp hk (h.getD hx)
    · split
      · rename_i hk
        split
        · exact h
        · rename_i hn
          obtain ⟨a, ha⟩ : ∃ a : Nat, v.getD p.f (-1) = (a : Int) := ⟨(v.getD p.f (-1)).toNat, by omega⟩
          rw [ha, Int.toNat_natCast]
          exact h.set fun x hx => .load hp hk (h.getD ha) (h.getD hx)
      · rename_i n1 n2 n3
        have hk : p.k = 4 := by omega
        split
        · exact h
        · rename_i hn
          obtain ⟨a, ha⟩ : ∃ a : Nat, v.getD p.t (-1) = (a : Int) := ⟨(v.getD p.t (-1)).toNat, by omega⟩
          rw [ha, Int.toNat_natCast]
          exact h.set fun x hx => .store hp hk (h.getD ha) (h.getD hx)

theorem goPt_ok {n : Nat} {l : List Qt} (hl : QOk n l) : ∀ (s : List Nat) {v : List Int}, PvI n v → PvS l v → PvI n (goPt l s v) ∧ PvS l (goPt l s v)
  | [], _, h, h2 => ⟨h, h2⟩
  | k :: s, v, h, h2 => by
    show PvI n (match l[k]? with | some p => goPt l s (doP p v) | none => goPt l s v) ∧ PvS l (match l[k]? with | some p => goPt l s (doP p v) | none => goPt l s v)
    cases hk : l[k]? with
    | none => exact goPt_ok hl s h h2
    | some p => exact goPt_ok hl s (h.doP hl (List.mem_of_getElem? hk)) (h2.doP hl (List.mem_of_getElem? hk))

/-! ### Words -/

/-- bit x of word i -/
def Bt (S : List Nat) (i x : Nat) : Prop := (S.getD i 0).testBit x = true

theorem Bt.ex {S : List Nat} {i x : Nat} (h : Bt S i x) : ∃ W, S[i]? = some W ∧ W.testBit x = true := by
  unfold Bt at h
  rw [List.getD_eq_getElem?_getD] at h
  cases hi : S[i]? with
  | none => rw [hi, Option.getD_none, Nat.zero_testBit] at h; cases h
  | some W => rw [hi, Option.getD_some] at h; exact ⟨W, rfl, h⟩

theorem Bt.of {S : List Nat} {i x W : Nat} (h : S[i]? = some W) (hb : W.testBit x = true) : Bt S i x := by
  unfold Bt
  rw [List.getD_eq_getElem?_getD, h, Option.getD_some]
  exact hb

theorem getD_at {S : List Nat} {i W : Nat} (h : S[i]? = some W) : S.getD i 0 = W := by rw [List.getD_eq_getElem?_getD, h]; rfl

/-- words that tell a relation -/
structure Tel (n : Nat) (R : Nat → Nat → Prop) (S : List Nat) : Prop where
  len : S.length = n
  lt : ∀ i W : Nat, S[i]? = some W → W < 256
  bit : ∀ i x, i < n → (Bt S i x ↔ R i x)

theorem Tel.one {n : Nat} {R R' : Nat → Nat → Prop} {S S' : List Nat} (h : Tel n R S) (h' : Tel n R' S') (hR : ∀ i x, i < n → (R i x ↔ R' i x)) : S = S' := by
  apply List.ext_getElem?
  intro i
  rcases Nat.lt_or_ge i n with hi | hi
  · obtain ⟨a, e1⟩ : ∃ a, S[i]? = some a := ⟨_, List.getElem?_eq_getElem (by rw [h.len]; exact hi)⟩
    obtain ⟨b, e2⟩ : ∃ b, S'[i]? = some b := ⟨_, List.getElem?_eq_getElem (by rw [h'.len]; exact hi)⟩
    rw [e1, e2]
    congr 1
    apply Nat.eq_of_testBit_eq
    intro x
    have h1 := h.bit i x hi
    have h2 := h'.bit i x hi
    unfold Bt at h1 h2
    rw [getD_at e1] at h1
    rw [getD_at e2] at h2
    have h3 := hR i x hi
    rw [Bool.eq_iff_iff, h1, h2, h3]
  · rw [List.getElem?_eq_none (by rw [h.len]; exact hi), List.getElem?_eq_none (by rw [h'.len]; exact hi)]

/-- sets that grow within what may be -/
structure IncI (l : List Qt) (n : Nat) (S S' : List Nat) : Prop where
  len : S'.length = n
  lt : ∀ i W : Nat, S'[i]? = some W → W < 256
  snd : ∀ i x, Bt S' i x → An l i x
  up : ∀ i x, Bt S i x → Bt S' i x

theorem IncI.trans {l : List Qt} {n : Nat} {S S' S'' : List Nat} (h : IncI l n S S') (h2 : IncI l n S' S'') : IncI l n S S'' := ⟨h2.len, h2.lt, h2.snd, fun i x hb => h2.up i x (h.up i x hb)⟩

theorem IncI.same {l : List Qt} {n : Nat} {S S' : List Nat} (h : IncI l n S S') : IncI l n S' S' := ⟨h.len, h.lt, h.snd, fun _ _ hb => hb⟩

theorem IncI.start (l : List Qt) (n : Nat) : IncI l n (List.replicate n 0) (List.replicate n 0) := by
  have h0 : ∀ i W : Nat, (List.replicate n 0)[i]? = some W → W = 0 := fun i W h => by
    rw [List.getElem?_replicate] at h
    split at h
    · injection h with h; exact h.symm
    · cases h
  refine ⟨by simp, fun i W h => by rw [h0 i W h]; omega, fun i x hb => ?_, fun _ _ hb => hb⟩
  obtain ⟨W, hW, hx⟩ := hb.ex
  rw [h0 i W hW, Nat.zero_testBit] at hx
  cases hx

theorem bt_set {S : List Nat} {i X : Nat} (hi : i < S.length) {j x : Nat} : Bt (S.set i X) j x ↔ (j = i ∧ X.testBit x = true) ∨ (j ≠ i ∧ Bt S j x) := by
  unfold Bt
  by_cases hj : j = i
  · subst hj
    rw [List.getD_eq_getElem?_getD, List.getElem?_set, if_pos rfl, if_pos hi, Option.getD_some]
    simp
  · rw [List.getD_eq_getElem?_getD, List.getElem?_set, if_neg fun e => hj e.symm, ← List.getD_eq_getElem?_getD]
    simp [hj]

/-- one set is given more -/
theorem IncI.more {l : List Qt} {n : Nat} {S : List Nat} (h : IncI l n S S) {i W X : Nat} (hi : S[i]? = some W) (hX : X < 256) (hs : ∀ x, X.testBit x = true → An l i x) :
    IncI l n S (S.set i (W ||| X)) ∧ ∀ x, X.testBit x = true → Bt (S.set i (W ||| X)) i x := by
  have hl := (List.getElem?_eq_some_iff.1 hi).1
  refine ⟨⟨by rw [List.length_set]; exact h.len, fun j V hV => ?_, fun j x hb => ?_, fun j x hb => ?_⟩, fun x hx => (bt_set hl).2 (.inl ⟨rfl, by rw [Nat.testBit_or, hx, Bool.or_true]⟩)⟩
  · rw [List.getElem?_set] at hV
    by_cases e : i = j
    · rw [if_pos e, if_pos hl] at hV
      injection hV with hV
      subst hV
      exact Nat.or_lt_two_pow (n := 8) (h.lt i W hi) hX
    · rw [if_neg e] at hV
      exact h.lt j V hV
  · rcases (bt_set hl).1 hb with ⟨rfl, hb'⟩ | ⟨_, hb⟩
    · clear hb
      have hb := hb'
      rw [Nat.testBit_or, Bool.or_eq_true] at hb
      rcases hb with hb | hb
      · exact h.snd _ _ (Bt.of hi hb)
      · exact hs x hb
    · exact h.snd _ _ hb
  · by_cases hj : j = i
    · subst hj
      refine (bt_set hl).2 (.inl ⟨rfl, ?_⟩)
      obtain ⟨W', hW', hx⟩ := hb.ex
      rw [hi] at hW'
      injection hW' with hW'
      subst hW'
      rw [Nat.testBit_or, hx, Bool.true_or]
    · exact (bt_set hl).2 (.inr ⟨hj, hb⟩)

/-- a statement's wish is met, as far as S asks -/
def DnA (p : Qt) (S S' : List Nat) : Prop :=
  (p.k = 1 → Bt S' p.t p.f) ∧ (p.k = 2 → ∀ x, Bt S p.f x → Bt S' p.t x) ∧ (p.k = 3 → ∀ x y, Bt S p.f x → Bt S x y → Bt S' p.t y) ∧ (p.k = 4 → ∀ x y, Bt S p.t x → Bt S p.f y → Bt S' x y)

theorem DnA.grow {p : Qt} {S S1 S2 S' : List Nat} (h : DnA p S1 S2) (h1 : ∀ i x, Bt S i x → Bt S1 i x) (h2 : ∀ i x, Bt S2 i x → Bt S' i x) : DnA p S S' :=
  ⟨fun e => h2 _ _ (h.1 e), fun e x hx => h2 _ _ (h.2.1 e x (h1 _ _ hx)), fun e x y hx hy => h2 _ _ (h.2.2.1 e x y (h1 _ _ hx) (h1 _ _ hy)), fun e x y hx hy => h2 _ _ (h.2.2.2 e x y (h1 _ _ hx) (h1 _ _ hy))⟩

theorem DnA.addr {t f : Nat} {S S' : List Nat} (h : Bt S' t f) : DnA ⟨1, t, f⟩ S S' := ⟨fun _ => h, fun e => absurd e (by simp), fun e => absurd e (by simp), fun e => absurd e (by simp)⟩

theorem DnA.copy {t f V : Nat} {S S' : List Nat} (hV : S.getD f 0 = V) (h : ∀ x, V.testBit x = true → Bt S' t x) : DnA ⟨2, t, f⟩ S S' := ⟨fun e => absurd e (by simp), fun _ x hx => h x (by rw [← hV]; exact hx), fun e => absurd e (by simp), fun e => absurd e (by simp)⟩

theorem DnA.load {n t f V : Nat} {S S' : List Nat} (hV : S.getD f 0 = V) (hl : S.length = n) (h : ∀ x, (frW S V n).testBit x = true → Bt S' t x) : DnA ⟨3, t, f⟩ S S' :=
  ⟨fun e => absurd e (by simp), fun e => absurd e (by simp), fun _ x y hx hy => h y (frW_bit.2 ⟨x, by
    obtain ⟨W', hW', _⟩ := hy.ex
    have := (List.getElem?_eq_some_iff.1 hW').1
    rw [hl] at this
    exact this, by rw [← hV]; exact hx, hy⟩), fun e => absurd e (by simp)⟩

theorem DnA.store {n t f : Nat} {S S' : List Nat} (ht : ∀ x, Bt S t x → x < n) (h : ∀ x, x < n → ∀ y, Bt S t x → Bt S f y → Bt S' x y) : DnA ⟨4, t, f⟩ S S' := ⟨fun e => absurd e (by simp), fun e => absurd e (by simp), fun e => absurd e (by simp), fun _ x y hx hy => h x (ht x hx) y hx hy⟩

theorem An.told {l : List Qt} {S : List Nat} (h : ∀ p ∈ l, DnA p S S) {i x : Nat} (ha : An l i x) : Bt S i x := by
  induction ha with
  | addr hp hk => exact (h _ hp).1 hk
  | copy hp hk _ ih => exact (h _ hp).2.1 hk _ ih
  | load hp hk _ _ ih1 ih2 => exact (h _ hp).2.2.1 hk _ _ ih1 ih2
  | store hp hk _ _ ih1 ih2 => exact (h _ hp).2.2.2 hk _ _ ih1 ih2

theorem IncI.tel {l : List Qt} {n : Nat} {S : List Nat} (h : IncI l n S S) (hd : ∀ p ∈ l, DnA p S S) : Tel n (An l) S := ⟨h.len, h.lt, fun i x _ => ⟨h.snd i x, An.told hd⟩⟩

theorem sum_up : ∀ {S S' : List Nat}, S.length = S'.length → (∀ i, S.getD i 0 ≤ S'.getD i 0) → S.sum ≤ S'.sum ∧ (S.sum = S'.sum → S = S')
  | [], [], _, _ => ⟨Nat.le_refl _, fun _ => rfl⟩
  | [], b :: S', h, _ => by simp at h
  | a :: S, [], h, _ => by simp at h
  | a :: S, b :: S', h, hle => by
    have h0 := hle 0
    have h1 : ∀ i, S.getD i 0 ≤ S'.getD i 0 := fun i => by have := hle (i + 1); simpa using this
    obtain ⟨g1, g2⟩ := sum_up (by simpa using h) h1
    simp only [List.getD_cons_zero] at h0
    simp only [List.sum_cons]
    refine ⟨by omega, fun e => ?_⟩
    rw [g2 (by omega), show a = b by omega]

theorem sum_256 : ∀ {S : List Nat}, (∀ i W : Nat, S[i]? = some W → W < 256) → S.sum ≤ 256 * S.length
  | [], _ => by simp
  | a :: S, h => by
    have h0 := h 0 a rfl
    have := sum_256 (S := S) fun i W hi => h (i + 1) W (by simpa using hi)
    simp only [List.sum_cons, List.length_cons]
    omega

theorem IncI.sum {l : List Qt} {n : Nat} {S S' : List Nat} (h : IncI l n S S) (h2 : IncI l n S S') (hne : S' ≠ S) : S.sum < S'.sum := by
  obtain ⟨g1, g2⟩ := sum_up (S := S) (S' := S') (by rw [h.len, h2.len]) fun i => le_of_bits fun j hj => h2.up i j hj
  rcases Nat.lt_or_ge S.sum S'.sum with h | h
  · exact h
  · exact absurd (g2 (by omega)).symm hne

/-! ### Classes -/

/-- who stands for v -/
def hq (hd : List Nat) (v : Nat) : Nat := hd.getD v 0

/-- to what v's class points -/
def tq (hd : List Nat) (tg : List Int) (v : Nat) : Int := tg.getD (hq hd v) (-1)

/-- v's class points to x's -/
def ToC (hd : List Nat) (tg : List Int) (i x : Nat) : Prop := ∃ y : Nat, tq hd tg i = (y : Int) ∧ hq hd y = hq hd x

/-- classes within what must be one -/
structure ClI (l : List Qt) (n : Nat) (hd : List Nat) (tg : List Int) : Prop where
  hl : hd.length = n
  tv : PvI n tg
  hlt : ∀ v, v < n → hq hd v < n
  idem : ∀ v, v < n → hq hd (hq hd v) = hq hd v
  one : ∀ v, v < n → Sg l n false v (hq hd v)
  to : ∀ v, v < n → ∀ y : Nat, tq hd tg v = (y : Int) → Sg l n true v y

/-- how many classes there are -/
def clsN (hd : List Nat) : Nat := ((List.range hd.length).filter fun v => hq hd v == v).length

/-- how many point to none -/
def nonN (tg : List Int) : Nat := (tg.filter fun x => x == -1).length

/-- classes grow together -/
structure StpC (l : List Qt) (n : Nat) (hd : List Nat) (tg : List Int) (hd' : List Nat) (tg' : List Int) : Prop where
  inv : ClI l n hd' tg'
  one : ∀ i j, i < n → j < n → hq hd i = hq hd j → hq hd' i = hq hd' j
  to : ∀ i x, i < n → x < n → ToC hd tg i x → ToC hd' tg' i x
  mu : (hd' = hd ∧ tg' = tg) ∨ clsN hd' + nonN tg' < clsN hd + nonN tg

section
variable {l : List Qt} {n : Nat} {hd hd' hd'' : List Nat} {tg tg' tg'' : List Int}

theorem StpC.refl (h : ClI l n hd tg) : StpC l n hd tg hd tg := ⟨h, fun _ _ _ _ e => e, fun _ _ _ _ e => e, .inl ⟨rfl, rfl⟩⟩

theorem StpC.trans (h : StpC l n hd tg hd' tg') (h2 : StpC l n hd' tg' hd'' tg'') : StpC l n hd tg hd'' tg'' := by
  refine ⟨h2.inv, fun i j hi hj e => h2.one i j hi hj (h.one i j hi hj e), fun i x hi hx e => h2.to i x hi hx (h.to i x hi hx e), ?_⟩
  rcases h.mu with ⟨rfl, rfl⟩ | h1
  · exact h2.mu
  · rcases h2.mu with ⟨rfl, rfl⟩ | h3
    · exact .inr h1
    · exact .inr (by omega)

theorem ClI.tlt (h : ClI l n hd tg) {v : Nat} : -1 ≤ tq hd tg v ∧ tq hd tg v < n := h.tv.getD _

theorem ToC.lt (h : ClI l n hd tg) {i y : Nat} (he : tq hd tg i = (y : Int)) : y < n := by have := (h.tlt (v := i)).2; omega

/-- what follows of one class -/
theorem ToC.into {i x x' : Nat} (h : ToC hd tg i x) (he : hq hd x = hq hd x') : ToC hd tg i x' := by
  obtain ⟨y, h1, h2⟩ := h
  exact ⟨y, h1, h2.trans he⟩

theorem ToC.from_ {i i' x : Nat} (h : ToC hd tg i x) (he : hq hd i = hq hd i') : ToC hd tg i' x := by
  obtain ⟨y, h1, h2⟩ := h
  exact ⟨y, by unfold tq at h1 ⊢; rw [← he]; exact h1, h2⟩

theorem ToC.one {i x y : Nat} (h : ToC hd tg i x) (h2 : ToC hd tg i y) : hq hd x = hq hd y := by
  obtain ⟨a, h1, h3⟩ := h
  obtain ⟨b, h4, h5⟩ := h2
  have : a = b := by omega
  subst this
  exact h3.symm.trans h5

theorem ToC.snd (h : ClI l n hd tg) {i x : Nat} (hi : i < n) (hx : x < n) (ht : ToC hd tg i x) : Sg l n true i x := by
  obtain ⟨y, h1, h2⟩ := ht
  have hy := ToC.lt h h1
  exact .into (h.to i hi y h1) (.trans (h.one y hy) (by rw [h2]; exact (h.one x hx).symm))

/-- a class's target -/
theorem ToC.self {i y : Nat} (he : tq hd tg i = (y : Int)) : ToC hd tg i y := ⟨y, he, rfl⟩

/-- gone is merged into kept -/
def mrgC (hd : List Nat) (kept gone : Nat) : List Nat := hd.map fun h => if h = gone then kept else h

theorem mrg_hq {kept gone v : Nat} (hv : v < hd.length) : hq (mrgC hd kept gone) v = if hq hd v = gone then kept else hq hd v := by
  unfold hq mrgC
  rw [List.getD_eq_getElem?_getD, List.getElem?_map, List.getD_eq_getElem?_getD, List.getElem?_eq_getElem hv]
  rfl

theorem filter_lt {α : Type} {p q : α → Bool} : ∀ {l : List α}, (∀ x ∈ l, p x = true → q x = true) → (l.filter p).length ≤ (l.filter q).length
  | [], _ => Nat.le_refl _
  | a :: l, h => by
    have ih := filter_lt (l := l) fun x hx => h x (List.mem_cons_of_mem _ hx)
    have ha := h a List.mem_cons_self
    rw [List.filter_cons, List.filter_cons]
    cases hp : p a with
    | true =>
      rw [ha hp]
      simp only [if_true, List.length_cons]
      omega
    | false =>
      cases hq : q a <;> simp <;> omega

theorem filter_less {α : Type} {p q : α → Bool} : ∀ {l : List α}, (∀ x ∈ l, p x = true → q x = true) → ∀ {y : α}, y ∈ l → p y = false → q y = true → (l.filter p).length < (l.filter q).length
  | [], _, _, hy, _, _ => by cases hy
  | a :: l, h, y, hy, h1, h2 => by
    have ha := h a List.mem_cons_self
    have hle := filter_lt (l := l) fun x hx => h x (List.mem_cons_of_mem _ hx)
    rw [List.filter_cons, List.filter_cons]
    rcases List.mem_cons.1 hy with rfl | hy
    · rw [h1, h2]
      simp
      omega
    · have ih := filter_less (l := l) (fun x hx => h x (List.mem_cons_of_mem _ hx)) hy h1 h2
      cases hp : p a with
      | true =>
        rw [ha hp]
        simp only [if_true, List.length_cons]
        omega
      | false =>
        cases hq : q a <;> simp <;> omega

theorem mrg_cls (h : ClI l n hd tg) {kept gone : Nat} (hk : hq hd kept = kept) (hg : hq hd gone = gone) (hgn : gone < n) (hne : kept ≠ gone) : clsN (mrgC hd kept gone) < clsN hd := by
  unfold clsN
  have hl : (mrgC hd kept gone).length = hd.length := by simp [mrgC]
  rw [hl]
  refine filter_less (y := gone) (fun v hv hp => ?_) (List.mem_range.2 (by rw [h.hl]; exact hgn)) ?_ ?_
  · have hv := List.mem_range.1 hv
    simp only [beq_iff_eq] at hp ⊢
    rw [mrg_hq hv] at hp
    split at hp
    · rename_i e
      subst hp
      rw [hk] at e
      exact absurd e hne
    · exact hp
  · rw [mrg_hq (by rw [h.hl]; exact hgn), if_pos hg]
    simp [hne]
  · simp [hg]

theorem mrg_inv (h : ClI l n hd tg) {a b : Nat} (ha : a < n) (hb : b < n) (hne : hq hd a ≠ hq hd b) (ho : Sg l n false a b) : ClI l n (mrgC hd (hq hd a) (hq hd b)) tg := by
  have hm : ∀ v, v < n → hq (mrgC hd (hq hd a) (hq hd b)) v = if hq hd v = hq hd b then hq hd a else hq hd v := fun v hv => mrg_hq (by rw [h.hl]; exact hv)
  have hka : ∀ v, v < n → hq hd v = hq hd b → Sg l n false v (hq hd a) := fun v hv e => .trans (h.one v hv) (.trans (by rw [e]; exact (h.one b hb).symm) (.trans ho.symm (h.one a ha)))
  refine ⟨by simp [mrgC, h.hl], h.tv, fun v hv => ?_, fun v hv => ?_, fun v hv => ?_, fun v hv y hy => ?_⟩
  · rw [hm v hv]
    split
    · exact h.hlt a ha
    · exact h.hlt v hv
  · rw [hm v hv]
    split
    · rw [hm _ (h.hlt a ha), h.idem a ha, if_neg hne]
    · rename_i e
      rw [hm _ (h.hlt v hv), h.idem v hv, if_neg e]
  · rw [hm v hv]
    split
    · rename_i e
      exact hka v hv e
    · exact h.one v hv
  · unfold tq at hy
    rw [hm v hv] at hy
    split at hy
    · rename_i e
      refine .from_ (hka v hv e) (h.to _ (h.hlt a ha) y ?_)
      unfold tq
      rw [h.idem a ha]
      exact hy
    · exact h.to v hv y hy

/-- what a class's pointing elsewhere must come to -/
structure AimC (l : List Qt) (n a : Nat) (to : Int) (hd : List Nat) (tg : List Int) (hd' : List Nat) (tg' : List Int) : Prop where
  stp : StpC l n hd tg hd' tg'
  told : ∀ y : Nat, to = (y : Int) → ToC hd' tg' a y

/-- what unifying must come to -/
structure UniC (l : List Qt) (n a b : Nat) (hd : List Nat) (tg : List Int) (hd' : List Nat) (tg' : List Int) : Prop where
  stp : StpC l n hd tg hd' tg'
  told : hq hd' a = hq hd' b

theorem UniC.same (h : ClI l n hd tg) {a b : Nat} (he : hq hd a = hq hd b) : UniC l n a b hd tg hd tg := ⟨.refl h, he⟩

/-- merged, and what the one pointed to is aimed at -/
theorem UniC.merge (h : ClI l n hd tg) {a b : Nat} (ha : a < n) (hb : b < n) (hne : hq hd a ≠ hq hd b)
    (hA : AimC l n (hq hd a) (tg.getD (hq hd b) (-1)) (mrgC hd (hq hd a) (hq hd b)) tg hd' tg') : UniC l n a b hd tg hd' tg' := by
  have hm : ∀ v, v < n → hq (mrgC hd (hq hd a) (hq hd b)) v = if hq hd v = hq hd b then hq hd a else hq hd v := fun v hv => mrg_hq (by rw [h.hl]; exact hv)
  have hone : ∀ i j, i < n → j < n → hq hd i = hq hd j → hq hd' i = hq hd' j := fun i j hi hj e => hA.stp.one i j hi hj (by rw [hm i hi, hm j hj, e])
  have hk : hq hd (hq hd a) = hq hd a := h.idem a ha
  have hg : hq hd (hq hd b) = hq hd b := h.idem b hb
  refine ⟨⟨hA.stp.inv, hone, fun i x hi hx ht => ?_, .inr ?_⟩, ?_⟩
  · obtain ⟨y, h1, h2⟩ := ht
    have hy := ToC.lt h h1
    by_cases e : hq hd i = hq hd b
    · have h3 := hA.told y (by unfold tq at h1; rw [← e]; exact h1)
      refine (h3.from_ ?_).into (hone y x hy hx h2)
      refine hA.stp.one _ i (h.hlt a ha) hi ?_
      rw [hm _ (h.hlt a ha), hm i hi, if_pos e, hk, if_neg hne]
    · refine hA.stp.to i x hi hx ⟨y, ?_, ?_⟩
      · unfold tq at h1 ⊢
        rw [hm i hi, if_neg e]
        exact h1
      · rw [hm y hy, hm x hx, h2]
  · have h1 := mrg_cls h hk hg (h.hlt b hb) hne
    rcases hA.stp.mu with ⟨e1, e2⟩ | h2
    · rw [e1, e2]
      omega
    · omega
  · refine hA.stp.one a b ha hb ?_
    rw [hm a ha, hm b hb, if_neg hne, if_pos rfl]

theorem AimC.none (h : ClI l n hd tg) {a : Nat} : AimC l n a (-1) hd tg hd tg := ⟨.refl h, fun y hy => by omega⟩

/-- it points already: unified -/
theorem AimC.old (h : ClI l n hd tg) {a o y : Nat} (ha : a < n) (hy : y < n) (ho : tq hd tg a = (o : Int)) (hU : UniC l n o y hd tg hd' tg') : AimC l n a (y : Int) hd tg hd' tg' := by
  refine ⟨hU.stp, fun z hz => ?_⟩
  have : z = y := by omega
  subst this
  have hon := ToC.lt h ho
  exact (hU.stp.to a o ha hon (.self ho)).into hU.told

theorem AimC.oldPre (h : ClI l n hd tg) {a o y : Nat} (ha : a < n) (ho : tq hd tg a = (o : Int)) (hs : Sg l n true a y) : Sg l n false o y := .one (h.to a ha o ho) hs

theorem nonN_set : ∀ {tg : List Int} {i : Nat} {y : Int}, tg[i]? = some (-1) → y ≠ -1 → nonN (tg.set i y) < nonN tg
  | [], _, _, h, _ => by simp at h
  | a :: tg, 0, y, h, hy => by
    simp only [List.getElem?_cons_zero, Option.some.injEq] at h
    subst h
    unfold nonN
    rw [List.set_cons_zero, List.filter_cons, List.filter_cons]
    simp [hy]
  | a :: tg, i + 1, y, h, hy => by
    have ih := nonN_set (tg := tg) (i := i) (y := y) (by simpa using h) hy
    unfold nonN at ih ⊢
    rw [List.set_cons_succ, List.filter_cons, List.filter_cons]
    split
    · simp only [List.length_cons]
      omega
    · exact ih

/-- it points to nothing yet -/
theorem AimC.new (h : ClI l n hd tg) {a y : Nat} (ha : a < n) (hy : y < n) (ho : tq hd tg a = -1) (hs : Sg l n true a y) : AimC l n a (y : Int) hd tg hd (tg.set (hq hd a) (y : Int)) := by
  have hA := h.hlt a ha
  have hl : hq hd a < tg.length := by rw [h.tv.len]; exact hA
  have hat : tg[hq hd a]? = some (-1) := by
    unfold tq at ho
    rw [List.getD_eq_getElem?_getD, List.getElem?_eq_getElem hl, Option.getD_some] at ho
    rw [List.getElem?_eq_getElem hl, ho]
  have ht : ∀ v, tq hd (tg.set (hq hd a) (y : Int)) v = if hq hd v = hq hd a then (y : Int) else tq hd tg v := fun v => by
    unfold tq
    rw [List.getD_eq_getElem?_getD, List.getElem?_set]
    by_cases e : hq hd v = hq hd a
    · rw [if_pos e.symm, if_pos hl, if_pos e]; rfl
    · rw [if_neg fun q => e q.symm, if_neg e, ← List.getD_eq_getElem?_getD]
  refine ⟨⟨⟨h.hl, h.tv.set (by omega) (by omega), h.hlt, h.idem, h.one, fun v hv z hz => ?_⟩, fun _ _ _ _ e => e, fun i x hi hx ht2 => ?_, .inr ?_⟩, fun z hz => ⟨y, by rw [ht, if_pos rfl], by rw [show z = y by omega]⟩⟩
  · rw [ht] at hz
    split at hz
    · rename_i e
      have : z = y := by omega
      subst this
      exact .from_ (.trans (h.one v hv) (by rw [e]; exact (h.one a ha).symm)) hs
    · exact h.to v hv z hz
  · obtain ⟨z, h1, h2⟩ := ht2
    refine ⟨z, ?_, h2⟩
    rw [ht, if_neg, h1]
    intro e
    unfold tq at h1 ho
    rw [e, ho] at h1
    omega
  · have := nonN_set (y := (y : Int)) hat (by omega)
    omega

/-- what equating must come to -/
structure EqtC (l : List Qt) (n a b : Nat) (hd : List Nat) (tg : List Int) (hd' : List Nat) (tg' : List Int) : Prop where
  stp : StpC l n hd tg hd' tg'
  fwd : ∀ x, x < n → ToC hd tg b x → ToC hd' tg' a x
  bwd : ∀ x, x < n → ToC hd tg a x → ToC hd' tg' b x

theorem EqtC.of {a b : Nat} (h : ClI l n hd tg) (ha : a < n) (hb : b < n) (h1 : AimC l n a (tq hd tg b) hd tg hd' tg') (h2 : AimC l n b (tq hd' tg' a) hd' tg' hd'' tg'') : EqtC l n a b hd tg hd'' tg'' := by
  refine ⟨h1.stp.trans h2.stp, fun x hx ht => ?_, fun x hx ht => ?_⟩
  · obtain ⟨y, e1, e2⟩ := ht
    have hy := ToC.lt h e1
    exact h2.stp.to a x ha hx ((h1.told y e1).into (h1.stp.one y x hy hx e2))
  · obtain ⟨y, e1, e2⟩ := h1.stp.to a x ha hx ht
    have hy := ToC.lt h1.stp.inv e1
    exact (h2.told y e1).into (h2.stp.one y x hy hx e2)

/-- a statement's wish is met, as far as the classes ask -/
def DnC (n : Nat) (p : Qt) (hd : List Nat) (tg : List Int) (hd' : List Nat) (tg' : List Int) : Prop :=
  (p.k = 1 → ToC hd' tg' p.t p.f) ∧
  (p.k = 2 → ∀ x, x < n → (ToC hd tg p.f x → ToC hd' tg' p.t x) ∧ (ToC hd tg p.t x → ToC hd' tg' p.f x)) ∧
  (p.k = 3 → ∀ j x, j < n → x < n → ToC hd tg p.f j → (ToC hd tg j x → ToC hd' tg' p.t x) ∧ (ToC hd tg p.t x → ToC hd' tg' j x)) ∧
  (p.k = 4 → ∀ j x, j < n → x < n → ToC hd tg p.t j → (ToC hd tg p.f x → ToC hd' tg' j x) ∧ (ToC hd tg j x → ToC hd' tg' p.f x))

/-- what a statement must come to -/
structure PrcC (l : List Qt) (n : Nat) (p : Qt) (hd : List Nat) (tg : List Int) (hd' : List Nat) (tg' : List Int) : Prop where
  stp : StpC l n hd tg hd' tg'
  done : DnC n p hd tg hd' tg'

theorem PrcC.addr {p : Qt} (hk : p.k = 1) (h : AimC l n p.t (p.f : Int) hd tg hd' tg') : PrcC l n p hd tg hd' tg' :=
  ⟨h.stp, fun _ => h.told _ rfl, fun e => absurd e (by omega), fun e => absurd e (by omega), fun e => absurd e (by omega)⟩

theorem PrcC.copy {p : Qt} (hk : p.k = 2) (h : EqtC l n p.t p.f hd tg hd' tg') : PrcC l n p hd tg hd' tg' :=
  ⟨h.stp, fun e => absurd e (by omega), fun _ x hx => ⟨h.fwd x hx, h.bwd x hx⟩, fun e => absurd e (by omega), fun e => absurd e (by omega)⟩

theorem PrcC.load {p : Qt} {v : Nat} (hk : p.k = 3) (hI : ClI l n hd tg) (hv : tq hd tg p.f = (v : Int)) (h : EqtC l n p.t v hd tg hd' tg') : PrcC l n p hd tg hd' tg' := by
  refine ⟨h.stp, fun e => absurd e (by omega), fun e => absurd e (by omega), fun _ j x hj hx ht => ?_, fun e => absurd e (by omega)⟩
  have hvn := ToC.lt hI hv
  have e : hq hd v = hq hd j := (ToC.self hv).one ht
  exact ⟨fun h2 => h.fwd x hx (h2.from_ e.symm), fun h2 => (h.bwd x hx h2).from_ (h.stp.one v j hvn hj e)⟩

theorem PrcC.store {p : Qt} {v : Nat} (hk : p.k = 4) (hI : ClI l n hd tg) (hv : tq hd tg p.t = (v : Int)) (h : EqtC l n v p.f hd tg hd' tg') : PrcC l n p hd tg hd' tg' := by
  refine ⟨h.stp, fun e => absurd e (by omega), fun e => absurd e (by omega), fun e => absurd e (by omega), fun _ j x hj hx ht => ?_⟩
  have hvn := ToC.lt hI hv
  have e : hq hd v = hq hd j := (ToC.self hv).one ht
  exact ⟨fun h2 => (h.fwd x hx h2).from_ (h.stp.one v j hvn hj e), fun h2 => h.bwd x hx (h2.from_ e.symm)⟩

theorem PrcC.idle {p : Qt} (hI : ClI l n hd tg) (hk : p.k = 3 ∧ tq hd tg p.f = -1 ∨ p.k = 4 ∧ tq hd tg p.t = -1) : PrcC l n p hd tg hd tg := by
  refine ⟨.refl hI, fun e => absurd e (by omega), fun e => absurd e (by omega), fun e j x _ _ ht => ?_, fun e j x _ _ ht => ?_⟩
  · obtain ⟨y, h1, _⟩ := ht
    omega
  · obtain ⟨y, h1, _⟩ := ht
    omega

theorem PrcC.loadPre {p : Qt} {v : Nat} (hp : p ∈ l) (hl : QOk n l) (hk : p.k = 3) (hI : ClI l n hd tg) (hv : tq hd tg p.f = (v : Int)) (x : Nat) : Sg l n true p.t x ↔ Sg l n true v x :=
  have h := hI.to p.f (hl p hp).2.2.2 v hv
  ⟨fun h2 => .loadT hp hk h h2, fun h2 => .loadF hp hk h h2⟩

theorem PrcC.storePre {p : Qt} {v : Nat} (hp : p ∈ l) (hl : QOk n l) (hk : p.k = 4) (hI : ClI l n hd tg) (hv : tq hd tg p.t = (v : Int)) (x : Nat) : Sg l n true v x ↔ Sg l n true p.f x :=
  have h := hI.to p.t (hl p hp).2.2.1 v hv
  ⟨fun h2 => .storeT hp hk h h2, fun h2 => .storeF hp hk h h2⟩

theorem PrcC.copyPre {p : Qt} (hp : p ∈ l) (hk : p.k = 2) (x : Nat) : Sg l n true p.t x ↔ Sg l n true p.f x := ⟨fun h2 => .copyT hp hk h2, fun h2 => .copyF hp hk h2⟩

theorem DnC.grow {p : Qt} (hp : p.t < n ∧ p.f < n) {h1 h2 : List Nat} {t1 t2 : List Int} (h : DnC n p h1 t1 h2 t2) (ha : StpC l n hd tg h1 t1) (hb : StpC l n h2 t2 hd' tg') : DnC n p hd tg hd' tg' := by
  refine ⟨fun e => hb.to _ _ hp.1 hp.2 (h.1 e), fun e x hx => ?_, fun e j x hj hx ht => ?_, fun e j x hj hx ht => ?_⟩
  · have := h.2.1 e x hx
    exact ⟨fun q => hb.to _ _ hp.1 hx (this.1 (ha.to _ _ hp.2 hx q)), fun q => hb.to _ _ hp.2 hx (this.2 (ha.to _ _ hp.1 hx q))⟩
  · have := h.2.2.1 e j x hj hx (ha.to _ _ hp.2 hj ht)
    exact ⟨fun q => hb.to _ _ hp.1 hx (this.1 (ha.to _ _ hj hx q)), fun q => hb.to _ _ hj hx (this.2 (ha.to _ _ hp.1 hx q))⟩
  · have := h.2.2.2 e j x hj hx (ha.to _ _ hp.1 hj ht)
    exact ⟨fun q => hb.to _ _ hj hx (this.1 (ha.to _ _ hp.2 hx q)), fun q => hb.to _ _ hp.2 hx (this.2 (ha.to _ _ hj hx q))⟩

/-- where nothing more changes all is told -/
theorem Sg.told (hl : QOk n l) (hI : ClI l n hd tg) (h : ∀ p ∈ l, DnC n p hd tg hd tg) {b : Bool} {i x : Nat} (hs : Sg l n b i x) : if b = true then ToC hd tg i x else hq hd i = hq hd x := by
  induction hs with
  | refl hi => rfl
  | addr hp hk => exact (h _ hp).1 hk
  | copyF hp hk h1 ih => exact ((h _ hp).2.1 hk _ (h1.lt hl).2).1 ih
  | copyT hp hk h1 ih => exact ((h _ hp).2.1 hk _ (h1.lt hl).2).2 ih
  | loadF hp hk h1 h2 ih1 ih2 => exact ((h _ hp).2.2.1 hk _ _ (h1.lt hl).2 (h2.lt hl).2 ih1).1 ih2
  | loadT hp hk h1 h2 ih1 ih2 => exact ((h _ hp).2.2.1 hk _ _ (h1.lt hl).2 (h2.lt hl).2 ih1).2 ih2
  | storeF hp hk h1 h2 ih1 ih2 => exact ((h _ hp).2.2.2 hk _ _ (h1.lt hl).2 (h2.lt hl).2 ih1).1 ih2
  | storeT hp hk h1 h2 ih1 ih2 => exact ((h _ hp).2.2.2 hk _ _ (h1.lt hl).2 (h2.lt hl).2 ih1).2 ih2
  | one _ _ ih1 ih2 => exact ToC.one ih1 ih2
  | trans _ _ ih1 ih2 => exact Eq.trans ih1 ih2
  | into _ _ ih1 ih2 => exact ToC.into ih1 ih2
  | from_ _ _ ih1 ih2 => exact ToC.from_ ih2 (Eq.symm ih1)

theorem ClI.start (l : List Qt) (n : Nat) : ClI l n (List.range n) (List.replicate n (-1)) := by
  have hh : ∀ v, v < n → hq (List.range n) v = v := fun v hv => by
    unfold hq
    rw [List.getD_eq_getElem?_getD, List.getElem?_range hv]
    rfl
  refine ⟨by simp, PvI.start n, fun v hv => by rw [hh v hv]; exact hv, fun v hv => by rw [hh v hv, hh v hv], fun v hv => by rw [hh v hv]; exact .refl hv, fun v hv y hy => ?_⟩
  unfold tq at hy
  rw [hh v hv, List.getD_eq_getElem?_getD, List.getElem?_replicate, if_pos hv, Option.getD_some] at hy
  omega

end

end Go.Proofs.Ytfbnmgnkigfgpaa
