/-
  Plain mathematics of liveness (K1, K2): what is live at a place, steps that are not needed left out, runs that agree: no program's text.
-/
import Derived.Test.YthgilekhohadoaaPureBlock
namespace Go.Proofs.Ythgilekhohadoaa
set_option linter.unusedSimpArgs false
set_option linter.unusedVariables false

instance : Inhabited St := ⟨⟨1, 0, 0, 0, 0⟩⟩

/-- what a step uses -/
def UsesS (s : St) (v : Nat) : Prop := (s.op = 2 ∧ s.v = (v : Int)) ∨ (3 ≤ s.op ∧ (s.a = (v : Int) ∨ s.b = (v : Int)))

/-- at a place (block, step) a variable is used, or asked for where one stops -/
def Us (p : List Bk) (want v : Nat) (x : Nat × Nat) : Prop :=
  ∃ b, p[x.1]? = some b ∧ ((∃ s, b.code[x.2]? = some s ∧ UsesS s v) ∨ (x.2 = b.code.length ∧ (b.test = (v : Int) ∨ (b.test = -1 ∧ b.th = -1 ∧ want.testBit v = true))))

/-- from a place one comes to another one without the variable's being set -/
def Nx (p : List Bk) (v : Nat) (x y : Nat × Nat) : Prop :=
  ∃ b, p[x.1]? = some b ∧ ((∃ s, b.code[x.2]? = some s ∧ s.to ≠ (v : Int) ∧ y = (x.1, x.2 + 1)) ∨ (x.2 = b.code.length ∧ ∃ j : Nat, (j : Int) ∈ nxB b ∧ y = (j, 0)))

/-- K1: live at a place -/
inductive Lv (p : List Bk) (want v : Nat) : Nat × Nat → Prop
  | here {x : Nat × Nat} : Us p want v x → Lv p want v x
  | on {x y : Nat × Nat} : Nx p v x y → Lv p want v y → Lv p want v x

/-- a set of places without a use, out of which one does not come: nothing is live there -/
theorem lv_closed {p : List Bk} {want v : Nat} {S : Nat × Nat → Prop} (hu : ∀ x, S x → ¬ Us p want v x) (hn : ∀ x y, S x → Nx p v x y → S y) {x : Nat × Nat} (h : Lv p want v x) : ¬ S x := by
  induction h with
  | here h1 => exact fun hs => hu _ hs h1
  | on h1 _ ih => exact fun hs => ih (hn _ _ hs h1)

theorem lv_use {p : List Bk} {want v i k : Nat} {b : Bk} {s : St} (hb : p[i]? = some b) (hs : b.code[k]? = some s) (h : UsesS s v) : Lv p want v (i, k) := .here ⟨b, hb, .inl ⟨s, hs, h⟩⟩

theorem lv_step {p : List Bk} {want v i k : Nat} {b : Bk} {s : St} (hb : p[i]? = some b) (hs : b.code[k]? = some s) (h : s.to ≠ (v : Int)) (hl : Lv p want v (i, k + 1)) : Lv p want v (i, k) := .on ⟨b, hb, .inl ⟨s, hs, h, rfl⟩⟩ hl

theorem lv_test {p : List Bk} {want v i k : Nat} {b : Bk} (hb : p[i]? = some b) (hk : k = b.code.length) (h : b.test = (v : Int)) : Lv p want v (i, k) := .here ⟨b, hb, .inr ⟨hk, .inl h⟩⟩

theorem lv_stop {p : List Bk} {want v i k : Nat} {b : Bk} (hb : p[i]? = some b) (hk : k = b.code.length) (h1 : b.test = -1) (h2 : b.th = -1) (h : want.testBit v = true) : Lv p want v (i, k) := .here ⟨b, hb, .inr ⟨hk, .inr ⟨h1, h2, h⟩⟩⟩

theorem lv_next {p : List Bk} {want v i k j : Nat} {b : Bk} (hb : p[i]? = some b) (hk : k = b.code.length) (hj : (j : Int) ∈ nxB b) (hl : Lv p want v (j, 0)) : Lv p want v (i, k) := .on ⟨b, hb, .inr ⟨hk, j, hj, rfl⟩⟩ hl

/-! ### More asked for -/

theorem lv_more {p : List Bk} {a b v : Nat} {x : Nat × Nat} : Lv p (a ||| b) v x ↔ Lv p a v x ∨ Lv p b v x := by
  constructor
  · intro h
    induction h with
    | here h1 =>
      obtain ⟨bk, hb, h2 | ⟨h2, h3 | ⟨h3, h4, h5⟩⟩⟩ := h1
      · exact .inl (.here ⟨bk, hb, .inl h2⟩)
      · exact .inl (.here ⟨bk, hb, .inr ⟨h2, .inl h3⟩⟩)
      · rw [Nat.testBit_or, Bool.or_eq_true] at h5
        rcases h5 with h5 | h5
        · exact .inl (.here ⟨bk, hb, .inr ⟨h2, .inr ⟨h3, h4, h5⟩⟩⟩)
        · exact .inr (.here ⟨bk, hb, .inr ⟨h2, .inr ⟨h3, h4, h5⟩⟩⟩)
    | on h1 _ ih => exact ih.imp (.on h1) (.on h1)
  · rintro (h | h)
    · induction h with
      | here h1 =>
        obtain ⟨bk, hb, h2 | ⟨h2, h3 | ⟨h3, h4, h5⟩⟩⟩ := h1
        · exact .here ⟨bk, hb, .inl h2⟩
        · exact .here ⟨bk, hb, .inr ⟨h2, .inl h3⟩⟩
        · exact .here ⟨bk, hb, .inr ⟨h2, .inr ⟨h3, h4, by rw [Nat.testBit_or, h5]; rfl⟩⟩⟩
      | on h1 _ ih => exact .on h1 ih
    · induction h with
      | here h1 =>
        obtain ⟨bk, hb, h2 | ⟨h2, h3 | ⟨h3, h4, h5⟩⟩⟩ := h1
        · exact .here ⟨bk, hb, .inl h2⟩
        · exact .here ⟨bk, hb, .inr ⟨h2, .inl h3⟩⟩
        · exact .here ⟨bk, hb, .inr ⟨h2, .inr ⟨h3, h4, by rw [Nat.testBit_or, h5, Bool.or_true]⟩⟩⟩
      | on h1 _ ih => exact .on h1 ih

/-! ### A step left out -/

def dropS (b : Bk) (k : Nat) : Bk := { b with code := b.code.eraseIdx k }

theorem dropS_nx (b : Bk) (k : Nat) : nxB (dropS b k) = nxB b := rfl

/-- a step that is not needed, left out -/
inductive Cut (want : Nat) (p : List Bk) : List Bk → Prop
  | mk {i k : Nat} {b : Bk} {s : St} : p[i]? = some b → b.code[k]? = some s → ¬ Lv p want s.to.toNat (i, k + 1) → Cut want p (p.set i (dropS b k))

/-- one after another -/
inductive Cuts (want : Nat) : List Bk → List Bk → Prop
  | done (p : List Bk) : Cuts want p p
  | more {p q r : List Bk} : Cut want p q → Cuts want q r → Cuts want p r

theorem Cuts.one {want : Nat} {p q : List Bk} (h : Cut want p q) : Cuts want p q := .more h (.done q)

theorem Cuts.trans {want : Nat} {p q r : List Bk} (h : Cuts want p q) (h2 : Cuts want q r) : Cuts want p r := by
  induction h with
  | done _ => exact h2
  | more h1 _ ih => exact .more h1 (ih h2)

/-- every step is needed -/
def Nf (want : Nat) (p : List Bk) : Prop := ∀ (i k : Nat) (b : Bk) (s : St), p[i]? = some b → b.code[k]? = some s → Lv p want s.to.toNat (i, k + 1)

theorem Nf.no {want : Nat} {p q : List Bk} (h : Nf want p) : ¬ Cut want p q := by
  rintro ⟨h1, h2, h3⟩
  exact h3 (h _ _ _ _ h1 h2)

/-- what is live when a step that is not needed is left out was live before -/
theorem lv_cut {p : List Bk} {want v i k : Nat} {b : Bk} {s : St} (hb : p[i]? = some b) (hs : b.code[k]? = some s) (h0 : 0 ≤ s.to) (hd : ¬ Lv p want s.to.toNat (i, k + 1)) {x : Nat × Nat} (h : Lv (p.set i (dropS b k)) want v x) :
    (x.1 ≠ i → Lv p want v x) ∧ (x.1 = i → (x.2 ≤ k → Lv p want v (i, x.2)) ∧ (k ≤ x.2 → Lv p want v (i, x.2 + 1))) := by
  have hil := (List.getElem?_eq_some_iff.1 hb).1
  have hkl := (List.getElem?_eq_some_iff.1 hs).1
  have hme : (p.set i (dropS b k))[i]? = some (dropS b k) := List.getElem?_set_self hil
  have hne : ∀ j, j ≠ i → (p.set i (dropS b k))[j]? = p[j]? := fun j hj => List.getElem?_set_ne (Ne.symm hj)
  -- at the cut itself
  have hat : Lv p want v (i, k + 1) → Lv p want v (i, k) := fun hl => lv_step hb hs (fun e => hd (by rw [e]; simpa using hl)) hl
  have hlen : (dropS b k).code.length = b.code.length - 1 := by show (b.code.eraseIdx k).length = _; rw [List.length_eraseIdx, if_pos hkl]
  have hget : ∀ l, (dropS b k).code[l]? = if l < k then b.code[l]? else b.code[l + 1]? := fun l => List.getElem?_eraseIdx ..
  induction h with
  | @here x h1 =>
    obtain ⟨bk, hbk, hu⟩ := h1
    refine ⟨fun hx => .here ⟨bk, by rw [← hne _ hx]; exact hbk, hu⟩, fun hx => ?_⟩
    rw [hx, hme] at hbk
    injection hbk with hbk
    subst hbk
    have h2 : k ≤ x.2 → Lv p want v (i, x.2 + 1) := fun hk => by
      rcases hu with ⟨s', hs', hu⟩ | ⟨he, hu⟩
      · rw [hget, if_neg (by omega)] at hs'
        exact lv_use hb hs' hu
      · rw [hlen] at he
        exact .here ⟨b, hb, .inr ⟨by show x.2 + 1 = _; omega, hu⟩⟩
    refine ⟨fun hk => ?_, h2⟩
    by_cases hxk : x.2 = k
    · rw [hxk]; exact hat (by have := h2 (by omega); rwa [hxk] at this)
    · rcases hu with ⟨s', hs', hu⟩ | ⟨he, hu⟩
      · rw [hget, if_pos (by omega)] at hs'
        exact lv_use hb hs' hu
      · rw [hlen] at he
        omega
  | @on x y h1 hl ih =>
    obtain ⟨bk, hbk, hn⟩ := h1
    have hj : ∀ j, y = (j, 0) → Lv p want v (j, 0) := fun j e => by
      subst e
      by_cases e : j = i
      · subst e; exact (ih.2 rfl).1 (Nat.zero_le _)
      · exact ih.1 e
    refine ⟨fun hx => ?_, fun hx => ?_⟩
    · rw [hne _ hx] at hbk
      rcases hn with ⟨s', hs', hto, he⟩ | ⟨he, j, hj1, hj2⟩
      · subst he
        exact .on ⟨bk, hbk, .inl ⟨s', hs', hto, rfl⟩⟩ (ih.1 hx)
      · exact .on ⟨bk, hbk, .inr ⟨he, j, hj1, rfl⟩⟩ (hj j hj2)
    · rw [hx, hme] at hbk
      injection hbk with hbk
      subst hbk
      have h2 : k ≤ x.2 → Lv p want v (i, x.2 + 1) := fun hk => by
        rcases hn with ⟨s', hs', hto, he⟩ | ⟨he, j, hj1, hj2⟩
        · rw [hget, if_neg (by omega)] at hs'
          subst he
          exact lv_step hb hs' hto ((ih.2 hx).2 (by show k ≤ x.2 + 1; omega))
        · rw [hlen] at he
          exact lv_next hb (by omega) hj1 (hj j hj2)
      refine ⟨fun hk => ?_, h2⟩
      by_cases hxk : x.2 = k
      · rw [hxk]; exact hat (by have := h2 (by omega); rwa [hxk] at this)
      · rcases hn with ⟨s', hs', hto, he⟩ | ⟨he, j, hj1, hj2⟩
        · rw [hget, if_pos (by omega)] at hs'
          subst he
          exact lv_step hb hs' hto ((ih.2 hx).1 (by show x.2 + 1 ≤ k; omega))
        · rw [hlen] at he
          omega

/-- all that steps set are variables -/
def ToOk (p : List Bk) : Prop := ∀ (i k : Nat) (b : Bk) (s : St), p[i]? = some b → b.code[k]? = some s → 0 ≤ s.to

theorem ToOk.cut {want : Nat} {p q : List Bk} (h : ToOk p) (hc : Cut want p q) : ToOk q := by
  obtain @⟨i, k, b, s, hb, hs, _⟩ := hc
  intro j l b' s' hb' hs'
  by_cases e : i = j
  · subst e
    rw [List.getElem?_set_self (List.getElem?_eq_some_iff.1 hb).1] at hb'
    injection hb' with hb'
    subst hb'
    have hg : (dropS b k).code[l]? = if l < k then b.code[l]? else b.code[l + 1]? := List.getElem?_eraseIdx ..
    rw [hg] at hs'
    split at hs'
    · exact h i _ b _ hb hs'
    · exact h i _ b _ hb hs'
  · rw [List.getElem?_set_ne e] at hb'
    exact h j l b' s' hb' hs'

theorem erase_comm {α : Type} {l : List α} {k m : Nat} (h : k < m) : (l.eraseIdx k).eraseIdx (m - 1) = (l.eraseIdx m).eraseIdx k := by
  apply List.ext_getElem?
  intro j
  rw [List.getElem?_eraseIdx, List.getElem?_eraseIdx, List.getElem?_eraseIdx, List.getElem?_eraseIdx, List.getElem?_eraseIdx]
  by_cases h1 : j < k
  · simp only [h1, if_true, show j < m - 1 by omega, show j < m by omega]
  · by_cases h2 : j < m - 1
    · simp only [h1, h2, if_true, if_false]
      rw [List.getElem?_eraseIdx, if_pos (by omega)]
    · simp only [h1, h2, if_false]
      rw [List.getElem?_eraseIdx]
      simp only [show ¬ j + 1 < m by omega, show ¬ j + 1 < k by omega, if_false]

/-- two steps that are not needed: either may be left out first -/
theorem cut_comm {want : Nat} {p a b : List Bk} (ht : ToOk p) (ha : Cut want p a) (hb : Cut want p b) : a = b ∨ ∃ c, Cut want a c ∧ Cut want b c := by
  obtain @⟨i, k, b1, s1, hb1, hs1, hd1⟩ := ha
  obtain @⟨j, l, b2, s2, hb2, hs2, hd2⟩ := hb
  have t1 := ht _ _ _ _ hb1 hs1
  have t2 := ht _ _ _ _ hb2 hs2
  have l1 := (List.getElem?_eq_some_iff.1 hb1).1
  have l2 := (List.getElem?_eq_some_iff.1 hb2).1
  by_cases e : i = j
  · subst e
    rw [hb1] at hb2
    injection hb2 with hb2
    subst hb2
    -- the two in order
    have two : ∀ {k l : Nat} {s1 s2 : St}, k < l → b1.code[k]? = some s1 → b1.code[l]? = some s2 → 0 ≤ s1.to → 0 ≤ s2.to → ¬ Lv p want s1.to.toNat (i, k + 1) → ¬ Lv p want s2.to.toNat (i, l + 1) →
        ∃ c, Cut want (p.set i (dropS b1 k)) c ∧ Cut want (p.set i (dropS b1 l)) c := by
      intro k l s1 s2 hkl hs1 hs2 t1 t2 hd1 hd2
      refine ⟨p.set i (dropS (dropS b1 k) (l - 1)), ?_, ?_⟩
      · have := Cut.mk (want := want) (p := p.set i (dropS b1 k)) (i := i) (k := l - 1) (b := dropS b1 k) (s := s2) (List.getElem?_set_self l1) (by
          show (b1.code.eraseIdx k)[l - 1]? = _
          rw [List.getElem?_eraseIdx, if_neg (by omega), show l - 1 + 1 = l by omega]
          exact hs2) (fun h => hd2 (by
            have := ((lv_cut hb1 hs1 t1 hd1 h).2 rfl).2 (by show k ≤ l - 1 + 1; omega)
            rwa [show l - 1 + 1 + 1 = l + 1 by omega] at this))
        rw [List.set_set] at this
        exact this
      · have := Cut.mk (want := want) (p := p.set i (dropS b1 l)) (i := i) (k := k) (b := dropS b1 l) (s := s1) (List.getElem?_set_self l1) (by
          show (b1.code.eraseIdx l)[k]? = _
          rw [List.getElem?_eraseIdx, if_pos hkl]
          exact hs1) (fun h => hd1 (((lv_cut hb1 hs2 t2 hd2 h).2 rfl).1 (by show k + 1 ≤ l; omega)))
        rw [List.set_set] at this
        have he : dropS (dropS b1 l) k = dropS (dropS b1 k) (l - 1) := by
          unfold dropS
          simp only [Bk.mk.injEq, and_true]
          exact (erase_comm hkl).symm
        rw [he] at this
        exact this
    rcases Nat.lt_trichotomy k l with h | h | h
    · exact .inr (two h hs1 hs2 t1 t2 hd1 hd2)
    · subst h; exact .inl rfl
    · obtain ⟨c, h1, h2⟩ := two h hs2 hs1 t2 t1 hd2 hd1
      exact .inr ⟨c, h2, h1⟩
  · refine .inr ⟨(p.set i (dropS b1 k)).set j (dropS b2 l), ?_, ?_⟩
    · exact .mk (by rw [List.getElem?_set_ne e]; exact hb2) hs2 fun h => hd2 ((lv_cut hb1 hs1 t1 hd1 h).1 (fun he => e he.symm))
    · rw [List.set_comm _ _ e]
      exact .mk (by rw [List.getElem?_set_ne (Ne.symm e)]; exact hb1) hs1 fun h => hd1 ((lv_cut hb2 hs2 t2 hd2 h).1 (fun he => e he))

theorem cut_strip {want : Nat} {p q : List Bk} (h : Cuts want p q) (ht : ToOk p) (hn : Nf want q) : ∀ {a : List Bk}, Cut want p a → Cuts want a q := by
  induction h with
  | done p => exact fun ha => absurd ha hn.no
  | @more p b q hb hbq ih =>
    intro a ha
    rcases cut_comm ht ha hb with rfl | ⟨c, h1, h2⟩
    · exact hbq
    · exact .more h1 (ih (ht.cut hb) hn h2)

theorem cuts_strip {want : Nat} {p r : List Bk} (h : Cuts want p r) : ∀ {q : List Bk}, Cuts want p q → ToOk p → Nf want q → Cuts want r q := by
  induction h with
  | done p => exact fun h _ _ => h
  | more h1 _ ih => exact fun h ht hn => ih (cut_strip h ht hn h1) (ht.cut h1) hn

/-- K2: the order in which steps are left out does not matter -/
theorem cuts_one {want : Nat} {p q r : List Bk} (ht : ToOk p) (h1 : Cuts want p q) (h2 : Cuts want p r) (n1 : Nf want q) (n2 : Nf want r) : q = r := by
  have := cuts_strip h2 h1 ht n1
  cases this with
  | done _ => rfl
  | more h _ => exact absurd h n2.no

end Go.Proofs.Ythgilekhohadoaa
