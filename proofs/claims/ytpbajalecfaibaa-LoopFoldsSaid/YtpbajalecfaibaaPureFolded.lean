/-
  Plain mathematics of codemasonref.Folded's rounds (G2).
-/
import Derived.Test.YtpbajalecfaibaaPureLoop
namespace Go.Proofs.Ytpbajalecfaibaa
open Go.RowKit
set_option linter.unusedSimpArgs false
set_option linter.unusedVariables false

/-- a node with one that leads to it -/
theorem cl_of {V : List Nat} {E : Nat → Nat → Prop} (hV : V.Nodup) {i p : Nat} {b : Nat → Bool} (hb : ∀ x, b x = true ↔ E x i) (hi : i ∈ V) (h0 : i ≠ 0) (hn : ¬ E i i) (hf : V.filter b = [p]) : Cl ⟨V, E⟩ i p := by
  have hp : p ∈ V.filter b := by rw [hf]; exact List.mem_singleton.2 rfl
  obtain ⟨h1, h2⟩ := List.mem_filter.1 hp
  refine ⟨h0, hi, h1, fun e => hn (by rw [hb, e] at h2; exact h2), (hb p).1 h2, fun q hq hne hqe => ?_⟩
  have : q ∈ V.filter b := List.mem_filter.2 ⟨hq, (hb q).2 hqe⟩
  rw [hf] at this
  exact List.mem_singleton.1 this

theorem cl_no {V : List Nat} {E : Nat → Nat → Prop} (hV : V.Nodup) {i : Nat} {b : Nat → Bool} (hb : ∀ x, b x = true ↔ E x i) (hn : ¬ E i i) (hf : (V.filter b).length ≠ 1) (p : Nat) : ¬ Cl ⟨V, E⟩ i p := fun hc => by
  have hp : p ∈ V.filter b := List.mem_filter.2 ⟨hc.pV, (hb p).2 hc.e⟩
  have hall : ∀ q ∈ V.filter b, q = p := fun q hq => by
    obtain ⟨h1, h2⟩ := List.mem_filter.1 hq
    have h3 := (hb q).1 h2
    exact hc.one q h1 (fun e => hn (by rw [e] at h3; exact h3)) h3
  have hnd : (V.filter b).Nodup := hV.filter _
  obtain ⟨l, hl⟩ : ∃ l, V.filter b = l := ⟨_, rfl⟩
  rw [hl] at hp hall hnd hf
  match l, hp, hall, hnd, hf with
  | [x], _, _, _, hf => exact hf rfl
  | x :: y :: l, _, hall, hnd, _ =>
    have h1 := hall x (by simp)
    have h2 := hall y (by simp)
    exact (List.nodup_cons.1 hnd).1 (by rw [h1, h2]; simp)

/-- the edges after the first m nodes of the folding of i into p -/
structure FlK (V : List Nat) (E : Nat → Nat → Prop) (i p m : Nat) (F : Nat → Nat → Prop) : Prop where
  a : ∀ x y, x ≠ i → y ≠ i → (F x y ↔ E x y ∨ (x = p ∧ y ∈ V.take m ∧ E i y))
  b : ∀ k, k ∉ V.take m → (F i k ↔ E i k)

theorem FlK.start (V : List Nat) (E : Nat → Nat → Prop) (i p : Nat) : FlK V E i p 0 E := ⟨fun x y _ _ => by simp, fun k _ => Iff.rfl⟩

theorem FlK.next {V : List Nat} {E F : Nat → Nat → Prop} (hV : V.Nodup) {i p m k : Nat} (h : FlK V E i p m F) (hk : V[m]? = some k) (hpi : p ≠ i) {F' : Nat → Nat → Prop}
    (hF : ∀ x y, F' x y ↔ (F x y ∨ (E i k ∧ x = p ∧ y = k)) ∧ ¬ (x = i ∧ y = k) ∧ ¬ (x = k ∧ y = i)) : FlK V E i p (m + 1) F' := by
  have hmem : ∀ y, y ∈ V.take (m + 1) ↔ y ∈ V.take m ∨ y = k := fun y => by rw [List.take_add_one, hk, Option.toList_some, List.mem_append, List.mem_singleton]
  constructor
  · intro x y hx hy
    rw [hF, h.a x y hx hy, hmem]
    constructor
    · rintro ⟨(h1 | ⟨h1, h2, h3⟩) | ⟨h1, h2, h3⟩, _⟩
      · exact .inl h1
      · exact .inr ⟨h1, .inl h2, h3⟩
      · subst h3; exact .inr ⟨h2, .inr rfl, h1⟩
    · rintro (h1 | ⟨h1, h2 | h2, h3⟩)
      · exact ⟨.inl (.inl h1), fun q => hx q.1, fun q => hy q.2⟩
      · exact ⟨.inl (.inr ⟨h1, h2, h3⟩), fun q => hx q.1, fun q => hy q.2⟩
      · subst h2; exact ⟨.inr ⟨h3, h1, rfl⟩, fun q => hx q.1, fun q => hy q.2⟩
  · intro y hy
    rw [hmem] at hy
    have hy1 : y ∉ V.take m := fun q => hy (.inl q)
    have hy2 : y ≠ k := fun q => hy (.inr q)
    rw [hF, h.b y hy1]
    constructor
    · rintro ⟨h1 | ⟨_, h2, _⟩, _⟩
      · exact h1
      · exact absurd h2.symm hpi
    · intro h1
      exact ⟨.inl h1, fun q => hy2 q.2, fun q => hy2 (q.2.trans q.1)⟩

/-- all nodes: one folding is done -/
theorem FlK.done {V V' : List Nat} {E F : Nat → Nat → Prop} (hV : V.Nodup) {i p : Nat} (h : FlK V E i p V.length F) (hc : Cl ⟨V, E⟩ i p) (hV' : V' = V.filter (fun x => decide (x ≠ i))) : Stp ⟨V, E⟩ ⟨V', F⟩ i p := by
  subst hV'
  have hm : ∀ x, x ∈ V.filter (fun x => decide (x ≠ i)) ↔ x ∈ V ∧ x ≠ i := fun x => by rw [List.mem_filter, decide_eq_true_eq]
  refine ⟨hc, hV.filter _, hm, fun x y hx hy _ => ?_⟩
  obtain ⟨h1, h2⟩ := (hm x).1 hx
  obtain ⟨h3, h4⟩ := (hm y).1 hy
  have := h.a x y h2 h4
  rw [List.take_length] at this
  exact this.trans ⟨fun q => q.imp id fun q => ⟨q.1, q.2.2⟩, fun q => q.imp id fun q => ⟨q.1, h3, q.2⟩⟩

end Go.Proofs.Ytpbajalecfaibaa
