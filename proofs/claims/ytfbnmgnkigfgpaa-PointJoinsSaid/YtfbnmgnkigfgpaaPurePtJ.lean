/-
  Plain mathematics of two lists of pairs that grow (V2): what codemasonref.Joined lays in its maps; no program's text.
-/
import Derived.Test.YtfbnmgnkigfgpaaPurePtL
namespace Go.Proofs.Ytfbnmgnkigfgpaa
set_option linter.unusedSimpArgs false
set_option linter.unusedVariables false

abbrev Prs := List (Nat × Nat)

/-- a pass: what has grown, all of it what must be -/
structure PsJ (l : List Qt) (n : Nat) (O0 T0 O T : Prs) : Prop where
  go : GrP O0 O
  gt : GrP T0 T
  so : ∀ x ∈ O, Sg l n false x.1 x.2
  st : ∀ x ∈ T, Sg l n true x.1 x.2

section
variable {l : List Qt} {n : Nat} {O0 T0 O T O' T' : Prs}

theorem PsJ.putO (h : PsJ l n O0 T0 O T) {a b : Nat} (ha : Sg l n false a b) : PsJ l n O0 T0 (insP O (a, b)) T := ⟨h.go.put, h.gt, fun x hx => (insP_mem.1 hx).elim (h.so x) fun e => by rw [e]; exact ha, h.st⟩

theorem PsJ.putT (h : PsJ l n O0 T0 O T) {a b : Nat} (ha : Sg l n true a b) : PsJ l n O0 T0 O (insP T (a, b)) := ⟨h.go, h.gt.put, h.so, fun x hx => (insP_mem.1 hx).elim (h.st x) fun e => by rw [e]; exact ha⟩

theorem PsJ.start (h : PsJ l n O0 T0 O T) : PsJ l n O T O T := ⟨GrP.refl h.go.nd, GrP.refl h.gt.nd, h.so, h.st⟩

theorem PsJ.lt (h : PsJ l n O0 T0 O T) (hq : QOk n l) : (∀ x ∈ O, x.1 < n ∧ x.2 < n) ∧ ∀ x ∈ T, x.1 < n ∧ x.2 < n := ⟨fun x hx => (h.so x hx).lt hq, fun x hx => (h.st x hx).lt hq⟩

theorem PsJ.short (h : PsJ l n O0 T0 O T) (hq : QOk n l) (h8 : n ≤ 8) : O.length ≤ 64 ∧ T.length ≤ 64 := by
  obtain ⟨h1, h2⟩ := h.lt hq
  exact ⟨pairs_le h.go.nd fun p hp => by have := h1 p hp; omega, pairs_le h.gt.nd fun p hp => by have := h2 p hp; omega⟩

/-- whose targets a statement equates: the one side, the other -/
def AeJ (p : Qt) (T : Prs) (i : Nat) : Prop := if p.k = 4 then (p.t, i) ∈ T else i = p.t

def BeJ (p : Qt) (T : Prs) (j : Nat) : Prop := if p.k = 3 then (p.f, j) ∈ T else j = p.f

/-- what a statement asks of the variables below X -/
def DlJ (p : Qt) (T0 T : Prs) (X : Nat) : Prop :=
  (p.k = 1 → (p.t, p.f) ∈ T) ∧ (p.k ≠ 1 → ∀ x, x < X → ∀ i j, AeJ p T0 i → BeJ p T0 j → ((i, x) ∈ T0 → (j, x) ∈ T) ∧ ((j, x) ∈ T0 → (i, x) ∈ T))

theorem DlJ.sub {p : Qt} {X : Nat} (h : DlJ p T0 T X) (hs : ∀ x ∈ T, x ∈ T') : DlJ p T0 T' X :=
  ⟨fun e => hs _ (h.1 e), fun e x hx i j ha hb => ⟨fun q => hs _ ((h.2 e x hx i j ha hb).1 q), fun q => hs _ ((h.2 e x hx i j ha hb).2 q)⟩⟩

theorem DlJ.start {p : Qt} (h : p.k = 1 → (p.t, p.f) ∈ T) : DlJ p T0 T 0 := ⟨h, fun _ x hx => by omega⟩

/-- of two lists, those at places before (u, v) -/
def LlJ (al bl : List Nat) (T0 T : Prs) (x U V : Nat) : Prop := ∀ u v i j, al[u]? = some i → bl[v]? = some j → (u < U ∨ (u = U ∧ v < V)) → ((i, x) ∈ T0 → (j, x) ∈ T) ∧ ((j, x) ∈ T0 → (i, x) ∈ T)

theorem LlJ.sub {al bl : List Nat} {x U V : Nat} (h : LlJ al bl T0 T x U V) (hs : ∀ x ∈ T, x ∈ T') : LlJ al bl T0 T' x U V :=
  fun u v i j ha hb hc => ⟨fun q => hs _ ((h u v i j ha hb hc).1 q), fun q => hs _ ((h u v i j ha hb hc).2 q)⟩

theorem LlJ.start {al bl : List Nat} {x : Nat} : LlJ al bl T0 T x 0 0 := fun u v i j _ _ h => by omega

theorem LlJ.col {al bl : List Nat} {x U V i j : Nat} (h : LlJ al bl T0 T x U V) (hi : al[U]? = some i) (hj : bl[V]? = some j) (h1 : (i, x) ∈ T0 → (j, x) ∈ T) (h2 : (j, x) ∈ T0 → (i, x) ∈ T) : LlJ al bl T0 T x U (V + 1) := by
  intro u v i' j' ha hb hc
  by_cases e : u = U ∧ v = V
  · obtain ⟨rfl, rfl⟩ := e
    rw [hi] at ha
    rw [hj] at hb
    injection ha with ha
    injection hb with hb
    subst ha hb
    exact ⟨h1, h2⟩
  · exact h u v i' j' ha hb (by omega)

theorem LlJ.row {al bl : List Nat} {x U : Nat} (h : LlJ al bl T0 T x U bl.length) : LlJ al bl T0 T x (U + 1) 0 := by
  intro u v i j ha hb hc
  have := (List.getElem?_eq_some_iff.1 hb).1
  exact h u v i j ha hb (by omega)

theorem DlJ.next {p : Qt} {X : Nat} {al bl : List Nat} (h : DlJ p T0 T X) (hl : LlJ al bl T0 T X al.length 0) (ha : ∀ i, AeJ p T0 i → i ∈ al) (hb : ∀ j, BeJ p T0 j → j ∈ bl) : DlJ p T0 T (X + 1) := by
  refine ⟨h.1, fun e x hx i j hi hj => ?_⟩
  by_cases q : x = X
  · subst q
    obtain ⟨u, hu⟩ := List.mem_iff_getElem?.1 (ha i hi)
    obtain ⟨v, hv⟩ := List.mem_iff_getElem?.1 (hb j hj)
    exact hl u v i j hu hv (.inl (List.getElem?_eq_some_iff.1 hu).1)
  · exact h.2 e x (by omega) i j hi hj

theorem DlJ.next1 {p : Qt} {X : Nat} (h : DlJ p T0 T X) (hk : p.k = 1) : DlJ p T0 T (X + 1) := ⟨h.1, fun e => absurd hk e⟩

/-- targets of these and those must be one -/
def EqJ (l : List Qt) (n : Nat) (al bl : List Nat) : Prop := ∀ i ∈ al, ∀ j ∈ bl, i < n ∧ j < n ∧ ∀ x, Sg l n true i x ↔ Sg l n true j x

theorem EqJ.copy {p : Qt} (hq : QOk n l) (hp : p ∈ l) (hk : p.k = 2) : EqJ l n [p.t] [p.f] := fun i hi j hj => by
  rw [List.mem_singleton] at hi hj
  subst hi hj
  have := hq p hp
  exact ⟨by omega, by omega, fun x => ⟨fun h => .copyT hp hk h, fun h => .copyF hp hk h⟩⟩

theorem EqJ.load {p : Qt} {bl : List Nat} (hq : QOk n l) (hp : p ∈ l) (hk : p.k = 3) (hb : ∀ j ∈ bl, Sg l n true p.f j) : EqJ l n [p.t] bl := fun i hi j hj => by
  rw [List.mem_singleton] at hi
  subst hi
  have := hq p hp
  exact ⟨by omega, ((hb j hj).lt hq).2, fun x => ⟨fun h => .loadT hp hk (hb j hj) h, fun h => .loadF hp hk (hb j hj) h⟩⟩

theorem EqJ.store {p : Qt} {al : List Nat} (hq : QOk n l) (hp : p ∈ l) (hk : p.k = 4) (ha : ∀ i ∈ al, Sg l n true p.t i) : EqJ l n al [p.f] := fun i hi j hj => by
  rw [List.mem_singleton] at hj
  subst hj
  have := hq p hp
  exact ⟨((ha i hi).lt hq).2, by omega, fun x => ⟨fun h => .storeT hp hk (ha i hi) h, fun h => .storeF hp hk (ha i hi) h⟩⟩

/-- one comes before another -/
def Lx3 (i j k I J K : Nat) : Prop := i < I ∨ (i = I ∧ (j < J ∨ (j = J ∧ k < K)))

/-- what follows of two pairs each, of the triples before (I, J, K) -/
def ClJ (O0 T0 O T : Prs) (I J K : Nat) : Prop := ∀ i j k, Lx3 i j k I J K → ((i, j) ∈ T0 → (i, k) ∈ T0 → (j, k) ∈ O) ∧ ((i, j) ∈ O0 → (j, k) ∈ O0 → (i, k) ∈ O) ∧ ((i, j) ∈ T0 → (j, k) ∈ O0 → (i, k) ∈ T) ∧ ((i, j) ∈ O0 → (j, k) ∈ T0 → (i, k) ∈ T)

theorem ClJ.sub {I J K : Nat} (h : ClJ O0 T0 O T I J K) (h1 : ∀ x ∈ O, x ∈ O') (h2 : ∀ x ∈ T, x ∈ T') : ClJ O0 T0 O' T' I J K := fun i j k hl =>
  have q := h i j k hl
  ⟨fun a b => h1 _ (q.1 a b), fun a b => h1 _ (q.2.1 a b), fun a b => h2 _ (q.2.2.1 a b), fun a b => h2 _ (q.2.2.2 a b)⟩

theorem ClJ.start : ClJ O0 T0 O T 0 0 0 := fun i j k h => by unfold Lx3 at h; omega

theorem ClJ.step {I J K : Nat} (h : ClJ O0 T0 O T I J K) (h1 : (I, J) ∈ T0 → (I, K) ∈ T0 → (J, K) ∈ O) (h2 : (I, J) ∈ O0 → (J, K) ∈ O0 → (I, K) ∈ O) (h3 : (I, J) ∈ T0 → (J, K) ∈ O0 → (I, K) ∈ T) (h4 : (I, J) ∈ O0 → (J, K) ∈ T0 → (I, K) ∈ T) : ClJ O0 T0 O T I J (K + 1) := fun i j k hl => by
  by_cases e : i = I ∧ j = J ∧ k = K
  · obtain ⟨rfl, rfl, rfl⟩ := e
    exact ⟨h1, h2, h3, h4⟩
  · exact h i j k (by unfold Lx3 at hl ⊢; omega)

theorem ClJ.row {I J : Nat} (h : ClJ O0 T0 O T I J n) (hO : ∀ x ∈ O0, x.1 < n ∧ x.2 < n) (hT : ∀ x ∈ T0, x.1 < n ∧ x.2 < n) : ClJ O0 T0 O T I (J + 1) 0 := fun i j k hl => by
  rcases Nat.lt_or_ge k n with hk | hk
  · exact h i j k (by unfold Lx3 at hl ⊢; omega)
  · exact ⟨fun _ b => by have := (hT _ b).2; simp only at this; omega, fun _ b => by have := (hO _ b).2; simp only at this; omega, fun _ b => by have := (hO _ b).2; simp only at this; omega, fun _ b => by have := (hT _ b).2; simp only at this; omega⟩

theorem ClJ.col {I : Nat} (h : ClJ O0 T0 O T I n 0) (hO : ∀ x ∈ O0, x.1 < n ∧ x.2 < n) (hT : ∀ x ∈ T0, x.1 < n ∧ x.2 < n) : ClJ O0 T0 O T (I + 1) 0 0 := fun i j k hl => by
  rcases Nat.lt_or_ge j n with hk | hk
  · exact h i j k (by unfold Lx3 at hl ⊢; omega)
  · exact ⟨fun a _ => by have := (hT _ a).2; simp only at this; omega, fun a _ => by have := (hO _ a).2; simp only at this; omega, fun a _ => by have := (hT _ a).2; simp only at this; omega, fun a _ => by have := (hO _ a).2; simp only at this; omega⟩

/-- where nothing more grows all is told -/
theorem Sg.toldJ (hq : QOk n l) (hr : ∀ i, i < n → (i, i) ∈ O) (hd : ∀ p ∈ l, DlJ p T T n) (hc : ClJ O T O T n 0 0) {b : Bool} {i x : Nat} (hs : Sg l n b i x) : if b = true then (i, x) ∈ T else (i, x) ∈ O := by
  have cl : ∀ i j k, i < n → ((i, j) ∈ T → (i, k) ∈ T → (j, k) ∈ O) ∧ ((i, j) ∈ O → (j, k) ∈ O → (i, k) ∈ O) ∧ ((i, j) ∈ T → (j, k) ∈ O → (i, k) ∈ T) ∧ ((i, j) ∈ O → (j, k) ∈ T → (i, k) ∈ T) := fun i j k hi => hc i j k (.inl hi)
  induction hs with
  | refl hi => exact hr _ hi
  | addr hp hk => exact (hd _ hp).1 hk
  | @copyF p x hp hk h1 ih => exact ((hd _ hp).2 (by omega) x (h1.lt hq).2 p.t p.f (by unfold AeJ; rw [if_neg (by omega)]) (by unfold BeJ; rw [if_neg (by omega)])).2 ih
  | @copyT p x hp hk h1 ih => exact ((hd _ hp).2 (by omega) x (h1.lt hq).2 p.t p.f (by unfold AeJ; rw [if_neg (by omega)]) (by unfold BeJ; rw [if_neg (by omega)])).1 ih
  | @loadF p j x hp hk h1 h2 ih1 ih2 => exact ((hd _ hp).2 (by omega) x (h2.lt hq).2 p.t j (by unfold AeJ; rw [if_neg (by omega)]) (by unfold BeJ; rw [if_pos hk]; exact ih1)).2 ih2
  | @loadT p j x hp hk h1 h2 ih1 ih2 => exact ((hd _ hp).2 (by omega) x (h2.lt hq).2 p.t j (by unfold AeJ; rw [if_neg (by omega)]) (by unfold BeJ; rw [if_pos hk]; exact ih1)).1 ih2
  | @storeF p i x hp hk h1 h2 ih1 ih2 => exact ((hd _ hp).2 (by omega) x (h2.lt hq).2 i p.f (by unfold AeJ; rw [if_pos hk]; exact ih1) (by unfold BeJ; rw [if_neg (by omega)])).2 ih2
  | @storeT p i x hp hk h1 h2 ih1 ih2 => exact ((hd _ hp).2 (by omega) x (h2.lt hq).2 i p.f (by unfold AeJ; rw [if_pos hk]; exact ih1) (by unfold BeJ; rw [if_neg (by omega)])).1 ih2
  | @one i j k h1 h2 ih1 ih2 => exact (cl i j k (h1.lt hq).1).1 ih1 ih2
  | @trans i j k h1 h2 ih1 ih2 => exact (cl i j k (h1.lt hq).1).2.1 ih1 ih2
  | @into i j k h1 h2 ih1 ih2 => exact (cl i j k (h1.lt hq).1).2.2.1 ih1 ih2
  | @from_ i j k h1 h2 ih1 ih2 => exact (cl i j k (h1.lt hq).1).2.2.2 ih1 ih2

end

/-- those to which a points, in order -/
def poL (T : Prs) (a : Nat) : Nat → List Nat
  | 0 => []
  | b + 1 => if (a, b) ∈ T then poL T a b ++ [b] else poL T a b

theorem poL_mem {T : Prs} {a j : Nat} : ∀ {b : Nat}, j ∈ poL T a b ↔ j < b ∧ (a, j) ∈ T
  | 0 => by simp [poL]
  | b + 1 => by
    have ih := poL_mem (T := T) (a := a) (j := j) (b := b)
    unfold poL
    by_cases h : (a, b) ∈ T
    · rw [if_pos h, List.mem_append, List.mem_singleton, ih]
      constructor
      · rintro (⟨h1, h2⟩ | rfl)
        · exact ⟨by omega, h2⟩
        · exact ⟨by omega, h⟩
      · rintro ⟨h1, h2⟩
        by_cases e : j = b
        · exact .inr e
        · exact .inl ⟨by omega, h2⟩
    · rw [if_neg h, ih]
      constructor
      · rintro ⟨h1, h2⟩; exact ⟨by omega, h2⟩
      · rintro ⟨h1, h2⟩
        by_cases e : j = b
        · subst e; exact absurd h2 h
        · exact ⟨by omega, h2⟩

theorem poL_len {T : Prs} {a : Nat} : ∀ b, (poL T a b).length ≤ b
  | 0 => Nat.le_refl _
  | b + 1 => by
    have := poL_len (T := T) (a := a) b
    unfold poL
    split
    · simp
      omega
    · omega

/-- a list as a word -/
def setOf : List Nat → Nat
  | [] => 0
  | x :: l => 2 ^ x ||| setOf l

theorem setOf_bit {l : List Nat} {j : Nat} : (setOf l).testBit j = true ↔ j ∈ l := by
  induction l with
  | nil => simp [setOf]
  | cons x l ih =>
    unfold setOf
    rw [Nat.testBit_or, Bool.or_eq_true, ih, Nat.testBit_two_pow, List.mem_cons]
    constructor
    · rintro (h | h)
      · exact .inl (by simpa using (by simpa using h : x = j).symm)
      · exact .inr h
    · rintro (rfl | h)
      · exact .inl (by simp)
      · exact .inr h

theorem setOf_lt {l : List Nat} (h : ∀ x ∈ l, x < 8) : setOf l < 256 := by
  refine Nat.lt_pow_two_of_testBit (n := 8) _ fun j hj => ?_
  cases e : (setOf l).testBit j with
  | false => rfl
  | true =>
    have := h j (setOf_bit.1 e)
    omega

end Go.Proofs.Ytfbnmgnkigfgpaa
