/-
  Plain mathematics of graphs that are folded (G2; HECHT, ULLMAN): the order does not matter; just the tame ones come down to one node: no program's text.
-/
import Derived.Test.YtfijkkllfbpepaaPureDeep
import Derived.Test.YtfijkkllfbpepaaPureRule
namespace Go.Proofs.Ytfijkkllfbpepaa
set_option linter.unusedSimpArgs false
set_option linter.unusedVariables false

/-- a graph that is being folded: its nodes; between two that differ, is there an edge? -/
structure Gf where
  V : List Nat
  E : Nat → Nat → Prop

/-- from 0 one comes here, without wo -/
inductive ReG (G : Gf) (wo : Int) : Nat → Prop
  | here : (0 : Int) ≠ wo → ReG G wo 0
  | step {x y : Nat} : ReG G wo x → x ≠ y → y ∈ G.V → G.E x y → (y : Int) ≠ wo → ReG G wo y

structure Gf.Ok (G : Gf) : Prop where
  nd : G.V.Nodup
  zero : 0 ∈ G.V
  rea : ∀ x ∈ G.V, ReG G (-1) x

/-- node i can be folded into p -/
structure Cl (G : Gf) (i p : Nat) : Prop where
  i0 : i ≠ 0
  iV : i ∈ G.V
  pV : p ∈ G.V
  ne : p ≠ i
  e : G.E p i
  one : ∀ q ∈ G.V, q ≠ i → G.E q i → q = p

/-- .. and G' is what comes of it -/
structure Stp (G G' : Gf) (i p : Nat) : Prop where
  cl : Cl G i p
  nd : G'.V.Nodup
  mem : ∀ x, x ∈ G'.V ↔ x ∈ G.V ∧ x ≠ i
  edge : ∀ x y, x ∈ G'.V → y ∈ G'.V → x ≠ y → (G'.E x y ↔ G.E x y ∨ (x = p ∧ G.E i y))

/-- k nodes are left at the end -/
inductive Red : Gf → Nat → Prop
  | stop {G : Gf} : (∀ i p, ¬ Cl G i p) → Red G G.V.length
  | step {G G' : Gf} {i p k : Nat} : Stp G G' i p → Red G' k → Red G k

/-- the same graph -/
structure Eqv (G H : Gf) : Prop where
  nd : H.V.Nodup
  mem : ∀ x, x ∈ G.V ↔ x ∈ H.V
  edge : ∀ x y, x ∈ G.V → y ∈ G.V → x ≠ y → (G.E x y ↔ H.E x y)

section
variable {G G' H : Gf} {i p : Nat}

theorem ReG.stop {wo : Int} {x : Nat} (h : ReG G wo x) : (x : Int) ≠ wo := by
  cases h with
  | here h => exact h
  | step _ _ _ _ h => exact h

theorem ReG.inV (h0 : 0 ∈ G.V) {wo : Int} {x : Nat} (h : ReG G wo x) : x ∈ G.V := by
  cases h with
  | here => exact h0
  | step _ _ h => exact h

theorem ReG.by_ {wo : Int} {x b : Nat} (h : ReG G wo x) : ReG G wo b ∨ ReG G (b : Int) x := by
  induction h with
  | here h =>
    by_cases e : 0 = b
    · subst e; exact .inl (.here h)
    · exact .inr (.here (by omega))
  | @step x y h1 h2 h3 h4 h5 ih =>
    rcases ih with ih | ih
    · exact .inl ih
    · by_cases e : y = b
      · subst e; exact .inl (h1.step h2 h3 h4 h5)
      · exact .inr (ih.step h2 h3 h4 (int_ne e))

/-- which of two one meets first -/
theorem ReG.first {x a b : Nat} (hab : a ≠ b) (h : ReG G (-1) x) : ReG G (b : Int) a ∨ ReG G (a : Int) b ∨ (ReG G (a : Int) x ∧ ReG G (b : Int) x) := by
  induction h with
  | here h =>
    by_cases e : 0 = a
    · subst e; exact .inl (.here (int_ne hab))
    · by_cases e2 : 0 = b
      · subst e2; exact .inr (.inl (.here (int_ne hab.symm)))
      · exact .inr (.inr ⟨.here (int_ne e), .here (int_ne e2)⟩)
  | @step j k h1 h2 h3 h4 h5 ih =>
    rcases ih with ih | ih | ⟨i1, i2⟩
    · exact .inl ih
    · exact .inr (.inl ih)
    · by_cases e : k = a
      · subst e; exact .inl (i2.step h2 h3 h4 (int_ne hab))
      · by_cases e2 : k = b
        · subst e2; exact .inr (.inl (i1.step h2 h3 h4 (int_ne e)))
        · exact .inr (.inr ⟨i1.step h2 h3 h4 (int_ne e), i2.step h2 h3 h4 (int_ne e2)⟩)

/-- to a node that can be folded one comes by its one predecessor -/
theorem Cl.via (hc : Cl G i p) (h0 : 0 ∈ G.V) {wo : Int} (h : ReG G wo i) : ReG G wo p := by
  generalize hx : i = x at h
  cases h with
  | here => exact absurd hx hc.i0
  | @step y z h1 h2 h3 h4 h5 =>
    subst hx
    have := hc.one y (h1.inV h0) h2 h4
    subst this
    exact h1

theorem Cl.not_via (hc : Cl G i p) (h0 : 0 ∈ G.V) : ¬ ReG G (p : Int) i := fun h => (hc.via h0 h).stop rfl

/-- one comes to the predecessor without the node -/
theorem Cl.pre (hc : Cl G i p) (h0 : 0 ∈ G.V) {x : Nat} (h : ReG G (-1) x) : ReG G (i : Int) x ∨ ReG G (i : Int) p := by
  induction h with
  | here => exact .inl (.here (by have := hc.i0; omega))
  | @step x y h1 h2 h3 h4 h5 ih =>
    rcases ih with ih | ih
    · by_cases e : y = i
      · subst e
        have := hc.one x (h1.inV h0) h2 h4
        subst this
        exact .inr ih
      · exact .inl (ih.step h2 h3 h4 (int_ne e))
    · exact .inr ih

theorem Stp.zero (hs : Stp G G' i p) (h0 : 0 ∈ G.V) : 0 ∈ G'.V := (hs.mem 0).2 ⟨h0, hs.cl.i0.symm⟩

theorem Stp.pV (hs : Stp G G' i p) : p ∈ G'.V := (hs.mem p).2 ⟨hs.cl.pV, hs.cl.ne⟩

/-- what one comes to stays, the folded node's place being taken by its predecessor's -/
theorem Stp.go (hs : Stp G G' i p) (h0 : 0 ∈ G.V) {wo : Int} {x : Nat} (h : ReG G wo x) : (x ≠ i → ReG G' wo x) ∧ (x = i → ReG G' wo p) := by
  induction h with
  | here h => exact ⟨fun _ => .here h, fun e => absurd e.symm hs.cl.i0⟩
  | @step x y h1 h2 h3 h4 h5 ih =>
    constructor
    · intro hy
      have hyV : y ∈ G'.V := (hs.mem y).2 ⟨h3, hy⟩
      by_cases hx : x = i
      · have hp := ih.2 hx
        by_cases e : y = p
        · subst e; exact hp
        · subst hx
          exact hp.step (Ne.symm e) hyV ((hs.edge p y hs.pV hyV (Ne.symm e)).2 (.inr ⟨rfl, h4⟩)) h5
      · have hxV : x ∈ G'.V := (hs.mem x).2 ⟨h1.inV h0, hx⟩
        exact (ih.1 hx).step h2 hyV ((hs.edge x y hxV hyV h2).2 (.inl h4)) h5
    · intro hy
      subst hy
      have := hs.cl.one x (h1.inV h0) h2 h4
      subst this
      exact ih.1 h2

theorem Stp.back (hs : Stp G G' i p) (h0 : 0 ∈ G.V) {wo : Int} (hw : (i : Int) ≠ wo) {x : Nat} (h : ReG G' wo x) : ReG G wo x := by
  induction h with
  | here h => exact .here h
  | @step x y h1 h2 h3 h4 h5 ih =>
    have hxV := h1.inV (hs.zero h0)
    obtain ⟨hyV, hyi⟩ := (hs.mem y).1 h3
    rcases (hs.edge x y hxV h3 h2).1 h4 with h | ⟨rfl, h⟩
    · exact ih.step h2 hyV h h5
    · exact (ih.step hs.cl.ne hs.cl.iV hs.cl.e hw).step (Ne.symm hyi) hyV h h5

theorem Stp.ok (hs : Stp G G' i p) (h : G.Ok) : G'.Ok :=
  ⟨hs.nd, hs.zero h.zero, fun x hx => (hs.go h.zero (h.rea x ((hs.mem x).1 hx).1)).1 ((hs.mem x).1 hx).2⟩

theorem set_len {l m : List Nat} (hl : l.Nodup) (hm : m.Nodup) (h : ∀ x, x ∈ l ↔ x ∈ m) : l.length = m.length := by
  have key : ∀ {l m : List Nat}, l.Nodup → (∀ x, x ∈ l → x ∈ m) → l.length ≤ m.length := by
    intro l
    induction l with
    | nil => intro m _ _; simp
    | cons a l ih =>
      intro m hd hs
      obtain ⟨h1, h2⟩ := List.nodup_cons.1 hd
      have ha : a ∈ m := hs a (List.mem_cons_self ..)
      have := ih (m := m.erase a) h2 fun x hx => by
        have hxa : x ≠ a := fun e => by subst e; exact h1 hx
        rw [List.mem_erase_of_ne hxa]
        exact hs x (List.mem_cons_of_mem _ hx)
      have hlen := List.length_erase_of_mem ha
      have := List.length_pos_of_mem ha
      simp
      omega
  exact Nat.le_antisymm (key hl fun x => (h x).1) (key hm fun x => (h x).2)

theorem Stp.len (hs : Stp G G' i p) (h : G.Ok) : G'.V.length + 1 = G.V.length := by
  have h1 : G'.V.length = (G.V.erase i).length := set_len hs.nd (h.nd.erase i) fun x => by
    rw [hs.mem, h.nd.mem_erase_iff]
    exact and_comm
  have h2 := List.length_erase_of_mem hs.cl.iV
  have := List.length_pos_of_mem hs.cl.iV
  omega

theorem Eqv.cl (he : Eqv G H) (h : Cl G i p) : Cl H i p :=
  ⟨h.i0, (he.mem i).1 h.iV, (he.mem p).1 h.pV, h.ne, (he.edge p i h.pV h.iV h.ne).1 h.e, fun q hq hqi hE => h.one q ((he.mem q).2 hq) hqi ((he.edge q i ((he.mem q).2 hq) h.iV hqi).2 hE)⟩

theorem Eqv.symm (hg : G.V.Nodup) (he : Eqv G H) : Eqv H G := ⟨hg, fun x => (he.mem x).symm, fun x y hx hy hne => (he.edge x y ((he.mem x).2 hx) ((he.mem y).2 hy) hne).symm⟩

theorem Eqv.stp (he : Eqv G H) (h : Stp G G' i p) : Stp H G' i p :=
  ⟨he.cl h.cl, h.nd, fun x => by rw [h.mem, he.mem], fun x y hx hy hne => by
    rw [h.edge x y hx hy hne]
    obtain ⟨hxG, hxi⟩ := (h.mem x).1 hx
    obtain ⟨hyG, hyi⟩ := (h.mem y).1 hy
    rw [he.edge x y hxG hyG hne, he.edge i y h.cl.iV hyG (Ne.symm hyi)]⟩

theorem Eqv.red (hg : G.V.Nodup) (he : Eqv G H) {k : Nat} (h : Red G k) : Red H k := by
  cases h with
  | stop hn =>
    rw [set_len hg he.nd he.mem]
    exact .stop fun i p hc => hn i p ((he.symm hg).cl hc)
  | step hs hr => exact .step (he.stp hs) hr

/-- a graph folded once -/
def Gf.fold (G : Gf) (i p : Nat) : Gf := ⟨G.V.erase i, fun x y => G.E x y ∨ (x = p ∧ G.E i y)⟩

theorem Cl.stp (hc : Cl G i p) (hn : G.V.Nodup) : Stp G (G.fold i p) i p :=
  ⟨hc, hn.erase i, fun x => by show x ∈ G.V.erase i ↔ _; rw [hn.mem_erase_iff]; exact and_comm, fun x y _ _ _ => Iff.rfl⟩

theorem red_ex : ∀ (n : Nat) (G : Gf), G.Ok → G.V.length ≤ n → ∃ k, Red G k
  | 0, G, h, hl => by have := List.length_pos_of_mem h.zero; omega
  | n + 1, G, h, hl => by
    by_cases hc : ∃ i p, Cl G i p
    · obtain ⟨i, p, hc⟩ := hc
      have hs := hc.stp h.nd
      obtain ⟨k, hk⟩ := red_ex n _ (hs.ok h) (by have := hs.len h; omega)
      exact ⟨k, .step hs hk⟩
    · exact ⟨_, .stop fun i p h => hc ⟨i, p, h⟩⟩

/-- two nodes, each the other's one predecessor: to them one does not come -/
theorem not_both (h : G.Ok) {i j : Nat} (h1 : Cl G i j) (h2 : Cl G j i) : False := by
  have : ∀ {x : Nat}, ReG G (-1) x → x ≠ i ∧ x ≠ j := by
    intro x hx
    induction hx with
    | here => exact ⟨h1.i0.symm, h2.i0.symm⟩
    | @step x y g1 g2 g3 g4 g5 ih =>
      constructor
      · intro e
        subst e
        exact ih.2 (h1.one x (g1.inV h.zero) g2 g4)
      · intro e
        subst e
        exact ih.1 (h2.one x (g1.inV h.zero) g2 g4)
  exact (this (h.rea i h1.iV)).1 rfl

/-- another node can still be folded -/
theorem Stp.other (hs : Stp G G' i p) (h : G.Ok) {j q : Nat} (hc : Cl G j q) (hij : j ≠ i) : Cl G' j (if q = i then p else q) := by
  have hjV : j ∈ G'.V := (hs.mem j).2 ⟨hc.iV, hij⟩
  by_cases hq : q = i
  · subst hq
    rw [if_pos rfl]
    have hpj : p ≠ j := fun e => by subst e; exact not_both h hs.cl hc
    refine ⟨hc.i0, hjV, hs.pV, hpj, (hs.edge p j hs.pV hjV hpj).2 (.inr ⟨rfl, hc.e⟩), fun r hr hrj hE => ?_⟩
    obtain ⟨hrV, hri⟩ := (hs.mem r).1 hr
    rcases (hs.edge r j hr hjV hrj).1 hE with h1 | ⟨h1, _⟩
    · exact absurd (hc.one r hrV hrj h1) hri
    · exact h1
  · rw [if_neg hq]
    have hqV : q ∈ G'.V := (hs.mem q).2 ⟨hc.pV, hq⟩
    refine ⟨hc.i0, hjV, hqV, hc.ne, (hs.edge q j hqV hjV hc.ne).2 (.inl hc.e), fun r hr hrj hE => ?_⟩
    obtain ⟨hrV, hri⟩ := (hs.mem r).1 hr
    rcases (hs.edge r j hr hjV hrj).1 hE with h1 | ⟨h1, h2⟩
    · exact hc.one r hrV hrj h1
    · exact absurd (hc.one i hs.cl.iV (Ne.symm hij) h2) (Ne.symm hq)

/-- folded one way round or the other: the same -/
theorem fold_comm (h : G.Ok) {j q : Nat} (h1 : Cl G i p) (h2 : Cl G j q) (hij : i ≠ j) :
    Eqv ((G.fold i p).fold j (if q = i then p else q)) ((G.fold j q).fold i (if p = j then q else p)) := by
  have ei : ¬ G.E j i ∨ p = j := by
    by_cases e : G.E j i
    · exact .inr (h1.one j h2.iV (Ne.symm hij) e).symm
    · exact .inl e
  have ej : ¬ G.E i j ∨ q = i := by
    by_cases e : G.E i j
    · exact .inr (h2.one i h1.iV hij e).symm
    · exact .inl e
  have hnb : ¬ (p = j ∧ q = i) := fun ⟨e1, e2⟩ => by subst e1 e2; exact not_both h h1 h2
  refine ⟨(h.nd.erase j).erase i, fun x => ?_, fun x y hx hy hne => ?_⟩
  · show x ∈ (G.V.erase i).erase j ↔ x ∈ (G.V.erase j).erase i
    rw [(h.nd.erase i).mem_erase_iff, (h.nd.erase j).mem_erase_iff, h.nd.mem_erase_iff, h.nd.mem_erase_iff]
    exact and_left_comm
  · have hx' : x ≠ j ∧ x ≠ i := by
      change x ∈ (G.V.erase i).erase j at hx
      rw [(h.nd.erase i).mem_erase_iff, h.nd.mem_erase_iff] at hx
      exact ⟨hx.1, hx.2.1⟩
    have hy' : y ≠ j ∧ y ≠ i := by
      change y ∈ (G.V.erase i).erase j at hy
      rw [(h.nd.erase i).mem_erase_iff, h.nd.mem_erase_iff] at hy
      exact ⟨hy.1, hy.2.1⟩
    show ((G.E x y ∨ (x = p ∧ G.E i y)) ∨ (x = (if q = i then p else q) ∧ (G.E j y ∨ (j = p ∧ G.E i y)))) ↔ ((G.E x y ∨ (x = q ∧ G.E j y)) ∨ (x = (if p = j then q else p) ∧ (G.E i y ∨ (i = q ∧ G.E j y))))
    by_cases hq : q = i
    · have hp : p ≠ j := fun e => hnb ⟨e, hq⟩
      rw [if_pos hq, if_neg hp]
      subst hq
      constructor
      · rintro ((g | ⟨g1, g2⟩) | ⟨g1, g2 | ⟨g2, _⟩⟩)
        · exact .inl (.inl g)
        · exact .inr ⟨g1, .inl g2⟩
        · exact .inr ⟨g1, .inr ⟨rfl, g2⟩⟩
        · exact absurd g2.symm hp
      · rintro ((g | ⟨g1, g2⟩) | ⟨g1, g2 | ⟨_, g2⟩⟩)
        · exact .inl (.inl g)
        · exact absurd g1 hx'.2
        · exact .inl (.inr ⟨g1, g2⟩)
        · exact .inr ⟨g1, .inl g2⟩
    · by_cases hp : p = j
      · rw [if_neg hq, if_pos hp]
        subst hp
        constructor
        · rintro ((g | ⟨g1, g2⟩) | ⟨g1, g2 | ⟨_, g2⟩⟩)
          · exact .inl (.inl g)
          · exact absurd g1 hx'.1
          · exact .inl (.inr ⟨g1, g2⟩)
          · exact .inr ⟨g1, .inl g2⟩
        · rintro ((g | ⟨g1, g2⟩) | ⟨g1, g2 | ⟨g2, _⟩⟩)
          · exact .inl (.inl g)
          · exact .inr ⟨g1, .inl g2⟩
          · exact .inr ⟨g1, .inr ⟨rfl, g2⟩⟩
          · exact absurd g2.symm hq
      · rw [if_neg hq, if_neg hp]
        constructor
        · rintro ((g | ⟨g1, g2⟩) | ⟨g1, g2 | ⟨g2, _⟩⟩)
          · exact .inl (.inl g)
          · exact .inr ⟨g1, .inl g2⟩
          · exact .inl (.inr ⟨g1, g2⟩)
          · exact absurd g2.symm hp
        · rintro ((g | ⟨g1, g2⟩) | ⟨g1, g2 | ⟨g2, _⟩⟩)
          · exact .inl (.inl g)
          · exact .inr ⟨g1, .inl g2⟩
          · exact .inl (.inr ⟨g1, g2⟩)
          · exact absurd g2.symm hq

theorem Stp.eqv (hs : Stp G G' i p) (h : G.Ok) : Eqv G' (G.fold i p) :=
  ⟨h.nd.erase i, fun x => by rw [hs.mem]; show _ ↔ x ∈ G.V.erase i; rw [h.nd.mem_erase_iff]; exact and_comm, fun x y hx hy hne => hs.edge x y hx hy hne⟩

/-- HECHT, ULLMAN: the order does not matter -/
theorem red_one : ∀ (n : Nat) (G : Gf), G.Ok → G.V.length ≤ n → ∀ k k', Red G k → Red G k' → k = k'
  | 0, G, h, hl, _, _, _, _ => by have := List.length_pos_of_mem h.zero; omega
  | n + 1, G, h, hl, k, k', h1, h2 => by
    cases h1 with
    | stop hn =>
      cases h2 with
      | stop _ => rfl
      | step hs _ => exact absurd hs.cl (hn _ _)
    | @step _ G1 i p _ hs1 hr1 =>
      cases h2 with
      | stop hn => exact absurd hs1.cl (hn _ _)
      | @step _ G2 j q _ hs2 hr2 =>
        have hF1 := hs1.cl.stp h.nd
        have hF2 := hs2.cl.stp h.nd
        have hl1 := hF1.len h
        have hl2 := hF2.len h
        have r1 : Red (G.fold i p) k := (hs1.eqv h).red hs1.nd hr1
        have r2 : Red (G.fold j q) k' := (hs2.eqv h).red hs2.nd hr2
        by_cases hij : i = j
        · subst hij
          have hpq : q = p := hs1.cl.one q hs2.cl.pV hs2.cl.ne hs2.cl.e
          subst hpq
          exact red_one n _ (hF1.ok h) (by omega) _ _ r1 r2
        · have c1 := hF1.other h hs2.cl (Ne.symm hij)
          have c2 := hF2.other h hs1.cl hij
          have s1 := c1.stp hF1.nd
          have s2 := c2.stp hF2.nd
          have ok3 := s1.ok (hF1.ok h)
          obtain ⟨k3, hk3⟩ := red_ex _ _ ok3 (Nat.le_refl _)
          have he := fold_comm h hs1.cl hs2.cl hij
          have hk4 := he.red ok3.nd hk3
          have e1 := red_one n _ (hF1.ok h) (by omega) _ _ r1 (.step s1 hk3)
          have e2 := red_one n _ (hF2.ok h) (by omega) _ _ r2 (.step s2 hk4)
          omega

/-! ### Tame -/

/-- a numbering that all edges follow but those back to a node that dominates -/
def TmG (G : Gf) : Prop := ∃ num : Nat → Nat, ∀ a b, a ∈ G.V → b ∈ G.V → a ≠ b → G.E a b → num a < num b ∨ ¬ ReG G (b : Int) a

theorem Stp.dom (hs : Stp G G' i p) (h0 : 0 ∈ G.V) {a b : Nat} (ha : a ≠ i) (hb : b ≠ i) : ReG G' (b : Int) a ↔ ReG G (b : Int) a :=
  ⟨fun h => hs.back h0 (int_ne (Ne.symm hb)) h, fun h => (hs.go h0 h).1 ha⟩

theorem Stp.tame (hs : Stp G G' i p) (h : G.Ok) : TmG G ↔ TmG G' := by
  have h0 := h.zero
  constructor
  · rintro ⟨num, hnum⟩
    refine ⟨num, fun a b ha hb hne hE => ?_⟩
    obtain ⟨haV, hai⟩ := (hs.mem a).1 ha
    obtain ⟨hbV, hbi⟩ := (hs.mem b).1 hb
    rw [hs.dom h0 hai hbi]
    rcases (hs.edge a b ha hb hne).1 hE with g | ⟨rfl, g⟩
    · exact hnum a b haV hbV hne g
    · have hpi : num a < num i := by
        rcases hnum a i haV hs.cl.iV hs.cl.ne hs.cl.e with g' | g'
        · exact g'
        · exact absurd ((hs.cl.pre h0 (h.rea a haV)).elim id id) g'
      rcases hnum i b hs.cl.iV hbV (Ne.symm hbi) g with g' | g'
      · exact .inl (by omega)
      · exact .inr fun hr => g' (hr.step hs.cl.ne hs.cl.iV hs.cl.e (int_ne (Ne.symm hbi)))
  · rintro ⟨num, hnum⟩
    refine ⟨fun x => if x = i then 2 * num p + 1 else 2 * num x, fun a b ha hb hne hE => ?_⟩
    simp only []
    by_cases hbi : b = i
    · subst hbi
      have hap := hs.cl.one a ha hne hE
      subst hap
      left
      rw [if_neg hne, if_pos rfl]
      omega
    · have hb' : b ∈ G'.V := (hs.mem b).2 ⟨hb, hbi⟩
      by_cases hai : a = i
      · subst hai
        by_cases hbp : b = p
        · subst hbp
          exact .inr (hs.cl.not_via h0)
        · rw [if_pos rfl, if_neg hbi]
          rcases hnum p b hs.pV hb' (Ne.symm hbp) ((hs.edge p b hs.pV hb' (Ne.symm hbp)).2 (.inr ⟨rfl, hE⟩)) with g | g
          · exact .inl (by omega)
          · right
            rw [hs.dom h0 hs.cl.ne hbi] at g
            exact fun hr => g (hs.cl.via h0 hr)
      · have ha' : a ∈ G'.V := (hs.mem a).2 ⟨ha, hai⟩
        rw [if_neg hai, if_neg hbi]
        rcases hnum a b ha' hb' hne ((hs.edge a b ha' hb' hne).2 (.inl hE)) with g | g
        · exact .inl (by omega)
        · exact .inr (by rwa [hs.dom h0 hai hbi] at g)

theorem min_num (num : Nat → Nat) {P : Nat → Prop} (h : ∃ x, P x) : ∃ x, P x ∧ ∀ y, P y → num x ≤ num y := by
  obtain ⟨x, hx⟩ := h
  have : ∀ n x, P x → num x ≤ n → ∃ x, P x ∧ ∀ y, P y → num x ≤ num y := by
    intro n
    induction n with
    | zero => intro x hx hn; exact ⟨x, hx, fun y _ => by omega⟩
    | succ n ih =>
      intro x hx hn
      by_cases hy : ∃ y, P y ∧ num y < num x
      · obtain ⟨y, h1, h2⟩ := hy
        exact ih y h1 (by omega)
      · exact ⟨x, hx, fun y hpy => Nat.le_of_not_lt fun hlt => hy ⟨y, hpy, hlt⟩⟩
  exact this _ x hx (Nat.le_refl _)

/-- to a node other than 0 one comes from another one -/
theorem ReG.pred {wo : Int} {x : Nat} (h : ReG G wo x) (hx : x ≠ 0) : ∃ y, ReG G wo y ∧ y ≠ x ∧ G.E y x := by
  cases h with
  | here => exact absurd rfl hx
  | step h1 h2 _ h4 _ => exact ⟨_, h1, h2, h4⟩

/-- a tame graph in which nothing can be folded has no node below another one -/
theorem no_below (h : G.Ok) (ht : TmG G) (hn : ∀ i p, ¬ Cl G i p) : ∀ (n : Nat) (l : List Nat) (a : Nat), l.length ≤ n → a ∈ G.V → (∀ x ∈ G.V, x ≠ a → ¬ ReG G (a : Int) x → x ∈ l) → ∀ x ∈ G.V, x ≠ a → ReG G (a : Int) x := by
  obtain ⟨num, hnum⟩ := ht
  intro n
  induction n with
  | zero =>
    intro l a hl _ hcov x hx hxa
    refine Classical.byContradiction fun hr => ?_
    have := List.length_pos_of_mem (hcov x hx hxa hr)
    omega
  | succ n ih =>
    intro l a hl haV hcov x0 hx0 hxa0
    refine Classical.byContradiction fun hr0 => ?_
    obtain ⟨x, ⟨hxV, hxa, hxr⟩, hmin⟩ := min_num num (P := fun x => x ∈ G.V ∧ x ≠ a ∧ ¬ ReG G (a : Int) x) ⟨x0, hx0, hxa0, hr0⟩
    have hx00 : x ≠ 0 := fun e => by
      subst e
      exact hxr (.here (int_ne hxa))
    obtain ⟨y, hy, hyx, hE⟩ := (h.rea x hxV).pred hx00
    have hyV := hy.inV h.zero
    have hpre : ∀ q ∈ G.V, q ≠ x → G.E q x → q = a := by
      intro q hqV hqx hqE
      refine Classical.byContradiction fun hqa => ?_
      have hqr : ¬ ReG G (a : Int) q := fun hr => hxr (hr.step hqx hxV hqE (int_ne hxa))
      have h1 := hmin q ⟨hqV, hqa, hqr⟩
      rcases hnum q x hqV hxV hqx hqE with g | g
      · omega
      · have hxl := hcov x hxV hxa hxr
        have hle := List.length_erase_of_mem hxl
        have hpos := List.length_pos_of_mem hxl
        refine g (ih (l.erase x) x (by omega) hxV (fun z hzV hzx hzr => ?_) q hqV hqx)
        rw [List.mem_erase_of_ne hzx]
        refine hcov z hzV (fun e => ?_) (fun hr => ?_)
        · subst e
          rcases ReG.first hzx (h.rea z hzV) with g1 | g1 | ⟨g1, _⟩
          · exact hzr g1
          · exact hxr g1
          · exact g1.stop rfl
        · rcases hr.by_ (b := x) with g1 | g1
          · exact hxr g1
          · exact hzr g1
    have hya := hpre y hyV hyx hE
    subst hya
    exact hn x y ⟨hx00, hxV, hyV, hyx, hE, hpre⟩

end

end Go.Proofs.Ytfijkkllfbpepaa
