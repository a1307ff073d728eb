/-
  Several texts in one: PureShrink, PureLoop, PureHang, PureExit, PureGather.
-/
import Derived.Test.YtfhnhbkdhdocjaaMPure

/-
  Plain mathematics of graphs that are folded (G2; HECHT, ULLMAN): the order does not matter; just the tame ones come down to one node: no program's text.
-/

namespace Go.Proofs.Ytfhnhbkdhdocjaa
set_option linter.unusedSimpArgs false
set_option linter.unusedVariables false

/-- a graph that is being folded: its nodes; between two that differ, is there an edge? -/
structure Gf where
  V : List Nat
  E : Nat → Nat → Prop

/-- from 0 one comes here, without wo -/
inductive ReG (G : Gf) (wo : Int) : Nat → Prop
  | here : (0 : Int) ≠ wo → ReG G wo 0
  | step {x y : Nat} : ReG G wo x → x ≠ y → y ∈ G.V → G.E x y → (y : Int) ≠ wo → ReG G wo y

structure Gf.Ok (G : Gf) : Prop where
  nd : G.V.Nodup
  zero : 0 ∈ G.V
  rea : ∀ x ∈ G.V, ReG G (-1) x

/-- node i can be folded into p -/
structure Cl (G : Gf) (i p : Nat) : Prop where
  i0 : i ≠ 0
  iV : i ∈ G.V
  pV : p ∈ G.V
  ne : p ≠ i
  e : G.E p i
  one : ∀ q ∈ G.V, q ≠ i → G.E q i → q = p

/-- .. and G' is what comes of it -/
structure Stp (G G' : Gf) (i p : Nat) : Prop where
  cl : Cl G i p
  nd : G'.V.Nodup
  mem : ∀ x, x ∈ G'.V ↔ x ∈ G.V ∧ x ≠ i
  edge : ∀ x y, x ∈ G'.V → y ∈ G'.V → x ≠ y → (G'.E x y ↔ G.E x y ∨ (x = p ∧ G.E i y))

/-- k nodes are left at the end -/
inductive Red : Gf → Nat → Prop
  | stop {G : Gf} : (∀ i p, ¬ Cl G i p) → Red G G.V.length
  | step {G G' : Gf} {i p k : Nat} : Stp G G' i p → Red G' k → Red G k

/-- the same graph -/
structure Eqv (G H : Gf) : Prop where
  nd : H.V.Nodup
  mem : ∀ x, x ∈ G.V ↔ x ∈ H.V
  edge : ∀ x y, x ∈ G.V → y ∈ G.V → x ≠ y → (G.E x y ↔ H.E x y)

section
variable {G G' H : Gf} {i p : Nat}

theorem ReG.stop {wo : Int} {x : Nat} (h : ReG G wo x) : (x : Int) ≠ wo := by
  cases h with
  | here h => exact h
  | step _ _ _ _ h => exact h

theorem ReG.inV (h0 : 0 ∈ G.V) {wo : Int} {x : Nat} (h : ReG G wo x) : x ∈ G.V := by
  cases h with
  | here => exact h0
  | step _ _ h => exact h

theorem ReG.by_ {wo : Int} {x b : Nat} (h : ReG G wo x) : ReG G wo b ∨ ReG G (b : Int) x := by
  induction h with
  | here h =>
    by_cases e : 0 = b
    · subst e; exact .inl (.here h)
    · exact .inr (.here (by omega))
  | @step x y h1 h2 h3 h4 h5 ih =>
    rcases ih with ih | ih
    · exact .inl ih
    · by_cases e : y = b
      · subst e; exact .inl (h1.step h2 h3 h4 h5)
      · exact .inr (ih.step h2 h3 h4 (int_ne e))

/-- which of two one meets first -/
theorem ReG.first {x a b : Nat} (hab : a ≠ b) (h : ReG G (-1) x) : ReG G (b : Int) a ∨ ReG G (a : Int) b ∨ (ReG G (a : Int) x ∧ ReG G (b : Int) x) := by
  induction h with
  | here h =>
    by_cases e : 0 = a
    · subst e; exact .inl (.here (int_ne hab))
    · by_cases e2 : 0 = b
      · subst e2; exact .inr (.inl (.here (int_ne hab.symm)))
      · exact .inr (.inr ⟨.here (int_ne e), .here (int_ne e2)⟩)
  | @step j k h1 h2 h3 h4 h5 ih =>
    rcases ih with ih | ih | ⟨i1, i2⟩
    · exact .inl ih
    · exact .inr (.inl ih)
    · by_cases e : k = a
      · subst e; exact .inl (i2.step h2 h3 h4 (int_ne hab))
      · by_cases e2 : k = b
        · subst e2; exact .inr (.inl (i1.step h2 h3 h4 (int_ne e)))
        · exact .inr (.inr ⟨i1.step h2 h3 h4 (int_ne e), i2.step h2 h3 h4 (int_ne e2)⟩)

/-- to a node that can be folded one comes by its one predecessor -/
theorem Cl.via (hc : Cl G i p) (h0 : 0 ∈ G.V) {wo : Int} (h : ReG G wo i) : ReG G wo p := by
  generalize hx : i = x at h
  cases h with
  | here => exact absurd hx hc.i0
  | @step y z h1 h2 h3 h4 h5 =>
    subst hx
    have := hc.one y (h1.inV h0) h2 h4
    subst this
    exact h1

theorem Cl.not_via (hc : Cl G i p) (h0 : 0 ∈ G.V) : ¬ ReG G (p : Int) i := fun h => (hc.via h0 h).stop rfl

/-- one comes to the predecessor without the node -/
theorem Cl.pre (hc : Cl G i p) (h0 : 0 ∈ G.V) {x : Nat} (h : ReG G (-1) x) : ReG G (i : Int) x ∨ ReG G (i : Int) p := by
  induction h with
  | here => exact .inl (.here (by have := hc.i0; omega))
  | @step x y h1 h2 h3 h4 h5 ih =>
    rcases ih with ih | ih
    · by_cases e : y = i
      · subst e
        have := hc.one x (h1.inV h0) h2 h4
        subst this
        exact .inr ih
      · exact .inl (ih.step h2 h3 h4 (int_ne e))
    · exact .inr ih

theorem Stp.zero (hs : Stp G G' i p) (h0 : 0 ∈ G.V) : 0 ∈ G'.V := (hs.mem 0).2 ⟨h0, hs.cl.i0.symm⟩

theorem Stp.pV (hs : Stp G G' i p) : p ∈ G'.V := (hs.mem p).2 ⟨hs.cl.pV, hs.cl.ne⟩

/-- what one comes to stays, the folded node's place being taken by its predecessor's -/
theorem Stp.go (hs : Stp G G' i p) (h0 : 0 ∈ G.V) {wo : Int} {x : Nat} (h : ReG G wo x) : (x ≠ i → ReG G' wo x) ∧ (x = i → ReG G' wo p) := by
  induction h with
  | here h => exact ⟨fun _ => .here h, fun e => absurd e.symm hs.cl.i0⟩
  | @step x y h1 h2 h3 h4 h5 ih =>
    constructor
    · intro hy
      have hyV : y ∈ G'.V := (hs.mem y).2 ⟨h3, hy⟩
      by_cases hx : x = i
      · have hp := ih.2 hx
        by_cases e : y = p
        · subst e; exact hp
        · subst hx
          exact hp.step (Ne.symm e) hyV ((hs.edge p y hs.pV hyV (Ne.symm e)).2 (.inr ⟨rfl, h4⟩)) h5
      · have hxV : x ∈ G'.V := (hs.mem x).2 ⟨h1.inV h0, hx⟩
        exact (ih.1 hx).step h2 hyV ((hs.edge x y hxV hyV h2).2 (.inl h4)) h5
    · intro hy
      subst hy
      have := hs.cl.one x (h1.inV h0) h2 h4
      subst this
      exact ih.1 h2

theorem Stp.back (hs : Stp G G' i p) (h0 : 0 ∈ G.V) {wo : Int} (hw : (i : Int) ≠ wo) {x : Nat} (h : ReG G' wo x) : ReG G wo x := by
  induction h with
  | here h => exact .here h
  | @step x y h1 h2 h3 h4 h5 ih =>
    have hxV := h1.inV (hs.zero h0)
    obtain ⟨hyV, hyi⟩ := (hs.mem y).1 h3
    rcases (hs.edge x y hxV h3 h2).1 h4 with h | ⟨rfl, h⟩
    · exact ih.step h2 hyV h h5
    · exact (ih.step hs.cl.ne hs.cl.iV hs.cl.e hw).step (Ne.symm hyi) hyV h h5

theorem Stp.ok (hs : Stp G G' i p) (h : G.Ok) : G'.Ok :=
  ⟨hs.nd, hs.zero h.zero, fun x hx => (hs.go h.zero (h.rea x ((hs.mem x).1 hx).1)).1 ((hs.mem x).1 hx).2⟩

theorem set_len {l m : List Nat} (hl : l.Nodup) (hm : m.Nodup) (h : ∀ x, x ∈ l ↔ x ∈ m) : l.length = m.length := by
  have key : ∀ {l m : List Nat}, l.Nodup → (∀ x, x ∈ l → x ∈ m) → l.length ≤ m.length := by
    intro l
    induction l with
    | nil => intro m _ _; simp
    | cons a l ih =>
      intro m hd hs
      obtain ⟨h1, h2⟩ := List.nodup_cons.1 hd
      have ha : a ∈ m := hs a (List.mem_cons_self ..)
      have := ih (m := m.erase a) h2 fun x hx => by
        have hxa : x ≠ a := fun e => by subst e; exact h1 hx
        rw [List.mem_erase_of_ne hxa]
        exact hs x (List.mem_cons_of_mem _ hx)
      have hlen := List.length_erase_of_mem ha
      have := List.length_pos_of_mem ha
      simp
      omega
  exact Nat.le_antisymm (key hl fun x => (h x).1) (key hm fun x => (h x).2)

theorem Stp.len (hs : Stp G G' i p) (h : G.Ok) : G'.V.length + 1 = G.V.length := by
  have h1 : G'.V.length = (G.V.erase i).length := set_len hs.nd (h.nd.erase i) fun x => by
    rw [hs.mem, h.nd.mem_erase_iff]
    exact and_comm
  have h2 := List.length_erase_of_mem hs.cl.iV
  have := List.length_pos_of_mem hs.cl.iV
  omega

theorem Eqv.cl (he : Eqv G H) (h : Cl G i p) : Cl H i p :=
  ⟨h.i0, (he.mem i).1 h.iV, (he.mem p).1 h.pV, h.ne, (he.edge p i h.pV h.iV h.ne).1 h.e, fun q hq hqi hE => h.one q ((he.mem q).2 hq) hqi ((he.edge q i ((he.mem q).2 hq) h.iV hqi).2 hE)⟩

theorem Eqv.symm (hg : G.V.Nodup) (he : Eqv G H) : Eqv H G := ⟨hg, fun x => (he.mem x).symm, fun x y hx hy hne => (he.edge x y ((he.mem x).2 hx) ((he.mem y).2 hy) hne).symm⟩

theorem Eqv.stp (he : Eqv G H) (h : Stp G G' i p) : Stp H G' i p :=
  ⟨he.cl h.cl, h.nd, fun x => by rw [h.mem, he.mem], fun x y hx hy hne => by
    rw [h.edge x y hx hy hne]
    obtain ⟨hxG, hxi⟩ := (h.mem x).1 hx
    obtain ⟨hyG, hyi⟩ := (h.mem y).1 hy
    rw [he.edge x y hxG hyG hne, he.edge i y h.cl.iV hyG (Ne.symm hyi)]⟩

theorem Eqv.red (hg : G.V.Nodup) (he : Eqv G H) {k : Nat} (h : Red G k) : Red H k := by
  cases h with
  | stop hn =>
    rw [set_len hg he.nd he.mem]
    exact .stop fun i p hc => hn i p ((he.symm hg).cl hc)
  | step hs hr => exact .step (he.stp hs) hr

/-- a graph folded once -/
def Gf.fold (G : Gf) (i p : Nat) : Gf := ⟨G.V.erase i, fun x y => G.E x y ∨ (x = p ∧ G.E i y)⟩

theorem Cl.stp (hc : Cl G i p) (hn : G.V.Nodup) : Stp G (G.fold i p) i p :=
  ⟨hc, hn.erase i, fun x => by show x ∈ G.V.erase i ↔ _; rw [hn.mem_erase_iff]; exact and_comm, fun x y _ _ _ => Iff.rfl⟩

theorem red_ex : ∀ (n : Nat) (G : Gf), G.Ok → G.V.length ≤ n → ∃ k, Red G k
  | 0, G, h, hl => by have := List.length_pos_of_mem h.zero; omega
  | n + 1, G, h, hl => by
    by_cases hc : ∃ i p, Cl G i p
    · obtain ⟨i, p, hc⟩ := hc
      have hs := hc.stp h.nd
      obtain ⟨k, hk⟩ := red_ex n _ (hs.ok h) (by have := hs.len h; omega)
      exact ⟨k, .step hs hk⟩
    · exact ⟨_, .stop fun i p h => hc ⟨i, p, h⟩⟩

/-- two nodes, each the other's one predecessor: to them one does not come -/
theorem not_both (h : G.Ok) {i j : Nat} (h1 : Cl G i j) (h2 : Cl G j i) : False := by
  have : ∀ {x : Nat}, ReG G (-1) x → x ≠ i ∧ x ≠ j := by
    intro x hx
    induction hx with
    | here => exact ⟨h1.i0.symm, h2.i0.symm⟩
    | @step x y g1 g2 g3 g4 g5 ih =>
      constructor
      · intro e
        subst e
        exact ih.2 (h1.one x (g1.inV h.zero) g2 g4)
      · intro e
        subst e
        exact ih.1 (h2.one x (g1.inV h.zero) g2 g4)
  exact (this (h.rea i h1.iV)).1 rfl

/-- another node can still be folded -/
theorem Stp.other (hs : Stp G G' i p) (h : G.Ok) {j q : Nat} (hc : Cl G j q) (hij : j ≠ i) : Cl G' j (if q = i then p else q) := by
  have hjV : j ∈ G'.V := (hs.mem j).2 ⟨hc.iV, hij⟩
  by_cases hq : q = i
  · subst hq
    rw [if_pos rfl]
    have hpj : p ≠ j := fun e => by subst e; exact not_both h hs.cl hc
    refine ⟨hc.i0, hjV, hs.pV, hpj, (hs.edge p j hs.pV hjV hpj).2 (.inr ⟨rfl, hc.e⟩), fun r hr hrj hE => ?_⟩
    obtain ⟨hrV, hri⟩ := (hs.mem r).1 hr
    rcases (hs.edge r j hr hjV hrj).1 hE with h1 | ⟨h1, _⟩
    · exact absurd (hc.one r hrV hrj h1) hri
    · exact h1
  · rw [if_neg hq]
    have hqV : q ∈ G'.V := (hs.mem q).2 ⟨hc.pV, hq⟩
    refine ⟨hc.i0, hjV, hqV, hc.ne, (hs.edge q j hqV hjV hc.ne).2 (.inl hc.e), fun r hr hrj hE => ?_⟩
    obtain ⟨hrV, hri⟩ := (hs.mem r).1 hr
    rcases (hs.edge r j hr hjV hrj).1 hE with h1 | ⟨h1, h2⟩
    · exact hc.one r hrV hrj h1
    · exact absurd (hc.one i hs.cl.iV (Ne.symm hij) h2) (Ne.symm hq)

/-- folded one way round or the other: the same -/
theorem fold_comm (h : G.Ok) {j q : Nat} (h1 : Cl G i p) (h2 : Cl G j q) (hij : i ≠ j) :
    Eqv ((G.fold i p).fold j (if q = i then p else q)) ((G.fold j q).fold i (if p = j then q else p)) := by
  have ei : ¬ G.E j i ∨ p = j := by
    by_cases e : G.E j i
    · exact .inr (h1.one j h2.iV (Ne.symm hij) e).symm
    · exact .inl e
  have ej : ¬ G.E i j ∨ q = i := by
    by_cases e : G.E i j
    · exact .inr (h2.one i h1.iV hij e).symm
    · exact .inl e
  have hnb : ¬ (p = j ∧ q = i) := fun ⟨e1, e2⟩ => by subst e1 e2; exact not_both h h1 h2
  refine ⟨(h.nd.erase j).erase i, fun x => ?_, fun x y hx hy hne => ?_⟩
  · show x ∈ (G.V.erase i).erase j ↔ x ∈ (G.V.erase j).erase i
    rw [(h.nd.erase i).mem_erase_iff, (h.nd.erase j).mem_erase_iff, h.nd.mem_erase_iff, h.nd.mem_erase_iff]
    exact and_left_comm
  · have hx' : x ≠ j ∧ x ≠ i := by
      change x ∈ (G.V.erase i).erase j at hx
      rw [(h.nd.erase i).mem_erase_iff, h.nd.mem_erase_iff] at hx
      exact ⟨hx.1, hx.2.1⟩
    have hy' : y ≠ j ∧ y ≠ i := by
      change y ∈ (G.V.erase i).erase j at hy
      rw [(h.nd.erase i).mem_erase_iff, h.nd.mem_erase_iff] at hy
      exact ⟨hy.1, hy.2.1⟩
    show ((G.E x y ∨ (x = p ∧ G.E i y)) ∨ (x = (if q = i then p else q) ∧ (G.E j y ∨ (j = p ∧ G.E i y)))) ↔ ((G.E x y ∨ (x = q ∧ G.E j y)) ∨ (x = (if p = j then q else p) ∧ (G.E i y ∨ (i = q ∧ G.E j y))))
    by_cases hq : q = i
    · have hp : p ≠ j := fun e => hnb ⟨e, hq⟩
      rw [if_pos hq, if_neg hp]
      subst hq
      constructor
      · rintro ((g | ⟨g1, g2⟩) | ⟨g1, g2 | ⟨g2, _⟩⟩)
        · exact .inl (.inl g)
        · exact .inr ⟨g1, .inl g2⟩
        · exact .inr ⟨g1, .inr ⟨rfl, g2⟩⟩
        · exact absurd g2.symm hp
      · rintro ((g | ⟨g1, g2⟩) | ⟨g1, g2 | ⟨_, g2⟩⟩)
        · exact .inl (.inl g)
        · exact absurd g1 hx'.2
        · exact .inl (.inr ⟨g1, g2⟩)
        · exact .inr ⟨g1, .inl g2⟩
    · by_cases hp : p = j
      · rw [if_neg hq, if_pos hp]
        subst hp
        constructor
        · rintro ((g | ⟨g1, g2⟩) | ⟨g1, g2 | ⟨_, g2⟩⟩)
          · exact .inl (.inl g)
          · exact absurd g1 hx'.1
          · exact .inl (.inr ⟨g1, g2⟩)
          · exact .inr ⟨g1, .inl g2⟩
        · rintro ((g | ⟨g1, g2⟩) | ⟨g1, g2 | ⟨g2, _⟩⟩)
          · exact .inl (.inl g)
          · exact .inr ⟨g1, .inl g2⟩
          · exact .inr ⟨g1, .inr ⟨rfl, g2⟩⟩
          · exact absurd g2.symm hq
      · rw [if_neg hq, if_neg hp]
        constructor
        · rintro ((g | ⟨g1, g2⟩) | ⟨g1, g2 | ⟨g2, _⟩⟩)
          · exact .inl (.inl g)
          · exact .inr ⟨g1, .inl g2⟩
          · exact .inl (.inr ⟨g1, g2⟩)
          · exact absurd g2.symm hp
        · rintro ((g | ⟨g1, g2⟩) | ⟨g1, g2 | ⟨g2, _⟩⟩)
          · exact .inl (.inl g)
          · exact .inr ⟨g1, .inl g2⟩
          · exact .inl (.inr ⟨g1, g2⟩)
          · exact absurd g2.symm hq

theorem Stp.eqv (hs : Stp G G' i p) (h : G.Ok) : Eqv G' (G.fold i p) :=
  ⟨h.nd.erase i, fun x => by rw [hs.mem]; show _ ↔ x ∈ G.V.erase i; rw [h.nd.mem_erase_iff]; exact and_comm, fun x y hx hy hne => hs.edge x y hx hy hne⟩

/-- HECHT, ULLMAN: the order does not matter -/
theorem red_one : ∀ (n : Nat) (G : Gf), G.Ok → G.V.length ≤ n → ∀ k k', Red G k → Red G k' → k = k'
  | 0, G, h, hl, _, _, _, _ => by have := List.length_pos_of_mem h.zero; omega
  | n + 1, G, h, hl, k, k', h1, h2 => by
    cases h1 with
    | stop hn =>
      cases h2 with
      | stop _ => rfl
      | step hs _ => exact absurd hs.cl (hn _ _)
    | @step _ G1 i p _ hs1 hr1 =>
      cases h2 with
      | stop hn => exact absurd hs1.cl (hn _ _)
      | @step _ G2 j q _ hs2 hr2 =>
        have hF1 := hs1.cl.stp h.nd
        have hF2 := hs2.cl.stp h.nd
        have hl1 := hF1.len h
        have hl2 := hF2.len h
        have r1 : Red (G.fold i p) k := (hs1.eqv h).red hs1.nd hr1
        have r2 : Red (G.fold j q) k' := (hs2.eqv h).red hs2.nd hr2
        by_cases hij : i = j
        · subst hij
          have hpq : q = p := hs1.cl.one q hs2.cl.pV hs2.cl.ne hs2.cl.e
          subst hpq
          exact red_one n _ (hF1.ok h) (by omega) _ _ r1 r2
        · have c1 := hF1.other h hs2.cl (Ne.symm hij)
          have c2 := hF2.other h hs1.cl hij
          have s1 := c1.stp hF1.nd
          have s2 := c2.stp hF2.nd
          have ok3 := s1.ok (hF1.ok h)
          obtain ⟨k3, hk3⟩ := red_ex _ _ ok3 (Nat.le_refl _)
          have he := fold_comm h hs1.cl hs2.cl hij
          have hk4 := he.red ok3.nd hk3
          have e1 := red_one n _ (hF1.ok h) (by omega) _ _ r1 (.step s1 hk3)
          have e2 := red_one n _ (hF2.ok h) (by omega) _ _ r2 (.step s2 hk4)
          omega

/-! ### Tame -/

/-- a numbering that all edges follow but those back to a node that dominates -/
def TmG (G : Gf) : Prop := ∃ num : Nat → Nat, ∀ a b, a ∈ G.V → b ∈ G.V → a ≠ b → G.E a b → num a < num b ∨ ¬ ReG G (b : Int) a

theorem Stp.dom (hs : Stp G G' i p) (h0 : 0 ∈ G.V) {a b : Nat} (ha : a ≠ i) (hb : b ≠ i) : ReG G' (b : Int) a ↔ ReG G (b : Int) a :=
  ⟨fun h => hs.back h0 (int_ne (Ne.symm hb)) h, fun h => (hs.go h0 h).1 ha⟩

theorem Stp.tame (hs : Stp G G' i p) (h : G.Ok) : TmG G ↔ TmG G' := by
  have h0 := h.zero
  constructor
  · rintro ⟨num, hnum⟩
    refine ⟨num, fun a b ha hb hne hE => ?_⟩
    obtain ⟨haV, hai⟩ := (hs.mem a).1 ha
    obtain ⟨hbV, hbi⟩ := (hs.mem b).1 hb
    rw [hs.dom h0 hai hbi]
    rcases (hs.edge a b ha hb hne).1 hE with g | ⟨rfl, g⟩
    · exact hnum a b haV hbV hne g
    · have hpi : num a < num i := by
        rcases hnum a i haV hs.cl.iV hs.cl.ne hs.cl.e with g' | g'
        · exact g'
        · exact absurd ((hs.cl.pre h0 (h.rea a haV)).elim id id) g'
      rcases hnum i b hs.cl.iV hbV (Ne.symm hbi) g with g' | g'
      · exact .inl (by omega)
      · exact .inr fun hr => g' (hr.step hs.cl.ne hs.cl.iV hs.cl.e (int_ne (Ne.symm hbi)))
  · rintro ⟨num, hnum⟩
    refine ⟨fun x => if x = i then 2 * num p + 1 else 2 * num x, fun a b ha hb hne hE => ?_⟩
    simp only []
    by_cases hbi : b = i
    · subst hbi
      have hap := hs.cl.one a ha hne hE
      subst hap
      left
      rw [if_neg hne, if_pos rfl]
      omega
    · have hb' : b ∈ G'.V := (hs.mem b).2 ⟨hb, hbi⟩
      by_cases hai : a = i
      · subst hai
        by_cases hbp : b = p
        · subst hbp
          exact .inr (hs.cl.not_via h0)
        · rw [if_pos rfl, if_neg hbi]
          rcases hnum p b hs.pV hb' (Ne.symm hbp) ((hs.edge p b hs.pV hb' (Ne.symm hbp)).2 (.inr ⟨rfl, hE⟩)) with g | g
          · exact .inl (by omega)
          · right
            rw [hs.dom h0 hs.cl.ne hbi] at g
            exact fun hr => g (hs.cl.via h0 hr)
      · have ha' : a ∈ G'.V := (hs.mem a).2 ⟨ha, hai⟩
        rw [if_neg hai, if_neg hbi]
        rcases hnum a b ha' hb' hne ((hs.edge a b ha' hb' hne).2 (.inl hE)) with g | g
        · exact .inl (by omega)
        · exact .inr (by rwa [hs.dom h0 hai hbi] at g)

theorem min_num (num : Nat → Nat) {P : Nat → Prop} (h : ∃ x, P x) : ∃ x, P x ∧ ∀ y, P y → num x ≤ num y := by
  obtain ⟨x, hx⟩ := h
  have : ∀ n x, P x → num x ≤ n → ∃ x, P x ∧ ∀ y, P y → num x ≤ num y := by
    intro n
    induction n with
    | zero => intro x hx hn; exact ⟨x, hx, fun y _ => by omega⟩
    | succ n ih =>
      intro x hx hn
      by_cases hy : ∃ y, P y ∧ num y < num x
      · obtain ⟨y, h1, h2⟩ := hy
        exact ih y h1 (by omega)
      · exact ⟨x, hx, fun y hpy => Nat.le_of_not_lt fun hlt => hy ⟨y, hpy, hlt⟩⟩
  exact this _ x hx (Nat.le_refl _)

/-- to a node other than 0 one comes from another one -/
theorem ReG.pred {wo : Int} {x : Nat} (h : ReG G wo x) (hx : x ≠ 0) : ∃ y, ReG G wo y ∧ y ≠ x ∧ G.E y x := by
  cases h with
  | here => exact absurd rfl hx
  | step h1 h2 _ h4 _ => exact ⟨_, h1, h2, h4⟩

/-- a tame graph in which nothing can be folded has no node below another one -/
theorem no_below (h : G.Ok) (ht : TmG G) (hn : ∀ i p, ¬ Cl G i p) : ∀ (n : Nat) (l : List Nat) (a : Nat), l.length ≤ n → a ∈ G.V → (∀ x ∈ G.V, x ≠ a → ¬ ReG G (a : Int) x → x ∈ l) → ∀ x ∈ G.V, x ≠ a → ReG G (a : Int) x := by
  obtain ⟨num, hnum⟩ := ht
  intro n
  induction n with
  | zero =>
    intro l a hl _ hcov x hx hxa
    refine Classical.byContradiction fun hr => ?_
    have := List.length_pos_of_mem (hcov x hx hxa hr)
    omega
  | succ n ih =>
    intro l a hl haV hcov x0 hx0 hxa0
    refine Classical.byContradiction fun hr0 => ?_
    obtain ⟨x, ⟨hxV, hxa, hxr⟩, hmin⟩ := min_num num (P := fun x => x ∈ G.V ∧ x ≠ a ∧ ¬ ReG G (a : Int) x) ⟨x0, hx0, hxa0, hr0⟩
    have hx00 : x ≠ 0 := fun e => by
      subst e
      exact hxr (.here (int_ne hxa))
    obtain ⟨y, hy, hyx, hE⟩ := (h.rea x hxV).pred hx00
    have hyV := hy.inV h.zero
    have hpre : ∀ q ∈ G.V, q ≠ x → G.E q x → q = a := by
      intro q hqV hqx hqE
      refine Classical.byContradiction fun hqa => ?_
      have hqr : ¬ ReG G (a : Int) q := fun hr => hxr (hr.step hqx hxV hqE (int_ne hxa))
      have h1 := hmin q ⟨hqV, hqa, hqr⟩
      rcases hnum q x hqV hxV hqx hqE with g | g
      · omega
      · have hxl := hcov x hxV hxa hxr
        have hle := List.length_erase_of_mem hxl
        have hpos := List.length_pos_of_mem hxl
        refine g (ih (l.erase x) x (by omega) hxV (fun z hzV hzx hzr => ?_) q hqV hqx)
        rw [List.mem_erase_of_ne hzx]
        refine hcov z hzV (fun e => ?_) (fun hr => ?_)
        · subst e
          rcases ReG.first hzx (h.rea z hzV) with g1 | g1 | ⟨g1, _⟩
          · exact hzr g1
          · exact hxr g1
          · exact g1.stop rfl
        · rcases hr.by_ (b := x) with g1 | g1
          · exact hxr g1
          · exact hzr g1
    have hya := hpre y hyV hyx hE
    subst hya
    exact hn x y ⟨hx00, hxV, hyV, hyx, hE, hpre⟩

end

end Go.Proofs.Ytfhnhbkdhdocjaa

/-
  Plain mathematics of loops (G1, G2): natural loops, tame graphs, folding: no program's text.
-/

namespace Go.Proofs.Ytfhnhbkdhdocjaa
set_option linter.unusedSimpArgs false
set_option linter.unusedVariables false

/-! ### Folded -/

theorem ReG.start {G : Gf} {wo : Int} {x : Nat} (h : ReG G wo x) : (0 : Int) ≠ wo := by
  induction h with
  | here h => exact h
  | step _ _ _ _ _ ih => exact ih

theorem one_left {G : Gf} (h : G.Ok) (ht : TmG G) (hn : ∀ i p, ¬ Cl G i p) : G.V.length = 1 := by
  have hb := no_below h ht hn G.V.length G.V 0 (Nat.le_refl _) h.zero fun x hx _ _ => hx
  have : G.V.length = [0].length := set_len h.nd (by simp) fun x => by
    constructor
    · intro hx
      by_cases e : x = 0
      · simp [e]
      · exact absurd rfl (hb x hx e).start
    · intro hx
      simp at hx
      subst hx
      exact h.zero
  simpa using this

theorem one_tame {G : Gf} (h : G.Ok) (h1 : G.V.length = 1) : TmG G := by
  refine ⟨fun _ => 0, fun a b ha hb hne _ => ?_⟩
  exfalso
  obtain ⟨v, hv⟩ := List.length_eq_one_iff.1 h1
  rw [hv] at ha hb
  simp at ha hb
  omega

theorem not_two {G : Gf} (h : G.Ok) (hn : ∀ i p, ¬ Cl G i p) : G.V.length ≠ 2 := by
  intro h2
  obtain ⟨x, hx, hx0⟩ : ∃ x, x ∈ G.V ∧ x ≠ 0 := by
    refine Classical.byContradiction fun hno => ?_
    have : G.V.length ≤ 1 := nodup_len h.nd fun x hx => by
      have : x = 0 := Classical.byContradiction fun e => hno ⟨x, hx, e⟩
      omega
    omega
  have honly : ∀ y ∈ G.V, y ≠ x → y = 0 := by
    intro y hy hyx
    refine Classical.byContradiction fun hy0 => ?_
    have : [0, x, y].length ≤ G.V.length := by
      have hnd : [0, x, y].Nodup := by simp; omega
      have hsub : ∀ z ∈ [0, x, y], z ∈ G.V := fun z hz => by
        simp at hz
        rcases hz with rfl | rfl | rfl
        · exact h.zero
        · exact hx
        · exact hy
      have key : ∀ {l m : List Nat}, l.Nodup → (∀ x, x ∈ l → x ∈ m) → l.length ≤ m.length := by
        intro l
        induction l with
        | nil => intro m _ _; simp
        | cons a l ih =>
          intro m hd hs
          obtain ⟨h1, h2⟩ := List.nodup_cons.1 hd
          have ha : a ∈ m := hs a (List.mem_cons_self ..)
          have := ih (m := m.erase a) h2 fun x hx => by
            have hxa : x ≠ a := fun e => by subst e; exact h1 hx
            rw [List.mem_erase_of_ne hxa]
            exact hs x (List.mem_cons_of_mem _ hx)
          have hlen := List.length_erase_of_mem ha
          have := List.length_pos_of_mem ha
          simp
          omega
      exact key hnd hsub
    simp at this
    omega
  obtain ⟨y, hy, hyx, hE⟩ := (h.rea x hx).pred hx0
  have hyV := hy.inV h.zero
  have := honly y hyV hyx
  subst this
  exact hn x 0 ⟨hx0, hx, hyV, hyx, hE, fun q hq hqx _ => honly q hq hqx⟩

/-- HECHT, ULLMAN: just the tame ones come down to one node; to two none comes down -/
theorem red_tame {G : Gf} {k : Nat} (hr : Red G k) (h : G.Ok) : (TmG G ↔ k = 1) ∧ 1 ≤ k ∧ k ≠ 2 := by
  induction hr with
  | stop hn => exact ⟨⟨fun ht => one_left h ht hn, fun h1 => one_tame h h1⟩, List.length_pos_of_mem h.zero, not_two h hn⟩
  | step hs _ ih =>
    obtain ⟨h1, h2⟩ := ih (hs.ok h)
    exact ⟨(hs.tame h).trans h1, h2⟩

/-- the part of a graph to which one comes -/
def gOf (nx : List (List Int)) : Gf := ⟨finL nx, fun x y => y ∈ sc nx x⟩

/-- G1: is the graph tame? -/
def TameP (nx : List (List Int)) : Prop := ∀ a b, (a, b) ∈ bkL nx → Dom nx b a

section
variable {nx : List (List Int)} (hc : ckWay nx = 0)
include hc

theorem reG_iff {wo : Int} {x : Nat} : ReG (gOf nx) wo x ↔ Rea nx wo 0 x := by
  constructor
  · intro h
    induction h with
    | here h => exact .here h
    | step _ _ _ h4 h5 ih => exact ih.step h4 h5
  · intro h
    induction h with
    | here h => exact .here h
    | @step j k h1 h2 h3 ih =>
      by_cases e : j = k
      · subst e; exact ih
      · exact ih.step e ((fin_mem hc).2 ((h1.plain).step h2 (nat_ne k))) h2 h3

theorem gOf_ok : (gOf nx).Ok := ⟨fin_nodup hc, (fin_mem hc).2 (Rea.me nx 0), fun x hx => (reG_iff hc).2 ((fin_mem hc).1 hx)⟩

theorem tame_iff : TameP nx ↔ TmG (gOf nx) := by
  constructor
  · intro h
    refine ⟨fun x => nx.length - posL (finL nx) x, fun a b ha hb hne hE => ?_⟩
    by_cases hbk : (a, b) ∈ bkL nx
    · right
      rw [reG_iff hc]
      exact (h a b hbk).2.2.resolve_left (Ne.symm hne)
    · left
      have h1 : ¬ posL (finL nx) a ≤ posL (finL nx) b := fun h => hbk ((bkL_mem hc).2 ⟨ha, hE, h⟩)
      have h2 : posL (finL nx) a < (finL nx).length := (posL_lt ha).1
      have h3 := fin_len hc
      show nx.length - posL (finL nx) a < nx.length - posL (finL nx) b
      omega
  · rintro ⟨num, hnum⟩ a b hbk
    obtain ⟨ha, hb, _⟩ := (bkL_mem hc).1 hbk
    have har := (fin_mem hc).1 ha
    have hbr := har.step hb (nat_ne b)
    by_cases e : b = a
    · subst e; exact Dom.me har
    · have hbV := (fin_mem hc).2 hbr
      have hup : ∀ x, Frea nx b x → x ∈ finL nx ∧ num b ≤ num x ∧ (x ≠ b → num b < num x) := by
        intro x hx
        induction hx with
        | here => exact ⟨hbV, Nat.le_refl _, fun h => absurd rfl h⟩
        | @step j k h1 h2 ih =>
          obtain ⟨i1, i2, _⟩ := ih
          have hkV := fin_sc hc i1 h2.1
          have hjk : j ≠ k := fun e => by subst e; exact h2.2.stop rfl
          rcases hnum j k i1 hkV hjk h2.1 with g | g
          · exact ⟨hkV, by omega, fun _ => by omega⟩
          · exact absurd ((reG_iff hc).2 h2.2) g
      obtain ⟨_, _, hlt⟩ := hup a (bk_frea hc hbk)
      have := hlt (Ne.symm e)
      rcases hnum a b ha hbV (Ne.symm e) hb with g | g
      · omega
      · exact ⟨hbr, har, .inr fun hr => g ((reG_iff hc).2 hr)⟩

/-- G2: so many nodes are left -/
theorem folds_one {k k' : Nat} (h : Red (gOf nx) k) (h' : Red (gOf nx) k') : k = k' := red_one _ _ (gOf_ok hc) (Nat.le_refl _) _ _ h h'

theorem folds_tame {k : Nat} (h : Red (gOf nx) k) : (TameP nx ↔ k = 1) ∧ 1 ≤ k ∧ k ≠ 2 := by
  rw [tame_iff hc]
  exact red_tame h (gOf_ok hc)

end

/-! ### Loops -/

/-- G1: is x in the loop of the head h? -/
def LoopP (nx : List (List Int)) (h x : Nat) : Prop := ∃ a, (a, h) ∈ bkL nx ∧ Dom nx h a ∧ (x = h ∨ (Rea nx (-1) 0 x ∧ Rea nx (h : Int) x a))

/-- on a way one comes from the last i, or not by i -/
theorem Rea.via {nx : List (List Int)} {wo : Int} {y b i : Nat} (hi : (i : Int) ≠ wo) (h : Rea nx wo y b) : Rea nx (i : Int) y b ∨ Rea nx wo i b := by
  induction h with
  | here h =>
    by_cases e : y = i
    · subst e; exact .inr (.here h)
    · exact .inl (.here (int_ne e))
  | @step j k h1 h2 h3 ih =>
    by_cases e : k = i
    · subst e; exact .inr (.here h3)
    · rcases ih with ih | ih
      · exact .inl (ih.step h2 (int_ne e))
      · exact .inr (ih.step h2 h3)

section
variable {nx : List (List Int)} (hc : ckWay nx = 0)
include hc

omit hc in
/-- a head dominates all its loop -/
theorem loop_dom {h x : Nat} (hl : LoopP nx h x) : Dom nx h x := by
  obtain ⟨a, hbk, hd, hx⟩ := hl
  rcases hx with rfl | ⟨hr, hxa⟩
  · exact Dom.me hd.1
  · refine ⟨hd.1, hr, ?_⟩
    by_cases e : h = x
    · exact .inl e
    · right
      intro hn
      have := hn.trans hxa
      rcases hd.2.2 with e2 | e2
      · subst e2; exact this.stop rfl
      · exact e2 this

omit hc in
theorem loop_head {h x : Nat} (hl : LoopP nx h x) : LoopP nx h h := by
  obtain ⟨a, h1, h2, _⟩ := hl
  exact ⟨a, h1, h2, .inl rfl⟩

/-- ALLEN; COCKE: of two loops that have something in common the one with the inner head is within the other one -/
theorem loop_in {i j x y : Nat} (hij : i ≠ j) (hi : LoopP nx i x) (hj : LoopP nx j x) (hd : Dom nx i j) (hy : LoopP nx j y) : LoopP nx i y := by
  have hdi := loop_dom hi
  have hdj := loop_dom hj
  have hn : Rea nx (j : Int) 0 i := Classical.byContradiction fun h => hij (Dom.anti hd ⟨hd.2.1, hd.1, .inr h⟩)
  have hji : ¬ Rea nx (i : Int) 0 j := hd.2.2.resolve_left hij
  obtain ⟨a, hbk, hda, hx⟩ := hi
  -- x is not i
  have hxi : x ≠ i := fun e => by
    subst e
    rcases hdj.2.2 with e2 | e2
    · exact hij e2.symm
    · exact e2 hn
  obtain ⟨hrx, hxa⟩ := hx.resolve_left hxi
  have hjx : Rea nx (i : Int) j x := by
    by_cases e : j = x
    · subst e; exact .here (int_ne (Ne.symm hij))
    · rcases Rea.last hij hrx with g | g | ⟨g, _⟩
      · exact g
      · exact absurd (hn.trans g) (hdj.2.2.resolve_left e)
      · rcases hdi.2.2 with e2 | e2
        · exact absurd e2.symm hxi
        · exact absurd g e2
  have hja := hjx.trans hxa
  obtain ⟨b, hbk2, hdb, hy⟩ := hy
  refine ⟨a, hbk, hda, .inr ?_⟩
  rcases hy with rfl | ⟨hry, hyb⟩
  · exact ⟨hd.2.1, hja⟩
  · refine ⟨hry, ?_⟩
    rcases hyb.via (i := i) (int_ne hij) with g | g
    · have hbj := ((bkL_mem hc).1 hbk2).2.1
      exact (g.step hbj (int_ne (Ne.symm hij))).trans hja
    · rcases hdb.2.2 with e2 | e2
      · subst e2; exact absurd rfl g.stop
      · exact absurd (hn.trans g) e2

theorem loop_nest {i j x : Nat} (hij : i ≠ j) (hi : LoopP nx i x) (hj : LoopP nx j x) : (∀ y, LoopP nx i y → LoopP nx j y) ∨ (∀ y, LoopP nx j y → LoopP nx i y) := by
  rcases (loop_dom hi).chain (loop_dom hj) with h | h
  · exact .inr fun y hy => loop_in hc hij hi hj h hy
  · exact .inl fun y hy => loop_in hc (Ne.symm hij) hj hi h hy

/-- what is in a loop goes round -/
theorem loop_round {h x : Nat} (hl : LoopP nx h x) : Rea nx (-1) 0 x ∧ (x ∈ sc nx x ∨ ∃ j, j ≠ x ∧ Both nx x j) := by
  have hd := loop_dom hl
  obtain ⟨a, hbk, hda, hx⟩ := hl
  have hah := ((bkL_mem hc).1 hbk).2.1
  have hha := bk_round hc hbk
  refine ⟨hd.2.1, ?_⟩
  rcases hx with rfl | ⟨hr, hxa⟩
  · by_cases e : a = x
    · subst e; exact .inl hah
    · exact .inr ⟨a, e, hha, Rea.edge (nat_ne a) hah (nat_ne x)⟩
  · have hxh : Rea nx (-1) x h := (hxa.plain).step hah (nat_ne h)
    have hne : h ≠ x := fun e => hxa.start (by rw [e])
    refine .inr ⟨h, hne, hxh, ?_⟩
    -- one comes from h to x
    rcases Rea.by_ (b := h) hr with g | g
    · -- 0 to h; from h on
      rcases Rea.last (a := h) (b := x) hne hr with q | q | ⟨q, _⟩
      · -- from the last h no: x to x without h: by dominance
        rcases hr.via (i := h) (nat_ne h) with g2 | g2
        · exact absurd g2 (hd.2.2.resolve_left hne)
        · exact g2
      · exact absurd rfl q.stop
      · exact absurd q (hd.2.2.resolve_left hne)
    · exact absurd g (hd.2.2.resolve_left hne)

omit hc in
/-- the first time that one comes to h -/
theorem Rea.arrive {i h : Nat} (hr : Rea nx (-1) i h) (hne : i ≠ h) : ∃ a, Rea nx (h : Int) i a ∧ h ∈ sc nx a := by
  have : ∀ x, Rea nx (-1) i x → Rea nx (h : Int) i x ∨ ∃ a, Rea nx (h : Int) i a ∧ h ∈ sc nx a := by
    intro x hx
    induction hx with
    | here => exact .inl (.here (int_ne hne))
    | @step j k h1 h2 h3 ih =>
      rcases ih with ih | ih
      · by_cases e : k = h
        · subst e; exact .inr ⟨j, ih, h2⟩
        · exact .inl (ih.step h2 (int_ne e))
      · exact .inr ih
  rcases this h hr with g | g
  · exact absurd rfl g.stop
  · exact g

/-- HECHT, ULLMAN: in a tame graph what goes round is in a loop -/
theorem round_loop (ht : TameP nx) {i : Nat} (hi : Rea nx (-1) 0 i) (hr : i ∈ sc nx i ∨ ∃ j, j ≠ i ∧ Both nx i j) : ∃ h, LoopP nx h i := by
  -- of its part the node that is left last
  obtain ⟨h, hh, hmax⟩ := min_num (fun x => nx.length - posL (finL nx) x) (P := fun x => Both nx i x) ⟨i, Rea.me nx i, Rea.me nx i⟩
  have hin : ∀ x, Both nx i x → x ∈ finL nx := fun x hx => (fin_mem hc).2 (hi.trans hx.1)
  have hle : ∀ x, Both nx i x → posL (finL nx) x ≤ posL (finL nx) h := fun x hx => by
    have h1 := hmax x hx
    have h2 := (posL_lt (hin x hx)).1
    have h3 := (posL_lt (hin h hh)).1
    have h4 := fin_len hc
    omega
  have main : ∀ a, Both nx i a → h ∈ sc nx a → (i = h ∨ Rea nx (h : Int) i a) → ∃ h, LoopP nx h i := by
    intro a ha hah hia
    have hbk : (a, h) ∈ bkL nx := (bkL_mem hc).2 ⟨hin a ha, hah, hle a ha⟩
    exact ⟨h, a, hbk, ht a h hbk, hia.imp id fun q => ⟨hi, q⟩⟩
  by_cases e : i = h
  · subst e
    rcases hr with hr | ⟨j, hj, hb⟩
    · exact main i ⟨Rea.me nx i, Rea.me nx i⟩ hr (.inl rfl)
    · obtain ⟨a, h1, h2⟩ := Rea.arrive hb.2 hj
      exact main a ⟨hb.1.trans h1.plain, Rea.edge (nat_ne a) h2 (nat_ne i)⟩ h2 (.inl rfl)
  · obtain ⟨a, h1, h2⟩ := Rea.arrive hh.1 e
    exact main a ⟨h1.plain, (Rea.edge (nat_ne a) h2 (nat_ne h)).trans hh.2⟩ h2 (.inr h1)

theorem LoopP.lt {h x : Nat} (hl : LoopP nx h x) : h < nx.length ∧ x < nx.length := (loop_dom hl).lt hc

end

end Go.Proofs.Ytfhnhbkdhdocjaa

/-
  Plain mathematics of postdominators and control dependence (H1, H2): no program's text.
-/

namespace Go.Proofs.Ytfhnhbkdhdocjaa
set_option linter.unusedSimpArgs false
set_option linter.unusedVariables false

/-- one comes from i to an exit, without wo -/
def EndP (nx : List (List Int)) (wo : Int) (i : Nat) : Prop := ∃ j, Rea nx wo i j ∧ sc nx j = []

/-- H1: k postdominates i -/
def SureP (nx : List (List Int)) (i k : Nat) : Prop := EndP nx (-1) i ∧ (i = k ∨ ¬ EndP nx (k : Int) i)

/-- H2: k hangs on i -/
def HangP (nx : List (List Int)) (i k : Nat) : Prop := ∃ j, j ∈ sc nx i ∧ SureP nx j k ∧ (i = k ∨ ¬ SureP nx i k)

section
variable {nx : List (List Int)}

theorem Rea.free {wo : Int} {i j : Nat} {k : Nat} (hc : ckWay nx = 0) (hk : nx.length ≤ k) (hi : i < nx.length) (h : Rea nx wo i j) : Rea nx (k : Int) i j := by
  induction h with
  | here _ => exact .here (by omega)
  | @step a b _ hb _ ih => exact ih.step hb (by have := sc_lt hc hb; omega)

theorem SureP.lt (hc : ckWay nx = 0) {i k : Nat} (hi : i < nx.length) (h : SureP nx i k) : k < nx.length := by
  rcases Nat.lt_or_ge k nx.length with hk | hk
  · exact hk
  · exfalso
    rcases h.2 with rfl | h2
    · omega
    · obtain ⟨j, h3, h4⟩ := h.1
      exact h2 ⟨j, h3.free hc hk hi, h4⟩

theorem HangP.lt (hc : ckWay nx = 0) {i k : Nat} (h : HangP nx i k) : k < nx.length := by
  obtain ⟨j, h1, h2, _⟩ := h
  exact h2.lt hc (sc_lt hc h1)

/-- the first step -/
theorem Rea.head {wo : Int} {i j : Nat} (h : Rea nx wo i j) : j = i ∨ ∃ z, z ∈ sc nx i ∧ Rea nx wo z j := by
  induction h with
  | here _ => exact .inl rfl
  | @step a b h1 hb hw ih =>
    rcases ih with rfl | ⟨z, hz, h⟩
    · exact .inr ⟨b, hb, .here hw⟩
    · exact .inr ⟨z, hz, h.step hb hw⟩

theorem Rea.back {wo : Int} {i z j : Nat} (hi : (i : Int) ≠ wo) (hz : z ∈ sc nx i) (h : Rea nx wo z j) : Rea nx wo i j := (Rea.edge hi hz h.start).trans h

/-- on a node with one successor alone nothing hangs -/
theorem hang_one {i j0 : Nat} (h0 : j0 ∈ sc nx i) (hall : ∀ j ∈ sc nx i, j = j0) (hne : j0 ≠ i) (hns : ¬ SureP nx j0 i) (k : Nat) : ¬ HangP nx i k := by
  rintro ⟨j, hj, hs, hk⟩
  have := hall j hj
  subst this
  rcases hk with rfl | hk
  · exact hns hs
  · apply hk
    obtain ⟨e, he, hx⟩ := hs.1
    refine ⟨⟨e, he.back (nat_ne i) hj, hx⟩, ?_⟩
    by_cases hik : i = k
    · exact .inl hik
    · refine .inr fun ⟨f, hf, hfx⟩ => ?_
      rcases hf.head with rfl | ⟨z, hz, h⟩
      · rw [hfx] at hj; cases hj
      · have := hall z hz
        subst this
        rcases hs.2 with rfl | h2
        · exact h.start rfl
        · exact h2 ⟨f, h, hfx⟩

theorem hang_none {i : Nat} (h0 : sc nx i = []) (k : Nat) : ¬ HangP nx i k := by
  rintro ⟨j, hj, _⟩
  rw [h0] at hj
  cases hj

theorem hang_sure {i k : Nat} (h : HangP nx i k) (hs : SureP nx i k) : i = k := by
  obtain ⟨_, _, _, h⟩ := h
  exact h.elim id fun h => absurd hs h

theorem sure_bool (nx : List (List Int)) : ∃ f : Nat → Nat → Bool, ∀ i k, f i k = true ↔ SureP nx i k := ⟨fun i k => @decide (SureP nx i k) (Classical.propDecidable _), fun i k => by rw [@decide_eq_true_eq _ (Classical.propDecidable _)]⟩

theorem hang_bool (nx : List (List Int)) : ∃ f : Nat → Nat → Bool, ∀ i k, f i k = true ↔ HangP nx i k := ⟨fun i k => @decide (HangP nx i k) (Classical.propDecidable _), fun i k => by rw [@decide_eq_true_eq _ (Classical.propDecidable _)]⟩

end

end Go.Proofs.Ytfhnhbkdhdocjaa

/-
  Plain mathematics of a search for an exit that marks what it has seen (H1): no program's text.
-/

namespace Go.Proofs.Ytfhnhbkdhdocjaa
set_option linter.unusedSimpArgs false
set_option linter.unusedVariables false

/-- one comes from v to an exit, past no node of the word W -/
inductive ExW (nx : List (List Int)) (W : Nat) : Nat → Prop
  | here {v : Nat} : W.testBit v = false → sc nx v = [] → ExW nx W v
  | step {v c : Nat} : W.testBit v = false → c ∈ sc nx v → ExW nx W c → ExW nx W v

theorem bit_or_pow {W i j : Nat} : (W ||| 2 ^ i).testBit j = (W.testBit j || decide (i = j)) := by
  rw [Nat.testBit_or, Nat.testBit_two_pow]

section
variable {nx : List (List Int)} {W W1 W2 : Nat}

theorem ExW.free {v : Nat} (h : ExW nx W v) : W.testBit v = false := by
  cases h with
  | here h _ => exact h
  | step h _ _ => exact h

theorem ExW.mono {v : Nat} (hs : ∀ j, W1.testBit j = true → W.testBit j = true) (h : ExW nx W v) : ExW nx W1 v := by
  have hf : ∀ j, W.testBit j = false → W1.testBit j = false := fun j hj => by
    cases e : W1.testBit j with
    | false => rfl
    | true => rw [hs j e] at hj; cases hj
  induction h with
  | here h1 h2 => exact .here (hf _ h1) h2
  | step h1 h2 _ ih => exact .step (hf _ h1) h2 ih

theorem ExW.cut {v u : Nat} (h : ExW nx W u) : ExW nx (W ||| 2 ^ v) u ∨ sc nx v = [] ∨ ∃ c, c ∈ sc nx v ∧ ExW nx (W ||| 2 ^ v) c := by
  induction h with
  | @here a h1 h2 =>
    by_cases e : v = a
    · subst e; exact .inr (.inl h2)
    · exact .inl (.here (by rw [bit_or_pow, h1]; simp [e]) h2)
  | @step a c h1 h2 _ ih =>
    rcases ih with ih | ih
    · by_cases e : v = a
      · subst e; exact .inr (.inr ⟨c, h2, ih⟩)
      · exact .inl (.step (by rw [bit_or_pow, h1]; simp [e]) h2 ih)
    · exact .inr ih

/-- at a node not yet seen -/
theorem exW_iff {v : Nat} (hf : W.testBit v = false) : ExW nx W v ↔ sc nx v = [] ∨ ∃ c, c ∈ sc nx v ∧ ExW nx (W ||| 2 ^ v) c := by
  constructor
  · intro h
    rcases h.cut (v := v) with h | h
    · have := h.free
      rw [bit_or_pow] at this
      simp at this
    · exact h
  · rintro (h | ⟨c, hc, h⟩)
    · exact .here hf h
    · exact .step hf hc (h.mono fun j hj => by rw [bit_or_pow, hj]; rfl)

/-- more was seen, and from what was seen since no exit is to be had -/
structure Dd (nx : List (List Int)) (W W1 : Nat) : Prop where
  sub : ∀ j, W.testBit j = true → W1.testBit j = true
  dead : ∀ j, W1.testBit j = true → W.testBit j = false → ¬ ExW nx W j

theorem Dd.refl (nx : List (List Int)) (W : Nat) : Dd nx W W := ⟨fun _ h => h, fun j h h2 => by rw [h] at h2; cases h2⟩

theorem Dd.keep {v : Nat} (h : Dd nx W W1) (hx : ExW nx W v) : ExW nx W1 v := by
  have hf : ∀ j, W.testBit j = false → ExW nx W j → W1.testBit j = false := fun j hj hj2 => by
    cases e : W1.testBit j with
    | false => rfl
    | true => exact absurd hj2 (h.dead j e hj)
  induction hx with
  | here h1 h2 => exact .here (hf _ h1 (.here h1 h2)) h2
  | step h1 h2 h3 ih => exact .step (hf _ h1 (.step h1 h2 h3)) h2 ih

theorem Dd.same {v : Nat} (h : Dd nx W W1) : ExW nx W1 v ↔ ExW nx W v := ⟨fun hx => hx.mono h.sub, h.keep⟩

theorem Dd.trans (h : Dd nx W W1) (h2 : Dd nx W1 W2) : Dd nx W W2 := by
  refine ⟨fun j hj => h2.sub j (h.sub j hj), fun j hj hf hx => ?_⟩
  cases e : W1.testBit j with
  | true => exact h.dead j e hf hx
  | false => exact h2.dead j hj e (h.keep hx)

theorem Dd.seen {v : Nat} (hf : W.testBit v = false) (hne : sc nx v ≠ []) (hno : ∀ c, c ∈ sc nx v → ¬ ExW nx (W ||| 2 ^ v) c) : Dd nx W (W ||| 2 ^ v) := by
  refine ⟨fun j hj => by rw [bit_or_pow, hj]; rfl, fun j hj hj2 hx => ?_⟩
  rw [bit_or_pow, hj2] at hj
  simp at hj
  subst hj
  rcases (exW_iff hf).1 hx with h | ⟨c, h1, h2⟩
  · exact hne h
  · exact hno c h1 h2

/-- how many are not yet seen -/
def fvW (W : Nat) : Nat → Nat
  | 0 => 0
  | n + 1 => fvW W n + if W.testBit n = true then 0 else 1

theorem fvW_sub (hs : ∀ j, W.testBit j = true → W1.testBit j = true) : ∀ n, fvW W1 n ≤ fvW W n
  | 0 => Nat.le_refl _
  | n + 1 => by
    have ih := fvW_sub hs n
    simp only [fvW]
    by_cases h : W.testBit n = true
    · rw [if_pos h, if_pos (hs n h)]; exact ih
    · rw [if_neg h]; split <;> omega

theorem fvW_less {v : Nat} (hf : W.testBit v = false) : ∀ n, v < n → fvW (W ||| 2 ^ v) n + 1 ≤ fvW W n
  | 0, h => absurd h (by omega)
  | n + 1, h => by
    simp only [fvW]
    by_cases e : v = n
    · subst e
      have h1 := fvW_sub (W := W) (W1 := W ||| 2 ^ v) (fun j hj => by rw [bit_or_pow, hj]; rfl) v
      rw [hf, bit_or_pow]
      simp
      exact h1
    · have ih := fvW_less hf n (by omega)
      have hb : (W ||| 2 ^ v).testBit n = W.testBit n := by rw [bit_or_pow]; simp [e]
      rw [hb]
      omega

theorem fvW_le (W : Nat) : ∀ n, fvW W n ≤ n
  | 0 => Nat.le_refl _
  | n + 1 => by
    have := fvW_le W n
    simp only [fvW]
    split <;> omega

theorem ex_end {wo : Int} {v : Nat} (hW : ∀ j, W.testBit j = true ↔ (j : Int) = wo) : ExW nx W v ↔ EndP nx wo v := by
  have hn : ∀ j : Nat, W.testBit j = false ↔ (j : Int) ≠ wo := fun j => by
    rw [← Bool.not_eq_true, hW]
  constructor
  · intro h
    induction h with
    | here h1 h2 => exact ⟨_, .here ((hn _).1 h1), h2⟩
    | @step a c h1 h2 h3 ih =>
      obtain ⟨j, hj, hs⟩ := ih
      exact ⟨j, hj.back ((hn _).1 h1) h2, hs⟩
  · rintro ⟨j, hj, hs⟩
    have key : ∀ {j}, Rea nx wo v j → ExW nx W j → ExW nx W v := fun {j} h => by
      induction h with
      | here _ => exact id
      | @step a b h1 h2 _ ih => exact fun hx => ih (.step ((hn _).2 h1.stop) h2 hx)
    exact key hj (.here ((hn _).2 hj.stop) hs)

theorem ex_zero {v : Nat} : ExW nx 0 v ↔ EndP nx (-1) v := ex_end fun j => by
  rw [Nat.zero_testBit]
  exact ⟨fun h => (by cases h), fun h => absurd h (nat_ne j)⟩

theorem ex_pow {v k : Nat} : ExW nx (2 ^ k) v ↔ EndP nx (k : Int) v := ex_end fun j => by
  rw [Nat.testBit_two_pow, decide_eq_true_eq]
  omega

end

end Go.Proofs.Ytfhnhbkdhdocjaa

/-
  Plain mathematics of package loop's ways (G1, G2): what leads to each node, a loop gathered backwards, nodes merged: no program's text.
-/

namespace Go.Proofs.Ytfhnhbkdhdocjaa
set_option linter.unusedSimpArgs false
set_option linter.unusedVariables false

/-! ### What leads to a node -/

/-- an edge leads from v, which is reached, to i -/
def LdP (nx : List (List Int)) (i v : Nat) : Prop := Rea nx (-1) 0 v ∧ i ∈ sc nx v

/-- .. of the first k nodes -/
def LdQ (nx : List (List Int)) (k i v : Nat) : Prop := v < k ∧ LdP nx i v

/-- .. and by the first c edges of node k -/
def LdR (nx : List (List Int)) (k c i v : Nat) : Prop := LdQ nx k i v ∨ (v = k ∧ i ∈ (sc nx k).take c)

section
variable {nx : List (List Int)}

theorem LdQ.zero {i v : Nat} : LdQ nx 0 i v ↔ False := ⟨fun h => by have := h.1; omega, False.elim⟩

theorem LdQ.skip {k i v : Nat} (h : ¬ Rea nx (-1) 0 k) : LdQ nx k i v ↔ LdQ nx (k + 1) i v := by
  constructor
  · exact fun h1 => ⟨by have := h1.1; omega, h1.2⟩
  · rintro ⟨h1, h2⟩
    refine ⟨?_, h2⟩
    have : v ≠ k := fun e => h (e ▸ h2.1)
    omega

theorem LdR.zero {k i v : Nat} : LdQ nx k i v ↔ LdR nx k 0 i v := ⟨.inl, fun h => h.resolve_right fun h => by simp at h⟩

theorem LdR.more {k c i v t : Nat} (ht : (sc nx k)[c]? = some t) : (LdR nx k c i v ∨ (i = t ∧ v = k)) ↔ LdR nx k (c + 1) i v := by
  unfold LdR
  rw [List.take_add_one, ht, Option.toList_some, List.mem_append, List.mem_singleton]
  constructor
  · rintro ((h | ⟨h1, h2⟩) | ⟨h1, h2⟩)
    · exact .inl h
    · exact .inr ⟨h1, .inl h2⟩
    · exact .inr ⟨h2, .inr h1⟩
  · rintro (h | ⟨h1, h2 | h2⟩)
    · exact .inl (.inl h)
    · exact .inl (.inr ⟨h1, h2⟩)
    · exact .inr ⟨h2, h1⟩

theorem LdR.done {k c i v : Nat} (hc : (sc nx k).length ≤ c) (hr : Rea nx (-1) 0 k) : LdR nx k c i v ↔ LdQ nx (k + 1) i v := by
  unfold LdR LdQ LdP
  rw [List.take_of_length_le hc]
  constructor
  · rintro (⟨h1, h2⟩ | ⟨rfl, h⟩)
    · exact ⟨by omega, h2⟩
    · exact ⟨by omega, hr, h⟩
  · rintro ⟨h1, h2, h3⟩
    by_cases e : v = k
    · subst e; exact .inr ⟨rfl, h3⟩
    · exact .inl ⟨by omega, h2, h3⟩

theorem LdQ.all (hc : ckWay nx = 0) {i v : Nat} : LdQ nx nx.length i v ↔ LdP nx i v := by
  have hb := ckWay_bd hc
  exact ⟨fun h => h.2, fun h => ⟨h.1.lt hc (by omega), h⟩⟩

/-- a whole word more -/
theorem EgI.or {eg : List Nat} {Q : Nat → Nat → Prop} {R : Nat → Prop} (h : EgI nx eg Q) {a W V : Nat} (hW : eg[a]? = some W) (hV : V < 256) (hR : ∀ j, V.testBit j = true ↔ R j) : EgI nx (eg.set a (W ||| V)) (fun i j => Q i j ∨ (i = a ∧ R j)) := by
  have hat : ∀ {i U : Nat}, (eg.set a (W ||| V))[i]? = some U → (i = a ∧ U = W ||| V) ∨ (i ≠ a ∧ eg[i]? = some U) := by
    intro i U hU
    rw [List.getElem?_set] at hU
    split at hU
    · rename_i e
      subst e
      rw [if_pos (List.getElem?_eq_some_iff.1 hW).1] at hU
      injection hU with hU
      exact .inl ⟨rfl, hU.symm⟩
    · rename_i e
      exact .inr ⟨fun e' => e e'.symm, hU⟩
  refine ⟨by rw [List.length_set]; exact h.len, fun i U hU => ?_, fun i U hU j => ?_⟩
  · rcases hat hU with ⟨rfl, rfl⟩ | ⟨_, h2⟩
    · exact Nat.or_lt_two_pow (n := 8) (h.lt i W hW) hV
    · exact h.lt i U h2
  · rcases hat hU with ⟨rfl, rfl⟩ | ⟨hne, h2⟩
    · rw [Nat.testBit_or, Bool.or_eq_true, h.mem i W hW j, hR]
      exact ⟨fun h => h.imp id fun e => ⟨rfl, e⟩, fun h => h.imp id fun e => e.2⟩
    · rw [h.mem i U h2 j]
      exact ⟨.inl, fun h => h.resolve_right fun e => hne e.1⟩

end

/-! ### A loop gathered -/

/-- a word without a bit -/
def clW (W i : Nat) : Nat := W &&& (4294967295 - 2 ^ i)

theorem clW_bit {W i : Nat} (hi : i < 32) (k : Nat) : (clW W i).testBit k = true ↔ W.testBit k = true ∧ k ≠ i ∧ k < 32 := by
  have hp : 2 ^ i < 2 ^ 32 := Nat.pow_lt_pow_right (by omega) hi
  unfold clW
  rw [Nat.testBit_and, Bool.and_eq_true, show 4294967295 - 2 ^ i = 2 ^ 32 - (2 ^ i + 1) by omega, Nat.testBit_two_pow_sub_succ hp, Bool.and_eq_true, decide_eq_true_eq, Bool.not_eq_true', Nat.testBit_two_pow, decide_eq_false_iff_not]
  exact ⟨fun h => ⟨h.1, fun e => h.2.2 e.symm, h.2.1⟩, fun h => ⟨h.1, h.2.2, fun e => h.2.1 e.symm⟩⟩

theorem bit_lt {W k n : Nat} (h : W < 2 ^ n) (hb : W.testBit k = true) : k < n := by
  refine Classical.byContradiction fun hk => ?_
  have : W < 2 ^ k := Nat.lt_of_lt_of_le h (Nat.pow_le_pow_right (by omega) (by omega))
  rw [Nat.testBit_lt_two_pow this] at hb
  cases hb

theorem clW_bit8 {W i : Nat} (hW : W < 256) (hi : i < 32) (k : Nat) : (clW W i).testBit k = true ↔ W.testBit k = true ∧ k ≠ i := by
  rw [clW_bit hi]
  exact ⟨fun h => ⟨h.1, h.2.1⟩, fun h => ⟨h.1, h.2, by have := bit_lt (n := 8) hW h.1; omega⟩⟩

theorem clW_le (W i : Nat) : clW W i ≤ W := Nat.and_le_left

/-- G1: what is in the loop that the edge from a to h closes -/
def BdP (nx : List (List Int)) (a h x : Nat) : Prop := x = h ∨ (Rea nx (-1) 0 x ∧ Rea nx (h : Int) x a)

/-- backwards: all from which one comes here -/
theorem Rea.backw {nx : List (List Int)} {wo : Int} {S : Nat → Prop} {j a : Nat} (h : Rea nx wo j a) (h0 : S a) (hs : ∀ x y, S y → y ∈ sc nx x → (x : Int) ≠ wo → (y : Int) ≠ wo → S x) : S j := by
  induction h with
  | here => exact h0
  | step h1 h2 h3 ih => exact ih (hs _ _ h0 h2 h1.stop h3)

/-- on the way to the loop -/
structure BdI (nx : List (List Int)) (a h m : Nat) : Prop where
  lt : m < 256
  head : m.testBit h = true
  tail : m.testBit a = true
  sub : ∀ j, m.testBit j = true → BdP nx a h j

section
variable {nx : List (List Int)} {bs : List Nat} {a h m : Nat}

theorem or_one_bit (W i k : Nat) : (W ||| 2 ^ i).testBit k = true ↔ W.testBit k = true ∨ k = i := by
  rw [Nat.testBit_or, Bool.or_eq_true, Nat.testBit_two_pow, decide_eq_true_eq]
  exact ⟨fun h => h.imp id Eq.symm, fun h => h.imp id Eq.symm⟩

theorem two_pow_bit (i k : Nat) : (2 ^ i).testBit k = true ↔ k = i := by
  rw [Nat.testBit_two_pow, decide_eq_true_eq]
  exact eq_comm

theorem BdI.start (ha : a < 8) (hh : h < 8) (hr : Rea nx (-1) 0 a) : BdI nx a h (2 ^ h ||| 2 ^ a) := by
  refine ⟨Nat.or_lt_two_pow (n := 8) (Nat.pow_lt_pow_right (by omega) hh) (Nat.pow_lt_pow_right (by omega) ha), ?_, ?_, fun j hj => ?_⟩
  · rw [or_one_bit, two_pow_bit]; exact .inl rfl
  · rw [or_one_bit]; exact .inr rfl
  · rw [or_one_bit, two_pow_bit] at hj
    rcases hj with hj | hj
    · exact .inl hj
    · subst hj
      by_cases e : j = h
      · exact .inl e
      · exact .inr ⟨hr, .here (int_ne e)⟩

theorem BdI.next (hb : EgI nx bs (LdP nx)) (hh : h < 8) (hi : BdI nx a h m) : BdI nx a h (m ||| frW bs (clW m h) nx.length) := by
  refine ⟨Nat.or_lt_two_pow (n := 8) hi.lt (frW_lt (n := 8) hb.lt _), ?_, ?_, fun j hj => ?_⟩
  · rw [Nat.testBit_or, hi.head]; rfl
  · rw [Nat.testBit_or, hi.tail]; rfl
  · rw [Nat.testBit_or, Bool.or_eq_true] at hj
    rcases hj with hj | hj
    · exact hi.sub j hj
    · obtain ⟨i, h1, h2, h3⟩ := frW_bit.1 hj
      have hie : bs[i]? = some (bs.getD i 0) := by
        rw [List.getD_eq_getElem?_getD, List.getElem?_eq_getElem (by rw [hb.len]; exact h1)]; rfl
      obtain ⟨h4, h5⟩ := (hb.mem i _ hie j).1 h3
      obtain ⟨h6, h7⟩ := (clW_bit8 hi.lt (by omega) i).1 h2
      rcases hi.sub i h6 with e | ⟨_, h8⟩
      · exact absurd e h7
      · by_cases e : j = h
        · exact .inl e
        · exact .inr ⟨h4, (Rea.edge (int_ne e) h5 (int_ne h7)).trans h8⟩

theorem BdI.le (m x : Nat) : m ≤ m ||| x := Nat.left_le_or

theorem BdI.done (hc : ckWay nx = 0) (hb : EgI nx bs (LdP nx)) (hh : h < 8) (hi : BdI nx a h m) (hm : m ||| frW bs (clW m h) nx.length = m) (j : Nat) : m.testBit j = true ↔ BdP nx a h j := by
  refine ⟨hi.sub j, fun hj => ?_⟩
  rcases hj with rfl | ⟨hr, hja⟩
  · exact hi.head
  · refine hja.backw (S := fun x => Rea nx (-1) 0 x → m.testBit x = true) (fun _ => hi.tail) (fun x y hy hxy hx hyh hrx => ?_) hr
    have hry := hrx.step hxy (nat_ne y)
    have hmy := hy hry
    have hyl : y < nx.length := sc_lt hc hxy
    have hie : bs[y]? = some (bs.getD y 0) := by
      rw [List.getD_eq_getElem?_getD, List.getElem?_eq_getElem (by rw [hb.len]; exact hyl)]; rfl
    rw [← hm, Nat.testBit_or, Bool.or_eq_true]
    refine .inr (frW_bit.2 ⟨y, hyl, (clW_bit8 hi.lt (by omega) y).2 ⟨hmy, by omega⟩, (hb.mem y _ hie x).2 ⟨hrx, hxy⟩⟩)

end

/-! ### The edges that close a loop -/

/-- does the target rule the source, by the table? -/
def clB (tb : List Nat) (p : Nat × Nat) : Bool := (tb.getD p.1 0).testBit p.2

/-- those of the first k that do -/
def clK (nx : List (List Int)) (tb : List Nat) (k : Nat) : List (Nat × Nat) := ((bkL nx).take k).filter (clB tb)

/-- .. and those that don't -/
def otK (nx : List (List Int)) (tb : List Nat) (k : Nat) : List (Nat × Nat) := ((bkL nx).take k).filter fun p => !clB tb p

section
variable {nx : List (List Int)} {tb : List Nat}

theorem clK_yes {k : Nat} {p : Nat × Nat} (hp : (bkL nx)[k]? = some p) (hb : clB tb p = true) : clK nx tb (k + 1) = clK nx tb k ++ [p] ∧ otK nx tb (k + 1) = otK nx tb k := by
  unfold clK otK
  rw [List.take_add_one, hp, Option.toList_some, List.filter_append, List.filter_append]
  simp [hb]

theorem clK_no {k : Nat} {p : Nat × Nat} (hp : (bkL nx)[k]? = some p) (hb : clB tb p = false) : clK nx tb (k + 1) = clK nx tb k ∧ otK nx tb (k + 1) = otK nx tb k ++ [p] := by
  unfold clK otK
  rw [List.take_add_one, hp, Option.toList_some, List.filter_append, List.filter_append]
  simp [hb]

theorem clK_len (k : Nat) : (clK nx tb k).length ≤ (bkL nx).length := by
  refine Nat.le_trans (List.length_filter_le _ _) ?_
  rw [List.length_take]
  omega

theorem otK_len (k : Nat) : (otK nx tb k).length ≤ (bkL nx).length := by
  refine Nat.le_trans (List.length_filter_le _ _) ?_
  rw [List.length_take]
  omega

/-- all that close a loop, all that don't -/
def clL (nx : List (List Int)) (tb : List Nat) : List (Nat × Nat) := (bkL nx).filter (clB tb)

def otL (nx : List (List Int)) (tb : List Nat) : List (Nat × Nat) := (bkL nx).filter fun p => !clB tb p

theorem clK_all : clK nx tb (bkL nx).length = clL nx tb := by unfold clK clL; rw [List.take_length]

theorem otK_all : otK nx tb (bkL nx).length = otL nx tb := by unfold otK otL; rw [List.take_length]

/-- the table says who rules whom -/
structure TbP (nx : List (List Int)) (tb : List Nat) : Prop where
  len : tb.length = nx.length
  mem : ∀ (i W : Nat), tb[i]? = some W → ∀ j, W.testBit j = true ↔ Dom nx j i

theorem clB_iff (hc : ckWay nx = 0) (ht : TbP nx tb) {a b : Nat} (hp : (a, b) ∈ bkL nx) : clB tb (a, b) = true ↔ Dom nx b a := by
  have hal : a < nx.length := (bkM_mem.1 hp).1
  have hie : tb[a]? = some (tb.getD a 0) := by
    rw [List.getD_eq_getElem?_getD, List.getElem?_eq_getElem (by rw [ht.len]; exact hal)]; rfl
  exact ht.mem a _ hie b

theorem clL_mem (hc : ckWay nx = 0) (ht : TbP nx tb) {a b : Nat} : (a, b) ∈ clL nx tb ↔ (a, b) ∈ bkL nx ∧ Dom nx b a := by
  unfold clL
  rw [List.mem_filter]
  exact ⟨fun h => ⟨h.1, (clB_iff hc ht h.1).1 h.2⟩, fun h => ⟨h.1, (clB_iff hc ht h.1).2 h.2⟩⟩

theorem ot_tame (hc : ckWay nx = 0) (ht : TbP nx tb) : (otL nx tb).length = 0 ↔ TameP nx := by
  rw [List.length_eq_zero_iff]
  unfold otL
  rw [List.filter_eq_nil_iff]
  constructor
  · intro h a b hab
    have := h (a, b) hab
    refine (clB_iff hc ht hab).1 ?_
    cases hb : clB tb (a, b) with
    | true => rfl
    | false => rw [hb] at this; exact absurd rfl this
  · rintro h ⟨a, b⟩ hab
    rw [(clB_iff hc ht hab).2 (h a b hab)]
    simp

/-- of the first k edges that close a loop: what is in the loops of a head -/
def LpQ (nx : List (List Int)) (tb : List Nat) (k h x : Nat) : Prop := ∃ a, (a, h) ∈ (clL nx tb).take k ∧ BdP nx a h x

theorem LpQ.zero {h x : Nat} : LpQ nx tb 0 h x ↔ False := ⟨fun ⟨a, h, _⟩ => by simp at h, False.elim⟩

theorem LpQ.more {k a b h x : Nat} (hk : (clL nx tb)[k]? = some (a, b)) : (LpQ nx tb k h x ∨ (h = b ∧ BdP nx a b x)) ↔ LpQ nx tb (k + 1) h x := by
  unfold LpQ
  rw [List.take_add_one, hk, Option.toList_some]
  constructor
  · rintro (⟨c, h1, h2⟩ | ⟨rfl, h2⟩)
    · exact ⟨c, List.mem_append_left _ h1, h2⟩
    · exact ⟨a, by simp, h2⟩
  · rintro ⟨c, h1, h2⟩
    rcases List.mem_append.1 h1 with h1 | h1
    · exact .inl ⟨c, h1, h2⟩
    · rw [List.mem_singleton] at h1
      injection h1 with e1 e2
      subst e1 e2
      exact .inr ⟨rfl, h2⟩

theorem LpQ.all (hc : ckWay nx = 0) (ht : TbP nx tb) {h x : Nat} : LpQ nx tb (clL nx tb).length h x ↔ LoopP nx h x := by
  unfold LpQ LoopP
  rw [List.take_length]
  constructor
  · rintro ⟨a, h1, h2⟩
    obtain ⟨h3, h4⟩ := (clL_mem hc ht).1 h1
    exact ⟨a, h3, h4, h2⟩
  · rintro ⟨a, h1, h2, h3⟩
    exact ⟨a, (clL_mem hc ht).2 ⟨h1, h2⟩, h3⟩

end

/-! ### Merged -/

/-- the nodes of a word -/
def ndW (n L : Nat) : List Nat := (List.range n).filter fun x => L.testBit x

theorem ndW_mem {n L x : Nat} : x ∈ ndW n L ↔ x < n ∧ L.testBit x = true := by unfold ndW; rw [List.mem_filter, List.mem_range]

theorem ndW_nodup (n L : Nat) : (ndW n L).Nodup := List.nodup_range.filter _

theorem ndW_len (L : Nat) : ∀ n, (ndW n L).length = szW L n
  | 0 => rfl
  | n + 1 => by
    have ih := ndW_len L n
    unfold ndW at ih ⊢
    rw [List.range_succ, List.filter_append, List.length_append, ih, szW]
    by_cases h : L.testBit n = true
    · simp [h]
    · simp [h]

/-- the graph of what is left: its nodes, and for each what leads to it -/
def gW (n L : Nat) (bs : List Nat) : Gf := ⟨ndW n L, fun x y => (bs.getD y 0).testBit x = true⟩

theorem getD_at {bs : List Nat} {i W : Nat} (h : bs[i]? = some W) : bs.getD i 0 = W := by rw [List.getD_eq_getElem?_getD, h]; rfl

theorem getD_out {bs : List Nat} {i : Nat} (h : bs.length ≤ i) : bs.getD i 0 = 0 := by rw [List.getD_eq_getElem?_getD, List.getElem?_eq_none h]; rfl

theorem getD_setO {bs : List Nat} {i x j : Nat} (hi : i < bs.length) : (bs.set i x).getD j 0 = if j = i then x else bs.getD j 0 := by
  rw [List.getD_eq_getElem?_getD, List.getElem?_set, List.getD_eq_getElem?_getD]
  by_cases e : i = j
  · subst e; rw [if_pos rfl, if_pos hi, if_pos rfl]; rfl
  · rw [if_neg e, if_neg (Ne.symm e)]

/-- on the way -/
structure FdI (nx : List (List Int)) (L : Nat) (bs : List Nat) : Prop where
  len : bs.length = nx.length
  inn : ∀ i v, (bs.getD i 0).testBit v = true → L.testBit i = true ∧ L.testBit v = true
  ltL : L < 2 ^ nx.length
  red : ∀ k, Red (gW nx.length L bs) k → Red (gOf nx) k

section
variable {nx : List (List Int)} {L : Nat} {bs : List Nat}

theorem FdI.lt (h : FdI nx L bs) (h8 : nx.length ≤ 8) {i W : Nat} (hW : bs[i]? = some W) : W < 256 :=
  lt_of_bits (n := 8) fun j hj => by
    have := bit_lt h.ltL (h.inn i j (by rw [getD_at hW]; exact hj)).2
    omega

theorem FdI.start (hc : ckWay nx = 0) (hb : EgI nx bs (LdP nx)) (hL : ∀ i, L.testBit i = true ↔ Rea nx (-1) 0 i) : FdI nx L bs := by
  have hbd := ckWay_bd hc
  have at_ : ∀ i, i < nx.length → bs[i]? = some (bs.getD i 0) := fun i hi => by
    rw [List.getD_eq_getElem?_getD, List.getElem?_eq_getElem (by rw [hb.len]; exact hi)]; rfl
  have hlt : ∀ i v, (bs.getD i 0).testBit v = true → i < nx.length := fun i v h => Classical.byContradiction fun hn => by
    rw [getD_out (by rw [hb.len]; omega)] at h
    simp at h
  refine ⟨hb.len, fun i v h => ?_, lt_of_bits fun j hj => ((hL j).1 hj).lt hc (by omega), fun k hk => ?_⟩
  · obtain ⟨h1, h2⟩ := (hb.mem i _ (at_ i (hlt i v h)) v).1 h
    exact ⟨(hL i).2 (h1.step h2 (nat_ne i)), (hL v).2 h1⟩
  · have he : Eqv (gW nx.length L bs) (gOf nx) := by
      have hmem : ∀ x, x ∈ ndW nx.length L ↔ x ∈ finL nx := fun x => by
        rw [ndW_mem, hL, fin_mem hc]
        exact ⟨fun h => h.2, fun h => ⟨h.lt hc (by omega), h⟩⟩
      refine ⟨fin_nodup hc, hmem, fun x y hx hy _ => ?_⟩
      have hyl : y < nx.length := (ndW_mem.1 hy).1
      have hrx : Rea nx (-1) 0 x := (hL x).1 (ndW_mem.1 hx).2
      show (bs.getD y 0).testBit x = true ↔ y ∈ sc nx x
      rw [hb.mem y _ (at_ y hyl) x]
      exact ⟨fun h => h.2, fun h => ⟨hrx, h⟩⟩
    exact he.red (ndW_nodup _ _) hk

/-- T1 -/
theorem FdI.self (h : FdI nx L bs) (h8 : nx.length ≤ 8) {v W : Nat} (hW : bs[v]? = some W) : FdI nx L (bs.set v (clW W v)) := by
  have hvl : v < bs.length := (List.getElem?_eq_some_iff.1 hW).1
  have hW8 := h.lt h8 hW
  have hv8 : v < 32 := by have := h.len; omega
  have hbit : ∀ i x, x ≠ i → (((bs.set v (clW W v)).getD i 0).testBit x = true ↔ (bs.getD i 0).testBit x = true) := fun i x hne => by
    rw [getD_setO hvl]
    by_cases e : i = v
    · subst e
      rw [if_pos rfl, clW_bit8 hW8 hv8, getD_at hW]
      exact ⟨fun h => h.1, fun h => ⟨h, hne⟩⟩
    · rw [if_neg e]
  refine ⟨by rw [List.length_set]; exact h.len, fun i x hx => ?_, h.ltL, fun k hk => h.red k ?_⟩
  · rw [getD_setO hvl] at hx
    by_cases e : i = v
    · subst e
      rw [if_pos rfl, clW_bit8 hW8 hv8] at hx
      exact h.inn i x (by rw [getD_at hW]; exact hx.1)
    · rw [if_neg e] at hx
      exact h.inn i x hx
  · have he : Eqv (gW nx.length L (bs.set v (clW W v))) (gW nx.length L bs) := ⟨ndW_nodup _ _, fun x => Iff.rfl, fun x y _ _ hne => hbit y x hne⟩
    exact he.red (ndW_nodup _ _) hk

/-- what merge makes of the words of the first m nodes -/
structure MgI (n v I m : Nat) (bs bs' : List Nat) : Prop where
  len : bs'.length = n
  at_ : ∀ i, bs'.getD i 0 = if i = v then 0 else if i < m ∧ (bs.getD i 0).testBit v = true then clW (bs.getD i 0) v ||| I else bs.getD i 0

theorem MgI.start {n v I : Nat} (hl : bs.length = n) (hv : v < n) : MgI n v I 0 bs (bs.set v 0) := by
  refine ⟨by rw [List.length_set]; exact hl, fun i => ?_⟩
  rw [getD_setO (by omega)]
  by_cases e : i = v
  · rw [if_pos e, if_pos e]
  · rw [if_neg e, if_neg e, if_neg (by omega)]

theorem MgI.skip {n v I m : Nat} {bs' : List Nat} (h : MgI n v I m bs bs') (hb : (bs'.getD m 0).testBit v = false) : MgI n v I (m + 1) bs bs' := by
  refine ⟨h.len, fun i => ?_⟩
  rw [h.at_ i]
  by_cases e : i = v
  · rw [if_pos e, if_pos e]
  · rw [if_neg e, if_neg e]
    by_cases e2 : i = m
    · subst e2
      rw [h.at_ i, if_neg e, if_neg (by omega)] at hb
      rw [if_neg (by omega), if_neg (by rw [hb]; simp)]
    · have : (i < m ∧ (bs.getD i 0).testBit v = true) ↔ (i < m + 1 ∧ (bs.getD i 0).testBit v = true) := ⟨fun h => ⟨by omega, h.2⟩, fun h => ⟨by omega, h.2⟩⟩
      simp only [this]

theorem MgI.more {n v I m : Nat} {bs' : List Nat} (h : MgI n v I m bs bs') (hm : m < n) (hb : (bs'.getD m 0).testBit v = true) : MgI n v I (m + 1) bs (bs'.set m (clW (bs'.getD m 0) v ||| I)) := by
  have hmv : m ≠ v := fun e => by
    rw [h.at_ m, if_pos e] at hb
    simp at hb
  have hsame : bs'.getD m 0 = bs.getD m 0 := by rw [h.at_ m, if_neg hmv, if_neg (by omega)]
  refine ⟨by rw [List.length_set]; exact h.len, fun i => ?_⟩
  rw [getD_setO (by rw [h.len]; exact hm)]
  by_cases e2 : i = m
  · subst e2
    rw [if_pos rfl, if_neg hmv, if_pos ⟨by omega, by rw [← hsame]; exact hb⟩, hsame]
  · rw [if_neg e2, h.at_ i]
    have : (i < m ∧ (bs.getD i 0).testBit v = true) ↔ (i < m + 1 ∧ (bs.getD i 0).testBit v = true) := ⟨fun h => ⟨by omega, h.2⟩, fun h => ⟨by omega, h.2⟩⟩
    simp only [this]

/-- T2 -/
theorem FdI.merge (hc : ckWay nx = 0) (h : FdI nx L bs) {v p : Nat} {bs' : List Nat} (hv : v ≠ 0) (hW : bs[v]? = some (2 ^ p)) (hpv : p ≠ v) (hm : MgI nx.length v (2 ^ p) nx.length bs bs') : FdI nx (clW L v) bs' := by
  have hbd := ckWay_bd hc
  have hvl : v < nx.length := by rw [← h.len]; exact (List.getElem?_eq_some_iff.1 hW).1
  have hgW : bs.getD v 0 = 2 ^ p := getD_at hW
  obtain ⟨hLv, hLp⟩ := h.inn v p (by rw [hgW, two_pow_bit])
  have hpl : p < nx.length := bit_lt h.ltL hLp
  have hL8 : L < 256 := Nat.lt_of_lt_of_le h.ltL (show 2 ^ nx.length ≤ 2 ^ 8 from Nat.pow_le_pow_right (by omega) (by omega))
  have hcl := fun k => clW_bit8 hL8 (show v < 32 by omega) k
  have hW8 : ∀ i, bs.getD i 0 < 256 := fun i => by
    rcases Nat.lt_or_ge i bs.length with hi | hi
    · exact h.lt (by omega) (show bs[i]? = some (bs.getD i 0) by rw [List.getD_eq_getElem?_getD, List.getElem?_eq_getElem hi]; rfl)
    · rw [getD_out hi]; omega
  have hbits : ∀ i x, (bs'.getD i 0).testBit x = true ↔ i ≠ v ∧ (((bs.getD i 0).testBit x = true ∧ ((bs.getD i 0).testBit v = true → x ≠ v)) ∨ (x = p ∧ (bs.getD i 0).testBit v = true)) := fun i x => by
    rw [hm.at_ i]
    by_cases e : i = v
    · rw [if_pos e]; simp [e]
    · rw [if_neg e]
      by_cases hb : (bs.getD i 0).testBit v = true
      · have hil : i < nx.length := Classical.byContradiction fun hn => by
          rw [getD_out (by rw [h.len]; omega)] at hb
          simp at hb
        rw [if_pos ⟨hil, hb⟩, or_one_bit, clW_bit8 (hW8 i) (by omega)]
        constructor
        · rintro (⟨h1, h2⟩ | h1)
          · exact ⟨e, .inl ⟨h1, fun _ => h2⟩⟩
          · exact ⟨e, .inr ⟨h1, hb⟩⟩
        · rintro ⟨_, ⟨h1, h2⟩ | ⟨h1, _⟩⟩
          · exact .inl ⟨h1, h2 hb⟩
          · exact .inr h1
      · rw [if_neg (fun h => hb h.2)]
        constructor
        · intro h1
          exact ⟨e, .inl ⟨h1, fun h => absurd h hb⟩⟩
        · rintro ⟨_, ⟨h1, _⟩ | ⟨_, h1⟩⟩
          · exact h1
          · exact absurd h1 hb
  refine ⟨hm.len, fun i x hx => ?_, Nat.lt_of_le_of_lt (clW_le _ _) h.ltL, fun k hk => h.red k ?_⟩
  · obtain ⟨h1, h2⟩ := (hbits i x).1 hx
    rcases h2 with ⟨h2, h3⟩ | ⟨rfl, h2⟩
    · obtain ⟨h4, h5⟩ := h.inn i x h2
      refine ⟨(hcl i).2 ⟨h4, h1⟩, (hcl x).2 ⟨h5, fun e => ?_⟩⟩
      subst e
      exact h3 h2 rfl
    · exact ⟨(hcl i).2 ⟨(h.inn i v h2).1, h1⟩, (hcl x).2 ⟨hLp, hpv⟩⟩
  · have hs : Stp (gW nx.length L bs) (gW nx.length (clW L v) bs') v p := by
      refine ⟨⟨hv, ndW_mem.2 ⟨hvl, hLv⟩, ndW_mem.2 ⟨hpl, hLp⟩, hpv, ?_, fun q _ _ hq => ?_⟩, ndW_nodup _ _, fun x => ?_, fun x y hx hy hne => ?_⟩
      · show (bs.getD v 0).testBit p = true
        rw [hgW, two_pow_bit]
      · change (bs.getD v 0).testBit q = true at hq
        rw [hgW, two_pow_bit] at hq
        exact hq
      · show x ∈ ndW nx.length (clW L v) ↔ x ∈ ndW nx.length L ∧ x ≠ v
        rw [ndW_mem, ndW_mem, hcl, and_assoc]
      · have hxv : x ≠ v := ((hcl x).1 (ndW_mem.1 hx).2).2
        have hyv : y ≠ v := ((hcl y).1 (ndW_mem.1 hy).2).2
        show (bs'.getD y 0).testBit x = true ↔ (bs.getD y 0).testBit x = true ∨ (x = p ∧ (bs.getD y 0).testBit v = true)
        rw [hbits]
        constructor
        · rintro ⟨_, ⟨h1, _⟩ | h1⟩
          · exact .inl h1
          · exact .inr h1
        · rintro (h1 | h1)
          · exact ⟨hyv, .inl ⟨h1, fun _ => hxv⟩⟩
          · exact ⟨hyv, .inr h1⟩
    exact .step hs hk

/-- nothing is to be done at the first m nodes -/
def QtI (bs : List Nat) (m : Nat) : Prop := ∀ v, v < m → (bs.getD v 0).testBit v = false ∧ (v = 0 ∨ szW (bs.getD v 0) 8 ≠ 1)

theorem szW_one1 {n W p : Nat} (hp : p < n) (hW : W.testBit p = true) (h : ∀ q, q < n → W.testBit q = true → q = p) : szW W n = 1 := by
  rw [← ndW_len]
  have h1 : ∀ x, x ∈ ndW n W ↔ x ∈ [p] := fun x => by
    rw [ndW_mem, List.mem_singleton]
    exact ⟨fun h2 => h x h2.1 h2.2, fun e => by subst e; exact ⟨hp, hW⟩⟩
  exact set_len (ndW_nodup _ _) (by simp) h1

theorem szW_pow {n W : Nat} (hW : W < 2 ^ n) (h : szW W n = 1) : ∃ p, p < n ∧ W = 2 ^ p := by
  rw [← ndW_len] at h
  obtain ⟨p, hp⟩ := List.length_eq_one_iff.1 h
  have hm : ∀ x, x < n ∧ W.testBit x = true ↔ x = p := fun x => by rw [← ndW_mem, hp, List.mem_singleton]
  have hpp := (hm p).2 rfl
  refine ⟨p, hpp.1, word_ext fun j => ?_⟩
  rw [two_pow_bit]
  exact ⟨fun hj => (hm j).1 ⟨bit_lt hW hj, hj⟩, fun e => by subst e; exact hpp.2⟩

theorem FdI.stop (hc : ckWay nx = 0) (h : FdI nx L bs) (hq : QtI bs nx.length) : Red (gOf nx) (szW L nx.length) := by
  have hbd := ckWay_bd hc
  refine h.red _ ?_
  rw [← ndW_len]
  refine .stop (G := gW nx.length L bs) fun i p hcl => ?_
  have hil := (ndW_mem.1 hcl.iV).1
  have hpl := (ndW_mem.1 hcl.pV).1
  obtain ⟨h1, h2⟩ := hq i hil
  rcases h2 with h2 | h2
  · exact hcl.i0 h2
  · have hE : (bs.getD i 0).testBit p = true := hcl.e
    refine h2 (szW_one1 (p := p) (by omega) hE fun q _ hq2 => ?_)
    have hin := (h.inn i q hq2).2
    by_cases e : q = i
    · subst e; rw [h1] at hq2; cases hq2
    · exact hcl.one q (ndW_mem.2 ⟨bit_lt h.ltL hin, hin⟩) e hq2

theorem QtI.next {m W : Nat} (h : QtI bs m) (hW : bs[m]? = some W) (hm : m < 32) (hW8 : W < 256) (hs : m = 0 ∨ szW (clW W m) 8 ≠ 1) : QtI (bs.set m (clW W m)) (m + 1) := by
  have hml : m < bs.length := (List.getElem?_eq_some_iff.1 hW).1
  intro v hv
  rw [getD_setO hml]
  by_cases e : v = m
  · subst e
    rw [if_pos rfl]
    refine ⟨?_, hs⟩
    cases hb : (clW W v).testBit v with
    | false => rfl
    | true => exact absurd rfl ((clW_bit8 hW8 hm v).1 hb).2
  · rw [if_neg e]
    exact h v (by omega)

theorem szW_clW {n L v : Nat} (hL : L < 256) (hv : v < n) (hv32 : v < 32) (hb : L.testBit v = true) : szW (clW L v) n + 1 = szW L n := by
  have h1 : (ndW n (clW L v)).length = ((ndW n L).erase v).length := set_len (ndW_nodup _ _) ((ndW_nodup _ _).erase v) fun x => by
    rw [(ndW_nodup n L).mem_erase_iff, ndW_mem, ndW_mem, clW_bit8 hL hv32]
    exact ⟨fun h => ⟨h.2.2, h.1, h.2.1⟩, fun h => ⟨h.2.1, h.2.2, h.1⟩⟩
  have hm : v ∈ ndW n L := ndW_mem.2 ⟨hv, hb⟩
  have h2 := List.length_erase_of_mem hm
  have := List.length_pos_of_mem hm
  rw [ndW_len] at h1
  rw [h2, ndW_len] at h1
  rw [ndW_len] at this
  omega

end

end Go.Proofs.Ytfhnhbkdhdocjaa
