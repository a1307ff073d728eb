/-
  Plain mathematics of loops (G1, G2): natural loops, tame graphs, folding: no program's text.
-/
import Derived.Test.YtfijkkllfbpepaaPureShrink
namespace Go.Proofs.Ytfijkkllfbpepaa
set_option linter.unusedSimpArgs false
set_option linter.unusedVariables false

/-! ### Folded -/

theorem ReG.start {G : Gf} {wo : Int} {x : Nat} (h : ReG G wo x) : (0 : Int) ≠ wo := by
  induction h with
  | here h => exact h
  | step _ _ _ _ _ ih => exact ih

theorem one_left {G : Gf} (h : G.Ok) (ht : TmG G) (hn : ∀ i p, ¬ Cl G i p) : G.V.length = 1 := by
  have hb := no_below h ht hn G.V.length G.V 0 (Nat.le_refl _) h.zero fun x hx _ _ => hx
  have : G.V.length = [0].length := set_len h.nd (by simp) fun x => by
    constructor
    · intro hx
      by_cases e : x = 0
      · simp [e]
      · exact absurd rfl (hb x hx e).start
    · intro hx
      simp at hx
      subst hx
      exact h.zero
  simpa using this

theorem one_tame {G : Gf} (h : G.Ok) (h1 : G.V.length = 1) : TmG G := by
  refine ⟨fun _ => 0, fun a b ha hb hne _ => ?_⟩
  exfalso
  obtain ⟨v, hv⟩ := List.length_eq_one_iff.1 h1
  rw [hv] at ha hb
  simp at ha hb
  omega

theorem not_two {G : Gf} (h : G.Ok) (hn : ∀ i p, ¬ Cl G i p) : G.V.length ≠ 2 := by
  intro h2
  obtain ⟨x, hx, hx0⟩ : ∃ x, x ∈ G.V ∧ x ≠ 0 := by
    refine Classical.byContradiction fun hno => ?_
    have : G.V.length ≤ 1 := nodup_len h.nd fun x hx => by
      have : x = 0 := Classical.byContradiction fun e => hno ⟨x, hx, e⟩
      omega
    omega
  have honly : ∀ y ∈ G.V, y ≠ x → y = 0 := by
    intro y hy hyx
    refine Classical.byContradiction fun hy0 => ?_
    have : [0, x, y].length ≤ G.V.length := by
      have hnd : [0, x, y].Nodup := by simp; omega
      have hsub : ∀ z ∈ [0, x, y], z ∈ G.V := fun z hz => by
        simp at hz
        rcases hz with rfl | rfl | rfl
        · exact h.zero
        · exact hx
        · exact hy
      have key : ∀ {l m : List Nat}, l.Nodup → (∀ x, x ∈ l → x ∈ m) → l.length ≤ m.length := by
        intro l
        induction l with
        | nil => intro m _ _; simp
        | cons a l ih =>
          intro m hd hs
          obtain ⟨h1, h2⟩ := List.nodup_cons.1 hd
          have ha : a ∈ m := hs a (List.mem_cons_self ..)
          have := ih (m := m.erase a) h2 fun x hx => by
            have hxa : x ≠ a := fun e => by subst e; exact h1 hx
            rw [List.mem_erase_of_ne hxa]
            exact hs x (List.mem_cons_of_mem _ hx)
          have hlen := List.length_erase_of_mem ha
          have := List.length_pos_of_mem ha
          simp
          omega
      exact key hnd hsub
    simp at this
    omega
  obtain ⟨y, hy, hyx, hE⟩ := (h.rea x hx).pred hx0
  have hyV := hy.inV h.zero
  have := honly y hyV hyx
  subst this
  exact hn x 0 ⟨hx0, hx, hyV, hyx, hE, fun q hq hqx _ => honly q hq hqx⟩

/-- HECHT, ULLMAN: just the tame ones come down to one node; to two none comes down -/
theorem red_tame {G : Gf} {k : Nat} (hr : Red G k) (h : G.Ok) : (TmG G ↔ k = 1) ∧ 1 ≤ k ∧ k ≠ 2 := by
  induction hr with
  | stop hn => exact ⟨⟨fun ht => one_left h ht hn, fun h1 => one_tame h h1⟩, List.length_pos_of_mem h.zero, not_two h hn⟩
  | step hs _ ih =>
    obtain ⟨h1, h2⟩ := ih (hs.ok h)
    exact ⟨(hs.tame h).trans h1, h2⟩

/-- the part of a graph to which one comes -/
def gOf (nx : List (List Int)) : Gf := ⟨finL nx, fun x y => y ∈ sc nx x⟩

/-- G1: is the graph tame? -/
def TameP (nx : List (List Int)) : Prop := ∀ a b, (a, b) ∈ bkL nx → Dom nx b a

section
variable {nx : List (List Int)} (hc : ckWay nx = 0)
include hc

theorem reG_iff {wo : Int} {x : Nat} : ReG (gOf nx) wo x ↔ Rea nx wo 0 x := by
  constructor
  · intro h
    induction h with
    | here h => exact .here h
    | step _ _ _ h4 h5 ih => exact ih.step h4 h5
  · intro h
    induction h with
    | here h => exact .here h
    | @step j k h1 h2 h3 ih =>
      by_cases e : j = k
      · subst e; exact ih
      · exact ih.step e ((fin_mem hc).2 ((h1.plain).step h2 (nat_ne k))) h2 h3

theorem gOf_ok : (gOf nx).Ok := ⟨fin_nodup hc, (fin_mem hc).2 (Rea.me nx 0), fun x hx => (reG_iff hc).2 ((fin_mem hc).1 hx)⟩

theorem tame_iff : TameP nx ↔ TmG (gOf nx) := by
  constructor
  · intro h
    refine ⟨fun x => nx.length - posL (finL nx) x, fun a b ha hb hne hE => ?_⟩
    by_cases hbk : (a, b) ∈ bkL nx
    · right
      rw [reG_iff hc]
      exact (h a b hbk).2.2.resolve_left (Ne.symm hne)
    · left
      have h1 : ¬ posL (finL nx) a ≤ posL (finL nx) b := fun h => hbk ((bkL_mem hc).2 ⟨ha, hE, h⟩)
      have h2 : posL (finL nx) a < (finL nx).length := (posL_lt ha).1
      have h3 := fin_len hc
      show nx.length - posL (finL nx) a < nx.length - posL (finL nx) b
      omega
  · rintro ⟨num, hnum⟩ a b hbk
    obtain ⟨ha, hb, _⟩ := (bkL_mem hc).1 hbk
    have har := (fin_mem hc).1 ha
    have hbr := har.step hb (nat_ne b)
    by_cases e : b = a
    · subst e; exact Dom.me har
    · have hbV := (fin_mem hc).2 hbr
      have hup : ∀ x, Frea nx b x → x ∈ finL nx ∧ num b ≤ num x ∧ (x ≠ b → num b < num x) := by
        intro x hx
        induction hx with
        | here => exact ⟨hbV, Nat.le_refl _, fun h => absurd rfl h⟩
        | @step j k h1 h2 ih =>
          obtain ⟨i1, i2, _⟩ := ih
          have hkV := fin_sc hc i1 h2.1
          have hjk : j ≠ k := fun e => by subst e; exact h2.2.stop rfl
          rcases hnum j k i1 hkV hjk h2.1 with g | g
          · exact ⟨hkV, by omega, fun _ => by omega⟩
          · exact absurd ((reG_iff hc).2 h2.2) g
      obtain ⟨_, _, hlt⟩ := hup a (bk_frea hc hbk)
      have := hlt (Ne.symm e)
      rcases hnum a b ha hbV (Ne.symm e) hb with g | g
      · omega
      · exact ⟨hbr, har, .inr fun hr => g ((reG_iff hc).2 hr)⟩

/-- G2: so many nodes are left -/
theorem folds_one {k k' : Nat} (h : Red (gOf nx) k) (h' : Red (gOf nx) k') : k = k' := red_one _ _ (gOf_ok hc) (Nat.le_refl _) _ _ h h'

theorem folds_tame {k : Nat} (h : Red (gOf nx) k) : (TameP nx ↔ k = 1) ∧ 1 ≤ k ∧ k ≠ 2 := by
  rw [tame_iff hc]
  exact red_tame h (gOf_ok hc)

end

/-! ### Loops -/

/-- G1: is x in the loop of the head h? -/
def LoopP (nx : List (List Int)) (h x : Nat) : Prop := ∃ a, (a, h) ∈ bkL nx ∧ Dom nx h a ∧ (x = h ∨ (Rea nx (-1) 0 x ∧ Rea nx (h : Int) x a))

/-- on a way one comes from the last i, or not by i -/
theorem Rea.via {nx : List (List Int)} {wo : Int} {y b i : Nat} (hi : (i : Int) ≠ wo) (h : Rea nx wo y b) : Rea nx (i : Int) y b ∨ Rea nx wo i b := by
  induction h with
  | here h =>
    by_cases e : y = i
    · subst e; exact .inr (.here h)
    · exact .inl (.here (int_ne e))
  | @step j k h1 h2 h3 ih =>
    by_cases e : k = i
    · subst e; exact .inr (.here h3)
    · rcases ih with ih | ih
      · exact .inl (ih.step h2 (int_ne e))
      · exact .inr (ih.step h2 h3)

section
variable {nx : List (List Int)} (hc : ckWay nx = 0)
include hc

omit hc in
/-- a head dominates all its loop -/
theorem loop_dom {h x : Nat} (hl : LoopP nx h x) : Dom nx h x := by
  obtain ⟨a, hbk, hd, hx⟩ := hl
  rcases hx with rfl | ⟨hr, hxa⟩
  · exact Dom.me hd.1
  · refine ⟨hd.1, hr, ?_⟩
    by_cases e : h = x
    · exact .inl e
    · right
      intro hn
      have := hn.trans hxa
      rcases hd.2.2 with e2 | e2
      · subst e2; exact this.stop rfl
      · exact e2 this

omit hc in
theorem loop_head {h x : Nat} (hl : LoopP nx h x) : LoopP nx h h := by
  obtain ⟨a, h1, h2, _⟩ := hl
  exact ⟨a, h1, h2, .inl rfl⟩

/-- ALLEN; COCKE: of two loops that have something in common the one with the inner head is within the other one -/
theorem loop_in {i j x y : Nat} (hij : i ≠ j) (hi : LoopP nx i x) (hj : LoopP nx j x) (hd : Dom nx i j) (hy : LoopP nx j y) : LoopP nx i y := by
  have hdi := loop_dom hi
  have hdj := loop_dom hj
  have hn : Rea nx (j : Int) 0 i := Classical.byContradiction fun h => hij (Dom.anti hd ⟨hd.2.1, hd.1, .inr h⟩)
  have hji : ¬ Rea nx (i : Int) 0 j := hd.2.2.resolve_left hij
  obtain ⟨a, hbk, hda, hx⟩ := hi
  -- x is not i
  have hxi : x ≠ i := fun e => by
    subst e
    rcases hdj.2.2 with e2 | e2
    · exact hij e2.symm
    · exact e2 hn
  obtain ⟨hrx, hxa⟩ := hx.resolve_left hxi
  have hjx : Rea nx (i : Int) j x := by
    by_cases e : j = x
    · subst e; exact .here (int_ne (Ne.symm hij))
    · rcases Rea.last hij hrx with g | g | ⟨g, _⟩
      · exact g
      · exact absurd (hn.trans g) (hdj.2.2.resolve_left e)
      · rcases hdi.2.2 with e2 | e2
        · exact absurd e2.symm hxi
        · exact absurd g e2
  have hja := hjx.trans hxa
  obtain ⟨b, hbk2, hdb, hy⟩ := hy
  refine ⟨a, hbk, hda, .inr ?_⟩
  rcases hy with rfl | ⟨hry, hyb⟩
  · exact ⟨hd.2.1, hja⟩
  · refine ⟨hry, ?_⟩
    rcases hyb.via (i := i) (int_ne hij) with g | g
    · have hbj := ((bkL_mem hc).1 hbk2).2.1
      exact (g.step hbj (int_ne (Ne.symm hij))).trans hja
    · rcases hdb.2.2 with e2 | e2
      · subst e2; exact absurd rfl g.stop
      · exact absurd (hn.trans g) e2

theorem loop_nest {i j x : Nat} (hij : i ≠ j) (hi : LoopP nx i x) (hj : LoopP nx j x) : (∀ y, LoopP nx i y → LoopP nx j y) ∨ (∀ y, LoopP nx j y → LoopP nx i y) := by
  rcases (loop_dom hi).chain (loop_dom hj) with h | h
  · exact .inr fun y hy => loop_in hc hij hi hj h hy
  · exact .inl fun y hy => loop_in hc (Ne.symm hij) hj hi h hy

/-- what is in a loop goes round -/
theorem loop_round {h x : Nat} (hl : LoopP nx h x) : Rea nx (-1) 0 x ∧ (x ∈ sc nx x ∨ ∃ j, j ≠ x ∧ Both nx x j) := by
  have hd := loop_dom hl
  obtain ⟨a, hbk, hda, hx⟩ := hl
  have hah := ((bkL_mem hc).1 hbk).2.1
  have hha := bk_round hc hbk
  refine ⟨hd.2.1, ?_⟩
  rcases hx with rfl | ⟨hr, hxa⟩
  · by_cases e : a = x
    · subst e; exact .inl hah
    · exact .inr ⟨a, e, hha, Rea.edge (nat_ne a) hah (nat_ne x)⟩
  · have hxh : Rea nx (-1) x h := (hxa.plain).step hah (nat_ne h)
    have hne : h ≠ x := fun e => hxa.start (by rw [e])
    refine .inr ⟨h, hne, hxh, ?_⟩
    -- one comes from h to x
    rcases Rea.by_ (b := h) hr with g | g
    · -- 0 to h; from h on
      rcases Rea.last (a := h) (b := x) hne hr with q | q | ⟨q, _⟩
      · -- from the last h no: x to x without h: by dominance
        rcases hr.via (i := h) (nat_ne h) with g2 | g2
        · exact absurd g2 (hd.2.2.resolve_left hne)
        · exact g2
      · exact absurd rfl q.stop
      · exact absurd q (hd.2.2.resolve_left hne)
    · exact absurd g (hd.2.2.resolve_left hne)

omit hc in
/-- the first time that one comes to h -/
theorem Rea.arrive {i h : Nat} (hr : Rea nx (-1) i h) (hne : i ≠ h) : ∃ a, Rea nx (h : Int) i a ∧ h ∈ sc nx a := by
  have : ∀ x, Rea nx (-1) i x → Rea nx (h : Int) i x ∨ ∃ a, Rea nx (h : Int) i a ∧ h ∈ sc nx a := by
    intro x hx
    induction hx with
    | here => exact .inl (.here (int_ne hne))
    | @step j k h1 h2 h3 ih =>
      rcases ih with ih | ih
      · by_cases e : k = h
        · subst e; exact .inr ⟨j, ih, h2⟩
        · exact .inl (ih.step h2 (int_ne e))
      · exact .inr ih
  rcases this h hr with g | g
  · exact absurd rfl g.stop
  · exact g

/-- HECHT, ULLMAN: in a tame graph what goes round is in a loop -/
theorem round_loop (ht : TameP nx) {i : Nat} (hi : Rea nx (-1) 0 i) (hr : i ∈ sc nx i ∨ ∃ j, j ≠ i ∧ Both nx i j) : ∃ h, LoopP nx h i := by
  -- of its part the node that is left last
  obtain ⟨h, hh, hmax⟩ := min_num (fun x => nx.length - posL (finL nx) x) (P := fun x => Both nx i x) ⟨i, Rea.me nx i, Rea.me nx i⟩
  have hin : ∀ x, Both nx i x → x ∈ finL nx := fun x hx => (fin_mem hc).2 (hi.trans hx.1)
  have hle : ∀ x, Both nx i x → posL (finL nx) x ≤ posL (finL nx) h := fun x hx => by
    have h1 := hmax x hx
    have h2 := (posL_lt (hin x hx)).1
    have h3 := (posL_lt (hin h hh)).1
    have h4 := fin_len hc
    omega
  have main : ∀ a, Both nx i a → h ∈ sc nx a → (i = h ∨ Rea nx (h : Int) i a) → ∃ h, LoopP nx h i := by
    intro a ha hah hia
    have hbk : (a, h) ∈ bkL nx := (bkL_mem hc).2 ⟨hin a ha, hah, hle a ha⟩
    exact ⟨h, a, hbk, ht a h hbk, hia.imp id fun q => ⟨hi, q⟩⟩
  by_cases e : i = h
  · subst e
    rcases hr with hr | ⟨j, hj, hb⟩
    · exact main i ⟨Rea.me nx i, Rea.me nx i⟩ hr (.inl rfl)
    · obtain ⟨a, h1, h2⟩ := Rea.arrive hb.2 hj
      exact main a ⟨hb.1.trans h1.plain, Rea.edge (nat_ne a) h2 (nat_ne i)⟩ h2 (.inl rfl)
  · obtain ⟨a, h1, h2⟩ := Rea.arrive hh.1 e
    exact main a ⟨h1.plain, (Rea.edge (nat_ne a) h2 (nat_ne h)).trans hh.2⟩ h2 (.inr h1)

theorem LoopP.lt {h x : Nat} (hl : LoopP nx h x) : h < nx.length ∧ x < nx.length := (loop_dom hl).lt hc

end

end Go.Proofs.Ytfijkkllfbpepaa
