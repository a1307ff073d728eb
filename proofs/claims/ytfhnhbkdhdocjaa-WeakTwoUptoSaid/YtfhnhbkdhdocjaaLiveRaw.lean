/-
  Programs as rows of cells: copied, a block written anew; how many steps there are.
-/
import Derived.Test.YtfhnhbkdhdocjaaStepsCut
import Derived.Test.YtfhnhbkdhdocjaaMPure
namespace Go.Proofs.Ytfhnhbkdhdocjaa
open Go.RowKit Go.ChangeShapes Go.WideShapes Go.ChangeAt Go.Deep
set_option linter.unusedSimpArgs false
set_option linter.unusedVariables false
set_option maxRecDepth 100000

/-- a block and where its steps lie, as cells -/
def cBk (q : Bk × Option Addr × Nat) : List Value := [.slice q.2.1 q.1.code.length q.2.2, .int .i64 q.1.test, .int .i64 q.1.th, .int .i64 q.1.el]

theorem cBk_len (q : Bk × Option Addr × Nat) : (cBk q).length = 4 := rfl

theorem cBk_one (l : List (Bk × Option Addr × Nat)) : ∀ u ∈ rv cBk l, u.oneCell' = true := rv_all (fun x u hu => by
  simp [cBk] at hu
  rcases hu with rfl | rfl | rfl | rfl <;> rfl) l

/-- steps within reach -/
def RawOk (w : World) (B : Nat) (qs : List (Bk × Option Addr × Nat)) : Prop := ∀ (k : Nat) (q : Bk × Option Addr × Nat), qs[k]? = some q → RdS w B q.2.1 q.1.code ∧ q.1.code.length ≤ q.2.2

theorem RawOk.below {w w' : World} {B B' : Nat} {qs : List (Bk × Option Addr × Nat)} (h : RawOk w B qs) (hb : Below B' w w') (hB : B ≤ B') : RawOk w' B qs := fun k q hq => ⟨(h k q hq).1.below hb hB, (h k q hq).2⟩

theorem RawOk.more {w : World} {B B' : Nat} {qs : List (Bk × Option Addr × Nat)} (h : RawOk w B qs) (hB : B ≤ B') : RawOk w B' qs := fun k q hq => ⟨(h k q hq).1.more hB, (h k q hq).2⟩

theorem rdP_raw {w : World} {B : Nat} {A : Option Addr} {p : List Bk} (h : RdP w B A p) : ∃ qs : List (Bk × Option Addr × Nat), qs.map (·.1) = p ∧ RdR cBk w B A 4 qs ∧ RawOk w B qs := by
  rcases Nat.eq_zero_or_pos p.length with h0 | h0
  · have hp : p = [] := List.eq_nil_of_length_eq_zero h0
    subst hp
    exact ⟨[], rfl, fun hm => by simp at hm, fun k q hq => by simp at hq⟩
  · obtain ⟨ad, hA, hb, hk⟩ := h h0
    have each : ∀ k, k < p.length → ∃ q : Bk × Option Addr × Nat, p[k]? = some q.1 ∧ RdS w B q.2.1 q.1.code ∧ q.1.code.length ≤ q.2.2 ∧ ∀ i v, (cBk q)[i]? = some v → w.cell? ((ad.add (k * 4)).add i) = some v := by
      intro k hkl
      obtain ⟨Ac, cc, h1, h2, h3, h4, h5, h6⟩ := hk k _ (List.getElem?_eq_getElem hkl)
      refine ⟨(p[k], Ac, cc), List.getElem?_eq_getElem hkl, h1, h6, fun i v hv => ?_⟩
      have hi : i = 0 ∨ i = 1 ∨ i = 2 ∨ i = 3 := by
        have := (List.getElem?_eq_some_iff.1 hv).1
        rw [cBk_len] at this
        omega
      rcases hi with rfl | rfl | rfl | rfl
      · simp only [cBk, List.getElem?_cons_zero, Option.some.injEq] at hv
        subst hv
        rw [addr_add_add, Nat.add_zero]
        exact h2
      · simp only [cBk, List.getElem?_cons_succ, List.getElem?_cons_zero, Option.some.injEq] at hv
        subst hv
        exact h3
      · simp only [cBk, List.getElem?_cons_succ, List.getElem?_cons_zero, Option.some.injEq] at hv
        subst hv
        exact h4
      · simp only [cBk, List.getElem?_cons_succ, List.getElem?_cons_zero, Option.some.injEq] at hv
        subst hv
        exact h5
    obtain ⟨f, hf⟩ := choose_lt each
    have hg : ∀ k, k < p.length → ((List.range p.length).map f)[k]? = some (f k) := fun k hkl => by rw [List.getElem?_map, List.getElem?_range hkl]; rfl
    refine ⟨(List.range p.length).map f, ?_, fun _ => ⟨ad, hA, hb, fun j hj => ?_⟩, fun k q hq => ?_⟩
    · apply List.ext_getElem?
      intro k
      rcases Nat.lt_or_ge k p.length with hkl | hkl
      · rw [List.getElem?_map, hg k hkl, (hf k hkl).1]; rfl
      · rw [List.getElem?_eq_none (by simpa using hkl), List.getElem?_eq_none hkl]
    · have hl : ((List.range p.length).map f).length = p.length := by simp
      rw [hl] at hj
      have hkl : j / 4 < p.length := by omega
      have hjm : j / 4 * 4 + j % 4 = j := by omega
      have hlt : j % 4 < (cBk (f (j / 4))).length := by rw [cBk_len]; omega
      have h1 := (hf (j / 4) hkl).2.2.2 (j % 4) _ (List.getElem?_eq_getElem hlt)
      rw [addr_add_add, hjm] at h1
      rw [h1]
      show _ = some ((rv cBk ((List.range p.length).map f)).getD j undef)
      have h2 := rv_at cBk_len (hg (j / 4) hkl) (i := j % 4) (by omega)
      rw [hjm] at h2
      rw [List.getD_eq_getElem?_getD, h2, List.getElem?_eq_getElem hlt]
      rfl
    · have hkl : k < p.length := by have := (List.getElem?_eq_some_iff.1 hq).1; simpa using this
      rw [hg k hkl] at hq
      injection hq with hq
      subst hq
      exact ⟨(hf k hkl).2.1, (hf k hkl).2.2.1⟩

theorem rdP_of_raw {w : World} {B : Nat} {A : Option Addr} {qs : List (Bk × Option Addr × Nat)} (h : RdR cBk w B A 4 qs) (hr : RawOk w B qs) : RdP w B A (qs.map (·.1)) := fun hm => by
  rw [List.length_map] at hm
  obtain ⟨ad, _, hA, hb, _, _⟩ := RdR.cell cBk_len (by omega) h (k := 0) hm
  subst hA
  rw [addr_add_block] at hb
  refine ⟨ad, rfl, hb, fun k b hk => ?_⟩
  rw [List.getElem?_map] at hk
  obtain ⟨q, hq, rfl⟩ := Option.map_eq_some_iff.1 hk
  have hkl := (List.getElem?_eq_some_iff.1 hq).1
  obtain ⟨ad', q', e, _, hq', hc⟩ := RdR.cell cBk_len (by omega) h hkl
  injection e with e
  subst e
  rw [hq] at hq'
  injection hq' with hq'
  subst hq'
  have h0 := hc 0 _ rfl
  rw [addr_add_add, Nat.add_zero] at h0
  exact ⟨q.2.1, q.2.2, (hr k q hq).1, h0, hc 1 _ rfl, hc 2 _ rfl, hc 3 _ rfl, (hr k q hq).2⟩

theorem RdR.newsB {w : World} {B : Nat} {A : Option Addr} {α : Type} {c : α → List Value} {m : Nat} {l : List α} (hm : ∀ x, (c x).length = m) (h : RdR c w B A m l) : ∀ ad, A = some ad → ∀ j u, (rv c l)[j]? = some u → w.cell? (ad.add j) = some u := by
  intro ad hA j u hu
  have hj : j < l.length * m := by
    have := (List.getElem?_eq_some_iff.1 hu).1
    rwa [rv_len hm] at this
  obtain ⟨ad', e, _, hc⟩ := h (by omega)
  rw [hA] at e
  injection e with e
  subst e
  rw [hc j hj]
  show some ((rv c l).getD j undef) = _
  rw [List.getD_eq_getElem?_getD, hu, Option.getD_some]

/-- one block's steps written anew -/
theorem rv_setB : ∀ {qs : List (Bk × Option Addr × Nat)} {i n c : Nat} {A Ac : Option Addr} {cc : Nat} {b b' : Bk}, qs[i]? = some (b, Ac, cc) → b'.test = b.test → b'.th = b.th → b'.el = b.el → b'.code.length = n →
    (rv cBk qs).set (i * 4) (.slice A n c) = rv cBk (qs.set i (b', A, c))
  | [], _, _, _, _, _, _, _, _, h, _, _, _, _ => by simp at h
  | q :: qs, 0, n, c, A, Ac, cc, b, b', h, h1, h2, h3, h4 => by
    simp at h
    subst h
    show ([_, _, _, _] ++ rv cBk qs).set 0 _ = cBk (b', A, c) ++ rv cBk qs
    simp [cBk, h1, h2, h3, h4]
  | q :: qs, i + 1, n, c, A, Ac, cc, b, b', h, h1, h2, h3, h4 => by
    have ih := rv_setB (qs := qs) (i := i) (n := n) (c := c) (A := A) (by simpa using h) h1 h2 h3 h4
    have e1 : rv cBk (q :: qs) = cBk q ++ rv cBk qs := rfl
    have e2 : rv cBk ((q :: qs).set (i + 1) (b', A, c)) = cBk q ++ rv cBk (qs.set i (b', A, c)) := rfl
    rw [e1, e2, ← ih, List.set_append, if_neg (by rw [cBk_len]; omega), cBk_len, show (i + 1) * 4 - 4 = i * 4 by omega]

/-- how many steps a program in a world has -/
def cntS (w : World) : Value → Nat
  | .slice (some ad) n _ => ((List.range n).map fun k => match w.cell? (ad.add (k * 4)) with
    | some (.slice _ m _) => m
    | _ => 0).sum
  | _ => 0

theorem manyS_sum : ∀ p : List Bk, manyS p = (p.map fun b => b.code.length).sum
  | [] => rfl
  | b :: p => by rw [manyS, manyS_sum p]; simp

theorem cntS_eq {w : World} {B : Nat} {A : Option Addr} {p : List Bk} (h : RdP w B A p) (c : Nat) : cntS w (.slice A p.length c) = manyS p := by
  rcases Nat.eq_zero_or_pos p.length with h0 | h0
  · have hp : p = [] := List.eq_nil_of_length_eq_zero h0
    subst hp
    cases A with
    | none => rfl
    | some ad => simp [cntS, manyS]
  · obtain ⟨ad, rfl, _, hk⟩ := h h0
    rw [manyS_sum]
    unfold cntS
    refine congrArg List.sum ?_
    apply List.ext_getElem?
    intro k
    rcases Nat.lt_or_ge k p.length with hkl | hkl
    · rw [List.getElem?_map, List.getElem?_range hkl, List.getElem?_map, List.getElem?_eq_getElem hkl]
      obtain ⟨Ac, cc, _, h2, _⟩ := hk k _ (List.getElem?_eq_getElem hkl)
      simp only [Option.map_some, h2]
    · rw [List.getElem?_eq_none (by simpa using hkl), List.getElem?_eq_none (by simpa using hkl)]

theorem manyS_put : ∀ {p : List Bk} {i : Nat} {b b' : Bk}, p[i]? = some b → manyS (p.set i b') + b.code.length = manyS p + b'.code.length
  | [], _, _, _, h => by simp at h
  | a :: p, 0, b, b', h => by
    simp at h
    subst h
    simp only [List.set_cons_zero, manyS]
    omega
  | a :: p, i + 1, b, b', h => by
    have := manyS_put (p := p) (i := i) (b' := b') (by simpa using h)
    simp only [List.set_cons_succ, manyS]
    omega

theorem Cut.less {want : Nat} {p q : List Bk} (h : Cut want p q) : manyS q < manyS p := by
  obtain @⟨i, k, b, s, hb, hs, _⟩ := h
  have h1 := manyS_put (b' := dropS b k) hb
  have h2 : (dropS b k).code.length = b.code.length - 1 := by
    show (b.code.eraseIdx k).length = _
    rw [List.length_eraseIdx, if_pos (List.getElem?_eq_some_iff.1 hs).1]
  have h3 := (List.getElem?_eq_some_iff.1 hs).1
  omega

end Go.Proofs.Ytfhnhbkdhdocjaa
