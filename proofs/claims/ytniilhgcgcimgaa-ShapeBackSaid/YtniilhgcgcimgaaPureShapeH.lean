/-
  Plain mathematics (U2): the blocks that shapes are made into are right: no program's text.
-/
import Derived.Test.YtniilhgcgcimgaaPureShapeG
namespace Go.Proofs.Ytniilhgcgcimgaa
set_option linter.unusedSimpArgs false
set_option linter.unusedVariables false

/-- each block is right -/
def AllOk (n : Nat) (p : List Bk) : Prop := ∀ (k : Nat) (b : Bk), p[k]? = some b → BkOk n p.length b

theorem bkOk_up {n m m' : Nat} {b : Bk} (h : BkOk n m b) (hm : m ≤ m') : BkOk n m' b :=
  ⟨h.code, h.test, by rcases h.th with h1 | h1; exact .inl ⟨h1.1, by omega⟩; exact .inr h1, fun h1 => by have := h.el h1; omega⟩

theorem bkOk_O {n m : Nat} : BkOk n m bkO := ⟨rfl, .inl rfl, .inr ⟨rfl, rfl⟩, fun h => by simp [bkO] at h⟩

theorem AllOk.add {n : Nat} {p : List Bk} (h : AllOk n p) : AllOk n (p ++ [bkO]) := fun k b hk => by
  rcases Nat.lt_or_ge k p.length with h1 | h1
  · rw [List.getElem?_append_left h1] at hk
    exact bkOk_up (h k b hk) (by simp)
  · rw [List.getElem?_append_right h1] at hk
    have := (List.getElem?_eq_some_iff.1 hk).1
    simp at this
    rw [this] at hk
    simp at hk
    subst hk
    exact bkOk_O

theorem AllOk.set {n : Nat} {p : List Bk} {i : Nat} {b : Bk} (h : AllOk n p) (hb : BkOk n p.length b) : AllOk n (p.set i b) := fun k x hk => by
  rw [List.length_set]
  rw [List.getElem?_set] at hk
  split at hk
  · split at hk
    · injection hk with hk
      subst hk
      exact hb
    · cases hk
  · exact h k x hk

theorem AllOk.at_ {n : Nat} {p : List Bk} (h : AllOk n p) {a : Nat} (ha : a < p.length) : BkOk n p.length (p.getD a bk0) := h a _ (getD_lt ha)

theorem AllOk.cd {n : Nat} {p : List Bk} (h : AllOk n p) {a : Nat} (ha : a < p.length) {c : List St} (hc : ckStepsF n n c = 0) : AllOk n (cdB p a (cpS c)) :=
  h.set ⟨ckStepsF_app (h.at_ ha).code (ckStepsF_cp hc), (h.at_ ha).test, (h.at_ ha).th, (h.at_ ha).el⟩

theorem AllOk.br {n : Nat} {p : List Bk} (h : AllOk n p) {a x y : Nat} {ts : Int} (ha : a < p.length) (h1 : 0 ≤ ts) (h2 : ts < n) (hx : x < p.length) (hy : y < p.length) : AllOk n (brB p a ts x y) :=
  h.set ⟨(h.at_ ha).code, .inr ⟨h1, h2⟩, .inl (by simp only []; omega), fun _ => by simp only []; omega⟩

theorem AllOk.th {n : Nat} {p : List Bk} (h : AllOk n p) {a x : Nat} (ha : a < p.length) (hx : x < p.length) : AllOk n (thB p a x) :=
  h.set ⟨(h.at_ ha).code, (h.at_ ha).test, .inl (by simp only []; omega), (h.at_ ha).el⟩

theorem AllOk.side {n m s : Nat} {f : List Bk → Nat → List Bk × Nat} (hf : ∀ p a, a < p.length → AllOk n p → AllOk n (f p a).1) (hg : ∀ p a, a < p.length → GrF p (f p a).1 (f p a).2 m s) (nn : Bool) {p : List Bk} {after : Nat} (h : AllOk n p) (ha : after < p.length) : AllOk n (sdF f nn p after).1 := by
  unfold sdF
  cases nn with
  | true => exact h
  | false =>
    have h1 := hf (p ++ [bkO]) p.length (by simp) h.add
    have h2 := hg (p ++ [bkO]) p.length (by simp)
    have h3 := h2.len
    simp at h3
    exact h1.th h2.lt (by omega)

theorem AllOk.all {n : Nat} : ∀ (l : Sh) (p : List Bk) (a : Nat), ckSh n l = 0 → a < p.length → AllOk n p → AllOk n (flF l p a).1
  | .nil, p, a, _, _, h => h
  | .cons kd ts cd th el r, p, a, hc, ha, h => by
    obtain ⟨hone, ht, he, hr⟩ := ckSh_cons hc
    rw [flF_cons]
    have hg := GrF.one (kd := kd) (ts := ts) (cd := cd) (GrF.all th) (GrF.all el) ha
    refine AllOk.all r _ _ hr hg.lt ?_
    rcases ckOne_cases hone with ⟨rfl, hcd⟩ | ⟨rfl | rfl, h1, h2⟩
    · exact h.cd ha hcd
    · have g1 := GrF.side (GrF.all th) (isNil th) (p := p ++ [bkO]) (after := p.length) (by simp)
      have k1 := AllOk.side (fun p a ha h => AllOk.all th p a ht ha h) (GrF.all th) (isNil th) (p := p ++ [bkO]) (after := p.length) h.add (by simp)
      have l1 := g1.len
      simp at l1
      have g2 := GrF.side (GrF.all el) (isNil el) (p := (sdF (flF th) (isNil th) (p ++ [bkO]) p.length).1) (after := p.length) (by omega)
      have k2 := AllOk.side (fun p a ha h => AllOk.all el p a he ha h) (GrF.all el) (isNil el) (p := (sdF (flF th) (isNil th) (p ++ [bkO]) p.length).1) (after := p.length) k1 (by omega)
      have l2 := g2.len
      have := g1.lt
      exact k2.br (by omega) h1 h2 (by omega) g2.lt
    · have k1 := AllOk.all th (p ++ [bkO] ++ [bkO]) (p.length + 1) ht (by simp) h.add.add
      have g1 := GrF.all th (p ++ [bkO] ++ [bkO]) (p.length + 1) (by simp)
      have l1 := g1.len
      have l2 := g1.lt
      have e : (p ++ [bkO] ++ [bkO]).length = p.length + 2 := by simp
      rw [e] at l1
      exact (k1.br (a := a) (x := p.length + 1) (y := p.length) (by omega) h1 h2 (by omega) (by omega)).br (x := p.length + 1) (y := p.length) (by rw [brB_len]; exact l2) h1 h2 (by rw [brB_len]; omega) (by rw [brB_len]; omega)

theorem flSh_ok {n : Nat} {l : Sh} (h : ckSh n l = 0) : AllOk n (flSh l) := AllOk.all l [bkO] 0 h (by simp) fun k b hk => by
  have := (List.getElem?_eq_some_iff.1 hk).1
  simp at this
  rw [this] at hk
  simp at hk
  subst hk
  exact bkOk_O

theorem flSh_grows (l : Sh) : 0 < (flSh l).length ∧ (flSh l).length ≤ 1 + 3 * l.many ∧ manyS (flSh l) ≤ l.steps := by
  have h := GrF.all l [bkO] 0 (by simp)
  have h1 := h.lt
  have h2 := h.most
  have h3 := h.steps
  simp [manyS, bkO] at h2 h3
  exact ⟨by show 0 < (flF l [bkO] 0).1.length; omega, h2, h3⟩

end Go.Proofs.Ytniilhgcgcimgaa
