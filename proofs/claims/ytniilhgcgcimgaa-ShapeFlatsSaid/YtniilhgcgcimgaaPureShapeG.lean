/-
  Plain mathematics (U2): how large a program of shapes is: no program's text.
-/
import Derived.Test.YtniilhgcgcimgaaPureShapeF
namespace Go.Proofs.Ytniilhgcgcimgaa
set_option linter.unusedSimpArgs false
set_option linter.unusedVariables false

theorem manyS_app (p r : List Bk) : manyS (p ++ r) = manyS p + manyS r := by
  induction p with
  | nil => simp [manyS]
  | cons b p ih => simp only [List.cons_append, manyS, ih]; omega

theorem manyS_setF {b : Bk} : ∀ {p : List Bk} {i : Nat}, i < p.length → manyS (p.set i b) + (p.getD i bk0).code.length = manyS p + b.code.length
  | [], i, h => by simp at h
  | x :: p, 0, h => by simp [manyS]; omega
  | x :: p, i + 1, h => by
    have := manyS_setF (b := b) (p := p) (i := i) (by simpa using h)
    simp only [List.set_cons_succ, manyS, List.getD_cons_succ]
    omega

theorem manyS_leF : ∀ {p : List Bk} {i : Nat}, (p.getD i bk0).code.length ≤ manyS p
  | [], i => by simp [bk0]
  | x :: p, 0 => by simp [manyS]
  | x :: p, i + 1 => by
    have := manyS_leF (p := p) (i := i)
    simp only [manyS, List.getD_cons_succ]
    omega

theorem manyS_cdB {p : List Bk} {a : Nat} (h : a < p.length) (c : List St) : manyS (cdB p a c) = manyS p + c.length := by
  have := manyS_setF (b := ⟨(p.getD a bk0).code ++ c, (p.getD a bk0).test, (p.getD a bk0).th, (p.getD a bk0).el⟩) h
  unfold cdB
  simp only [List.length_append] at this
  omega

theorem manyS_brB {p : List Bk} {a : Nat} {ts th el : Int} (h : a < p.length) : manyS (brB p a ts th el) = manyS p := by
  have := manyS_setF (b := ⟨(p.getD a bk0).code, ts, th, el⟩) h
  unfold brB
  simp only [] at this
  omega

theorem manyS_thB {p : List Bk} {a : Nat} {th : Int} (h : a < p.length) : manyS (thB p a th) = manyS p := by
  have := manyS_setF (b := ⟨(p.getD a bk0).code, (p.getD a bk0).test, th, (p.getD a bk0).el⟩) h
  unfold thB
  simp only [] at this
  omega

/-- one statement laid behind a block -/
def fl1 (kd ts : Int) (cd : List St) (th el : Sh) (p : List Bk) (a : Nat) : List Bk × Nat :=
  if kd = 1 then (cdB p a (cpS cd), a)
  else if kd = 2 then
    (brB (sdF (flF el) (isNil el) (sdF (flF th) (isNil th) (p ++ [bkO]) p.length).1 p.length).1 a ts (sdF (flF th) (isNil th) (p ++ [bkO]) p.length).2
      (sdF (flF el) (isNil el) (sdF (flF th) (isNil th) (p ++ [bkO]) p.length).1 p.length).2, p.length)
  else if kd = 3 then
    (brB (brB (flF th (p ++ [bkO] ++ [bkO]) (p.length + 1)).1 a ts (p.length + 1 : Nat) p.length) (flF th (p ++ [bkO] ++ [bkO]) (p.length + 1)).2 ts (p.length + 1 : Nat) p.length, p.length)
  else (p, a)

theorem flF_cons (kd ts : Int) (cd : List St) (th el r : Sh) (p : List Bk) (a : Nat) : flF (.cons kd ts cd th el r) p a = flF r (fl1 kd ts cd th el p a).1 (fl1 kd ts cd th el p a).2 := by
  unfold fl1
  rw [flF]
  split
  · rfl
  · split
    · rfl
    · split <;> rfl

/-- from p one has come to q, and stands at e: at most so many blocks, so many steps more -/
structure GrF (p q : List Bk) (e m s : Nat) : Prop where
  lt : e < q.length
  len : p.length ≤ q.length
  most : q.length ≤ p.length + m
  steps : manyS q ≤ manyS p + s

theorem GrF.mono {p q : List Bk} {e m s m' s' : Nat} (h : GrF p q e m s) (h1 : m ≤ m') (h2 : s ≤ s') : GrF p q e m' s' := ⟨h.lt, h.len, Nat.le_trans h.most (by omega), Nat.le_trans h.steps (by omega)⟩

theorem GrF.trans {p q r : List Bk} {e f m s m' s' : Nat} (h : GrF p q e m s) (h2 : GrF q r f m' s') : GrF p r f (m + m') (s + s') :=
  ⟨h2.lt, Nat.le_trans h.len h2.len, by have := h.most; have := h2.most; omega, by have := h.steps; have := h2.steps; omega⟩

theorem GrF.add (p : List Bk) : GrF p (p ++ [bkO]) p.length 1 0 := ⟨by simp, by simp, by simp, by rw [manyS_app]; simp [manyS, bkO]⟩

theorem GrF.side {f : List Bk → Nat → List Bk × Nat} {m s : Nat} (hf : ∀ p a, a < p.length → GrF p (f p a).1 (f p a).2 m s) (nn : Bool) {p : List Bk} {after : Nat} (ha : after < p.length) : GrF p (sdF f nn p after).1 (sdF f nn p after).2 (1 + m) s := by
  unfold sdF
  cases nn with
  | true => exact ⟨ha, Nat.le_refl _, by simp, by simp⟩
  | false =>
    have h := (GrF.add p).trans (hf (p ++ [bkO]) p.length (by simp))
    rw [if_neg (by simp)]
    refine ⟨?_, ?_, ?_, ?_⟩
    · show p.length < (thB _ _ _).length
      rw [thB_len]
      have := (hf (p ++ [bkO]) p.length (by simp)).len
      simp at this
      omega
    · show _ ≤ (thB _ _ _).length
      rw [thB_len]; exact h.len
    · show (thB _ _ _).length ≤ _
      rw [thB_len]; exact h.most
    · show manyS (thB _ _ _) ≤ _
      rw [manyS_thB h.lt]
      have := h.steps
      omega

theorem GrF.br {p q : List Bk} {a b e m s : Nat} {ts x y : Int} (h : GrF p q e m s) (ha : a < q.length) (hb : b < q.length) : GrF p (brB q a ts x y) b m s :=
  ⟨by rw [brB_len]; exact hb, by rw [brB_len]; exact h.len, by rw [brB_len]; exact h.most, by rw [manyS_brB ha]; exact h.steps⟩

theorem GrF.one {kd ts : Int} {cd : List St} {th el : Sh} (ht : ∀ p a, a < p.length → GrF p (flF th p a).1 (flF th p a).2 (3 * th.many) th.steps) (he : ∀ p a, a < p.length → GrF p (flF el p a).1 (flF el p a).2 (3 * el.many) el.steps) {p : List Bk} {a : Nat} (ha : a < p.length) :
    GrF p (fl1 kd ts cd th el p a).1 (fl1 kd ts cd th el p a).2 (3 + 3 * th.many + 3 * el.many) (cd.length + th.steps + el.steps) := by
  unfold fl1
  split
  · exact ⟨by simp only [cdB_len]; exact ha, by simp only [cdB_len]; exact Nat.le_refl _, by simp only [cdB_len]; omega, by
      simp only [manyS_cdB ha, cpS, List.length_map]
      omega⟩
  · split
    · have h1 := (GrF.add p).trans (GrF.side ht (isNil th) (p := p ++ [bkO]) (after := p.length) (by simp))
      have hq : p.length < (sdF (flF th) (isNil th) (p ++ [bkO]) p.length).1.length := by
        have := (GrF.side ht (isNil th) (p := p ++ [bkO]) (after := p.length) (by simp)).len
        simp at this
        omega
      have h2 := GrF.side he (isNil el) hq
      have h3 := h1.trans h2
      have hr := h2.len
      exact (h3.br (by omega) (by omega)).mono (by omega) (by omega)
    · split
      · have h1 := ((GrF.add p).trans (GrF.add (p ++ [bkO]))).trans (ht (p ++ [bkO] ++ [bkO]) (p.length + 1) (by simp))
        have hl := (ht (p ++ [bkO] ++ [bkO]) (p.length + 1) (by simp)).len
        have he := (ht (p ++ [bkO] ++ [bkO]) (p.length + 1) (by simp)).lt
        simp at hl
        simp only [List.append_assoc] at *
        exact ((h1.br (ts := ts) (x := (p.length + 1 : Nat)) (y := p.length) (a := a) (b := a) (by simp; omega) (by simp; omega)).br (by rw [brB_len]; simpa using he) (by rw [brB_len]; simp; omega)).mono (by omega) (by omega)
      · exact ⟨ha, Nat.le_refl _, by simp only []; omega, by simp only []; omega⟩

theorem GrF.all : ∀ (l : Sh) (p : List Bk) (a : Nat), a < p.length → GrF p (flF l p a).1 (flF l p a).2 (3 * l.many) l.steps
  | .nil, p, a, h => ⟨h, Nat.le_refl _, by simp [flF], by simp [flF]⟩
  | .cons kd ts cd th el r, p, a, h => by
    rw [flF_cons]
    have h1 := GrF.one (kd := kd) (ts := ts) (cd := cd) (GrF.all th) (GrF.all el) h
    have h2 := h1.trans (GrF.all r _ _ h1.lt)
    exact h2.mono (by simp only [Sh.many]; omega) (by simp only [Sh.steps]; omega)

end Go.Proofs.Ytniilhgcgcimgaa
