/-
  Plain mathematics of the sizes of shapes (U1): counted list by list, with what is left: no program's text.
-/
import Derived.Test.YtniilhgcgcimgaaPureShape
namespace Go.Proofs.Ytniilhgcgcimgaa
set_option linter.unusedSimpArgs false
set_option linter.unusedVariables false

/-- the shapes within -/
def subM : Sh → Nat
  | .nil => 0
  | .cons _ _ _ th el r => th.many + el.many + subM r

theorem many_sub : ∀ l : Sh, l.many = l.len + subM l
  | .nil => rfl
  | .cons _ _ _ th el r => by
    have := many_sub r
    simp only [Sh.many, Sh.len, subM]
    omega

theorem subM_cons (kd ts : Int) (cd : List St) (th el r : Sh) : subM (.cons kd ts cd th el r) = th.many + (el.many + subM r) := by
  simp only [subM]
  omega

theorem steps_cons (kd ts : Int) (cd : List St) (th el r : Sh) : Sh.steps (.cons kd ts cd th el r) = cd.length + (th.steps + (el.steps + r.steps)) := by
  simp only [Sh.steps]
  omega

theorem deep_cons {d : Nat} (hd : 1 ≤ d) (kd ts : Int) (cd : List St) (th el r : Sh) : d - 1 + Sh.deep (.cons kd ts cd th el r) = max (d + th.deep) (max (d + el.deep) (d - 1 + r.deep)) := by
  have e : Sh.deep (.cons kd ts cd th el r) = max (1 + max th.deep el.deep) r.deep := rfl
  rw [e]
  omega

/-- what is counted so far, and what is left to count: right, or too many already, or too deep -/
structure SzI (M S D m s x rm rs rd : Nat) : Prop where
  hm : m + rm ≤ M
  hs : s + rs ≤ S
  hx : x ≤ D
  hrd : rd ≤ D
  hex : (m + rm = M ∧ s + rs = S ∧ max x rd = D) ∨ 8 < m ∨ 5 < x

/-- what ShapeSize tells of a list that lies so deep -/
def SzTo (l : Sh) (d m s x : Nat) : Prop := m ≤ l.many ∧ s ≤ l.steps ∧ x ≤ d - 1 + l.deep ∧ ((m = l.many ∧ s = l.steps ∧ x = d - 1 + l.deep) ∨ 8 < m ∨ 5 < x)

/-- one list more -/
theorem SzI.step {M S D m s x rm rs rd d m1 s1 x1 rm' rs' rd' : Nat} {q : Sh} (h : SzI M S D m s x rm rs rd) (hq : SzTo q (d + 1) m1 s1 x1) (h1 : rm = q.many + rm') (h2 : rs = q.steps + rs') (h3 : rd = max (d + q.deep) rd') :
    SzI M S D (m + m1) (s + s1) (max x x1) rm' rs' rd' := by
  obtain ⟨a1, a2, a3, a4, a5⟩ := h
  obtain ⟨b1, b2, b3, b4⟩ := hq
  rw [Nat.add_sub_cancel] at b3 b4
  refine ⟨by omega, by omega, by omega, by omega, ?_⟩
  rcases a5 with a5 | a5 | a5
  · rcases b4 with b4 | b4 | b4
    · exact .inl (by omega)
    · exact .inr (.inl (by omega))
    · exact .inr (.inr (by omega))
  · exact .inr (.inl (by omega))
  · exact .inr (.inr (by omega))

theorem SzI.code {M S D m s x rm rs rd c rs' : Nat} (h : SzI M S D m s x rm rs rd) (h2 : rs = c + rs') : SzI M S D m (s + c) x rm rs' rd := by
  obtain ⟨a1, a2, a3, a4, a5⟩ := h
  refine ⟨a1, by omega, a3, a4, ?_⟩
  rcases a5 with a5 | a5
  · exact .inl (by omega)
  · exact .inr a5

theorem SzI.start {l : Sh} {d : Nat} (hd : 1 ≤ d) (hn : l ≠ .nil) : SzI l.many l.steps (d - 1 + l.deep) l.len 0 d (subM l) l.steps (d - 1 + l.deep) := by
  have h1 := many_sub l
  have h2 := Sh.deep_pos hn
  exact ⟨by omega, by omega, by omega, by omega, .inl (by omega)⟩

theorem SzI.done {l : Sh} {d m s x : Nat} (hd : 1 ≤ d) (h : SzI l.many l.steps (d - 1 + l.deep) m s x 0 0 (d - 1)) (hx : d ≤ x) : SzTo l d m s x := by
  obtain ⟨a1, a2, a3, a4, a5⟩ := h
  refine ⟨by omega, by omega, a3, ?_⟩
  rcases a5 with a5 | a5
  · exact .inl (by omega)
  · exact .inr a5

theorem SzTo.nil (d : Nat) : SzTo .nil d 0 0 (d - 1) := ⟨Nat.le_refl _, Nat.le_refl _, by simp [Sh.deep], .inl (by simp [Sh.many, Sh.steps, Sh.deep])⟩

theorem SzTo.much {l : Sh} {d : Nat} (hd : 1 ≤ d) (hn : l ≠ .nil) (h : 8 < l.len ∨ 5 < d) : SzTo l d l.len 0 d := by
  have h1 := many_sub l
  have h2 := Sh.deep_pos hn
  exact ⟨by omega, Nat.zero_le _, by omega, .inr (by omega)⟩

/-- too large: told by what is told -/
theorem SzTo.big {l : Sh} {m s x : Nat} (h : SzTo l 1 m s x) : bigSh l ↔ (8 < m ∨ 20 < s ∨ 5 < x) := by
  obtain ⟨h1, h2, h3, h4⟩ := h
  unfold bigSh
  simp only [Nat.sub_self, Nat.zero_add] at h3 h4
  constructor
  · intro h
    rcases h4 with ⟨rfl, rfl, rfl⟩ | h4 | h4
    · exact h
    · exact .inl h4
    · exact .inr (.inr h4)
  · intro h
    omega

/-- so many at most -/
def bM : Nat → Nat
  | 0 => 1599289640356
  | f + 1 => 1599289640356 + 16 * bM f

def bS : Nat → Nat
  | 0 => 0
  | f + 1 => 8 * (3518437208783 + 2 * bS f)

theorem bM_le : ∀ f, f ≤ 5 → bM f ≤ 2000000000000000000 := fun f hf => by
  have : f = 0 ∨ f = 1 ∨ f = 2 ∨ f = 3 ∨ f = 4 ∨ f = 5 := by omega
  rcases this with rfl | rfl | rfl | rfl | rfl | rfl <;> decide

theorem bS_le : ∀ f, f ≤ 5 → bS f ≤ 2000000000000000000 := fun f hf => by
  have : f = 0 ∨ f = 1 ∨ f = 2 ∨ f = 3 ∨ f = 4 ∨ f = 5 := by omega
  rcases this with rfl | rfl | rfl | rfl | rfl | rfl <;> decide

/-! ### As the program counts: two counters, ended early -/

/-- so deep, with these counters: too much is told, or all is counted -/
def ExTo (l : Sh) (d st sp : Nat) (b : Bool) (st' sp' : Nat) : Prop :=
  (b = true → 8 < st + l.many ∨ 5 < d - 1 + l.deep ∨ 20 < sp + l.steps) ∧
  (b = false → st' = st + l.many ∧ st' ≤ 8 ∧ sp' = sp + l.steps ∧ (l = .nil ∨ (d - 1 + l.deep ≤ 5 ∧ sp' ≤ 20)))

theorem ExTo.big {l : Sh} {b : Bool} {st sp : Nat} (h : ExTo l 1 0 0 b st sp) : b = true ↔ bigSh l := by
  obtain ⟨h1, h2⟩ := h
  unfold bigSh
  constructor
  · intro e
    have := h1 e
    omega
  · intro e
    cases b with
    | true => rfl
    | false =>
      exfalso
      obtain ⟨a1, a2, a3, a4⟩ := h2 rfl
      rcases a4 with rfl | a4
      · simp [Sh.many, Sh.steps, Sh.deep] at e
      · omega

/-- within a list: k of it are done -/
structure ExI (l : Sh) (d st sp k st1 sp1 : Nat) : Prop where
  st : st1 + subM (l.drop k) = st + l.many
  le : st1 ≤ 8
  sp : sp1 + (l.drop k).steps = sp + l.steps
  d1 : d - 1 + l.deep ≤ max 5 (d - 1 + (l.drop k).deep)
  d2 : (l.drop k).deep ≤ l.deep
  d5 : d ≤ 5

theorem ExI.start {l : Sh} {d st sp : Nat} (h8 : st + l.len ≤ 8) (h5 : d ≤ 5) : ExI l d st sp 0 (st + l.len) sp := by
  have h1 := many_sub l
  refine ⟨?_, h8, ?_, ?_, ?_, h5⟩ <;> rw [Sh.drop_zero] <;> omega

section
variable {l : Sh} {d st sp k st1 sp1 st2 sp2 st3 sp3 : Nat} {kd ts : Int} {cd : List St} {th el : Sh}

/-- its first list is too much -/
theorem ExI.bad1 (hd : 1 ≤ d) (h : ExI l d st sp k st1 sp1) (hk : l.drop k = .cons kd ts cd th el (l.drop (k + 1))) (h1 : ExTo th (d + 1) st1 (sp1 + cd.length) true st2 sp2) : ExTo l d st sp true st3 sp3 := by
  obtain ⟨a1, a2, a3, a4, a5, a6⟩ := h
  have e := deep_cons hd kd ts cd th el (l.drop (k + 1))
  rw [hk] at a1 a3 a4 a5
  rw [subM_cons] at a1
  rw [steps_cons] at a3
  have := h1.1 rfl
  rw [Nat.add_sub_cancel] at this
  exact ⟨fun _ => by omega, fun h => by cases h⟩

/-- its second list is too much -/
theorem ExI.bad2 (hd : 1 ≤ d) (h : ExI l d st sp k st1 sp1) (hk : l.drop k = .cons kd ts cd th el (l.drop (k + 1))) (h1 : ExTo th (d + 1) st1 (sp1 + cd.length) false st2 sp2) {st4 sp4 : Nat} (h2 : ExTo el (d + 1) st2 sp2 true st4 sp4) : ExTo l d st sp true st3 sp3 := by
  obtain ⟨a1, a2, a3, a4, a5, a6⟩ := h
  have e := deep_cons hd kd ts cd th el (l.drop (k + 1))
  rw [hk] at a1 a3 a4 a5
  rw [subM_cons] at a1
  rw [steps_cons] at a3
  obtain ⟨b1, b2, b3, b4⟩ := h1.2 rfl
  have := h2.1 rfl
  rw [Nat.add_sub_cancel] at this
  exact ⟨fun _ => by omega, fun h => by cases h⟩

/-- a statement done: neither of its lists is too much -/
theorem ExI.step (hd : 1 ≤ d) (h : ExI l d st sp k st1 sp1) (hk : l.drop k = .cons kd ts cd th el (l.drop (k + 1)))
    (h1 : ExTo th (d + 1) st1 (sp1 + cd.length) false st2 sp2) (h2 : ExTo el (d + 1) st2 sp2 false st3 sp3) : ExI l d st sp (k + 1) st3 sp3 := by
  obtain ⟨a1, a2, a3, a4, a5, a6⟩ := h
  have e := deep_cons hd kd ts cd th el (l.drop (k + 1))
  rw [hk] at a1 a3 a4 a5
  rw [subM_cons] at a1
  rw [steps_cons] at a3
  obtain ⟨b1, b2, b3, b4⟩ := h1.2 rfl
  obtain ⟨c1, c2, c3, c4⟩ := h2.2 rfl
  rw [Nat.add_sub_cancel] at b4 c4
  have d1 : d + th.deep ≤ 5 := by
    rcases b4 with rfl | b4
    · simpa [Sh.deep] using a6
    · omega
  have d2 : d + el.deep ≤ 5 := by
    rcases c4 with rfl | c4
    · simpa [Sh.deep] using a6
    · omega
  exact ⟨by omega, c2, by omega, by omega, by omega, a6⟩

/-- all are done -/
theorem ExI.done (h : ExI l d st sp l.len st1 sp1) : ExTo l d st sp (decide (20 < sp1)) st1 sp1 := by
  obtain ⟨a1, a2, a3, a4, a5, a6⟩ := h
  rw [Sh.drop_ge (Nat.le_refl _)] at a1 a3 a4 a5
  simp only [subM, Sh.steps, Sh.deep] at a1 a3 a4 a5
  refine ⟨fun e => ?_, fun e => ?_⟩
  · have := of_decide_eq_true e
    omega
  · have := of_decide_eq_false e
    exact ⟨by omega, a2, by omega, .inr ⟨by omega, by omega⟩⟩

theorem ExTo.nil : ExTo .nil d st sp false st sp ∨ 8 < st := by
  rcases Nat.lt_or_ge 8 st with h | h
  · exact .inr h
  · exact .inl ⟨fun h => (by cases h), fun _ => ⟨rfl, h, rfl, .inl rfl⟩⟩

/-- the list itself is too much -/
theorem ExTo.much (hd : 1 ≤ d) (hn : l ≠ .nil) (h : 8 < st + l.len ∨ 5 < d) : ExTo l d st sp true st3 sp3 := by
  have h1 := many_sub l
  have h2 := Sh.deep_pos hn
  exact ⟨fun _ => by omega, fun h => by cases h⟩

end

end Go.Proofs.Ytniilhgcgcimgaa
