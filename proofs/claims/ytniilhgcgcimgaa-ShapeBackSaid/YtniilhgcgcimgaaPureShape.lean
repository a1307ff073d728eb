/-
  Plain mathematics of structured programs (U1): sizes, what is wrong, what a run gives: no program's text.
-/
import Derived.Test.YtniilhgcgcimgaaMPure
namespace Go.Proofs.Ytniilhgcgcimgaa
set_option linter.unusedSimpArgs false
set_option linter.unusedVariables false

/-- a list of shapes: its first one, and the rest -/
inductive Sh where
  | nil
  | cons (kd ts : Int) (cd : List St) (th el rest : Sh)

namespace Sh

def len : Sh → Nat
  | nil => 0
  | cons _ _ _ _ _ r => r.len + 1

def many : Sh → Nat
  | nil => 0
  | cons _ _ _ th el r => 1 + th.many + el.many + r.many

def steps : Sh → Nat
  | nil => 0
  | cons _ _ cd th el r => cd.length + th.steps + el.steps + r.steps

def deep : Sh → Nat
  | nil => 0
  | cons _ _ _ th el r => Nat.max (1 + Nat.max th.deep el.deep) r.deep

def drop : Nat → Sh → Sh
  | 0, l => l
  | _ + 1, nil => nil
  | k + 1, cons _ _ _ _ _ r => drop k r

theorem drop_zero (l : Sh) : drop 0 l = l := by cases l <;> rfl

theorem drop_lt : ∀ {l : Sh} {k : Nat}, k < l.len → ∃ kd ts cd th el, l.drop k = cons kd ts cd th el (l.drop (k + 1))
  | nil, _, h => by simp [len] at h
  | cons kd ts cd th el r, 0, _ => ⟨kd, ts, cd, th, el, by simp [drop, drop_zero]⟩
  | cons kd ts cd th el r, k + 1, h => by
    obtain ⟨a, b, c, d, e, h2⟩ := drop_lt (l := r) (k := k) (by simp [len] at h; omega)
    exact ⟨a, b, c, d, e, by simpa [drop] using h2⟩

theorem drop_ge : ∀ {l : Sh} {k : Nat}, l.len ≤ k → l.drop k = nil
  | nil, 0, _ => rfl
  | nil, _ + 1, _ => rfl
  | cons _ _ _ _ _ r, 0, h => by simp [len] at h
  | cons _ _ _ _ _ r, k + 1, h => by
    simp only [drop]
    exact drop_ge (by simp [len] at h; omega)

theorem len_many : ∀ l : Sh, l.len ≤ l.many
  | nil => Nat.le_refl _
  | cons _ _ _ th el r => by
    have := len_many r
    simp only [len, many]
    omega

theorem deep_pos {l : Sh} (h : l ≠ nil) : 1 ≤ l.deep := by
  cases l with
  | nil => exact absurd rfl h
  | cons kd ts cd th el r =>
    simp only [deep]
    exact Nat.le_trans (by omega : 1 ≤ 1 + Nat.max th.deep el.deep) (Nat.le_max_left _ _)

theorem len_pos {l : Sh} (h : 0 < l.len) : l ≠ nil := fun e => by subst e; simp [len] at h

end Sh

/-- U1: what is wrong with one -/
def ckOne (vars kd ts : Int) (cd : List St) : Int :=
  if kd = 1 then ckStepsF vars vars cd else if kd = 2 ∨ kd = 3 then (if 0 ≤ ts ∧ ts < vars then 0 else 2) else 6

/-- U1: the first invalid one -/
def ckSh (vars : Int) : Sh → Int
  | .nil => 0
  | .cons kd ts cd th el r =>
    if ckOne vars kd ts cd ≠ 0 then ckOne vars kd ts cd else if ckSh vars th ≠ 0 then ckSh vars th else if ckSh vars el ≠ 0 then ckSh vars el else ckSh vars r

theorem ckSh_cons {vars kd ts : Int} {cd : List St} {th el r : Sh} (h : ckSh vars (.cons kd ts cd th el r) = 0) : ckOne vars kd ts cd = 0 ∧ ckSh vars th = 0 ∧ ckSh vars el = 0 ∧ ckSh vars r = 0 := by
  unfold ckSh at h
  split at h
  · rename_i h1; exact absurd h h1
  · rename_i h1
    split at h
    · rename_i h2; exact absurd h h2
    · rename_i h2
      split at h
      · rename_i h3; exact absurd h h3
      · rename_i h3
        exact ⟨by simpa using h1, by simpa using h2, by simpa using h3, h⟩

theorem ckSh_drop {vars : Int} : ∀ {l : Sh} (h : ckSh vars l = 0) (k : Nat), ckSh vars (l.drop k) = 0
  | l, h, 0 => by rw [Sh.drop_zero]; exact h
  | .nil, h, k + 1 => h
  | .cons _ _ _ _ _ r, h, k + 1 => by
    simp only [Sh.drop]
    exact ckSh_drop (ckSh_cons h).2.2.2 k

theorem ckSh_of {vars kd ts : Int} {cd : List St} {th el r : Sh} (h1 : ckOne vars kd ts cd = 0) (h2 : ckSh vars th = 0) (h3 : ckSh vars el = 0) (h4 : ckSh vars r = 0) : ckSh vars (.cons kd ts cd th el r) = 0 := by
  simp [ckSh, h1, h2, h3, h4]

/-- the cases of what is not wrong -/
theorem ckOne_cases {vars kd ts : Int} {cd : List St} (h : ckOne vars kd ts cd = 0) : (kd = 1 ∧ ckStepsF vars vars cd = 0) ∨ ((kd = 2 ∨ kd = 3) ∧ 0 ≤ ts ∧ ts < vars) := by
  unfold ckOne at h
  split at h
  · rename_i h1; exact .inl ⟨h1, h⟩
  · split at h
    · rename_i h2
      split at h
      · rename_i h3; exact .inr ⟨h2, h3⟩
      · omega
    · omega

/-- U1: too large -/
def bigSh (l : Sh) : Prop := 8 < l.many ∨ 20 < l.steps ∨ 5 < l.deep

instance (l : Sh) : Decidable (bigSh l) := by unfold bigSh; infer_instance

/-- U1: the code of a list of shapes -/
def ckShape (vars : Int) (l : Sh) : Int := if vars < 1 ∨ 6 < vars ∨ bigSh l then 1 else ckSh vars l

theorem ckShape_ok {vars : Int} {l : Sh} (h : ckShape vars l = 0) : ∃ n : Nat, vars = (n : Int) ∧ 1 ≤ n ∧ n ≤ 6 ∧ l.many ≤ 8 ∧ l.steps ≤ 20 ∧ l.deep ≤ 5 ∧ ckSh n l = 0 := by
  unfold ckShape at h
  split at h
  · omega
  · rename_i h1
    unfold bigSh at h1
    have e : vars = (vars.toNat : Int) := by omega
    exact ⟨vars.toNat, e, by omega, by omega, by omega, by omega, by omega, by rw [← e]; exact h⟩

/-! ### Runs: how many turns are left, and the values -/

/-- one body again and again, as long as a variable is not 0 -/
def loopW (f : Nat → List Int → Option (Nat × List Int)) (ts : Nat) : Nat → Nat → List Int → Option (Nat × List Int)
  | 0, _, _ => none
  | n + 1, t, v => if v.getD ts 0 = 0 then some (t, v) else
    match t with
    | 0 => none
    | t + 1 => match f t v with
      | none => none
      | some x => loopW f ts n x.1 x.2

/-- one shape -/
def exOne (th el : Nat → List Int → Option (Nat × List Int)) (kd ts : Int) (cd : List St) (t : Nat) (v : List Int) : Option (Nat × List Int) :=
  if kd = 1 then some (t, doS cd v) else if kd = 3 then loopW th ts.toNat (t + 1) t v else if v.getD ts.toNat 0 = 0 then el t v else th t v

/-- U1: a run -/
def exSh : Sh → Nat → List Int → Option (Nat × List Int)
  | .nil => fun t v => some (t, v)
  | .cons kd ts cd th el r => fun t v => match exOne (exSh th) (exSh el) kd ts cd t v with
    | none => none
    | some x => exSh r x.1 x.2

theorem exSh_nil (t : Nat) (v : List Int) : exSh .nil t v = some (t, v) := rfl

theorem exSh_cons (kd ts : Int) (cd : List St) (th el r : Sh) (t : Nat) (v : List Int) : exSh (.cons kd ts cd th el r) t v = match exOne (exSh th) (exSh el) kd ts cd t v with
    | none => none
    | some x => exSh r x.1 x.2 := rfl

/-- what every run keeps: no more turns than there were; values of variables -/
def Tame (n : Nat) (f : Nat → List Int → Option (Nat × List Int)) : Prop := ∀ t v x, ValsOk n v → f t v = some x → x.1 ≤ t ∧ ValsOk n x.2

theorem loopW_tame {n : Nat} {f : Nat → List Int → Option (Nat × List Int)} (hf : Tame n f) (ts : Nat) : ∀ m t v x, ValsOk n v → loopW f ts m t v = some x → x.1 ≤ t ∧ ValsOk n x.2
  | 0, _, _, _, _, h => by simp [loopW] at h
  | m + 1, t, v, x, hv, h => by
    unfold loopW at h
    split at h
    · injection h with h
      subst h
      exact ⟨Nat.le_refl _, hv⟩
    · cases t with
      | zero => cases h
      | succ t =>
        cases hr : f t v with
        | none => simp [hr] at h
        | some y =>
          simp only [hr] at h
          obtain ⟨h1, h2⟩ := hf t v y hv hr
          obtain ⟨h3, h4⟩ := loopW_tame hf ts m y.1 y.2 x h2 h
          exact ⟨by omega, h4⟩

theorem exOne_tame {n : Nat} {kd ts : Int} {cd : List St} {th el : Nat → List Int → Option (Nat × List Int)} (hc : ckOne n kd ts cd = 0) (ht : Tame n th) (he : Tame n el) : Tame n (exOne th el kd ts cd) := fun t v x hv h => by
  unfold exOne at h
  rcases ckOne_cases hc with ⟨h1, h2⟩ | ⟨h1, h2⟩
  · rw [if_pos h1] at h
    injection h with h
    subst h
    exact ⟨Nat.le_refl _, doS_ok h2 hv⟩
  · rw [if_neg (by omega)] at h
    split at h
    · exact loopW_tame ht _ _ _ _ _ hv h
    · split at h
      · exact he t v x hv h
      · exact ht t v x hv h

theorem exSh_tame {n : Nat} : ∀ {l : Sh}, ckSh n l = 0 → Tame n (exSh l)
  | .nil, _ => fun t v x hv h => by
    rw [exSh_nil] at h
    injection h with h
    subst h
    exact ⟨Nat.le_refl _, hv⟩
  | .cons kd ts cd th el r, hc => fun t v x hv h => by
    obtain ⟨h1, h2, h3, h4⟩ := ckSh_cons hc
    rw [exSh_cons] at h
    cases hy : exOne (exSh th) (exSh el) kd ts cd t v with
    | none => simp [hy] at h
    | some y =>
      simp only [hy] at h
      obtain ⟨h5, h6⟩ := exOne_tame h1 (exSh_tame h2) (exSh_tame h3) t v y hv hy
      obtain ⟨h7, h8⟩ := exSh_tame h4 y.1 y.2 x h6 h
      exact ⟨by omega, h8⟩

/-- as many passes as there are turns suffice -/
theorem loopW_more {n : Nat} {f : Nat → List Int → Option (Nat × List Int)} (hf : Tame n f) (ts : Nat) : ∀ m k t v, ValsOk n v → t < m → t < k → loopW f ts m t v = loopW f ts k t v
  | 0, _, _, _, _, h, _ => by omega
  | _ + 1, 0, _, _, _, _, h => by omega
  | m + 1, k + 1, t, v, hv, hm, hk => by
    unfold loopW
    split
    · rfl
    · cases t with
      | zero => rfl
      | succ t =>
        cases hr : f t v with
        | none => simp only [hr]
        | some y =>
          obtain ⟨h1, h2⟩ := hf t v y hv hr
          simp only [hr]
          exact loopW_more hf ts m k y.1 y.2 h2 (by omega) (by omega)

/-- a body again and again, with as many passes as there are turns -/
def whW (f : Nat → List Int → Option (Nat × List Int)) (ts t : Nat) (v : List Int) : Option (Nat × List Int) := loopW f ts (t + 1) t v

theorem whW_end {f : Nat → List Int → Option (Nat × List Int)} {ts t : Nat} {v : List Int} (h : v.getD ts 0 = 0) : whW f ts t v = some (t, v) := by
  unfold whW loopW
  rw [if_pos h]

theorem whW_over {f : Nat → List Int → Option (Nat × List Int)} {ts : Nat} {v : List Int} (h : v.getD ts 0 ≠ 0) : whW f ts 0 v = none := by
  unfold whW loopW
  rw [if_neg h]

theorem whW_none {f : Nat → List Int → Option (Nat × List Int)} {ts t : Nat} {v : List Int} (h : v.getD ts 0 ≠ 0) (hf : f t v = none) : whW f ts (t + 1) v = none := by
  unfold whW loopW
  rw [if_neg h]
  simp only [hf]

theorem whW_step {n : Nat} {f : Nat → List Int → Option (Nat × List Int)} (hT : Tame n f) {ts t : Nat} {v : List Int} {x : Nat × List Int} (hv : ValsOk n v) (h : v.getD ts 0 ≠ 0) (hf : f t v = some x) : whW f ts (t + 1) v = whW f ts x.1 x.2 := by
  obtain ⟨h1, h2⟩ := hT t v x hv hf
  unfold whW
  rw [loopW, if_neg h]
  simp only [hf]
  exact loopW_more hT ts _ _ _ _ h2 (by omega) (by omega)

theorem exOne_code {th el : Nat → List Int → Option (Nat × List Int)} {ts : Int} {cd : List St} {t : Nat} {v : List Int} : exOne th el 1 ts cd t v = some (t, doS cd v) := by simp [exOne]

theorem exOne_while {th el : Nat → List Int → Option (Nat × List Int)} {ts : Nat} {cd : List St} {t : Nat} {v : List Int} : exOne th el 3 (ts : Int) cd t v = whW th ts t v := by simp [exOne, whW]

theorem exOne_else {th el : Nat → List Int → Option (Nat × List Int)} {ts : Nat} {cd : List St} {t : Nat} {v : List Int} (h : v.getD ts 0 = 0) : exOne th el 2 (ts : Int) cd t v = el t v := by
  simp only [exOne, Int.toNat_natCast, h]
  simp

theorem exOne_then {th el : Nat → List Int → Option (Nat × List Int)} {ts : Nat} {cd : List St} {t : Nat} {v : List Int} (h : v.getD ts 0 ≠ 0) : exOne th el 2 (ts : Int) cd t v = th t v := by
  simp only [exOne, Int.toNat_natCast]
  rw [if_neg (by omega), if_neg (by omega), if_neg h]

/-- a run as far as it is told: so many are done -/
theorem exSh_at' {l : Sh} {k : Nat} {kd ts : Int} {cd : List St} {th el : Sh} {t0 t : Nat} {v0 v : List Int} (hr : exSh l t0 v0 = exSh (l.drop k) t v) (hd : l.drop k = .cons kd ts cd th el (l.drop (k + 1))) :
    (∀ x, exOne (exSh th) (exSh el) kd ts cd t v = some x → exSh l t0 v0 = exSh (l.drop (k + 1)) x.1 x.2) ∧ (exOne (exSh th) (exSh el) kd ts cd t v = none → exSh l t0 v0 = none) := by
  rw [hd, exSh_cons] at hr
  exact ⟨fun x hx => by rw [hr, hx], fun hx => by rw [hr, hx]⟩

/-- U1: the code of a run's arguments -/
def ckShRun (vars : Int) (l : Sh) (hv : List Int) : Int := if ckShape vars l = 0 then ckHave vars hv else ckShape vars l

/-! ### Steps with nothing in what they don't use -/

def clS (s : St) : St := if s.op = 1 ∨ s.op = 2 then ⟨s.op, s.to, 0, 0, s.v⟩ else ⟨s.op, s.to, s.a, s.b, 0⟩

def cpS (c : List St) : List St := c.map clS

theorem cpS_len (c : List St) : (cpS c).length = c.length := by simp [cpS]

theorem stV_cl (h : List Int) (s : St) (r : List Int) : stV h (clS s) r = stV h s r := by
  unfold clS stV
  by_cases h1 : s.op = 1
  · simp [h1]
  · by_cases h2 : s.op = 2
    · simp [h2]
    · rw [if_neg (show ¬ (s.op = 1 ∨ s.op = 2) by omega)]
      simp [h1, h2]

theorem clS_to (s : St) : (clS s).to = s.to := by unfold clS; split <;> rfl

theorem doS_cp : ∀ (c : List St) (v : List Int), doS (cpS c) v = doS c v
  | [], _ => rfl
  | s :: c, v => by
    show doS (cpS c) (v.set (clS s).to.toNat (stV v (clS s) v)) = doS c (v.set s.to.toNat (stV v s v))
    rw [stV_cl, clS_to]
    exact doS_cp c _

theorem ckStep_cl {vars regs : Int} {s : St} (h : ckStep vars regs s.op s.to s.a s.b s.v = 0) : ckStep vars regs (clS s).op (clS s).to (clS s).a (clS s).b (clS s).v = 0 := by
  unfold clS
  unfold ckStep at h ⊢
  by_cases h1 : s.op = 1 ∨ s.op = 2
  · rw [if_pos h1]
    simp only []
    split at h
    · omega
    · split at h
      · omega
      · split at h
        · omega
        · rw [if_neg (by omega), if_neg (by omega), if_neg (by omega)]
  · rw [if_neg h1]
    simp only []
    split at h
    · omega
    · split at h
      · omega
      · split at h
        · omega
        · rw [if_neg (by omega), if_neg (by omega), if_neg (by omega)]

theorem mem_ckStepsF {vars regs : Int} {c : List St} (h : ckStepsF vars regs c = 0) {s : St} (hs : s ∈ c) : ckStep vars regs s.op s.to s.a s.b s.v = 0 := by
  obtain ⟨i, hi, rfl⟩ := List.getElem_of_mem hs
  exact ckStepsF_at h (List.getElem?_eq_getElem hi)

theorem ckStepsF_cp {vars regs : Int} {c : List St} (h : ckStepsF vars regs c = 0) : ckStepsF vars regs (cpS c) = 0 := ckStepsF_of fun s hs => by
  obtain ⟨u, hu, rfl⟩ := List.mem_map.1 hs
  exact ckStep_cl (mem_ckStepsF h hu)

theorem ckStepsF_app {vars regs : Int} {a b : List St} (h1 : ckStepsF vars regs a = 0) (h2 : ckStepsF vars regs b = 0) : ckStepsF vars regs (a ++ b) = 0 := ckStepsF_of fun s hs => by
  rcases List.mem_append.1 hs with h | h
  · exact mem_ckStepsF h1 h
  · exact mem_ckStepsF h2 h

end Go.Proofs.Ytniilhgcgcimgaa
