/-
  Plain mathematics of terms (A1, A2): no program.
-/
import Derived.Lib.Hide
namespace Go.Proofs.Ytiloaiiboneamaa
set_option linter.unusedSimpArgs false
set_option linter.unusedVariables false

/-- a term -/
structure Tm where
  op : Int
  a : Int
  b : Int
  v : Int
def tz : Tm := ⟨0, 0, 0, 0⟩
theorem drop_at {α : Type} {l : List α} {k : Nat} {x : α} (h : l[k]? = some x) : l.drop k = x :: l.drop (k + 1) := by
  obtain ⟨hk, rfl⟩ := List.getElem?_eq_some_iff.1 h
  exact List.drop_eq_getElem_cons hk

/-- what A1 says of one term -/
def ckTerm (vars before op a b v : Int) : Int :=
  if op = 1 then (if 0 ≤ v ∧ v < 256 then 0 else 4)
  else if op = 2 then (if 0 ≤ v ∧ v < vars then 0 else 4)
  else if op = 3 ∨ op = 4 ∨ op = 5 ∨ op = 6 then (if 0 ≤ a ∧ a < before ∧ 0 ≤ b ∧ b < before then 0 else 2)
  else 6

def ckT (vars before : Int) (t : Tm) : Int := ckTerm vars before t.op t.a t.b t.v
def ckAll (vars : Int) : Nat → List Tm → Int
  | _, [] => 0
  | i, t :: r => if ckT vars i t = 0 then ckAll vars (i + 1) r else ckT vars i t
theorem ckAll_go {vars : Int} {k : Nat} {o a b v : Int} {r : List Tm} (h : (ckTerm vars k o a b v != 0) = false) : ckAll vars k (⟨o, a, b, v⟩ :: r) = ckAll vars (k + 1) r := by
  have h' : ckT vars k ⟨o, a, b, v⟩ = 0 := by simpa [ckT] using h
  simp only [ckAll, if_pos h']
theorem ckAll_stop {vars : Int} {k : Nat} {o a b v : Int} {r : List Tm} (h : (ckTerm vars k o a b v != 0) = true) : ckAll vars k (⟨o, a, b, v⟩ :: r) = ckTerm vars k o a b v := by
  have h' : ¬ ckT vars k ⟨o, a, b, v⟩ = 0 := by simpa [ckT] using h
  simp only [ckAll, if_neg h']; rfl
theorem ckAll_go' {vars : Int} {k : Nat} {o a b v : Int} {r : List Tm} (h : ckTerm vars k o a b v = 0) : ckAll vars k (⟨o, a, b, v⟩ :: r) = ckAll vars (k + 1) r := ckAll_go (by simpa using h)
theorem ckAll_stop' {vars c : Int} {k : Nat} {o a b v : Int} {r : List Tm} (h : ckTerm vars k o a b v = c) (hc : c ≠ 0) : c = ckAll vars k (⟨o, a, b, v⟩ :: r) := by
  rw [← h] at hc
  rw [ckAll_stop (by simpa using hc), h]
/-- A1: the code of terms -/
def ckTerms (vars : Int) (l : List Tm) : Int := if vars < 0 ∨ 6 < vars ∨ l.length = 0 ∨ 16 < l.length then 1 else ckAll vars 0 l

/-- A1: an operation of two values -/
def opv (op a b : Int) : Int := if op = 3 then (a + b) % 256 else if op = 4 then (a - b + 256) % 256 else if op = 5 then a * b % 256 else if a < b then 1 else 0

theorem opv_bd (op a b : Int) : 0 ≤ opv op a b ∧ opv op a b ≤ 255 := by
  unfold opv
  (repeat' split) <;> omega

def okVals : List Int → Bool
  | [] => true
  | x :: r => if 0 ≤ x ∧ x ≤ 255 then okVals r else false
def ckVals (xs : List Int) : Int := if okVals xs then 0 else 4
/-- A2: the code of values -/
def ckHave (vars : Int) (xs : List Int) : Int := if (xs.length : Int) ≠ vars then 3 else ckVals xs

theorem okVals_go {x : Int} {r : List Int} (h : 0 ≤ x) (h' : x ≤ 255) : ckVals (x :: r) = ckVals r := by simp [ckVals, okVals, h, h']
theorem okVals_no {x : Int} {r : List Int} (h : x < 0 ∨ 255 < x) : ckVals (x :: r) = 4 := by
  have : ¬ (0 ≤ x ∧ x ≤ 255) := by omega
  simp [ckVals, okVals, this]

/-- A1: the value of a term, those of the terms ahead of it being known -/
def evT (have_ : List Int) (t : Tm) (vs : List Int) : Int :=
  if t.op = 1 then t.v else if t.op = 2 then have_.getD t.v.toNat 0 else opv t.op (vs.getD t.a.toNat 0) (vs.getD t.b.toNat 0)
def evAll (have_ : List Int) : List Tm → List Int → List Int
  | [], vs => vs
  | t :: r, vs => evAll have_ r (vs ++ [evT have_ t vs])
/-- A1: the value of a list of terms -/
def valT (l : List Tm) (have_ : List Int) : Int := (evAll have_ l []).getD (l.length - 1) 0

theorem ckAll_at {vars : Int} : ∀ {l : List Tm} {k i : Nat} {t : Tm}, ckAll vars k l = 0 → l[i]? = some t → ckTerm vars (k + i : Nat) t.op t.a t.b t.v = 0
  | [], _, _, _, _, h => by simp at h
  | t :: r, k, 0, u, hc, h => by
    simp at h
    subst h
    unfold ckAll at hc
    split at hc
    · assumption
    · rename_i hne
      exact absurd hc hne
  | t :: r, k, i + 1, u, hc, h => by
    unfold ckAll at hc
    split at hc
    · have := ckAll_at (i := i) hc (by simpa using h)
      rwa [show k + 1 + i = k + (i + 1) from by omega] at this
    · rename_i hne
      exact absurd hc hne
theorem ckTerms_at {vars : Int} {l : List Tm} {i : Nat} {t : Tm} (hc : ckTerms vars l = 0) (h : l[i]? = some t) : ckTerm vars (i : Nat) t.op t.a t.b t.v = 0 := by
  unfold ckTerms at hc
  split at hc
  · omega
  · have := ckAll_at (i := i) hc h
    rwa [Nat.zero_add] at this
theorem ckTerms_bd {vars : Int} {l : List Tm} (hc : ckTerms vars l = 0) : 0 ≤ vars ∧ vars ≤ 6 ∧ 0 < l.length ∧ l.length ≤ 16 := by
  unfold ckTerms at hc
  split at hc
  · omega
  · omega
theorem ckTerm_cases {vars k op a b v : Int} (h : ckTerm vars k op a b v = 0) :
    (op = 1 ∧ 0 ≤ v ∧ v < 256) ∨ (op = 2 ∧ 0 ≤ v ∧ v < vars) ∨ (3 ≤ op ∧ op ≤ 6 ∧ 0 ≤ a ∧ a < k ∧ 0 ≤ b ∧ b < k) := by
  unfold ckTerm at h
  (repeat' split at h) <;> omega

theorem ckTerms_cases {vars : Int} {l : List Tm} {i : Nat} {o a b v : Int} (hc : ckTerms vars l = 0) (h : l[i]? = some ⟨o, a, b, v⟩) :
    (o = 1 ∧ 0 ≤ v ∧ v < 256) ∨ (o = 2 ∧ 0 ≤ v ∧ v < vars) ∨ (3 ≤ o ∧ o ≤ 6 ∧ 0 ≤ a ∧ a < i ∧ 0 ≤ b ∧ b < i) := ckTerm_cases (ckTerms_at hc h)

theorem okVals_at : ∀ {xs : List Int} {i : Nat} {x : Int}, okVals xs = true → xs[i]? = some x → 0 ≤ x ∧ x ≤ 255
  | [], _, _, _, h => by simp at h
  | y :: r, 0, x, ho, h => by
    simp at h
    subst h
    unfold okVals at ho
    split at ho
    · assumption
    · cases ho
  | y :: r, i + 1, x, ho, h => by
    unfold okVals at ho
    split at ho
    · exact okVals_at ho (by simpa using h)
    · cases ho
theorem ckHave_ok {vars : Int} {xs : List Int} (h : ckHave vars xs = 0) : (xs.length : Int) = vars ∧ okVals xs = true := by
  unfold ckHave ckVals at h
  (repeat' split at h) <;> first | omega | (exact ⟨by omega, by assumption⟩)

/-- A2: the code of terms with values -/
def ckVal (vars : Int) (l : List Tm) (xs : List Int) : Int := if ckTerms vars l = 0 then ckHave vars xs else ckTerms vars l

/-- what the loops keep: the values so far stand first, all are values -/
def Vals (have_ : List Int) (l : List Tm) (k : Nat) (xs : List Int) : Prop :=
  xs.length = l.length ∧ evAll have_ l [] = evAll have_ (l.drop k) (xs.take k) ∧ ∀ (i : Nat) (x : Int), xs[i]? = some x → 0 ≤ x ∧ x ≤ 255

theorem Vals.start (have_ : List Int) (l : List Tm) : Vals have_ l 0 (List.replicate l.length 0) :=
  ⟨by simp, by simp, fun i x h => by
    have := List.getElem?_replicate (a := (0 : Int)) (n := l.length) (i := i)
    rw [this] at h
    split at h
    · injection h with h; omega
    · cases h⟩
theorem Vals.step {have_ : List Int} {l : List Tm} {k : Nat} {xs : List Int} {t : Tm} {x : Int} (h : Vals have_ l k xs) (ht : l[k]? = some t) (hx : x = evT have_ t (xs.take k)) (hb : 0 ≤ x ∧ x ≤ 255) : Vals have_ l (k + 1) (xs.set k x) := by
  obtain ⟨h1, h2, h3⟩ := h
  have hk : k < l.length := (List.getElem?_eq_some_iff.1 ht).1
  refine ⟨by simpa using h1, ?_, fun i y hy => ?_⟩
  · rw [h2, drop_at ht]
    show evAll have_ (l.drop (k + 1)) (xs.take k ++ [evT have_ t (xs.take k)]) = _
    rw [← hx, List.take_add_one, List.take_set_of_le (by omega)]
    rw [List.getElem?_set_self (by omega)]
    rfl
  · rw [List.getElem?_set] at hy
    split at hy
    · split at hy
      · injection hy with hy; omega
      · cases hy
    · exact h3 i y hy
theorem Vals.done {have_ : List Int} {l : List Tm} {xs : List Int} (h : Vals have_ l l.length xs) : ∀ x, xs[l.length - 1]? = some x → x = valT l have_ := by
  obtain ⟨h1, h2, _⟩ := h
  intro x hx
  unfold valT
  rw [h2, List.drop_length, ← h1, List.take_length]
  show x = xs.getD _ 0
  rw [List.getD_eq_getElem?_getD, h1, hx]
  rfl
theorem evT_num {have_ : List Int} {a b v : Int} {vs : List Int} : v = evT have_ ⟨1, a, b, v⟩ vs := by simp [evT]
theorem evT_var {have_ : List Int} {a b x : Int} {v : Nat} {vs : List Int} (h : have_[v]? = some x) : x = evT have_ ⟨2, a, b, v⟩ vs := by simp [evT, h]
theorem evT_op {have_ : List Int} {o v x y : Int} {a b k : Nat} {xs : List Int} (ho : 3 ≤ o) (ha : a < k) (hb : b < k) (hx : xs[a]? = some x) (hy : xs[b]? = some y) : opv o x y = evT have_ ⟨o, a, b, v⟩ (xs.take k) := by
  have h1 : ¬ o = 1 := by omega
  have h2 : ¬ o = 2 := by omega
  simp [evT, h1, h2, List.getElem?_take, ha, hb, hx, hy]

end Go.Proofs.Ytiloaiiboneamaa
