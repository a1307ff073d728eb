/-
  Plain mathematics of common subexpressions (D1): first numbers, who is the same as whom, the least terms: no program's text.
-/
import Derived.Test.YtacokdghfkpdpaaPrunePure
import Derived.Test.YtacokdghfkpdpaaPureNeed
namespace Go.Proofs.Ytacokdghfkpdpaa
set_option linter.unusedSimpArgs false
set_option linter.unusedVariables false

/-- the first number of an operand -/
def fg (fs : List Nat) (x : Int) : Nat := fs.getD x.toNat 0

/-- what makes two terms the same -/
def keyT (fs : List Nat) (t : Tm) : Int × Int × Int :=
  if t.op < 3 then (t.op, t.v, 0)
  else if (t.op = 3 ∨ t.op = 5) ∧ fg fs t.b < fg fs t.a then (t.op, (fg fs t.b : Int), (fg fs t.a : Int))
  else (t.op, (fg fs t.a : Int), (fg fs t.b : Int))

/-- what the reference says of two terms -/
def sameB (fs : List Nat) (a b : Tm) : Bool :=
  if a.op ≠ b.op then false
  else if a.op < 3 then decide (a.v = b.v)
  else decide ((fg fs a.a = fg fs b.a ∧ fg fs a.b = fg fs b.b) ∨ (fg fs a.a = fg fs b.b ∧ fg fs a.b = fg fs b.a) ∧ (a.op = 3 ∨ a.op = 5))

theorem sameB_iff {fs : List Nat} {a b : Tm} : sameB fs a b = true ↔ keyT fs a = keyT fs b := by
  unfold sameB keyT
  by_cases h1 : a.op = b.op
  · rw [if_neg (by omega), ← h1]
    by_cases h2 : a.op < 3
    · rw [if_pos h2, if_pos h2, if_pos h2]
      simp
    · rw [if_neg h2, if_neg h2, if_neg h2]
      rw [decide_eq_true_eq]
      by_cases h3 : a.op = 3 ∨ a.op = 5
      · by_cases h4 : fg fs a.b < fg fs a.a <;> by_cases h5 : fg fs b.b < fg fs b.a
        · rw [if_pos ⟨h3, h4⟩, if_pos ⟨h3, h5⟩]; simp only [Prod.mk.injEq, true_and]; omega
        · rw [if_pos ⟨h3, h4⟩, if_neg (fun h => h5 h.2)]; simp only [Prod.mk.injEq, true_and]; omega
        · rw [if_neg (fun h => h4 h.2), if_pos ⟨h3, h5⟩]; simp only [Prod.mk.injEq, true_and]; omega
        · rw [if_neg (fun h => h4 h.2), if_neg (fun h => h5 h.2)]; simp only [Prod.mk.injEq, true_and]; omega
      · rw [if_neg (fun h => h3 h.1), if_neg (fun h => h3 h.1)]; simp only [Prod.mk.injEq, true_and]; omega
  · rw [if_pos h1]
    constructor
    · intro h; cases h
    · intro h
      exfalso
      apply h1
      have : ∀ t : Tm, (if t.op < 3 then (t.op, t.v, (0 : Int)) else if (t.op = 3 ∨ t.op = 5) ∧ fg fs t.b < fg fs t.a then (t.op, (fg fs t.b : Int), (fg fs t.a : Int)) else (t.op, (fg fs t.a : Int), (fg fs t.b : Int))).1 = t.op := by
        intro t
        (repeat' split) <;> rfl
      rw [← this a, ← this b, h]

theorem keyT_op (fs : List Nat) (t : Tm) : (keyT fs t).1 = t.op := by
  unfold keyT
  (repeat' split) <;> rfl

/-- the reference's look back: k terms behind term l.length have been looked at -/
def dnF (l : List Tm) (fs : List Nat) (t : Tm) : Nat → Nat
  | 0 => l.length
  | k + 1 => if sameB fs t (l.getD (l.length - 1 - k) tz) = true then l.length - 1 - k else dnF l fs t k

theorem dnF_spec (l : List Tm) (fs : List Nat) (t : Tm) : ∀ k, k ≤ l.length → dnF l fs t k ≤ l.length ∧ l.length - k ≤ dnF l fs t k ∧
    (dnF l fs t k < l.length → sameB fs t (l.getD (dnF l fs t k) tz) = true) ∧ ∀ j, l.length - k ≤ j → j < l.length → sameB fs t (l.getD j tz) = true → dnF l fs t k ≤ j
  | 0, _ => ⟨Nat.le_refl _, by simp [dnF], fun h => absurd h (Nat.lt_irrefl _), fun j h1 h2 _ => by omega⟩
  | k + 1, hk => by
    obtain ⟨i1, i2, i3, i4⟩ := dnF_spec l fs t k (by omega)
    unfold dnF
    split
    · rename_i hs
      exact ⟨by omega, by omega, fun _ => hs, fun j h1 _ _ => by omega⟩
    · rename_i hs
      refine ⟨i1, by omega, i3, fun j h1 h2 h3 => ?_⟩
      by_cases hj : j = l.length - 1 - k
      · subst hj; exact absurd h3 hs
      · exact i4 j (by omega) h2 h3

/-- the first numbers of the rest, those ahead being known -/
def fsG : List Tm → List Tm → List Nat → List Nat
  | [], _, fs => fs
  | t :: r, d, fs => fsG r (d ++ [t]) (fs ++ [dnF d fs t d.length])

/-- D1: of each term the first one of its class -/
def fsL (l : List Tm) : List Nat := fsG l [] []

theorem fsG_len : ∀ (r d : List Tm) (fs : List Nat), (fsG r d fs).length = fs.length + r.length
  | [], d, fs => rfl
  | t :: r, d, fs => by rw [fsG, fsG_len r]; simp; omega

theorem fsL_len (l : List Tm) : (fsL l).length = l.length := by unfold fsL; rw [fsG_len]; simp

theorem fsG_pre : ∀ (r d : List Tm) (fs : List Nat) (j : Nat), j < fs.length → (fsG r d fs)[j]? = fs[j]?
  | [], d, fs, j, _ => rfl
  | t :: r, d, fs, j, h => by
    rw [fsG, fsG_pre r _ _ j (by simp; omega), List.getElem?_append_left h]

theorem fsG_take (r d : List Tm) (fs : List Nat) : (fsG r d fs).take fs.length = fs := by
  apply List.ext_getElem?
  intro j
  rw [List.getElem?_take]
  split
  · exact fsG_pre r d fs j (by assumption)
  · rw [List.getElem?_eq_none (by omega)]

theorem fsG_at : ∀ (r d : List Tm) (fs : List Nat) (i : Nat) (t : Tm), fs.length = d.length → r[i]? = some t →
    (fsG r d fs)[d.length + i]? = some (dnF (d ++ r.take i) ((fsG r d fs).take (d.length + i)) t (d.length + i))
  | [], d, fs, i, t, _, h => by simp at h
  | u :: r, d, fs, 0, t, hl, h => by
    simp at h
    subst h
    rw [fsG, Nat.add_zero, fsG_pre _ _ _ _ (by simp; omega), List.take_zero, List.append_nil]
    have e : (fsG r (d ++ [u]) (fs ++ [dnF d fs u d.length])).take d.length = fs := by
      have h2 := fsG_take r (d ++ [u]) (fs ++ [dnF d fs u d.length])
      have h3 := congrArg (List.take d.length) h2
      rw [List.take_take, List.length_append, List.length_singleton, Nat.min_eq_left (by omega), List.take_append_of_le_length (by omega)] at h3
      rw [h3, ← hl, List.take_length]
    rw [e, ← hl]
    simp
  | u :: r, d, fs, i + 1, t, hl, h => by
    have ih := fsG_at r (d ++ [u]) (fs ++ [dnF d fs u d.length]) i t (by simp; omega) (by simpa using h)
    rw [List.length_append, List.length_singleton] at ih
    rw [fsG, List.take_succ_cons, show d.length + (i + 1) = d.length + 1 + i from by omega, ih, List.append_assoc]
    rfl

/-- the first one of term i's class; its key -/
def fv (l : List Tm) (i : Nat) : Nat := (fsL l).getD i 0
def kv (l : List Tm) (i : Nat) : Int × Int × Int := keyT (fsL l) (l.getD i tz)

theorem fv_at {l : List Tm} {k : Nat} {t : Tm} (h : l[k]? = some t) : fv l k = dnF (l.take k) ((fsL l).take k) t k := by
  have := fsG_at l [] [] k t rfl h
  simp only [List.length_nil, Nat.zero_add, List.nil_append] at this
  unfold fv
  rw [List.getD_eq_getElem?_getD]
  unfold fsL at *
  rw [this]
  rfl

theorem fg_take {fs : List Nat} {k : Nat} {x : Int} (h : x.toNat < k) : fg (fs.take k) x = fg fs x := by
  unfold fg
  rw [getD_take h]

theorem keyT_take {fs : List Nat} {k : Nat} {t : Tm} (h : 3 ≤ t.op → t.a.toNat < k ∧ t.b.toNat < k) : keyT (fs.take k) t = keyT fs t := by
  unfold keyT
  by_cases h3 : t.op < 3
  · rw [if_pos h3, if_pos h3]
  · obtain ⟨h1, h2⟩ := h (by omega)
    rw [fg_take h1, fg_take h2]

theorem kv_at {l : List Tm} {k : Nat} {t : Tm} (h : l[k]? = some t) : kv l k = keyT (fsL l) t := by
  unfold kv
  rw [List.getD_eq_getElem?_getD, h]
  rfl

section
variable {vars : Int} {l : List Tm} (hc : ckTerms vars l = 0)
include hc

theorem ops_lt {k : Nat} {t : Tm} (h : l[k]? = some t) (ho : 3 ≤ t.op) : t.a.toNat < k ∧ t.b.toNat < k := by
  have := ckTerm_cases (ckTerms_at hc h)
  omega

theorem fv_spec {k : Nat} (hk : k < l.length) : fv l k ≤ k ∧ kv l (fv l k) = kv l k ∧ ∀ j, j ≤ k → kv l j = kv l k → fv l k ≤ j := by
  have h := List.getElem?_eq_getElem hk
  have hf := fv_at h
  have hlk : (l.take k).length = k := by simp; omega
  have hs := dnF_spec (l.take k) ((fsL l).take k) l[k] k (by rw [hlk]; exact Nat.le_refl _)
  rw [← hf, hlk] at hs
  obtain ⟨h1, h2, h3, h4⟩ := hs
  have hkk : keyT ((fsL l).take k) l[k] = kv l k := by
    rw [keyT_take (fun ho => ops_lt hc h ho)]
    unfold kv
    rw [List.getD_eq_getElem?_getD, h]
    rfl
  have hkj : ∀ j, j < k → keyT ((fsL l).take k) ((l.take k).getD j tz) = kv l j := by
    intro j hj
    have hjl := List.getElem?_eq_getElem (show j < l.length by omega)
    rw [getD_take hj, List.getD_eq_getElem?_getD, hjl, Option.getD_some, keyT_take (fun ho => ?_)]
    · unfold kv
      rw [List.getD_eq_getElem?_getD, hjl]
      rfl
    · have := ops_lt hc hjl ho
      omega
  refine ⟨h1, ?_, fun j hj he => ?_⟩
  · by_cases he : fv l k < k
    · have := sameB_iff.1 (h3 he)
      rw [hkk, hkj _ he] at this
      exact this.symm
    · have : fv l k = k := by omega
      rw [this]
  · by_cases hjk : j < k
    · exact h4 j (by omega) hjk (sameB_iff.2 (by rw [hkk, hkj j hjk, he]))
    · omega

theorem fv_iff {i j : Nat} (hi : i < l.length) (hj : j < l.length) : fv l i = fv l j ↔ kv l i = kv l j := by
  obtain ⟨i1, i2, i3⟩ := fv_spec hc hi
  obtain ⟨j1, j2, j3⟩ := fv_spec hc hj
  constructor
  · intro h
    rw [← i2, ← j2, h]
  · intro h
    rcases Nat.le_total i j with hij | hij
    · have a1 := j3 i hij h
      have a2 := i3 (fv l j) (by omega) (by rw [j2, h])
      have a3 := j3 (fv l i) (by omega) (by rw [i2, h])
      omega
    · have a1 := i3 j hij h.symm
      have a2 := j3 (fv l i) (by omega) (by rw [i2, h])
      have a3 := i3 (fv l j) (by omega) (by rw [j2, h])
      omega

theorem fv_fv {i : Nat} (hi : i < l.length) : fv l (fv l i) = fv l i := by
  obtain ⟨i1, i2, i3⟩ := fv_spec hc hi
  exact (fv_iff hc (by omega) hi).2 i2

/-- COCKE: the same stand for the same -/
theorem V_same (hv : List Int) : ∀ i, i < l.length → ∀ j, j < l.length → kv l i = kv l j → V hv l i = V hv l j := by
  intro i
  induction i using Nat.strongRecOn with
  | _ i ih =>
    intro hi j hj he
    have h1 := List.getElem?_eq_getElem hi
    have h2 := List.getElem?_eq_getElem hj
    rw [kv_at h1, kv_at h2] at he
    have hop : l[i].op = l[j].op := by have := congrArg (fun x => x.1) he; rwa [keyT_op, keyT_op] at this
    have c1 := ckTerm_cases (ckTerms_at hc h1)
    have c2 := ckTerm_cases (ckTerms_at hc h2)
    unfold keyT at he
    by_cases h3 : l[i].op < 3
    · rw [if_pos h3, if_pos (show l[j].op < 3 by omega)] at he
      simp only [Prod.mk.injEq] at he
      by_cases h4 : l[i].op = 1
      · rw [V_num h1 h4, V_num h2 (by omega), he.2.1]
      · rw [V_var h1 (by omega), V_var h2 (by omega), he.2.1]
    · obtain ⟨a1, a2⟩ := ops_lt hc h1 (by omega)
      obtain ⟨b1, b2⟩ := ops_lt hc h2 (by omega)
      rw [V_op h1 (by omega) a1 a2, V_op h2 (by omega) b1 b2, ← hop]
      have key : ∀ x y : Nat, x < i → y < j → fv l x = fv l y → V hv l x = V hv l y := fun x y hx hy h => ih x hx (by omega) y (by omega) ((fv_iff hc (by omega) (by omega)).1 h)
      rw [if_neg h3, if_neg (show ¬ l[j].op < 3 by omega)] at he
      have hfa : ∀ x : Int, fg (fsL l) x = fv l x.toNat := fun _ => rfl
      have comm : ∀ x y : Int, (l[i].op = 3 ∨ l[i].op = 5) → opv l[i].op x y = opv l[i].op y x := by
        intro x y h
        unfold opv
        rcases h with h | h
        · rw [if_pos h, if_pos h, Int.add_comm]
        · rw [if_neg (by omega), if_neg (by omega), if_pos h, if_neg (by omega), if_neg (by omega), if_pos h, Int.mul_comm]
      have straight : fv l l[i].a.toNat = fv l l[j].a.toNat → fv l l[i].b.toNat = fv l l[j].b.toNat → opv l[i].op (V hv l l[i].a.toNat) (V hv l l[i].b.toNat) = opv l[i].op (V hv l l[j].a.toNat) (V hv l l[j].b.toNat) := fun p q => by
        rw [key _ _ a1 b1 p, key _ _ a2 b2 q]
      have turned : (l[i].op = 3 ∨ l[i].op = 5) → fv l l[i].a.toNat = fv l l[j].b.toNat → fv l l[i].b.toNat = fv l l[j].a.toNat → opv l[i].op (V hv l l[i].a.toNat) (V hv l l[i].b.toNat) = opv l[i].op (V hv l l[j].a.toNat) (V hv l l[j].b.toNat) := fun h p q => by
        rw [key _ _ a1 b2 p, key _ _ a2 b1 q, comm _ _ h]
      simp only [hfa] at he
      rw [← hop] at he
      split at he <;> split at he <;> simp only [Prod.mk.injEq, true_and] at he
      · exact straight (by omega) (by omega)
      · rename_i p q; exact turned p.1 (by omega) (by omega)
      · rename_i p q; exact turned q.1 (by omega) (by omega)
      · exact straight (by omega) (by omega)

theorem V_first (hv : List Int) {i : Nat} (hi : i < l.length) : V hv l (fv l i) = V hv l i := by
  obtain ⟨i1, i2, i3⟩ := fv_spec hc hi
  exact V_same hc hv _ (by omega) _ hi i2

end

/-! ### The least terms -/

/-- a term on the first numbers -/
def ftT (fs : List Nat) (t : Tm) : Tm := if 3 ≤ t.op then ⟨t.op, (fg fs t.a : Int), (fg fs t.b : Int), t.v⟩ else t
def ftL (l : List Tm) : List Tm := l.map (ftT (fsL l))
def rtL (l : List Tm) : Nat := fv l (l.length - 1)
/-- all that may be kept -/
def lcL (l : List Tm) : List Tm := (ftL l).take (rtL l + 1)
/-- what is not used is 0; the smaller operand first where it does not matter -/
def nmT (t : Tm) : Tm := if 3 ≤ t.op then (if (t.op = 3 ∨ t.op = 5) ∧ t.b < t.a then ⟨t.op, t.b, t.a, 0⟩ else ⟨t.op, t.a, t.b, 0⟩) else ⟨t.op, 0, 0, t.v⟩
/-- D1: the least terms -/
def lsL (l : List Tm) : List Tm := (prL (lcL l)).map nmT

section
variable {vars : Int} {l : List Tm} (hc : ckTerms vars l = 0)
include hc

theorem rt_lt : rtL l < l.length := by
  have hb := ckTerms_bd hc
  have := (fv_spec hc (k := l.length - 1) (by omega)).1
  unfold rtL
  omega

theorem lc_len : (lcL l).length = rtL l + 1 := by
  have := rt_lt hc
  unfold lcL ftL
  simp
  omega

omit hc in
theorem lc_at {k : Nat} {t : Tm} (h : l[k]? = some t) (hk : k ≤ rtL l) : (lcL l)[k]? = some (ftT (fsL l) t) := by
  unfold lcL ftL
  rw [List.getElem?_take, if_pos (by omega), List.getElem?_map, h]
  rfl

theorem lc_get {k : Nat} {u : Tm} (h : (lcL l)[k]? = some u) : ∃ t, l[k]? = some t ∧ u = ftT (fsL l) t ∧ k ≤ rtL l := by
  have hk := (List.getElem?_eq_some_iff.1 h).1
  rw [lc_len hc] at hk
  have hr := rt_lt hc
  have ht := List.getElem?_eq_getElem (show k < l.length by omega)
  refine ⟨_, ht, ?_, by omega⟩
  rw [lc_at ht (by omega)] at h
  injection h with h
  exact h.symm

omit hc in
theorem ftT_op (fs : List Nat) (t : Tm) : (ftT fs t).op = t.op := by unfold ftT; split <;> rfl

omit hc in
theorem ftT_v (fs : List Nat) (t : Tm) : (ftT fs t).v = t.v := by unfold ftT; split <;> rfl

theorem ft_ck {k : Nat} {t : Tm} (h : l[k]? = some t) : ckTerm vars k (ftT (fsL l) t).op (ftT (fsL l) t).a (ftT (fsL l) t).b (ftT (fsL l) t).v = 0 := by
  have hk := (List.getElem?_eq_some_iff.1 h).1
  have hck := ckTerms_at hc h
  unfold ftT
  split
  · rename_i ho
    obtain ⟨a1, a2⟩ := ops_lt hc h ho
    have f1 := (fv_spec hc (k := t.a.toNat) (by omega)).1
    have f2 := (fv_spec hc (k := t.b.toNat) (by omega)).1
    have e1 : fg (fsL l) t.a = fv l t.a.toNat := rfl
    have e2 : fg (fsL l) t.b = fv l t.b.toNat := rfl
    have := ckTerm_cases hck
    simp only [e1, e2]
    unfold ckTerm
    rw [if_neg (by omega), if_neg (by omega), if_pos (by omega), if_pos (by omega)]
  · exact hck

theorem lc_ck : ckTerms vars (lcL l) = 0 := by
  obtain ⟨h1, h2, h3, h4⟩ := ckTerms_bd hc
  have hr := rt_lt hc
  have hl := lc_len hc
  refine ckTerms_of h1 h2 (by omega) (by omega) fun k u hu => ?_
  obtain ⟨t, ht, rfl, _⟩ := lc_get hc hu
  exact ft_ck hc ht

/-- a term on the first numbers has the same value -/
theorem V_lc (hv : List Int) : ∀ i, i ≤ rtL l → V hv (lcL l) i = V hv l i := by
  have hr := rt_lt hc
  intro i
  induction i using Nat.strongRecOn with
  | _ i ih =>
    intro hi
    have h1 := List.getElem?_eq_getElem (show i < l.length by omega)
    have h2 := lc_at h1 hi
    have c1 := ckTerm_cases (ckTerms_at hc h1)
    by_cases h3 : l[i].op < 3
    · by_cases h4 : l[i].op = 1
      · rw [V_num h1 h4, V_num h2 (by rw [ftT_op]; exact h4), ftT_v]
      · rw [V_var h1 (by omega), V_var h2 (by rw [ftT_op]; omega), ftT_v]
    · obtain ⟨a1, a2⟩ := ops_lt hc h1 (by omega)
      have f1 := (fv_spec hc (k := l[i].a.toNat) (by omega)).1
      have f2 := (fv_spec hc (k := l[i].b.toNat) (by omega)).1
      have e : ftT (fsL l) l[i] = ⟨l[i].op, (fv l l[i].a.toNat : Int), (fv l l[i].b.toNat : Int), l[i].v⟩ := by unfold ftT; rw [if_pos (by omega)]; rfl
      rw [e] at h2
      rw [V_op h1 (by omega) a1 a2, V_op h2 (by simp only []; omega) (by simp only [Int.toNat_natCast]; omega) (by simp only [Int.toNat_natCast]; omega)]
      simp only [Int.toNat_natCast]
      rw [ih _ (by omega) (by omega), ih _ (by omega) (by omega), V_first hc hv (by omega), V_first hc hv (by omega)]

theorem valT_lc (hv : List Int) : valT (lcL l) hv = valT l hv := by
  have hb := ckTerms_bd hc
  have hl := lc_len hc
  show V hv (lcL l) ((lcL l).length - 1) = V hv l (l.length - 1)
  rw [hl, Nat.add_sub_cancel, V_lc hc hv _ (Nat.le_refl _)]
  exact V_first hc hv (by omega)

/-- all that is needed is a first one -/
theorem lc_first : ∀ j, (needL (lcL l)).getD j false = true → j ≤ rtL l ∧ fv l j = j := by
  have hb := ckTerms_bd hc
  have hr := rt_lt hc
  have hl := lc_len hc
  refine needL_sub (S := fun j => j ≤ rtL l ∧ fv l j = j) ⟨?_, fun j t ⟨h1, h2⟩ ht ho => ?_⟩
  · rw [hl, Nat.add_sub_cancel]
    exact ⟨Nat.le_refl _, fv_fv hc (by omega)⟩
  · obtain ⟨u, hu, rfl, _⟩ := lc_get hc ht
    rw [ftT_op] at ho
    have c1 := ckTerm_cases (ckTerms_at hc hu)
    obtain ⟨a1, a2⟩ := ops_lt hc hu (by omega)
    have f1 := (fv_spec hc (k := u.a.toNat) (by omega)).1
    have f2 := (fv_spec hc (k := u.b.toNat) (by omega)).1
    have e : ftT (fsL l) u = ⟨u.op, (fv l u.a.toNat : Int), (fv l u.b.toNat : Int), u.v⟩ := by unfold ftT; rw [if_pos (by omega)]; rfl
    rw [e]
    simp only [Int.toNat_natCast]
    exact ⟨⟨by omega, fv_fv hc (by omega)⟩, ⟨by omega, fv_fv hc (by omega)⟩⟩

end

end Go.Proofs.Ytacokdghfkpdpaa
