/-
  Plain mathematics of trees, register need and register code (B1, B2): no program.
-/
import Derived.Test.YthgilekhohadoaaPureTerm
namespace Go.Proofs.Ythgilekhohadoaa
set_option linter.unusedSimpArgs false
set_option linter.unusedVariables false

/-! ### What is reckoned of a list term by term -/
section
variable {α : Type}

/-- each term by what its operands gave -/
def trT (leaf : Tm → α) (node : Tm → α → α → α) (d : α) (t : Tm) (acc : List α) : α :=
  if t.op < 3 then leaf t else node t (acc.getD t.a.toNat d) (acc.getD t.b.toNat d)

def trF (leaf : Tm → α) (node : Tm → α → α → α) (d : α) : List Tm → List α → List α
  | [], acc => acc
  | t :: r, acc => trF leaf node d r (acc ++ [trT leaf node d t acc])

def trL (leaf : Tm → α) (node : Tm → α → α → α) (d : α) (l : List Tm) : List α := trF leaf node d l []

variable {leaf : Tm → α} {node : Tm → α → α → α} {d : α}

theorem trF_append : ∀ (a b : List Tm) (acc : List α), trF leaf node d (a ++ b) acc = trF leaf node d b (trF leaf node d a acc)
  | [], _, _ => rfl
  | t :: r, b, acc => trF_append r b _

theorem trF_len : ∀ (l : List Tm) (acc : List α), (trF leaf node d l acc).length = acc.length + l.length
  | [], acc => rfl
  | t :: r, acc => by rw [trF, trF_len r]; simp; omega

theorem trL_len (l : List Tm) : (trL leaf node d l).length = l.length := by unfold trL; rw [trF_len]; simp

theorem trL_snoc (l : List Tm) (t : Tm) : trL leaf node d (l ++ [t]) = trL leaf node d l ++ [trT leaf node d t (trL leaf node d l)] := by
  unfold trL
  rw [trF_append]
  rfl

theorem trF_pre : ∀ (l : List Tm) (acc : List α), ∃ r, trF leaf node d l acc = acc ++ r
  | [], acc => ⟨[], by simp [trF]⟩
  | t :: r, acc => by
    obtain ⟨s, h⟩ := trF_pre r (acc ++ [trT leaf node d t acc])
    exact ⟨[trT leaf node d t acc] ++ s, by rw [trF, h, List.append_assoc]⟩

theorem trL_take {l : List Tm} {k : Nat} (h : k ≤ l.length) : (trL leaf node d l).take k = trL leaf node d (l.take k) := by
  have e : trL leaf node d l = trF leaf node d (l.drop k) (trL leaf node d (l.take k)) := by
    unfold trL
    rw [← trF_append, List.take_append_drop]
  obtain ⟨r, hr⟩ := trF_pre (leaf := leaf) (node := node) (d := d) (l.drop k) (trL leaf node d (l.take k))
  rw [e, hr]
  have hl : (trL leaf node d (l.take k)).length = k := by rw [trL_len]; simp; omega
  rw [List.take_append_of_le_length (by omega), List.take_of_length_le (by omega)]

theorem trL_get {l : List Tm} {k : Nat} {t : Tm} (h : l[k]? = some t) : (trL leaf node d l)[k]? = some (trT leaf node d t ((trL leaf node d l).take k)) := by
  obtain ⟨hk, rfl⟩ := List.getElem?_eq_some_iff.1 h
  have e : (trL leaf node d l).take (k + 1) = trL leaf node d (l.take k) ++ [trT leaf node d l[k] (trL leaf node d (l.take k))] := by
    rw [trL_take (by omega), List.take_succ_eq_append_getElem hk, trL_snoc]
  have hl : (trL leaf node d (l.take k)).length = k := by rw [trL_len]; simp; omega
  have e2 : ((trL leaf node d l).take (k + 1))[k]? = (trL leaf node d l)[k]? := by rw [List.getElem?_take]; simp
  rw [← e2, e, List.getElem?_append_right (by omega), hl, Nat.sub_self, trL_take (by omega)]
  rfl

theorem getD_take {xs : List α} {k j : Nat} (h : j < k) : (xs.take k).getD j d = xs.getD j d := by
  simp only [List.getD_eq_getElem?_getD, List.getElem?_take, if_pos h]

/-- of checked terms: by the operands' own results -/
theorem trL_at {vars : Int} {l : List Tm} {k : Nat} {t : Tm} (hc : ckTerms vars l = 0) (h : l[k]? = some t) :
    (trL leaf node d l).getD k d = if t.op < 3 then leaf t else node t ((trL leaf node d l).getD t.a.toNat d) ((trL leaf node d l).getD t.b.toNat d) := by
  have hg := trL_get (leaf := leaf) (node := node) (d := d) h
  rw [List.getD_eq_getElem?_getD, hg, Option.getD_some]
  unfold trT
  have hcs := ckTerm_cases (ckTerms_at hc h)
  split
  · rfl
  · have h1 : t.a.toNat < k := by omega
    have h2 : t.b.toNat < k := by omega
    rw [getD_take h1, getD_take h2]

end

/-! ### Trees -/

/-- how often term j is an operand -/
def usedN : List Tm → Nat → Nat
  | [], _ => 0
  | t :: r, j => (if 3 ≤ t.op then (if t.a = (j : Int) then 1 else 0) + (if t.b = (j : Int) then 1 else 0) else 0) + usedN r j

theorem usedN_append (a b : List Tm) (j : Nat) : usedN (a ++ b) j = usedN a j + usedN b j := by
  induction a with
  | nil => simp [usedN]
  | cons t r ih => simp only [List.cons_append, usedN, ih]; omega

/-- B2: every term but the last one is once an operand -/
def treeL (l : List Tm) : Prop := ∀ j, j < l.length - 1 → usedN l j = 1

instance (l : List Tm) : Decidable (treeL l) := inferInstanceAs (Decidable (∀ j, j < l.length - 1 → usedN l j = 1))

def sumN (f : Nat → Nat) : Nat → Nat
  | 0 => 0
  | n + 1 => sumN f n + f n

theorem sumN_add (f g : Nat → Nat) : ∀ n, sumN (fun j => f j + g j) n = sumN f n + sumN g n
  | 0 => rfl
  | n + 1 => by simp only [sumN, sumN_add f g n]; omega

theorem sumN_congr {f g : Nat → Nat} : ∀ {n : Nat}, (∀ j, j < n → f j = g j) → sumN f n = sumN g n
  | 0, _ => rfl
  | n + 1, h => by rw [sumN, sumN, sumN_congr (fun j hj => h j (by omega)), h n (by omega)]

theorem sumN_zero : ∀ n, sumN (fun _ => 0) n = 0
  | 0 => rfl
  | n + 1 => by rw [sumN, sumN_zero n]

theorem sumN_one (g : Nat → Nat) (a : Int) : ∀ n : Nat, (a < 0 ∨ (n : Int) ≤ a) → sumN (fun j => (if a = (j : Int) then 1 else 0) * g j) n = 0
  | 0, _ => rfl
  | n + 1, h => by
    have hn : ¬ a = (n : Int) := by omega
    rw [sumN, sumN_one g a n (by omega), if_neg hn]
    simp

theorem sumN_pick (g : Nat → Nat) (a : Nat) : ∀ n, a < n → sumN (fun j => (if (a : Int) = (j : Int) then 1 else 0) * g j) n = g a
  | 0, h => by omega
  | n + 1, h => by
    rw [sumN]
    by_cases e : a = n
    · subst e
      rw [sumN_one g (a : Int) a (by omega), if_pos rfl]
      omega
    · have hn : ¬ (a : Int) = (n : Int) := by omega
      rw [sumN_pick g a n (by omega), if_neg hn]
      omega

/-- the operands' shares, term by term -/
def opSum (g : Nat → Nat) : List Tm → Nat
  | [] => 0
  | t :: r => (if 3 ≤ t.op then g t.a.toNat + g t.b.toNat else 0) + opSum g r

theorem opSum_used (g : Nat → Nat) (n : Nat) : ∀ l : List Tm, (∀ t ∈ l, 3 ≤ t.op → 0 ≤ t.a ∧ t.a < n ∧ 0 ≤ t.b ∧ t.b < n) → opSum g l = sumN (fun j => usedN l j * g j) n
  | [], _ => by simp only [opSum, usedN, Nat.zero_mul, sumN_zero]
  | t :: r, h => by
    rw [opSum, opSum_used g n r (fun t ht => h t (by simp [ht]))]
    by_cases ho : 3 ≤ t.op
    · obtain ⟨h1, h2, h3, h4⟩ := h t (by simp) ho
      obtain ⟨a, ha⟩ := Int.eq_ofNat_of_zero_le h1
      obtain ⟨b, hb⟩ := Int.eq_ofNat_of_zero_le h3
      have e : ∀ j, usedN (t :: r) j * g j = ((if (a : Int) = (j : Int) then 1 else 0) * g j + (if (b : Int) = (j : Int) then 1 else 0) * g j) + usedN r j * g j := fun j => by
        rw [usedN, if_pos ho, ha, hb, Nat.add_mul, Nat.add_mul]
      rw [if_pos ho, sumN_congr (fun j _ => e j), sumN_add, sumN_add, sumN_pick g a n (by omega), sumN_pick g b n (by omega), ha, hb, Int.toNat_natCast, Int.toNat_natCast]
    · have e : ∀ j, usedN (t :: r) j * g j = usedN r j * g j := fun j => by rw [usedN, if_neg ho, Nat.zero_add]
      rw [if_neg ho, sumN_congr (fun j _ => e j), Nat.zero_add]

def wSum (w : Tm → Nat) : List Tm → Nat
  | [] => 0
  | t :: r => w t + wSum w r

theorem wSum_append (w : Tm → Nat) (a b : List Tm) : wSum w (a ++ b) = wSum w a + wSum w b := by
  induction a with
  | nil => simp [wSum]
  | cons t r ih => simp only [List.cons_append, wSum, ih]; omega

theorem opSum_append (g : Nat → Nat) (a b : List Tm) : opSum g (a ++ b) = opSum g a + opSum g b := by
  induction a with
  | nil => simp [opSum]
  | cons t r ih => simp only [List.cons_append, opSum, ih]; omega

/-- what is summed up from the operands, of a tree's last term, is the sum of all shares -/
theorem tree_sum {vars : Int} {l : List Tm} (hc : ckTerms vars l = 0) (ht : treeL l) (w : Tm → Nat) (g : Nat → Nat)
    (hg : ∀ (i : Nat) (t : Tm), l[i]? = some t → g i = w t + if 3 ≤ t.op then g t.a.toNat + g t.b.toNat else 0) : g (l.length - 1) = wSum w l := by
  have hbd := ckTerms_bd hc
  have hall : ∀ k, k ≤ l.length → sumN g k = wSum w (l.take k) + opSum g (l.take k) := by
    intro k
    induction k with
    | zero => intro _; simp [sumN, wSum, opSum]
    | succ k ih =>
      intro hk
      have hkl : k < l.length := by omega
      rw [sumN, ih (by omega), hg k _ (List.getElem?_eq_getElem hkl), List.take_succ_eq_append_getElem hkl, wSum_append, opSum_append]
      simp only [wSum, opSum]
      omega
  have h1 := hall l.length (Nat.le_refl _)
  rw [List.take_of_length_le (Nat.le_refl _)] at h1
  have h2 : opSum g l = sumN (fun j => usedN l j * g j) (l.length - 1) := by
    refine opSum_used g (l.length - 1) l fun t htm ho => ?_
    obtain ⟨i, hi⟩ := List.getElem?_of_mem htm
    have hil := (List.getElem?_eq_some_iff.1 hi).1
    have hcs := ckTerm_cases (ckTerms_at hc hi)
    omega
  have h3 : sumN (fun j => usedN l j * g j) (l.length - 1) = sumN g (l.length - 1) := sumN_congr fun j hj => by rw [ht j hj, Nat.one_mul]
  have h4 : sumN g l.length = sumN g (l.length - 1) + g (l.length - 1) := by
    obtain ⟨n, hn⟩ : ∃ n, l.length = n + 1 := ⟨l.length - 1, by omega⟩
    rw [hn, Nat.add_sub_cancel]
    rfl
  omega

/-- the last term is no operand -/
theorem used_last {vars : Int} {l : List Tm} (hc : ckTerms vars l = 0) : usedN l (l.length - 1) = 0 := by
  have h : ∀ r : List Tm, (∀ t ∈ r, 3 ≤ t.op → t.a < ((l.length - 1 : Nat) : Int) ∧ t.b < ((l.length - 1 : Nat) : Int)) → usedN r (l.length - 1) = 0 := by
    intro r
    induction r with
    | nil => intro _; rfl
    | cons t r ih =>
      intro h
      rw [usedN, ih (fun t ht => h t (by simp [ht]))]
      split
      · have := h t (by simp) ‹_›
        rw [if_neg (by omega), if_neg (by omega)]
      · rfl
  refine h l fun t htm ho => ?_
  obtain ⟨i, hi⟩ := List.getElem?_of_mem htm
  have hil := (List.getElem?_eq_some_iff.1 hi).1
  have hcs := ckTerm_cases (ckTerms_at hc hi)
  omega

/-! ### Register need -/

def ndN (_ : Tm) (x y : Nat) : Nat := if x = y then x + 1 else if y < x then x else y

/-- B2: the register need of each term -/
def ndL (l : List Tm) : List Nat := trL (fun _ => 1) ndN 0 l

def ndA (l : List Tm) (i : Nat) : Nat := (ndL l).getD i 0

theorem ndL_len (l : List Tm) : (ndL l).length = l.length := trL_len l

theorem ndA_at {vars : Int} {l : List Tm} {k : Nat} {t : Tm} (hc : ckTerms vars l = 0) (h : l[k]? = some t) :
    ndA l k = if t.op < 3 then 1 else ndN t (ndA l t.a.toNat) (ndA l t.b.toNat) := trL_at hc h

/-- all that is said of checked terms from the operands on -/
theorem tm_ind {vars : Int} {l : List Tm} (hc : ckTerms vars l = 0) {S : Nat → Prop} (hleaf : ∀ (i : Nat) (t : Tm), l[i]? = some t → t.op < 3 → S i)
    (hop : ∀ (i : Nat) (t : Tm), l[i]? = some t → 3 ≤ t.op → t.a.toNat < i → t.b.toNat < i → S t.a.toNat → S t.b.toNat → S i) : ∀ i, i < l.length → S i := by
  intro i
  induction i using Nat.strongRecOn with
  | ind i ih =>
    intro hi
    have hd := List.getElem?_eq_getElem hi
    have hcs := ckTerm_cases (ckTerms_at hc hd)
    by_cases ho : (l[i]).op < 3
    · exact hleaf i _ hd ho
    · have h1 : (l[i]).a.toNat < i := by omega
      have h2 : (l[i]).b.toNat < i := by omega
      exact hop i _ hd (by omega) h1 h2 (ih _ h1 (by omega)) (ih _ h2 (by omega))

theorem nd_pos {vars : Int} {l : List Tm} (hc : ckTerms vars l = 0) : ∀ i, i < l.length → 1 ≤ ndA l i := by
  refine tm_ind hc (fun i t h ho => ?_) fun i t h ho h1 h2 h3 h4 => ?_
  · rw [ndA_at hc h, if_pos ho]; exact Nat.le_refl _
  · rw [ndA_at hc h, if_neg (by omega)]
    unfold ndN
    (repeat' split) <;> omega

/-- the leaves below a term -/
def lfA (l : List Tm) (i : Nat) : Nat := (trL (fun _ => 1) (fun _ x y => x + y) 0 l).getD i 0

theorem lfA_at {vars : Int} {l : List Tm} {k : Nat} {t : Tm} (hc : ckTerms vars l = 0) (h : l[k]? = some t) :
    lfA l k = if t.op < 3 then 1 else lfA l t.a.toNat + lfA l t.b.toNat := trL_at hc h

def leavesL (l : List Tm) : Nat := wSum (fun t => if t.op < 3 then 1 else 0) l

theorem lf_root {vars : Int} {l : List Tm} (hc : ckTerms vars l = 0) (ht : treeL l) : lfA l (l.length - 1) = leavesL l :=
  tree_sum hc ht _ (lfA l) fun i t h => by
    rw [lfA_at hc h]
    split <;> rename_i ho
    · rw [if_neg (by omega)]
    · rw [if_pos (by omega), Nat.zero_add]

/-- ERSHOV -/
theorem nd_lf {vars : Int} {l : List Tm} (hc : ckTerms vars l = 0) : ∀ i, i < l.length → 2 ^ (ndA l i - 1) ≤ lfA l i := by
  have hp := nd_pos hc
  refine tm_ind hc (fun i t h ho => ?_) fun i t h ho h1 h2 h3 h4 => ?_
  · rw [ndA_at hc h, lfA_at hc h, if_pos ho, if_pos ho]; exact Nat.le_refl _
  · have hi := (List.getElem?_eq_some_iff.1 h).1
    have p1 := hp t.a.toNat (by omega)
    have p2 := hp t.b.toNat (by omega)
    rw [ndA_at hc h, lfA_at hc h, if_neg (by omega), if_neg (by omega)]
    generalize ndA l t.a.toNat = x at *
    generalize ndA l t.b.toNat = y at *
    unfold ndN
    (repeat' split)
    · subst_vars
      obtain ⟨z, rfl⟩ : ∃ z, y = z + 1 := ⟨y - 1, by omega⟩
      simp only [Nat.add_sub_cancel] at *
      rw [Nat.pow_succ]
      omega
    · omega
    · omega

theorem two_pow_gt : ∀ n : Nat, n + 1 ≤ 2 ^ n
  | 0 => by simp
  | n + 1 => by have := two_pow_gt n; rw [Nat.pow_succ]; omega

theorem wSum_le : ∀ l : List Tm, leavesL l ≤ l.length
  | [] => Nat.le_refl _
  | t :: r => by
    have := wSum_le r
    unfold leavesL at *
    rw [wSum, List.length_cons]
    split <;> omega

theorem nd_root {vars : Int} {l : List Tm} (hc : ckTerms vars l = 0) (ht : treeL l) : 2 ^ (ndA l (l.length - 1) - 1) ≤ leavesL l ∧ 1 ≤ ndA l (l.length - 1) ∧ ndA l (l.length - 1) ≤ leavesL l ∧ ndA l (l.length - 1) ≤ 5 := by
  have hbd := ckTerms_bd hc
  have h1 := nd_lf hc (l.length - 1) (by omega)
  have h2 := nd_pos hc (l.length - 1) (by omega)
  rw [lf_root hc ht] at h1
  have h3 := two_pow_gt (ndA l (l.length - 1) - 1)
  have h4 := wSum_le l
  refine ⟨h1, h2, by omega, ?_⟩
  rcases Nat.lt_or_ge 5 (ndA l (l.length - 1)) with h5 | h5
  · exfalso
    have h6 : 2 ^ 5 ≤ 2 ^ (ndA l (l.length - 1) - 1) := Nat.pow_le_pow_right (by omega) (by omega)
    omega
  · exact h5

/-- the terms below a term, it among them -/
def szA (l : List Tm) (i : Nat) : Nat := (trL (fun _ => 1) (fun _ x y => 1 + (x + y)) 0 l).getD i 0

theorem szA_at {vars : Int} {l : List Tm} {k : Nat} {t : Tm} (hc : ckTerms vars l = 0) (h : l[k]? = some t) :
    szA l k = if t.op < 3 then 1 else 1 + (szA l t.a.toNat + szA l t.b.toNat) := trL_at hc h

theorem wSum_one : ∀ l : List Tm, wSum (fun _ => 1) l = l.length
  | [] => rfl
  | t :: r => by rw [wSum, wSum_one r, List.length_cons]; omega

theorem sz_root {vars : Int} {l : List Tm} (hc : ckTerms vars l = 0) (ht : treeL l) : szA l (l.length - 1) = l.length :=
  (tree_sum hc ht (fun _ => 1) (szA l) fun i t h => by
    rw [szA_at hc h]
    split <;> rename_i ho
    · rw [if_neg (by omega)]
    · rw [if_pos (by omega)]).trans (wSum_one l)

/-! ### Register code -/

/-- a step -/
structure St where
  op : Int
  to : Int
  a : Int
  b : Int
  v : Int

def sz0 : St := ⟨0, 0, 0, 0, 0⟩

/-- what B1 says of one step -/
def ckStep (vars regs op to a b v : Int) : Int :=
  if op < 1 ∨ 6 < op then 6
  else if (op = 1 ∧ ¬ (0 ≤ v ∧ v ≤ 255)) ∨ (op = 2 ∧ ¬ (0 ≤ v ∧ v < vars)) then 4
  else if ¬ (0 ≤ to ∧ to < regs) ∨ (3 ≤ op ∧ ¬ (0 ≤ a ∧ a < regs ∧ 0 ≤ b ∧ b < regs)) then 2 else 0

def ckStepsF (vars regs : Int) : List St → Int
  | [] => 0
  | s :: r => if ckStep vars regs s.op s.to s.a s.b s.v = 0 then ckStepsF vars regs r else ckStep vars regs s.op s.to s.a s.b s.v

/-- B1: the code of steps -/
def ckSteps (vars : Int) (code : List St) (regs : Int) : Int :=
  if vars < 0 ∨ 6 < vars ∨ 40 < code.length ∨ regs < 1 ∨ 8 < regs then 1 else ckStepsF vars regs code

theorem ckStepsF_at {vars regs : Int} : ∀ {c : List St} {i : Nat} {s : St}, ckStepsF vars regs c = 0 → c[i]? = some s → ckStep vars regs s.op s.to s.a s.b s.v = 0
  | [], _, _, _, h => by simp at h
  | s :: r, 0, u, hc, h => by
    simp at h
    subst h
    unfold ckStepsF at hc
    split at hc
    · assumption
    · rename_i hne
      exact absurd hc hne
  | s :: r, i + 1, u, hc, h => by
    unfold ckStepsF at hc
    split at hc
    · exact ckStepsF_at hc (by simpa using h)
    · rename_i hne
      exact absurd hc hne

theorem ckStepsF_of {vars regs : Int} : ∀ {c : List St}, (∀ s ∈ c, ckStep vars regs s.op s.to s.a s.b s.v = 0) → ckStepsF vars regs c = 0
  | [], _ => rfl
  | s :: r, h => by
    rw [ckStepsF, if_pos (h s (by simp))]
    exact ckStepsF_of fun s hs => h s (by simp [hs])

theorem ckStepsF_go {vars regs : Int} {o t a b v : Int} {r : List St} (h : ckStep vars regs o t a b v = 0) : ckStepsF vars regs (⟨o, t, a, b, v⟩ :: r) = ckStepsF vars regs r := by
  rw [ckStepsF, if_pos h]

theorem ckStepsF_stop {vars regs c : Int} {o t a b v : Int} {r : List St} (h : ckStep vars regs o t a b v = c) (hc : c ≠ 0) : c = ckStepsF vars regs (⟨o, t, a, b, v⟩ :: r) := by
  rw [← h] at hc
  rw [ckStepsF, if_neg hc, h]

theorem ckSteps_bd {vars regs : Int} {c : List St} (h : ckSteps vars c regs = 0) : 0 ≤ vars ∧ vars ≤ 6 ∧ c.length ≤ 40 ∧ 1 ≤ regs ∧ regs ≤ 8 ∧ ckStepsF vars regs c = 0 := by
  unfold ckSteps at h
  split at h
  · omega
  · omega

theorem ckSteps_of {vars regs : Int} {c : List St} (h1 : 0 ≤ vars) (h2 : vars ≤ 6) (h3 : c.length ≤ 40) (h4 : 1 ≤ regs) (h5 : regs ≤ 8) (h : ckStepsF vars regs c = 0) : ckSteps vars c regs = 0 := by
  unfold ckSteps
  rw [if_neg (by omega), h]

theorem ckStep_cases {vars regs op to a b v : Int} (h : ckStep vars regs op to a b v = 0) :
    (0 ≤ to ∧ to < regs) ∧ ((op = 1 ∧ 0 ≤ v ∧ v ≤ 255) ∨ (op = 2 ∧ 0 ≤ v ∧ v < vars) ∨ (3 ≤ op ∧ op ≤ 6 ∧ 0 ≤ a ∧ a < regs ∧ 0 ≤ b ∧ b < regs)) := by
  unfold ckStep at h
  (repeat' split at h) <;> omega

/-- B1: what a step's register gets -/
def stV (have_ : List Int) (s : St) (r : List Int) : Int :=
  if s.op = 1 then s.v else if s.op = 2 then have_.getD s.v.toNat 0 else opv s.op (r.getD s.a.toNat 0) (r.getD s.b.toNat 0)

def runF (have_ : List Int) : List St → List Int → List Int
  | [], r => r
  | s :: c, r => runF have_ c (r.set s.to.toNat (stV have_ s r))

/-- B1: the registers behind steps -/
def runS (c : List St) (regs : Int) (have_ : List Int) : List Int := runF have_ c (List.replicate regs.toNat 0)

theorem runF_append (hv : List Int) : ∀ (a b : List St) (r : List Int), runF hv (a ++ b) r = runF hv b (runF hv a r)
  | [], _, _ => rfl
  | s :: c, b, r => runF_append hv c b _

theorem runF_len (hv : List Int) : ∀ (c : List St) (r : List Int), (runF hv c r).length = r.length
  | [], _ => rfl
  | s :: c, r => by rw [runF, runF_len hv c]; simp

theorem runS_len (c : List St) (regs : Int) (hv : List Int) : (runS c regs hv).length = regs.toNat := by unfold runS; rw [runF_len]; simp

/-- B2: steps that reckon term i in register 'to', by register need -/
def emitL (l : List Tm) : Nat → Nat → Nat → List St
  | 0, _, _ => []
  | f + 1, i, to =>
    let t := l.getD i tz
    if t.op < 3 then [⟨t.op, to, 0, 0, t.v⟩]
    else if ndA l t.b.toNat ≤ ndA l t.a.toNat then emitL l f t.a.toNat to ++ emitL l f t.b.toNat (to + 1) ++ [⟨t.op, to, to, (to : Int) + 1, 0⟩]
    else emitL l f t.b.toNat to ++ emitL l f t.a.toNat (to + 1) ++ [⟨t.op, to, (to : Int) + 1, to, 0⟩]

/-- B2: the code of a tree -/
def codeL (l : List Tm) : List St := emitL l l.length (l.length - 1) 0

theorem getD_some {α : Type} {xs : List α} {i : Nat} {x d : α} (h : xs[i]? = some x) : xs.getD i d = x := by rw [List.getD_eq_getElem?_getD, h, Option.getD_some]

/-- of checked terms the fuel does not matter -/
theorem emit_fuel {vars : Int} {l : List Tm} (hc : ckTerms vars l = 0) : ∀ i, i < l.length → ∀ f g to, i < f → i < g → emitL l f i to = emitL l g i to := by
  refine tm_ind hc (fun i t h ho => ?_) fun i t h ho h1 h2 h3 h4 => ?_
  all_goals
    intro f g to hf hg
    obtain ⟨f, rfl⟩ : ∃ f', f = f' + 1 := ⟨f - 1, by omega⟩
    obtain ⟨g, rfl⟩ : ∃ g', g = g' + 1 := ⟨g - 1, by omega⟩
    simp only [emitL, getD_some h]
  · rw [if_pos ho, if_pos ho]
  · rw [h3 f g to (by omega) (by omega), h3 f g (to + 1) (by omega) (by omega), h4 f g to (by omega) (by omega), h4 f g (to + 1) (by omega) (by omega)]

theorem emit_len {vars : Int} {l : List Tm} (hc : ckTerms vars l = 0) : ∀ i, i < l.length → ∀ f to, i < f → (emitL l f i to).length = szA l i := by
  refine tm_ind hc (fun i t h ho => ?_) fun i t h ho h1 h2 h3 h4 => ?_
  all_goals
    intro f to hf
    obtain ⟨f, rfl⟩ : ∃ f', f = f' + 1 := ⟨f - 1, by omega⟩
    simp only [emitL, getD_some h, szA_at hc h]
  · rw [if_pos ho, if_pos ho]; rfl
  · have hno : ¬ t.op < 3 := by omega
    rw [if_neg hno, if_neg hno]
    split
    · rw [List.length_append, List.length_append, h3 f to (by omega), h4 f (to + 1) (by omega), List.length_singleton]; omega
    · rw [List.length_append, List.length_append, h4 f to (by omega), h3 f (to + 1) (by omega), List.length_singleton]; omega

theorem code_len {vars : Int} {l : List Tm} (hc : ckTerms vars l = 0) (ht : treeL l) : (codeL l).length = l.length := by
  have := ckTerms_bd hc
  unfold codeL
  rw [emit_len hc _ (by omega) _ _ (by omega), sz_root hc ht]

/-- every step is fit, and keeps within its registers -/
theorem emit_ok {vars : Int} {l : List Tm} (hc : ckTerms vars l = 0) : ∀ i, i < l.length → ∀ f to (regs : Nat), i < f → to + ndA l i ≤ regs → ∀ s ∈ emitL l f i to, ckStep vars regs s.op s.to s.a s.b s.v = 0 := by
  have hp := nd_pos hc
  refine tm_ind hc (fun i t h ho => ?_) fun i t h ho h1 h2 h3 h4 => ?_
  all_goals
    have hcs := ckTerm_cases (ckTerms_at hc h)
    intro f to regs hf hr s hs
    obtain ⟨f, rfl⟩ : ∃ f', f = f' + 1 := ⟨f - 1, by omega⟩
    simp only [emitL, getD_some h] at hs
    rw [ndA_at hc h] at hr
  · rw [if_pos ho] at hs hr
    rw [List.mem_singleton] at hs
    subst hs
    unfold ckStep
    rw [if_neg (by simp only []; omega), if_neg (by simp only []; omega), if_neg (by simp only []; omega)]
  · have hi := (List.getElem?_eq_some_iff.1 h).1
    have p1 := hp t.a.toNat (by omega)
    have p2 := hp t.b.toNat (by omega)
    rw [if_neg (by omega)] at hs hr
    unfold ndN at hr
    split at hs
    · have hr1 : to + ndA l t.a.toNat ≤ regs := by (repeat' split at hr) <;> omega
      have hr2 : to + 1 + ndA l t.b.toNat ≤ regs := by (repeat' split at hr) <;> omega
      rw [List.mem_append, List.mem_append, List.mem_singleton] at hs
      rcases hs with (hs | hs) | rfl
      · exact h3 f to regs (by omega) hr1 s hs
      · exact h4 f (to + 1) regs (by omega) hr2 s hs
      · unfold ckStep
        rw [if_neg (by simp only []; omega), if_neg (by simp only []; omega), if_neg (by simp only []; omega)]
    · have hr1 : to + ndA l t.b.toNat ≤ regs := by (repeat' split at hr) <;> omega
      have hr2 : to + 1 + ndA l t.a.toNat ≤ regs := by (repeat' split at hr) <;> omega
      rw [List.mem_append, List.mem_append, List.mem_singleton] at hs
      rcases hs with (hs | hs) | rfl
      · exact h4 f to regs (by omega) hr1 s hs
      · exact h3 f (to + 1) regs (by omega) hr2 s hs
      · unfold ckStep
        rw [if_neg (by simp only []; omega), if_neg (by simp only []; omega), if_neg (by simp only []; omega)]

theorem code_ok {vars : Int} {l : List Tm} {regs : Int} (hc : ckTerms vars l = 0) (ht : treeL l) (h : (ndA l (l.length - 1) : Int) ≤ regs) (h8 : regs ≤ 8) : ckSteps vars (codeL l) regs = 0 := by
  have hb := ckTerms_bd hc
  have hp := nd_pos hc (l.length - 1) (by omega)
  obtain ⟨rn, rfl⟩ := Int.eq_ofNat_of_zero_le (a := regs) (by omega)
  refine ckSteps_of hb.1 hb.2.1 (by rw [code_len hc ht]; omega) (by omega) h8 (ckStepsF_of ?_)
  exact emit_ok hc _ (by omega) _ _ _ (by omega) (by omega)

/-! ### What the code reckons -/

def evA (hv : List Int) (l : List Tm) (i : Nat) : Int := (evAll hv l []).getD i 0

theorem evA_at {vars : Int} {l : List Tm} {k : Nat} {t : Tm} (hv : List Int) (hc : ckTerms vars l = 0) (h : l[k]? = some t) :
    evA hv l k = if t.op = 1 then t.v else if t.op = 2 then hv.getD t.v.toNat 0 else opv t.op (evA hv l t.a.toNat) (evA hv l t.b.toNat) := by
  unfold evA
  have hcs := ckTerm_cases (ckTerms_at hc h)
  have hg := evAll_get (hv := hv) l [] k
  simp only [List.length_nil, Nat.not_lt_zero, if_false, Nat.sub_zero, h] at hg
  rw [List.getD_eq_getElem?_getD, hg, Option.getD_some]
  unfold evT
  split
  · rfl
  · split
    · rfl
    · have h1 : t.a.toNat < k := by omega
      have h2 : t.b.toNat < k := by omega
      try simp only [List.nil_append]
      rw [getD_take (by omega), getD_take (by omega)]

theorem set_getD {xs : List Int} {i j : Nat} {x d : Int} (hi : i < xs.length) : (xs.set i x).getD j d = if i = j then x else xs.getD j d := by
  by_cases h : i = j
  · subst h
    rw [if_pos rfl, List.getD_eq_getElem?_getD, List.getElem?_set_self hi, Option.getD_some]
  · rw [if_neg h, List.getD_eq_getElem?_getD, List.getElem?_set_ne h, List.getD_eq_getElem?_getD]

/-- SETHI, ULLMAN: behind the steps the register has the term's value, and those below it are as they were -/
theorem emit_run {vars : Int} {l : List Tm} (hv : List Int) (hc : ckTerms vars l = 0) : ∀ i, i < l.length → ∀ f to (r : List Int), i < f → to + ndA l i ≤ r.length →
    (runF hv (emitL l f i to) r).getD to 0 = evA hv l i ∧ ∀ j, j < to → (runF hv (emitL l f i to) r).getD j 0 = r.getD j 0 := by
  have hp := nd_pos hc
  refine tm_ind hc (fun i t h ho => ?_) fun i t h ho h1 h2 h3 h4 => ?_
  all_goals
    have hcs := ckTerm_cases (ckTerms_at hc h)
    intro f to r hf hr
    obtain ⟨f, rfl⟩ : ∃ f', f = f' + 1 := ⟨f - 1, by omega⟩
    simp only [emitL, getD_some h]
    rw [ndA_at hc h] at hr
    rw [evA_at hv hc h]
  · rw [if_pos ho] at hr ⊢
    simp only [runF, Int.toNat_natCast]
    refine ⟨?_, fun j hj => ?_⟩
    · rw [set_getD (by omega), if_pos rfl]
      unfold stV
      simp only []
      split
      · rfl
      · have h2 : t.op = 2 := by omega
        rw [if_pos h2, if_pos h2]
    · rw [set_getD (by omega), if_neg (by omega)]
  · have hi := (List.getElem?_eq_some_iff.1 h).1
    have p1 := hp t.a.toNat (by omega)
    have p2 := hp t.b.toNat (by omega)
    have hno : ¬ t.op < 3 := by omega
    have hn1 : ¬ t.op = 1 := by omega
    have hn2 : ¬ t.op = 2 := by omega
    rw [if_neg hno] at hr ⊢
    rw [if_neg hn1, if_neg hn2]
    unfold ndN at hr
    split
    · have hr1 : to + ndA l t.a.toNat ≤ r.length := by (repeat' split at hr) <;> omega
      have hr2 : to + 1 + ndA l t.b.toNat ≤ r.length := by (repeat' split at hr) <;> omega
      rw [runF_append, runF_append]
      obtain ⟨q1, q2⟩ := h3 f to r (by omega) hr1
      obtain ⟨q3, q4⟩ := h4 f (to + 1) (runF hv (emitL l f t.a.toNat to) r) (by omega) (by rw [runF_len]; omega)
      have hl : (runF hv (emitL l f t.b.toNat (to + 1)) (runF hv (emitL l f t.a.toNat to) r)).length = r.length := by rw [runF_len, runF_len]
      have q5 := q4 to (by omega)
      generalize runF hv (emitL l f t.b.toNat (to + 1)) (runF hv (emitL l f t.a.toNat to) r) = r2 at *
      simp only [runF, Int.toNat_natCast]
      refine ⟨?_, fun j hj => ?_⟩
      · rw [set_getD (by omega), if_pos rfl]
        unfold stV
        simp only []
        rw [if_neg hn1, if_neg hn2, Int.toNat_natCast, show ((to : Int) + 1).toNat = to + 1 from by omega, q3, q5, q1]
      · rw [set_getD (by omega), if_neg (by omega), q4 j (by omega), q2 j hj]
    · have hr1 : to + ndA l t.b.toNat ≤ r.length := by (repeat' split at hr) <;> omega
      have hr2 : to + 1 + ndA l t.a.toNat ≤ r.length := by (repeat' split at hr) <;> omega
      rw [runF_append, runF_append]
      obtain ⟨q1, q2⟩ := h4 f to r (by omega) hr1
      obtain ⟨q3, q4⟩ := h3 f (to + 1) (runF hv (emitL l f t.b.toNat to) r) (by omega) (by rw [runF_len]; omega)
      have hl : (runF hv (emitL l f t.a.toNat (to + 1)) (runF hv (emitL l f t.b.toNat to) r)).length = r.length := by rw [runF_len, runF_len]
      have q5 := q4 to (by omega)
      generalize runF hv (emitL l f t.a.toNat (to + 1)) (runF hv (emitL l f t.b.toNat to) r) = r2 at *
      simp only [runF, Int.toNat_natCast]
      refine ⟨?_, fun j hj => ?_⟩
      · rw [set_getD (by omega), if_pos rfl]
        unfold stV
        simp only []
        rw [if_neg hn1, if_neg hn2, Int.toNat_natCast, show ((to : Int) + 1).toNat = to + 1 from by omega, q3, q5, q1]
      · rw [set_getD (by omega), if_neg (by omega), q4 j (by omega), q2 j hj]

theorem code_run {vars : Int} {l : List Tm} {regs : Int} (hv : List Int) (hc : ckTerms vars l = 0) (h : (ndA l (l.length - 1) : Int) ≤ regs) : (runS (codeL l) regs hv)[0]? = some (valT l hv) := by
  have hb := ckTerms_bd hc
  have hp := nd_pos hc (l.length - 1) (by omega)
  have hlen := runS_len (codeL l) regs hv
  have h1 := (emit_run hv hc (l.length - 1) (by omega) l.length 0 (List.replicate regs.toNat 0) (by omega) (by simp; omega)).1
  have h2 : (runS (codeL l) regs hv).getD 0 0 = valT l hv := h1
  rw [← h2]
  have h0 : 0 < (runS (codeL l) regs hv).length := by omega
  rw [List.getD_eq_getElem?_getD, List.getElem?_eq_getElem h0]
  rfl

/-- every value of a register is one -/
theorem stV_bd {vars regs : Int} {hv r : List Int} {s : St} (hc : ckStep vars regs s.op s.to s.a s.b s.v = 0) (hl : (hv.length : Int) = vars) (ho : okVals hv = true) : 0 ≤ stV hv s r ∧ stV hv s r ≤ 255 := by
  have := ckStep_cases hc
  unfold stV
  split
  · omega
  · split
    · have hk : s.v.toNat < hv.length := by omega
      have := okVals_at ho (List.getElem?_eq_getElem hk)
      rw [List.getD_eq_getElem?_getD, List.getElem?_eq_getElem hk, Option.getD_some]
      exact this
    · exact opv_bd _ _ _

end Go.Proofs.Ythgilekhohadoaa
