/-
  Plain mathematics of programs (J1, J2): checked programs, where one may go, what a run gives: no program's text.
-/
import Derived.Test.YthgilekhohadoaaPureNeed
import Derived.Test.YthgilekhohadoaaPureWay
namespace Go.Proofs.Ythgilekhohadoaa
set_option linter.unusedSimpArgs false
set_option linter.unusedVariables false

/-- a block -/
structure Bk where
  code : List St
  test : Int
  th : Int
  el : Int

def bk0 : Bk := ⟨[], -1, -1, 0⟩

/-- how many steps -/
def manyS : List Bk → Nat
  | [] => 0
  | b :: r => b.code.length + manyS r

/-- J1: one block -/
def ckBk (vars n : Int) (b : Bk) : Int :=
  if ckStepsF vars vars b.code ≠ 0 then ckStepsF vars vars b.code
  else if b.test ≠ -1 ∧ ¬ (0 ≤ b.test ∧ b.test < vars) then 2
  else if b.test = -1 ∧ b.th ≠ -1 ∧ ¬ (0 ≤ b.th ∧ b.th < n) then 3
  else if 0 ≤ b.test ∧ ¬ (0 ≤ b.th ∧ b.th < n ∧ 0 ≤ b.el ∧ b.el < n) then 3 else 0

def ckBks (vars n : Int) : List Bk → Int
  | [] => 0
  | b :: r => if ckBk vars n b = 0 then ckBks vars n r else ckBk vars n b

/-- J1: the code of a program -/
def ckProg (vars : Int) (p : List Bk) : Int :=
  if vars < 1 ∨ 6 < vars ∨ p.length < 1 ∨ 8 < p.length ∨ 20 < manyS p then 1 else ckBks vars p.length p

theorem manyS_take : ∀ {p : List Bk} {k : Nat} {b : Bk}, p[k]? = some b → manyS (p.take (k + 1)) = manyS (p.take k) + b.code.length
  | [], _, _, h => by simp at h
  | a :: p, 0, b, h => by
    simp at h
    subst h
    simp [manyS]
  | a :: p, k + 1, b, h => by
    have := manyS_take (p := p) (k := k) (by simpa using h)
    simp only [List.take_succ_cons, manyS]
    omega

theorem manyS_le : ∀ {p : List Bk} {k : Nat} {b : Bk}, p[k]? = some b → b.code.length ≤ manyS p
  | [], _, _, h => by simp at h
  | a :: p, 0, b, h => by
    simp at h
    subst h
    simp [manyS]
  | a :: p, k + 1, b, h => by
    have := manyS_le (p := p) (k := k) (by simpa using h)
    simp only [manyS]
    omega

theorem ckBks_at {vars n : Int} : ∀ {p : List Bk} {k : Nat} {b : Bk}, ckBks vars n p = 0 → p[k]? = some b → ckBk vars n b = 0
  | [], _, _, _, h => by simp at h
  | a :: p, 0, b, hc, h => by
    simp at h
    subst h
    unfold ckBks at hc
    split at hc
    · assumption
    · rename_i hne; exact absurd hc hne
  | a :: p, k + 1, b, hc, h => by
    unfold ckBks at hc
    split at hc
    · exact ckBks_at hc (by simpa using h)
    · rename_i hne; exact absurd hc hne

theorem ckBks_drop {vars n : Int} {p : List Bk} {k : Nat} {b : Bk} (h : p[k]? = some b) : ckBks vars n (p.drop k) = if ckBk vars n b = 0 then ckBks vars n (p.drop (k + 1)) else ckBk vars n b := by
  rw [drop_at h, ckBks]

theorem ckBks_of {vars n : Int} : ∀ {p : List Bk}, (∀ b ∈ p, ckBk vars n b = 0) → ckBks vars n p = 0
  | [], _ => rfl
  | b :: p, h => by
    rw [ckBks, if_pos (h b (List.mem_cons_self ..))]
    exact ckBks_of fun x hx => h x (List.mem_cons_of_mem _ hx)

theorem ckProg_bd {vars : Int} {p : List Bk} (h : ckProg vars p = 0) : 1 ≤ vars ∧ vars ≤ 6 ∧ 1 ≤ p.length ∧ p.length ≤ 8 ∧ manyS p ≤ 20 ∧ ckBks vars p.length p = 0 := by
  unfold ckProg at h
  split at h <;> omega

theorem ckProg_of {vars : Int} {p : List Bk} (h1 : 1 ≤ vars) (h2 : vars ≤ 6) (h3 : 1 ≤ p.length) (h4 : p.length ≤ 8) (h5 : manyS p ≤ 20) (h6 : ckBks vars p.length p = 0) : ckProg vars p = 0 := by
  unfold ckProg
  rw [if_neg (by omega), h6]

/-- what holds of a checked block -/
structure BkOk (vars : Nat) (n : Nat) (b : Bk) : Prop where
  code : ckStepsF vars vars b.code = 0
  test : b.test = -1 ∨ (0 ≤ b.test ∧ b.test < vars)
  th : (0 ≤ b.th ∧ b.th < n) ∨ (b.th = -1 ∧ b.test = -1)
  el : 0 ≤ b.test → 0 ≤ b.el ∧ b.el < n

theorem ckBk_ok {vars n : Nat} {b : Bk} (h : ckBk vars n b = 0) : BkOk vars n b := by
  unfold ckBk at h
  split at h
  · rename_i h1; exact absurd h h1
  · rename_i h1
    split at h
    · omega
    · split at h
      · omega
      · split at h
        · omega
        · exact ⟨Classical.byContradiction h1, by omega, by omega, by omega⟩

theorem ckBk_of {vars n : Nat} {b : Bk} (h : BkOk vars n b) : ckBk vars n b = 0 := by
  obtain ⟨h1, h2, h3, h4⟩ := h
  unfold ckBk
  rw [if_neg (by simp [h1]), if_neg (by omega), if_neg (by omega), if_neg (by omega)]

theorem ckProg_at {vars : Nat} {p : List Bk} (h : ckProg vars p = 0) {k : Nat} {b : Bk} (hk : p[k]? = some b) : BkOk vars p.length b := ckBk_ok (ckBks_at (ckProg_bd h).2.2.2.2.2 hk)

/-! ### Where one may go -/

def nxB (b : Bk) : List Int := (if b.th = -1 then [] else [b.th]) ++ (if b.test ≠ -1 ∧ b.th ≠ b.el then [b.el] else [])

/-- J2 -/
def nxP (p : List Bk) : List (List Int) := p.map nxB

theorem nxB_len (b : Bk) : (nxB b).length ≤ 2 := by
  unfold nxB
  rw [List.length_append]
  split <;> split <;> simp

theorem nxP_way {vars : Nat} {p : List Bk} (h : ckProg vars p = 0) : ckWay (nxP p) = 0 := by
  obtain ⟨_, _, h3, h4, _, _⟩ := ckProg_bd h
  have hl : (nxP p).length = p.length := by simp [nxP]
  refine ckWay_of (by omega) (by omega) fun r hr => ?_
  rw [hl]
  obtain ⟨b, hb, rfl⟩ := List.mem_map.1 hr
  obtain ⟨k, hk, rfl⟩ := List.getElem_of_mem hb
  have hok := ckProg_at h (List.getElem?_eq_getElem hk)
  refine ⟨Nat.le_trans (nxB_len _) (by omega), fun x hx => ?_⟩
  obtain ⟨_, h6, h7, h8⟩ := hok
  unfold nxB at hx
  rw [List.mem_append] at hx
  rcases hx with hx | hx
  · split at hx
    · cases hx
    · rw [List.mem_singleton] at hx; omega
  · split at hx
    · rw [List.mem_singleton] at hx; omega
    · cases hx

/-! ### Steps, with variables as registers -/

def doS : List St → List Int → List Int
  | [], v => v
  | s :: c, v => doS c (v.set s.to.toNat (stV v s v))

theorem doS_append : ∀ (a b : List St) (v : List Int), doS (a ++ b) v = doS b (doS a v)
  | [], _, _ => rfl
  | s :: a, b, v => doS_append a b _

theorem doS_len : ∀ (c : List St) (v : List Int), (doS c v).length = v.length
  | [], _ => rfl
  | s :: c, v => by rw [doS, doS_len c]; simp

/-- values of variables -/
def ValsOk (n : Nat) (v : List Int) : Prop := v.length = n ∧ ∀ (j : Nat) (x : Int), v[j]? = some x → 0 ≤ x ∧ x ≤ 255

theorem ValsOk.set {n : Nat} {v : List Int} (h : ValsOk n v) {j : Nat} {x : Int} (hx : 0 ≤ x ∧ x ≤ 255) : ValsOk n (v.set j x) := by
  refine ⟨by simp [h.1], fun i y hy => ?_⟩
  rw [List.getElem?_set] at hy
  split at hy
  · split at hy
    · injection hy with hy; omega
    · cases hy
  · exact h.2 i y hy

theorem stV_val {n : Nat} {v r : List Int} {s : St} (hv : ValsOk n v) (hc : ckStep n n s.op s.to s.a s.b s.v = 0) : 0 ≤ stV v s r ∧ stV v s r ≤ 255 := by
  obtain ⟨_, h⟩ := ckStep_cases hc
  unfold stV
  rcases h with ⟨h1, h2, h3⟩ | ⟨h1, h2, h3⟩ | ⟨h1, _⟩
  · rw [if_pos h1]; omega
  · rw [if_neg (by omega), if_pos h1]
    have hi : s.v.toNat < v.length := by rw [hv.1]; omega
    have := hv.2 s.v.toNat _ (List.getElem?_eq_getElem hi)
    simpa [hi] using this
  · rw [if_neg (by omega), if_neg (by omega)]; exact opv_bd _ _ _

theorem doS_ok {n : Nat} : ∀ {c : List St} {v : List Int}, ckStepsF n n c = 0 → ValsOk n v → ValsOk n (doS c v)
  | [], _, _, h => h
  | s :: c, v, hc, h => by
    have h0 : ckStep n n s.op s.to s.a s.b s.v = 0 := ckStepsF_at hc (i := 0) (s := s) (by simp)
    have h1 : ckStepsF n n c = 0 := by
      unfold ckStepsF at hc
      rwa [if_pos h0] at hc
    rw [doS]
    exact doS_ok h1 (h.set (stV_val h h0))

theorem valsOk_of {n : Nat} {v : List Int} (h : ckHave n v = 0) : ValsOk n v := by
  obtain ⟨h1, h2⟩ := ckHave_ok h
  exact ⟨by omega, fun j x hx => okVals_at h2 hx⟩

theorem ckHave_vals {n : Nat} {v : List Int} (h : ValsOk n v) : ckHave n v = 0 := ckHave_of (by rw [h.1]) (okVals_of h.2)

/-- steps from step k on -/
theorem doS_drop {c : List St} {k : Nat} {s : St} (h : c[k]? = some s) (v : List Int) : doS (c.drop k) v = doS (c.drop (k + 1)) (v.set s.to.toNat (stV v s v)) := by
  rw [drop_at h]
  rfl

/-! ### Runs -/

/-- where one goes behind a block -/
def goB (b : Bk) (v : List Int) : Int := if 0 ≤ b.test ∧ v.getD b.test.toNat 0 = 0 then b.el else b.th

/-- J2: a run of at most f blocks from a block on -/
def goP (p : List Bk) : Nat → Int → List Int → Option (List Int × List Nat)
  | 0, at_, v => if at_ = -1 then some (v, []) else none
  | f + 1, at_, v => if at_ = -1 then some (v, []) else
    match goP p f (goB (p.getD at_.toNat bk0) (doS (p.getD at_.toNat bk0).code v)) (doS (p.getD at_.toNat bk0).code v) with
    | some (x, l) => some (x, at_.toNat :: l)
    | none => none

theorem goP_stop (p : List Bk) (f : Nat) (v : List Int) : goP p f (-1) v = some (v, []) := by
  cases f <;> simp [goP]

theorem goP_zero {p : List Bk} {i : Nat} {v : List Int} : goP p 0 (i : Int) v = none := by
  unfold goP
  rw [if_neg (nat_ne i)]

theorem goP_succ (p : List Bk) (f : Nat) (at_ : Int) (v : List Int) : goP p (f + 1) at_ v = if at_ = -1 then some (v, []) else
    match goP p f (goB (p.getD at_.toNat bk0) (doS (p.getD at_.toNat bk0).code v)) (doS (p.getD at_.toNat bk0).code v) with
    | some (x, l) => some (x, at_.toNat :: l)
    | none => none := rfl

/-- one block more -/
theorem goP_step {p : List Bk} {f i : Nat} {b : Bk} {v : List Int} (h : p[i]? = some b) : goP p (f + 1) (i : Int) v = (goP p f (goB b (doS b.code v)) (doS b.code v)).map fun x => (x.1, i :: x.2) := by
  have hg : p.getD (i : Int).toNat bk0 = b := by rw [Int.toNat_natCast, List.getD_eq_getElem?_getD, h]; rfl
  rw [goP_succ, if_neg (nat_ne i), hg]
  cases goP p f (goB b (doS b.code v)) (doS b.code v) with
  | none => rfl
  | some x => simp

/-- goes on to a block, or stops -/
theorem goB_lt {vars n : Nat} {b : Bk} (h : BkOk vars n b) (v : List Int) : goB b v = -1 ∨ ∃ j : Nat, goB b v = (j : Int) ∧ j < n := by
  obtain ⟨_, h2, h3, h4⟩ := h
  unfold goB
  split
  · rename_i h5
    have := h4 h5.1
    exact .inr ⟨b.el.toNat, by omega, by omega⟩
  · rcases h3 with h3 | h3
    · exact .inr ⟨b.th.toNat, by omega, by omega⟩
    · exact .inl h3.1

theorem goB_nx {vars n : Nat} {b : Bk} (h : BkOk vars n b) {v : List Int} {j : Nat} (hj : goB b v = (j : Int)) : (j : Int) ∈ nxB b := by
  obtain ⟨_, h2, h3, h4⟩ := h
  unfold goB at hj
  unfold nxB
  split at hj
  · rename_i h5
    rw [hj]
    by_cases e : b.th = (j : Int)
    · rw [e, if_neg (nat_ne j)]
      simp
    · rw [if_pos (show b.test ≠ -1 ∧ b.th ≠ (j : Int) from ⟨by omega, e⟩)]
      simp
  · rw [hj, if_neg (nat_ne j)]
    simp

theorem goB_end {vars n : Nat} {b : Bk} (h : BkOk vars n b) {v : List Int} (hj : goB b v = -1) : nxB b = [] := by
  obtain ⟨_, h2, h3, h4⟩ := h
  unfold goB at hj
  unfold nxB
  split at hj
  · rename_i h5
    have := h4 h5.1
    omega
  · rcases h3 with h3 | h3
    · omega
    · rw [if_pos h3.1, if_neg (by omega)]
      rfl

/-- a way by which a run goes: each block one of those to which one may go; it stops in the last one -/
inductive RunW (p : List Bk) : List Nat → Prop
  | one {i : Nat} {b : Bk} : p[i]? = some b → nxB b = [] → RunW p [i]
  | more {i j : Nat} {b : Bk} {l : List Nat} : p[i]? = some b → (j : Int) ∈ nxB b → RunW p (j :: l) → RunW p (i :: j :: l)

theorem goP_way {vars : Nat} {p : List Bk} (h : ckProg vars p = 0) : ∀ (f i : Nat) (v x : List Int) (l : List Nat), i < p.length → ValsOk vars v → goP p f (i : Int) v = some (x, l) → ∃ r, l = i :: r ∧ RunW p l ∧ l.length ≤ f ∧ ValsOk vars x
  | 0, i, v, x, l, hi, hv, hg => by rw [goP_zero] at hg; cases hg
  | f + 1, i, v, x, l, hi, hv, hg => by
    have hb := List.getElem?_eq_getElem hi
    have hok := ckProg_at h hb
    rw [goP_step hb] at hg
    have hv2 := doS_ok hok.code hv
    generalize doS p[i].code v = v2 at *
    rcases goB_lt hok v2 with e | ⟨j, e, hj⟩
    · rw [e, goP_stop] at hg
      simp only [Option.map_some, Option.some.injEq, Prod.mk.injEq] at hg
      obtain ⟨rfl, rfl⟩ := hg
      exact ⟨[], rfl, .one hb (goB_end hok e), by simp, hv2⟩
    · rw [e] at hg
      cases hg2 : goP p f (j : Int) v2 with
      | none => rw [hg2] at hg; cases hg
      | some y =>
        obtain ⟨x2, l2⟩ := y
        rw [hg2] at hg
        simp only [Option.map_some, Option.some.injEq, Prod.mk.injEq] at hg
        obtain ⟨rfl, rfl⟩ := hg
        obtain ⟨r, rfl, h1, h2, h3⟩ := goP_way h f j v2 x2 l2 hj hv2 hg2
        exact ⟨_, rfl, .more hb (goB_nx hok e) h1, by simp only [List.length_cons] at h2 ⊢; omega, h3⟩

theorem RunW.lt {p : List Bk} {l : List Nat} (h : RunW p l) : ∀ (k i : Nat), l[k]? = some i → i < p.length := by
  induction h with
  | one h1 _ =>
    intro k j hj
    cases k with
    | zero => simp at hj; subst hj; exact (List.getElem?_eq_some_iff.1 h1).1
    | succ k => simp at hj
  | more h1 _ _ ih =>
    intro k j hj
    cases k with
    | zero => simp at hj; subst hj; exact (List.getElem?_eq_some_iff.1 h1).1
    | succ k => exact ih k j (by simpa using hj)

theorem RunW.next {p : List Bk} {l : List Nat} (h : RunW p l) : ∀ (k i j : Nat), l[k]? = some i → l[k + 1]? = some j → ∃ b, p[i]? = some b ∧ (j : Int) ∈ nxB b := by
  induction h with
  | one h1 _ => intro k i j _ hj; simp at hj
  | more h1 h2 _ ih =>
    intro k i j hi hj
    cases k with
    | zero =>
      simp at hi hj
      subst hi
      subst hj
      exact ⟨_, h1, h2⟩
    | succ k => exact ih k i j (by simpa using hi) (by simpa using hj)

theorem RunW.last {p : List Bk} {l : List Nat} (h : RunW p l) : ∃ i b, l[l.length - 1]? = some i ∧ p[i]? = some b ∧ nxB b = [] := by
  induction h with
  | one h1 h2 => exact ⟨_, _, rfl, h1, h2⟩
  | @more i j b l h1 h2 h3 ih =>
    obtain ⟨i', b', e, h4⟩ := ih
    refine ⟨i', b', ?_, h4⟩
    simp only [List.length_cons, Nat.add_sub_cancel] at e ⊢
    simpa using e

/-- J2: the code of a run -/
def ckGo (vars : Int) (p : List Bk) (hv : List Int) : Int := if ckProg vars p = 0 then ckHave vars hv else ckProg vars p

/-! ### A block cut in two -/

theorem split_run {code : List St} (i : Nat) (v : List Int) :
    goP [⟨code, -1, -1, 0⟩] 200 0 v = some (doS code v, [0]) ∧ goP [⟨code.take i, -1, 1, 0⟩, ⟨code.drop i, -1, -1, 0⟩] 200 0 v = some (doS code v, [0, 1]) := by
  constructor
  · have := goP_step (p := [⟨code, -1, -1, 0⟩]) (f := 199) (i := 0) (v := v) rfl
    rw [show ((0 : Nat) : Int) = 0 from rfl] at this
    rw [this]
    have e : ∀ u, goB ⟨code, -1, -1, 0⟩ u = -1 := fun u => by unfold goB; rw [if_neg (by simp)]
    rw [e, goP_stop]
    rfl
  · have h0 := goP_step (p := [⟨code.take i, -1, 1, 0⟩, ⟨code.drop i, -1, -1, 0⟩]) (f := 199) (i := 0) (v := v) rfl
    rw [show ((0 : Nat) : Int) = 0 from rfl] at h0
    rw [h0]
    have e : ∀ u, goB ⟨code.take i, -1, 1, 0⟩ u = ((1 : Nat) : Int) := fun u => by unfold goB; rw [if_neg (by simp)]; rfl
    have h1 := goP_step (p := [⟨code.take i, -1, 1, 0⟩, ⟨code.drop i, -1, -1, 0⟩]) (f := 198) (i := 1) (v := doS (code.take i) v) rfl
    have e1 : ∀ u, goB ⟨code.drop i, -1, -1, 0⟩ u = -1 := fun u => by unfold goB; rw [if_neg (by simp)]
    rw [e, h1, e1, goP_stop, ← doS_append, List.take_append_drop]
    rfl

end Go.Proofs.Ythgilekhohadoaa
