/-
  Plain mathematics of the least terms (D1): checked, of the same value, no two the same, least again they are as they were.
-/
import Derived.Test.YtacokdghfkpdpaaPureValue
namespace Go.Proofs.Ytacokdghfkpdpaa
set_option linter.unusedSimpArgs false
set_option linter.unusedVariables false

/-! ### The reference's words: its places -/

def atN (need : List Nat) (i : Nat) : Nat := (need.filter fun x => decide (x < i)).length

/-- a term with its operands' places -/
def rnT (need : List Nat) (t : Tm) : Tm := if 3 ≤ t.op then ⟨t.op, (atN need t.a.toNat : Int), (atN need t.b.toNat : Int), t.v⟩ else t

theorem outL_lt {c : List Tm} {k x : Nat} (h : x ∈ outL c k) : x < k := by
  unfold outL at h
  exact List.mem_range.1 (List.mem_filter.1 h).1

theorem outL_filter (c : List Tm) (j : Nat) : ∀ d, ((outL c (j + d)).filter fun x => decide (x < j)) = outL c j
  | 0 => by
    rw [Nat.add_zero]
    exact List.filter_eq_self.2 fun x hx => by simpa using outL_lt hx
  | d + 1 => by
    have ih := outL_filter c j d
    rw [show j + (d + 1) = j + d + 1 from rfl]
    cases hn : (needL c).getD (j + d) false with
    | true =>
      rw [outL_yes hn, List.filter_append, ih, List.filter_cons_of_neg (by simp), List.filter_nil, List.append_nil]
    | false => rw [outL_no hn]; exact ih

theorem atN_comes {c : List Tm} {j : Nat} (hj : j ≤ c.length) : atN (comesL c) j = (outL c j).length := by
  unfold atN comesL
  rw [show c.length = j + (c.length - j) from by omega, outL_filter]

section
variable {vars : Int} {c : List Tm} (hc : ckTerms vars c = 0)
include hc

theorem prS_out : ∀ k, k ≤ c.length → (prS c k).1 = (outL c k).map (fun i => rnT (comesL c) (c.getD i tz)) ∧ ∀ j, j < k → (needL c).getD j false = true → (prS c k).2.getD j 0 = (atN (comesL c) j : Int)
  | 0, _ => ⟨rfl, fun j h => by omega⟩
  | k + 1, hk => by
    obtain ⟨i1, i2⟩ := prS_out k (by omega)
    cases hn : (needL c).getD k false with
    | false =>
      rw [outL_no hn]
      unfold prS
      rw [if_neg (by rw [hn]; simp)]
      refine ⟨i1, fun j hj h => ?_⟩
      by_cases hjk : j = k
      · subst hjk; rw [hn] at h; cases h
      · exact i2 j (by omega) h
    | true =>
      have ht := List.getElem?_eq_getElem (show k < c.length by omega)
      have hg : c.getD k tz = c[k] := by rw [List.getD_eq_getElem?_getD, ht]; rfl
      have hlen := (prS_len c k).2
      unfold prS
      rw [if_pos hn, outL_yes hn, List.map_append, List.map_singleton, ← i1]
      refine ⟨?_, fun j hj h => ?_⟩
      · simp only []
        congr 1
        congr 1
        rw [hg]
        have hcs := ckTerm_cases (ckTerms_at hc ht)
        unfold renT rnT
        by_cases ho : 3 ≤ c[k].op
        · obtain ⟨n1, n2⟩ := need_closed hc hn ht (by omega)
          rw [if_neg (by omega), if_pos ho, i2 _ (by omega) n1, i2 _ (by omega) n2]
        · rw [if_pos (by omega), if_neg ho]
      · simp only []
        by_cases hjk : j = k
        · subst hjk
          rw [List.getD_eq_getElem?_getD, List.getElem?_set_self (by omega), Option.getD_some, i1, List.length_map, atN_comes (by omega)]
        · rw [List.getD_eq_getElem?_getD, List.getElem?_set_ne (by omega), ← List.getD_eq_getElem?_getD]
          exact i2 j (by omega) h

theorem prL_out : prL c = (comesL c).map (fun i => rnT (comesL c) (c.getD i tz)) := (prS_out hc c.length (Nat.le_refl _)).1

/-- where all is needed nothing turns -/
theorem prL_all (h : ∀ r, r < c.length → (needL c).getD r false = true) : prL c = c := by
  have hco : comesL c = List.range c.length := by
    unfold comesL outL
    exact List.filter_eq_self.2 fun x hx => h x (List.mem_range.1 hx)
  have hat : ∀ j, j ≤ c.length → atN (comesL c) j = j := by
    intro j hj
    rw [atN_comes hj]
    unfold outL
    rw [List.filter_eq_self.2 (fun x hx => h x (by have := List.mem_range.1 hx; omega)), List.length_range]
  rw [prL_out hc]
  apply List.ext_getElem?
  intro i
  rw [List.getElem?_map, hco]
  by_cases hi : i < c.length
  · have ht := List.getElem?_eq_getElem hi
    rw [List.getElem?_range hi, Option.map_some, ht, List.getD_eq_getElem?_getD, ht, Option.getD_some]
    have hcs := ckTerm_cases (ckTerms_at hc ht)
    congr 1
    unfold rnT
    split
    · rw [← hco, hat _ (by omega), hat _ (by omega)]
      have e1 : ((c[i].a.toNat : Nat) : Int) = c[i].a := by omega
      have e2 : ((c[i].b.toNat : Nat) : Int) = c[i].b := by omega
      rw [e1, e2]
    · rfl
  · rw [List.getElem?_eq_none (by simp; omega), List.getElem?_eq_none (by omega)]
    rfl

end

/-! ### In the plain form -/

theorem nmT_op (t : Tm) : (nmT t).op = t.op := by unfold nmT; (repeat' split) <;> rfl

theorem nmT_cases (t : Tm) : (t.op < 3 ∧ nmT t = ⟨t.op, 0, 0, t.v⟩) ∨ (3 ≤ t.op ∧ (t.op = 3 ∨ t.op = 5) ∧ t.b < t.a ∧ nmT t = ⟨t.op, t.b, t.a, 0⟩) ∨ (3 ≤ t.op ∧ ¬ ((t.op = 3 ∨ t.op = 5) ∧ t.b < t.a) ∧ nmT t = ⟨t.op, t.a, t.b, 0⟩) := by
  unfold nmT
  by_cases h : 3 ≤ t.op
  · rw [if_pos h]
    by_cases h2 : (t.op = 3 ∨ t.op = 5) ∧ t.b < t.a
    · rw [if_pos h2]; exact .inr (.inl ⟨h, h2.1, h2.2, rfl⟩)
    · rw [if_neg h2]; exact .inr (.inr ⟨h, h2, rfl⟩)
  · rw [if_neg h]; exact .inl ⟨by omega, rfl⟩

theorem nmT_twice (t : Tm) : nmT (nmT t) = nmT t := by
  rcases nmT_cases t with ⟨h1, h2⟩ | ⟨h1, h2, h3, h4⟩ | ⟨h1, h2, h3⟩
  · rw [h2]; unfold nmT; rw [if_neg (by simp only []; omega)]
  · rw [h4]; unfold nmT; rw [if_pos (by simp only []; omega), if_neg (by simp only []; omega)]
  · rw [h3]; unfold nmT; rw [if_pos (by simp only []; omega), if_neg (by simp only []; exact h2)]

theorem nmT_ck {vars : Int} {k : Nat} {t : Tm} (h : ckTerm vars k t.op t.a t.b t.v = 0) : ckTerm vars k (nmT t).op (nmT t).a (nmT t).b (nmT t).v = 0 := by
  have hcs := ckTerm_cases h
  rcases nmT_cases t with ⟨h1, h2⟩ | ⟨h1, h2, h3, h4⟩ | ⟨h1, h2, h3⟩
  · rw [h2]; unfold ckTerm at h ⊢; simp only []
    (repeat' split at h) <;> (repeat' split) <;> omega
  · rw [h4]; unfold ckTerm; simp only []
    rw [if_neg (by omega), if_neg (by omega), if_pos (by omega), if_pos (by omega)]
  · rw [h3]; unfold ckTerm; simp only []
    rw [if_neg (by omega), if_neg (by omega), if_pos (by omega), if_pos (by omega)]

theorem nm_get {K : List Tm} {i : Nat} {u : Tm} (h : (K.map nmT)[i]? = some u) : ∃ t, K[i]? = some t ∧ u = nmT t := by
  rw [List.getElem?_map] at h
  cases hk : K[i]? with
  | none => rw [hk] at h; cases h
  | some t => rw [hk] at h; injection h with h; exact ⟨t, rfl, h.symm⟩

theorem nm_at {K : List Tm} {i : Nat} {t : Tm} (h : K[i]? = some t) : (K.map nmT)[i]? = some (nmT t) := by rw [List.getElem?_map, h]; rfl

theorem opv_comm {op x y : Int} (h : op = 3 ∨ op = 5) : opv op x y = opv op y x := by
  unfold opv
  rcases h with h | h
  · rw [if_pos h, if_pos h, Int.add_comm]
  · rw [if_neg (by omega), if_neg (by omega), if_pos h, if_neg (by omega), if_neg (by omega), if_pos h, Int.mul_comm]

section
variable {vars : Int} {K : List Tm} (hc : ckTerms vars K = 0)
include hc

theorem nm_ck : ckTerms vars (K.map nmT) = 0 := by
  obtain ⟨h1, h2, h3, h4⟩ := ckTerms_bd hc
  refine ckTerms_of h1 h2 (by simp; omega) (by simp; omega) fun i u hu => ?_
  obtain ⟨t, ht, rfl⟩ := nm_get hu
  exact nmT_ck (ckTerms_at hc ht)

theorem V_nm (hv : List Int) : ∀ i, i < K.length → V hv (K.map nmT) i = V hv K i := by
  intro i
  induction i using Nat.strongRecOn with
  | _ i ih =>
    intro hi
    have h1 := List.getElem?_eq_getElem hi
    have h2 := nm_at h1
    have c1 := ckTerm_cases (ckTerms_at hc h1)
    rcases nmT_cases K[i] with ⟨g1, g2⟩ | ⟨g1, g2, g3, g4⟩ | ⟨g1, g2, g3⟩
    · rw [g2] at h2
      by_cases h4 : K[i].op = 1
      · rw [V_num h1 h4, V_num h2 h4]
      · rw [V_var h1 (by omega), V_var h2 (by simp only []; omega)]
    · rw [g4] at h2
      rw [V_op h1 (by omega) (by omega) (by omega), V_op h2 (by simp only []; omega) (by simp only []; omega) (by simp only []; omega)]
      simp only []
      rw [ih _ (by omega) (by omega), ih _ (by omega) (by omega), opv_comm g2]
    · rw [g3] at h2
      rw [V_op h1 (by omega) (by omega) (by omega), V_op h2 (by simp only []; omega) (by simp only []; omega) (by simp only []; omega)]
      simp only []
      rw [ih _ (by omega) (by omega), ih _ (by omega) (by omega)]

theorem nm_all (h : ∀ r, r < K.length → (needL K).getD r false = true) : ∀ r, r < (K.map nmT).length → (needL (K.map nmT)).getD r false = true := by
  intro r hr
  have hb := ckTerms_bd hc
  have hk := nm_ck hc
  rw [List.length_map] at hr
  refine needL_sub (l := K) (S := fun j => (needL (K.map nmT)).getD j false = true) ⟨?_, fun j t hj ht ho => ?_⟩ r (h r hr)
  · have := need_last (l := K.map nmT) (by simp; omega)
    rwa [List.length_map] at this
  · have hn := need_closed hk hj (nm_at ht) (by rw [nmT_op]; exact ho)
    rcases nmT_cases t with ⟨g1, g2⟩ | ⟨g1, g2, g3, g4⟩ | ⟨g1, g2, g3⟩
    · have := ckTerm_cases (ckTerms_at hc ht); omega
    · rw [g4] at hn; exact ⟨hn.2, hn.1⟩
    · rw [g3] at hn; exact hn

end

/-! ### Of the least terms no two are the same -/

/-- the key of a term whose operands are their own first ones -/
def keyI (t : Tm) : Int × Int × Int :=
  if t.op < 3 then (t.op, t.v, 0) else if (t.op = 3 ∨ t.op = 5) ∧ t.b < t.a then (t.op, t.b, t.a) else (t.op, t.a, t.b)

theorem keyI_ft (fs : List Nat) (t : Tm) : keyI (ftT fs t) = keyT fs t := by
  unfold keyI keyT
  rw [ftT_op]
  by_cases h : t.op < 3
  · rw [if_pos h, if_pos h, ftT_v]
  · have e : ftT fs t = ⟨t.op, (fg fs t.a : Int), (fg fs t.b : Int), t.v⟩ := by unfold ftT; rw [if_pos (by omega)]
    rw [if_neg h, if_neg h, e]
    simp only []
    by_cases h2 : (t.op = 3 ∨ t.op = 5) ∧ fg fs t.b < fg fs t.a
    · rw [if_pos h2, if_pos (by omega)]
    · rw [if_neg h2, if_neg (by omega)]

theorem keyI_nm (t : Tm) : keyI (nmT t) = keyI t := by
  unfold keyI
  rw [nmT_op]
  rcases nmT_cases t with ⟨g1, g2⟩ | ⟨g1, g2, g3, g4⟩ | ⟨g1, g2, g3⟩
  · rw [if_pos g1, if_pos g1, g2]
  · have hn : ¬ t.op < 3 := by omega
    rw [if_neg hn, if_neg hn, g4]
    simp only []
    rw [if_neg (show ¬ ((t.op = 3 ∨ t.op = 5) ∧ t.a < t.b) by omega), if_pos ⟨g2, g3⟩]
  · have hn : ¬ t.op < 3 := by omega
    rw [if_neg hn, if_neg hn, g3]

/-- a pair in order, place by place -/
theorem pair_eq {o : Int} {C : Prop} [Decidable C] {a b a' b' p q p' q' : Nat} (i1 : p = p' ↔ a = a') (i2 : p = q' ↔ a = b') (i3 : q = p' ↔ b = a') (i4 : q = q' ↔ b = b')
    (he : (if C ∧ (q : Int) < p then (o, (q : Int), (p : Int)) else (o, (p : Int), (q : Int))) = (if C ∧ (q' : Int) < p' then (o, (q' : Int), (p' : Int)) else (o, (p' : Int), (q' : Int)))) :
    (if C ∧ (b : Int) < a then (o, (b : Int), (a : Int)) else (o, (a : Int), (b : Int))) = (if C ∧ (b' : Int) < a' then (o, (b' : Int), (a' : Int)) else (o, (a' : Int), (b' : Int))) := by
  by_cases hC : C
  · have e : ∀ x y : Nat, (if C ∧ (y : Int) < x then (o, (y : Int), (x : Int)) else (o, (x : Int), (y : Int))) = (o, ((min x y : Nat) : Int), ((max x y : Nat) : Int)) := by
      intro x y
      by_cases h : (y : Int) < x
      · rw [if_pos ⟨hC, h⟩, Nat.min_eq_right (by omega), Nat.max_eq_left (by omega)]
      · rw [if_neg (fun hh => h hh.2), Nat.min_eq_left (by omega), Nat.max_eq_right (by omega)]
    rw [e, e] at he ⊢
    simp only [Prod.mk.injEq, true_and] at he ⊢
    have h : (p = p' ∧ q = q') ∨ (p = q' ∧ q = p') := by omega
    rcases h with ⟨h1, h2⟩ | ⟨h1, h2⟩
    · rw [i1.1 h1, i4.1 h2]; exact ⟨rfl, rfl⟩
    · rw [i2.1 h1, i3.1 h2, Nat.min_comm, Nat.max_comm]; exact ⟨rfl, rfl⟩
  · rw [if_neg (fun h => hC h.1), if_neg (fun h => hC h.1)] at he ⊢
    simp only [Prod.mk.injEq, true_and] at he ⊢
    have h1 := i1.1 (by omega)
    have h2 := i4.1 (by omega)
    omega

section
variable {vars : Int} {l : List Tm} (hc : ckTerms vars l = 0)
include hc

theorem ls_ck : ckTerms vars (lsL l) = 0 := nm_ck (pr_ck (lc_ck hc))

theorem ls_len : (lsL l).length ≤ l.length := by
  have h1 := (prS_len (lcL l) (lcL l).length).1
  have h2 := lc_len hc
  have h3 := rt_lt hc
  unfold lsL prL
  rw [List.length_map]
  omega

theorem ls_val (hv : List Int) : valT (lsL l) hv = valT l hv := by
  have hk := pr_ck (lc_ck hc)
  have hb := ckTerms_bd hk
  rw [← valT_lc hc hv, ← valT_pr (lc_ck hc)]
  show V hv ((prL (lcL l)).map nmT) (((prL (lcL l)).map nmT).length - 1) = V hv (prL (lcL l)) ((prL (lcL l)).length - 1)
  rw [List.length_map, V_nm hk hv _ (by omega)]

/-- kept terms of one key are one -/
theorem pr_key {r s : Nat} {u u' : Tm} (hr : (prL (lcL l))[r]? = some u) (hs : (prL (lcL l))[s]? = some u') (he : keyI u = keyI u') : r = s := by
  have hk := lc_ck hc
  have hI := prS_inv hk (lcL l).length (Nat.le_refl _)
  have inj : ∀ i j : Nat, ∀ x y : Nat, (needL (lcL l)).getD i false = true → (needL (lcL l)).getD j false = true → i < (lcL l).length → j < (lcL l).length → (prS (lcL l) (lcL l).length).2[i]? = some (x : Int) → (prS (lcL l) (lcL l).length).2[j]? = some (y : Int) → (x = y ↔ i = j) := by
    intro i j x y h1 h2 h3 h4 h5 h6
    constructor
    · intro hxy
      rcases Nat.lt_trichotomy i j with h | h | h
      · have := hI.mono i j _ _ h h4 h1 h2 h5 h6; omega
      · exact h
      · have := hI.mono j i _ _ h h3 h2 h1 h6 h5; omega
    · intro hij
      subst hij
      rw [h5] at h6
      injection h6 with h6
      omega
  obtain ⟨j, t, n1, t1, p1⟩ := pr_back hk (List.getElem?_eq_some_iff.1 hr).1
  obtain ⟨j', t', n2, t2, p2⟩ := pr_back hk (List.getElem?_eq_some_iff.1 hs).1
  have hj := (List.getElem?_eq_some_iff.1 t1).1
  have hj' := (List.getElem?_eq_some_iff.1 t2).1
  refine (inj j j' r s n1 n2 hj hj' p1 p2).2 ?_
  obtain ⟨r1, q1, u1, k1, o1, v1, c1⟩ := pr_fwd hk n1 t1
  obtain ⟨r2, q2, u2, k2, o2, v2, c2⟩ := pr_fwd hk n2 t2
  rw [p1] at q1
  rw [p2] at q2
  injection q1 with q1
  injection q2 with q2
  obtain rfl : r = r1 := by omega
  obtain rfl : s = r2 := by omega
  rw [hr] at k1
  rw [hs] at k2
  injection k1 with k1
  injection k2 with k2
  subst k1 k2
  have hop : u.op = u'.op := by
    have e1 : ∀ t : Tm, (keyI t).1 = t.op := fun t => by unfold keyI; (repeat' split) <;> rfl
    rw [← e1 u, ← e1 u', he]
  have hkey : keyI t = keyI t' := by
    rcases c1 with ⟨d1, d2⟩ | ⟨d1, d2, an, bn, ra, rb, d3, d4, d5, d6, d7, d8, d9, d10, d11, d12, d13, d14⟩
    · rcases c2 with ⟨e1, e2⟩ | ⟨e1, e2, _⟩
      · rw [← d2, ← e2]; exact he
      · omega
    · rcases c2 with ⟨e1, e2⟩ | ⟨e1, e2, an', bn', ra', rb', e3, e4, e5, e6, e7, e8, e9, e10, e11, e12, e13, e14⟩
      · omega
      · have i1 := inj an an' ra ra' d7 e7 (by omega) (by omega) d9 e9
        have i2 := inj an bn' ra rb' d7 e8 (by omega) (by omega) d9 e10
        have i3 := inj bn an' rb ra' d8 e7 (by omega) (by omega) d10 e9
        have i4 := inj bn bn' rb rb' d8 e8 (by omega) (by omega) d10 e10
        have ot : t.op = t'.op := by omega
        have eu : keyI u = if (t.op = 3 ∨ t.op = 5) ∧ (rb : Int) < ra then (t.op, (rb : Int), (ra : Int)) else (t.op, (ra : Int), (rb : Int)) := by
          unfold keyI
          rw [if_neg (show ¬ u.op < 3 by omega), d13, d14, o1]
        have eu' : keyI u' = if (t.op = 3 ∨ t.op = 5) ∧ (rb' : Int) < ra' then (t.op, (rb' : Int), (ra' : Int)) else (t.op, (ra' : Int), (rb' : Int)) := by
          unfold keyI
          rw [if_neg (show ¬ u'.op < 3 by omega), e13, e14, o2, ot]
        have et : keyI t = if (t.op = 3 ∨ t.op = 5) ∧ (bn : Int) < an then (t.op, (bn : Int), (an : Int)) else (t.op, (an : Int), (bn : Int)) := by
          unfold keyI
          rw [if_neg (show ¬ t.op < 3 by omega), d3, d4]
        have et' : keyI t' = if (t.op = 3 ∨ t.op = 5) ∧ (bn' : Int) < an' then (t.op, (bn' : Int), (an' : Int)) else (t.op, (an' : Int), (bn' : Int)) := by
          unfold keyI
          rw [if_neg (show ¬ t'.op < 3 by omega), e3, e4, ot]
        rw [eu, eu'] at he
        rw [et, et']
        exact pair_eq i1 i2 i3 i4 he
  obtain ⟨m, hm, rfl, _⟩ := lc_get hc t1
  obtain ⟨m', hm', rfl, _⟩ := lc_get hc t2
  rw [keyI_ft, keyI_ft, ← kv_at hm, ← kv_at hm'] at hkey
  have hf := (fv_iff hc (List.getElem?_eq_some_iff.1 hm).1 (List.getElem?_eq_some_iff.1 hm').1).2 hkey
  rw [(lc_first hc j n1).2, (lc_first hc j' n2).2] at hf
  exact hf

theorem ls_first : ∀ r, r < (lsL l).length → fv (lsL l) r = r := by
  have ha := ls_ck hc
  intro r
  induction r using Nat.strongRecOn with
  | _ r ih =>
    intro hr
    obtain ⟨h1, h2, _⟩ := fv_spec ha hr
    have key : ∀ x, x ≤ r → ∀ u, (prL (lcL l))[x]? = some u → kv (lsL l) x = keyI u := by
      intro x hx u hu
      have hux : (lsL l)[x]? = some (nmT u) := nm_at hu
      rw [kv_at hux, ← keyI_nm u]
      have hcs := ckTerm_cases (ckTerms_at ha hux)
      unfold keyT keyI
      by_cases ho : (nmT u).op < 3
      · rw [if_pos ho, if_pos ho]
      · rw [if_neg ho, if_neg ho]
        have f1 : (fg (fsL (lsL l)) (nmT u).a : Int) = (nmT u).a := by
          have := ih (nmT u).a.toNat (by omega) (by omega)
          unfold fv at this
          unfold fg
          omega
        have f2 : (fg (fsL (lsL l)) (nmT u).b : Int) = (nmT u).b := by
          have := ih (nmT u).b.toNat (by omega) (by omega)
          unfold fv at this
          unfold fg
          omega
        rw [f1, f2]
        by_cases h3 : ((nmT u).op = 3 ∨ (nmT u).op = 5) ∧ (nmT u).b < (nmT u).a
        · rw [if_pos h3, if_pos (by omega)]
        · rw [if_neg h3, if_neg (by omega)]
    have hl : (lsL l).length = (prL (lcL l)).length := by unfold lsL; rw [List.length_map]
    have hu := List.getElem?_eq_getElem (show r < (prL (lcL l)).length by omega)
    have hu' := List.getElem?_eq_getElem (show fv (lsL l) r < (prL (lcL l)).length by omega)
    rw [key _ h1 _ hu', key r (Nat.le_refl _) _ hu] at h2
    exact pr_key hc hu' hu h2

/-- ERSHOV: least again they are as they were -/
theorem ls_twice : lsL (lsL l) = lsL l := by
  have ha := ls_ck hc
  have hb := ckTerms_bd ha
  have hf := ls_first hc
  have e1 : ftL (lsL l) = lsL l := by
    unfold ftL
    apply List.ext_getElem?
    intro i
    rw [List.getElem?_map]
    by_cases hi : i < (lsL l).length
    · have ht := List.getElem?_eq_getElem hi
      rw [ht, Option.map_some]
      congr 1
      have hcs := ckTerm_cases (ckTerms_at ha ht)
      unfold ftT
      split
      · have f1 : (fg (fsL (lsL l)) (lsL l)[i].a : Int) = (lsL l)[i].a := by
          have := hf (lsL l)[i].a.toNat (by omega)
          unfold fv at this
          unfold fg
          omega
        have f2 : (fg (fsL (lsL l)) (lsL l)[i].b : Int) = (lsL l)[i].b := by
          have := hf (lsL l)[i].b.toNat (by omega)
          unfold fv at this
          unfold fg
          omega
        rw [f1, f2]
      · rfl
    · rw [List.getElem?_eq_none (by omega)]
      rfl
  have e2 : lcL (lsL l) = lsL l := by
    unfold lcL rtL
    rw [e1, hf _ (by omega), List.take_of_length_le (by omega)]
  have hk := pr_ck (lc_ck hc)
  have e3 : prL (lsL l) = lsL l := prL_all ha (nm_all hk fun r hr => pr_all (lc_ck hc) hr)
  have e4 : (lsL l).map nmT = lsL l := by
    apply List.ext_getElem?
    intro i
    rw [List.getElem?_map]
    cases h : (lsL l)[i]? with
    | none => rfl
    | some u =>
      obtain ⟨t, _, rfl⟩ := nm_get h
      rw [Option.map_some, nmT_twice]
  have e5 : lsL (lsL l) = (prL (lcL (lsL l))).map nmT := rfl
  rw [e5, e2, e3, e4]

theorem ls_no {i j : Nat} (hi : i < (lsL l).length) (hj : j < i) : fv (lsL l) i ≠ fv (lsL l) j := by
  rw [ls_first hc i hi, ls_first hc j (by omega)]
  omega

end

end Go.Proofs.Ytacokdghfkpdpaa
