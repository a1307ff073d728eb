/-
  Plain mathematics of value.classes: plain terms, the first one of each, pruning plain terms: no program's text.
-/
import Derived.Test.YtacokdghfkpdpaaPureLeast
namespace Go.Proofs.Ytacokdghfkpdpaa
set_option linter.unusedSimpArgs false
set_option linter.unusedVariables false

/-- what value.plainTerm makes of a term -/
def plT (fs : List Nat) (t : Tm) : Tm := nmT (ftT fs t)

/-- all plain terms of a list -/
def pnL (l : List Tm) : List Tm := l.map (plT (fsL l))

theorem pnL_len (l : List Tm) : (pnL l).length = l.length := by unfold pnL; rw [List.length_map]

theorem pnL_eq (l : List Tm) : pnL l = (ftL l).map nmT := by unfold pnL ftL plT; rw [List.map_map]; rfl

theorem pnL_take (l : List Tm) : (pnL l).take (rtL l + 1) = (lcL l).map nmT := by rw [pnL_eq]; unfold lcL; rw [List.map_take]

theorem pnL_at {l : List Tm} {k : Nat} {t : Tm} (h : l[k]? = some t) : (pnL l)[k]? = some (plT (fsL l) t) := by unfold pnL; rw [List.getElem?_map, h]; rfl

theorem plT_leaf {fs : List Nat} {o a b v : Int} (h : o = 1 ∨ o = 2) : plT fs ⟨o, a, b, v⟩ = ⟨o, 0, 0, v⟩ := by
  unfold plT ftT
  simp only []
  rw [if_neg (by omega)]
  unfold nmT
  simp only []
  rw [if_neg (by omega)]

theorem plT_op {fs : List Nat} {o v : Int} {a b x y : Nat} (h : 3 ≤ o) (hx : fs[a]? = some x) (hy : fs[b]? = some y) :
    plT fs ⟨o, a, b, v⟩ = if o = 3 ∨ o = 5 then ⟨o, min (x : Int) y, max (x : Int) y, 0⟩ else ⟨o, x, y, 0⟩ := by
  have e1 : fg fs (a : Int) = x := by unfold fg; simp [hx]
  have e2 : fg fs (b : Int) = y := by unfold fg; simp [hy]
  unfold plT ftT
  simp only []
  rw [if_pos h, e1, e2]
  unfold nmT
  simp only []
  rw [if_pos h]
  by_cases hc : o = 3 ∨ o = 5
  · rw [if_pos hc]
    by_cases hlt : (y : Int) < x
    · rw [if_pos ⟨hc, hlt⟩, Int.min_eq_right (by omega), Int.max_eq_left (by omega)]
    · rw [if_neg (fun h => hlt h.2), Int.min_eq_left (by omega), Int.max_eq_right (by omega)]
  · rw [if_neg hc, if_neg (fun h => hc h.1)]

theorem plT_take {fs : List Nat} {k : Nat} {t : Tm} (h : 3 ≤ t.op → t.a.toNat < k ∧ t.b.toNat < k) : plT (fs.take k) t = plT fs t := by
  unfold plT ftT
  by_cases h3 : 3 ≤ t.op
  · obtain ⟨h1, h2⟩ := h h3
    rw [if_pos h3, if_pos h3, fg_take h1, fg_take h2]
  · rw [if_neg h3, if_neg h3]

/-- a plain term's key -/
def pkT (t : Tm) : Int × Int × Int := if t.op < 3 then (t.op, t.v, 0) else (t.op, t.a, t.b)

theorem pkT_pl (fs : List Nat) (t : Tm) : pkT (plT fs t) = keyT fs t := by
  unfold plT
  have hop : (nmT (ftT fs t)).op = t.op := by rw [nmT_op, ftT_op]
  unfold pkT keyT
  rw [hop]
  by_cases h : t.op < 3
  · rw [if_pos h, if_pos h]
    rcases nmT_cases (ftT fs t) with ⟨g1, g2⟩ | ⟨g1, _⟩ | ⟨g1, _⟩
    · rw [g2, ftT_v]
    · rw [ftT_op] at g1; omega
    · rw [ftT_op] at g1; omega
  · rw [if_neg h, if_neg h]
    have e : ftT fs t = ⟨t.op, (fg fs t.a : Int), (fg fs t.b : Int), t.v⟩ := by unfold ftT; rw [if_pos (by omega)]
    rw [e]
    unfold nmT
    simp only []
    rw [if_pos (show 3 ≤ t.op by omega)]
    by_cases h2 : (t.op = 3 ∨ t.op = 5) ∧ fg fs t.b < fg fs t.a
    · rw [if_pos h2, if_pos (by omega)]
    · rw [if_neg h2, if_neg (by omega)]

theorem plT_of {fs : List Nat} {t u : Tm} (h : keyT fs t = keyT fs u) : plT fs t = plT fs u := by
  have e : ∀ t : Tm, plT fs t = (fun p : Int × Int × Int => if p.1 < 3 then (⟨p.1, 0, 0, p.2.1⟩ : Tm) else ⟨p.1, p.2.1, p.2.2, 0⟩) (keyT fs t) := by
    intro t
    rw [← pkT_pl]
    unfold pkT
    have hop : (plT fs t).op = t.op := by unfold plT; rw [nmT_op, ftT_op]
    have hc := nmT_cases (ftT fs t)
    rw [ftT_op] at hc
    change (t.op < 3 ∧ plT fs t = _) ∨ (3 ≤ t.op ∧ _ ∧ _ ∧ plT fs t = _) ∨ (3 ≤ t.op ∧ _ ∧ plT fs t = _) at hc
    rcases hc with ⟨g1, g2⟩ | ⟨g1, g2, g3, g4⟩ | ⟨g1, g2, g3⟩
    · rw [g2]; simp only [if_pos g1]
    · rw [g4]; simp only [if_neg (show ¬ t.op < 3 by omega)]
    · rw [g3]; simp only [if_neg (show ¬ t.op < 3 by omega)]
  rw [e, e, h]

theorem plT_iff {fs : List Nat} {t u : Tm} : plT fs t = plT fs u ↔ keyT fs t = keyT fs u :=
  ⟨fun h => by rw [← pkT_pl, ← pkT_pl, h], plT_of⟩

/-- plain term j -/
def pn (l : List Tm) (j : Nat) : Tm := (pnL l).getD j tz

theorem pn_at {l : List Tm} {k : Nat} {t : Tm} (h : l[k]? = some t) : pn l k = plT (fsL l) t := by unfold pn; rw [List.getD_eq_getElem?_getD, pnL_at h]; rfl

theorem pn_iff {l : List Tm} {i j : Nat} (hi : i < l.length) (hj : j < l.length) : pn l i = pn l j ↔ kv l i = kv l j := by
  have h1 := List.getElem?_eq_getElem hi
  have h2 := List.getElem?_eq_getElem hj
  rw [pn_at h1, pn_at h2, kv_at h1, kv_at h2]
  exact plT_iff

/-- what is known before round k: each plain term that came first, with its number -/
def knS (l : List Tm) : Nat → List (Tm × Nat)
  | 0 => []
  | k + 1 => if fv l k = k then knS l k ++ [(pn l k, k)] else knS l k

theorem knS_mem {l : List Tm} : ∀ {k : Nat} {p : Tm × Nat}, p ∈ knS l k ↔ p.2 < k ∧ fv l p.2 = p.2 ∧ p.1 = pn l p.2
  | 0, p => by simp [knS]
  | k + 1, p => by
    unfold knS
    split
    · rename_i h
      rw [List.mem_append, knS_mem]
      constructor
      · rintro (⟨h1, h2, h3⟩ | h1)
        · exact ⟨by omega, h2, h3⟩
        · simp at h1; subst h1; exact ⟨by simp, h, rfl⟩
      · rintro ⟨h1, h2, h3⟩
        by_cases hp : p.2 < k
        · exact .inl ⟨hp, h2, h3⟩
        · right
          have : p.2 = k := by omega
          simp only [List.mem_singleton]
          rw [← this] at *
          exact Prod.ext h3 rfl
    · rename_i h
      rw [knS_mem]
      constructor
      · rintro ⟨h1, h2, h3⟩; exact ⟨by omega, h2, h3⟩
      · rintro ⟨h1, h2, h3⟩
        refine ⟨?_, h2, h3⟩
        have : p.2 ≠ k := fun e => h (by rw [← e]; exact h2)
        omega

section
variable {vars : Int} {l : List Tm} (hc : ckTerms vars l = 0)
include hc

theorem kn_old {k : Nat} (hk : k < l.length) (h : fv l k ≠ k) : (pn l k, fv l k) ∈ knS l k := by
  obtain ⟨h1, h2, h3⟩ := fv_spec hc hk
  refine knS_mem.2 ⟨by simp only []; omega, fv_fv hc hk, ?_⟩
  exact (pn_iff hk (by simp only []; omega)).2 h2.symm

theorem kn_new {k : Nat} (hk : k < l.length) (h : fv l k = k) : ∀ p ∈ knS l k, p.1 ≠ pn l k := by
  intro p hp e
  obtain ⟨h1, h2, h3⟩ := knS_mem.1 hp
  obtain ⟨g1, g2, g3⟩ := fv_spec hc hk
  rw [h3] at e
  have := g3 p.2 (by omega) ((pn_iff (by omega) hk).1 e)
  omega

theorem kn_one {k : Nat} (hk : k ≤ l.length) {p q : Tm × Nat} (hp : p ∈ knS l k) (hq : q ∈ knS l k) (h : p.1 = q.1) : p = q := by
  obtain ⟨h1, h2, h3⟩ := knS_mem.1 hp
  obtain ⟨g1, g2, g3⟩ := knS_mem.1 hq
  rw [h3, g3] at h
  have := (fv_iff hc (by omega) (by omega)).2 ((pn_iff (by omega) (by omega)).1 h)
  exact Prod.ext (by rw [h3, g3, h]) (by omega)

end

/-! ### Pruned plain terms are plain pruned terms -/

section
variable {vars : Int} {K : List Tm} (hc : ckTerms vars K = 0)
include hc

theorem need_nm (j : Nat) : (needL (K.map nmT)).getD j false = (needL K).getD j false := by
  have hb := ckTerms_bd hc
  have hk := nm_ck hc
  have h1 : ∀ j, (needL K).getD j false = true → (needL (K.map nmT)).getD j false = true := by
    refine needL_sub ⟨?_, fun j t hj ht ho => ?_⟩
    · have := need_last (l := K.map nmT) (by simp; omega)
      rwa [List.length_map] at this
    · have hn := need_closed hk hj (nm_at ht) (by rw [nmT_op]; exact ho)
      rcases nmT_cases t with ⟨g1, g2⟩ | ⟨g1, g2, g3, g4⟩ | ⟨g1, g2, g3⟩
      · have := ckTerm_cases (ckTerms_at hc ht); omega
      · rw [g4] at hn; exact ⟨hn.2, hn.1⟩
      · rw [g3] at hn; exact hn
  have h2 : ∀ j, (needL (K.map nmT)).getD j false = true → (needL K).getD j false = true := by
    refine needL_sub (S := fun j => (needL K).getD j false = true) ⟨?_, fun j u hj hu ho => ?_⟩
    · rw [List.length_map]; exact need_last (by omega)
    · obtain ⟨t, ht, rfl⟩ := nm_get hu
      rw [nmT_op] at ho
      have hn := need_closed hc hj ht ho
      rcases nmT_cases t with ⟨g1, g2⟩ | ⟨g1, g2, g3, g4⟩ | ⟨g1, g2, g3⟩
      · have := ckTerm_cases (ckTerms_at hc ht); omega
      · rw [g4]; exact ⟨hn.2, hn.1⟩
      · rw [g3]; exact hn
  cases ha : (needL (K.map nmT)).getD j false with
  | true => rw [h2 j ha]
  | false =>
    cases hb' : (needL K).getD j false with
    | true => rw [h1 j hb'] at ha; cases ha
    | false => rfl

theorem ren_nm {k : Nat} {t : Tm} (hn : (needL K).getD k false = true) (ht : K[k]? = some t) : renT (prS K k).2 (nmT t) = nmT (renT (prS K k).2 t) := by
  have hk := (List.getElem?_eq_some_iff.1 ht).1
  have hI := prS_inv hc k (by omega)
  have hcs := ckTerm_cases (ckTerms_at hc ht)
  generalize (prS K k).2 = p at hI
  by_cases ho : t.op = 1 ∨ t.op = 2
  · have e1 : renT p t = t := by unfold renT; rw [if_pos ho]
    rw [e1]
    unfold renT
    rw [nmT_op, if_pos ho]
  · have h3 : 3 ≤ t.op := by omega
    obtain ⟨na, nb⟩ := need_closed hc hn ht ho
    have hal : t.a.toNat < k := by omega
    have hbl : t.b.toNat < k := by omega
    obtain ⟨x, hx, _⟩ := hI.fwd _ _ hal na (List.getElem?_eq_getElem (show t.a.toNat < K.length by omega))
    obtain ⟨y, hy, _⟩ := hI.fwd _ _ hbl nb (List.getElem?_eq_getElem (show t.b.toNat < K.length by omega))
    have ex : p.getD t.a.toNat 0 = x := by rw [List.getD_eq_getElem?_getD, hx]; rfl
    have ey : p.getD t.b.toNat 0 = y := by rw [List.getD_eq_getElem?_getD, hy]; rfl
    have er : renT p t = ⟨t.op, x, y, t.v⟩ := by unfold renT; rw [if_neg ho, ex, ey]
    have hm1 : t.b < t.a → (y : Int) < x := fun h => hI.mono _ _ _ _ (by omega) hal nb na hy hx
    have hm2 : t.a < t.b → (x : Int) < y := fun h => hI.mono _ _ _ _ (by omega) hbl na nb hx hy
    have hm3 : t.a = t.b → (x : Int) = y := fun h => by rw [h] at hx; rw [hx] at hy; injection hy
    rw [er]
    rcases nmT_cases t with ⟨g1, g2⟩ | ⟨g1, g2, g3, g4⟩ | ⟨g1, g2, g3⟩
    · omega
    · rw [g4]
      unfold renT nmT
      simp only []
      rw [if_neg ho, if_pos h3, if_pos ⟨g2, hm1 g3⟩, ex, ey]
    · rw [g3]
      unfold renT nmT
      simp only []
      rw [if_neg ho, if_pos h3, ex, ey, if_neg ?_]
      intro h
      apply g2
      refine ⟨h.1, ?_⟩
      rcases Int.lt_trichotomy t.a t.b with q | q | q
      · have := hm2 q; omega
      · have := hm3 q; omega
      · exact q

theorem prS_nm : ∀ k, k ≤ K.length → prS (K.map nmT) k = ((prS K k).1.map nmT, (prS K k).2)
  | 0, _ => by simp [prS]
  | k + 1, hk => by
    have ih := prS_nm k (by omega)
    have hkk := List.getElem?_eq_getElem (show k < K.length by omega)
    rw [prS, prS, need_nm hc k, ih]
    by_cases hn : (needL K).getD k false = true
    · have e1 : (K.map nmT).getD k tz = nmT K[k] := by rw [List.getD_eq_getElem?_getD, nm_at hkk]; rfl
      have e2 : K.getD k tz = K[k] := by rw [List.getD_eq_getElem?_getD, hkk]; rfl
      rw [if_pos hn, if_pos hn, e1, e2]
      simp only [ren_nm hc hn hkk, List.map_append, List.map_cons, List.map_nil, List.length_map]
    · rw [if_neg hn, if_neg hn]

theorem prL_nm : prL (K.map nmT) = (prL K).map nmT := by
  unfold prL
  rw [List.length_map, prS_nm hc _ (Nat.le_refl _)]

end

/-- D1: the least terms, as value.Least makes them -/
theorem lsL_pn {vars : Int} {l : List Tm} (hc : ckTerms vars l = 0) : prL ((pnL l).take (rtL l + 1)) = lsL l := by
  rw [pnL_take, prL_nm (lc_ck hc)]
  rfl

theorem lsL_pn_ck {vars : Int} {l : List Tm} (hc : ckTerms vars l = 0) : ckTerms vars ((pnL l).take (rtL l + 1)) = 0 := by
  rw [pnL_take]
  exact nm_ck (lc_ck hc)

end Go.Proofs.Ytacokdghfkpdpaa
