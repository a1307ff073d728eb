/-
  Plain mathematics (U2): shapes made into a program of blocks: no program's text.
-/
import Derived.Test.YtniilhgcgcimgaaPureShape
namespace Go.Proofs.Ytniilhgcgcimgaa
set_option linter.unusedSimpArgs false
set_option linter.unusedVariables false

/-- a block behind which nothing comes -/
def bkO : Bk := ⟨[], -1, -1, 0⟩

/-- more steps at a block's end -/
def cdB (p : List Bk) (a : Nat) (c : List St) : List Bk := p.set a ⟨(p.getD a bk0).code ++ c, (p.getD a bk0).test, (p.getD a bk0).th, (p.getD a bk0).el⟩

/-- a block's end: a test -/
def brB (p : List Bk) (a : Nat) (ts th el : Int) : List Bk := p.set a ⟨(p.getD a bk0).code, ts, th, el⟩

/-- a block's end: one goes on -/
def thB (p : List Bk) (a : Nat) (th : Int) : List Bk := p.set a ⟨(p.getD a bk0).code, (p.getD a bk0).test, th, (p.getD a bk0).el⟩

/-- a side: where it starts -/
def sdF (f : List Bk → Nat → List Bk × Nat) (none_ : Bool) (p : List Bk) (after : Nat) : List Bk × Nat :=
  if none_ then (p, after) else (thB (f (p ++ [bkO]) p.length).1 (f (p ++ [bkO]) p.length).2 after, p.length)

def isNil : Sh → Bool
  | .nil => true
  | _ => false

/-- U2: shapes laid behind a block -/
def flF : Sh → List Bk → Nat → List Bk × Nat
  | .nil => fun p a => (p, a)
  | .cons kd ts cd th el r => fun p a =>
    if kd = 1 then flF r (cdB p a (cpS cd)) a
    else if kd = 2 then
      flF r (brB (sdF (flF el) (isNil el) (sdF (flF th) (isNil th) (p ++ [bkO]) p.length).1 p.length).1 a ts (sdF (flF th) (isNil th) (p ++ [bkO]) p.length).2
        (sdF (flF el) (isNil el) (sdF (flF th) (isNil th) (p ++ [bkO]) p.length).1 p.length).2) p.length
    else if kd = 3 then
      flF r (brB (brB (flF th (p ++ [bkO] ++ [bkO]) (p.length + 1)).1 a ts (p.length + 1 : Nat) p.length) (flF th (p ++ [bkO] ++ [bkO]) (p.length + 1)).2 ts (p.length + 1 : Nat) p.length) p.length
    else flF r p a

/-- U2: the whole -/
def flSh (l : Sh) : List Bk := (flF l [bkO] 0).1

/-! ### What stays as it is -/

/-- from p and the block a one has come to q and the block e: all but a is as it was, a has more steps, e is a or new; e is open -/
structure Fwd (p : List Bk) (a : Nat) (q : List Bk) (e : Nat) : Prop where
  len : p.length ≤ q.length
  old : ∀ i, i < p.length → i ≠ a → q[i]? = p[i]?
  at_ : ∃ c, (q.getD a bk0).code = (p.getD a bk0).code ++ c
  new : e = a ∨ p.length ≤ e
  lt : e < q.length
  open_ : (q.getD e bk0).test = -1 ∧ (q.getD e bk0).th = -1

theorem getD_lt {p : List Bk} {i : Nat} (h : i < p.length) : p[i]? = some (p.getD i bk0) := by
  rw [List.getD_eq_getElem?_getD, List.getElem?_eq_getElem h]
  rfl

theorem getD_bset {p : List Bk} {i j : Nat} {b : Bk} (h : i < p.length) : (p.set i b).getD j bk0 = if i = j then b else p.getD j bk0 := by
  rw [List.getD_eq_getElem?_getD, List.getElem?_set, List.getD_eq_getElem?_getD]
  by_cases e : i = j
  · rw [if_pos e, if_pos h, if_pos e]; rfl
  · rw [if_neg e, if_neg e]

theorem getD_app {p r : List Bk} {i : Nat} (h : i < p.length) : (p ++ r).getD i bk0 = p.getD i bk0 := by
  rw [List.getD_eq_getElem?_getD, List.getElem?_append_left h, List.getD_eq_getElem?_getD]

theorem getD_app0 {p : List Bk} {b : Bk} {r : List Bk} : (p ++ b :: r).getD p.length bk0 = b := by
  rw [List.getD_eq_getElem?_getD, List.getElem?_append_right (Nat.le_refl _), Nat.sub_self]
  rfl

theorem getD_old {p q : List Bk} {i : Nat} (h : q[i]? = p[i]?) : q.getD i bk0 = p.getD i bk0 := by
  rw [List.getD_eq_getElem?_getD, h, List.getD_eq_getElem?_getD]

theorem cdB_len (p : List Bk) (a : Nat) (c : List St) : (cdB p a c).length = p.length := by simp [cdB]
theorem brB_len (p : List Bk) (a : Nat) (ts th el : Int) : (brB p a ts th el).length = p.length := by simp [brB]
theorem thB_len (p : List Bk) (a : Nat) (th : Int) : (thB p a th).length = p.length := by simp [thB]

theorem cdB_at {p : List Bk} {a j : Nat} {c : List St} (h : a < p.length) : (cdB p a c).getD j bk0 = if a = j then ⟨(p.getD a bk0).code ++ c, (p.getD a bk0).test, (p.getD a bk0).th, (p.getD a bk0).el⟩ else p.getD j bk0 := getD_bset h
theorem brB_at {p : List Bk} {a j : Nat} {ts th el : Int} (h : a < p.length) : (brB p a ts th el).getD j bk0 = if a = j then ⟨(p.getD a bk0).code, ts, th, el⟩ else p.getD j bk0 := getD_bset h
theorem thB_at {p : List Bk} {a j : Nat} {th : Int} (h : a < p.length) : (thB p a th).getD j bk0 = if a = j then ⟨(p.getD a bk0).code, (p.getD a bk0).test, th, (p.getD a bk0).el⟩ else p.getD j bk0 := getD_bset h

theorem cdB_old {p : List Bk} {a j : Nat} {c : List St} (h : j ≠ a) : (cdB p a c)[j]? = p[j]? := by unfold cdB; rw [List.getElem?_set_ne (by omega)]
theorem brB_old {p : List Bk} {a j : Nat} {ts th el : Int} (h : j ≠ a) : (brB p a ts th el)[j]? = p[j]? := by unfold brB; rw [List.getElem?_set_ne (by omega)]
theorem thB_old {p : List Bk} {a j : Nat} {th : Int} (h : j ≠ a) : (thB p a th)[j]? = p[j]? := by unfold thB; rw [List.getElem?_set_ne (by omega)]

theorem app_old {p r : List Bk} {j : Nat} (h : j < p.length) : (p ++ r)[j]? = p[j]? := List.getElem?_append_left h

theorem Fwd.trans {p q r : List Bk} {a e f : Nat} (h1 : Fwd p a q e) (h2 : Fwd q e r f) (ha : a < p.length) : Fwd p a r f where
  len := Nat.le_trans h1.len h2.len
  old := fun i hi hne => by
    have h3 := h1.len
    rw [h2.old i (by omega) (by have := h1.new; omega)]
    exact h1.old i hi hne
  at_ := by
    obtain ⟨c, hc⟩ := h1.at_
    have h3 := h1.len
    by_cases e1 : a = e
    · obtain ⟨d, hd⟩ := h2.at_
      subst e1
      exact ⟨c ++ d, by rw [hd, hc, List.append_assoc]⟩
    · exact ⟨c, by rw [getD_old (h2.old a (by omega) e1), hc]⟩
  new := by
    have h3 := h1.len
    rcases h2.new with e1 | e1
    · rw [e1]; exact h1.new
    · exact .inr (by omega)
  lt := h2.lt
  open_ := h2.open_

/-- a side: what was there is as it was; what the block behind it is, too -/
structure Side (p : List Bk) (after : Nat) (q : List Bk) (s : Nat) : Prop where
  len : p.length ≤ q.length
  old : ∀ i, i < p.length → q[i]? = p[i]?
  st : s = after ∨ (p.length ≤ s ∧ s < q.length)

def Opn (p : List Bk) (a : Nat) : Prop := (p.getD a bk0).test = -1 ∧ (p.getD a bk0).th = -1

theorem side_of {f : List Bk → Nat → List Bk × Nat} (hf : ∀ p a, a < p.length → Opn p a → Fwd p a (f p a).1 (f p a).2) (nn : Bool) (p : List Bk) (after : Nat) : Side p after (sdF f nn p after).1 (sdF f nn p after).2 := by
  unfold sdF
  cases nn with
  | true => rw [if_pos rfl]; exact ⟨Nat.le_refl _, fun _ _ => rfl, .inl rfl⟩
  | false =>
    rw [if_neg (by simp)]
    have h := hf (p ++ [bkO]) p.length (by simp) (by unfold Opn; rw [getD_app0]; exact ⟨rfl, rfl⟩)
    have h1 := h.len
    have h2 := h.new
    simp only [List.length_append, List.length_singleton] at h1 h2
    refine ⟨by simp only [thB_len]; omega, fun i hi => ?_, .inr ⟨Nat.le_refl _, by simp only [thB_len]; omega⟩⟩
    simp only []
    rw [thB_old (by omega), h.old i (by simp; omega) (by omega), app_old hi]

theorem fwd_code {p : List Bk} {a : Nat} (h : a < p.length) (ho : Opn p a) (c : List St) : Fwd p a (cdB p a c) a where
  len := by rw [cdB_len]; exact Nat.le_refl _
  old := fun i hi hne => cdB_old hne
  at_ := ⟨c, by rw [cdB_at h, if_pos rfl]⟩
  new := .inl rfl
  lt := by rw [cdB_len]; exact h
  open_ := by rw [cdB_at h, if_pos rfl]; exact ho

theorem fwd_both {p q r : List Bk} {a t o : Nat} {ts : Int} (h : a < p.length) (h1 : Side (p ++ [bkO]) p.length q t) (h2 : Side q p.length r o) : Fwd p a (brB r a ts t o) p.length := by
  have l1 := h1.len
  have l2 := h2.len
  simp only [List.length_append, List.length_singleton] at l1
  have hold : ∀ i, i < p.length → r[i]? = p[i]? := fun i hi => by rw [h2.old i (by omega), h1.old i (by simp; omega), app_old hi]
  refine ⟨by rw [brB_len]; omega, fun i hi hne => by rw [brB_old hne]; exact hold i hi, ⟨[], ?_⟩, .inr (Nat.le_refl _), by rw [brB_len]; omega, ?_⟩
  · rw [brB_at (by omega), if_pos rfl, List.append_nil]
    show (r.getD a bk0).code = _
    rw [getD_old (hold a h)]
  · rw [brB_at (by omega), if_neg (by omega), getD_old (h2.old p.length (by omega)), getD_old (h1.old p.length (by simp)), getD_app0]
    exact ⟨rfl, rfl⟩

theorem getD_app1 {p : List Bk} {b c : Bk} : (p ++ [b] ++ [c]).getD (p.length + 1) bk0 = c := by
  have := getD_app0 (p := p ++ [b]) (b := c) (r := [])
  simp only [List.append_assoc, List.length_append, List.length_singleton] at this ⊢
  exact this

theorem fwd_while {p q : List Bk} {a e : Nat} {ts : Int} (h : a < p.length) (h1 : Fwd (p ++ [bkO] ++ [bkO]) (p.length + 1) q e) : Fwd p a (brB (brB q a ts (p.length + 1 : Nat) p.length) e ts (p.length + 1 : Nat) p.length) p.length := by
  have l1 := h1.len
  have n1 := h1.new
  have e1 := h1.lt
  simp only [List.length_append, List.length_singleton] at l1 n1
  have hold : ∀ i, i < p.length → q[i]? = p[i]? := fun i hi => by rw [h1.old i (by simp; omega) (by omega), List.append_assoc, app_old hi]
  refine ⟨by rw [brB_len, brB_len]; omega, fun i hi hne => by rw [brB_old (by omega), brB_old hne]; exact hold i hi, ⟨[], ?_⟩, .inr (Nat.le_refl _), by rw [brB_len, brB_len]; omega, ?_⟩
  · rw [brB_at (by rw [brB_len]; exact e1), if_neg (by omega), brB_at (by omega), if_pos rfl, List.append_nil]
    show (q.getD a bk0).code = _
    rw [getD_old (hold a h)]
  · rw [brB_at (by rw [brB_len]; exact e1), if_neg (by omega), brB_at (by omega), if_neg (by omega), getD_old (h1.old p.length (by simp) (by omega)), List.append_assoc]
    have h5 : (p ++ ([bkO] ++ [bkO])).getD p.length bk0 = bkO := getD_app0
    rw [h5]
    exact ⟨rfl, rfl⟩

theorem fl_fwd : ∀ (l : Sh) (p : List Bk) (a : Nat), a < p.length → Opn p a → Fwd p a (flF l p a).1 (flF l p a).2
  | .nil, p, a, h, ho => ⟨Nat.le_refl _, fun _ _ _ => rfl, ⟨[], by simp [flF]⟩, .inl rfl, h, ho⟩
  | .cons kd ts cd th el r, p, a, h, ho => by
    unfold flF
    split
    · have h1 := fwd_code h ho (cpS cd)
      exact h1.trans (fl_fwd r _ a h1.lt h1.open_) h
    · split
      · have h1 := fwd_both (ts := ts) h (side_of (fl_fwd th) (isNil th) (p ++ [bkO]) p.length) (side_of (fl_fwd el) (isNil el) (sdF (flF th) (isNil th) (p ++ [bkO]) p.length).1 p.length)
        exact h1.trans (fl_fwd r _ _ h1.lt h1.open_) h
      · split
        · have h1 := fwd_while (ts := ts) h (fl_fwd th (p ++ [bkO] ++ [bkO]) (p.length + 1) (by simp) (by unfold Opn; rw [getD_app1]; exact ⟨rfl, rfl⟩))
          exact h1.trans (fl_fwd r _ _ h1.lt h1.open_) h
        · exact fl_fwd r p a h ho

/-! ### What such a program does -/

/-- a run from within a block: so many of its steps are done, so many blocks may follow -/
def trB (q : List Bk) (f i k : Nat) (v : List Int) : Option (List Int) :=
  (goP q f (goB (q.getD i bk0) (doS ((q.getD i bk0).code.drop k) v)) (doS ((q.getD i bk0).code.drop k) v)).map (·.1)

theorem trB_zero {q : List Bk} {f i : Nat} (v : List Int) (h : i < q.length) : (goP q (f + 1) (i : Int) v).map (·.1) = trB q f i 0 v := by
  rw [goP_step (getD_lt h)]
  unfold trB
  rw [List.drop_zero]
  cases goP q f (goB (q.getD i bk0) (doS (q.getD i bk0).code v)) (doS (q.getD i bk0).code v) <;> rfl

theorem trB_go {q : List Bk} {f i : Nat} {v : List Int} {c d r : List St} (h : (q.getD i bk0).code = c ++ d ++ r) : trB q f i c.length v = trB q f i (c ++ d).length (doS d v) := by
  unfold trB
  rw [h, List.append_assoc, List.drop_left, ← List.append_assoc, List.drop_left, doS_append]

theorem trB_move {q : List Bk} {f i j : Nat} {v : List Int} (h : goB (q.getD i bk0) v = (j : Int)) (hj : j < q.length) : trB q (f + 1) i (q.getD i bk0).code.length v = trB q f j 0 v := by
  rw [← trB_zero v hj]
  unfold trB
  rw [List.drop_length]
  show (goP q (f + 1) (goB (q.getD i bk0) v) v).map (·.1) = _
  rw [h]

/-- what is settled: of the blocks of p from lo on, and a: all but e are q's, e has more steps there -/
structure Fit (q p : List Bk) (a lo e : Nat) : Prop where
  len : p.length ≤ q.length
  same : ∀ i, i < p.length → (i = a ∨ lo ≤ i) → i ≠ e → q.getD i bk0 = p.getD i bk0
  pre : ∃ c, (q.getD e bk0).code = (p.getD e bk0).code ++ c

/-- what is settled in the end was so on the way -/
theorem Fit.back {q p1 p2 : List Bk} {a lo e1 e2 : Nat} (h : Fit q p2 a lo e2) (h2 : Fwd p1 e1 p2 e2) (he : e1 = a ∨ lo ≤ e1) (h1 : e1 < p1.length) : Fit q p1 a lo e1 where
  len := Nat.le_trans h2.len h.len
  same := fun i hi hs hne => by
    have h3 := h2.len
    have h4 := h2.new
    rw [h.same i (by omega) hs (by omega)]
    exact getD_old (h2.old i hi hne)
  pre := by
    obtain ⟨c, hc⟩ := h2.at_
    have h3 := h2.len
    by_cases e : e1 = e2
    · obtain ⟨d, hd⟩ := h.pre
      subst e
      exact ⟨c ++ d, by rw [hd, hc, List.append_assoc]⟩
    · exact ⟨c, by rw [h.same e1 (by omega) he e, hc]⟩

theorem Fit.mono {q p : List Bk} {a lo a' lo' e : Nat} (h : Fit q p a lo e) (hs : ∀ i, i < p.length → (i = a' ∨ lo' ≤ i) → (i = a ∨ lo ≤ i)) : Fit q p a' lo' e :=
  ⟨h.len, fun i hi hi' hne => h.same i hi (hs i hi hi') hne, h.pre⟩

/-- how many moves a turn takes at most -/
def mvS : Sh → Nat
  | .nil => 0
  | .cons _ _ _ th el r => 2 + mvS th + mvS el + mvS r

theorem mvS_many : ∀ l : Sh, mvS l = 2 * l.many
  | .nil => rfl
  | .cons _ _ _ th el r => by
    have h1 := mvS_many th
    have h2 := mvS_many el
    have h3 := mvS_many r
    simp only [mvS, Sh.many, h1, h2, h3]
    omega

/-- what f does with turns and values, the blocks do: from the end of a to the end of e, by at most M moves for each turn, and M more -/
def DoesB (q : List Bk) (M a k e k' : Nat) (n : Nat) (f : Nat → List Int → Option (Nat × List Int)) : Prop :=
  ∀ t v x, ValsOk n v → f t v = some x → ∃ m, m ≤ (t - x.1 + 1) * M ∧ ∀ g, trB q (g + m) a k v = trB q g e k' x.2

theorem DoesB.mono {q : List Bk} {M M' a k e k' n : Nat} {f : Nat → List Int → Option (Nat × List Int)} (h : DoesB q M a k e k' n f) (hM : M ≤ M') : DoesB q M' a k e k' n f := fun t v x hv hx => by
  obtain ⟨m, h1, h2⟩ := h t v x hv hx
  exact ⟨m, Nat.le_trans h1 (Nat.mul_le_mul_left _ hM), h2⟩

theorem does_seq {q : List Bk} {M1 M2 a k b kb e ke n : Nat} {f g : Nat → List Int → Option (Nat × List Int)} (hf : Tame n f) (hg : Tame n g) (h1 : DoesB q M1 a k b kb n f) (h2 : DoesB q M2 b kb e ke n g) :
    DoesB q (M1 + M2) a k e ke n (fun t v => match f t v with | none => none | some x => g x.1 x.2) := fun t v x hv hx => by
  cases hy : f t v with
  | none => simp [hy] at hx
  | some y =>
    simp only [hy] at hx
    obtain ⟨hy1, hy2⟩ := hf t v y hv hy
    obtain ⟨hx1, _⟩ := hg y.1 y.2 x hy2 hx
    obtain ⟨m1, a1, b1⟩ := h1 t v y hv hy
    obtain ⟨m2, a2, b2⟩ := h2 y.1 y.2 x hy2 hx
    refine ⟨m2 + m1, ?_, fun g => by rw [← Nat.add_assoc, b1, b2]⟩
    have c1 : (t - y.1 + 1) * M1 ≤ (t - x.1 + 1) * M1 := Nat.mul_le_mul_right _ (by omega)
    have c2 : (y.1 - x.1 + 1) * M2 ≤ (t - x.1 + 1) * M2 := Nat.mul_le_mul_right _ (by omega)
    rw [Nat.mul_add]
    omega

/-- a side done: from its start to the start of what is behind -/
theorem does_side {q p : List Bk} {f : List Bk → Nat → List Bk × Nat} {g : Nat → List Int → Option (Nat × List Int)} {M after n : Nat} {nn : Bool} (hfw : ∀ p a, a < p.length → Opn p a → Fwd p a (f p a).1 (f p a).2)
    (hnil : nn = true → ∀ t v, g t v = some (t, v)) (hd : ∀ p a, a < p.length → Opn p a → Fit q (f p a).1 a p.length (f p a).2 → DoesB q M a (p.getD a bk0).code.length (f p a).2 ((f p a).1.getD (f p a).2 bk0).code.length n g)
    (hs : ∀ i, i < (sdF f nn p after).1.length → p.length ≤ i → q.getD i bk0 = (sdF f nn p after).1.getD i bk0) (hq : (sdF f nn p after).1.length ≤ q.length) (ha : after < p.length) :
    DoesB q (M + 1) (sdF f nn p after).2 0 after 0 n g := by
  unfold sdF at hs hq ⊢
  cases nn with
  | true =>
    rw [if_pos rfl]
    intro t v x hv hx
    rw [hnil rfl] at hx
    injection hx with hx
    subst hx
    exact ⟨0, Nat.zero_le _, fun g => rfl⟩
  | false =>
    rw [if_neg (by simp)] at hs hq ⊢
    simp only [thB_len] at hs hq ⊢
    have hfp := hfw (p ++ [bkO]) p.length (by simp) (by unfold Opn; rw [getD_app0]; exact ⟨rfl, rfl⟩)
    have l1 := hfp.len
    have n1 := hfp.new
    have e1 := hfp.lt
    have o1 := hfp.open_
    simp only [List.length_append, List.length_singleton] at l1 n1
    have hdd := hd (p ++ [bkO]) p.length (by simp) (by unfold Opn; rw [getD_app0]; exact ⟨rfl, rfl⟩)
    generalize (f (p ++ [bkO]) p.length).1 = r at *
    generalize (f (p ++ [bkO]) p.length).2 = e at *
    have hqe := hs e (by omega) (by omega)
    rw [thB_at (by omega), if_pos rfl] at hqe
    have hfit : Fit q r p.length (p ++ [bkO]).length e := ⟨hq, fun i hi hs2 hne => by
      simp only [List.length_append, List.length_singleton] at hs2
      rw [hs i (by omega) (by omega), thB_at (by omega), if_neg (by omega)], ⟨[], by rw [hqe, List.append_nil]⟩⟩
    have hdo := hdd hfit
    rw [getD_app0] at hdo
    intro t v x hv hx
    obtain ⟨m, h1, h2⟩ := hdo t v x hv hx
    refine ⟨1 + m, by rw [Nat.mul_add]; omega, fun g => ?_⟩
    have h3 := h2 (g + 1)
    rw [show bkO.code.length = 0 from rfl] at h3
    rw [← Nat.add_assoc, h3]
    have h4 : (r.getD e bk0).code.length = (q.getD e bk0).code.length := by rw [hqe]
    rw [h4]
    refine trB_move ?_ (by omega)
    rw [hqe]
    unfold goB
    simp only []
    rw [o1.1, if_neg (by omega)]

/-- a body done again and again -/
theorem does_while {q : List Bk} {f : Nat → List Int → Option (Nat × List Int)} {M n ts e body after : Nat} (hf : Tame n f) (hb : body < q.length) (haf : after < q.length) (hd : DoesB q M body 0 e (q.getD e bk0).code.length n f)
    (he : (q.getD e bk0).test = ts ∧ (q.getD e bk0).th = body ∧ (q.getD e bk0).el = after) : ∀ (k t : Nat) (v : List Int) (x : Nat × List Int) (i : Nat), ValsOk n v → loopW f ts k t v = some x →
      ((q.getD i bk0).test = ts ∧ (q.getD i bk0).th = body ∧ (q.getD i bk0).el = after) → ∃ m, m ≤ (t - x.1 + 1) * (M + 1) ∧ ∀ g, trB q (g + m) i (q.getD i bk0).code.length v = trB q g after 0 x.2
  | 0, _, _, _, _, _, h, _ => by simp [loopW] at h
  | k + 1, t, v, x, i, hv, h, hi => by
    have hgo : ∀ u : List Int, goB (q.getD i bk0) u = if u.getD ts 0 = 0 then (after : Int) else (body : Int) := fun u => by
      unfold goB
      rw [hi.1, hi.2.1, hi.2.2, Int.toNat_natCast]
      by_cases e : u.getD ts 0 = 0
      · rw [if_pos ⟨by omega, e⟩, if_pos e]
      · rw [if_neg (fun h => e h.2), if_neg e]
    unfold loopW at h
    split at h
    · rename_i h0
      injection h with h
      subst h
      refine ⟨1, by simp only [Nat.sub_self, Nat.zero_add, Nat.one_mul]; omega, fun g => ?_⟩
      exact trB_move (by rw [hgo, if_pos h0]) haf
    · rename_i h0
      cases t with
      | zero => cases h
      | succ t =>
        cases hr : f t v with
        | none => simp [hr] at h
        | some y =>
          simp only [hr] at h
          obtain ⟨hy1, hy2⟩ := hf t v y hv hr
          obtain ⟨m1, a1, b1⟩ := hd t v y hv hr
          obtain ⟨m2, a2, b2⟩ := does_while hf hb haf hd he k y.1 y.2 x e hy2 h he
          have hx1 := (loopW_tame hf ts k y.1 y.2 x hy2 h).1
          refine ⟨m2 + m1 + 1, ?_, fun g => ?_⟩
          · have c1 : (t - y.1 + 1) * M + (t - y.1 + 1) = (t - y.1 + 1) * (M + 1) := by rw [Nat.mul_add, Nat.mul_one]
            have c2 : (t - y.1 + 1) * (M + 1) + (y.1 - x.1 + 1) * (M + 1) = (t + 1 - x.1 + 1) * (M + 1) := by
              rw [← Nat.add_mul]
              congr 1
              omega
            omega
          · rw [show g + (m2 + m1 + 1) = (g + m2 + m1) + 1 by omega, trB_move (by rw [hgo, if_neg h0]) hb, b1, b2]

/-- U2: what the shapes do, the program does -/
theorem fl_does {n : Nat} (q : List Bk) : ∀ (l : Sh) (p : List Bk) (a : Nat), ckSh n l = 0 → a < p.length → Opn p a → Fit q (flF l p a).1 a p.length (flF l p a).2 →
    DoesB q (mvS l) a (p.getD a bk0).code.length (flF l p a).2 ((flF l p a).1.getD (flF l p a).2 bk0).code.length n (exSh l)
  | .nil, p, a, hc, ha, ho, hF => fun t v x hv hx => by
    rw [exSh_nil] at hx
    injection hx with hx
    subst hx
    exact ⟨0, Nat.zero_le _, fun g => rfl⟩
  | .cons kd ts cd th el r, p, a, hc, ha, ho, hF => by
    obtain ⟨c1, c2, c3, c4⟩ := ckSh_cons hc
    have hone : ∀ {M b kb e ke : Nat}, DoesB q M a (p.getD a bk0).code.length b kb n (exOne (exSh th) (exSh el) kd ts cd) → DoesB q (mvS r) b kb e ke n (exSh r) → M ≤ 2 + mvS th + mvS el →
        DoesB q (mvS (.cons kd ts cd th el r)) a (p.getD a bk0).code.length e ke n (exSh (.cons kd ts cd th el r)) := fun h1 h2 h3 => by
      have := (does_seq (exOne_tame c1 (exSh_tame c2) (exSh_tame c3)) (exSh_tame c4) h1 h2).mono (M' := mvS (.cons kd ts cd th el r)) (by simp only [mvS]; omega)
      intro t v x hv hx
      exact this t v x hv hx
    unfold flF at hF ⊢
    rcases ckOne_cases c1 with ⟨rfl, k2⟩ | ⟨k1, k2, k3⟩
    · rw [if_pos rfl] at hF ⊢
      have h1 := fwd_code ha ho (cpS cd)
      have h2 := fl_fwd r _ a h1.lt h1.open_
      have hF1 := hF.back h2 (.inl rfl) h1.lt
      obtain ⟨d, hd⟩ := hF1.pre
      rw [cdB_at ha, if_pos rfl] at hd
      refine hone (M := 0) (b := a) (kb := ((cdB p a (cpS cd)).getD a bk0).code.length) ?_ (fl_does q r _ a c4 h1.lt h1.open_ (hF.mono fun i hi hs => by rw [cdB_len] at hs; exact hs)) (Nat.zero_le _)
      intro t v x hv hx
      rw [exOne_code] at hx
      injection hx with hx
      subst hx
      refine ⟨0, Nat.zero_le _, fun g => ?_⟩
      rw [cdB_at ha, if_pos rfl]
      simp only []
      rw [Nat.add_zero, trB_go hd, doS_cp]
    · obtain ⟨tn, rfl⟩ : ∃ tn : Nat, ts = (tn : Int) := ⟨ts.toNat, by omega⟩
      have htn : tn < n := by omega
      rw [if_neg (by omega)] at hF ⊢
      rcases k1 with rfl | rfl
      · rw [if_pos rfl] at hF ⊢
        have s1 := side_of (fl_fwd th) (isNil th) (p ++ [bkO]) p.length
        have s2 := side_of (fl_fwd el) (isNil el) (sdF (flF th) (isNil th) (p ++ [bkO]) p.length).1 p.length
        have d1 := fun hs hq => does_side (q := q) (p := p ++ [bkO]) (f := flF th) (g := exSh th) (M := mvS th) (after := p.length) (n := n) (nn := isNil th) (fl_fwd th)
          (fun hn t v => by cases th with | nil => rfl | cons => simp [isNil] at hn) (fun p a ha ho hf => fl_does q th p a c2 ha ho hf) hs hq (by simp)
        have d2 := fun hs hq hlt => does_side (q := q) (p := (sdF (flF th) (isNil th) (p ++ [bkO]) p.length).1) (f := flF el) (g := exSh el) (M := mvS el) (after := p.length) (n := n) (nn := isNil el) (fl_fwd el)
          (fun hn t v => by cases el with | nil => rfl | cons => simp [isNil] at hn) (fun p a ha ho hf => fl_does q el p a c3 ha ho hf) hs hq hlt
        have h1 := fwd_both (ts := (tn : Int)) ha s1 s2
        generalize (sdF (flF el) (isNil el) (sdF (flF th) (isNil th) (p ++ [bkO]) p.length).1 p.length).2 = o at *
        generalize (sdF (flF el) (isNil el) (sdF (flF th) (isNil th) (p ++ [bkO]) p.length).1 p.length).1 = po at *
        generalize (sdF (flF th) (isNil th) (p ++ [bkO]) p.length).2 = s at *
        generalize (sdF (flF th) (isNil th) (p ++ [bkO]) p.length).1 = pt at *
        have h2 := fl_fwd r _ _ h1.lt h1.open_
        have hF1 := hF.back h2 (.inr (Nat.le_refl _)) h1.lt
        have l1 := s1.len
        have l2 := s2.len
        simp only [List.length_append, List.length_singleton] at l1
        have hql := hF1.len
        rw [brB_len] at hql
        have hq : ∀ i, i < po.length → p.length < i → q.getD i bk0 = po.getD i bk0 := fun i hi hs => by
          rw [hF1.same i (by rw [brB_len]; exact hi) (.inr (by omega)) (by omega), brB_at (by omega), if_neg (by omega)]
        have hqa : q.getD a bk0 = ⟨(p.getD a bk0).code, tn, s, o⟩ := by
          rw [hF1.same a (by rw [brB_len]; omega) (.inl rfl) (by omega), brB_at (by omega), if_pos rfl, getD_old (s2.old a (by omega)), getD_old (s1.old a (by simp; omega)), getD_app ha]
        have t1 := d1 (fun i hi hp => by
          simp only [List.length_append, List.length_singleton] at hp
          rw [hq i (by omega) (by omega), getD_old (s2.old i hi)]) (by omega)
        have t2 := d2 (fun i hi hp => hq i hi (by omega)) hql (by omega)
        have hst := s1.st
        have hso := s2.st
        simp only [List.length_append, List.length_singleton] at hst
        refine hone (M := 2 + mvS th + mvS el) (b := p.length) (kb := ((brB po a (tn : Int) s o).getD p.length bk0).code.length) ?_ (fl_does q r _ _ c4 h1.lt h1.open_ (hF.mono fun i hi hs => by rw [brB_len] at hs; omega)) (by omega)
        intro t v x hv hx
        have hk : ((brB po a (tn : Int) s o).getD p.length bk0).code.length = 0 := by
          rw [brB_at (by omega), if_neg (by omega), getD_old (s2.old p.length (by omega)), getD_old (s1.old p.length (by simp)), getD_app0]
          rfl
        rw [hk]
        have hkc : (p.getD a bk0).code.length = (q.getD a bk0).code.length := by rw [hqa]
        rw [hkc]
        by_cases e : v.getD tn 0 = 0
        · rw [exOne_else e] at hx
          obtain ⟨m, a1, b1⟩ := t2 t v x hv hx
          refine ⟨m + 1, ?_, fun g => ?_⟩
          · have c : (t - x.1 + 1) * (mvS el + 1) + (t - x.1 + 1) * (1 + mvS th) = (t - x.1 + 1) * (2 + mvS th + mvS el) := by
              rw [← Nat.mul_add]
              congr 1
              omega
            have c5 : 1 ≤ (t - x.1 + 1) * (1 + mvS th) := Nat.mul_pos (by omega) (by omega)
            omega
          · rw [← Nat.add_assoc, trB_move (j := o) (by rw [hqa]; unfold goB; simp only [Int.toNat_natCast]; rw [if_pos ⟨by omega, e⟩]) (by omega), b1]
        · rw [exOne_then e] at hx
          obtain ⟨m, a1, b1⟩ := t1 t v x hv hx
          refine ⟨m + 1, ?_, fun g => ?_⟩
          · have c : (t - x.1 + 1) * (mvS th + 1) + (t - x.1 + 1) * (1 + mvS el) = (t - x.1 + 1) * (2 + mvS th + mvS el) := by
              rw [← Nat.mul_add]
              congr 1
              omega
            have c5 : 1 ≤ (t - x.1 + 1) * (1 + mvS el) := Nat.mul_pos (by omega) (by omega)
            omega
          · rw [← Nat.add_assoc, trB_move (j := s) (by rw [hqa]; unfold goB; simp only [Int.toNat_natCast]; rw [if_neg (fun h => e h.2)]) (by omega), b1]
      · rw [if_neg (by omega), if_pos rfl] at hF ⊢
        have f1 := fl_fwd th (p ++ [bkO] ++ [bkO]) (p.length + 1) (by simp) (by unfold Opn; rw [getD_app1]; exact ⟨rfl, rfl⟩)
        have d1 := fl_does q th (p ++ [bkO] ++ [bkO]) (p.length + 1) c2 (by simp) (by unfold Opn; rw [getD_app1]; exact ⟨rfl, rfl⟩)
        have h1 := fwd_while (ts := (tn : Int)) ha f1
        generalize (flF th (p ++ [bkO] ++ [bkO]) (p.length + 1)).2 = e at *
        generalize (flF th (p ++ [bkO] ++ [bkO]) (p.length + 1)).1 = pb at *
        have h2 := fl_fwd r _ _ h1.lt h1.open_
        have hF1 := hF.back h2 (.inr (Nat.le_refl _)) h1.lt
        have l1 := f1.len
        have n1 := f1.new
        have e1 := f1.lt
        simp only [List.length_append, List.length_singleton] at l1 n1
        have hql := hF1.len
        rw [brB_len, brB_len] at hql
        have hq : ∀ i, i < pb.length → p.length < i → i ≠ e → q.getD i bk0 = pb.getD i bk0 := fun i hi hs hne => by
          rw [hF1.same i (by rw [brB_len, brB_len]; exact hi) (.inr (by omega)) (by omega), brB_at (by rw [brB_len]; exact e1), if_neg (by omega), brB_at (by omega), if_neg (by omega)]
        have hqa : q.getD a bk0 = ⟨(p.getD a bk0).code, tn, (p.length + 1 : Nat), p.length⟩ := by
          rw [hF1.same a (by rw [brB_len, brB_len]; omega) (.inl rfl) (by omega), brB_at (by rw [brB_len]; exact e1), if_neg (by omega), brB_at (by omega), if_pos rfl, getD_old (f1.old a (by simp; omega) (by omega)), List.append_assoc, getD_app ha]
        have hqe : q.getD e bk0 = ⟨(pb.getD e bk0).code, tn, (p.length + 1 : Nat), p.length⟩ := by
          rw [hF1.same e (by rw [brB_len, brB_len]; omega) (.inr (by omega)) (by omega), brB_at (by rw [brB_len]; exact e1), if_pos rfl, brB_at (by omega), if_neg (by omega)]
        have t1 := d1 ⟨hql, fun i hi hs hne => hq i hi (by simp at hs; omega) hne, ⟨[], by rw [hqe, List.append_nil]⟩⟩
        rw [getD_app1] at t1
        refine hone (M := mvS th + 1) (b := p.length) (kb := ((brB (brB pb a (tn : Int) (p.length + 1 : Nat) p.length) e (tn : Int) (p.length + 1 : Nat) p.length).getD p.length bk0).code.length) ?_ (fl_does q r _ _ c4 h1.lt h1.open_ (hF.mono fun i hi hs => by rw [brB_len, brB_len] at hs; omega)) (by omega)
        intro t v x hv hx
        have hk : ((brB (brB pb a (tn : Int) (p.length + 1 : Nat) p.length) e (tn : Int) (p.length + 1 : Nat) p.length).getD p.length bk0).code.length = 0 := by
          rw [brB_at (by rw [brB_len]; exact e1), if_neg (by omega), brB_at (by omega), if_neg (by omega), getD_old (f1.old p.length (by simp) (by omega)), List.append_assoc]
          show ((p ++ bkO :: [bkO]).getD p.length bk0).code.length = 0
          rw [getD_app0]
          rfl
        rw [hk]
        have hkc : (p.getD a bk0).code.length = (q.getD a bk0).code.length := by rw [hqa]
        rw [hkc]
        rw [exOne_while] at hx
        refine does_while (M := mvS th) (exSh_tame c2) (body := p.length + 1) (by omega) (by omega) (e := e) ?_ (by rw [hqe]; exact ⟨rfl, rfl, rfl⟩) _ t v x a hv hx (by rw [hqa]; exact ⟨rfl, rfl, rfl⟩)
        rw [hqe]
        exact t1

/-- U2: the whole: from the first block, within so many blocks -/
theorem fl_run {n : Nat} {l : Sh} {t : Nat} {v : List Int} {x : Nat × List Int} (hc : ckSh n l = 0) (hv : ValsOk n v) (hx : exSh l t v = some x) : ∃ m w, m ≤ (t + 1) * (2 * l.many) + 1 ∧ goP (flSh l) m 0 v = some (x.2, w) := by
  have h1 := fl_fwd l [bkO] 0 (by simp) ⟨rfl, rfl⟩
  obtain ⟨m, hm, hg⟩ := fl_does (n := n) (flSh l) l [bkO] 0 hc (by simp) ⟨rfl, rfl⟩ ⟨Nat.le_refl _, fun _ _ _ _ => rfl, ⟨[], by simp [flSh]⟩⟩ t v x hv hx
  have h2 := hg 0
  have h3 : trB (flSh l) 0 (flF l [bkO] 0).2 ((flSh l).getD (flF l [bkO] 0).2 bk0).code.length x.2 = some x.2 := by
    unfold trB
    rw [List.drop_length]
    show (goP (flSh l) 0 (goB ((flSh l).getD (flF l [bkO] 0).2 bk0) x.2) x.2).map (·.1) = _
    have h4 := h1.open_
    have h5 : goB ((flSh l).getD (flF l [bkO] 0).2 bk0) x.2 = -1 := by
      unfold goB flSh
      rw [h4.1, if_neg (by omega), h4.2]
    rw [h5, goP_stop]
    rfl
  have h6 : trB (flSh l) (0 + m) 0 0 v = some x.2 := h2.trans h3
  rw [← trB_zero v (by have := h1.len; simp only [List.length_singleton] at this; unfold flSh; omega), Nat.zero_add] at h6
  cases hy : goP (flSh l) (m + 1) ((0 : Nat) : Int) v with
  | none => rw [hy] at h6; cases h6
  | some y =>
    rw [hy] at h6
    simp only [Option.map_some, Option.some.injEq] at h6
    refine ⟨m + 1, y.2, ?_, ?_⟩
    · rw [mvS_many] at hm
      have : (t - x.1 + 1) * (2 * l.many) ≤ (t + 1) * (2 * l.many) := Nat.mul_le_mul_right _ (by omega)
      omega
    · rw [show (0 : Int) = ((0 : Nat) : Int) from rfl, hy, ← h6]

/-- with more to go the same -/
theorem goP_more {q : List Bk} : ∀ {f g : Nat} {at_ : Int} {v : List Int} {x : List Int × List Nat}, goP q f at_ v = some x → f ≤ g → goP q g at_ v = some x
  | 0, g, at_, v, x, h, _ => by
    unfold goP at h
    split at h
    · rename_i e
      rw [e, goP_stop]
      exact h
    · cases h
  | f + 1, 0, _, _, _, _, h => by omega
  | f + 1, g + 1, at_, v, x, h, hg => by
    rw [goP_succ] at h ⊢
    split at h
    · rename_i e; rw [if_pos e]; exact h
    · rename_i e
      rw [if_neg e]
      cases hr : goP q f (goB (q.getD at_.toNat bk0) (doS (q.getD at_.toNat bk0).code v)) (doS (q.getD at_.toNat bk0).code v) with
      | none => rw [hr] at h; cases h
      | some y => rw [goP_more hr (by omega)]; rw [hr] at h; exact h

end Go.Proofs.Ytniilhgcgcimgaa
