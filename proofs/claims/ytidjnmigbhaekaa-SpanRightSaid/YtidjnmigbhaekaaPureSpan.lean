/-
  Plain mathematics of spans (R1, R2): the least span of an operation, spans behind steps and along edges, as a flow; runs keep within: no program's text.
-/
import Derived.Test.YtidjnmigbhaekaaMPure
import Derived.Test.YtidjnmigbhaekaaPureFlG
namespace Go.Proofs.Ytidjnmigbhaekaa
set_option linter.unusedSimpArgs false
set_option linter.unusedVariables false

/-- a span of values -/
def SpOk (s : Int × Int) : Prop := 0 ≤ s.1 ∧ s.1 ≤ s.2 ∧ s.2 ≤ 255

/-- x lies in s -/
def InSp (x : Int) (s : Int × Int) : Prop := s.1 ≤ x ∧ x ≤ s.2

def LeSp (a b : Int × Int) : Prop := b.1 ≤ a.1 ∧ a.2 ≤ b.2

def joSp (a b : Int × Int) : Int × Int := (min a.1 b.1, max a.2 b.2)

/-- the least span of what comes of a and b -/
structure IsDo (o : Int) (a b s : Int × Int) : Prop where
  all : ∀ x y, InSp x a → InSp y b → InSp (opv o x y) s
  lo : ∃ x y, InSp x a ∧ InSp y b ∧ opv o x y = s.1
  hi : ∃ x y, InSp x a ∧ InSp y b ∧ opv o x y = s.2

theorem IsDo.le {o : Int} {a b a' b' s s' : Int × Int} (h : IsDo o a b s) (h' : IsDo o a' b' s') (ha : LeSp a a') (hb : LeSp b b') : LeSp s s' := by
  obtain ⟨x, y, hx, hy, e⟩ := h.lo
  obtain ⟨x2, y2, hx2, hy2, e2⟩ := h.hi
  unfold InSp LeSp at *
  have h1 := h'.all x y ⟨by omega, by omega⟩ ⟨by omega, by omega⟩
  have h2 := h'.all x2 y2 ⟨by omega, by omega⟩ ⟨by omega, by omega⟩
  unfold InSp at h1 h2
  omega

theorem LeSp.refl (a : Int × Int) : LeSp a a := ⟨Int.le_refl _, Int.le_refl _⟩

theorem LeSp.anti {a b : Int × Int} (h : LeSp a b) (h2 : LeSp b a) : a = b := Prod.ext (by have := h.1; have := h2.1; omega) (by have := h.2; have := h2.2; omega)

theorem IsDo.one {o : Int} {a b s s' : Int × Int} (h : IsDo o a b s) (h' : IsDo o a b s') : s = s' := (h.le h' (.refl a) (.refl b)).anti (h'.le h (.refl a) (.refl b))

theorem IsDo.ok {o : Int} {a b s : Int × Int} (h : IsDo o a b s) : SpOk s := by
  obtain ⟨x, y, hx, hy, e⟩ := h.lo
  obtain ⟨x2, y2, hx2, hy2, e2⟩ := h.hi
  have h1 := opv_bd o x y
  have h2 := opv_bd o x2 y2
  have h3 := h.all x y hx hy
  unfold InSp at h3
  unfold SpOk
  omega

/-- what has been seen of an operation: those pairs of which 'S' says so -/
structure SeenI (o : Int) (S : Int → Int → Prop) (lo hi : Int) : Prop where
  all : ∀ x y, S x y → lo ≤ opv o x y ∧ opv o x y ≤ hi
  lw : lo = 255 ∨ ∃ x y, S x y ∧ opv o x y = lo
  hw : hi = 0 ∨ ∃ x y, S x y ∧ opv o x y = hi
  bd : 0 ≤ lo ∧ lo ≤ 255 ∧ 0 ≤ hi ∧ hi ≤ 255

theorem SeenI.start (o : Int) : SeenI o (fun _ _ => False) 255 0 := ⟨fun _ _ h => h.elim, .inl rfl, .inl rfl, by omega⟩

theorem SeenI.congr {o : Int} {S S' : Int → Int → Prop} {lo hi : Int} (h : SeenI o S lo hi) (he : ∀ x y, S' x y ↔ S x y) : SeenI o S' lo hi := by
  have : S' = S := by funext x y; exact propext (he x y)
  rw [this]
  exact h

theorem SeenI.add {o : Int} {S S' : Int → Int → Prop} {lo hi lo' hi' x y : Int} (h : SeenI o S lo hi) (he : ∀ u v, S' u v ↔ S u v ∨ u = x ∧ v = y) (hl : lo' = min lo (opv o x y)) (hh : hi' = max hi (opv o x y)) : SeenI o S' lo' hi' := by
  have hb := opv_bd o x y
  have hbd := h.bd
  refine ⟨fun u v huv => ?_, ?_, ?_, by omega⟩
  · rcases (he u v).1 huv with h1 | ⟨rfl, rfl⟩
    · have := h.all u v h1; omega
    · omega
  · by_cases hc : opv o x y ≤ lo
    · exact .inr ⟨x, y, (he x y).2 (.inr ⟨rfl, rfl⟩), by omega⟩
    · rcases h.lw with h1 | ⟨u, v, h1, h2⟩
      · exact .inl (by omega)
      · exact .inr ⟨u, v, (he u v).2 (.inl h1), by omega⟩
  · by_cases hc : hi ≤ opv o x y
    · exact .inr ⟨x, y, (he x y).2 (.inr ⟨rfl, rfl⟩), by omega⟩
    · rcases h.hw with h1 | ⟨u, v, h1, h2⟩
      · exact .inl (by omega)
      · exact .inr ⟨u, v, (he u v).2 (.inl h1), by omega⟩

/-- all seen, or so much that no more can come -/
theorem SeenI.done {o : Int} {S : Int → Int → Prop} {lo hi : Int} {a b : Int × Int} (h : SeenI o S lo hi) (hS : ∀ x y, S x y → InSp x a ∧ InSp y b) (hex : ∃ x y, S x y) (hall : (∀ x y, InSp x a → InSp y b → S x y) ∨ (lo = 0 ∧ hi = 255)) : IsDo o a b (lo, hi) := by
  obtain ⟨x0, y0, h0⟩ := hex
  have hv := h.all x0 y0 h0
  have hb := opv_bd o x0 y0
  have hbd := h.bd
  refine ⟨fun x y hx hy => ?_, ?_, ?_⟩
  · rcases hall with hall | ⟨rfl, rfl⟩
    · exact h.all x y (hall x y hx hy)
    · exact opv_bd o x y
  · rcases h.lw with h1 | ⟨u, v, h1, h2⟩
    · exact ⟨x0, y0, (hS _ _ h0).1, (hS _ _ h0).2, by show opv o x0 y0 = lo; omega⟩
    · exact ⟨u, v, (hS _ _ h1).1, (hS _ _ h1).2, h2⟩
  · rcases h.hw with h1 | ⟨u, v, h1, h2⟩
    · exact ⟨x0, y0, (hS _ _ h0).1, (hS _ _ h0).2, by show opv o x0 y0 = hi; omega⟩
    · exact ⟨u, v, (hS _ _ h1).1, (hS _ _ h1).2, h2⟩

/-! ### as a function -/

def rngI (a : Int × Int) : List Int := (List.range (a.2 - a.1 + 1).toNat).map fun i : Nat => a.1 + (i : Int)

theorem mem_rngI {a : Int × Int} {x : Int} : x ∈ rngI a ↔ InSp x a := by
  unfold rngI InSp
  rw [List.mem_map]
  constructor
  · rintro ⟨i, hi, rfl⟩
    have := List.mem_range.1 hi
    omega
  · rintro ⟨h1, h2⟩
    exact ⟨(x - a.1).toNat, List.mem_range.2 (by omega), by omega⟩

def valsO (o : Int) (a b : Int × Int) : List Int := (rngI a).flatMap fun x => (rngI b).map fun y => opv o x y

def minmax : List Int → Int × Int
  | [] => (255, 0)
  | v :: l => (min v (minmax l).1, max v (minmax l).2)

theorem minmax_all : ∀ {l : List Int} {v : Int}, v ∈ l → (minmax l).1 ≤ v ∧ v ≤ (minmax l).2
  | u :: l, v, h => by
    rcases List.mem_cons.1 h with rfl | h
    · unfold minmax; constructor <;> simp only [] <;> omega
    · have := minmax_all h
      unfold minmax
      constructor <;> simp only [] <;> omega

theorem minmax_in : ∀ {l : List Int}, (∀ v ∈ l, 0 ≤ v ∧ v ≤ 255) → l ≠ [] → (minmax l).1 ∈ l ∧ (minmax l).2 ∈ l
  | [], _, h => absurd rfl h
  | [u], hb, _ => by
    have := hb u (by simp)
    have e : minmax [u] = (u, u) := by
      unfold minmax minmax
      exact Prod.ext (by show min u 255 = u; omega) (by show max u 0 = u; omega)
    rw [e]
    simp
  | u :: v :: l, hb, _ => by
    obtain ⟨h1, h2⟩ := minmax_in (l := v :: l) (fun x hx => hb x (List.mem_cons_of_mem _ hx)) (by simp)
    constructor
    · show min u (minmax (v :: l)).1 ∈ _
      rcases Int.le_total u (minmax (v :: l)).1 with h | h
      · rw [Int.min_eq_left h]; simp
      · rw [Int.min_eq_right h]; exact List.mem_cons_of_mem _ h1
    · show max u (minmax (v :: l)).2 ∈ _
      rcases Int.le_total u (minmax (v :: l)).2 with h | h
      · rw [Int.max_eq_right h]; exact List.mem_cons_of_mem _ h2
      · rw [Int.max_eq_left h]; simp

theorem mem_valsO {o : Int} {a b : Int × Int} {v : Int} : v ∈ valsO o a b ↔ ∃ x y, InSp x a ∧ InSp y b ∧ opv o x y = v := by
  unfold valsO
  rw [List.mem_flatMap]
  constructor
  · rintro ⟨x, hx, h⟩
    obtain ⟨y, hy, e⟩ := List.mem_map.1 h
    exact ⟨x, y, mem_rngI.1 hx, mem_rngI.1 hy, e⟩
  · rintro ⟨x, y, hx, hy, e⟩
    exact ⟨x, mem_rngI.2 hx, List.mem_map.2 ⟨y, mem_rngI.2 hy, e⟩⟩

/-- R1 -/
def doSp (o : Int) (a b : Int × Int) : Int × Int := minmax (valsO o a b)

theorem doSp_is {a b : Int × Int} (o : Int) (ha : SpOk a) (hb : SpOk b) : IsDo o a b (doSp o a b) := by
  have hv : ∀ v ∈ valsO o a b, 0 ≤ v ∧ v ≤ 255 := fun v h => by
    obtain ⟨x, y, _, _, rfl⟩ := mem_valsO.1 h
    exact opv_bd o x y
  have hne : valsO o a b ≠ [] := fun e => by
    have : opv o a.1 b.1 ∈ valsO o a b := mem_valsO.2 ⟨a.1, b.1, ⟨Int.le_refl _, ha.2.1⟩, ⟨Int.le_refl _, hb.2.1⟩, rfl⟩
    rw [e] at this
    cases this
  obtain ⟨h1, h2⟩ := minmax_in hv hne
  exact ⟨fun x y hx hy => minmax_all (mem_valsO.2 ⟨x, y, hx, hy, rfl⟩), mem_valsO.1 h1, mem_valsO.1 h2⟩

theorem IsDo.eq {o : Int} {a b s : Int × Int} (ha : SpOk a) (hb : SpOk b) (h : IsDo o a b s) : s = doSp o a b := h.one (doSp_is o ha hb)

/-! ### rows -/

/-- of each variable a span -/
def RSp (n : Nat) (a : List (Int × Int)) : Prop := a.length = n ∧ ∀ (j : Nat) (s : Int × Int), a[j]? = some s → SpOk s

def spD : Int × Int := (0, 0)

theorem RSp.at_ {n : Nat} {a : List (Int × Int)} (h : RSp n a) {v : Nat} (hv : v < n) : SpOk (a.getD v spD) := by
  have hl : v < a.length := by rw [h.1]; exact hv
  rw [List.getD_eq_getElem?_getD, List.getElem?_eq_getElem hl]
  exact h.2 v _ (List.getElem?_eq_getElem hl)

theorem RSp.set {n : Nat} {a : List (Int × Int)} (h : RSp n a) {j : Nat} {x : Int × Int} (hx : SpOk x) : RSp n (a.set j x) := by
  refine ⟨by simp [h.1], fun i y hy => ?_⟩
  rw [List.getElem?_set] at hy
  split at hy
  · split at hy
    · injection hy with hy; subst hy; exact hx
    · cases hy
  · exact h.2 i y hy

theorem getD_setS (a : List (Int × Int)) (t v : Nat) (x : Int × Int) (ht : t < a.length) : (a.set t x).getD v spD = if t = v then x else a.getD v spD := by
  rw [List.getD_eq_getElem?_getD, List.getElem?_set, List.getD_eq_getElem?_getD]
  split
  · first | rfl | (rw [if_pos ht]; rfl)
  · rfl

def LeRow (a b : List (Int × Int)) : Prop := a.length = b.length ∧ ∀ v, v < a.length → LeSp (a.getD v spD) (b.getD v spD)

theorem LeRow.refl (a : List (Int × Int)) : LeRow a a := ⟨rfl, fun _ _ => .refl _⟩

theorem LeSp.trans {a b c : Int × Int} (h : LeSp a b) (h2 : LeSp b c) : LeSp a c := ⟨Int.le_trans h2.1 h.1, Int.le_trans h.2 h2.2⟩

theorem LeRow.trans {a b c : List (Int × Int)} (h : LeRow a b) (h2 : LeRow b c) : LeRow a c := ⟨h.1.trans h2.1, fun v hv => (h.2 v hv).trans (h2.2 v (by rw [← h.1]; exact hv))⟩

theorem LeRow.set {a b : List (Int × Int)} (h : LeRow a b) {t : Nat} {x y : Int × Int} (hxy : LeSp x y) (ht : t < a.length) : LeRow (a.set t x) (b.set t y) := by
  refine ⟨by simp [h.1], fun v hv => ?_⟩
  rw [getD_setS _ _ _ _ ht, getD_setS _ _ _ _ (by rw [← h.1]; exact ht)]
  split
  · exact hxy
  · exact h.2 v (by simpa using hv)

def joRow (a b : List (Int × Int)) : List (Int × Int) := List.zipWith joSp a b

theorem joRow_len {a b : List (Int × Int)} (h : a.length = b.length) : (joRow a b).length = a.length := by simp [joRow, h]

theorem joRow_at {a b : List (Int × Int)} (h : a.length = b.length) {v : Nat} (hv : v < a.length) : (joRow a b).getD v spD = joSp (a.getD v spD) (b.getD v spD) := by
  unfold joRow
  rw [List.getD_eq_getElem?_getD, List.getElem?_zipWith, List.getD_eq_getElem?_getD, List.getD_eq_getElem?_getD, List.getElem?_eq_getElem hv, List.getElem?_eq_getElem (by rw [← h]; exact hv)]
  rfl

theorem row_ext {a b : List (Int × Int)} (hl : a.length = b.length) (h : ∀ v, v < a.length → a.getD v spD = b.getD v spD) : a = b := by
  apply List.ext_getElem hl
  intro i h1 h2
  have := h i h1
  rwa [List.getD_eq_getElem?_getD, List.getElem?_eq_getElem h1, List.getD_eq_getElem?_getD, List.getElem?_eq_getElem h2] at this

/-! ### steps -/

/-- R2: what a step makes -/
def mkSp (s : St) (v : List (Int × Int)) : Int × Int :=
  if s.op = 1 then (s.v, s.v) else if s.op = 2 then v.getD s.v.toNat spD else doSp s.op (v.getD s.a.toNat spD) (v.getD s.b.toNat spD)

theorem mkSp_num {s : St} {v : List (Int × Int)} (h : s.op = 1) : mkSp s v = (s.v, s.v) := by unfold mkSp; simp [h]

theorem mkSp_var {s : St} {v : List (Int × Int)} (h : s.op = 2) : mkSp s v = v.getD s.v.toNat spD := by unfold mkSp; simp [h]

theorem mkSp_op {s : St} {v : List (Int × Int)} (h : 3 ≤ s.op) : mkSp s v = doSp s.op (v.getD s.a.toNat spD) (v.getD s.b.toNat spD) := by
  have h1 : ¬ s.op = 1 := by omega
  have h2 : ¬ s.op = 2 := by omega
  unfold mkSp; simp [h1, h2]

theorem mkSp_ok {n : Nat} {s : St} {v : List (Int × Int)} (hc : ckStep n n s.op s.to s.a s.b s.v = 0) (hv : RSp n v) : SpOk (mkSp s v) := by
  obtain ⟨_, hcase⟩ := ckStep_cases hc
  rcases hcase with ⟨h1, h2, h3⟩ | ⟨h1, h2, h3⟩ | ⟨h1, h2, h3, h4, h5, h6⟩
  · rw [mkSp_num h1]; exact ⟨h2, Int.le_refl _, h3⟩
  · rw [mkSp_var h1]; exact hv.at_ (by omega)
  · rw [mkSp_op h1]; exact (doSp_is s.op (hv.at_ (by omega)) (hv.at_ (by omega))).ok

theorem mkSp_mono {n : Nat} {s : St} {a b : List (Int × Int)} (hc : ckStep n n s.op s.to s.a s.b s.v = 0) (ha : RSp n a) (hb : RSp n b) (h : LeRow a b) : LeSp (mkSp s a) (mkSp s b) := by
  obtain ⟨_, hcase⟩ := ckStep_cases hc
  have hl := ha.1
  rcases hcase with ⟨h1, h2, h3⟩ | ⟨h1, h2, h3⟩ | ⟨h1, h2, h3, h4, h5, h6⟩
  · rw [mkSp_num h1, mkSp_num h1]; exact .refl _
  · rw [mkSp_var h1, mkSp_var h1]; exact h.2 _ (by omega)
  · rw [mkSp_op h1, mkSp_op h1]
    exact (doSp_is s.op (ha.at_ (by omega)) (ha.at_ (by omega))).le (doSp_is s.op (hb.at_ (by omega)) (hb.at_ (by omega))) (h.2 _ (by omega)) (h.2 _ (by omega))

def bhSp : List St → List (Int × Int) → List (Int × Int)
  | [], v => v
  | s :: c, v => bhSp c (v.set s.to.toNat (mkSp s v))

theorem bhSp_len : ∀ (c : List St) (v : List (Int × Int)), (bhSp c v).length = v.length
  | [], _ => rfl
  | s :: c, v => by rw [bhSp, bhSp_len c]; simp

theorem bhSp_drop {c : List St} {k : Nat} {s : St} (h : c[k]? = some s) (v : List (Int × Int)) : bhSp (c.drop k) v = bhSp (c.drop (k + 1)) (v.set s.to.toNat (mkSp s v)) := by
  rw [drop_at h]
  rfl

theorem ckStepsF_cons {n : Nat} {s : St} {c : List St} (h : ckStepsF n n (s :: c) = 0) : ckStep n n s.op s.to s.a s.b s.v = 0 ∧ ckStepsF n n c = 0 := by
  have h0 : ckStep n n s.op s.to s.a s.b s.v = 0 := ckStepsF_at h (i := 0) (s := s) (by simp)
  unfold ckStepsF at h
  rw [if_pos h0] at h
  exact ⟨h0, h⟩

theorem bhSp_ok {n : Nat} : ∀ {c : List St} {v : List (Int × Int)}, ckStepsF n n c = 0 → RSp n v → RSp n (bhSp c v)
  | [], _, _, h => h
  | s :: c, v, hc, h => by
    obtain ⟨h0, h1⟩ := ckStepsF_cons hc
    rw [bhSp]
    exact bhSp_ok h1 (h.set (mkSp_ok h0 h))

theorem bhSp_mono {n : Nat} : ∀ {c : List St} {a b : List (Int × Int)}, ckStepsF n n c = 0 → RSp n a → RSp n b → LeRow a b → LeRow (bhSp c a) (bhSp c b)
  | [], _, _, _, _, _, h => h
  | s :: c, a, b, hc, ha, hb, h => by
    obtain ⟨h0, h1⟩ := ckStepsF_cons hc
    obtain ⟨⟨t0, t1⟩, _⟩ := ckStep_cases h0
    have hl := ha.1
    rw [bhSp, bhSp]
    exact bhSp_mono h1 (ha.set (mkSp_ok h0 ha)) (hb.set (mkSp_ok h0 hb)) (h.set (mkSp_mono h0 ha hb h) (by omega))

/-! ### edges -/

def hiSp (t : Int × Int) : Int × Int := (max t.1 1, t.2)

/-- R2: what goes where -/
def goSp (b : Bk) (v : List (Int × Int)) : List (Nat × List (Int × Int)) :=
  if b.test = -1 then (if b.th = -1 then [] else [(b.th.toNat, v)])
  else (if 0 < (v.getD b.test.toNat spD).2 then [(b.th.toNat, v.set b.test.toNat (hiSp (v.getD b.test.toNat spD)))] else []) ++
    (if (v.getD b.test.toNat spD).1 = 0 then [(b.el.toNat, v.set b.test.toNat spD)] else [])

theorem goSp_ok {n m : Nat} {b : Bk} (h : BkOk n m b) {v : List (Int × Int)} (hv : RSp n v) {e : Nat × List (Int × Int)} (he : e ∈ goSp b v) : e.1 < m ∧ RSp n e.2 := by
  obtain ⟨_, h2, h3, h4⟩ := h
  unfold goSp at he
  split at he
  · split at he
    · cases he
    · rw [List.mem_singleton] at he
      subst he
      exact ⟨by show b.th.toNat < m; omega, hv⟩
  · have ht : 0 ≤ b.test ∧ b.test < n := by omega
    have hs := hv.at_ (v := b.test.toNat) (by omega)
    unfold SpOk at hs
    rw [List.mem_append] at he
    rcases he with he | he
    · split at he
      · rw [List.mem_singleton] at he
        subst he
        exact ⟨by show b.th.toNat < m; omega, hv.set ⟨by show 0 ≤ max _ _; omega, by show max _ 1 ≤ _; simp only [hiSp]; omega, by simp only [hiSp]; omega⟩⟩
      · cases he
    · split at he
      · rw [List.mem_singleton] at he
        subst he
        exact ⟨by show b.el.toNat < m; omega, hv.set ⟨by simp [spD], by simp [spD], by simp [spD]⟩⟩
      · cases he

theorem goSp_mono {n m : Nat} {b : Bk} (h : BkOk n m b) {v v' : List (Int × Int)} (hv : RSp n v) (hv' : RSp n v') (hle : LeRow v v') {j : Nat} {c : List (Int × Int)} (he : (j, c) ∈ goSp b v) : ∃ c', (j, c') ∈ goSp b v' ∧ LeRow c c' := by
  obtain ⟨_, h2, h3, h4⟩ := h
  have hl := hv.1
  unfold goSp at he ⊢
  split at he
  · rename_i h5
    rw [if_pos h5]
    split at he
    · cases he
    · rename_i h6
      rw [if_neg h6]
      rw [List.mem_singleton] at he
      injection he with e1 e2
      subst e1 e2
      exact ⟨v', by simp, hle⟩
  · rename_i h5
    rw [if_neg h5]
    have ht : 0 ≤ b.test ∧ b.test < n := by omega
    have hx := hle.2 b.test.toNat (by omega)
    have hs' := hv'.at_ (v := b.test.toNat) (by omega)
    unfold SpOk at hs'
    obtain ⟨x1, x2⟩ := hx
    rw [List.mem_append] at he
    rcases he with he | he
    · split at he
      · rename_i h6
        rw [List.mem_singleton] at he
        injection he with e1 e2
        subst e1 e2
        rw [if_pos (by omega)]
        exact ⟨_, List.mem_append_left _ (List.mem_singleton.2 rfl), hle.set ⟨by show max _ 1 ≤ max _ 1; omega, x2⟩ (by omega)⟩
      · cases he
    · split at he
      · rename_i h6
        rw [List.mem_singleton] at he
        injection he with e1 e2
        subst e1 e2
        have : (v'.getD b.test.toNat spD).1 = 0 := by omega
        rw [if_pos this]
        exact ⟨_, List.mem_append_right _ (List.mem_singleton.2 rfl), hle.set (.refl _) (by omega)⟩
      · cases he

theorem goSp_len (b : Bk) (v : List (Int × Int)) : (goSp b v).length ≤ 2 := by
  unfold goSp
  split
  · split <;> simp
  · rw [List.length_append]
    split <;> split <;> simp

/-! ### the flow -/

def wtSp (a : List (Int × Int)) : Nat := (a.map fun s => (255 + s.1 - s.2).toNat).sum

def spF (n : Nat) (p : List Bk) (hv : List (Int × Int)) : FlG (Int × Int) where
  m := p.length
  ok := RSp n
  le := LeRow
  jo := joRow
  wt := wtSp
  top := n * 255 + 1
  outs := fun i a => match p[i]? with
    | some b => goSp b (bhSp b.code a)
    | none => []
  st := hv

theorem RSp.tail {n : Nat} {x : Int × Int} {a : List (Int × Int)} (h : RSp (n + 1) (x :: a)) : SpOk x ∧ RSp n a := ⟨h.2 0 x rfl, by have := h.1; simpa using this, fun j s hs => h.2 (j + 1) s hs⟩

theorem LeRow.tail {x y : Int × Int} {a b : List (Int × Int)} (h : LeRow (x :: a) (y :: b)) : LeSp x y ∧ LeRow a b := ⟨h.2 0 (by simp), by have := h.1; simpa using this, fun v hv => by have := h.2 (v + 1) (by simpa using hv); simpa using this⟩

theorem wtSp_top : ∀ {n : Nat} {a : List (Int × Int)}, RSp n a → wtSp a ≤ n * 255
  | n, [], _ => Nat.zero_le _
  | 0, x :: a, h => by have := h.1; simp at this
  | n + 1, x :: a, h => by
    obtain ⟨h1, h2⟩ := h.tail
    have ih := wtSp_top h2
    unfold SpOk at h1
    have e : wtSp (x :: a) = (255 + x.1 - x.2).toNat + wtSp a := by simp [wtSp]
    rw [e]
    omega

theorem wtSp_le : ∀ {n : Nat} {a b : List (Int × Int)}, RSp n a → RSp n b → LeRow a b → wtSp b ≤ wtSp a ∧ (wtSp a ≤ wtSp b → a = b)
  | n, [], [], _, _, _ => ⟨Nat.le_refl _, fun _ => rfl⟩
  | n, [], y :: b, _, _, h => by have := h.1; simp at this
  | n, x :: a, [], _, _, h => by have := h.1; simp at this
  | 0, x :: a, y :: b, h, _, _ => by have := h.1; simp at this
  | n + 1, x :: a, y :: b, ha, hb, h => by
    obtain ⟨a1, a2⟩ := ha.tail
    obtain ⟨b1, b2⟩ := hb.tail
    obtain ⟨l1, l2⟩ := h.tail
    obtain ⟨i1, i2⟩ := wtSp_le a2 b2 l2
    have e : ∀ (z : Int × Int) (l : List (Int × Int)), wtSp (z :: l) = (255 + z.1 - z.2).toNat + wtSp l := fun z l => by simp [wtSp]
    rw [e, e]
    unfold SpOk at a1 b1
    unfold LeSp at l1
    refine ⟨by omega, fun hw => ?_⟩
    rw [i2 (by omega), show x = y from Prod.ext (by omega) (by omega)]

theorem spF_ok {n : Nat} {p : List Bk} {hv : List (Int × Int)} (hp : ckProg n p = 0) (hh : RSp n hv) : FlOk (spF n p hv) := by
  obtain ⟨b1, _, b3, _⟩ := ckProg_bd hp
  refine ⟨by show 0 < p.length; omega, fun a ha e => ?_, LeRow.refl, fun a b c => LeRow.trans, fun a b ha hb => ?_, fun a b c ha hb hc => ?_, fun a b ha hb h => (wtSp_le ha hb h).1, fun a b ha hb h => (wtSp_le ha hb h).2, fun a ha => Nat.lt_succ_of_le (wtSp_top ha), fun i a j c hi ha he => ?_, fun i a b j c hi ha hb hle he => ?_, hh⟩
  · have : RSp n a := ha
    rw [e] at this
    have := this.1
    simp at this
    omega
  · have ha : RSp n a := ha
    have hb : RSp n b := hb
    have hl : a.length = b.length := by rw [ha.1, hb.1]
    refine ⟨by show (joRow a b).length = n; rw [joRow_len hl, ha.1], fun j s hs => ?_⟩
    have hj : j < (joRow a b).length := (List.getElem?_eq_some_iff.1 hs).1
    rw [joRow_len hl] at hj
    have := joRow_at hl hj
    rw [List.getD_eq_getElem?_getD, show (joRow a b)[j]? = some s from hs] at this
    simp only [Option.getD_some] at this
    rw [this]
    have h1 := ha.at_ (v := j) (by rw [← ha.1]; exact hj)
    have h2 := hb.at_ (v := j) (by rw [← ha.1]; exact hj)
    unfold SpOk at *
    unfold joSp
    simp only []
    omega
  · have ha : RSp n a := ha
    have hb : RSp n b := hb
    have hl : a.length = b.length := by rw [ha.1, hb.1]
    constructor
    · rintro ⟨h1, h2⟩
      have h1' : (joRow a b).length = c.length := h1
      rw [joRow_len hl] at h1'
      have h3 : ∀ v, v < a.length → LeSp (joSp (a.getD v spD) (b.getD v spD)) (c.getD v spD) := fun v hv => by
        have := h2 v (by show v < (joRow a b).length; rw [joRow_len hl]; exact hv)
        rw [show (FlG.jo (spF n p _) a b) = joRow a b from rfl, joRow_at hl hv] at this
        exact this
      exact ⟨⟨h1', fun v hv => by have := h3 v hv; unfold LeSp joSp at *; simp only [] at this; omega⟩, ⟨by rw [← hl]; exact h1', fun v hv => by have := h3 v (by rw [hl]; exact hv); unfold LeSp joSp at *; simp only [] at this; omega⟩⟩
    · rintro ⟨⟨h1, h2⟩, ⟨h3, h4⟩⟩
      refine ⟨by show (joRow a b).length = c.length; rw [joRow_len hl]; exact h1, fun v hv => ?_⟩
      have hv' : v < a.length := by have : v < (joRow a b).length := hv; rwa [joRow_len hl] at this
      show LeSp ((joRow a b).getD v spD) _
      rw [joRow_at hl hv']
      have g1 := h2 v hv'
      have g2 := h4 v (by rw [← hl]; exact hv')
      unfold LeSp joSp at *
      simp only []
      omega
  · have hi' : i < p.length := hi
    have he' : (j, c) ∈ goSp p[i] (bhSp p[i].code a) := by
      have : (j, c) ∈ (match p[i]? with | some b => goSp b (bhSp b.code a) | none => []) := he
      rwa [List.getElem?_eq_getElem hi'] at this
    have hb := ckProg_at hp (List.getElem?_eq_getElem hi')
    exact goSp_ok hb (bhSp_ok hb.code ha) he'
  · have hi' : i < p.length := hi
    have he' : (j, c) ∈ goSp p[i] (bhSp p[i].code a) := by
      have : (j, c) ∈ (match p[i]? with | some b => goSp b (bhSp b.code a) | none => []) := he
      rwa [List.getElem?_eq_getElem hi'] at this
    have hbk := ckProg_at hp (List.getElem?_eq_getElem hi')
    obtain ⟨c', h1, h2⟩ := goSp_mono hbk (bhSp_ok hbk.code ha) (bhSp_ok hbk.code hb) (bhSp_mono hbk.code ha hb hle) he'
    refine ⟨c', ?_, h2⟩
    show (j, c') ∈ (match p[i]? with | some b => goSp b (bhSp b.code _) | none => [])
    rw [List.getElem?_eq_getElem hi']
    exact h1

/-! ### runs keep within -/

def InRow (v : List Int) (a : List (Int × Int)) : Prop := v.length = a.length ∧ ∀ k, k < a.length → InSp (v.getD k 0) (a.getD k spD)

theorem getD_setV (a : List Int) (t v : Nat) (x : Int) (ht : t < a.length) : (a.set t x).getD v 0 = if t = v then x else a.getD v 0 := by
  rw [List.getD_eq_getElem?_getD, List.getElem?_set, List.getD_eq_getElem?_getD]
  split
  · first | rfl | (rw [if_pos ht]; rfl)
  · rfl

theorem InRow.set {v : List Int} {a : List (Int × Int)} (h : InRow v a) {t : Nat} {x : Int} {s : Int × Int} (hx : InSp x s) (ht : t < a.length) : InRow (v.set t x) (a.set t s) := by
  refine ⟨by simp [h.1], fun k hk => ?_⟩
  rw [getD_setV _ _ _ _ (by rw [h.1]; exact ht), getD_setS _ _ _ _ ht]
  split
  · exact hx
  · exact h.2 k (by simpa using hk)

theorem InRow.le {v : List Int} {a b : List (Int × Int)} (h : InRow v a) (hle : LeRow a b) : InRow v b := ⟨h.1.trans hle.1, fun k hk => by
  have h1 := h.2 k (by rw [hle.1]; exact hk)
  have h2 := hle.2 k (by rw [hle.1]; exact hk)
  unfold InSp LeSp at *
  omega⟩

theorem mkSp_in {n : Nat} {s : St} {v : List Int} {a : List (Int × Int)} (hc : ckStep n n s.op s.to s.a s.b s.v = 0) (ha : RSp n a) (h : InRow v a) : InSp (stV v s v) (mkSp s a) := by
  obtain ⟨_, hcase⟩ := ckStep_cases hc
  have hl := ha.1
  rcases hcase with ⟨h1, h2, h3⟩ | ⟨h1, h2, h3⟩ | ⟨h1, h2, h3, h4, h5, h6⟩
  · rw [mkSp_num h1]; unfold stV; rw [if_pos h1]; exact ⟨Int.le_refl _, Int.le_refl _⟩
  · rw [mkSp_var h1]; unfold stV; rw [if_neg (by omega), if_pos h1]; exact h.2 _ (by omega)
  · rw [mkSp_op h1]
    unfold stV
    rw [if_neg (by omega), if_neg (by omega)]
    exact (doSp_is s.op (ha.at_ (by omega)) (ha.at_ (by omega))).all _ _ (h.2 _ (by omega)) (h.2 _ (by omega))

theorem bhSp_in {n : Nat} : ∀ {c : List St} {v : List Int} {a : List (Int × Int)}, ckStepsF n n c = 0 → RSp n a → InRow v a → InRow (doS c v) (bhSp c a)
  | [], _, _, _, _, h => h
  | s :: c, v, a, hc, ha, h => by
    obtain ⟨h0, h1⟩ := ckStepsF_cons hc
    obtain ⟨⟨t0, t1⟩, _⟩ := ckStep_cases h0
    have hl := ha.1
    rw [doS, bhSp]
    exact bhSp_in h1 (ha.set (mkSp_ok h0 ha)) (h.set (mkSp_in h0 ha h) (by omega))

theorem goSp_in {n m : Nat} {b : Bk} (h : BkOk n m b) {v : List Int} {a : List (Int × Int)} (ha : RSp n a) (hin : InRow v a) {j : Nat} (hj : goB b v = (j : Int)) : ∃ c, (j, c) ∈ goSp b a ∧ InRow v c := by
  obtain ⟨_, h2, h3, h4⟩ := h
  have hl := ha.1
  unfold goB at hj
  unfold goSp
  by_cases ht : b.test = -1
  · rw [if_neg (by omega)] at hj
    rw [if_pos ht, if_neg (by omega)]
    exact ⟨a, by rw [List.mem_singleton]; exact Prod.ext (by show j = b.th.toNat; omega) rfl, hin⟩
  · rw [if_neg ht]
    have ht2 : 0 ≤ b.test ∧ b.test < n := by omega
    have hx := hin.2 b.test.toNat (by omega)
    have hs := ha.at_ (v := b.test.toNat) (by omega)
    unfold InSp at hx
    unfold SpOk at hs
    have hset : ∀ s, InSp (v.getD b.test.toNat 0) s → InRow v (a.set b.test.toNat s) := fun s hs => by
      have := hin.set (t := b.test.toNat) hs (by omega)
      have e : v.set b.test.toNat (v.getD b.test.toNat 0) = v := by
        apply List.ext_getElem?
        intro i
        rw [List.getElem?_set]
        by_cases ei : b.test.toNat = i
        · subst ei
          have hvl : b.test.toNat < v.length := by rw [hin.1]; omega
          rw [if_pos rfl, if_pos hvl, List.getD_eq_getElem?_getD, List.getElem?_eq_getElem hvl]; rfl
        · rw [if_neg ei]
      rwa [e] at this
    by_cases hz : v.getD b.test.toNat 0 = 0
    · rw [if_pos ⟨ht2.1, hz⟩] at hj
      refine ⟨a.set b.test.toNat spD, List.mem_append_right _ ?_, hset _ (by rw [hz]; exact ⟨Int.le_refl _, Int.le_refl _⟩)⟩
      rw [if_pos (by omega), List.mem_singleton]
      exact Prod.ext (by show j = b.el.toNat; omega) rfl
    · rw [if_neg (by omega)] at hj
      refine ⟨a.set b.test.toNat (hiSp (a.getD b.test.toNat spD)), List.mem_append_left _ ?_, hset _ ⟨by show max _ 1 ≤ _; omega, by show _ ≤ _; simp only [hiSp]; omega⟩⟩
      rw [if_pos (by omega), List.mem_singleton]
      exact Prod.ext (by show j = b.th.toNat; omega) rfl

/-- in block i, with values within what is told -/
def AsIn (L : List (List (Int × Int))) (i : Nat) (v : List Int) : Prop := L.getD i [] ≠ [] ∧ InRow v (L.getD i [])

theorem AsIn.next {n : Nat} {p : List Bk} {hv : List (Int × Int)} {L : List (List (Int × Int))} (hp : ckProg n p = 0) (hs : SolG (spF n p hv) L) {i j : Nat} {b : Bk} {v : List Int} (hb : p[i]? = some b) (h : AsIn L i v) (hj : goB b (doS b.code v) = (j : Int)) : AsIn L j (doS b.code v) := by
  have hi : i < p.length := (List.getElem?_eq_some_iff.1 hb).1
  have hbk := ckProg_at hp hb
  have hok : RSp n (L.getD i []) := (hs.ok.2 i).resolve_left h.1
  obtain ⟨c, h1, h2⟩ := goSp_in hbk (bhSp_ok hbk.code hok) (bhSp_in hbk.code hok h.2) hj
  have hone : (j, c) ∈ oneG (spF n p hv) L i := by
    unfold oneG
    rw [if_neg h.1]
    show (j, c) ∈ (match p[i]? with | some b => goSp b (bhSp b.code _) | none => [])
    rw [hb]
    exact h1
  have hcok := goSp_ok hbk (bhSp_ok hbk.code hok) h1
  have hc0 : c ≠ [] := fun e => by
    have := hcok.2.1
    have hb1 := (ckProg_bd hp).1
    rw [e] at this
    simp at this
    omega
  rcases hs.next i hi _ hone with h3 | ⟨h3, h4⟩
  · exact absurd h3 hc0
  · exact ⟨h3, h2.le h4⟩

theorem AsIn.start {n : Nat} {p : List Bk} {hv : List (Int × Int)} {L : List (List (Int × Int))} (hp : ckProg n p = 0) (hh : RSp n hv) (hs : SolG (spF n p hv) L) {v : List Int} (h : InRow v hv) : AsIn L 0 v := by
  have hc0 : hv ≠ [] := fun e => by
    have := hh.1
    have hb1 := (ckProg_bd hp).1
    rw [e] at this
    simp at this
    omega
  rcases hs.start with h3 | ⟨h3, h4⟩
  · exact absurd h3 hc0
  · exact ⟨h3, h.le h4⟩

end Go.Proofs.Ytidjnmigbhaekaa
