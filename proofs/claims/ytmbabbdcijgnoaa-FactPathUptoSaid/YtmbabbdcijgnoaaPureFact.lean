/-
  Plain mathematics of data flow problems (I1, I2).
-/
import Derived.Test.YtmbabbdcijgnoaaTurned
namespace Go.Proofs.Ytmbabbdcijgnoaa
set_option linter.unusedSimpArgs false
set_option linter.unusedVariables false

/-- a data flow problem -/
structure Lw where
  bw : Bool
  al : Bool
  ma : List Nat
  en : List Nat
  st : Nat

/-- every word is of the facts -/
def wordsOk (l : List Nat) : Bool := l.all fun x => decide (x < 256)

/-- I1: the code of a problem -/
def ckLaw (nx : List (List Int)) (lw : Lw) : Int :=
  if ckWay nx = 0 then (if lw.ma.length = nx.length ∧ lw.en.length = nx.length then (if wordsOk lw.ma = true ∧ wordsOk lw.en = true ∧ lw.st < 256 then 0 else 4) else 3) else ckWay nx

theorem ckLaw_ok {nx : List (List Int)} {lw : Lw} (h : ckLaw nx lw = 0) : ckWay nx = 0 ∧ lw.ma.length = nx.length ∧ lw.en.length = nx.length ∧ (∀ x ∈ lw.ma, x < 256) ∧ (∀ x ∈ lw.en, x < 256) ∧ lw.st < 256 := by
  unfold ckLaw at h
  split at h
  · rename_i h1
    split at h
    · rename_i h2
      split at h
      · rename_i h3
        exact ⟨h1, h2.1, h2.2, fun x hx => by simpa using List.all_eq_true.1 h3.1 x hx, fun x hx => by simpa using List.all_eq_true.1 h3.2.1 x hx, h3.2.2⟩
      · omega
    · omega
  · rename_i h1; exact absurd h h1

/-- the graph along which facts go -/
def dirG (nx : List (List Int)) (lw : Lw) : List (List Int) := if lw.bw = true then trG nx else nx

/-- where they begin -/
def sts (nx : List (List Int)) (lw : Lw) : List Nat := if lw.bw = true then (List.range nx.length).filter (fun i => decide (sc nx i = [])) else [0]

def mkB (lw : Lw) (i f : Nat) : Bool := (lw.ma.getD i 0).testBit f

def enB (lw : Lw) (i f : Nat) : Bool := (lw.en.getD i 0).testBit f

/-- what becomes of a fact behind node i -/
def trB (lw : Lw) (f i : Nat) (b : Bool) : Bool := mkB lw i f || (b && !enB lw i f)

/-- along some path fact f comes to node i as b -/
inductive StP (nx : List (List Int)) (lw : Lw) (f : Nat) : Nat → Bool → Prop
  | here {i : Nat} : i ∈ sts nx lw → StP nx lw f i (lw.st.testBit f)
  | step {i j : Nat} {b : Bool} : StP nx lw f i b → j ∈ sc (dirG nx lw) i → StP nx lw f j (trB lw f i b)

/-- I2: fact f is told for node i -/
def SlP (nx : List (List Int)) (lw : Lw) (i f : Nat) : Prop := if lw.al = true then ¬ StP nx lw f i false else StP nx lw f i true

/-- a node with a fact, or without it -/
def cd (n i : Nat) (b : Bool) : Nat := if b = true then i else n + i

theorem cd_inj {n i j : Nat} {b c : Bool} (hi : i < n) (hj : j < n) (h : cd n i b = cd n j c) : i = j ∧ b = c := by
  unfold cd at h
  cases b <;> cases c <;> simp at h ⊢ <;> omega

theorem cd_lt {n i : Nat} {b : Bool} (hi : i < n) : cd n i b < 2 * n := by
  unfold cd
  split <;> omega

section
variable {nx : List (List Int)} {lw : Lw} {f : Nat}

theorem dirG_len : (dirG nx lw).length = nx.length := by
  unfold dirG
  split
  · exact trG_len nx
  · rfl

theorem dirG_lt (hc : ckWay nx = 0) {i j : Nat} (h : j ∈ sc (dirG nx lw) i) : j < nx.length := by
  unfold dirG at h
  split at h
  · have := (sc_tr hc).1 h
    rcases Nat.lt_or_ge j nx.length with hj | hj
    · exact hj
    · rw [sc_out hj] at this; cases this
  · exact sc_lt hc h

theorem dirG_row (hc : ckWay nx = 0) {i : Nat} {row : List Int} (h : (dirG nx lw)[i]? = some row) : row = ni (sc (dirG nx lw) i) := by
  have hi : i < nx.length := by rw [← dirG_len (nx := nx) (lw := lw)]; exact (List.getElem?_eq_some_iff.1 h).1
  rw [sc_at h]
  unfold dirG at h
  split at h
  · rw [trG_at hi] at h
    injection h with h
    rw [← h]
    simp [ni, List.map_map, Function.comp_def]
  · have := row_sc hc h
    rw [sc_at h] at this
    exact this

theorem sts_lt (hc : ckWay nx = 0) {i : Nat} (h : i ∈ sts nx lw) : i < nx.length := by
  unfold sts at h
  split at h
  · exact List.mem_range.1 (List.mem_filter.1 h).1
  · have := ckWay_bd hc
    simp at h
    omega

theorem sts_len (hc : ckWay nx = 0) : (sts nx lw).length ≤ nx.length := by
  unfold sts
  split
  · have := List.length_filter_le (fun i => decide (sc nx i = [])) (List.range nx.length)
    simpa using this
  · have := ckWay_bd hc
    simp
    omega

theorem StP.lt (hc : ckWay nx = 0) {i : Nat} {b : Bool} (h : StP nx lw f i b) : i < nx.length := by
  cases h with
  | here h => exact sts_lt hc h
  | step _ h => exact dirG_lt hc h

structure FIn (nx : List (List Int)) (lw : Lw) (f : Nat) (hs : List Nat) : Prop where
  nd : hs.Nodup
  ok : ∀ k ∈ hs, ∃ i b, i < nx.length ∧ k = cd nx.length i b ∧ StP nx lw f i b

theorem FIn.nil : FIn nx lw f [] := ⟨by simp, by simp⟩

theorem FIn.len {hs : List Nat} (h : FIn nx lw f hs) : hs.length ≤ 2 * nx.length := nodup_len h.nd fun x hx => by
  obtain ⟨i, b, hi, rfl, _⟩ := h.ok x hx
  exact cd_lt hi

theorem FIn.add (hc : ckWay nx = 0) {hs : List Nat} (h : FIn nx lw f hs) {i : Nat} {b : Bool} (hi : StP nx lw f i b) : FIn nx lw f (addH hs (cd nx.length i b)) := by
  unfold addH
  split
  · exact h
  · rename_i hn
    refine ⟨?_, fun k hk => ?_⟩
    · rw [List.nodup_append]
      exact ⟨h.nd, by simp, fun a ha b hb e => by simp at hb; subst hb e; exact hn ha⟩
    · rcases List.mem_append.1 hk with hk | hk
      · exact h.ok k hk
      · rw [List.mem_singleton.1 hk]
        exact ⟨i, b, hi.lt hc, rfl, hi⟩

theorem FIn.fold (hc : ckWay nx = 0) {b : Bool} : ∀ (xs hs : List Nat), (∀ x ∈ xs, StP nx lw f x b) → FIn nx lw f hs → FIn nx lw f ((xs.map fun j => cd nx.length j b).foldl addH hs)
  | [], hs, _, h => h
  | x :: xs, hs, hx, h => by
    rw [List.map_cons, List.foldl_cons]
    exact FIn.fold hc xs _ (fun y hy => hx y (List.mem_cons_of_mem _ hy)) (h.add hc (hx x (List.mem_cons_self ..)))

theorem foldH_sub {x : Nat} : ∀ (xs hs : List Nat), x ∈ hs → x ∈ xs.foldl addH hs
  | [], hs, h => h
  | y :: xs, hs, h => foldH_sub xs _ (addH_sub h)

theorem foldH_mem {x : Nat} : ∀ (xs hs : List Nat), x ∈ xs → x ∈ xs.foldl addH hs
  | y :: xs, hs, h => by
    rcases List.mem_cons.1 h with rfl | h
    · exact foldH_sub xs _ addH_mem
    · exact foldH_mem xs _ h

theorem foldH_get {k x : Nat} : ∀ (xs hs : List Nat), hs[k]? = some x → (xs.foldl addH hs)[k]? = some x
  | [], hs, h => h
  | y :: xs, hs, h => foldH_get xs _ (addH_get h)

/-- the first k codes are worked off -/
def FDn (nx : List (List Int)) (lw : Lw) (f : Nat) (hs : List Nat) (k : Nat) : Prop := ∀ p i b, p < k → hs[p]? = some (cd nx.length i b) → i < nx.length → ∀ j ∈ sc (dirG nx lw) i, cd nx.length j (trB lw f i b) ∈ hs

/-- all beginnings are there -/
def FSt (nx : List (List Int)) (lw : Lw) (f : Nat) (hs : List Nat) : Prop := ∀ i ∈ sts nx lw, cd nx.length i (lw.st.testBit f) ∈ hs

theorem FDn.step {hs : List Nat} {k i : Nat} {b : Bool} (h : FDn nx lw f hs k) (hk : hs[k]? = some (cd nx.length i b)) (hi : i < nx.length) :
    FDn nx lw f (((sc (dirG nx lw) i).map fun j => cd nx.length j (trB lw f i b)).foldl addH hs) (k + 1) := by
  intro p i' b' hp hg hi' j hj
  have hkl := (List.getElem?_eq_some_iff.1 hk).1
  have hpl : p < hs.length := by omega
  have hg2 := foldH_get ((sc (dirG nx lw) i).map fun j => cd nx.length j (trB lw f i b)) hs (List.getElem?_eq_getElem hpl)
  rw [hg] at hg2
  injection hg2 with hg2
  by_cases hpk : p = k
  · subst hpk
    rw [List.getElem?_eq_getElem hpl] at hk
    injection hk with hk
    rw [hk] at hg2
    obtain ⟨rfl, rfl⟩ := cd_inj hi' hi hg2
    exact foldH_mem _ _ (List.mem_map.2 ⟨j, hj, rfl⟩)
  · refine foldH_sub _ _ (h p i' b' (by omega) ?_ hi' j hj)
    rw [List.getElem?_eq_getElem hpl, hg2]

theorem FSt.sub {hs : List Nat} (h : FSt nx lw f hs) (xs : List Nat) : FSt nx lw f (xs.foldl addH hs) := fun i hi => foldH_sub _ _ (h i hi)

theorem FIn.all (hc : ckWay nx = 0) {hs : List Nat} (h : FIn nx lw f hs) (hd : FDn nx lw f hs hs.length) (hs0 : FSt nx lw f hs) {i : Nat} {b : Bool} (hi : i < nx.length) : cd nx.length i b ∈ hs ↔ StP nx lw f i b := by
  constructor
  · intro hm
    obtain ⟨i', b', hi', he, hp⟩ := h.ok _ hm
    obtain ⟨rfl, rfl⟩ := cd_inj hi hi' he
    exact hp
  · intro hp
    clear hi
    induction hp with
    | here hi => exact hs0 _ hi
    | @step i j b hp hj ih =>
      obtain ⟨p, hp2, e⟩ := List.getElem_of_mem ih
      exact hd p i b hp2 (by rw [List.getElem?_eq_getElem hp2, e]) (hp.lt hc) j hj

end

/-- a word by its bits below k -/
def PrW (P : Nat → Prop) (k W : Nat) : Prop := W < 2 ^ k ∧ ∀ j, W.testBit j = true ↔ j < k ∧ P j

theorem PrW.zero {P : Nat → Prop} : PrW P 0 0 := ⟨by simp, fun j => by simp⟩

theorem PrW.yes {P : Nat → Prop} {k W : Nat} (h : PrW P k W) (hp : P k) : PrW P (k + 1) (W ||| 2 ^ k) := ⟨Nat.or_lt_two_pow (Nat.lt_of_lt_of_le h.1 (Nat.pow_le_pow_right (by omega) (by omega))) (Nat.pow_lt_pow_right (by omega) (by omega)), fun j => by
  rw [Nat.testBit_or, Bool.or_eq_true, h.2, Nat.testBit_two_pow, decide_eq_true_eq]
  constructor
  · rintro (⟨h1, h2⟩ | h1)
    · exact ⟨by omega, h2⟩
    · subst h1; exact ⟨by omega, hp⟩
  · rintro ⟨h1, h2⟩
    by_cases e : j < k
    · exact .inl ⟨e, h2⟩
    · exact .inr (by omega)⟩

theorem PrW.no {P : Nat → Prop} {k W : Nat} (h : PrW P k W) (hp : ¬ P k) : PrW P (k + 1) W := ⟨Nat.lt_of_lt_of_le h.1 (Nat.pow_le_pow_right (by omega) (by omega)), fun j => by
  rw [h.2]
  constructor
  · rintro ⟨h1, h2⟩; exact ⟨by omega, h2⟩
  · rintro ⟨h1, h2⟩
    by_cases e : j = k
    · subst e; exact absurd h2 hp
    · exact ⟨by omega, h2⟩⟩

/-- I2: the facts that are told -/
structure Slv (nx : List (List Int)) (lw : Lw) (ws : List Nat) : Prop where
  len : ws.length = nx.length
  mem : ∀ (i W : Nat), ws[i]? = some W → PrW (SlP nx lw i) 8 W

theorem Slv.one {nx : List (List Int)} {lw : Lw} {ws ws' : List Nat} (h : Slv nx lw ws) (h' : Slv nx lw ws') : ws = ws' := by
  apply List.ext_getElem?
  intro i
  rcases Nat.lt_or_ge i nx.length with hi | hi
  · have h1 := List.getElem?_eq_getElem (show i < ws.length by rw [h.len]; exact hi)
    have h2 := List.getElem?_eq_getElem (show i < ws'.length by rw [h'.len]; exact hi)
    rw [h1, h2]
    congr 1
    exact word_ext fun j => by rw [(h.mem i _ h1).2, (h'.mem i _ h2).2]
  · rw [List.getElem?_eq_none (by rw [h.len]; exact hi), List.getElem?_eq_none (by rw [h'.len]; exact hi)]

end Go.Proofs.Ytmbabbdcijgnoaa
