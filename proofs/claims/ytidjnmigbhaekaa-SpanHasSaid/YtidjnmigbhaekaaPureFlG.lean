/-
  Plain mathematics of rows that flow along edges (R2): the least solution, all anew each turn, or in place: no program's text.
-/
import Derived.Test.YtidjnmigbhaekaaMPure
namespace Go.Proofs.Ytidjnmigbhaekaa
set_option linter.unusedSimpArgs false
set_option linter.unusedVariables false

/-- a flow: blocks; rows, the empty one standing for: one does not come there; an order; what is put together; what a block hands on -/
structure FlG (σ : Type) where
  m : Nat
  ok : List σ → Prop
  le : List σ → List σ → Prop
  jo : List σ → List σ → List σ
  wt : List σ → Nat
  top : Nat
  outs : Nat → List σ → List (Nat × List σ)
  st : List σ

structure FlOk {σ : Type} (F : FlG σ) : Prop where
  pos : 0 < F.m
  ne : ∀ a, F.ok a → a ≠ []
  refl : ∀ a, F.le a a
  trans : ∀ a b c, F.le a b → F.le b c → F.le a c
  jok : ∀ a b, F.ok a → F.ok b → F.ok (F.jo a b)
  jlub : ∀ a b c, F.ok a → F.ok b → F.ok c → (F.le (F.jo a b) c ↔ F.le a c ∧ F.le b c)
  wle : ∀ a b, F.ok a → F.ok b → F.le a b → F.wt b ≤ F.wt a
  weq : ∀ a b, F.ok a → F.ok b → F.le a b → F.wt a ≤ F.wt b → a = b
  wtop : ∀ a, F.ok a → F.wt a < F.top
  out : ∀ i a j c, i < F.m → F.ok a → (j, c) ∈ F.outs i a → j < F.m ∧ F.ok c
  mono : ∀ i a b j c, i < F.m → F.ok a → F.ok b → F.le a b → (j, c) ∈ F.outs i a → ∃ c', (j, c') ∈ F.outs i b ∧ F.le c c'
  sok : F.ok F.st

/-- of rows -/
def LeG {σ : Type} (F : FlG σ) (a b : List σ) : Prop := a = [] ∨ (b ≠ [] ∧ F.le a b)

def RowOk {σ : Type} (F : FlG σ) (a : List σ) : Prop := a = [] ∨ F.ok a

def joG {σ : Type} [DecidableEq σ] (F : FlG σ) (r c : List σ) : List σ := if r = [] then c else F.jo r c

/-- what is handed on, put to a block -/
def ptG {σ : Type} [DecidableEq σ] (F : FlG σ) (Y : List (List σ)) (e : Nat × List σ) : List (List σ) := Y.set e.1 (joG F (Y.getD e.1 []) e.2)

def oneG {σ : Type} [DecidableEq σ] (F : FlG σ) (X : List (List σ)) (k : Nat) : List (Nat × List σ) := if X.getD k [] = [] then [] else F.outs k (X.getD k [])

/-- all anew: the first k blocks have handed on -/
def stpN {σ : Type} [DecidableEq σ] (F : FlG σ) (X : List (List σ)) : Nat → List (List σ)
  | 0 => (List.replicate F.m []).set 0 F.st
  | k + 1 => (oneG F X k).foldl (ptG F) (stpN F X k)

def MatOk {σ : Type} (F : FlG σ) (Y : List (List σ)) : Prop := Y.length = F.m ∧ ∀ i, RowOk F (Y.getD i [])

def LeMG {σ : Type} (F : FlG σ) (X Y : List (List σ)) : Prop := ∀ i, LeG F (X.getD i []) (Y.getD i [])

/-- what satisfies the rules -/
structure SolG {σ : Type} [DecidableEq σ] (F : FlG σ) (M : List (List σ)) : Prop where
  ok : MatOk F M
  start : LeG F F.st (M.getD 0 [])
  next : ∀ i, i < F.m → ∀ e ∈ oneG F M i, LeG F e.2 (M.getD e.1 [])

structure LeastG {σ : Type} [DecidableEq σ] (F : FlG σ) (L : List (List σ)) : Prop where
  sol : SolG F L
  low : ∀ M, SolG F M → LeMG F L M

section
variable {σ : Type} {F : FlG σ}

theorem LeG.refl (h : FlOk F) (a : List σ) : LeG F a a := by
  by_cases e : a = []
  · exact .inl e
  · exact .inr ⟨e, h.refl a⟩

theorem LeG.trans (h : FlOk F) {a b c : List σ} (h1 : LeG F a b) (h2 : LeG F b c) : LeG F a c := by
  rcases h1 with h1 | ⟨h1, h3⟩
  · exact .inl h1
  · rcases h2 with h2 | ⟨h2, h4⟩
    · exact absurd h2 h1
    · exact .inr ⟨h2, h.trans _ _ _ h3 h4⟩

theorem LeG.anti (h : FlOk F) {a b : List σ} (ha : RowOk F a) (hb : RowOk F b) (h1 : LeG F a b) (h2 : LeG F b a) : a = b := by
  rcases h1 with h1 | ⟨h1, h3⟩
  · subst h1
    rcases h2 with h2 | ⟨h2, _⟩
    · exact h2.symm
    · exact absurd rfl h2
  · rcases h2 with h2 | ⟨h2, h4⟩
    · exact absurd h2 h1
    · have oa := ha.resolve_left h2
      have ob := hb.resolve_left h1
      exact h.weq a b oa ob h3 (h.wle b a ob oa h4)

theorem getD_setG (Y : List (List σ)) (j i : Nat) (r : List σ) (hj : j < Y.length) : (Y.set j r).getD i [] = if i = j then r else Y.getD i [] := by
  rw [List.getD_eq_getElem?_getD, List.getElem?_set, List.getD_eq_getElem?_getD]
  by_cases e : j = i
  · subst e
    rw [if_pos rfl, if_pos hj, if_pos rfl]
    rfl
  · rw [if_neg e, if_neg (fun h => e h.symm)]

theorem rep_getD (m i : Nat) : (List.replicate m ([] : List σ)).getD i [] = [] := by
  rw [List.getD_eq_getElem?_getD, List.getElem?_replicate]
  split <;> rfl

theorem LeMG.refl (h : FlOk F) (X : List (List σ)) : LeMG F X X := fun _ => .refl h _

theorem LeMG.trans (h : FlOk F) {X Y Z : List (List σ)} (h1 : LeMG F X Y) (h2 : LeMG F Y Z) : LeMG F X Z := fun i => (h1 i).trans h (h2 i)

end

section
variable {σ : Type} [DecidableEq σ] {F : FlG σ}

theorem joG_ok (h : FlOk F) {r c : List σ} (hr : RowOk F r) (hc : F.ok c) : F.ok (joG F r c) := by
  unfold joG
  split
  · exact hc
  · rename_i hne; exact h.jok _ _ (hr.resolve_left hne) hc

theorem joG_le (h : FlOk F) {r c z : List σ} (hr : RowOk F r) (hc : F.ok c) (hz : RowOk F z) : LeG F (joG F r c) z ↔ LeG F r z ∧ LeG F c z := by
  have hcn := h.ne c hc
  unfold joG
  split
  · rename_i e
    exact ⟨fun h => ⟨.inl e, h⟩, fun h => h.2⟩
  · rename_i hne
    have hro := hr.resolve_left hne
    have hjn := h.ne _ (h.jok _ _ hro hc)
    unfold LeG
    constructor
    · rintro (h1 | ⟨h1, h2⟩)
      · exact absurd h1 hjn
      · have := (h.jlub r c z hro hc (hz.resolve_left h1)).1 h2
        exact ⟨.inr ⟨h1, this.1⟩, .inr ⟨h1, this.2⟩⟩
    · rintro ⟨h1, h2⟩
      obtain ⟨h3, h4⟩ := h1.resolve_left hne
      obtain ⟨_, h5⟩ := h2.resolve_left hcn
      exact .inr ⟨h3, (h.jlub r c z hro hc (hz.resolve_left h3)).2 ⟨h4, h5⟩⟩

theorem ptG_ok (h : FlOk F) {Y : List (List σ)} {e : Nat × List σ} (hY : MatOk F Y) (hj : e.1 < F.m) (hc : F.ok e.2) : MatOk F (ptG F Y e) := by
  refine ⟨by unfold ptG; rw [List.length_set, hY.1], fun i => ?_⟩
  unfold ptG
  rw [getD_setG _ _ _ _ (by rw [hY.1]; exact hj)]
  split
  · exact .inr (joG_ok h (hY.2 _) hc)
  · exact hY.2 i

theorem ptG_le (h : FlOk F) {Y Z : List (List σ)} {e : Nat × List σ} (hY : MatOk F Y) (hZ : MatOk F Z) (hj : e.1 < F.m) (hc : F.ok e.2) : LeMG F (ptG F Y e) Z ↔ LeMG F Y Z ∧ LeG F e.2 (Z.getD e.1 []) := by
  have hat : ∀ i, (ptG F Y e).getD i [] = if i = e.1 then joG F (Y.getD e.1 []) e.2 else Y.getD i [] := fun i => getD_setG _ _ _ _ (by rw [hY.1]; exact hj)
  have key := joG_le h (hY.2 e.1) hc (hZ.2 e.1)
  constructor
  · intro h1
    have h2 := h1 e.1
    rw [hat, if_pos rfl, key] at h2
    refine ⟨fun i => ?_, h2.2⟩
    by_cases he : i = e.1
    · rw [he]; exact h2.1
    · have := h1 i
      rwa [hat, if_neg he] at this
  · rintro ⟨h1, h2⟩ i
    rw [hat]
    split
    · rename_i he
      rw [he, key]
      exact ⟨h1 e.1, h2⟩
    · exact h1 i

theorem foldG (h : FlOk F) : ∀ (l : List (Nat × List σ)) {Y : List (List σ)}, MatOk F Y → (∀ e ∈ l, e.1 < F.m ∧ F.ok e.2) → MatOk F (l.foldl (ptG F) Y) ∧ ∀ Z, MatOk F Z → (LeMG F (l.foldl (ptG F) Y) Z ↔ LeMG F Y Z ∧ ∀ e ∈ l, LeG F e.2 (Z.getD e.1 []))
  | [], Y, hY, _ => ⟨hY, fun Z _ => by simp⟩
  | e :: l, Y, hY, hl => by
    have he := hl e (by simp)
    have hok := ptG_ok h hY he.1 he.2
    obtain ⟨h1, h2⟩ := foldG h l hok fun x hx => hl x (List.mem_cons_of_mem _ hx)
    refine ⟨h1, fun Z hZ => ?_⟩
    rw [List.foldl_cons, h2 Z hZ, ptG_le h hY hZ he.1 he.2]
    constructor
    · rintro ⟨⟨h3, h4⟩, h5⟩
      refine ⟨h3, fun x hx => ?_⟩
      rcases List.mem_cons.1 hx with rfl | hx
      · exact h4
      · exact h5 x hx
    · rintro ⟨h3, h4⟩
      exact ⟨⟨h3, h4 e (by simp)⟩, fun x hx => h4 x (List.mem_cons_of_mem _ hx)⟩

theorem one_ok (h : FlOk F) {X : List (List σ)} (hX : MatOk F X) {i : Nat} (hi : i < F.m) : ∀ e ∈ oneG F X i, e.1 < F.m ∧ F.ok e.2 := by
  intro e he
  unfold oneG at he
  split at he
  · cases he
  · rename_i hne
    exact h.out i _ e.1 e.2 hi ((hX.2 i).resolve_left hne) he

theorem one_mono (h : FlOk F) {X Y : List (List σ)} (hX : MatOk F X) (hY : MatOk F Y) (hle : LeMG F X Y) {i : Nat} (hi : i < F.m) {e : Nat × List σ} (he : e ∈ oneG F X i) : ∃ c', (e.1, c') ∈ oneG F Y i ∧ LeG F e.2 c' := by
  have heo := one_ok h hX hi e he
  unfold oneG at he ⊢
  split at he
  · cases he
  · rename_i hne
    obtain ⟨h1, h2⟩ := (hle i).resolve_left hne
    rw [if_neg h1]
    obtain ⟨c', h3, h4⟩ := h.mono i _ _ e.1 e.2 hi ((hX.2 i).resolve_left hne) ((hY.2 i).resolve_left h1) h2 he
    exact ⟨c', h3, .inr ⟨h.ne _ (h.out i _ e.1 c' hi ((hY.2 i).resolve_left h1) h3).2, h4⟩⟩

theorem stpG (h : FlOk F) {X : List (List σ)} (hX : MatOk F X) : ∀ {k : Nat}, k ≤ F.m → MatOk F (stpN F X k) ∧ ∀ Z, MatOk F Z → (LeMG F (stpN F X k) Z ↔ LeG F F.st (Z.getD 0 []) ∧ ∀ i, i < k → ∀ e ∈ oneG F X i, LeG F e.2 (Z.getD e.1 []))
  | 0, _ => by
    have hat : ∀ i, (stpN F X 0).getD i [] = if i = 0 then F.st else [] := fun i => by
      show ((List.replicate F.m ([] : List σ)).set 0 F.st).getD i [] = _
      rw [getD_setG _ _ _ _ (by simpa using h.pos), rep_getD]
    refine ⟨⟨by simp [stpN], fun i => ?_⟩, fun Z hZ => ?_⟩
    · rw [hat]
      split
      · exact .inr h.sok
      · exact .inl rfl
    · constructor
      · intro h1
        have := h1 0
        rw [hat, if_pos rfl] at this
        exact ⟨this, fun i hi => by omega⟩
      · rintro ⟨h1, _⟩ i
        rw [hat]
        split
        · rename_i e; rw [e]; exact h1
        · exact .inl rfl
  | k + 1, hk => by
    obtain ⟨h1, h2⟩ := stpG h hX (k := k) (by omega)
    obtain ⟨h3, h4⟩ := foldG h (oneG F X k) h1 (one_ok h hX (by omega))
    refine ⟨h3, fun Z hZ => ?_⟩
    show LeMG F ((oneG F X k).foldl (ptG F) (stpN F X k)) Z ↔ _
    rw [h4 Z hZ, h2 Z hZ]
    constructor
    · rintro ⟨⟨h5, h6⟩, h7⟩
      refine ⟨h5, fun i hi e he => ?_⟩
      by_cases hik : i = k
      · subst hik; exact h7 e he
      · exact h6 i (by omega) e he
    · rintro ⟨h5, h6⟩
      exact ⟨⟨h5, fun i hi e he => h6 i (by omega) e he⟩, fun e he => h6 k (by omega) e he⟩

theorem LeastG.one (h : FlOk F) {L M : List (List σ)} (h1 : LeastG F L) (h2 : LeastG F M) : L = M := by
  apply List.ext_getElem (by rw [h1.sol.ok.1, h2.sol.ok.1])
  intro i h3 h4
  have := LeG.anti h (h1.sol.ok.2 i) (h2.sol.ok.2 i) (h1.low M h2.sol i) (h2.low L h1.sol i)
  rw [List.getD_eq_getElem?_getD, List.getElem?_eq_getElem h3, List.getD_eq_getElem?_getD, List.getElem?_eq_getElem h4] at this
  exact this

/-! ### all anew -/

structure KlG (F : FlG σ) (X : List (List σ)) : Prop where
  ok : MatOk F X
  asc : LeMG F X (stpN F X F.m)
  low : ∀ M, SolG F M → LeMG F X M

theorem KlG.start (h : FlOk F) : KlG F (List.replicate F.m []) := by
  refine ⟨⟨by simp, fun i => .inl (rep_getD _ _)⟩, fun i => ?_, fun M _ i => ?_⟩
  all_goals
    rw [rep_getD]
    exact .inl rfl

theorem stp_mono (h : FlOk F) {X Y : List (List σ)} (hX : MatOk F X) (hY : MatOk F Y) (hle : LeMG F X Y) : LeMG F (stpN F X F.m) (stpN F Y F.m) := by
  obtain ⟨h1, h2⟩ := stpG h hY (Nat.le_refl F.m)
  obtain ⟨h3, h4⟩ := (h2 _ h1).1 (.refl h _)
  rw [(stpG h hX (Nat.le_refl F.m)).2 _ h1]
  refine ⟨h3, fun i hi e he => ?_⟩
  obtain ⟨c', h5, h6⟩ := one_mono h hX hY hle hi he
  exact h6.trans h (h4 i hi _ h5)

theorem KlG.next (h : FlOk F) {X : List (List σ)} (hk : KlG F X) : KlG F (stpN F X F.m) := by
  obtain ⟨h1, h2⟩ := stpG h hk.ok (Nat.le_refl F.m)
  refine ⟨h1, stp_mono h hk.ok h1 hk.asc, fun M hM => ?_⟩
  rw [h2 M hM.ok]
  refine ⟨hM.start, fun i hi e he => ?_⟩
  obtain ⟨c', h5, h6⟩ := one_mono h hk.ok hM.ok (hk.low M hM) hi he
  exact h6.trans h (hM.next i hi _ h5)

theorem KlG.done (h : FlOk F) {X : List (List σ)} (hk : KlG F X) (he : X = stpN F X F.m) : LeastG F X := by
  obtain ⟨h1, h2⟩ := stpG h hk.ok (Nat.le_refl F.m)
  rw [← he] at h1 h2
  obtain ⟨h3, h4⟩ := (h2 X h1).1 (.refl h _)
  exact ⟨⟨h1, h3, h4⟩, hk.low⟩

/-! ### weights -/

def wtG (F : FlG σ) (r : List σ) : Nat := if r = [] then F.top else F.wt r

def wtMG (F : FlG σ) (X : List (List σ)) : Nat := (X.map (wtG F)).sum

theorem wtG_le (h : FlOk F) {x y : List σ} (hx : RowOk F x) (hy : RowOk F y) (hle : LeG F x y) : wtG F y ≤ wtG F x ∧ (wtG F x ≤ wtG F y → x = y) := by
  unfold wtG
  by_cases ex : x = []
  · rw [if_pos ex]
    by_cases ey : y = []
    · rw [if_pos ey]
      exact ⟨Nat.le_refl _, fun _ => ex.trans ey.symm⟩
    · rw [if_neg ey]
      have := h.wtop y (hy.resolve_left ey)
      exact ⟨by omega, fun h => by omega⟩
  · obtain ⟨ey, h1⟩ := hle.resolve_left ex
    rw [if_neg ex, if_neg ey]
    exact ⟨h.wle _ _ (hx.resolve_left ex) (hy.resolve_left ey) h1, h.weq _ _ (hx.resolve_left ex) (hy.resolve_left ey) h1⟩

theorem wtMG_le (h : FlOk F) : ∀ {X Y : List (List σ)}, X.length = Y.length → (∀ i, RowOk F (X.getD i [])) → (∀ i, RowOk F (Y.getD i [])) → LeMG F X Y → wtMG F Y ≤ wtMG F X ∧ (wtMG F X ≤ wtMG F Y → X = Y)
  | [], Y, hl, _, _, _ => by
    have : Y = [] := List.eq_nil_of_length_eq_zero hl.symm
    subst this
    exact ⟨Nat.le_refl _, fun _ => rfl⟩
  | x :: X, [], hl, _, _, _ => by simp at hl
  | x :: X, y :: Y, hl, hx, hy, hle => by
    obtain ⟨i1, i2⟩ := wtMG_le h (X := X) (Y := Y) (by simpa using hl) (fun i => by have := hx (i + 1); simpa using this) (fun i => by have := hy (i + 1); simpa using this) (fun i => by have := hle (i + 1); simpa using this)
    obtain ⟨j1, j2⟩ := wtG_le h (x := x) (y := y) (by have := hx 0; simpa using this) (by have := hy 0; simpa using this) (by have := hle 0; simpa using this)
    have e : ∀ (z : List σ) (l : List (List σ)), wtMG F (z :: l) = wtG F z + wtMG F l := fun z l => by simp [wtMG]
    rw [e, e]
    exact ⟨by omega, fun h => by rw [i2 (by omega), j2 (by omega)]⟩

theorem KlG.less (h : FlOk F) {X : List (List σ)} (hk : KlG F X) (hne : X ≠ stpN F X F.m) : wtMG F (stpN F X F.m) < wtMG F X := by
  have h1 := (stpG h hk.ok (Nat.le_refl F.m)).1
  obtain ⟨h2, h3⟩ := wtMG_le h (by rw [hk.ok.1, h1.1]) hk.ok.2 h1.2 hk.asc
  rcases Nat.lt_or_ge (wtMG F (stpN F X F.m)) (wtMG F X) with h4 | h4
  · exact h4
  · exact absurd (h3 h4) hne

/-! ### in place -/

structure CiG (F : FlG σ) (X : List (List σ)) : Prop where
  ok : MatOk F X
  start : LeG F F.st (X.getD 0 [])
  low : ∀ M, SolG F M → LeMG F X M

/-- what every solution tells no less than, of block j -/
def FwG (F : FlG σ) (e : Nat × List σ) : Prop := ∀ M, SolG F M → LeG F e.2 (M.getD e.1 [])

theorem CiG.begin (h : FlOk F) : CiG F ((List.replicate F.m []).set 0 F.st) := by
  have hok := (stpG h (X := List.replicate F.m []) ⟨by simp, fun i => .inl (rep_getD _ _)⟩ (Nat.zero_le F.m))
  refine ⟨hok.1, ?_, fun M hM => (hok.2 M hM.ok).2 ⟨hM.start, fun i hi => by omega⟩⟩
  rw [getD_setG _ _ _ _ (by simpa using h.pos), if_pos rfl]
  exact .refl h _

theorem CiG.fw (h : FlOk F) {X : List (List σ)} (hc : CiG F X) {i : Nat} (hi : i < F.m) {e : Nat × List σ} (he : e ∈ oneG F X i) : FwG F e := fun M hM => by
  obtain ⟨c', h5, h6⟩ := one_mono h hc.ok hM.ok (hc.low M hM) hi he
  exact h6.trans h (hM.next i hi _ h5)

theorem CiG.put (h : FlOk F) {X : List (List σ)} (hc : CiG F X) {e : Nat × List σ} (hj : e.1 < F.m) (ho : F.ok e.2) (hf : FwG F e) : CiG F (ptG F X e) ∧ LeMG F X (ptG F X e) ∧ LeG F e.2 ((ptG F X e).getD e.1 []) := by
  have hok := ptG_ok h hc.ok hj ho
  obtain ⟨h1, h2⟩ := (ptG_le h hc.ok hok hj ho).1 (.refl h _)
  exact ⟨⟨hok, hc.start.trans h (h1 0), fun M hM => (ptG_le h hc.ok hM.ok hj ho).2 ⟨hc.low M hM, hf M hM⟩⟩, h1, h2⟩

/-- a turn on the way: X0 at its beginning, i blocks done -/
structure TnG (F : FlG σ) (X0 X : List (List σ)) (ch : Bool) (i : Nat) : Prop where
  ci : CiG F X
  wt : wtMG F X ≤ wtMG F X0
  yes : ch = true → wtMG F X < wtMG F X0
  no : ch = false → X = X0 ∧ ∀ i', i' < i → ∀ e ∈ oneG F X0 i', LeG F e.2 (X0.getD e.1 [])

theorem TnG.start {X : List (List σ)} (h : CiG F X) : TnG F X X false 0 := ⟨h, Nat.le_refl _, fun h => Bool.noConfusion h, fun _ => ⟨rfl, fun i' hi => by omega⟩⟩

/-- within a block: m of what it hands on -/
structure TwG (F : FlG σ) (X0 X : List (List σ)) (ch : Bool) (i : Nat) (cs : List (Nat × List σ)) (m : Nat) : Prop where
  tn : TnG F X0 X ch i
  fw : ∀ e ∈ cs, e.1 < F.m ∧ F.ok e.2 ∧ FwG F e
  of : ch = false → cs = oneG F X0 i
  done : ch = false → ∀ (q : Nat) (e : Nat × List σ), q < m → cs[q]? = some e → LeG F e.2 (X0.getD e.1 [])

theorem TwG.start (h : FlOk F) {X0 X : List (List σ)} {ch : Bool} {i : Nat} (ht : TnG F X0 X ch i) (hi : i < F.m) : TwG F X0 X ch i (oneG F X i) 0 :=
  ⟨ht, fun e he => ⟨(one_ok h ht.ci.ok hi e he).1, (one_ok h ht.ci.ok hi e he).2, ht.ci.fw h hi he⟩, fun hc => by rw [(ht.no hc).1], fun _ q e hq => by omega⟩

theorem TwG.way (h : FlOk F) {X0 X : List (List σ)} {ch b : Bool} {i m : Nat} {cs : List (Nat × List σ)} {e : Nat × List σ} {q : List σ} (ht : TwG F X0 X ch i cs m) (he : cs[m]? = some e) (hq : joG F (X.getD e.1 []) e.2 = q) (hb : b = true ↔ q ≠ X.getD e.1 []) : TwG F X0 (X.set e.1 q) (ch || b) i cs (m + 1) := by
  obtain ⟨h1, h2, h3⟩ := ht.fw e (List.mem_of_getElem? he)
  obtain ⟨h4, h5, h6⟩ := ht.tn.ci.put h h1 h2 h3
  have hpt : ptG F X e = X.set e.1 q := by unfold ptG; rw [hq]
  obtain ⟨h7, h8⟩ := wtMG_le h (by rw [ht.tn.ci.ok.1, h4.ok.1]) ht.tn.ci.ok.2 h4.ok.2 h5
  have hwt := ht.tn.wt
  have hXl : e.1 < X.length := by rw [ht.tn.ci.ok.1]; exact h1
  have hsame : (ch || b) = false → ch = false ∧ ptG F X e = X := fun hc => by
    rw [Bool.or_eq_false_iff] at hc
    refine ⟨hc.1, ?_⟩
    have : q = X.getD e.1 [] := Classical.byContradiction fun hn => by rw [hb.2 hn] at hc; exact absurd hc.2 (by simp)
    rw [hpt, this]
    apply List.ext_getElem?
    intro u
    rw [List.getElem?_set]
    split
    · rename_i eu
      subst eu
      rw [List.getD_eq_getElem?_getD, List.getElem?_eq_getElem hXl]
      first | rfl | (rw [if_pos hXl]; rfl)
    · rfl
  rw [← hpt]
  refine ⟨⟨h4, by omega, fun hc => ?_, fun hc => ?_⟩, ht.fw, fun hc => ht.of (hsame hc).1, fun hc q' e' hq' he' => ?_⟩
  · rw [Bool.or_eq_true] at hc
    rcases hc with hc | hc
    · have := ht.tn.yes hc; omega
    · rcases Nat.lt_or_ge (wtMG F (ptG F X e)) (wtMG F X) with h9 | h9
      · omega
      · have h10 := h8 h9
        have h11 : (ptG F X e).getD e.1 [] = q := by rw [hpt, getD_setG _ _ _ _ hXl, if_pos rfl]
        rw [← h10] at h11
        exact absurd h11.symm (hb.1 hc)
  · obtain ⟨c1, c2⟩ := hsame hc
    rw [c2]
    exact ht.tn.no c1
  · obtain ⟨c1, c2⟩ := hsame hc
    by_cases eq : q' = m
    · subst eq
      rw [he] at he'
      injection he' with he'
      subst he'
      rw [c2, (ht.tn.no c1).1] at h6
      exact h6
    · exact ht.done c1 q' e' (by omega) he'

theorem TwG.block {X0 X : List (List σ)} {ch : Bool} {i m : Nat} {cs : List (Nat × List σ)} (h : TwG F X0 X ch i cs m) (hm : cs.length ≤ m) : TnG F X0 X ch (i + 1) := by
  refine ⟨h.tn.ci, h.tn.wt, h.tn.yes, fun hc => ⟨(h.tn.no hc).1, fun i' hi e he => ?_⟩⟩
  by_cases ei : i' = i
  · subst ei
    rw [← h.of hc] at he
    obtain ⟨q, hq, hqe⟩ := List.getElem_of_mem he
    exact h.done hc q e (by omega) (by rw [List.getElem?_eq_getElem hq, hqe])
  · exact (h.tn.no hc).2 i' (by omega) e he

/-- what a turn answers -/
structure TurnG (F : FlG σ) (X0 X : List (List σ)) (ch : Bool) : Prop where
  ci : CiG F X
  yes : ch = true → wtMG F X < wtMG F X0
  no : ch = false → LeastG F X

theorem TnG.turn {X0 X : List (List σ)} {ch : Bool} {i : Nat} (h : TnG F X0 X ch i) (hi : F.m ≤ i) : TurnG F X0 X ch := by
  refine ⟨h.ci, h.yes, fun hc => ?_⟩
  obtain ⟨h1, h2⟩ := h.no hc
  refine ⟨⟨h.ci.ok, h.ci.start, fun i' hi' e he => ?_⟩, h.ci.low⟩
  rw [h1] at he ⊢
  exact h2 i' (by omega) e he

end

end Go.Proofs.Ytidjnmigbhaekaa
