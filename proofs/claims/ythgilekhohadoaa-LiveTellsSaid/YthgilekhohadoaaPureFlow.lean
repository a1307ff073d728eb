/-
  Plain mathematics of liveness (K1, K2): ahead of a block out of what is live behind it, passes until nothing changes, steps that are not needed left out from the back: no program's text.
-/
import Derived.Test.YthgilekhohadoaaPureLiveRun
namespace Go.Proofs.Ythgilekhohadoaa
set_option linter.unusedSimpArgs false
set_option linter.unusedVariables false

/-- ahead of a step, out of what is live behind it -/
def befW (s : St) (W : Nat) : Nat :=
  if s.op = 1 then W &&& (4294967295 - 2 ^ s.to.toNat)
  else if s.op = 2 then W &&& (4294967295 - 2 ^ s.to.toNat) ||| 2 ^ s.v.toNat
  else W &&& (4294967295 - 2 ^ s.to.toNat) ||| 2 ^ s.a.toNat ||| 2 ^ s.b.toNat

theorem clr_bit {W t v : Nat} (ht : t < 6) (hv : v < 6) : (W &&& (4294967295 - 2 ^ t)).testBit v = true ↔ W.testBit v = true ∧ t ≠ v := by
  have hp : 2 ^ t < 2 ^ 32 := Nat.pow_lt_pow_right (by omega) (by omega)
  rw [Nat.testBit_and, Bool.and_eq_true, show 4294967295 - 2 ^ t = 2 ^ 32 - (2 ^ t + 1) by omega, Nat.testBit_two_pow_sub_succ hp, Bool.and_eq_true, decide_eq_true_eq, Nat.testBit_two_pow, Bool.not_eq_true', decide_eq_false_iff_not]
  exact ⟨fun ⟨a, _, b⟩ => ⟨a, b⟩, fun ⟨a, b⟩ => ⟨a, by omega, b⟩⟩

theorem befW_bit {n v : Nat} {s : St} {W : Nat} (hc : ckStep n n s.op s.to s.a s.b s.v = 0) (hn : n ≤ 6) (hv : v < n) : (befW s W).testBit v = true ↔ UsesS s v ∨ (W.testBit v = true ∧ s.to ≠ (v : Int)) := by
  obtain ⟨⟨t0, t1⟩, hcase⟩ := ckStep_cases hc
  have hcl := clr_bit (W := W) (t := s.to.toNat) (v := v) (by omega) (by omega)
  have ht : s.to.toNat ≠ v ↔ s.to ≠ (v : Int) := by omega
  rw [ht] at hcl
  unfold befW UsesS
  rcases hcase with ⟨h1, _⟩ | ⟨h1, h2, h3⟩ | ⟨h1, h2, h3, h4, h5, h6⟩
  · rw [if_pos h1, hcl]
    constructor
    · exact .inr
    · rintro ((⟨h, _⟩ | ⟨h, _⟩) | h)
      · omega
      · omega
      · exact h
  · rw [if_neg (by omega), if_pos h1, Nat.testBit_or, Bool.or_eq_true, hcl, Nat.testBit_two_pow, decide_eq_true_eq]
    have : s.v.toNat = v ↔ s.v = (v : Int) := by omega
    rw [this]
    constructor
    · rintro (h | h)
      · exact .inr h
      · exact .inl (.inl ⟨h1, h⟩)
    · rintro ((⟨_, h⟩ | ⟨h, _⟩) | h)
      · exact .inr h
      · omega
      · exact .inl h
  · rw [if_neg (by omega), if_neg (by omega), Nat.testBit_or, Nat.testBit_or, Bool.or_eq_true, Bool.or_eq_true, hcl, Nat.testBit_two_pow, Nat.testBit_two_pow, decide_eq_true_eq, decide_eq_true_eq]
    have ha : s.a.toNat = v ↔ s.a = (v : Int) := by omega
    have hb : s.b.toNat = v ↔ s.b = (v : Int) := by omega
    rw [ha, hb]
    constructor
    · rintro ((h | h) | h)
      · exact .inr h
      · exact .inl (.inr ⟨h1, .inl h⟩)
      · exact .inl (.inr ⟨h1, .inr h⟩)
    · rintro ((⟨h, _⟩ | ⟨_, h | h⟩) | h)
      · omega
      · exact .inl (.inr h)
      · exact .inr h
      · exact .inl (.inl h)

theorem befW_lt {n : Nat} {s : St} {W : Nat} (hc : ckStep n n s.op s.to s.a s.b s.v = 0) (hW : W < 2 ^ n) : befW s W < 2 ^ n := by
  obtain ⟨⟨t0, t1⟩, hcase⟩ := ckStep_cases hc
  have h0 : W &&& (4294967295 - 2 ^ s.to.toNat) < 2 ^ n := Nat.lt_of_le_of_lt Nat.and_le_left hW
  have hp : ∀ {k : Nat}, k < n → 2 ^ k < 2 ^ n := fun h => Nat.pow_lt_pow_right (by omega) h
  unfold befW
  rcases hcase with ⟨h1, _⟩ | ⟨h1, h2, h3⟩ | ⟨h1, h2, h3, h4, h5, h6⟩
  · rw [if_pos h1]; exact h0
  · rw [if_neg (by omega), if_pos h1]; exact Nat.or_lt_two_pow h0 (hp (by omega))
  · rw [if_neg (by omega), if_neg (by omega)]; exact Nat.or_lt_two_pow (Nat.or_lt_two_pow h0 (hp (by omega))) (hp (by omega))

/-- every step is as it should be -/
def StOk (n : Nat) (c : List St) : Prop := ∀ s ∈ c, ckStep n n s.op s.to s.a s.b s.v = 0

theorem StOk.of {n : Nat} {c : List St} (h : ckStepsF n n c = 0) : StOk n c := fun s hs => by
  obtain ⟨k, hk⟩ := List.getElem?_of_mem hs
  exact ckStepsF_at h hk

theorem StOk.tail {n : Nat} {s : St} {c : List St} (h : StOk n (s :: c)) : StOk n c := fun x hx => h x (List.mem_cons_of_mem _ hx)

theorem StOk.head {n : Nat} {s : St} {c : List St} (h : StOk n (s :: c)) : ckStep n n s.op s.to s.a s.b s.v = 0 := h s (List.mem_cons_self ..)

/-- ahead of steps, out of what is live behind them -/
def codW : List St → Nat → Nat
  | [], W => W
  | s :: c, W => befW s (codW c W)

theorem codW_lt {n : Nat} : ∀ {c : List St} {W : Nat}, StOk n c → W < 2 ^ n → codW c W < 2 ^ n
  | [], _, _, h => h
  | s :: c, W, hc, h => befW_lt hc.head (codW_lt hc.tail h)

theorem codW_mono {n : Nat} (hn : n ≤ 6) : ∀ {c : List St} {W X : Nat}, StOk n c → (∀ v, v < n → W.testBit v = true → X.testBit v = true) → ∀ v, v < n → (codW c W).testBit v = true → (codW c X).testBit v = true
  | [], _, _, _, h => h
  | s :: c, W, X, hc, h => fun v hv hb => by
    rw [codW, befW_bit hc.head hn hv] at hb ⊢
    exact hb.imp id fun ⟨h1, h2⟩ => ⟨codW_mono hn hc.tail h v hv h1, h2⟩

theorem codW_drop {c : List St} {k : Nat} {s : St} (h : c[k]? = some s) (W : Nat) : codW (c.drop k) W = befW s (codW (c.drop (k + 1)) W) := by
  rw [drop_at h]
  rfl

/-- all of some words -/
def orL (F : List Nat) : List Int → Nat → Nat
  | [], W => W
  | j :: r, W => orL F r (W ||| F.getD j.toNat 0)

theorem orL_bit {F : List Nat} {v : Nat} : ∀ {js : List Int} {W : Nat}, (orL F js W).testBit v = true ↔ W.testBit v = true ∨ ∃ j ∈ js, (F.getD j.toNat 0).testBit v = true
  | [], W => by simp [orL]
  | j :: r, W => by
    rw [orL, orL_bit, Nat.testBit_or, Bool.or_eq_true]
    constructor
    · rintro ((h | h) | ⟨x, hx, h⟩)
      · exact .inl h
      · exact .inr ⟨j, List.mem_cons_self .., h⟩
      · exact .inr ⟨x, List.mem_cons_of_mem _ hx, h⟩
    · rintro (h | ⟨x, hx, h⟩)
      · exact .inl (.inl h)
      · rcases List.mem_cons.1 hx with rfl | hx
        · exact .inl (.inr h)
        · exact .inr ⟨x, hx, h⟩

theorem getD_lt {n : Nat} {F : List Nat} (hF : ∀ (i W : Nat), F[i]? = some W → W < 2 ^ n) (j : Nat) : F.getD j 0 < 2 ^ n := by
  rw [List.getD_eq_getElem?_getD]
  cases h : F[j]? with
  | none => exact Nat.two_pow_pos n
  | some W => exact hF j W h

theorem orL_lt {n : Nat} {F : List Nat} (hF : ∀ (i W : Nat), F[i]? = some W → W < 2 ^ n) : ∀ {js : List Int} {W : Nat}, W < 2 ^ n → orL F js W < 2 ^ n
  | [], _, h => h
  | j :: r, W, h => by
    rw [orL]
    exact orL_lt hF (Nat.or_lt_two_pow h (getD_lt hF _))

theorem orL_take {F : List Nat} {js : List Int} {c : Nat} {j : Int} (h : js[c]? = some j) (W : Nat) : orL F (js.take (c + 1)) W = orL F (js.take c) W ||| F.getD j.toNat 0 := by
  have app : ∀ (a b : List Int) (W : Nat), orL F (a ++ b) W = orL F b (orL F a W) := by
    intro a
    induction a with
    | nil => intro b W; rfl
    | cons x a ih => intro b W; exact ih b _
  rw [List.take_add_one, h, Option.toList_some, app]
  rfl

/-- behind a block -/
def lbW (b : Bk) (F : List Nat) (want : Nat) : Nat := if nxB b = [] then want else if 0 ≤ b.test then orL F (nxB b) 0 ||| 2 ^ b.test.toNat else orL F (nxB b) 0

/-- ahead of a block -/
def trW (b : Bk) (F : List Nat) (want : Nat) : Nat := codW b.code (lbW b F want)

theorem nxB_nil {n m : Nat} {b : Bk} (h : BkOk n m b) : nxB b = [] ↔ b.th = -1 := by
  obtain ⟨_, h2, h3, h4⟩ := h
  unfold nxB
  constructor
  · intro h
    by_cases e : b.th = -1
    · exact e
    · rw [if_neg e] at h; simp at h
  · intro e
    rw [if_pos e, if_neg (by omega)]
    rfl

theorem nxB_lt {n m : Nat} {b : Bk} (h : BkOk n m b) {j : Int} (hj : j ∈ nxB b) : 0 ≤ j ∧ j < m := by
  obtain ⟨_, h2, h3, h4⟩ := h
  unfold nxB at hj
  rw [List.mem_append] at hj
  rcases hj with hj | hj
  · split at hj
    · cases hj
    · rw [List.mem_singleton] at hj; omega
  · split at hj
    · rw [List.mem_singleton] at hj; omega
    · cases hj

theorem lbW_lt {n m : Nat} {b : Bk} {F : List Nat} {want : Nat} (h : BkOk n m b) (hF : ∀ (i W : Nat), F[i]? = some W → W < 2 ^ n) (hw : want < 2 ^ n) : lbW b F want < 2 ^ n := by
  unfold lbW
  have h0 := orL_lt hF (js := nxB b) (W := 0) (Nat.two_pow_pos n)
  obtain ⟨_, h2, _, _⟩ := h
  split
  · exact hw
  · split
    · exact Nat.or_lt_two_pow h0 (Nat.pow_lt_pow_right (by omega) (by omega))
    · exact h0

theorem trW_lt {n m : Nat} {b : Bk} {F : List Nat} {want : Nat} (h : BkOk n m b) (hF : ∀ (i W : Nat), F[i]? = some W → W < 2 ^ n) (hw : want < 2 ^ n) : trW b F want < 2 ^ n := codW_lt (.of h.code) (lbW_lt h hF hw)

/-- words of which each is true, and none is ahead of what it leads to -/
structure FlI (n : Nat) (p : List Bk) (want : Nat) (F : List Nat) : Prop where
  len : F.length = p.length
  lt : ∀ (i W : Nat), F[i]? = some W → W < 2 ^ n
  ok : ∀ (i W : Nat), F[i]? = some W → ∀ v, v < n → W.testBit v = true → Lv p want v (i, 0)
  pre : ∀ (i : Nat) (b : Bk) (W : Nat), p[i]? = some b → F[i]? = some W → ∀ v, v < n → W.testBit v = true → (trW b F want).testBit v = true

section
variable {n : Nat} {p : List Bk} {want : Nat} {F : List Nat}

theorem FlI.start (n : Nat) (p : List Bk) (want : Nat) : FlI n p want (List.replicate p.length 0) := by
  have hz : ∀ (i W : Nat), (List.replicate p.length 0)[i]? = some W → W = 0 := fun i W h => by
    have := List.mem_of_getElem? h
    exact (List.mem_replicate.1 this).2
  refine ⟨by simp, fun i W h => by rw [hz i W h]; exact Nat.two_pow_pos n, fun i W h v _ hb => ?_, fun i b W _ h v _ hb => ?_⟩
  · rw [hz i W h] at hb; simp at hb
  · rw [hz i W h] at hb; simp at hb

theorem lb_ok (hc : ckProg n p = 0) (hlt : ∀ (i W : Nat), F[i]? = some W → W < 2 ^ n) (hok : ∀ (i W : Nat), F[i]? = some W → ∀ v, v < n → W.testBit v = true → Lv p want v (i, 0)) {i : Nat} {b : Bk} (hb : p[i]? = some b) {v : Nat} (hv : v < n) (h : (lbW b F want).testBit v = true) : Lv p want v (i, b.code.length) := by
  have hk := ckProg_at hc hb
  unfold lbW at h
  have hor : (orL F (nxB b) 0).testBit v = true → Lv p want v (i, b.code.length) := fun h => by
    rw [orL_bit] at h
    rcases h with h | ⟨j, hj, h⟩
    · simp at h
    · obtain ⟨h0, _⟩ := nxB_lt hk hj
      rw [List.getD_eq_getElem?_getD] at h
      cases hF : F[j.toNat]? with
      | none => rw [hF] at h; simp at h
      | some W =>
        rw [hF] at h
        exact lv_next (j := j.toNat) hb rfl (by rw [Int.toNat_of_nonneg h0]; exact hj) (hok _ W hF v hv h)
  split at h
  · rename_i h1
    have hth := (nxB_nil hk).1 h1
    refine lv_stop hb rfl ?_ hth h
    obtain ⟨_, _, h3, _⟩ := hk
    omega
  · split at h
    · rename_i h2
      rw [Nat.testBit_or, Bool.or_eq_true, Nat.testBit_two_pow, decide_eq_true_eq] at h
      rcases h with h | h
      · exact hor h
      · exact lv_test hb rfl (by omega)
    · exact hor h

theorem cod_ok (hc : ckProg n p = 0) {i : Nat} {b : Bk} (hb : p[i]? = some b) {W : Nat} (hW : ∀ v, v < n → W.testBit v = true → Lv p want v (i, b.code.length)) : ∀ (c : List St) (k : Nat), b.code.drop k = c → k ≤ b.code.length → ∀ v, v < n → (codW c W).testBit v = true → Lv p want v (i, k)
  | [], k, hd, hk => fun v hv h => by
    have : b.code.length ≤ k := by
      have := congrArg List.length hd
      rw [List.length_drop] at this
      simp at this
      omega
    rw [show k = b.code.length by omega]
    exact hW v hv h
  | s :: c, k, hd, hk => fun v hv h => by
    have hs : b.code[k]? = some s := by
      have := congrArg (fun l => l[0]?) hd
      simpa [List.getElem?_drop] using this
    have hkl := (List.getElem?_eq_some_iff.1 hs).1
    have hd2 : b.code.drop (k + 1) = c := by
      have := drop_at hs
      rw [hd] at this
      injection this with _ this
      exact this.symm
    have hn6 := (ckProg_bd hc).2.1
    rw [codW, befW_bit (ckStepsF_at (ckProg_at hc hb).code hs) (by omega) hv] at h
    rcases h with h | ⟨h, hne⟩
    · exact lv_use hb hs h
    · exact lv_step hb hs hne (cod_ok hc hb hW c (k + 1) hd2 (by omega) v hv h)

theorem tr_ok (hc : ckProg n p = 0) (hlt : ∀ (i W : Nat), F[i]? = some W → W < 2 ^ n) (hok : ∀ (i W : Nat), F[i]? = some W → ∀ v, v < n → W.testBit v = true → Lv p want v (i, 0)) {i : Nat} {b : Bk} (hb : p[i]? = some b) {v : Nat} (hv : v < n) (h : (trW b F want).testBit v = true) : Lv p want v (i, 0) :=
  cod_ok hc hb (fun v hv h => lb_ok hc hlt hok hb hv h) b.code 0 rfl (Nat.zero_le _) v hv h

theorem lb_mono {m : Nat} {b : Bk} (hk : BkOk n m b) {G : List Nat} (h : ∀ j v, v < n → (F.getD j 0).testBit v = true → (G.getD j 0).testBit v = true) {v : Nat} (hv : v < n) (hb : (lbW b F want).testBit v = true) : (lbW b G want).testBit v = true := by
  have hor : (orL F (nxB b) 0).testBit v = true → (orL G (nxB b) 0).testBit v = true := fun h1 => by
    rw [orL_bit] at h1 ⊢
    exact h1.imp id fun ⟨j, hj, h2⟩ => ⟨j, hj, h _ v hv h2⟩
  unfold lbW at hb ⊢
  split
  · rename_i h1; rw [if_pos h1] at hb; exact hb
  · rename_i h1
    rw [if_neg h1] at hb
    split
    · rename_i h2
      rw [if_pos h2, Nat.testBit_or, Bool.or_eq_true] at hb
      rw [Nat.testBit_or, Bool.or_eq_true]
      exact hb.imp hor id
    · rename_i h2
      rw [if_neg h2] at hb
      exact hor hb

theorem le_of_bits {a b : Nat} (h : ∀ v, a.testBit v = true → b.testBit v = true) : a ≤ b := by
  have : a ||| b = b := word_ext fun j => by
    rw [Nat.testBit_or, Bool.or_eq_true]
    exact ⟨fun h1 => h1.elim (h j) id, .inr⟩
  rw [← this]
  exact Nat.left_le_or

theorem big_bit {W v : Nat} (hW : W < 2 ^ n) (h : W.testBit v = true) : v < n := by
  rcases Nat.lt_or_ge v n with hv | hv
  · exact hv
  · rw [Nat.testBit_lt_two_pow (Nat.lt_of_lt_of_le hW (Nat.pow_le_pow_right (by omega) hv))] at h
    cases h

theorem sum_set : ∀ {F : List Nat} {i W X : Nat}, F[i]? = some W → (F.set i X).sum + W = F.sum + X
  | [], _, _, _, h => by simp at h
  | a :: F, 0, W, X, h => by
    simp at h
    subst h
    simp only [List.set_cons_zero, List.sum_cons]
    omega
  | a :: F, i + 1, W, X, h => by
    have := sum_set (F := F) (i := i) (X := X) (by simpa using h)
    simp only [List.set_cons_succ, List.sum_cons]
    omega

/-- one block's word taken anew -/
theorem FlI.go (hc : ckProg n p = 0) (hw : want < 2 ^ n) (h : FlI n p want F) {i : Nat} {b : Bk} {W : Nat} (hb : p[i]? = some b) (hW : F[i]? = some W) : W ≤ trW b F want ∧ FlI n p want (F.set i (trW b F want)) := by
  have hk := ckProg_at hc hb
  have hsub := h.pre i b W hb hW
  have hle : W ≤ trW b F want := le_of_bits fun v hv => hsub v (big_bit (h.lt i W hW) hv) hv
  have hil := (List.getElem?_eq_some_iff.1 hW).1
  have hget : ∀ j, (F.set i (trW b F want))[j]? = if i = j then some (trW b F want) else F[j]? := fun j => by
    by_cases e : i = j
    · subst e; rw [List.getElem?_set_self hil, if_pos rfl]
    · rw [List.getElem?_set_ne e, if_neg e]
  have hm : ∀ j v, v < n → (F.getD j 0).testBit v = true → ((F.set i (trW b F want)).getD j 0).testBit v = true := fun j v hv hq => by
    rw [List.getD_eq_getElem?_getD] at hq ⊢
    rw [hget]
    by_cases e : i = j
    · subst e
      rw [hW] at hq
      rw [if_pos rfl]
      exact hsub v hv hq
    · rw [if_neg e]; exact hq
  refine ⟨hle, by simp [h.len], fun j X hX => ?_, fun j X hX v hv hq => ?_, fun j b' X hb' hX v hv hq => ?_⟩
  · rw [hget] at hX
    split at hX
    · injection hX with hX; subst hX; exact trW_lt hk h.lt hw
    · exact h.lt j X hX
  · rw [hget] at hX
    split at hX
    · rename_i e
      injection hX with hX
      subst hX e
      exact tr_ok hc h.lt h.ok hb hv hq
    · exact h.ok j X hX v hv hq
  · have hk' := ckProg_at hc hb'
    have hn6 := (ckProg_bd hc).2.1
    refine codW_mono (by omega) (.of hk'.code) (fun v hv hq => lb_mono hk' hm hv hq) v hv ?_
    rw [hget] at hX
    split at hX
    · rename_i e
      injection hX with hX
      subst e hX
      rw [hb] at hb'
      injection hb' with hb'
      subst hb'
      exact hq
    · exact h.pre j b' X hb' hX v hv hq

/-- nothing is left out where nothing changes -/
theorem lv_in (hc : ckProg n p = 0) (hl : F.length = p.length) (hf : ∀ (i : Nat) (b : Bk) (W : Nat), p[i]? = some b → F[i]? = some W → W = trW b F want) {v : Nat} (hv : v < n) {x : Nat × Nat} (h : Lv p want v x) : ∀ b, p[x.1]? = some b → (codW (b.code.drop x.2) (lbW b F want)).testBit v = true := by
  have hn6 := (ckProg_bd hc).2.1
  induction h with
  | @here x h1 =>
    intro b hb
    obtain ⟨b', hb', hu⟩ := h1
    rw [hb] at hb'
    injection hb' with hb'
    subst hb'
    have hk := ckProg_at hc hb
    rcases hu with ⟨s, hs, hu⟩ | ⟨he, hu⟩
    · rw [codW_drop hs, befW_bit (ckStepsF_at hk.code hs) (by omega) hv]
      exact .inl hu
    · rw [he, List.drop_length, codW]
      unfold lbW
      obtain ⟨_, h2, h3, h4⟩ := id hk
      rcases hu with hu | ⟨h5, h6, h7⟩
      · rw [if_neg (fun e => by have := (nxB_nil hk).1 e; omega), if_pos (by omega), Nat.testBit_or, Nat.testBit_two_pow, hu]
        simp
      · rw [if_pos ((nxB_nil hk).2 h6)]
        exact h7
  | @on x y h1 _ ih =>
    intro b hb
    obtain ⟨b', hb', hu⟩ := h1
    rw [hb] at hb'
    injection hb' with hb'
    subst hb'
    have hk := ckProg_at hc hb
    rcases hu with ⟨s, hs, hto, rfl⟩ | ⟨he, j, hj, rfl⟩
    · rw [codW_drop hs, befW_bit (ckStepsF_at hk.code hs) (by omega) hv]
      exact .inr ⟨ih b hb, hto⟩
    · rw [he, List.drop_length, codW]
      have hjl := nxB_lt hk hj
      have hjp : j < p.length := by omega
      have hbj := List.getElem?_eq_getElem hjp
      have hFj := List.getElem?_eq_getElem (l := F) (i := j) (by omega)
      have h8 := ih _ hbj
      rw [List.drop_zero] at h8
      have h9 : (orL F (nxB b) 0).testBit v = true := orL_bit.2 (.inr ⟨_, hj, by
        rw [Int.toNat_natCast, List.getD_eq_getElem?_getD, hFj, Option.getD_some, hf j _ _ hbj hFj]
        exact h8⟩)
      unfold lbW
      rw [if_neg (fun e => by rw [e] at hj; cases hj)]
      split
      · rw [Nat.testBit_or, h9]; rfl
      · exact h9

/-- what the words tell where nothing changes -/
structure FlX (n : Nat) (p : List Bk) (want : Nat) (F : List Nat) : Prop where
  len : F.length = p.length
  lt : ∀ (i W : Nat), F[i]? = some W → W < 2 ^ n
  bit : ∀ (i W : Nat), F[i]? = some W → ∀ v, v < n → (W.testBit v = true ↔ Lv p want v (i, 0))

theorem FlI.done (hc : ckProg n p = 0) (h : FlI n p want F) (hf : ∀ (i : Nat) (b : Bk) (W : Nat), p[i]? = some b → F[i]? = some W → W = trW b F want) : FlX n p want F := by
  refine ⟨h.len, h.lt, fun i W hW v hv => ⟨h.ok i W hW v hv, fun hl => ?_⟩⟩
  have hip : i < p.length := by have := (List.getElem?_eq_some_iff.1 hW).1; rw [h.len] at this; exact this
  have hb := List.getElem?_eq_getElem hip
  have := lv_in hc h.len hf hv hl _ hb
  rw [List.drop_zero] at this
  rw [hf i _ W hb hW]
  exact this

/-- a pass over the blocks: those of D are done -/
structure Spd (n : Nat) (p : List Bk) (want s0 : Nat) (F : List Nat) (ch : Bool) (D : Nat → Prop) : Prop where
  inv : FlI n p want F
  up : s0 ≤ F.sum
  more : ch = true → s0 < F.sum
  same : ch = false → ∀ (i : Nat) (b : Bk) (W : Nat), D i → p[i]? = some b → F[i]? = some W → W = trW b F want

theorem Spd.start (h : FlI n p want F) {D : Nat → Prop} (hD : ∀ i, ¬ D i) : Spd n p want F.sum F false D := ⟨h, Nat.le_refl _, fun h => (by cases h), fun _ i b W hk hb _ => absurd hk (hD i)⟩

theorem Spd.stay {s0 k : Nat} {ch : Bool} {D D' : Nat → Prop} {b : Bk} {W : Nat} (h : Spd n p want s0 F ch D) (hD : ∀ i, D' i → D i ∨ i = k) (hb : p[k]? = some b) (hW : F[k]? = some W) (he : trW b F want = W) : Spd n p want s0 F ch D' := ⟨h.inv, h.up, h.more, fun hch i b' W' hk hb' hW' => by
  rcases hD i hk with hk | rfl
  · exact h.same hch i b' W' hk hb' hW'
  · rw [hb] at hb'
    rw [hW] at hW'
    injection hb' with hb'
    injection hW' with hW'
    subst hb' hW'
    exact he.symm⟩

theorem Spd.go {s0 k : Nat} {ch : Bool} {D D' : Nat → Prop} {b : Bk} {W : Nat} (hc : ckProg n p = 0) (hw : want < 2 ^ n) (h : Spd n p want s0 F ch D) (hb : p[k]? = some b) (hW : F[k]? = some W) (he : trW b F want ≠ W) : Spd n p want s0 (F.set k (trW b F want)) true D' := by
  obtain ⟨h1, h2⟩ := h.inv.go hc hw hb hW
  have h3 := sum_set (X := trW b F want) hW
  have h4 := h.up
  exact ⟨h2, by omega, fun _ => by omega, fun e => (by cases e)⟩

theorem Spd.done {s0 : Nat} {D : Nat → Prop} (hc : ckProg n p = 0) (h : Spd n p want s0 F false D) (hD : ∀ i, i < p.length → D i) : FlX n p want F := h.inv.done hc fun i b W hb hW => h.same rfl i b W (hD i (List.getElem?_eq_some_iff.1 hb).1) hb hW

theorem sum_le_mul {m : Nat} : ∀ {F : List Nat}, (∀ x ∈ F, x ≤ m) → F.sum ≤ F.length * m
  | [], _ => by simp
  | a :: F, h => by
    have h1 := sum_le_mul (F := F) fun x hx => h x (List.mem_cons_of_mem _ hx)
    have h2 := h a (List.mem_cons_self ..)
    simp only [List.sum_cons, List.length_cons, Nat.succ_mul]
    omega

theorem FlI.sum_le (hc : ckProg n p = 0) (h : FlI n p want F) : F.sum ≤ 512 := by
  obtain ⟨_, h2, _, h4, _⟩ := ckProg_bd hc
  have h6 : 2 ^ n ≤ 2 ^ 6 := Nat.pow_le_pow_right (by omega) (by omega)
  have := sum_le_mul (m := 64) (F := F) fun x hx => by
    obtain ⟨k, hk⟩ := List.getElem?_of_mem hx
    have := h.lt k x hk
    omega
  rw [h.len] at this
  have h7 : p.length * 64 ≤ 8 * 64 := Nat.mul_le_mul_right _ h4
  omega

end

/-! ### Steps that are not needed, left out from the back -/

/-- the steps that are needed, and what is live ahead of them -/
def nedL : List St → Nat → List St × Nat
  | [], W => ([], W)
  | s :: c, W => if (nedL c W).2.testBit s.to.toNat = true then (s :: (nedL c W).1, befW s (nedL c W).2) else nedL c W

theorem nd_len : ∀ (c : List St) (W : Nat), (nedL c W).1.length ≤ c.length
  | [], _ => Nat.le_refl _
  | s :: c, W => by
    have := nd_len c W
    unfold nedL
    split <;> simp <;> omega

theorem nd_lt {n : Nat} : ∀ {c : List St} {W : Nat}, StOk n c → W < 2 ^ n → (nedL c W).2 < 2 ^ n
  | [], _, _, h => h
  | s :: c, W, hc, h => by
    have := nd_lt hc.tail h
    unfold nedL
    split
    · exact befW_lt hc.head this
    · exact this

theorem nd_full : ∀ {c : List St} {W : Nat}, ¬ (nedL c W).1.length < c.length → nedL c W = (c, codW c W) ∧ ∀ (k : Nat) (s : St), c[k]? = some s → (codW (c.drop (k + 1)) W).testBit s.to.toNat = true
  | [], _, _ => ⟨rfl, fun k s h => by simp at h⟩
  | s :: c, W, h => by
    have hl := nd_len c W
    by_cases hb : (nedL c W).2.testBit s.to.toNat = true
    · have e : nedL (s :: c) W = (s :: (nedL c W).1, befW s (nedL c W).2) := by rw [nedL, if_pos hb]
      rw [e] at h
      simp only [List.length_cons] at h
      obtain ⟨h1, h2⟩ := nd_full (c := c) (W := W) (by omega)
      rw [h1] at hb
      refine ⟨by rw [e, h1]; rfl, fun k s' hs' => ?_⟩
      cases k with
      | zero =>
        simp at hs'
        subst hs'
        simpa using hb
      | succ k => simpa using h2 k s' (by simpa using hs')
    · have e : nedL (s :: c) W = nedL c W := by rw [nedL, if_neg hb]
      rw [e] at h
      simp only [List.length_cons] at h
      omega

theorem set_same {p : List Bk} {i : Nat} {b : Bk} (h : p[i]? = some b) : p.set i b = p := by
  apply List.ext_getElem?
  intro j
  by_cases e : i = j
  · subst e; rw [List.getElem?_set_self (List.getElem?_eq_some_iff.1 h).1, h]
  · rw [List.getElem?_set_ne e]

theorem nd_cuts {n want i : Nat} {p : List Bk} {b : Bk} (hb : p[i]? = some b) (hn : n ≤ 6) {W : Nat} (hW : ∀ v, v < n → Lv p want v (i, b.code.length) → W.testBit v = true) : ∀ (c pre : List St), b.code = pre ++ c → StOk n c →
    Cuts want p (p.set i { b with code := pre ++ (nedL c W).1 }) ∧ ∀ v, v < n → Lv (p.set i { b with code := pre ++ (nedL c W).1 }) want v (i, pre.length) → (nedL c W).2.testBit v = true
  | [], pre, he, _ => by
    rw [List.append_nil] at he
    have e : ({ b with code := pre ++ (nedL [] W).1 } : Bk) = b := by
      rw [nedL, List.append_nil, ← he]
    rw [e, set_same hb, ← he]
    exact ⟨.done p, hW⟩
  | s :: c, pre, he, hc => by
    obtain ⟨h1, h2⟩ := nd_cuts hb hn hW c (pre ++ [s]) (by rw [he, List.append_assoc]; rfl) hc.tail
    have hil := (List.getElem?_eq_some_iff.1 hb).1
    obtain ⟨r, hr⟩ : ∃ r, (nedL c W).1 = r := ⟨_, rfl⟩
    obtain ⟨L, hL⟩ : ∃ L, (nedL c W).2 = L := ⟨_, rfl⟩
    rw [hr] at h1 h2
    rw [hL] at h2
    have ea : pre ++ [s] ++ r = pre ++ s :: r := by rw [List.append_assoc]; rfl
    rw [ea] at h1 h2
    have el : (pre ++ [s]).length = pre.length + 1 := by simp
    rw [el] at h2
    obtain ⟨b1, hb1⟩ : ∃ b1 : Bk, b1 = { b with code := pre ++ s :: r } := ⟨_, rfl⟩
    have hcode : b1.code = pre ++ s :: r := by rw [hb1]
    rw [← hb1] at h1 h2
    have hp1 : (p.set i b1)[i]? = some b1 := List.getElem?_set_self hil
    have hs1 : b1.code[pre.length]? = some s := by rw [hcode, List.getElem?_append_right (Nat.le_refl _), Nat.sub_self]; rfl
    have hcs := hc.head
    by_cases hbit : L.testBit s.to.toNat = true
    · have e : nedL (s :: c) W = (s :: r, befW s L) := by rw [nedL, hL, if_pos hbit, hr]
      rw [e]
      dsimp only
      rw [← hb1]
      refine ⟨h1, fun v hv hlv => ?_⟩
      rw [befW_bit hcs hn hv]
      generalize hx : ((i, pre.length) : Nat × Nat) = x at hlv
      cases hlv with
      | here hu =>
        subst hx
        obtain ⟨b2, hb2, hu⟩ := hu
        rw [hp1] at hb2
        injection hb2 with hb2
        subst hb2
        rcases hu with ⟨s', hs', hu⟩ | ⟨hl, _⟩
        · rw [hs1] at hs'
          injection hs' with hs'
          subst hs'
          exact .inl hu
        · rw [hcode] at hl
          simp at hl
      | on hnx hl =>
        subst hx
        obtain ⟨b2, hb2, hu⟩ := hnx
        rw [hp1] at hb2
        injection hb2 with hb2
        subst hb2
        rcases hu with ⟨s', hs', hto, rfl⟩ | ⟨hl2, _⟩
        · rw [hs1] at hs'
          injection hs' with hs'
          subst hs'
          exact .inr ⟨h2 v hv hl, hto⟩
        · rw [hcode] at hl2
          simp at hl2
    · have e : nedL (s :: c) W = (r, L) := by rw [nedL, hL, if_neg hbit, ← hr, ← hL]
      rw [e]
      dsimp only
      obtain ⟨⟨t0, t1⟩, _⟩ := ckStep_cases hcs
      have hd : ¬ Lv (p.set i b1) want s.to.toNat (i, pre.length + 1) := fun h => hbit (h2 _ (by omega) h)
      have hdr : dropS b1 pre.length = { b with code := pre ++ r } := by
        have he2 : (pre ++ s :: r).eraseIdx pre.length = pre ++ r := by rw [List.eraseIdx_append_of_length_le (Nat.le_refl _), Nat.sub_self]; rfl
        unfold dropS
        rw [hcode, he2, hb1]
      have hset : (p.set i b1).set i (dropS b1 pre.length) = p.set i { b with code := pre ++ r } := by rw [List.set_set, hdr]
      refine ⟨?_, fun v hv hlv => ?_⟩
      · have := Cut.mk hp1 hs1 hd
        rw [hset] at this
        exact h1.trans (.one this)
      · rw [← hset] at hlv
        exact h2 v hv (((lv_cut hp1 hs1 t0 hd hlv).2 rfl).2 (Nat.le_refl _))

theorem cuts_zero {want : Nat} {p q : List Bk} (h : Cuts want p q) : ToOk p → ∀ {v j : Nat}, Lv q want v (j, 0) → Lv p want v (j, 0) := by
  induction h with
  | done p => exact fun _ _ _ h => h
  | @more p q r h1 _ ih =>
    intro ht v j hl
    have h2 := ih (ht.cut h1) hl
    obtain @⟨i, k, b, s, hb, hs, hd⟩ := h1
    have h3 := lv_cut hb hs (ht _ _ _ _ hb hs) hd h2
    by_cases e : j = i
    · subst e; exact (h3.2 rfl).1 (Nat.zero_le _)
    · exact h3.1 e

theorem lb_over {n want i : Nat} {p : List Bk} {F : List Nat} (hc : ckProg n p = 0) (hl : F.length = p.length) (ho : ∀ (j W : Nat), F[j]? = some W → ∀ v, v < n → Lv p want v (j, 0) → W.testBit v = true) {b : Bk} (hb : p[i]? = some b) {v : Nat} (hv : v < n) (h : Lv p want v (i, b.code.length)) : (lbW b F want).testBit v = true := by
  have hk := ckProg_at hc hb
  obtain ⟨_, h2, h3, h4⟩ := id hk
  have hno : b.code[b.code.length]? = none := List.getElem?_eq_none (Nat.le_refl _)
  unfold lbW
  generalize hx : ((i, b.code.length) : Nat × Nat) = x at h
  cases h with
  | here hu =>
    subst hx
    obtain ⟨b', hb', hu⟩ := hu
    rw [hb] at hb'
    injection hb' with hb'
    subst hb'
    rcases hu with ⟨s, hs, _⟩ | ⟨_, hu | ⟨h5, h6, h7⟩⟩
    · rw [hno] at hs; cases hs
    · rw [if_neg (fun e => by have := (nxB_nil hk).1 e; omega), if_pos (by omega), Nat.testBit_or, Nat.testBit_two_pow, hu]
      simp
    · rw [if_pos ((nxB_nil hk).2 h6)]
      exact h7
  | on hnx hlv =>
    subst hx
    obtain ⟨b', hb', hu⟩ := hnx
    rw [hb] at hb'
    injection hb' with hb'
    subst hb'
    rcases hu with ⟨s, hs, _⟩ | ⟨_, j, hj, rfl⟩
    · rw [hno] at hs; cases hs
    · have hjl := nxB_lt hk hj
      have hFj := List.getElem?_eq_getElem (l := F) (i := j) (by omega)
      have h9 : (orL F (nxB b) 0).testBit v = true := orL_bit.2 (.inr ⟨_, hj, by
        rw [Int.toNat_natCast, List.getD_eq_getElem?_getD, hFj, Option.getD_some]
        exact ho j _ hFj v hv hlv⟩)
      rw [if_neg (fun e => by rw [e] at hj; cases hj)]
      split
      · rw [Nat.testBit_or, h9]; rfl
      · exact h9

/-- a block without what is not needed -/
def npB (b : Bk) (F : List Nat) (want : Nat) : Bk := { b with code := (nedL b.code (lbW b F want)).1 }

/-- a pass that leaves out what is not needed: the blocks below i are done -/
structure Pss (want : Nat) (q : List Bk) (i : Nat) (ch : Bool) (r : List Bk) : Prop where
  cuts : Cuts want q r
  rest : ∀ k, i ≤ k → r[k]? = q[k]?
  no : ch = false → r = q ∧ ∀ (j k : Nat) (b : Bk) (s : St), j < i → q[j]? = some b → b.code[k]? = some s → Lv q want s.to.toNat (j, k + 1)
  yes : ch = true → ∃ r', Cut want q r' ∧ Cuts want r' r

theorem Pss.start (want : Nat) (q : List Bk) : Pss want q 0 false q := ⟨.done q, fun _ _ => rfl, fun _ => ⟨rfl, fun j k b s h => by omega⟩, fun h => (by cases h)⟩

theorem toOk_ck {n : Nat} {p : List Bk} (hc : ckProg n p = 0) : ToOk p := fun i k b s hb hs => (ckStep_cases (ckStepsF_at (ckProg_at hc hb).code hs)).1.1

theorem Cuts.first {want : Nat} {p q : List Bk} (h : Cuts want p q) (hne : p ≠ q) : ∃ r, Cut want p r ∧ Cuts want r q := by
  cases h with
  | done _ => exact absurd rfl hne
  | more h1 h2 => exact ⟨_, h1, h2⟩

theorem Cuts.firstOf {want : Nat} {p q r : List Bk} (h : Cuts want p q) (h2 : ∃ r', Cut want q r' ∧ Cuts want r' r) : ∃ r', Cut want p r' ∧ Cuts want r' r := by
  obtain ⟨r', h3, h4⟩ := h2
  cases h with
  | done _ => exact ⟨r', h3, h4⟩
  | more h5 h6 => exact ⟨_, h5, h6.trans (.more h3 h4)⟩

theorem Pss.step {n want i : Nat} {q r : List Bk} {ch : Bool} {F : List Nat} {b : Bk} (hc : ckProg n q = 0) (hcr : ckProg n r = 0) (hx : FlX n q want F) (h : Pss want q i ch r) (hb : q[i]? = some b) :
    Pss want q (i + 1) (ch || decide ((npB b F want).code.length < b.code.length)) (r.set i (npB b F want)) := by
  have hbr : r[i]? = some b := (h.rest i (Nat.le_refl _)).trans hb
  have hn6 := (ckProg_bd hc).2.1
  have hrl : F.length = r.length := by
    have := (h.cuts)
    have hlen : ∀ {p q : List Bk}, Cuts want p q → q.length = p.length := fun h => by
      induction h with
      | done _ => rfl
      | more h1 _ ih => obtain ⟨_, _, _⟩ := h1; rw [ih]; simp
    rw [hx.len, hlen h.cuts]
  have hover : ∀ v, v < n → Lv r want v (i, b.code.length) → (lbW b F want).testBit v = true := fun v hv hl =>
    lb_over hcr hrl (fun j W hj v hv hl => (hx.bit j W hj v hv).2 (cuts_zero h.cuts (toOk_ck hc) hl)) hbr hv hl
  obtain ⟨h1, _⟩ := nd_cuts hbr (by omega) hover b.code [] rfl (.of (ckProg_at hc hb).code)
  have hset : r.set i { b with code := [] ++ (nedL b.code (lbW b F want)).1 } = r.set i (npB b F want) := by rw [List.nil_append]; rfl
  rw [hset] at h1
  refine ⟨h.cuts.trans h1, fun k hk => by rw [List.getElem?_set_ne (by omega)]; exact h.rest k (by omega), fun hch => ?_, fun hch => ?_⟩
  · rw [Bool.or_eq_false_iff, decide_eq_false_iff_not] at hch
    obtain ⟨hch, hlen⟩ := hch
    obtain ⟨he, hnf⟩ := h.no hch
    subst he
    obtain ⟨h2, h3⟩ := nd_full (c := b.code) (W := lbW b F want) hlen
    have hnp : npB b F want = b := by unfold npB; rw [h2]
    refine ⟨by rw [hnp, set_same hbr], fun j k b' s hj hb' hs => ?_⟩
    by_cases e : j = i
    · subst e
      rw [hb] at hb'
      injection hb' with hb'
      subst hb'
      have hkl := (List.getElem?_eq_some_iff.1 hs).1
      obtain ⟨⟨t0, t1⟩, _⟩ := ckStep_cases (ckStepsF_at (ckProg_at hc hb).code hs)
      exact cod_ok hc hb (fun v hv h => lb_ok hc hx.lt (fun i W hW v hv h => (hx.bit i W hW v hv).1 h) hb hv h) _ (k + 1) rfl (by omega) _ (by omega) (h3 k s hs)
    · exact hnf j k b' s (by omega) hb' hs
  · by_cases hc1 : ch = true
    · obtain ⟨r', h4, h5⟩ := h.yes hc1
      exact ⟨r', h4, h5.trans h1⟩
    · refine h.cuts.firstOf (h1.first fun he => ?_)
      have hd : decide ((npB b F want).code.length < b.code.length) = true := by
        cases ch with
        | true => exact absurd rfl hc1
        | false => simpa using hch
      have hil := (List.getElem?_eq_some_iff.1 hbr).1
      have h6 : (r.set i (npB b F want))[i]? = some (npB b F want) := List.getElem?_set_self hil
      rw [← he, hbr] at h6
      injection h6 with h6
      rw [← h6] at hd
      simp at hd

theorem Pss.end_ {want : Nat} {q r : List Bk} (h : Pss want q q.length false r) : r = q ∧ Nf want q := by
  obtain ⟨h1, h2⟩ := h.no rfl
  exact ⟨h1, fun i k b s hb hs => h2 i k b s (List.getElem?_eq_some_iff.1 hb).1 hb hs⟩

/-! ### From the back, step by step -/

theorem bks_mem {n : Nat} : ∀ {k : Nat} {x : Fin n}, n - k ≤ x.1 → x ∈ bks n k
  | 0, x, h => by have := x.2; omega
  | k + 1, x, h => by
    by_cases hk : k < n
    · rw [bks_succ hk, List.mem_append]
      by_cases e : x.1 = n - 1 - k
      · exact .inr (List.mem_singleton.2 (Fin.ext e))
      · exact .inl (bks_mem (by omega))
    · have : bks n (k + 1) = bks n k := by simp [bks, hk]
      rw [this]
      exact bks_mem (by omega)

/-- what is live, step by step -/
def codF (c : List St) (pre : List (Fin c.length)) (W : Nat) : Nat := pre.foldl (fun L x => befW c[x.1] L) W

theorem codF_snoc (c : List St) (pre : List (Fin c.length)) (x : Fin c.length) (W : Nat) : codF c (pre ++ [x]) W = befW c[x.1] (codF c pre W) := by
  unfold codF
  rw [List.foldl_append]
  rfl

theorem codF_bks (c : List St) (W : Nat) : ∀ k, k ≤ c.length → codF c (bks c.length k) W = codW (c.drop (c.length - k)) W
  | 0, _ => by simp [codF, bks, codW]
  | k + 1, h => by
    have h1 : c[c.length - 1 - k]? = some c[c.length - 1 - k] := List.getElem?_eq_getElem (by omega)
    rw [bks_succ (by omega), codF_snoc, codF_bks c W k (by omega), show c.length - (k + 1) = c.length - 1 - k by omega, codW_drop h1, show c.length - 1 - k + 1 = c.length - k by omega]

theorem codF_all (c : List St) (W : Nat) : codF c (bks c.length c.length) W = codW c W := by
  rw [codF_bks c W _ (Nat.le_refl _), Nat.sub_self, List.drop_zero]

theorem foldl_inv {α β : Type} {f : β → α → β} {P : β → Prop} (hf : ∀ b x, P b → P (f b x)) : ∀ (l : List α) (b : β), P b → P (l.foldl f b)
  | [], _, h => h
  | x :: l, b, h => foldl_inv hf l _ (hf b x h)

theorem codF_lt {n : Nat} {c : List St} (hc : StOk n c) (pre : List (Fin c.length)) {W : Nat} (hW : W < 2 ^ n) : codF c pre W < 2 ^ n :=
  foldl_inv (P := fun L => L < 2 ^ n) (fun L x h => befW_lt (hc _ (List.getElem_mem x.2)) h) pre W hW

/-- the steps that are needed, from the back, and what is live -/
def nedF (c : List St) (pre : List (Fin c.length)) (W : Nat) : List St × Nat := pre.foldl (fun s x => if s.2.testBit c[x.1].to.toNat = true then (s.1 ++ [c[x.1]], befW c[x.1] s.2) else s) ([], W)

theorem nedF_snoc (c : List St) (pre : List (Fin c.length)) (x : Fin c.length) (W : Nat) : nedF c (pre ++ [x]) W = if (nedF c pre W).2.testBit c[x.1].to.toNat = true then ((nedF c pre W).1 ++ [c[x.1]], befW c[x.1] (nedF c pre W).2) else nedF c pre W := by
  unfold nedF
  rw [List.foldl_append]
  rfl

theorem nedL_drop {c : List St} {k : Nat} {s : St} (h : c[k]? = some s) (W : Nat) : nedL (c.drop k) W = if (nedL (c.drop (k + 1)) W).2.testBit s.to.toNat = true then (s :: (nedL (c.drop (k + 1)) W).1, befW s (nedL (c.drop (k + 1)) W).2) else nedL (c.drop (k + 1)) W := by
  rw [drop_at h]
  rfl

theorem nedF_bks (c : List St) (W : Nat) : ∀ k, k ≤ c.length → nedF c (bks c.length k) W = ((nedL (c.drop (c.length - k)) W).1.reverse, (nedL (c.drop (c.length - k)) W).2)
  | 0, _ => by simp [nedF, bks, nedL]
  | k + 1, h => by
    have h1 : c[c.length - 1 - k]? = some c[c.length - 1 - k] := List.getElem?_eq_getElem (by omega)
    have hd := nedL_drop h1 W
    rw [show c.length - 1 - k + 1 = c.length - k by omega] at hd
    rw [bks_succ (by omega), nedF_snoc, nedF_bks c W k (by omega), show c.length - (k + 1) = c.length - 1 - k by omega, hd]
    dsimp only
    split
    · rw [List.reverse_cons]
    · rfl

theorem nedF_all (c : List St) (W : Nat) : nedF c (bks c.length c.length) W = ((nedL c W).1.reverse, (nedL c W).2) := by
  rw [nedF_bks c W _ (Nat.le_refl _), Nat.sub_self, List.drop_zero]

theorem nedF_lt {n : Nat} {c : List St} (hc : StOk n c) (pre : List (Fin c.length)) {W : Nat} (hW : W < 2 ^ n) : (nedF c pre W).2 < 2 ^ n :=
  foldl_inv (P := fun s : List St × Nat => s.2 < 2 ^ n) (fun s x h => by
    show (if _ then _ else _ : List St × Nat).2 < 2 ^ n
    split
    · exact befW_lt (hc _ (List.getElem_mem x.2)) h
    · exact h) pre _ hW

theorem nedF_len (c : List St) : ∀ (pre : List (Fin c.length)) (W : Nat), (nedF c pre W).1.length ≤ pre.length := by
  intro pre W
  have : ∀ (r : List (Fin c.length)) (s : List St × Nat), (r.foldl (fun s x => if s.2.testBit c[x.1].to.toNat = true then (s.1 ++ [c[x.1]], befW c[x.1] s.2) else s) s).1.length ≤ s.1.length + r.length := by
    intro r
    induction r with
    | nil => intro s; exact Nat.le_refl _
    | cons x r ih =>
      intro s
      rw [List.foldl_cons]
      refine Nat.le_trans (ih _) ?_
      rw [List.length_cons]
      split
      · simp only [List.length_append, List.length_singleton]; omega
      · omega
  have h := this pre ([], W)
  simpa [nedF] using h

end Go.Proofs.Ythgilekhohadoaa
