/-
  Plain mathematics of liveness (K1, K2): runs whose values agree on what is live go by the same blocks, also where steps that are not needed are left out.
-/
import Derived.Test.YthgilekhohadoaaPureLive
namespace Go.Proofs.Ythgilekhohadoaa
set_option linter.unusedSimpArgs false
set_option linter.unusedVariables false

/-- values that agree on some variables -/
def Agr (n : Nat) (S : Nat → Prop) (a b : List Int) : Prop := ∀ v, v < n → S v → a.getD v 0 = b.getD v 0

/-- steps from step k of a block on, and what is left of them -/
inductive Thin (p : List Bk) (want i : Nat) : Nat → List St → List St → Prop
  | nil (k : Nat) : Thin p want i k [] []
  | keep {k : Nat} {s : St} {c c' : List St} : Thin p want i (k + 1) c c' → Thin p want i k (s :: c) (s :: c')
  | drop {k : Nat} {s : St} {c c' : List St} : ¬ Lv p want s.to.toNat (i, k + 1) → Thin p want i (k + 1) c c' → Thin p want i k (s :: c) c'

theorem Thin.same (p : List Bk) (want i : Nat) : ∀ (c : List St) (k : Nat), Thin p want i k c c
  | [], k => .nil k
  | s :: c, k => .keep (Thin.same p want i c (k + 1))

theorem Thin.erase {p : List Bk} {want i : Nat} : ∀ (c : List St) (m j : Nat) (s : St), c[j]? = some s → ¬ Lv p want s.to.toNat (i, m + j + 1) → Thin p want i m c (c.eraseIdx j)
  | [], _, _, _, h, _ => by simp at h
  | a :: c, m, 0, s, h, hd => by
    simp at h
    subst h
    exact .drop hd (Thin.same p want i c _)
  | a :: c, m, j + 1, s, h, hd => .keep (Thin.erase c (m + 1) j s (by simpa using h) (by rwa [show m + 1 + j + 1 = m + (j + 1) + 1 by omega]))

theorem getD_set (a : List Int) (t v : Nat) (x : Int) (ht : t < a.length) : (a.set t x).getD v 0 = if t = v then x else a.getD v 0 := by
  rw [List.getD_eq_getElem?_getD, List.getElem?_set, List.getD_eq_getElem?_getD]
  split
  · first | rfl | (rw [if_pos ht]; rfl)
  · rfl

theorem stV_agr {p : List Bk} {want n i k : Nat} {b : Bk} {s : St} {a a' : List Int} (hb : p[i]? = some b) (hs : b.code[k]? = some s) (hc : ckStep n n s.op s.to s.a s.b s.v = 0) (h : Agr n (fun v => Lv p want v (i, k)) a a') : stV a s a = stV a' s a' := by
  obtain ⟨_, hcase⟩ := ckStep_cases hc
  unfold stV
  rcases hcase with ⟨h1, _⟩ | ⟨h1, h2, h3⟩ | ⟨h1, h2, h3, h4, h5, h6⟩
  · rw [if_pos h1, if_pos h1]
  · rw [if_neg (by omega), if_pos h1, if_neg (by omega), if_pos h1]
    exact h s.v.toNat (by omega) (lv_use hb hs (.inl ⟨h1, by omega⟩))
  · rw [if_neg (by omega), if_neg (by omega), if_neg (by omega), if_neg (by omega), h s.a.toNat (by omega) (lv_use hb hs (.inr ⟨h1, .inl (by omega)⟩)), h s.b.toNat (by omega) (lv_use hb hs (.inr ⟨h1, .inr (by omega)⟩))]

theorem thin_do {p : List Bk} {want n i : Nat} {b : Bk} (hb : p[i]? = some b) : ∀ {k : Nat} {c c' : List St}, Thin p want i k c c' → b.code.drop k = c → k ≤ b.code.length → ckStepsF n n c = 0 → ∀ {a a' : List Int}, a.length = n → a'.length = n →
    Agr n (fun v => Lv p want v (i, k)) a a' → Agr n (fun v => Lv p want v (i, b.code.length)) (doS c a) (doS c' a') := by
  intro k c c' h
  induction h with
  | nil k =>
    intro hd hk _ a a' _ _ h
    have : b.code.length ≤ k := by
      rcases Nat.lt_or_ge k b.code.length with hl | hl
      · have := congrArg List.length hd
        rw [List.length_drop] at this
        simp at this
        omega
      · exact hl
    rw [show b.code.length = k by omega]
    exact h
  | @keep k s c c' _ ih =>
    intro hd hk hc a a' hl hl' h
    have hs : b.code[k]? = some s := by
      have := congrArg (fun l => l[0]?) hd
      simpa [List.getElem?_drop] using this
    have hkl := (List.getElem?_eq_some_iff.1 hs).1
    have h0 : ckStep n n s.op s.to s.a s.b s.v = 0 := ckStepsF_at hc (i := 0) (s := s) (by simp)
    have h1 : ckStepsF n n c = 0 := by
      unfold ckStepsF at hc
      rwa [if_pos h0] at hc
    obtain ⟨⟨t0, t1⟩, _⟩ := ckStep_cases h0
    rw [doS, doS]
    refine ih (by have := drop_at hs; rw [hd] at this; injection this with _ this; exact this.symm) (by omega) h1 (by simp [hl]) (by simp [hl']) ?_
    intro v hv hlv
    rw [getD_set _ _ _ _ (by omega), getD_set _ _ _ _ (by omega)]
    split
    · exact stV_agr hb hs h0 h
    · exact h v hv (lv_step hb hs (by omega) hlv)
  | @drop k s c c' hdead _ ih =>
    intro hd hk hc a a' hl hl' h
    have hs : b.code[k]? = some s := by
      have := congrArg (fun l => l[0]?) hd
      simpa [List.getElem?_drop] using this
    have hkl := (List.getElem?_eq_some_iff.1 hs).1
    have h0 : ckStep n n s.op s.to s.a s.b s.v = 0 := ckStepsF_at hc (i := 0) (s := s) (by simp)
    have h1 : ckStepsF n n c = 0 := by
      unfold ckStepsF at hc
      rwa [if_pos h0] at hc
    obtain ⟨⟨t0, t1⟩, _⟩ := ckStep_cases h0
    rw [doS]
    refine ih (by have := drop_at hs; rw [hd] at this; injection this with _ this; exact this.symm) (by omega) h1 (by simp [hl]) hl' ?_
    intro v hv hlv
    rw [getD_set _ _ _ _ (by omega)]
    split
    · rename_i e
      subst e
      exact absurd hlv hdead
    · exact h v hv (lv_step hb hs (by omega) hlv)

/-- two runs that go by the same blocks and stop with the same for what is asked -/
def SameGo (want n : Nat) : Option (List Int × List Nat) → Option (List Int × List Nat) → Prop
  | none, none => True
  | some (x, l), some (y, m) => l = m ∧ x.length = n ∧ y.length = n ∧ Agr n (fun v => want.testBit v = true) x y
  | _, _ => False

theorem SameGo.trans {want n : Nat} {x y z : Option (List Int × List Nat)} (h : SameGo want n x y) (h2 : SameGo want n y z) : SameGo want n x z := by
  match x, y, z, h, h2 with
  | none, none, none, _, _ => trivial
  | some (x, l), some (y, m), some (z, q), ⟨h1, h2, h3, h4⟩, ⟨g1, g2, g3, g4⟩ => exact ⟨h1.trans g1, h2, g3, fun v hv hw => (h4 v hv hw).trans (g4 v hv hw)⟩

theorem SameGo.cons {want n i : Nat} {x y : Option (List Int × List Nat)} (h : SameGo want n x y) : SameGo want n (x.map fun z => (z.1, i :: z.2)) (y.map fun z => (z.1, i :: z.2)) := by
  match x, y, h with
  | none, none, _ => trivial
  | some (x, l), some (y, m), ⟨h1, h2, h3, h4⟩ => exact ⟨by rw [h1], h2, h3, h4⟩

/-- of a program some steps that are not needed left out -/
structure ThinB (want : Nat) (p q : List Bk) : Prop where
  len : q.length = p.length
  blk : ∀ (i : Nat) (b : Bk), p[i]? = some b → ∃ b', q[i]? = some b' ∧ b'.test = b.test ∧ b'.th = b.th ∧ b'.el = b.el ∧ Thin p want i 0 b.code b'.code

theorem ThinB.same (want : Nat) (p : List Bk) : ThinB want p p := ⟨rfl, fun i b hb => ⟨b, hb, rfl, rfl, rfl, Thin.same p want i b.code 0⟩⟩

theorem Cut.thin {want : Nat} {p q : List Bk} (h : Cut want p q) : ThinB want p q := by
  obtain @⟨i, k, b, s, hb, hs, hd⟩ := h
  refine ⟨by simp, fun j b' hb' => ?_⟩
  by_cases e : i = j
  · subst e
    rw [hb] at hb'
    injection hb' with hb'
    subst hb'
    exact ⟨dropS b k, List.getElem?_set_self (List.getElem?_eq_some_iff.1 hb).1, rfl, rfl, rfl, Thin.erase b.code 0 k s hs (by rwa [Nat.zero_add])⟩
  · exact ⟨b', by rw [List.getElem?_set_ne e]; exact hb', rfl, rfl, rfl, Thin.same p want j b'.code 0⟩

theorem goP_thin {want n : Nat} {p q : List Bk} (hp : ckProg n p = 0) (ht : ThinB want p q) : ∀ (f i : Nat) (a a' : List Int), i < p.length → a.length = n → a'.length = n → Agr n (fun v => Lv p want v (i, 0)) a a' → SameGo want n (goP p f (i : Int) a) (goP q f (i : Int) a')
  | 0, i, a, a', _, _, _, _ => by rw [goP_zero, goP_zero]; trivial
  | f + 1, i, a, a', hi, hl, hl', h => by
    have hb := List.getElem?_eq_getElem hi
    obtain ⟨b, hbe⟩ : ∃ b, p[i] = b := ⟨_, rfl⟩
    rw [hbe] at hb
    obtain ⟨b', hb', e1, e2, e3, hthin⟩ := ht.blk i b hb
    have hok := ckProg_at hp hb
    rw [goP_step hb, goP_step hb']
    have hag := thin_do hb hthin rfl (Nat.zero_le _) hok.code hl hl' h
    have hdl : (doS b.code a).length = n := by rw [doS_len, hl]
    have hdl' : (doS b'.code a').length = n := by rw [doS_len, hl']
    generalize doS b.code a = x at *
    generalize doS b'.code a' = y at *
    have hg : goB b' y = goB b x := by
      unfold goB
      rw [e1, e2, e3]
      by_cases h0 : 0 ≤ b.test
      · have htl : b.test.toNat < n := by rcases hok.test with h | h <;> omega
        rw [hag b.test.toNat htl (lv_test hb rfl (by omega))]
      · rw [if_neg (fun hh => h0 hh.1), if_neg (fun hh => h0 hh.1)]
    rw [hg]
    refine SameGo.cons ?_
    rcases goB_lt hok x with e | ⟨j, e, hj⟩
    · rw [e, goP_stop, goP_stop]
      refine ⟨rfl, hdl, hdl', fun v hv hw => hag v hv ?_⟩
      obtain ⟨_, h2, h3, h4⟩ := hok
      have : b.test = -1 ∧ b.th = -1 := by
        unfold goB at e
        split at e
        · rename_i h5
          have := h4 h5.1
          omega
        · rcases h3 with h3 | h3
          · omega
          · exact ⟨h3.2, h3.1⟩
      exact lv_stop hb rfl this.1 this.2 hw
    · rw [e]
      exact goP_thin hp ht f j x y hj hdl hdl' fun v hv hlv => hag v hv (lv_next hb rfl (goB_nx hok e) hlv)

/-! ### What is left out leaves a program that may be -/

theorem manyS_set : ∀ {p : List Bk} {i : Nat} {b b' : Bk}, p[i]? = some b → b'.code.length ≤ b.code.length → manyS (p.set i b') ≤ manyS p
  | [], _, _, _, h, _ => by simp at h
  | a :: p, 0, b, b', h, hl => by
    simp at h
    subst h
    simp only [List.set_cons_zero, manyS]
    omega
  | a :: p, i + 1, b, b', h, hl => by
    have := manyS_set (p := p) (i := i) (by simpa using h) hl
    simp only [List.set_cons_succ, manyS]
    omega

theorem ckStepsF_mem {vars regs : Int} {c : List St} (h : ckStepsF vars regs c = 0) {s : St} (hs : s ∈ c) : ckStep vars regs s.op s.to s.a s.b s.v = 0 := by
  obtain ⟨k, hk, rfl⟩ := List.getElem_of_mem hs
  exact ckStepsF_at h (List.getElem?_eq_getElem hk)

theorem Cut.ok {want n : Nat} {p q : List Bk} (hp : ckProg n p = 0) (h : Cut want p q) : ckProg n q = 0 := by
  obtain @⟨i, k, b, s, hb, hs, hd⟩ := h
  obtain ⟨b1, b2, b3, b4, b5, b6⟩ := ckProg_bd hp
  have hok := ckProg_at hp hb
  refine ckProg_of b1 b2 (by simpa using b3) (by simpa using b4) (Nat.le_trans (manyS_set hb (by show (b.code.eraseIdx k).length ≤ _; rw [List.length_eraseIdx]; split <;> omega)) b5) (ckBks_of fun x hx => ?_)
  rw [List.length_set]
  obtain ⟨j, hj, rfl⟩ := List.getElem_of_mem hx
  rw [List.length_set] at hj
  by_cases e : i = j
  · subst e
    rw [List.getElem_set_self]
    refine ckBk_of ⟨ckStepsF_of fun s' hs' => ckStepsF_mem hok.code (List.mem_of_mem_eraseIdx hs'), hok.test, hok.th, hok.el⟩
  · rw [List.getElem_set_ne e]
    exact ckBks_at b6 (List.getElem?_eq_getElem hj)

theorem toOk_of {n : Nat} {p : List Bk} (hp : ckProg n p = 0) : ToOk p := fun i k b s hb hs => (ckStep_cases (ckStepsF_at (ckProg_at hp hb).code hs)).1.1

theorem Cuts.ok {want n : Nat} {p q : List Bk} (h : Cuts want p q) : ckProg n p = 0 → ckProg n q = 0 := by
  induction h with
  | done p => exact id
  | more h1 _ ih => exact fun hp => ih (h1.ok hp)

theorem Cuts.go {want n : Nat} {p q : List Bk} (h : Cuts want p q) : ckProg n p = 0 → ∀ (f : Nat) (a : List Int), a.length = n → SameGo want n (goP p f 0 a) (goP q f 0 a) := by
  induction h with
  | done p => exact fun hp f a hl => goP_thin hp (ThinB.same want p) f 0 a a (by have := (ckProg_bd hp).2.2.1; omega) hl hl (fun v _ _ => rfl)
  | more h1 _ ih => exact fun hp f a hl => (goP_thin hp h1.thin f 0 a a (by have := (ckProg_bd hp).2.2.1; omega) hl hl (fun v _ _ => rfl)).trans (ih (h1.ok hp) f a hl)

theorem Cuts.len {want : Nat} {p q : List Bk} (h : Cuts want p q) : q.length = p.length := by
  induction h with
  | done p => rfl
  | more h1 _ ih => exact ih.trans h1.thin.len

/-- nothing more can be left out -/
theorem Cuts.again {want : Nat} {q r : List Bk} (h : Cuts want q r) (hn : Nf want q) : r = q := by
  cases h with
  | done _ => rfl
  | more h1 _ => exact absurd h1 hn.no

end Go.Proofs.Ythgilekhohadoaa
