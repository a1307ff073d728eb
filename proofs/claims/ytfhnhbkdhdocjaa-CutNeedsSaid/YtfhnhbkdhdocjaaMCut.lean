/-
  Several texts in one: PureCut, PureWeiser, PureCutLive, PureNdd, PureSliced, PureReq.
-/
import Derived.Test.YtfhnhbkdhdocjaaMPure
import Derived.Test.YtfhnhbkdhdocjaaMHang

/-
  Plain mathematics of slicing (T1, T2): what is needed, as the smallest sets; WEISER's theorem; liveness keeps no less: no program's text.
-/

namespace Go.Proofs.Ytfhnhbkdhdocjaa
set_option linter.unusedSimpArgs false
set_option linter.unusedVariables false

/-- at a place a variable is used by what is needed, or asked for where one stops -/
def UsM (p : List Bk) (want : Nat) (MS : Nat → Nat → Prop) (MT : Nat → Prop) (v : Nat) (x : Nat × Nat) : Prop :=
  ∃ b, p[x.1]? = some b ∧ ((∃ s, b.code[x.2]? = some s ∧ MS x.1 x.2 ∧ UsesS s v) ∨ (x.2 = b.code.length ∧ ((b.test = (v : Int) ∧ MT x.1) ∨ (b.test = -1 ∧ b.th = -1 ∧ want.testBit v = true))))

/-- from a place one comes, without its being set, to where it is used by what is needed -/
inductive LvM (p : List Bk) (want : Nat) (MS : Nat → Nat → Prop) (MT : Nat → Prop) (v : Nat) : Nat × Nat → Prop
  | here {x : Nat × Nat} : UsM p want MS MT v x → LvM p want MS MT v x
  | on {x y : Nat × Nat} : Nx p v x y → LvM p want MS MT v y → LvM p want MS MT v x

/-- T1: what is asked of needed steps and tests -/
structure ClM (p : List Bk) (want : Nat) (MS : Nat → Nat → Prop) (MT : Nat → Prop) : Prop where
  step : ∀ (i k : Nat) (b : Bk) (s : St), p[i]? = some b → b.code[k]? = some s → LvM p want MS MT s.to.toNat (i, k + 1) → MS i k
  test : ∀ (i j : Nat) (b : Bk), p[i]? = some b → 0 ≤ b.test → HangP (nxP p) i j → (MT j ∨ ∃ k, MS j k) → MT i

/-- T1: the smallest ones -/
structure Ndd (p : List Bk) (want : Nat) (MS : Nat → Nat → Prop) (MT : Nat → Prop) : Prop where
  cl : ClM p want MS MT
  least : ∀ (MS' : Nat → Nat → Prop) (MT' : Nat → Prop), ClM p want MS' MT' → (∀ i k, MS i k → MS' i k) ∧ ∀ i, MT i → MT' i

section
variable {p : List Bk} {want : Nat} {MS MS' : Nat → Nat → Prop} {MT MT' : Nat → Prop}

theorem LvM.mono {a b v : Nat} (hw : ∀ v, a.testBit v = true → b.testBit v = true) (hS : ∀ i k, MS i k → MS' i k) (hT : ∀ i, MT i → MT' i) {x : Nat × Nat} (h : LvM p a MS MT v x) : LvM p b MS' MT' v x := by
  induction h with
  | here h1 =>
    obtain ⟨bk, hb, h2⟩ := h1
    refine .here ⟨bk, hb, h2.imp (fun ⟨s, h3, h4, h5⟩ => ⟨s, h3, hS _ _ h4, h5⟩) fun ⟨h3, h4⟩ => ⟨h3, h4.imp (fun ⟨h5, h6⟩ => ⟨h5, hT _ h6⟩) fun ⟨h5, h6, h7⟩ => ⟨h5, h6, hw _ h7⟩⟩⟩
  | on h1 _ ih => exact .on h1 ih

theorem LvM.lv {v : Nat} {x : Nat × Nat} (h : LvM p want MS MT v x) : Lv p want v x := by
  induction h with
  | here h1 =>
    obtain ⟨bk, hb, h2⟩ := h1
    exact .here ⟨bk, hb, h2.imp (fun ⟨s, h3, _, h5⟩ => ⟨s, h3, h5⟩) fun ⟨h3, h4⟩ => ⟨h3, h4.imp (fun h => h.1) id⟩⟩
  | on h1 _ ih => exact .on h1 ih

/-- more asked for: more needed -/
theorem Ndd.more {a b : Nat} (hw : ∀ v, a.testBit v = true → b.testBit v = true) (h : Ndd p a MS MT) (h2 : Ndd p b MS' MT') : (∀ i k, MS i k → MS' i k) ∧ ∀ i, MT i → MT' i :=
  h.least MS' MT' ⟨fun i k bk s hb hs hl => h2.cl.step i k bk s hb hs (hl.mono hw (fun _ _ h => h) fun _ h => h), h2.cl.test⟩

theorem Ndd.same (h : Ndd p want MS MT) (h2 : Ndd p want MS' MT') : (∀ i k, MS i k ↔ MS' i k) ∧ ∀ i, MT i ↔ MT' i :=
  ⟨fun i k => ⟨(h.least _ _ h2.cl).1 i k, (h2.least _ _ h.cl).1 i k⟩, fun i => ⟨(h.least _ _ h2.cl).2 i, (h2.least _ _ h.cl).2 i⟩⟩

/-- what is needed is needed for something -/
theorem Ndd.sup (h : Ndd p want MS MT) {i k : Nat} (hk : MS i k) : ∃ b s, p[i]? = some b ∧ b.code[k]? = some s ∧ LvM p want MS MT s.to.toNat (i, k + 1) := by
  have hc : ClM p want (fun i k => MS i k ∧ ∃ b s, p[i]? = some b ∧ b.code[k]? = some s ∧ LvM p want MS MT s.to.toNat (i, k + 1)) MT := by
    refine ⟨fun i k b s hb hs hl => ?_, fun i j b hb ht hh hn => h.cl.test i j b hb ht hh (hn.imp id fun ⟨k, hk, _⟩ => ⟨k, hk⟩)⟩
    have h1 := hl.mono (a := want) (b := want) (fun _ h => h) (MS' := MS) (MT' := MT) (fun _ _ h => h.1) fun _ h => h
    exact ⟨h.cl.step i k b s hb hs h1, b, s, hb, hs, h1⟩
  exact ((h.least _ _ hc).1 i k hk).2

/-- tests that are needed are tests -/
theorem Ndd.tst (h : Ndd p want MS MT) {i : Nat} (hi : MT i) : ∃ b, p[i]? = some b ∧ 0 ≤ b.test := by
  have hc : ClM p want MS (fun i => MT i ∧ ∃ b, p[i]? = some b ∧ 0 ≤ b.test) := by
    refine ⟨fun i k b s hb hs hl => h.cl.step i k b s hb hs (hl.mono (fun _ h => h) (fun _ _ h => h) fun _ h => h.1), fun i j b hb ht hh hn => ⟨h.cl.test i j b hb ht hh (hn.imp (fun h => h.1) id), b, hb, ht⟩⟩
  exact ((h.least _ _ hc).2 i hi).2

/-! ### Ways -/

theorem last_lt {Q : Nat → Prop} : ∀ {m : Nat}, (∃ t, t < m ∧ Q t) → ∃ t, t < m ∧ Q t ∧ ∀ s, t < s → s < m → ¬ Q s
  | 0, ⟨t, ht, _⟩ => by omega
  | m + 1, ⟨t, ht, hq⟩ => by
    by_cases hm : Q m
    · exact ⟨m, by omega, hm, fun s h1 h2 => by omega⟩
    · have htm : t ≠ m := fun e => hm (e ▸ hq)
      obtain ⟨u, h1, h2, h3⟩ := last_lt (m := m) ⟨t, by omega, hq⟩
      exact ⟨u, by omega, h2, fun s h4 h5 => by
        by_cases e : s = m
        · rw [e]; exact hm
        · exact h3 s h4 (by omega)⟩

section
variable {nx : List (List Int)}

/-- behind the last time that one is at a node -/
theorem rea_last {i e : Nat} (h : Rea nx (-1) i e) : e = i ∨ ∃ j, j ∈ sc nx i ∧ Rea nx (i : Int) j e := by
  induction h with
  | here _ => exact .inl rfl
  | @step a b _ hb _ ih =>
    by_cases hbi : b = i
    · exact .inl hbi
    · rcases ih with rfl | ⟨j, hj, hr⟩
      · exact .inr ⟨b, hb, .here (by omega)⟩
      · exact .inr ⟨j, hj, hr.step hb (by omega)⟩

/-- past a node, or from it on -/
theorem rea_via {wo : Int} {z e : Nat} (k : Nat) (h : Rea nx wo z e) : Rea nx (k : Int) z e ∨ Rea nx wo k e := by
  induction h with
  | here hz =>
    by_cases hk : z = k
    · subst hk; exact .inr (.here hz)
    · exact .inl (.here (by omega))
  | @step a b _ hb hw ih =>
    by_cases hk : b = k
    · subst hk; exact .inr (.here hw)
    · rcases ih with ih | ih
      · exact .inl (ih.step hb (by omega))
      · exact .inr (ih.step hb hw)

theorem sure_anti {i j : Nat} (h1 : SureP nx i j) (h2 : SureP nx j i) : i = j := by
  rcases h1.2 with e | n1
  · exact e
  rcases h2.2 with e | n2
  · exact e.symm
  by_cases hij : i = j
  · exact hij
  · exfalso
    obtain ⟨e, he, hx⟩ := h1.1
    rcases rea_last he with rfl | ⟨z, hz, hr⟩
    · exact n1 ⟨_, .here (by omega), hx⟩
    · rcases rea_via j hr with h3 | h3
      · exact n1 ⟨e, h3.back (by omega) hz, hx⟩
      · exact n2 ⟨e, h3, hx⟩

/-- on a node with one way on nothing hangs -/
theorem hang_lone {i j0 : Nat} (hall : ∀ j ∈ sc nx i, j = j0) (he : EndP nx (-1) i) (k : Nat) : ¬ HangP nx i k := by
  intro hh
  obtain ⟨j, hj, _⟩ := id hh
  have := hall j hj
  subst this
  obtain ⟨e, h1, h2⟩ := he
  rcases rea_last h1 with rfl | ⟨z, hz, hr⟩
  · rw [h2] at hj; cases hj
  · have := hall z hz
    subst this
    have hne : (z : Int) ≠ (i : Int) := hr.start
    exact hang_one hj hall (by omega) (fun hs => by
      rcases hs.2 with e2 | hn
      · omega
      · exact hn ⟨e, hr, h2⟩) k hh

/-- T2: the immediate postdominator -/
def IpdP (nx : List (List Int)) (i j : Nat) : Prop := j ≠ i ∧ SureP nx i j ∧ ∀ k, k ≠ i → SureP nx i k → SureP nx j k

theorem IpdP.one {i j k : Nat} (h : IpdP nx i j) (h2 : IpdP nx i k) : j = k := sure_anti (h.2.2 k h2.1 h2.2.1) (h2.2.2 j h.1 h.2.1)

theorem rea_path {wo : Int} {f : Nat → Nat} : ∀ {m : Nat}, (∀ s, s < m → f (s + 1) ∈ sc nx (f s)) → (∀ s, s ≤ m → (f s : Int) ≠ wo) → Rea nx wo (f 0) (f m)
  | 0, _, h => .here (h 0 (Nat.le_refl _))
  | m + 1, hp, h => (rea_path (m := m) (fun s hs => hp s (by omega)) fun s hs => h s (by omega)).step (hp m (by omega)) (h (m + 1) (Nat.le_refl _))

end

theorem sc_bk {i : Nat} {b : Bk} (hb : p[i]? = some b) : sc (nxP p) i = (nxB b).map Int.toNat := sc_at (by unfold nxP; rw [List.getElem?_map, hb]; rfl)

theorem sc_some {i j : Nat} (h : j ∈ sc (nxP p) i) : ∃ b, p[i]? = some b := by
  rcases Nat.lt_or_ge i p.length with hi | hi
  · exact ⟨_, List.getElem?_eq_getElem hi⟩
  · exfalso
    unfold sc at h
    rw [List.getD_eq_getElem?_getD, List.getElem?_eq_none (by unfold nxP; rw [List.length_map]; exact hi)] at h
    simp at h

/-- what hangs on a test that is not needed is not needed, nor what one meets ahead of what comes for sure -/
theorem path_no {n : Nat} (hok : ckProg n p = 0) (hcl : ClM p want MS MT) {f : Nat → Nat} : ∀ (m : Nat), 1 ≤ m → (∀ s, s < m → f (s + 1) ∈ sc (nxP p) (f s)) → (∀ s, s ≤ m → EndP (nxP p) (-1) (f s)) → ¬ MT (f 0) →
    (∀ s, 1 ≤ s → s ≤ m → ¬ (f s ≠ f 0 ∧ SureP (nxP p) (f 0) (f s))) → ¬ (MT (f m) ∨ ∃ k, MS (f m) k) := by
  intro m
  induction m using Nat.strongRecOn with
  | _ m ih =>
    intro h1 hp he h0 hno hnd
    obtain ⟨t, ht, hq, hlast⟩ := last_lt (m := m) (Q := fun t => ¬ (f m ≠ f t ∧ SureP (nxP p) (f t) (f m))) ⟨0, by omega, hno m h1 (Nat.le_refl _)⟩
    have hstep := hp t ht
    have hsure : SureP (nxP p) (f (t + 1)) (f m) := by
      by_cases e : t + 1 = m
      · rw [e]; exact ⟨he m (Nat.le_refl _), .inl rfl⟩
      · exact (Classical.not_not.1 (hlast (t + 1) (by omega) (by omega))).2
    have hh : HangP (nxP p) (f t) (f m) := by
      refine ⟨f (t + 1), hstep, hsure, ?_⟩
      by_cases e : f t = f m
      · exact .inl e
      · exact .inr fun hs => hq ⟨fun e2 => e e2.symm, hs⟩
    obtain ⟨b, hb⟩ := sc_some hstep
    have hbk := ckProg_at hok hb
    have hte : 0 ≤ b.test := by
      rcases hbk.test with h | h
      · exfalso
        refine hang_lone (j0 := b.th.toNat) (fun j hj => ?_) (he t (by omega)) (f m) hh
        rw [sc_bk hb] at hj
        obtain ⟨x, hx, rfl⟩ := List.mem_map.1 hj
        unfold nxB at hx
        rw [if_neg (show ¬ (b.test ≠ -1 ∧ b.th ≠ b.el) from fun h2 => h2.1 h), List.append_nil] at hx
        split at hx
        · cases hx
        · rw [List.mem_singleton.1 hx]
      · exact h.1
    have hmt := hcl.test (f t) (f m) b hb hte hh hnd
    rcases Nat.eq_zero_or_pos t with e | e
    · subst e; exact h0 hmt
    · exact ih t ht e (fun s hs => hp s (by omega)) (fun s hs => he s (by omega)) h0 (fun s h2 h3 => hno s h2 (by omega)) (.inl hmt)

/-! ### The sliced program -/

/-- of steps from step k of block i on those that are needed -/
inductive KeepM (MS : Nat → Nat → Prop) (i : Nat) : Nat → List St → List St → Prop
  | nil (k : Nat) : KeepM MS i k [] []
  | keep {k : Nat} {s : St} {c c' : List St} : MS i k → KeepM MS i (k + 1) c c' → KeepM MS i k (s :: c) (s :: c')
  | drop {k : Nat} {s : St} {c c' : List St} : ¬ MS i k → KeepM MS i (k + 1) c c' → KeepM MS i k (s :: c) c'

theorem KeepM.sub {i : Nat} {k : Nat} {c c' : List St} (h : KeepM MS i k c c') : c'.length ≤ c.length ∧ ∀ s ∈ c', s ∈ c := by
  induction h with
  | nil k => exact ⟨Nat.le_refl _, fun s h => h⟩
  | keep _ _ ih => exact ⟨by simp; exact ih.1, fun s hs => by
      rcases List.mem_cons.1 hs with rfl | hs
      · exact List.mem_cons_self ..
      · exact List.mem_cons_of_mem _ (ih.2 s hs)⟩
  | drop _ _ ih => exact ⟨Nat.le_trans ih.1 (by simp), fun s hs => List.mem_cons_of_mem _ (ih.2 s hs)⟩

theorem KeepM.none {i : Nat} {k : Nat} {c c' : List St} (h : KeepM MS i k c c') (hn : ∀ k, ¬ MS i k) : c' = [] := by
  induction h with
  | nil _ => rfl
  | keep h1 _ _ => exact absurd h1 (hn _)
  | drop _ _ ih => exact ih

theorem KeepM.all {i : Nat} (hn : ∀ k, ¬ MS i k) : ∀ (c : List St) (k : Nat), KeepM MS i k c []
  | [], k => .nil k
  | s :: c, k => .drop (hn k) (KeepM.all hn c (k + 1))

theorem stV_agrM {n i k : Nat} {b : Bk} {s : St} {a a' : List Int} (hb : p[i]? = some b) (hs : b.code[k]? = some s) (hm : MS i k) (hc : ckStep n n s.op s.to s.a s.b s.v = 0) (h : Agr n (fun v => LvM p want MS MT v (i, k)) a a') : stV a s a = stV a' s a' := by
  obtain ⟨_, hcase⟩ := ckStep_cases hc
  have use : ∀ v, UsesS s v → LvM p want MS MT v (i, k) := fun v hu => .here ⟨b, hb, .inl ⟨s, hs, hm, hu⟩⟩
  unfold stV
  rcases hcase with ⟨h1, _⟩ | ⟨h1, h2, h3⟩ | ⟨h1, h2, h3, h4, h5, h6⟩
  · rw [if_pos h1, if_pos h1]
  · rw [if_neg (by omega), if_pos h1, if_neg (by omega), if_pos h1]
    exact h s.v.toNat (by omega) (use _ (.inl ⟨h1, by omega⟩))
  · rw [if_neg (by omega), if_neg (by omega), if_neg (by omega), if_neg (by omega), h s.a.toNat (by omega) (use _ (.inr ⟨h1, .inl (by omega)⟩)), h s.b.toNat (by omega) (use _ (.inr ⟨h1, .inr (by omega)⟩))]

theorem lvM_step {v i k : Nat} {b : Bk} {s : St} (hb : p[i]? = some b) (hs : b.code[k]? = some s) (h : s.to ≠ (v : Int)) (hl : LvM p want MS MT v (i, k + 1)) : LvM p want MS MT v (i, k) := .on ⟨b, hb, .inl ⟨s, hs, h, rfl⟩⟩ hl

theorem keep_do {n i : Nat} {b : Bk} (hcl : ClM p want MS MT) (hb : p[i]? = some b) : ∀ {k : Nat} {c c' : List St}, KeepM MS i k c c' → b.code.drop k = c → k ≤ b.code.length → ckStepsF n n c = 0 → ∀ {a a' : List Int}, a.length = n → a'.length = n →
    Agr n (fun v => LvM p want MS MT v (i, k)) a a' → Agr n (fun v => LvM p want MS MT v (i, b.code.length)) (doS c a) (doS c' a') := by
  intro k c c' h
  induction h with
  | nil k =>
    intro hd hk _ a a' _ _ h
    have : b.code.length ≤ k := by
      rcases Nat.lt_or_ge k b.code.length with hl | hl
      · have := congrArg List.length hd
        rw [List.length_drop] at this
        simp at this
        omega
      · exact hl
    rw [show b.code.length = k by omega]
    exact h
  | @keep k s c c' hm _ ih =>
    intro hd hk hc a a' hl hl' h
    have hs : b.code[k]? = some s := by
      have := congrArg (fun l => l[0]?) hd
      simpa [List.getElem?_drop] using this
    have hkl := (List.getElem?_eq_some_iff.1 hs).1
    have h0 : ckStep n n s.op s.to s.a s.b s.v = 0 := ckStepsF_at hc (i := 0) (s := s) (by simp)
    have h1 : ckStepsF n n c = 0 := by
      unfold ckStepsF at hc
      rwa [if_pos h0] at hc
    obtain ⟨⟨t0, t1⟩, _⟩ := ckStep_cases h0
    rw [doS, doS]
    refine ih (by have := drop_at hs; rw [hd] at this; injection this with _ this; exact this.symm) (by omega) h1 (by simp [hl]) (by simp [hl']) ?_
    intro v hv hlv
    rw [getD_set _ _ _ _ (by omega), getD_set _ _ _ _ (by omega)]
    split
    · exact stV_agrM hb hs hm h0 h
    · exact h v hv (lvM_step hb hs (by omega) hlv)
  | @drop k s c c' hm _ ih =>
    intro hd hk hc a a' hl hl' h
    have hs : b.code[k]? = some s := by
      have := congrArg (fun l => l[0]?) hd
      simpa [List.getElem?_drop] using this
    have hkl := (List.getElem?_eq_some_iff.1 hs).1
    have h0 : ckStep n n s.op s.to s.a s.b s.v = 0 := ckStepsF_at hc (i := 0) (s := s) (by simp)
    have h1 : ckStepsF n n c = 0 := by
      unfold ckStepsF at hc
      rwa [if_pos h0] at hc
    obtain ⟨⟨t0, t1⟩, _⟩ := ckStep_cases h0
    rw [doS]
    refine ih (by have := drop_at hs; rw [hd] at this; injection this with _ this; exact this.symm) (by omega) h1 (by simp [hl]) hl' ?_
    intro v hv hlv
    rw [getD_set _ _ _ _ (by omega)]
    split
    · rename_i e
      subst e
      exact absurd (hcl.step i k b s hb hs hlv) hm
    · exact h v hv (lvM_step hb hs (by omega) hlv)

/-- T2: one block of the sliced program: where the test is not needed (also where there is none) one goes to the immediate postdominator -/
structure SlB (p : List Bk) (MS : Nat → Nat → Prop) (MT : Nat → Prop) (i : Nat) (b b' : Bk) : Prop where
  code : KeepM MS i 0 b.code b'.code
  keep : MT i → b'.test = b.test ∧ b'.th = b.th ∧ b'.el = b.el
  cut : ¬ MT i → b'.test = -1 ∧ b'.el = 0 ∧ ((b'.th = -1 ∧ ∀ j, ¬ IpdP (nxP p) i j) ∨ ∃ j : Nat, b'.th = (j : Int) ∧ IpdP (nxP p) i j)

/-- T2: the sliced program -/
structure SlP (p : List Bk) (MS : Nat → Nat → Prop) (MT : Nat → Prop) (q : List Bk) : Prop where
  len : q.length = p.length
  blk : ∀ (i : Nat) (b : Bk), p[i]? = some b → ∃ b', q[i]? = some b' ∧ SlB p MS MT i b b'

theorem manyS_le2 : ∀ {p q : List Bk}, q.length = p.length → (∀ (i : Nat) (b : Bk), p[i]? = some b → ∃ b', q[i]? = some b' ∧ b'.code.length ≤ b.code.length) → manyS q ≤ manyS p
  | [], [], _, _ => Nat.le_refl _
  | [], _ :: _, h, _ => by simp at h
  | _ :: _, [], h, _ => by simp at h
  | a :: p, c :: q, h, hb => by
    obtain ⟨b', h1, h2⟩ := hb 0 a rfl
    simp at h1
    subst h1
    have := manyS_le2 (p := p) (q := q) (by simpa using h) fun i b hi => by
      obtain ⟨b', h3, h4⟩ := hb (i + 1) b (by simpa using hi)
      exact ⟨b', by simpa using h3, h4⟩
    simp only [manyS]
    omega

/-- it may be -/
theorem SlP.ok {n : Nat} {q : List Bk} (hok : ckProg n p = 0) (h : SlP p MS MT q) : ckProg n q = 0 := by
  obtain ⟨b1, b2, b3, b4, b5, b6⟩ := ckProg_bd hok
  have hl := h.len
  refine ckProg_of b1 b2 (by omega) (by omega) (Nat.le_trans (manyS_le2 hl fun i b hb => ?_) b5) (ckBks_of fun x hx => ?_)
  · obtain ⟨b', h1, h2⟩ := h.blk i b hb
    exact ⟨b', h1, h2.code.sub.1⟩
  · obtain ⟨i, hi, rfl⟩ := List.getElem_of_mem hx
    have hpi : p[i]? = some p[i] := List.getElem?_eq_getElem (by omega)
    obtain ⟨b', h1, h2⟩ := h.blk i _ hpi
    have hk := ckProg_at hok hpi
    rw [List.getElem?_eq_getElem hi] at h1
    injection h1 with h1
    rw [h1, hl]
    have hcode : ckStepsF n n b'.code = 0 := ckStepsF_of fun s hs => ckStepsF_mem hk.code (h2.code.sub.2 s hs)
    rcases Classical.em (MT i) with hc | hc
    · obtain ⟨e1, e2, e3⟩ := h2.keep hc
      exact ckBk_of (n := p.length) ⟨hcode, by rw [e1]; exact hk.test, by rw [e1, e2]; exact hk.th, by rw [e1, e3]; exact hk.el⟩
    · obtain ⟨e1, e2, e3⟩ := h2.cut hc
      refine ckBk_of (n := p.length) ⟨hcode, .inl e1, ?_, fun h3 => by omega⟩
      rcases e3 with ⟨e3, _⟩ | ⟨j, e3, e4⟩
      · exact .inr ⟨e3, e1⟩
      · have hw := nxP_way hok
        have : j < (nxP p).length := e4.2.1.lt hw (by unfold nxP; rw [List.length_map]; omega)
        unfold nxP at this
        rw [List.length_map] at this
        exact .inl (by omega)

end

end Go.Proofs.Ytfhnhbkdhdocjaa

/-
  WEISER's theorem: a program without what is not needed stops with the same in what is asked, after no more blocks: no program's text.
-/

namespace Go.Proofs.Ytfhnhbkdhdocjaa
set_option linter.unusedSimpArgs false
set_option linter.unusedVariables false

/-- a run from block i on that stops: the values behind it, the blocks -/
inductive RnP (p : List Bk) : Nat → List Int → List Int → List Nat → Prop
  | stop {i : Nat} {b : Bk} {v : List Int} : p[i]? = some b → goB b (doS b.code v) = -1 → RnP p i v (doS b.code v) [i]
  | go {i j : Nat} {b : Bk} {v x : List Int} {l : List Nat} : p[i]? = some b → goB b (doS b.code v) = (j : Int) → RnP p j (doS b.code v) x l → RnP p i v x (i :: l)

theorem rn_of {n : Nat} {p : List Bk} (hok : ckProg n p = 0) : ∀ (f i : Nat) (v x : List Int) (l : List Nat), i < p.length → goP p f (i : Int) v = some (x, l) → RnP p i v x l ∧ l.length ≤ f
  | 0, i, v, x, l, _, h => by rw [goP_zero] at h; cases h
  | f + 1, i, v, x, l, hi, h => by
    have hb := List.getElem?_eq_getElem hi
    generalize p[i] = b at hb
    rw [goP_step hb] at h
    rcases goB_lt (ckProg_at hok hb) (doS b.code v) with e | ⟨j, e, hj⟩
    · rw [e, goP_stop] at h
      simp at h
      obtain ⟨rfl, rfl⟩ := h
      exact ⟨.stop hb e, by simp⟩
    · rw [e] at h
      cases hg : goP p f (j : Int) (doS b.code v) with
      | none => rw [hg] at h; cases h
      | some z =>
        obtain ⟨x', l'⟩ := z
        rw [hg] at h
        simp at h
        obtain ⟨rfl, rfl⟩ := h
        obtain ⟨h1, h2⟩ := rn_of hok f j (doS b.code v) x' l' hj hg
        exact ⟨.go hb e h1, by simp; omega⟩

theorem RnP.run {p : List Bk} {i : Nat} {v x : List Int} {l : List Nat} (h : RnP p i v x l) : ∀ f, l.length ≤ f → goP p f (i : Int) v = some (x, l) := by
  induction h with
  | @stop i b v hb e =>
    intro f hf
    obtain ⟨f', rfl⟩ : ∃ f', f = f' + 1 := ⟨f - 1, by simp at hf; omega⟩
    rw [goP_step hb, e, goP_stop]
    rfl
  | @go i j b v x l hb e _ ih =>
    intro f hf
    obtain ⟨f', rfl⟩ : ∃ f', f = f' + 1 := ⟨f - 1, by simp at hf; omega⟩
    rw [goP_step hb, e, ih f' (by simp at hf; omega)]
    rfl

section
variable {p : List Bk} {want n : Nat} {MS : Nat → Nat → Prop} {MT : Nat → Prop}

theorem stop_end {b : Bk} {m : Nat} (hk : BkOk n m b) {x : List Int} (h : goB b x = -1) : b.test = -1 ∧ b.th = -1 := by
  obtain ⟨_, h2, h3, h4⟩ := hk
  unfold goB at h
  split at h
  · rename_i h5
    have := h4 h5.1
    omega
  · rcases h3 with h3 | h3
    · omega
    · exact ⟨h3.2, h3.1⟩

theorem lvM_stop {v i : Nat} {b : Bk} (hb : p[i]? = some b) (h1 : b.test = -1) (h2 : b.th = -1) (h : want.testBit v = true) : LvM p want MS MT v (i, b.code.length) := .here ⟨b, hb, .inr ⟨rfl, .inr ⟨h1, h2, h⟩⟩⟩

theorem lvM_next {v i j : Nat} {b : Bk} (hb : p[i]? = some b) (hj : (j : Int) ∈ nxB b) (hl : LvM p want MS MT v (j, 0)) : LvM p want MS MT v (i, b.code.length) := .on ⟨b, hb, .inr ⟨rfl, j, hj, rfl⟩⟩ hl

theorem nx_sc {i j : Nat} {b : Bk} (hb : p[i]? = some b) (hj : (j : Int) ∈ nxB b) : j ∈ sc (nxP p) i := by
  rw [sc_bk hb]
  exact List.mem_map.2 ⟨(j : Int), hj, Int.toNat_natCast j⟩

/-- from behind a test that is not needed on: to what comes for sure, or to the end -/
theorem skip (hok : ckProg n p = 0) (hcl : ClM p want MS MT) (hend : ∀ c, Rea (nxP p) (-1) 0 c → EndP (nxP p) (-1) c) {i : Nat} (hi : Rea (nxP p) (-1) 0 i) (hmt : ¬ MT i) {y : List Int} (hy : y.length = n) {c : Nat} {v x : List Int} {l : List Nat} (h : RnP p c v x l) :
    ∀ (f : Nat → Nat) (m : Nat), f 0 = i → 1 ≤ m → f m = c → (∀ s, s < m → f (s + 1) ∈ sc (nxP p) (f s)) → (∀ s, 1 ≤ s → s < m → ¬ (f s ≠ i ∧ SureP (nxP p) i (f s))) → v.length = n → Agr n (fun u => LvM p want MS MT u (c, 0)) v y →
      ((∀ d, ¬ (d ≠ i ∧ SureP (nxP p) i d)) ∧ x.length = n ∧ Agr n (fun u => want.testBit u = true) x y) ∨
      ∃ (d : Nat) (w : List Int) (l2 : List Nat), IpdP (nxP p) i d ∧ Rea (nxP p) (-1) 0 d ∧ RnP p d w x l2 ∧ l2.length ≤ l.length ∧ w.length = n ∧ Agr n (fun u => LvM p want MS MT u (d, 0)) w y := by
  -- at a block that comes for sure
  have sure : ∀ (c : Nat) (v : List Int) (l : List Nat) (f : Nat → Nat) (m : Nat), RnP p c v x l → f 0 = i → 1 ≤ m → f m = c → (∀ s, s < m → f (s + 1) ∈ sc (nxP p) (f s)) → (∀ s, 1 ≤ s → s < m → ¬ (f s ≠ i ∧ SureP (nxP p) i (f s))) → v.length = n → Agr n (fun u => LvM p want MS MT u (c, 0)) v y → (c ≠ i ∧ SureP (nxP p) i c) →
      ∃ (d : Nat) (w : List Int) (l2 : List Nat), IpdP (nxP p) i d ∧ Rea (nxP p) (-1) 0 d ∧ RnP p d w x l2 ∧ l2.length ≤ l.length ∧ w.length = n ∧ Agr n (fun u => LvM p want MS MT u (d, 0)) w y := by
    intro c v l f m hr h0 h1 hm hp hno hv hag hc
    have hrc : Rea (nxP p) (-1) 0 c := hi.trans (by rw [← h0, ← hm]; exact rea_path hp fun s _ => nat_ne _)
    refine ⟨c, v, l, ⟨hc.1, hc.2, fun k hk hs => ⟨hend c hrc, ?_⟩⟩, hrc, hr, Nat.le_refl _, hv, hag⟩
    by_cases hck : c = k
    · exact .inl hck
    · refine .inr fun ⟨e, he, hx⟩ => ?_
      have hic : Rea (nxP p) (k : Int) i c := by
        rw [← h0, ← hm]
        refine rea_path hp fun s hs2 => ?_
        intro e2
        have e3 : f s = k := by omega
        by_cases e4 : s = 0
        · subst e4; omega
        · by_cases e5 : s = m
          · subst e5; omega
          · exact hno s (by omega) (by omega) (by rw [e3]; exact ⟨hk, hs⟩)
      rcases hs.2 with e2 | e2
      · exact hk e2.symm
      · exact e2 ⟨e, hic.trans he, hx⟩
  -- a block that does not
  have pass : ∀ (c : Nat) (b : Bk) (v : List Int) (f : Nat → Nat) (m : Nat), p[c]? = some b → f 0 = i → 1 ≤ m → f m = c → (∀ s, s < m → f (s + 1) ∈ sc (nxP p) (f s)) → (∀ s, 1 ≤ s → s < m → ¬ (f s ≠ i ∧ SureP (nxP p) i (f s))) → v.length = n → Agr n (fun u => LvM p want MS MT u (c, 0)) v y → ¬ (c ≠ i ∧ SureP (nxP p) i c) →
      Agr n (fun u => LvM p want MS MT u (c, b.code.length)) (doS b.code v) y := by
    intro c b v f m hb h0 h1 hm hp hno hv hag hc
    have hnd := path_no hok hcl (f := f) m h1 hp (fun s hs => hend _ (hi.trans (by rw [← h0]; exact rea_path (fun t ht => hp t (by omega)) fun t _ => nat_ne _))) (by rw [h0]; exact hmt) (fun s h2 h3 => by
      rw [h0]
      by_cases e : s = m
      · rw [e, hm]; exact hc
      · exact hno s h2 (by omega))
    rw [hm] at hnd
    exact keep_do hcl hb (KeepM.all (fun k hk => hnd (.inr ⟨k, hk⟩)) b.code 0) rfl (Nat.zero_le _) (ckProg_at hok hb).code hv hy hag
  induction h with
  | @stop c b v hb e =>
    intro f m h0 h1 hm hp hno hv hag
    by_cases hc : c ≠ i ∧ SureP (nxP p) i c
    · exact .inr (sure c v _ f m (.stop hb e) h0 h1 hm hp hno hv hag hc)
    · have hk := ckProg_at hok hb
      obtain ⟨e1, e2⟩ := stop_end hk e
      refine .inl ⟨fun d ⟨hd, hs⟩ => ?_, by rw [doS_len]; exact hv, fun u hu hw => pass c b v f m hb h0 h1 hm hp hno hv hag hc u hu (lvM_stop hb e1 e2 hw)⟩
      have hic : Rea (nxP p) (d : Int) i c := by
        rw [← h0, ← hm]
        refine rea_path hp fun s hs2 => ?_
        intro e2
        have e3 : f s = d := by omega
        by_cases e4 : s = 0
        · subst e4; omega
        · by_cases e5 : s = m
          · subst e5; exact hc (by rw [← hm, e3]; exact ⟨hd, hs⟩)
          · exact hno s (by omega) (by omega) (by rw [e3]; exact ⟨hd, hs⟩)
      rcases hs.2 with e3 | e3
      · exact hd e3.symm
      · exact e3 ⟨c, hic, by rw [sc_bk hb, goB_end hk e]; rfl⟩
  | @go c j b v x l hb e hr ih =>
    intro f m h0 h1 hm hp hno hv hag
    by_cases hc : c ≠ i ∧ SureP (nxP p) i c
    · exact .inr (sure c v _ f m (.go hb e hr) h0 h1 hm hp hno hv hag hc)
    · have hk := ckProg_at hok hb
      have hj := goB_nx hk e
      have hp2 := pass c b v f m hb h0 h1 hm hp hno hv hag hc
      have hres := ih sure (fun s => if s ≤ m then f s else j) (m + 1) (by simp [h0]) (by omega) (by show (if m + 1 ≤ m then f (m + 1) else j) = j; rw [if_neg (by omega)]) (fun s hs => by
        by_cases e2 : s = m
        · subst e2
          simp only [Nat.le_refl, if_true, show ¬ s + 1 ≤ s by omega, if_false]
          rw [hm]
          exact nx_sc hb hj
        · simp only [show s ≤ m by omega, show s + 1 ≤ m by omega, if_true]
          exact hp s (by omega)) (fun s h2 h3 => by
        simp only [show s ≤ m by omega, if_true]
        by_cases e2 : s = m
        · rw [e2, hm]; exact hc
        · exact hno s h2 (by omega)) (by rw [doS_len]; exact hv) fun u hu hl => hp2 u hu (lvM_next hb hj hl)
      refine hres.imp id fun ⟨d, w, l2, g1, g2, g3, g4, g5⟩ => ⟨d, w, l2, g1, g2, g3, by simp; omega, g5⟩

/-- WEISER -/
theorem weiser {q : List Bk} (hok : ckProg n p = 0) (hcl : ClM p want MS MT) (hend : ∀ c, Rea (nxP p) (-1) 0 c → EndP (nxP p) (-1) c) (hsl : SlP p MS MT q) : ∀ (N i : Nat) (v v' x : List Int) (l : List Nat), l.length ≤ N → RnP p i v x l → Rea (nxP p) (-1) 0 i → v.length = n → v'.length = n →
    Agr n (fun u => LvM p want MS MT u (i, 0)) v v' → ∃ (y : List Int) (l' : List Nat), RnP q i v' y l' ∧ l'.length ≤ l.length ∧ x.length = n ∧ y.length = n ∧ Agr n (fun u => want.testBit u = true) x y
  | 0, i, v, v', x, l, hN, h, _, _, _, _ => by
    cases h <;> simp at hN
  | N + 1, i, v, v', x, l, hN, h, hi, hv, hv', hag => by
    cases h with
    | @stop _ b _ hb e =>
      obtain ⟨b', hb', hs⟩ := hsl.blk i b hb
      have hk := ckProg_at hok hb
      obtain ⟨e1, e2⟩ := stop_end hk e
      have hst : b'.test = -1 ∧ b'.th = -1 := by
        by_cases hmt : MT i
        · obtain ⟨k1, k2, k3⟩ := hs.keep hmt
          exact ⟨by omega, by omega⟩
        · obtain ⟨k1, k2, k3⟩ := hs.cut hmt
          refine ⟨k1, ?_⟩
          rcases k3 with k3 | ⟨j, k3, k4⟩
          · exact k3.1
          · exfalso
            rcases k4.2.1.2 with e3 | e3
            · exact k4.1 e3.symm
            · refine e3 ⟨i, .here ?_, by rw [sc_bk hb, goB_end hk e]; rfl⟩
              have := k4.1
              omega
      obtain ⟨k1, k2⟩ := hst
      have hd := keep_do hcl hb hs.code rfl (Nat.zero_le _) hk.code hv hv' hag
      refine ⟨doS b'.code v', [i], .stop hb' ?_, Nat.le_refl _, by rw [doS_len]; exact hv, by rw [doS_len]; exact hv', fun u hu hw => hd u hu (lvM_stop hb e1 e2 hw)⟩
      unfold goB
      rw [if_neg (by omega), k2]
    | @go _ j b _ _ l hb e hr =>
      obtain ⟨b', hb', hs⟩ := hsl.blk i b hb
      have hk := ckProg_at hok hb
      have hj := goB_nx hk e
      have hd := keep_do hcl hb hs.code rfl (Nat.zero_le _) hk.code hv hv' hag
      have hl1 : (doS b.code v).length = n := by rw [doS_len]; exact hv
      have hl2 : (doS b'.code v').length = n := by rw [doS_len]; exact hv'
      have hrj : Rea (nxP p) (-1) 0 j := hi.step (nx_sc hb hj) (nat_ne j)
      simp at hN
      by_cases hc : MT i
      · obtain ⟨k1, k2, k3⟩ := hs.keep hc
        have hg : goB b' (doS b'.code v') = (j : Int) := by
          rw [← e]
          unfold goB
          rw [k1, k2, k3]
          by_cases h0 : 0 ≤ b.test
          · have hmt : MT i := hc
            have htl : b.test.toNat < n := by rcases hk.test with h | h <;> omega
            rw [hd b.test.toNat htl (.here ⟨b, hb, .inr ⟨rfl, .inl ⟨by omega, hmt⟩⟩⟩)]
          · rw [if_neg (fun hh => h0 hh.1), if_neg (fun hh => h0 hh.1)]
        obtain ⟨y, l', h1, h2, h3, h4, h5⟩ := weiser hok hcl hend hsl N j _ _ x l hN hr hrj hl1 hl2 fun u hu hl => hd u hu (lvM_next hb hj hl)
        exact ⟨y, i :: l', .go hb' hg h1, by simp; omega, h3, h4, h5⟩
      · have hmt : ¬ MT i := hc
        obtain ⟨k1, k2, k3⟩ := hs.cut hmt
        have hgo : ∀ z, goB b' z = b'.th := fun z => by unfold goB; rw [if_neg (by omega)]
        rcases skip hok hcl hend hi hmt hl2 hr (fun s => if s = 0 then i else j) 1 (by simp) (Nat.le_refl _) (by simp) (fun s hs => by
          have : s = 0 := by omega
          subst this
          simp
          exact nx_sc hb hj) (fun s h2 h3 => by omega) hl1 (fun u hu hl => hd u hu (lvM_next hb hj hl)) with ⟨g1, g2, g3⟩ | ⟨d, w, l2, g1, g2, g3, g4, g5, g6⟩
        · have hth : b'.th = -1 := by
            rcases k3 with k3 | ⟨d, _, k4⟩
            · exact k3.1
            · exact absurd ⟨k4.1, k4.2.1⟩ (g1 d)
          exact ⟨doS b'.code v', [i], .stop hb' (by rw [hgo, hth]), by simp, g2, hl2, g3⟩
        · have hth : b'.th = (d : Int) := by
            rcases k3 with k3 | ⟨d', k3, k4⟩
            · exact absurd g1 (k3.2 d)
            · rw [k3, k4.one g1]
          obtain ⟨y, l', h1, h2, h3, h4, h5⟩ := weiser hok hcl hend hsl N d w _ x l2 (by omega) g3 g2 g5 hl2 g6
          exact ⟨y, i :: l', .go hb' (by rw [hgo, hth]) h1, by simp; omega, h3, h4, h5⟩

/-- WEISER: of runs -/
theorem weiser_go {q : List Bk} (hok : ckProg n p = 0) (hcl : ClM p want MS MT) (hend : ∀ c, Rea (nxP p) (-1) 0 c → EndP (nxP p) (-1) c) (hsl : SlP p MS MT q) {hv x : List Int} {l : List Nat} (hl : hv.length = n) (hg : goP p 200 0 hv = some (x, l)) :
    ∃ (y : List Int) (l' : List Nat), goP q 200 0 hv = some (y, l') ∧ l'.length ≤ l.length ∧ x.length = n ∧ y.length = n ∧ Agr n (fun u => want.testBit u = true) x y := by
  have hp0 := (ckProg_bd hok).2.2.1
  obtain ⟨h1, h2⟩ := rn_of hok 200 0 hv x l (by omega) hg
  obtain ⟨y, l', g1, g2, g3⟩ := weiser hok hcl hend hsl l.length 0 hv hv x l (Nat.le_refl _) h1 (.here (nat_ne 0)) hl hl fun _ _ _ => rfl
  exact ⟨y, l', g1.run 200 (by omega), g2, g3⟩

end

end Go.Proofs.Ytfhnhbkdhdocjaa

/-
  What is needed is never left out for not being live (K2, T2): no program's text.
-/

namespace Go.Proofs.Ytfhnhbkdhdocjaa
set_option linter.unusedSimpArgs false
set_option linter.unusedVariables false

section
variable {p q : List Bk} {want : Nat} {M M' : Nat → Nat → Prop} {MT : Nat → Prop}

theorem KeepM.shift {i : Nat} : ∀ {m : Nat} {c K : List St}, KeepM M i (m + 1) c K → (∀ k, m ≤ k → (M' i k ↔ M i (k + 1))) → KeepM M' i m c K
  | m, [], _, h, _ => by cases h; exact .nil m
  | m, s :: c, _, h, hm => by
    cases h with
    | keep h1 h2 => exact .keep ((hm m (Nat.le_refl _)).2 h1) (h2.shift fun k hk => hm k (by omega))
    | drop h1 h2 => exact .drop (fun h3 => h1 ((hm m (Nat.le_refl _)).1 h3)) (h2.shift fun k hk => hm k (by omega))

theorem KeepM.congr {i : Nat} {m : Nat} {c K : List St} (h : KeepM M i m c K) (hm : ∀ k, M' i k ↔ M i k) : KeepM M' i m c K := by
  induction h with
  | nil k => exact .nil k
  | keep h1 _ ih => exact .keep ((hm _).2 h1) ih
  | drop h1 _ ih => exact .drop (fun h3 => h1 ((hm _).1 h3)) ih

theorem KeepM.erase {i : Nat} : ∀ {c : List St} {m j : Nat} {K : List St}, KeepM M i m c K → j < c.length → ¬ M i (m + j) → (∀ k, k < m + j → (M' i k ↔ M i k)) → (∀ k, m + j ≤ k → (M' i k ↔ M i (k + 1))) → KeepM M' i m (c.eraseIdx j) K
  | [], _, _, _, _, hj, _, _, _ => by simp at hj
  | s :: c, m, 0, _, h, _, hn, _, h2 => by
    cases h with
    | keep h3 _ => exact absurd h3 hn
    | drop _ h4 => exact h4.shift fun k hk => h2 k (by omega)
  | s :: c, m, j + 1, _, h, hj, hn, h1, h2 => by
    simp at hj
    cases h with
    | keep h3 h4 => exact .keep ((h1 m (by omega)).2 h3) (h4.erase (j := j) hj (by rwa [show m + 1 + j = m + (j + 1) by omega]) (fun k hk => h1 k (by omega)) fun k hk => h2 k (by omega))
    | drop h3 h4 => exact .drop (fun h5 => h3 ((h1 m (by omega)).1 h5)) (h4.erase (j := j) hj (by rwa [show m + 1 + j = m + (j + 1) by omega]) (fun k hk => h1 k (by omega)) fun k hk => h2 k (by omega))

/-- marked steps, each marked for something -/
def SupM (p : List Bk) (want : Nat) (M : Nat → Nat → Prop) (MT : Nat → Prop) : Prop := ∀ i k, M i k → ∃ b s, p[i]? = some b ∧ b.code[k]? = some s ∧ LvM p want M MT s.to.toNat (i, k + 1)

/-- the marks without step k0 of block i0 -/
def offM (M : Nat → Nat → Prop) (i0 k0 : Nat) (i k : Nat) : Prop := if i = i0 then (if k < k0 then M i k else M i (k + 1)) else M i k

/-- a place without step k0 of block i0 -/
def offP (i0 k0 : Nat) (x : Nat × Nat) : Nat × Nat := (x.1, if x.1 = i0 then (if x.2 ≤ k0 then x.2 else x.2 - 1) else x.2)

theorem lvM_off {i0 k0 v : Nat} {b0 : Bk} {s0 : St} (hb : p[i0]? = some b0) (hs : b0.code[k0]? = some s0) (hn : ¬ M i0 k0) {x : Nat × Nat} (h : LvM p want M MT v x) : LvM (p.set i0 (dropS b0 k0)) want (offM M i0 k0) MT v (offP i0 k0 x) := by
  have hil := (List.getElem?_eq_some_iff.1 hb).1
  have hkl := (List.getElem?_eq_some_iff.1 hs).1
  have hme : (p.set i0 (dropS b0 k0))[i0]? = some (dropS b0 k0) := List.getElem?_set_self hil
  have hne : ∀ j, j ≠ i0 → (p.set i0 (dropS b0 k0))[j]? = p[j]? := fun j hj => List.getElem?_set_ne (Ne.symm hj)
  have hlen : (dropS b0 k0).code.length = b0.code.length - 1 := by show (b0.code.eraseIdx k0).length = _; rw [List.length_eraseIdx, if_pos hkl]
  have hget : ∀ l, (dropS b0 k0).code[l]? = if l < k0 then b0.code[l]? else b0.code[l + 1]? := fun l => List.getElem?_eraseIdx ..
  have hz : ∀ j, offP i0 k0 (j, 0) = (j, 0) := fun j => by unfold offP; simp
  induction h with
  | @here x h1 =>
    obtain ⟨bk, hbk, hu⟩ := h1
    by_cases hx : x.1 = i0
    · rw [hx, hb] at hbk
      injection hbk with hbk
      subst hbk
      obtain ⟨x1, x2⟩ := x
      simp only at hx hu
      subst hx
      refine .here ⟨dropS b0 k0, hme, ?_⟩
      rcases hu with ⟨s, h2, h3, h4⟩ | ⟨h2, h3⟩
      · have hxk : x2 ≠ k0 := fun e => hn (e ▸ h3)
        refine .inl ⟨s, ?_, ?_, h4⟩
        · unfold offP
          simp only [if_true]
          rw [hget]
          by_cases hlt : x2 < k0
          · rw [if_pos (show x2 ≤ k0 by omega), if_pos hlt]; exact h2
          · rw [if_neg (show ¬ x2 ≤ k0 by omega), if_neg (show ¬ x2 - 1 < k0 by omega), show x2 - 1 + 1 = x2 by omega]; exact h2
        · unfold offM offP
          simp only [if_true]
          by_cases hlt : x2 < k0
          · rw [if_pos (show x2 ≤ k0 by omega), if_pos hlt]; exact h3
          · rw [if_neg (show ¬ x2 ≤ k0 by omega), if_neg (show ¬ x2 - 1 < k0 by omega), show x2 - 1 + 1 = x2 by omega]; exact h3
      · refine .inr ⟨?_, h3⟩
        unfold offP
        simp only [if_true]
        rw [if_neg (show ¬ x2 ≤ k0 by omega), hlen, h2]
    · obtain ⟨x1, x2⟩ := x
      simp only at hx hu hbk
      have ho : offP i0 k0 (x1, x2) = (x1, x2) := by unfold offP; simp [hx]
      rw [ho]
      refine .here ⟨bk, by rw [hne _ hx]; exact hbk, ?_⟩
      simp only
      exact hu.imp (fun ⟨s, h2, h3, h4⟩ => ⟨s, h2, by unfold offM; rw [if_neg hx]; exact h3, h4⟩) id
  | @on x y h1 hl ih =>
    obtain ⟨bk, hbk, hu⟩ := h1
    by_cases hx : x.1 = i0
    · rw [hx, hb] at hbk
      injection hbk with hbk
      subst hbk
      obtain ⟨x1, x2⟩ := x
      simp only at hx hu
      subst hx
      rcases hu with ⟨s, h2, h3, h4⟩ | ⟨h2, j, h3, h4⟩
      · subst h4
        by_cases hxk : x2 = k0
        · have e1 : offP x1 k0 (x1, x2) = offP x1 k0 (x1, x2 + 1) := by
            unfold offP
            simp only [if_true]
            rw [if_pos (show x2 ≤ k0 by omega), if_neg (show ¬ x2 + 1 ≤ k0 by omega)]
            simp
          rw [e1]
          exact ih
        · refine .on ⟨dropS b0 k0, hme, .inl ⟨s, ?_, h3, ?_⟩⟩ ih
          · unfold offP
            simp only [if_true]
            rw [hget]
            by_cases hlt : x2 < k0
            · rw [if_pos (show x2 ≤ k0 by omega), if_pos hlt]; exact h2
            · rw [if_neg (show ¬ x2 ≤ k0 by omega), if_neg (show ¬ x2 - 1 < k0 by omega), show x2 - 1 + 1 = x2 by omega]; exact h2
          · unfold offP
            simp only [if_true]
            by_cases hlt : x2 < k0
            · rw [if_pos (show x2 ≤ k0 by omega), if_pos (show x2 + 1 ≤ k0 by omega)]
            · rw [if_neg (show ¬ x2 ≤ k0 by omega), if_neg (show ¬ x2 + 1 ≤ k0 by omega)]
              congr 1
              omega
      · subst h4
        rw [hz] at ih
        refine .on ⟨dropS b0 k0, hme, .inr ⟨?_, j, h3, rfl⟩⟩ ih
        unfold offP
        simp only [if_true]
        rw [if_neg (show ¬ x2 ≤ k0 by omega), hlen, h2]
    · obtain ⟨x1, x2⟩ := x
      simp only at hx hu hbk
      have ho : ∀ k, offP i0 k0 (x1, k) = (x1, k) := fun k => by unfold offP; simp [hx]
      rw [ho]
      refine .on ⟨bk, by rw [hne _ hx]; exact hbk, ?_⟩ ih
      rcases hu with ⟨s, h2, h3, h4⟩ | ⟨h2, j, h3, h4⟩
      · subst h4
        exact .inl ⟨s, h2, h3, by rw [ho]⟩
      · subst h4
        exact .inr ⟨h2, j, h3, by rw [hz]⟩

theorem sup_cut (h : SupM p want M MT) (hc : Cut want p q) {K : Nat → List St} (hK : ∀ (i : Nat) (b : Bk), p[i]? = some b → KeepM M i 0 b.code (K i)) : ∃ M', SupM q want M' MT ∧ ∀ (i : Nat) (b : Bk), q[i]? = some b → KeepM M' i 0 b.code (K i) := by
  obtain @⟨i0, k0, b0, s0, hb, hs, hd⟩ := hc
  have hil := (List.getElem?_eq_some_iff.1 hb).1
  have hkl := (List.getElem?_eq_some_iff.1 hs).1
  have hn : ¬ M i0 k0 := fun hm => by
    obtain ⟨b, s, h1, h2, h3⟩ := h i0 k0 hm
    rw [hb] at h1
    injection h1 with h1
    subst h1
    rw [hs] at h2
    injection h2 with h2
    subst h2
    exact hd h3.lv
  have hme : (p.set i0 (dropS b0 k0))[i0]? = some (dropS b0 k0) := List.getElem?_set_self hil
  have hne : ∀ j, j ≠ i0 → (p.set i0 (dropS b0 k0))[j]? = p[j]? := fun j hj => List.getElem?_set_ne (Ne.symm hj)
  have hget : ∀ l, (dropS b0 k0).code[l]? = if l < k0 then b0.code[l]? else b0.code[l + 1]? := fun l => List.getElem?_eraseIdx ..
  refine ⟨offM M i0 k0, fun i k hm => ?_, fun i b hbi => ?_⟩
  · by_cases hi : i = i0
    · subst hi
      unfold offM at hm
      rw [if_pos rfl] at hm
      by_cases hlt : k < k0
      · rw [if_pos hlt] at hm
        obtain ⟨b, s, h1, h2, h3⟩ := h i k hm
        rw [hb] at h1
        injection h1 with h1
        subst h1
        refine ⟨dropS b0 k0, s, hme, by rw [hget, if_pos hlt]; exact h2, ?_⟩
        have := lvM_off hb hs hn h3
        unfold offP at this
        simp only [if_true] at this
        rwa [if_pos (show k + 1 ≤ k0 by omega)] at this
      · rw [if_neg hlt] at hm
        obtain ⟨b, s, h1, h2, h3⟩ := h i (k + 1) hm
        rw [hb] at h1
        injection h1 with h1
        subst h1
        refine ⟨dropS b0 k0, s, hme, by rw [hget, if_neg hlt]; exact h2, ?_⟩
        have := lvM_off hb hs hn h3
        unfold offP at this
        simp only [if_true] at this
        rwa [if_neg (show ¬ k + 1 + 1 ≤ k0 by omega), show k + 1 + 1 - 1 = k + 1 by omega] at this
    · unfold offM at hm
      rw [if_neg hi] at hm
      obtain ⟨b, s, h1, h2, h3⟩ := h i k hm
      refine ⟨b, s, by rw [hne _ hi]; exact h1, h2, ?_⟩
      have := lvM_off hb hs hn h3
      unfold offP at this
      simpa [hi] using this
  · by_cases hi : i = i0
    · subst hi
      rw [hme] at hbi
      injection hbi with hbi
      subst hbi
      exact (hK i b0 hb).erase (j := k0) hkl (by rwa [Nat.zero_add]) (fun k hk => by unfold offM; rw [if_pos rfl, if_pos (by omega)]) fun k hk => by unfold offM; rw [if_pos rfl, if_neg (by omega)]
    · rw [hne _ hi] at hbi
      exact (hK i b hbi).congr fun k => by unfold offM; rw [if_neg hi]

theorem sup_cuts (hc : Cuts want p q) : ∀ {M : Nat → Nat → Prop} {K : Nat → List St}, SupM p want M MT → (∀ (i : Nat) (b : Bk), p[i]? = some b → KeepM M i 0 b.code (K i)) → ∀ (i : Nat) (b : Bk), q[i]? = some b → (K i).length ≤ b.code.length := by
  induction hc with
  | done p => exact fun h hK i b hb => (hK i b hb).sub.1
  | more h1 _ ih =>
    intro M K h hK
    obtain ⟨M', h2, h3⟩ := sup_cut h h1 hK
    exact ih h2 h3

/-- liveness keeps no less than what is needed -/
theorem cut_live {r : List Bk} {MS : Nat → Nat → Prop} (h : Ndd p want MS MT) (hs : SlP p MS MT r) (hc : Cuts want p q) {i : Nat} {b c : Bk} (hr : r[i]? = some b) (hq : q[i]? = some c) : b.code.length ≤ c.code.length := by
  have hl := hs.len
  have h2 : (r.getD i bk0).code.length ≤ c.code.length := sup_cuts hc (M := MS) (MT := MT) (K := fun i => (r.getD i bk0).code) (fun i k hk => h.sup hk) (fun i x hx => by
    obtain ⟨b', h1, h2⟩ := hs.blk i x hx
    show KeepM MS i 0 x.code (r.getD i bk0).code
    rw [List.getD_eq_getElem?_getD, h1]
    exact h2.code) i c hq
  rwa [List.getD_eq_getElem?_getD, hr] at h2

theorem cuts_code (hc : Cuts want p q) : ∀ (i : Nat) (b c : Bk), p[i]? = some b → q[i]? = some c → c.code.length ≤ b.code.length := by
  induction hc with
  | done p => intro i b c h1 h2; rw [h1] at h2; injection h2 with h2; subst h2; exact Nat.le_refl _
  | @more p q r h1 _ ih =>
    intro i b c hb hr
    obtain @⟨i0, k0, b0, s0, h2, h3, h4⟩ := h1
    by_cases hi : i0 = i
    · subst hi
      rw [h2] at hb
      injection hb with hb
      subst hb
      have := ih i0 (dropS b0 k0) c (List.getElem?_set_self (List.getElem?_eq_some_iff.1 h2).1) hr
      refine Nat.le_trans this ?_
      show (b0.code.eraseIdx k0).length ≤ _
      rw [List.length_eraseIdx]
      split <;> omega
    · exact ih i b c (by rw [List.getElem?_set_ne hi]; exact hb) hr

end

end Go.Proofs.Ytfhnhbkdhdocjaa

/-
  What is needed, found from below (T1): marks set as long as more is needed: no program's text.
-/

namespace Go.Proofs.Ytfhnhbkdhdocjaa
set_option linter.unusedSimpArgs false
set_option linter.unusedVariables false

/-- marked steps -/
def mkS (ms : List (List Bool)) (i k : Nat) : Prop := (ms.getD i []).getD k false = true

/-- marked tests -/
def mkT (tests : Nat) (i : Nat) : Prop := tests.testBit i = true

theorem lvM_bool (p : List Bk) (want : Nat) (MS : Nat → Nat → Prop) (MT : Nat → Prop) (v : Nat) (x : Nat × Nat) : ∃ b : Bool, b = true ↔ LvM p want MS MT v x := ⟨@decide (LvM p want MS MT v x) (Classical.propDecidable _), by rw [@decide_eq_true_eq _ (Classical.propDecidable _)]⟩

theorem mkS_set {ms : List (List Bool)} {i k : Nat} {r : List Bool} (hr : ms[i]? = some r) (hk : k < r.length) {j l : Nat} : mkS (ms.set i (r.set k true)) j l ↔ mkS ms j l ∨ (j = i ∧ l = k) := by
  have hil := (List.getElem?_eq_some_iff.1 hr).1
  unfold mkS
  by_cases hj : j = i
  · subst hj
    have e1 : (ms.set j (r.set k true)).getD j [] = r.set k true := by rw [List.getD_eq_getElem?_getD, List.getElem?_set_self hil]; rfl
    have e2 : ms.getD j [] = r := by rw [List.getD_eq_getElem?_getD, hr]; rfl
    rw [e1, e2]
    by_cases hl : l = k
    · subst hl
      have : (r.set l true).getD l false = true := by rw [List.getD_eq_getElem?_getD, List.getElem?_set_self hk]; rfl
      exact ⟨fun _ => .inr ⟨rfl, rfl⟩, fun _ => this⟩
    · have : (r.set k true).getD l false = r.getD l false := by rw [List.getD_eq_getElem?_getD, List.getD_eq_getElem?_getD, List.getElem?_set_ne (Ne.symm hl)]
      rw [this]
      simp [hl]
  · have : (ms.set i (r.set k true)).getD j [] = ms.getD j [] := by rw [List.getD_eq_getElem?_getD, List.getD_eq_getElem?_getD, List.getElem?_set_ne (Ne.symm hj)]
    rw [this]
    simp [hj]

theorem mkT_or {t i j : Nat} : mkT (t ||| 2 ^ i) j ↔ mkT t j ∨ j = i := by
  unfold mkT
  rw [bit_or_pow, Bool.or_eq_true, decide_eq_true_eq]
  constructor
  · exact fun h => h.imp id Eq.symm
  · exact fun h => h.imp id Eq.symm

/-- how many steps are not marked -/
def offS (ms : List (List Bool)) : Nat := (ms.map fun r => r.countP (fun b => !b)).sum

theorem countP_set {r : List Bool} : ∀ {k : Nat}, r[k]? = some false → (r.set k true).countP (fun b => !b) + 1 = r.countP (fun b => !b) := by
  induction r with
  | nil => intro k h; simp at h
  | cons a r ih =>
    intro k h
    cases k with
    | zero =>
      simp at h
      subst h
      simp
    | succ k =>
      have := ih (k := k) (by simpa using h)
      simp only [List.set_cons_succ, List.countP_cons]
      omega

theorem offS_set {r : List Bool} : ∀ {ms : List (List Bool)} {i k : Nat}, ms[i]? = some r → r[k]? = some false → offS (ms.set i (r.set k true)) + 1 = offS ms
  | [], _, _, h, _ => by simp at h
  | a :: ms, 0, k, h, hk => by
    simp at h
    subst h
    have := countP_set hk
    unfold offS
    simp only [List.set_cons_zero, List.map_cons, List.sum_cons]
    omega
  | a :: ms, i + 1, k, h, hk => by
    have := offS_set (ms := ms) (i := i) (by simpa using h) hk
    unfold offS at this ⊢
    simp only [List.set_cons_succ, List.map_cons, List.sum_cons]
    omega

/-- marks that are all needed -/
structure NdS (p : List Bk) (want : Nat) (ms : List (List Bool)) (t : Nat) : Prop where
  sl : ms.length = p.length
  rl : ∀ (i : Nat) (b : Bk) (r : List Bool), p[i]? = some b → ms[i]? = some r → r.length = b.code.length
  tl : ∀ i, t.testBit i = true → i < p.length
  low : ∀ MS MT, ClM p want MS MT → (∀ i k, mkS ms i k → MS i k) ∧ ∀ i, mkT t i → MT i

section
variable {p : List Bk} {want t : Nat} {ms : List (List Bool)}

theorem NdS.start (p : List Bk) (want : Nat) : NdS p want (p.map fun b => List.replicate b.code.length false) 0 := by
  refine ⟨by simp, fun i b r hb hr => ?_, fun i h => by simp at h, fun MS MT _ => ⟨fun i k h => ?_, fun i h => by unfold mkT at h; simp at h⟩⟩
  · rw [List.getElem?_map, hb] at hr
    injection hr with hr
    subst hr
    simp
  · exfalso
    unfold mkS at h
    rw [List.getD_eq_getElem?_getD (l := p.map _), List.getElem?_map] at h
    cases hp : p[i]? with
    | none => rw [hp] at h; simp at h
    | some b =>
      rw [hp] at h
      simp [List.getElem?_replicate] at h
      split at h <;> simp at h

theorem NdS.t8 (h : NdS p want ms t) (h8 : p.length ≤ 8) : t < 256 := Nat.lt_pow_two_of_testBit (n := 8) _ fun i hi => by
  cases e : t.testBit i with
  | false => rfl
  | true => have := h.tl i e; omega

theorem NdS.setS {i k : Nat} {b : Bk} {s : St} {r : List Bool} (h : NdS p want ms t) (hb : p[i]? = some b) (hs : b.code[k]? = some s) (hr : ms[i]? = some r) (hl : LvM p want (mkS ms) (mkT t) s.to.toNat (i, k + 1)) : NdS p want (ms.set i (r.set k true)) t := by
  have hrl := h.rl i b r hb hr
  have hk : k < r.length := by rw [hrl]; exact (List.getElem?_eq_some_iff.1 hs).1
  refine ⟨by rw [List.length_set]; exact h.sl, fun j b' r' hb' hr' => ?_, h.tl, fun MS MT hc => ⟨fun j l hm => ?_, (h.low MS MT hc).2⟩⟩
  · by_cases e : i = j
    · subst e
      rw [List.getElem?_set_self (List.getElem?_eq_some_iff.1 hr).1] at hr'
      injection hr' with hr'
      subst hr'
      rw [hb] at hb'
      injection hb' with hb'
      subst hb'
      rw [List.length_set]
      exact hrl
    · rw [List.getElem?_set_ne e] at hr'
      exact h.rl j b' r' hb' hr'
  · rcases (mkS_set hr hk).1 hm with hm | ⟨rfl, rfl⟩
    · exact (h.low MS MT hc).1 j l hm
    · obtain ⟨h1, h2⟩ := h.low MS MT hc
      exact hc.step _ _ b s hb hs (hl.mono (fun _ h => h) h1 h2)

theorem NdS.setT {i j : Nat} {b : Bk} (h : NdS p want ms t) (hb : p[i]? = some b) (ht : 0 ≤ b.test) (hh : HangP (nxP p) i j) (hn : mkT t j ∨ ∃ k, mkS ms j k) : NdS p want ms (t ||| 2 ^ i) := by
  refine ⟨h.sl, h.rl, fun l hl => ?_, fun MS MT hc => ⟨(h.low MS MT hc).1, fun l hl => ?_⟩⟩
  · rcases mkT_or.1 hl with h1 | rfl
    · exact h.tl l h1
    · exact (List.getElem?_eq_some_iff.1 hb).1
  · obtain ⟨h1, h2⟩ := h.low MS MT hc
    rcases mkT_or.1 hl with h3 | rfl
    · exact h2 l h3
    · exact hc.test l j b hb ht hh (hn.imp (h2 j) fun ⟨k, hk⟩ => ⟨k, h1 j k hk⟩)

/-- a pass: what was looked at is as it should be, where nothing was marked -/
structure NdP (p : List Bk) (want m0 : Nat) (ms : List (List Bool)) (t : Nat) (more : Bool) (DS : Nat → Nat → Prop) (DT : Nat → Nat → Prop) : Prop where
  nd : NdS p want ms t
  ss : more = false → ∀ (i k : Nat) (b : Bk) (s : St), DS i k → p[i]? = some b → b.code[k]? = some s → LvM p want (mkS ms) (mkT t) s.to.toNat (i, k + 1) → mkS ms i k
  tt : more = false → ∀ (i j : Nat) (b : Bk), DT i j → p[i]? = some b → 0 ≤ b.test → HangP (nxP p) i j → (mkT t j ∨ ∃ k, mkS ms j k) → mkT t i
  le : offS ms + fvW t p.length ≤ m0
  lt : more = true → offS ms + fvW t p.length < m0

variable {m0 : Nat} {more : Bool} {DS DS' : Nat → Nat → Prop} {DT DT' : Nat → Nat → Prop}

theorem NdP.start (h : NdS p want ms t) (hS : ∀ i k, ¬ DS i k) (hT : ∀ i j, ¬ DT i j) : NdP p want (offS ms + fvW t p.length) ms t false DS DT :=
  ⟨h, fun _ i k b s hd => absurd hd (hS i k), fun _ i j b hd => absurd hd (hT i j), Nat.le_refl _, fun h => (by cases h)⟩

theorem NdP.wide (h : NdP p want m0 ms t more DS DT) (hS : ∀ i k, DS' i k → DS i k) (hT : ∀ i j, DT' i j → DT i j) : NdP p want m0 ms t more DS' DT' :=
  ⟨h.nd, fun hm i k b s hd => h.ss hm i k b s (hS i k hd), fun hm i j b hd => h.tt hm i j b (hT i j hd), h.le, h.lt⟩

/-- a step that is marked, or that is not needed -/
theorem NdP.okS {i k : Nat} {b : Bk} {s : St} (h : NdP p want m0 ms t more DS DT) (hb : p[i]? = some b) (hs : b.code[k]? = some s) (hn : mkS ms i k ∨ ¬ LvM p want (mkS ms) (mkT t) s.to.toNat (i, k + 1)) (hD : ∀ j l, DS' j l → DS j l ∨ (j = i ∧ l = k)) : NdP p want m0 ms t more DS' DT :=
  ⟨h.nd, fun hm j l b' s' hd hb' hs' hl => by
    rcases hD j l hd with hd | ⟨rfl, rfl⟩
    · exact h.ss hm j l b' s' hd hb' hs' hl
    · rw [hb] at hb'
      injection hb' with hb'
      subst hb'
      rw [hs] at hs'
      injection hs' with hs'
      subst hs'
      rcases hn with hn | hn
      · exact hn
      · exact absurd hl hn, h.tt, h.le, h.lt⟩

theorem NdP.setS {i k : Nat} {b : Bk} {s : St} {r : List Bool} (h : NdP p want m0 ms t more DS DT) (hb : p[i]? = some b) (hs : b.code[k]? = some s) (hr : ms[i]? = some r) (hk : r[k]? = some false) (hl : LvM p want (mkS ms) (mkT t) s.to.toNat (i, k + 1)) : NdP p want m0 (ms.set i (r.set k true)) t true DS' DT' := by
  have := offS_set hr hk
  have := h.le
  exact ⟨h.nd.setS hb hs hr hl, fun hm => (by cases hm), fun hm => (by cases hm), by omega, fun _ => by omega⟩

theorem NdP.okT {i j : Nat} (h : NdP p want m0 ms t more DS DT) (hn : mkT t i ∨ ¬ HangP (nxP p) i j ∨ ¬ (mkT t j ∨ ∃ k, mkS ms j k)) (hD : ∀ a c, DT' a c → DT a c ∨ (a = i ∧ c = j)) : NdP p want m0 ms t more DS DT' :=
  ⟨h.nd, h.ss, fun hm a c b' hd hb' ht hh hx => by
    rcases hD a c hd with hd | ⟨rfl, rfl⟩
    · exact h.tt hm a c b' hd hb' ht hh hx
    · rcases hn with hn | hn | hn
      · exact hn
      · exact absurd hh hn
      · exact absurd hx hn, h.le, h.lt⟩

/-- a block without a test, or whose test is marked -/
theorem NdP.okB {i : Nat} {b : Bk} (h : NdP p want m0 ms t more DS DT) (hb : p[i]? = some b) (hn : b.test < 0 ∨ mkT t i) (hD : ∀ a c, DT' a c → DT a c ∨ a = i) : NdP p want m0 ms t more DS DT' :=
  ⟨h.nd, h.ss, fun hm a c b' hd hb' ht hh hx => by
    rcases hD a c hd with hd | rfl
    · exact h.tt hm a c b' hd hb' ht hh hx
    · rw [hb] at hb'
      injection hb' with hb'
      subst hb'
      rcases hn with hn | hn
      · omega
      · exact hn, h.le, h.lt⟩

theorem NdP.setT {i j : Nat} {b : Bk} (h : NdP p want m0 ms t more DS DT) (hb : p[i]? = some b) (ht : 0 ≤ b.test) (hh : HangP (nxP p) i j) (hn : mkT t j ∨ ∃ k, mkS ms j k) (hi : ¬ mkT t i) : NdP p want m0 ms (t ||| 2 ^ i) true DS' DT' := by
  have hf : t.testBit i = false := by
    cases e : t.testBit i with
    | false => rfl
    | true => exact absurd e hi
  have := fvW_less hf p.length (List.getElem?_eq_some_iff.1 hb).1
  have := h.le
  exact ⟨h.nd.setT hb ht hh hn, fun hm => (by cases hm), fun hm => (by cases hm), by omega, fun _ => by omega⟩

/-- nothing was marked: the smallest sets -/
theorem NdP.done (hok : ckWay (nxP p) = 0) (h : NdP p want m0 ms t false DS DT) (hS : ∀ (i k : Nat) (b : Bk) (s : St), p[i]? = some b → b.code[k]? = some s → DS i k) (hT : ∀ i j, i < p.length → j < p.length → DT i j) : Ndd p want (mkS ms) (mkT t) := by
  refine ⟨⟨fun i k b s hb hs hl => h.ss rfl i k b s (hS i k b s hb hs) hb hs hl, fun i j b hb ht hh hn => ?_⟩, h.nd.low⟩
  refine h.tt rfl i j b (hT i j (List.getElem?_eq_some_iff.1 hb).1 ?_) hb ht hh hn
  have := hh.lt hok
  unfold nxP at this
  rwa [List.length_map] at this

end

end Go.Proofs.Ytfhnhbkdhdocjaa

/-
  The sliced program is one alone (T2); its parts, a step and a block at a time: no program's text.
-/

namespace Go.Proofs.Ytfhnhbkdhdocjaa
set_option linter.unusedSimpArgs false
set_option linter.unusedVariables false

theorem KeepM.snocK {MS : Nat → Nat → Prop} {i k : Nat} {c c' : List St} (h : KeepM MS i k c c') {s : St} : ∀ {m : Nat}, m = k + c.length → MS i m → KeepM MS i k (c ++ [s]) (c' ++ [s]) := by
  induction h with
  | nil k => intro m hm hs; subst hm; exact .keep (by simpa using hs) (.nil _)
  | keep h1 _ ih => intro m hm hs; exact .keep h1 (ih (by rw [hm]; simp; omega) hs)
  | drop h1 _ ih => intro m hm hs; exact .drop h1 (ih (by rw [hm]; simp; omega) hs)

theorem KeepM.snocD {MS : Nat → Nat → Prop} {i k : Nat} {c c' : List St} (h : KeepM MS i k c c') {s : St} : ∀ {m : Nat}, m = k + c.length → ¬ MS i m → KeepM MS i k (c ++ [s]) c' := by
  induction h with
  | nil k => intro m hm hs; subst hm; exact .drop (by simpa using hs) (.nil _)
  | keep h1 _ ih => intro m hm hs; exact .keep h1 (ih (by rw [hm]; simp; omega) hs)
  | drop h1 _ ih => intro m hm hs; exact .drop h1 (ih (by rw [hm]; simp; omega) hs)

theorem KeepM.one {MS : Nat → Nat → Prop} {i k : Nat} {c c1 : List St} (h : KeepM MS i k c c1) : ∀ {c2 : List St}, KeepM MS i k c c2 → c1 = c2 := by
  induction h with
  | nil k => intro c2 h2; cases h2; rfl
  | keep h1 _ ih =>
    intro c2 h2
    cases h2 with
    | keep _ h3 => rw [ih h3]
    | drop h3 _ => exact absurd h1 h3
  | drop h1 _ ih =>
    intro c2 h2
    cases h2 with
    | keep h3 _ => exact absurd h3 h1
    | drop _ h3 => exact ih h3

theorem SlB.one {p : List Bk} {MS : Nat → Nat → Prop} {MT : Nat → Prop} {i : Nat} {b b1 b2 : Bk} (h1 : SlB p MS MT i b b1) (h2 : SlB p MS MT i b b2) : b1 = b2 := by
  have hc := h1.code.one h2.code
  obtain ⟨c1, t1, x1, e1⟩ := b1
  obtain ⟨c2, t2, x2, e2⟩ := b2
  simp only [] at hc
  subst hc
  by_cases hk : MT i
  · obtain ⟨a1, a2, a3⟩ := h1.keep hk
    obtain ⟨d1, d2, d3⟩ := h2.keep hk
    simp only [] at a1 a2 a3 d1 d2 d3
    rw [a1, a2, a3, d1, d2, d3]
  · obtain ⟨a1, a2, a3⟩ := h1.cut hk
    obtain ⟨d1, d2, d3⟩ := h2.cut hk
    simp only [] at a1 a2 a3 d1 d2 d3
    have hx : x1 = x2 := by
      rcases a3 with ⟨r1, r2⟩ | ⟨j, r1, r2⟩ <;> rcases d3 with ⟨s1, s2⟩ | ⟨l, s1, s2⟩
      · rw [r1, s1]
      · exact absurd s2 (r2 l)
      · exact absurd r2 (s2 j)
      · rw [r1, s1, r2.one s2]
    rw [a1, a2, d1, d2, hx]

theorem SlP.one {p q1 q2 : List Bk} {MS : Nat → Nat → Prop} {MT : Nat → Prop} (h1 : SlP p MS MT q1) (h2 : SlP p MS MT q2) : q1 = q2 := by
  apply List.ext_getElem?
  intro i
  rcases Nat.lt_or_ge i p.length with hi | hi
  · obtain ⟨b1, e1, s1⟩ := h1.blk i _ (List.getElem?_eq_getElem hi)
    obtain ⟨b2, e2, s2⟩ := h2.blk i _ (List.getElem?_eq_getElem hi)
    rw [e1, e2, s1.one s2]
  · rw [List.getElem?_eq_none (by rw [h1.len]; exact hi), List.getElem?_eq_none (by rw [h2.len]; exact hi)]

/-- the blocks done so far -/
structure SlT (p : List Bk) (MS : Nat → Nat → Prop) (MT : Nat → Prop) (k : Nat) (q : List Bk) : Prop where
  len : q.length = k
  blk : ∀ (i : Nat) (b : Bk), i < k → p[i]? = some b → ∃ b', q[i]? = some b' ∧ SlB p MS MT i b b'

theorem SlT.start (p : List Bk) (MS : Nat → Nat → Prop) (MT : Nat → Prop) : SlT p MS MT 0 [] := ⟨rfl, fun i b h => by omega⟩

theorem SlT.add {p q : List Bk} {MS : Nat → Nat → Prop} {MT : Nat → Prop} {k : Nat} {b b' : Bk} (h : SlT p MS MT k q) (hb : p[k]? = some b) (hs : SlB p MS MT k b b') : SlT p MS MT (k + 1) (q ++ [b']) := by
  refine ⟨by simp [h.len], fun i b2 hi h2 => ?_⟩
  by_cases e : i = k
  · subst e
    rw [hb] at h2
    injection h2 with h2
    subst h2
    exact ⟨b', by rw [List.getElem?_append_right (by rw [h.len]; exact Nat.le_refl _), h.len]; simp, hs⟩
  · obtain ⟨b3, h3, h4⟩ := h.blk i b2 (by omega) h2
    exact ⟨b3, by rw [List.getElem?_append_left (by rw [h.len]; omega)]; exact h3, h4⟩

theorem SlT.done {p q : List Bk} {MS : Nat → Nat → Prop} {MT : Nat → Prop} (h : SlT p MS MT p.length q) : SlP p MS MT q := ⟨h.len, fun i b hb => h.blk i b (List.getElem?_eq_some_iff.1 hb).1 hb⟩

/-- where the immediate one was looked for -/
def IpTo (nx : List (List Int)) (i j : Nat) (th : Int) : Prop := (th = -1 ∧ ∀ l, l < j → ¬ IpdP nx i l) ∨ ∃ l : Nat, l < j ∧ th = (l : Int) ∧ IpdP nx i l

theorem IpTo.start (nx : List (List Int)) (i : Nat) : IpTo nx i 0 (-1) := .inl ⟨rfl, fun l h => by omega⟩

theorem IpTo.no {nx : List (List Int)} {i j : Nat} {th : Int} (h : IpTo nx i j th) (hn : ¬ IpdP nx i j) : IpTo nx i (j + 1) th := by
  rcases h with ⟨h1, h2⟩ | ⟨l, h1, h2, h3⟩
  · refine .inl ⟨h1, fun l hl => ?_⟩
    by_cases e : l = j
    · subst e; exact hn
    · exact h2 l (by omega)
  · exact .inr ⟨l, by omega, h2, h3⟩

theorem IpTo.yes {nx : List (List Int)} {i j : Nat} (h : IpdP nx i j) : IpTo nx i (j + 1) (j : Int) := .inr ⟨j, by omega, rfl, h⟩

theorem IpTo.done {nx : List (List Int)} {i : Nat} {th : Int} (hc : ckWay nx = 0) (hi : i < nx.length) (h : IpTo nx i nx.length th) : (th = -1 ∧ ∀ j, ¬ IpdP nx i j) ∨ ∃ j : Nat, th = (j : Int) ∧ IpdP nx i j := by
  rcases h with ⟨h1, h2⟩ | ⟨l, h1, h2, h3⟩
  · exact .inl ⟨h1, fun j hj => h2 j (hj.2.1.lt hc hi) hj⟩
  · exact .inr ⟨l, h2, h3⟩

/-- the first of those that come for sure, as far as looked at -/
def FsTo (nx : List (List Int)) (i j k : Nat) : Prop := (j ≠ i ∧ SureP nx i j) ∧ ∀ l, l < k → l ≠ i → SureP nx i l → SureP nx j l

theorem FsTo.ipd {nx : List (List Int)} {i j : Nat} (hc : ckWay nx = 0) (hi : i < nx.length) : FsTo nx i j nx.length ↔ IpdP nx i j :=
  ⟨fun h => ⟨h.1.1, h.1.2, fun k hk hs => h.2 k (hs.lt hc hi) hk hs⟩, fun h => ⟨⟨h.1, h.2.1⟩, fun l _ hl hs => h.2.2 l hl hs⟩⟩

theorem FsTo.step {nx : List (List Int)} {i j k : Nat} : FsTo nx i j (k + 1) ↔ FsTo nx i j k ∧ (k = i ∨ ¬ SureP nx i k ∨ SureP nx j k) := by
  constructor
  · rintro ⟨h1, h2⟩
    refine ⟨⟨h1, fun l hl => h2 l (by omega)⟩, ?_⟩
    by_cases e : k = i
    · exact .inl e
    · by_cases e2 : SureP nx i k
      · exact .inr (.inr (h2 k (by omega) e e2))
      · exact .inr (.inl e2)
  · rintro ⟨⟨h1, h2⟩, h3⟩
    refine ⟨h1, fun l hl hn hs => ?_⟩
    by_cases e : l = k
    · subst e
      rcases h3 with h3 | h3 | h3
      · exact absurd h3 hn
      · exact absurd hs h3
      · exact h3
    · exact h2 l (by omega) hn hs

end Go.Proofs.Ytfhnhbkdhdocjaa

/-
  Required steps and tests as the program finds them (T1): sets of what is needed ahead of each block, with the tests as they are, then the tests; and the immediate postdominator (T2): no program's text.
-/

namespace Go.Proofs.Ytfhnhbkdhdocjaa
set_option linter.unusedSimpArgs false
set_option linter.unusedVariables false

/-! ### Steps, from the back -/

/-- which steps are required, and what is needed ahead of them -/
def mkL : List St → Nat → List Bool × Nat
  | [], W => ([], W)
  | s :: c, W => if (mkL c W).2.testBit s.to.toNat = true then (true :: (mkL c W).1, befW s (mkL c W).2) else (false :: (mkL c W).1, (mkL c W).2)

theorem mk_len : ∀ (c : List St) (W : Nat), (mkL c W).1.length = c.length
  | [], _ => rfl
  | s :: c, W => by
    have := mk_len c W
    rw [mkL]
    split <;> simp [this]

theorem mk_lt {n : Nat} : ∀ {c : List St} {W : Nat}, StOk n c → W < 2 ^ n → (mkL c W).2 < 2 ^ n
  | [], _, _, h => h
  | s :: c, W, hc, h => by
    have := mk_lt hc.tail h
    rw [mkL]
    split
    · exact befW_lt hc.head this
    · exact this

theorem mk_mono {n : Nat} (hn : n ≤ 6) : ∀ {c : List St} {W X : Nat}, StOk n c → (∀ v, v < n → W.testBit v = true → X.testBit v = true) → ∀ v, v < n → (mkL c W).2.testBit v = true → (mkL c X).2.testBit v = true
  | [], _, _, _, h => h
  | s :: c, W, X, hc, h => fun v hv hq => by
    have ih := mk_mono hn hc.tail h
    have hcs := hc.head
    obtain ⟨⟨t0, t1⟩, _⟩ := ckStep_cases hcs
    rw [mkL] at hq ⊢
    by_cases h1 : (mkL c W).2.testBit s.to.toNat = true
    · rw [if_pos h1] at hq
      rw [if_pos (ih _ (by omega) h1)]
      dsimp only at hq ⊢
      rw [befW_bit hcs hn hv] at hq ⊢
      exact hq.imp id fun ⟨a, b⟩ => ⟨ih v hv a, b⟩
    · rw [if_neg h1] at hq
      dsimp only at hq
      have h2 := ih v hv hq
      split
      · dsimp only
        rw [befW_bit hcs hn hv]
        refine .inr ⟨h2, fun e => h1 ?_⟩
        rw [e]
        exact hq
      · exact h2

theorem mk_drop {c : List St} {k : Nat} {s : St} (h : c[k]? = some s) (W : Nat) : mkL (c.drop k) W = if (mkL (c.drop (k + 1)) W).2.testBit s.to.toNat = true then (true :: (mkL (c.drop (k + 1)) W).1, befW s (mkL (c.drop (k + 1)) W).2) else (false :: (mkL (c.drop (k + 1)) W).1, (mkL (c.drop (k + 1)) W).2) := by
  rw [drop_at h]
  rfl

theorem mk_get : ∀ {c : List St} {k : Nat} {s : St}, c[k]? = some s → ∀ W, (mkL c W).1.getD k false = (mkL (c.drop (k + 1)) W).2.testBit s.to.toNat
  | [], k, s, h, W => by simp at h
  | x :: c, 0, s, h, W => by
    simp at h
    subst h
    rw [mkL, List.drop_succ_cons, List.drop_zero]
    split
    · rename_i h1; simp [h1]
    · rename_i h1
      rw [Bool.not_eq_true] at h1
      simp [h1]
  | x :: c, k + 1, s, h, W => by
    have ih := mk_get (c := c) (k := k) (s := s) (by simpa using h) W
    rw [List.drop_succ_cons, ← ih, mkL]
    split <;> simp

/-- the same, step by step -/
def mkF (c : List St) (pre : List (Fin c.length)) (W : Nat) : List Bool × Nat := pre.foldl (fun s x => if s.2.testBit c[x.1].to.toNat = true then (s.1.set x.1 true, befW c[x.1] s.2) else s) (List.replicate c.length false, W)

theorem mkF_snoc (c : List St) (pre : List (Fin c.length)) (x : Fin c.length) (W : Nat) : mkF c (pre ++ [x]) W = if (mkF c pre W).2.testBit c[x.1].to.toNat = true then ((mkF c pre W).1.set x.1 true, befW c[x.1] (mkF c pre W).2) else mkF c pre W := by
  unfold mkF
  rw [List.foldl_append]
  rfl

theorem mkF_bks (c : List St) (W : Nat) : ∀ k, k ≤ c.length → mkF c (bks c.length k) W = (List.replicate (c.length - k) false ++ (mkL (c.drop (c.length - k)) W).1, (mkL (c.drop (c.length - k)) W).2)
  | 0, _ => by simp [mkF, bks, mkL]
  | k + 1, h => by
    have h1 : c[c.length - 1 - k]? = some c[c.length - 1 - k] := List.getElem?_eq_getElem (by omega)
    have hd := mk_drop h1 W
    rw [show c.length - 1 - k + 1 = c.length - k by omega] at hd
    have hr : List.replicate (c.length - k) false = List.replicate (c.length - 1 - k) false ++ [false] := by
      rw [show c.length - k = (c.length - 1 - k) + 1 by omega, List.replicate_succ']
    rw [bks_succ (by omega), mkF_snoc, mkF_bks c W k (by omega), show c.length - (k + 1) = c.length - 1 - k by omega, hd, hr]
    dsimp only
    split
    · rw [List.append_assoc, List.set_append_right _ _ (by simp), List.length_replicate, Nat.sub_self]
      rfl
    · rw [List.append_assoc]
      rfl

theorem mkF_all (c : List St) (W : Nat) : mkF c (bks c.length c.length) W = mkL c W := by
  rw [mkF_bks c W _ (Nat.le_refl _), Nat.sub_self, List.drop_zero]
  simp

theorem mkF_lt {n : Nat} {c : List St} (hc : StOk n c) (pre : List (Fin c.length)) {W : Nat} (hW : W < 2 ^ n) : (mkF c pre W).2 < 2 ^ n :=
  foldl_inv (P := fun s : List Bool × Nat => s.2 < 2 ^ n) (fun s x h => by
    show (if _ then _ else _ : List Bool × Nat).2 < 2 ^ n
    split
    · exact befW_lt (hc _ (List.getElem_mem x.2)) h
    · exact h) pre _ hW

theorem mkF_len (c : List St) (pre : List (Fin c.length)) (W : Nat) : (mkF c pre W).1.length = c.length :=
  foldl_inv (P := fun s : List Bool × Nat => s.1.length = c.length) (fun s x h => by
    show (if _ then _ else _ : List Bool × Nat).1.length = c.length
    split
    · simp [h]
    · exact h) pre _ (by simp)

/-! ### Blocks -/

/-- behind a block, but for its test -/
def edW (b : Bk) (F : List Nat) (want : Nat) : Nat := if nxB b = [] then want else orL F (nxB b) 0

/-- .. with its test, where it is required -/
def edT (b : Bk) (F : List Nat) (want : Nat) (t : Bool) : Nat := if t = true then edW b F want ||| 2 ^ b.test.toNat else edW b F want

/-- one block's steps, with the words as they are -/
def mkB (b : Bk) (F : List Nat) (want : Nat) (t : Bool) : List Bool × Nat := mkL b.code (edT b F want t)

section
variable {n : Nat} {p : List Bk} {want T : Nat} {F : List Nat} {ms : List (List Bool)} {MS : Nat → Nat → Prop} {MT : Nat → Prop}

/-- only blocks with a test have a test that is required -/
def TsOk (p : List Bk) (T : Nat) : Prop := ∀ i, T.testBit i = true → ∃ b, p[i]? = some b ∧ 0 ≤ b.test

theorem TsOk.at_ {i : Nat} {b : Bk} (h : TsOk p T) (hb : p[i]? = some b) (hi : T.testBit i = true) : 0 ≤ b.test := by
  obtain ⟨b', h1, h2⟩ := h i hi
  rw [hb] at h1
  injection h1 with h1
  subst h1
  exact h2

theorem edW_lt {m : Nat} {b : Bk} (h : BkOk n m b) (hF : ∀ (i W : Nat), F[i]? = some W → W < 2 ^ n) (hw : want < 2 ^ n) : edW b F want < 2 ^ n := by
  unfold edW
  split
  · exact hw
  · exact orL_lt hF (Nat.two_pow_pos n)

theorem edT_lt {m : Nat} {b : Bk} {t : Bool} (h : BkOk n m b) (hF : ∀ (i W : Nat), F[i]? = some W → W < 2 ^ n) (hw : want < 2 ^ n) (ht : t = true → 0 ≤ b.test) : edT b F want t < 2 ^ n := by
  unfold edT
  split
  · rename_i e
    have h0 := ht e
    have := h.test
    exact Nat.or_lt_two_pow (edW_lt h hF hw) (Nat.pow_lt_pow_right (by omega) (by omega))
  · exact edW_lt h hF hw

theorem mkB_lt {m : Nat} {b : Bk} {t : Bool} (h : BkOk n m b) (hF : ∀ (i W : Nat), F[i]? = some W → W < 2 ^ n) (hw : want < 2 ^ n) (ht : t = true → 0 ≤ b.test) : (mkB b F want t).2 < 2 ^ n := mk_lt (.of h.code) (edT_lt h hF hw ht)

theorem ed_mono {m : Nat} {b : Bk} {t : Bool} (hk : BkOk n m b) {G : List Nat} (h : ∀ j v, v < n → (F.getD j 0).testBit v = true → (G.getD j 0).testBit v = true) {v : Nat} (hv : v < n) (hb : (edT b F want t).testBit v = true) : (edT b G want t).testBit v = true := by
  have hor : (edW b F want).testBit v = true → (edW b G want).testBit v = true := fun h1 => by
    unfold edW at h1 ⊢
    split
    · rename_i h2; rwa [if_pos h2] at h1
    · rename_i h2
      rw [if_neg h2, orL_bit] at h1
      rw [orL_bit]
      exact h1.imp id fun ⟨j, hj, h2⟩ => ⟨j, hj, h _ v hv h2⟩
  unfold edT at hb ⊢
  split
  · rename_i h2
    rw [if_pos h2, Nat.testBit_or, Bool.or_eq_true] at hb
    rw [Nat.testBit_or, Bool.or_eq_true]
    exact hb.imp hor id
  · rename_i h2
    rw [if_neg h2] at hb
    exact hor hb

/-- what is found is needed -/
theorem ed_ok (hc : ckProg n p = 0) (hT : TsOk p T) (hM : ∀ i, mkT T i → MT i) (hok : ∀ (i W : Nat), F[i]? = some W → ∀ v, v < n → W.testBit v = true → LvM p want MS MT v (i, 0)) {i : Nat} {b : Bk} (hb : p[i]? = some b) {v : Nat} (hv : v < n) (h : (edT b F want (T.testBit i)).testBit v = true) : LvM p want MS MT v (i, b.code.length) := by
  have hk := ckProg_at hc hb
  have hor : (edW b F want).testBit v = true → LvM p want MS MT v (i, b.code.length) := fun h => by
    unfold edW at h
    split at h
    · rename_i h1
      have hth := (nxB_nil hk).1 h1
      refine .here ⟨b, hb, .inr ⟨rfl, .inr ⟨?_, hth, h⟩⟩⟩
      obtain ⟨_, _, h3, _⟩ := hk
      show b.test = -1
      omega
    · rw [orL_bit] at h
      rcases h with h | ⟨j, hj, h⟩
      · simp at h
      · obtain ⟨h0, _⟩ := nxB_lt hk hj
        rw [List.getD_eq_getElem?_getD] at h
        cases hF : F[j.toNat]? with
        | none => rw [hF] at h; simp at h
        | some W =>
          rw [hF] at h
          exact .on ⟨b, hb, .inr ⟨rfl, j.toNat, by rw [Int.toNat_of_nonneg h0]; exact hj, rfl⟩⟩ (hok _ W hF v hv h)
  unfold edT at h
  split at h
  · rename_i h2
    rw [Nat.testBit_or, Bool.or_eq_true, Nat.testBit_two_pow, decide_eq_true_eq] at h
    rcases h with h | h
    · exact hor h
    · have h0 := hT.at_ hb h2
      exact .here ⟨b, hb, .inr ⟨rfl, .inl ⟨by omega, hM i h2⟩⟩⟩
  · exact hor h

theorem mk_ok (hc : ckProg n p = 0) (hcl : ClM p want MS MT) {i : Nat} {b : Bk} (hb : p[i]? = some b) {W : Nat} (hW : ∀ v, v < n → W.testBit v = true → LvM p want MS MT v (i, b.code.length)) : ∀ (c : List St) (k : Nat), b.code.drop k = c → k ≤ b.code.length →
    (∀ v, v < n → (mkL c W).2.testBit v = true → LvM p want MS MT v (i, k)) ∧ ∀ j, (mkL c W).1.getD j false = true → MS i (k + j)
  | [], k, hd, hk => by
    have : b.code.length ≤ k := by
      have := congrArg List.length hd
      rw [List.length_drop] at this
      simp at this
      omega
    refine ⟨fun v hv h => ?_, fun j h => by simp [mkL] at h⟩
    rw [show k = b.code.length by omega]
    exact hW v hv h
  | s :: c, k, hd, hk => by
    have hs : b.code[k]? = some s := by
      have := congrArg (fun l => l[0]?) hd
      simpa [List.getElem?_drop] using this
    have hkl := (List.getElem?_eq_some_iff.1 hs).1
    have hd2 : b.code.drop (k + 1) = c := by
      have := drop_at hs
      rw [hd] at this
      injection this with _ this
      exact this.symm
    have hn6 := (ckProg_bd hc).2.1
    have hcs := ckStepsF_at (ckProg_at hc hb).code hs
    obtain ⟨⟨t0, t1⟩, _⟩ := ckStep_cases hcs
    obtain ⟨ih1, ih2⟩ := mk_ok hc hcl hb hW c (k + 1) hd2 (by omega)
    rw [mkL]
    by_cases h1 : (mkL c W).2.testBit s.to.toNat = true
    · rw [if_pos h1]
      dsimp only
      have hm : MS i k := hcl.step i k b s hb hs (ih1 _ (by omega) h1)
      refine ⟨fun v hv h => ?_, fun j h => ?_⟩
      · rw [befW_bit hcs (by omega) hv] at h
        rcases h with h | ⟨h, hne⟩
        · exact .here ⟨b, hb, .inl ⟨s, hs, hm, h⟩⟩
        · exact lvM_step hb hs hne (ih1 v hv h)
      · cases j with
        | zero => exact hm
        | succ j =>
          have := ih2 j (by simpa using h)
          rwa [show k + 1 + j = k + (j + 1) by omega] at this
    · rw [if_neg h1]
      dsimp only
      refine ⟨fun v hv h => ?_, fun j h => ?_⟩
      · refine lvM_step hb hs (fun e => h1 ?_) (ih1 v hv h)
        rw [e]
        exact h
      · cases j with
        | zero => simp at h
        | succ j =>
          have := ih2 j (by simpa using h)
          rwa [show k + 1 + j = k + (j + 1) by omega] at this

theorem mkB_ok (hc : ckProg n p = 0) (hT : TsOk p T) (hcl : ClM p want MS MT) (hM : ∀ i, mkT T i → MT i) (hok : ∀ (i W : Nat), F[i]? = some W → ∀ v, v < n → W.testBit v = true → LvM p want MS MT v (i, 0)) {i : Nat} {b : Bk} (hb : p[i]? = some b) :
    (∀ v, v < n → (mkB b F want (T.testBit i)).2.testBit v = true → LvM p want MS MT v (i, 0)) ∧ ∀ j, (mkB b F want (T.testBit i)).1.getD j false = true → MS i j := by
  obtain ⟨h1, h2⟩ := mk_ok hc hcl hb (fun v hv h => ed_ok hc hT hM hok hb hv h) b.code 0 rfl (Nat.zero_le _)
  exact ⟨h1, fun j h => by have := h2 j h; rwa [Nat.zero_add] at this⟩

/-! ### Until nothing changes -/

structure RqI (n : Nat) (p : List Bk) (want T : Nat) (F : List Nat) (ms : List (List Bool)) : Prop where
  len : F.length = p.length
  sl : ms.length = p.length
  lt : ∀ (i W : Nat), F[i]? = some W → W < 2 ^ n
  low : ∀ MS MT, ClM p want MS MT → (∀ i, mkT T i → MT i) → (∀ (i W : Nat), F[i]? = some W → ∀ v, v < n → W.testBit v = true → LvM p want MS MT v (i, 0)) ∧ ∀ i k, mkS ms i k → MS i k
  pre : ∀ (i : Nat) (b : Bk) (W : Nat), p[i]? = some b → F[i]? = some W → ∀ v, v < n → W.testBit v = true → (mkB b F want (T.testBit i)).2.testBit v = true

theorem RqI.start (n : Nat) (p : List Bk) (want T : Nat) : RqI n p want T (List.replicate p.length 0) (List.replicate p.length []) := by
  have hz : ∀ (i W : Nat), (List.replicate p.length 0)[i]? = some W → W = 0 := fun i W h => by
    have := List.mem_of_getElem? h
    exact (List.mem_replicate.1 this).2
  refine ⟨by simp, by simp, fun i W h => by rw [hz i W h]; exact Nat.two_pow_pos n, fun MS MT _ _ => ⟨fun i W h v _ hb => ?_, fun i k h => ?_⟩, fun i b W _ h v _ hb => ?_⟩
  · rw [hz i W h] at hb; simp at hb
  · exfalso
    unfold mkS at h
    rw [List.getD_eq_getElem?_getD (l := List.replicate _ _), List.getElem?_replicate] at h
    split at h <;> simp at h
  · rw [hz i W h] at hb; simp at hb

/-- one block taken anew -/
theorem RqI.go (hc : ckProg n p = 0) (hw : want < 2 ^ n) (hT : TsOk p T) (h : RqI n p want T F ms) {i : Nat} {b : Bk} {W : Nat} (hb : p[i]? = some b) (hW : F[i]? = some W) : W ≤ (mkB b F want (T.testBit i)).2 ∧ RqI n p want T (F.set i (mkB b F want (T.testBit i)).2) (ms.set i (mkB b F want (T.testBit i)).1) := by
  have hk := ckProg_at hc hb
  have hsub := h.pre i b W hb hW
  have hle : W ≤ (mkB b F want (T.testBit i)).2 := le_bitsF fun v hv => hsub v (big_bit (h.lt i W hW) hv) hv
  have hil := (List.getElem?_eq_some_iff.1 hW).1
  have hget : ∀ j, (F.set i (mkB b F want (T.testBit i)).2)[j]? = if i = j then some (mkB b F want (T.testBit i)).2 else F[j]? := fun j => by
    by_cases e : i = j
    · subst e; rw [List.getElem?_set_self hil, if_pos rfl]
    · rw [List.getElem?_set_ne e, if_neg e]
  have hm : ∀ j v, v < n → (F.getD j 0).testBit v = true → ((F.set i (mkB b F want (T.testBit i)).2).getD j 0).testBit v = true := fun j v hv hq => by
    rw [List.getD_eq_getElem?_getD] at hq ⊢
    rw [hget]
    by_cases e : i = j
    · subst e
      rw [hW] at hq
      rw [if_pos rfl]
      exact hsub v hv hq
    · rw [if_neg e]; exact hq
  refine ⟨hle, by simp [h.len], by simp [h.sl], fun j X hX => ?_, fun MS MT hcl hM => ?_, fun j b' X hb' hX v hv hq => ?_⟩
  · rw [hget] at hX
    split at hX
    · injection hX with hX; subst hX; exact mkB_lt hk h.lt hw fun e => hT.at_ hb e
    · exact h.lt j X hX
  · obtain ⟨l1, l2⟩ := h.low MS MT hcl hM
    obtain ⟨k1, k2⟩ := mkB_ok hc hT hcl hM l1 hb
    refine ⟨fun j X hX v hv hq => ?_, fun j k hq => ?_⟩
    · rw [hget] at hX
      split at hX
      · rename_i e
        injection hX with hX
        subst hX e
        exact k1 v hv hq
      · exact l1 j X hX v hv hq
    · unfold mkS at hq
      rw [List.getD_eq_getElem?_getD (l := ms.set _ _)] at hq
      by_cases e : i = j
      · subst e
        rw [List.getElem?_set_self (by rw [h.sl, ← h.len]; exact hil), Option.getD_some] at hq
        exact k2 k hq
      · rw [List.getElem?_set_ne e, ← List.getD_eq_getElem?_getD] at hq
        exact l2 j k hq
  · have hk' := ckProg_at hc hb'
    have hn6 := (ckProg_bd hc).2.1
    refine mk_mono (by omega) (.of hk'.code) (fun v hv hq => ed_mono hk' hm hv hq) v hv ?_
    rw [hget] at hX
    split at hX
    · rename_i e
      injection hX with hX
      subst e hX
      rw [hb] at hb'
      injection hb' with hb'
      subst hb'
      exact hq
    · exact h.pre j b' X hb' hX v hv hq

theorem RqI.sum_le (hc : ckProg n p = 0) (h : RqI n p want T F ms) : F.sum ≤ 512 := by
  obtain ⟨b1, b2, b3, b4, _⟩ := ckProg_bd hc
  have h6 : 2 ^ n ≤ 2 ^ 6 := Nat.pow_le_pow_right (by omega) (by omega)
  have := sum_le_mul (F := F) (m := 64) fun x hx => by
    obtain ⟨i, hi⟩ := List.getElem?_of_mem hx
    have := h.lt i x hi
    omega
  have hl := h.len
  have : F.length * 64 ≤ 8 * 64 := Nat.mul_le_mul_right _ (by omega)
  omega

/-- with these tests, the steps -/
structure RqS (p : List Bk) (want T : Nat) (ms : List (List Bool)) : Prop where
  sl : ms.length = p.length
  rl : ∀ (i : Nat) (b : Bk) (r : List Bool), p[i]? = some b → ms[i]? = some r → r.length = b.code.length
  cl : ∀ (i k : Nat) (b : Bk) (s : St), p[i]? = some b → b.code[k]? = some s → LvM p want (mkS ms) (mkT T) s.to.toNat (i, k + 1) → mkS ms i k
  low : ∀ MS MT, ClM p want MS MT → (∀ i, mkT T i → MT i) → ∀ i k, mkS ms i k → MS i k

/-- nothing is left out where nothing changes -/
theorem lvM_in (hc : ckProg n p = 0) (hl : F.length = p.length) (hf : ∀ (i : Nat) (b : Bk) (W : Nat), p[i]? = some b → F[i]? = some W → W = (mkB b F want (T.testBit i)).2 ∧ ms[i]? = some (mkB b F want (T.testBit i)).1) {v : Nat} (hv : v < n) {x : Nat × Nat} (h : LvM p want (mkS ms) (mkT T) v x) :
    ∀ b, p[x.1]? = some b → (mkL (b.code.drop x.2) (edT b F want (T.testBit x.1))).2.testBit v = true := by
  have hn6 := (ckProg_bd hc).2.1
  have hrow : ∀ (i : Nat) (b : Bk), p[i]? = some b → ms.getD i [] = (mkB b F want (T.testBit i)).1 := fun i b hb => by
    obtain ⟨W, hW⟩ : ∃ W, F[i]? = some W := ⟨_, List.getElem?_eq_getElem (by rw [hl]; exact (List.getElem?_eq_some_iff.1 hb).1)⟩
    rw [List.getD_eq_getElem?_getD, (hf i b W hb hW).2]
    rfl
  induction h with
  | @here x h1 =>
    intro b hb
    obtain ⟨b', hb', hu⟩ := h1
    rw [hb] at hb'
    injection hb' with hb'
    subst hb'
    have hk := ckProg_at hc hb
    rcases hu with ⟨s, hs, hms, hu⟩ | ⟨he, hu⟩
    · unfold mkS at hms
      rw [hrow _ b hb] at hms
      unfold mkB at hms
      rw [mk_get hs] at hms
      rw [mk_drop hs, if_pos hms]
      dsimp only
      rw [befW_bit (ckStepsF_at hk.code hs) (by omega) hv]
      exact .inl hu
    · rw [he, List.drop_length, mkL]
      dsimp only
      unfold edT
      rcases hu with ⟨hu, hmt⟩ | ⟨h5, h6, h7⟩
      · rw [if_pos (show T.testBit x.1 = true from hmt), Nat.testBit_or, Nat.testBit_two_pow, hu]
        simp
      · have : (edW b F want).testBit v = true := by unfold edW; rw [if_pos ((nxB_nil hk).2 h6)]; exact h7
        split
        · rw [Nat.testBit_or, this]; rfl
        · exact this
  | @on x y h1 _ ih =>
    intro b hb
    obtain ⟨b', hb', hu⟩ := h1
    rw [hb] at hb'
    injection hb' with hb'
    subst hb'
    have hk := ckProg_at hc hb
    rcases hu with ⟨s, hs, hto, rfl⟩ | ⟨he, j, hj, rfl⟩
    · have := ih b hb
      rw [mk_drop hs]
      split
      · dsimp only
        rw [befW_bit (ckStepsF_at hk.code hs) (by omega) hv]
        exact .inr ⟨this, hto⟩
      · exact this
    · rw [he, List.drop_length, mkL]
      dsimp only
      have hjl := nxB_lt hk hj
      have hjp : j < p.length := by omega
      have hbj := List.getElem?_eq_getElem hjp
      have hFj := List.getElem?_eq_getElem (l := F) (i := j) (by omega)
      have h8 := ih _ hbj
      rw [List.drop_zero] at h8
      have h9 : (edW b F want).testBit v = true := by
        unfold edW
        rw [if_neg (fun e => by rw [e] at hj; cases hj)]
        exact orL_bit.2 (.inr ⟨_, hj, by
          rw [Int.toNat_natCast, List.getD_eq_getElem?_getD, hFj, Option.getD_some, (hf j _ _ hbj hFj).1]
          exact h8⟩)
      unfold edT
      split
      · rw [Nat.testBit_or, h9]; rfl
      · exact h9

theorem RqI.done (hc : ckProg n p = 0) (h : RqI n p want T F ms) (hf : ∀ (i : Nat) (b : Bk) (W : Nat), p[i]? = some b → F[i]? = some W → W = (mkB b F want (T.testBit i)).2 ∧ ms[i]? = some (mkB b F want (T.testBit i)).1) : RqS p want T ms := by
  have hF : ∀ (i : Nat) (b : Bk), p[i]? = some b → ms[i]? = some (mkB b F want (T.testBit i)).1 := fun i b hb => by
    obtain ⟨W, hW⟩ : ∃ W, F[i]? = some W := ⟨_, List.getElem?_eq_getElem (by rw [h.len]; exact (List.getElem?_eq_some_iff.1 hb).1)⟩
    exact (hf i b W hb hW).2
  refine ⟨h.sl, fun i b r hb hr => ?_, fun i k b s hb hs hl => ?_, fun MS MT hcl hM => (h.low MS MT hcl hM).2⟩
  · rw [hF i b hb] at hr
    injection hr with hr
    subst hr
    exact mk_len _ _
  · have hk := ckProg_at hc hb
    obtain ⟨⟨t0, t1⟩, _⟩ := ckStep_cases (ckStepsF_at hk.code hs)
    have := lvM_in hc h.len hf (by omega) hl b hb
    unfold mkS
    rw [List.getD_eq_getElem?_getD (l := ms), hF i b hb, Option.getD_some]
    unfold mkB
    rw [mk_get hs]
    exact this

/-- a pass over the blocks: those of D are done -/
structure RqP (n : Nat) (p : List Bk) (want T s0 : Nat) (F : List Nat) (ms : List (List Bool)) (ch : Bool) (D : Nat → Prop) : Prop where
  inv : RqI n p want T F ms
  up : s0 ≤ F.sum
  more : ch = true → s0 < F.sum
  same : ch = false → ∀ (i : Nat) (b : Bk) (W : Nat), D i → p[i]? = some b → F[i]? = some W → W = (mkB b F want (T.testBit i)).2 ∧ ms[i]? = some (mkB b F want (T.testBit i)).1

theorem RqP.start (h : RqI n p want T F ms) {D : Nat → Prop} (hD : ∀ i, ¬ D i) : RqP n p want T F.sum F ms false D := ⟨h, Nat.le_refl _, fun h => (by cases h), fun _ i b W hk hb _ => absurd hk (hD i)⟩

theorem RqP.go {s0 k : Nat} {ch : Bool} {D D' : Nat → Prop} {b : Bk} {W : Nat} (hc : ckProg n p = 0) (hw : want < 2 ^ n) (hT : TsOk p T) (h : RqP n p want T s0 F ms ch D) (hD : ∀ i, D' i → D i ∨ i = k) (hb : p[k]? = some b) (hW : F[k]? = some W) :
    RqP n p want T s0 (F.set k (mkB b F want (T.testBit k)).2) (ms.set k (mkB b F want (T.testBit k)).1) (ch || ((mkB b F want (T.testBit k)).2 != W)) D' := by
  obtain ⟨h1, h2⟩ := h.inv.go hc hw hT hb hW
  have h3 := sum_setF (X := (mkB b F want (T.testBit k)).2) hW
  have h4 := h.up
  have hkl := (List.getElem?_eq_some_iff.1 hW).1
  refine ⟨h2, by omega, fun e => ?_, fun e i b' W' hi hb' hW' => ?_⟩
  · rw [Bool.or_eq_true] at e
    rcases e with e | e
    · have := h.more e; omega
    · have : (mkB b F want (T.testBit k)).2 ≠ W := by simpa using e
      omega
  · rw [Bool.or_eq_false_iff] at e
    obtain ⟨e1, e2⟩ := e
    have e3 : (mkB b F want (T.testBit k)).2 = W := by simpa using e2
    have e4 : F.set k (mkB b F want (T.testBit k)).2 = F := by
      apply List.ext_getElem?
      intro j
      by_cases e : k = j
      · subst e; rw [List.getElem?_set_self hkl, hW, e3]
      · rw [List.getElem?_set_ne e]
    rw [e4] at hW' ⊢
    by_cases hik : i = k
    · subst hik
      rw [hb] at hb'
      rw [hW] at hW'
      injection hb' with hb'
      injection hW' with hW'
      subst hb' hW'
      exact ⟨e3.symm, List.getElem?_set_self (by rw [h.inv.sl, ← h.inv.len]; exact hkl)⟩
    · rcases hD i hi with hi | hi
      · obtain ⟨g1, g2⟩ := h.same e1 i b' W' hi hb' hW'
        exact ⟨g1, by rw [List.getElem?_set_ne (Ne.symm hik)]; exact g2⟩
      · exact absurd hi hik

theorem RqP.done {s0 : Nat} {D : Nat → Prop} (hc : ckProg n p = 0) (h : RqP n p want T s0 F ms false D) (hD : ∀ i, i < p.length → D i) : RqS p want T ms := h.inv.done hc fun i b W hb hW => h.same rfl i b W (hD i (List.getElem?_eq_some_iff.1 hb).1) hb hW

/-! ### Tests -/

/-- on a block without a test nothing hangs -/
theorem hang_test {i k : Nat} {b : Bk} (hc : ckProg n p = 0) (hb : p[i]? = some b) (hh : HangP (nxP p) i k) : 0 ≤ b.test := by
  rcases (ckProg_at hc hb).test with h | h
  · exfalso
    obtain ⟨j, hj, hs, _⟩ := id hh
    obtain ⟨e, h1, h2⟩ := hs.1
    refine hang_lone (j0 := b.th.toNat) (fun j hj => ?_) ⟨e, h1.back (nat_ne i) hj, h2⟩ k hh
    rw [sc_bk hb] at hj
    obtain ⟨x, hx, rfl⟩ := List.mem_map.1 hj
    unfold nxB at hx
    rw [if_neg (show ¬ (b.test ≠ -1 ∧ b.th ≠ b.el) from fun h2 => h2.1 h), List.append_nil] at hx
    split at hx
    · cases hx
    · rw [List.mem_singleton.1 hx]
  · exact h.1

/-- tests that are all needed -/
structure TsI (p : List Bk) (want T : Nat) : Prop where
  lt : ∀ i, T.testBit i = true → i < p.length
  ok : TsOk p T
  low : ∀ MS MT, ClM p want MS MT → ∀ i, mkT T i → MT i

theorem TsI.start (p : List Bk) (want : Nat) : TsI p want 0 := ⟨fun i h => by simp at h, fun i h => by simp at h, fun MS MT _ i h => by unfold mkT at h; simp at h⟩

theorem TsI.t8 (h : TsI p want T) (h8 : p.length ≤ 8) : T < 256 := Nat.lt_pow_two_of_testBit (n := 8) _ fun i hi => by
  cases e : T.testBit i with
  | false => rfl
  | true => have := h.lt i e; omega

/-- the tests taken anew -/
theorem TsI.go {T' : Nat} (hc : ckProg n p = 0) (h : TsI p want T) (hs : RqS p want T ms) (hT : ∀ i, T'.testBit i = true ↔ T.testBit i = true ∨ ∃ j, HangP (nxP p) i j ∧ (mkT T j ∨ ∃ k, mkS ms j k)) : TsI p want T' := by
  have hat : ∀ {i j : Nat}, HangP (nxP p) i j → ∃ b, p[i]? = some b := fun ⟨z, hz, _⟩ => sc_some hz
  refine ⟨fun i hi => ?_, fun i hi => ?_, fun MS MT hcl i hi => ?_⟩
  · rcases (hT i).1 hi with h1 | ⟨j, h1, _⟩
    · exact h.lt i h1
    · obtain ⟨b, hb⟩ := hat h1
      exact (List.getElem?_eq_some_iff.1 hb).1
  · rcases (hT i).1 hi with h1 | ⟨j, h1, _⟩
    · exact h.ok i h1
    · obtain ⟨b, hb⟩ := hat h1
      exact ⟨b, hb, hang_test hc hb h1⟩
  · rcases (hT i).1 hi with h1 | ⟨j, h1, h2⟩
    · exact h.low MS MT hcl i h1
    · obtain ⟨b, hb⟩ := hat h1
      exact hcl.test i j b hb (hang_test hc hb h1) h1 (h2.imp (h.low MS MT hcl j) fun ⟨k, hk⟩ => ⟨k, hs.low MS MT hcl (h.low MS MT hcl) j k hk⟩)

theorem TsI.done (h : TsI p want T) (hs : RqS p want T ms) (hT : ∀ i, T.testBit i = true ↔ T.testBit i = true ∨ ∃ j, HangP (nxP p) i j ∧ (mkT T j ∨ ∃ k, mkS ms j k)) : Ndd p want (mkS ms) (mkT T) :=
  ⟨⟨hs.cl, fun i j b hb ht hh hn => (hT i).2 (.inr ⟨j, hh, hn⟩)⟩, fun MS MT hcl => ⟨hs.low MS MT hcl (h.low MS MT hcl), h.low MS MT hcl⟩⟩

end

/-! ### The immediate postdominator -/

section
variable {nx : List (List Int)}

theorem SureP.end_ {i j : Nat} (h : SureP nx i j) : EndP nx (-1) j := by
  rcases h.2 with rfl | hn
  · exact h.1
  · obtain ⟨e, he, hx⟩ := h.1
    rcases rea_via j he with h2 | h2
    · exact absurd ⟨e, h2, hx⟩ hn
    · exact ⟨e, h2, hx⟩

theorem SureP.trans {i j k : Nat} (h1 : SureP nx i j) (h2 : SureP nx j k) : SureP nx i k := by
  refine ⟨h1.1, ?_⟩
  by_cases hik : i = k
  · exact .inl hik
  · refine .inr fun ⟨e, he, hx⟩ => ?_
    rcases h1.2 with rfl | hn
    · rcases h2.2 with rfl | h3
      · exact hik rfl
      · exact h3 ⟨e, he, hx⟩
    · rcases rea_via j he with h3 | h3
      · exact hn ⟨e, h3, hx⟩
      · rcases h2.2 with rfl | h4
        · exact hn ⟨e, he, hx⟩
        · exact h4 ⟨e, h3, hx⟩

/-- of two on every way one comes first -/
theorem first_of {i j k e : Nat} (hij : i ≠ j) (hik : i ≠ k) (hjk : j ≠ k) (h : Rea nx (-1) i e) : (Rea nx (j : Int) i e ∧ Rea nx (k : Int) i e) ∨ Rea nx (k : Int) i j ∨ Rea nx (j : Int) i k := by
  induction h with
  | here _ => exact .inl ⟨.here (by omega), .here (by omega)⟩
  | @step a b _ hb _ ih =>
    rcases ih with ⟨h1, h2⟩ | h1
    · by_cases hbj : b = j
      · subst hbj; exact .inr (.inl (h2.step hb (by omega)))
      · by_cases hbk : b = k
        · subst hbk; exact .inr (.inr (h1.step hb (by omega)))
        · exact .inl ⟨h1.step hb (by omega), h2.step hb (by omega)⟩
    · exact .inr h1

theorem SureP.chain {i j k : Nat} (hj : j ≠ i) (hk : k ≠ i) (h1 : SureP nx i j) (h2 : SureP nx i k) : SureP nx j k ∨ SureP nx k j := by
  by_cases hjk : j = k
  · subst hjk; exact .inl ⟨h1.end_, .inl rfl⟩
  · have n1 : ¬ EndP nx (j : Int) i := h1.2.elim (fun e => absurd e.symm hj) id
    have n2 : ¬ EndP nx (k : Int) i := h2.2.elim (fun e => absurd e.symm hk) id
    obtain ⟨e, he, hx⟩ := h1.1
    rcases first_of (Ne.symm hj) (Ne.symm hk) hjk he with ⟨h3, _⟩ | h3 | h3
    · exact absurd ⟨e, h3, hx⟩ n1
    · exact .inl ⟨h1.end_, .inr fun ⟨f, hf, hfx⟩ => n2 ⟨f, h3.trans hf, hfx⟩⟩
    · exact .inr ⟨h2.end_, .inr fun ⟨f, hf, hfx⟩ => n1 ⟨f, h3.trans hf, hfx⟩⟩

/-- where something comes for sure, something comes first -/
theorem ipd_some {i : Nat} : ∀ m : Nat, (∃ k, k < m ∧ k ≠ i ∧ SureP nx i k) → ∃ d, d ≠ i ∧ SureP nx i d ∧ ∀ k, k < m → k ≠ i → SureP nx i k → SureP nx d k
  | 0, ⟨k, hk, _⟩ => by omega
  | m + 1, ⟨k, hk, hki, hs⟩ => by
    by_cases h0 : ∃ k, k < m ∧ k ≠ i ∧ SureP nx i k
    · obtain ⟨d, d1, d2, d3⟩ := ipd_some m h0
      by_cases hm : m ≠ i ∧ SureP nx i m
      · rcases d2.chain d1 hm.1 hm.2 with h | h
        · exact ⟨d, d1, d2, fun l hl hli hls => by
            by_cases e : l = m
            · subst e; exact h
            · exact d3 l (by omega) hli hls⟩
        · exact ⟨m, hm.1, hm.2, fun l hl hli hls => by
            by_cases e : l = m
            · subst e; exact ⟨h.1, .inl rfl⟩
            · exact h.trans (d3 l (by omega) hli hls)⟩
      · exact ⟨d, d1, d2, fun l hl hli hls => by
          by_cases e : l = m
          · subst e; exact absurd ⟨hli, hls⟩ hm
          · exact d3 l (by omega) hli hls⟩
    · have hkm : k = m := by
        by_cases e : k = m
        · exact e
        · exact absurd ⟨k, by omega, hki, hs⟩ h0
      subst hkm
      exact ⟨k, hki, hs, fun l hl hli hls => by
        by_cases e : l = k
        · subst e; exact ⟨hs.end_, .inl rfl⟩
        · exact absurd ⟨l, by omega, hli, hls⟩ h0⟩

theorem ipd_ex (hc : ckWay nx = 0) {i k : Nat} (hi : i < nx.length) (hk : k ≠ i) (h : SureP nx i k) : ∃ d, IpdP nx i d := by
  obtain ⟨d, d1, d2, d3⟩ := ipd_some nx.length ⟨k, h.lt hc hi, hk, h⟩
  exact ⟨d, d1, d2, fun l hl hs => d3 l (hs.lt hc hi) hl hs⟩

/-- what comes for sure behind the immediate one: all but the node itself -/
theorem IpdP.all {i d : Nat} (h : IpdP nx i d) (k : Nat) : SureP nx d k ↔ k ≠ i ∧ SureP nx i k :=
  ⟨fun hs => ⟨fun e => h.1 (by subst e; exact (sure_anti h.2.1 hs).symm), h.2.1.trans hs⟩, fun ⟨h1, h2⟩ => h.2.2 k h1 h2⟩

/-- .. it is the one with just these -/
theorem ipd_iff (hc : ckWay nx = 0) {i j : Nat} (hi : i < nx.length) (hex : ∃ k, k ≠ i ∧ SureP nx i k) : IpdP nx i j ↔ ∀ k, SureP nx j k ↔ k ≠ i ∧ SureP nx i k := by
  refine ⟨fun h => h.all, fun h => ?_⟩
  obtain ⟨k0, h1, h2⟩ := hex
  have h3 := (h k0).2 ⟨h1, h2⟩
  have h4 := (h j).1 ⟨h3.1, .inl rfl⟩
  exact ⟨h4.1, h4.2, fun k hk hs => (h k).2 ⟨hk, hs⟩⟩

end

end Go.Proofs.Ytfhnhbkdhdocjaa
