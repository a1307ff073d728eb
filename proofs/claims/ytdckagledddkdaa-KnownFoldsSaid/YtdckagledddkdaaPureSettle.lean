/-
  Plain mathematics of constants (L1, L2): what comes in is merged in place, block after block, until nothing changes: the least solution; where a folded block leads: no program's text.
-/
import Derived.Test.YtdckagledddkdaaMPure
namespace Go.Proofs.Ytdckagledddkdaa
set_option linter.unusedSimpArgs false
set_option linter.unusedVariables false

/-- what varies stays so -/
theorem JoinTo.vary {r v q : List Int} {k : Nat} (h : JoinTo r v k q) (he : q.getD k 0 = -1) : JoinTo r v (k + 1) q := ⟨h.len, fun u hu => by
  rw [h.at_ u hu]
  by_cases e : u = k
  · subst e
    have := h.at_ u hu
    rw [if_neg (by omega)] at this
    rw [if_neg (by omega), if_pos (by omega), join1, ← this, he]
    split <;> rfl
  · by_cases h1 : u < k
    · rw [if_pos h1, if_pos (by omega)]
    · rw [if_neg h1, if_neg (by omega)]⟩

/-- merging on the way, and whether anything has changed -/
structure MgTo (r v : List Int) (k : Nat) (q : List Int) (ch : Bool) : Prop where
  jt : JoinTo r v k q
  ch : ch = decide (q ≠ r)

theorem MgTo.start (r v : List Int) : MgTo r v 0 r false := ⟨.start r v, by simp⟩

theorem MgTo.same {r v q : List Int} {k : Nat} {ch : Bool} (h : MgTo r v k q ch) (he : q.getD k 0 = -1 ∨ q.getD k 0 = v.getD k 0) : MgTo r v (k + 1) q ch := ⟨he.elim h.jt.vary h.jt.same, h.ch⟩

theorem MgTo.diff {r v q : List Int} {k : Nat} {ch : Bool} (h : MgTo r v k q ch) (hk : k < r.length) (h1 : q.getD k 0 ≠ -1) (h2 : q.getD k 0 ≠ v.getD k 0) : MgTo r v (k + 1) (q.set k (-1)) true := ⟨h.jt.diff hk h2, by
  symm
  rw [decide_eq_true_eq]
  intro e
  have := h.jt.at_ k hk
  rw [if_neg (by omega)] at this
  apply h1
  rw [this, ← e, getD_setK _ _ _ _ (by rw [h.jt.len]; exact hk), if_pos rfl]⟩

theorem MgTo.done {r v q : List Int} {k : Nat} {ch : Bool} (h : MgTo r v k q ch) (hk : r.length ≤ k) (hk2 : k ≤ r.length) : q = joinL r v ∧ ch = decide (joinL r v ≠ r) := by
  have e : k = r.length := by omega
  subst e
  have := h.jt.done
  exact ⟨this, by rw [← this]; exact h.ch⟩

theorem joinL_up {r v : List Int} (hl : r.length = v.length) : LeL r (joinL r v) ∧ LeL v (joinL r v) := by
  refine ⟨⟨(joinL_len r v).symm, fun u hu => ?_⟩, ⟨by rw [joinL_len, hl], fun u hu => ?_⟩⟩
  · rw [joinL_at hu]
    unfold Le1 join1
    split
    · exact .inr rfl
    · exact .inl rfl
  · rw [joinL_at (by omega)]
    unfold Le1 join1
    split
    · rename_i e; exact .inr e.symm
    · exact .inl rfl

theorem joinR_up {n : Nat} {r v : List Int} (hr : r = [] ∨ KOk n r) (hv : KOk n v) : LeR r (joinR r v) ∧ LeR v (joinR r v) := by
  unfold joinR
  split
  · rename_i h; exact ⟨.inl h, .refl v⟩
  · rename_i h
    have hr := hr.resolve_left h
    obtain ⟨h1, h2⟩ := joinL_up (r := r) (v := v) (by rw [hr.1, hv.1])
    exact ⟨.inr h1, .inr h2⟩

theorem joinR_low {n : Nat} {r v m : List Int} (hr : r = [] ∨ KOk n r) (hv : KOk n v) (h1 : LeR r m) (h2 : LeR v m) : LeR (joinR r v) m :=
  (Lub.add (S := fun c => c = r) (T := fun c => c = r ∨ c = v) (.only fun c => Iff.rfl) hr hv fun x => Iff.rfl).low m fun c hc => by
    rcases hc with rfl | rfl
    · exact h1
    · exact h2

/-- on the way to the least solution, in place -/
structure Ci (n : Nat) (p : List Bk) (hv : List Int) (X : List (List Int)) : Prop where
  len : X.length = p.length
  ok : ∀ (i : Nat) (a : List Int), X[i]? = some a → a = [] ∨ KOk n a
  low : ∀ M, Sol n p hv M → LeM X M
  start : LeR hv (X.getD 0 [])

/-- what every solution tells no less than, of block j -/
def Fw (n : Nat) (p : List Bk) (hv : List Int) (j : Nat) (v : List Int) : Prop := ∀ M, Sol n p hv M → LeR v (M.getD j [])

theorem Ci.begin {n : Nat} {p : List Bk} {hv : List Int} (h0 : 0 < p.length) (hk : KOk n hv) : Ci n p hv ((List.replicate p.length []).set 0 hv) := by
  refine ⟨by simp, fun i a ha => ?_, fun M hM i => ?_, ?_⟩
  · rw [List.getElem?_set] at ha
    split at ha
    · split at ha
      · injection ha with ha; subst ha; exact .inr hk
      · cases ha
    · rw [List.getElem?_replicate] at ha
      split at ha
      · injection ha with ha; exact .inl ha.symm
      · cases ha
  · by_cases e : 0 = i
    · subst e
      rw [List.getD_eq_getElem?_getD, List.getElem?_set_self (by simpa using h0)]
      exact hM.start
    · rw [List.getD_eq_getElem?_getD, List.getElem?_set_ne e, List.getElem?_replicate]
      split
      · exact .nil _
      · exact .nil _
  · rw [List.getD_eq_getElem?_getD, List.getElem?_set_self (by simpa using h0)]
    exact .refl _

theorem Ci.fw {n : Nat} {p : List Bk} {hv : List Int} {X : List (List Int)} (hp : ckProg n p = 0) (h : Ci n p hv X) {i j : Nat} {b : Bk} {a : List Int} (hb : p[i]? = some b) (ha : X[i]? = some a) (hne : a ≠ []) (hj : (j : Int) ∈ goK b (bhK b.code a)) : Fw n p hv j (bhK b.code a) := fun M hM => by
  have hok := ckProg_at hp hb
  have hil : i < M.length := by rw [hM.len]; exact (List.getElem?_eq_some_iff.1 hb).1
  have hle := h.low M hM i
  rw [getD_at ha, getD_at (List.getElem?_eq_getElem hil)] at hle
  have hka := (h.ok i a ha).resolve_left hne
  have hne' := hle.ne hne
  have hl := hle.of_ne hne
  have hm := bhK_mono hok.code hka.1 hl
  have hg' := goK_mono hok (by rw [bhK_len, hka.1]) hm (bhK_ok hok.code hka) hj
  exact LeR.trans (.inr hm) (hM.next i j b _ hb (List.getElem?_eq_getElem hil) hne' hg')

/-- what comes in put to a block -/
def pt (X : List (List Int)) (j : Nat) (v : List Int) : List (List Int) := X.set j (joinR (X.getD j []) v)

theorem pt_at {X : List (List Int)} {j : Nat} {v r : List Int} (hj : X[j]? = some r) (i : Nat) : (pt X j v).getD i [] = if i = j then joinR r v else X.getD i [] := by
  have hl := (List.getElem?_eq_some_iff.1 hj).1
  unfold pt
  by_cases e : j = i
  · subst e
    rw [if_pos rfl, List.getD_eq_getElem?_getD, List.getElem?_set_self hl, getD_at hj]
    rfl
  · rw [if_neg (fun h => e h.symm), List.getD_eq_getElem?_getD, List.getElem?_set_ne e, List.getD_eq_getElem?_getD]

theorem Ci.put {n : Nat} {p : List Bk} {hv : List Int} {X : List (List Int)} (h : Ci n p hv X) {j : Nat} {v r : List Int} (hj : X[j]? = some r) (hv' : KOk n v) (hf : Fw n p hv j v) : Ci n p hv (pt X j v) ∧ LeM X (pt X j v) := by
  have hr := h.ok j r hj
  have hl := (List.getElem?_eq_some_iff.1 hj).1
  have up : LeM X (pt X j v) := fun i => by
    rw [pt_at hj]
    split
    · rename_i e; subst e; rw [getD_at hj]; exact (joinR_up hr hv').1
    · exact .refl _
  refine ⟨⟨by unfold pt; rw [List.length_set, h.len], fun i a ha => ?_, fun M hM i => ?_, h.start.trans (up 0)⟩, up⟩
  · unfold pt at ha
    by_cases e : j = i
    · subst e
      rw [List.getElem?_set_self hl, getD_at hj] at ha
      injection ha with ha
      subst ha
      exact .inr (joinR_ok hr hv')
    · rw [List.getElem?_set_ne e] at ha
      exact h.ok i a ha
  · rw [pt_at hj]
    split
    · rename_i e
      subst e
      have := h.low M hM i
      rw [getD_at hj] at this
      exact joinR_low hr hv' this (hf M hM)
    · exact h.low M hM i

theorem wt_put {n : Nat} {p : List Bk} {hv : List Int} {X : List (List Int)} (h : Ci n p hv X) {j : Nat} {v r : List Int} (hj : X[j]? = some r) (hv' : KOk n v) (hf : Fw n p hv j v) : wtM n (pt X j v) ≤ wtM n X ∧ (joinR r v ≠ r → wtM n (pt X j v) < wtM n X) := by
  obtain ⟨h1, h2⟩ := h.put hj hv' hf
  obtain ⟨h3, h4⟩ := wtM_less (n := n) (by unfold pt; rw [List.length_set]) h2 h1.ok
  refine ⟨h3, fun hne => ?_⟩
  rcases Nat.lt_or_ge (wtM n (pt X j v)) (wtM n X) with h5 | h5
  · exact h5
  · have e := h4 (Nat.le_antisymm h3 h5)
    have := pt_at (v := v) hj j
    rw [if_pos rfl, ← e, getD_at hj] at this
    exact absurd this.symm hne

/-- a turn on the way: X0 at its beginning, i blocks done, and m of the ways of the next, on which js are, with v -/
structure Tn (n : Nat) (p : List Bk) (hv : List Int) (X0 X : List (List Int)) (ch : Bool) (i : Nat) : Prop where
  ci : Ci n p hv X
  wt : wtM n X ≤ wtM n X0
  yes : ch = true → wtM n X < wtM n X0
  no : ch = false → X = X0 ∧ ∀ (i' j : Nat) (b : Bk) (a : List Int), i' < i → p[i']? = some b → X0[i']? = some a → a ≠ [] → (j : Int) ∈ goK b (bhK b.code a) → LeR (bhK b.code a) (X0.getD j [])

theorem Tn.start {n : Nat} {p : List Bk} {hv : List Int} {X : List (List Int)} (h : Ci n p hv X) : Tn n p hv X X false 0 := ⟨h, Nat.le_refl _, fun h => (Bool.noConfusion h), fun _ => ⟨rfl, fun i' j b a hi => absurd hi (by omega)⟩⟩

theorem Tn.skip {n : Nat} {p : List Bk} {hv : List Int} {X0 X : List (List Int)} {ch : Bool} {i : Nat} (h : Tn n p hv X0 X ch i) (hX : X[i]? = some []) : Tn n p hv X0 X ch (i + 1) := by
  refine ⟨h.ci, h.wt, h.yes, fun hc => ⟨(h.no hc).1, fun i' j b a hi hb ha hne hj => ?_⟩⟩
  by_cases e : i' = i
  · subst e
    rw [← (h.no hc).1, hX] at ha
    injection ha with ha
    exact absurd ha.symm hne
  · exact (h.no hc).2 i' j b a (by omega) hb ha hne hj

/-- within a block -/
structure Tw (n : Nat) (p : List Bk) (hv : List Int) (X0 X : List (List Int)) (ch : Bool) (i : Nat) (js : List Int) (v : List Int) (m : Nat) : Prop where
  tn : Tn n p hv X0 X ch i
  vok : KOk n v
  fw : ∀ j : Nat, (j : Int) ∈ js → Fw n p hv j v
  of : ch = false → ∃ (b : Bk) (a : List Int), p[i]? = some b ∧ X0[i]? = some a ∧ js = goK b (bhK b.code a) ∧ v = bhK b.code a
  done : ch = false → ∀ (q j : Nat), q < m → js[q]? = some (j : Int) → LeR v (X0.getD j [])

theorem Tw.start {n : Nat} {p : List Bk} {hv : List Int} {X0 X : List (List Int)} {ch : Bool} {i : Nat} {b : Bk} {a : List Int} (hp : ckProg n p = 0) (h : Tn n p hv X0 X ch i) (hb : p[i]? = some b) (ha : X[i]? = some a) (hne : a ≠ []) : Tw n p hv X0 X ch i (goK b (bhK b.code a)) (bhK b.code a) 0 :=
  ⟨h, bhK_ok (ckProg_at hp hb).code ((h.ci.ok i a ha).resolve_left hne), fun j hj => h.ci.fw hp hb ha hne hj, fun hc => ⟨b, a, hb, by rw [← (h.no hc).1]; exact ha, rfl, rfl⟩, fun _ q j hq => absurd hq (by omega)⟩

theorem Tw.way {n : Nat} {p : List Bk} {hv : List Int} {X0 X : List (List Int)} {ch : Bool} {i m j : Nat} {js v r : List Int} (h : Tw n p hv X0 X ch i js v m) (hj : js[m]? = some (j : Int)) (hr : X[j]? = some r) : Tw n p hv X0 (pt X j v) (ch || decide (joinR r v ≠ r)) i js v (m + 1) := by
  have hf := h.fw j (List.mem_of_getElem? hj)
  obtain ⟨h1, h2⟩ := h.tn.ci.put hr h.vok hf
  obtain ⟨h3, h4⟩ := wt_put h.tn.ci hr h.vok hf
  have hwt := h.tn.wt
  have hsame : (ch || decide (joinR r v ≠ r)) = false → ch = false ∧ joinR r v = r ∧ pt X j v = X := fun hc => by
    rw [Bool.or_eq_false_iff, decide_eq_false_iff_not, Classical.not_not] at hc
    refine ⟨hc.1, hc.2, ?_⟩
    unfold pt
    rw [getD_at hr, hc.2]
    apply List.ext_getElem?
    intro u
    rw [List.getElem?_set]
    split
    · rename_i e
      subst e
      rw [if_pos (List.getElem?_eq_some_iff.1 hr).1, hr]
    · rfl
  refine ⟨⟨h1, by omega, fun hc => ?_, fun hc => ?_⟩, h.vok, h.fw, fun hc => h.of (hsame hc).1, fun hc q j' hq hj' => ?_⟩
  · rw [Bool.or_eq_true, decide_eq_true_eq] at hc
    rcases hc with hc | hc
    · have := h.tn.yes hc; omega
    · have := h4 hc; omega
  · obtain ⟨c1, c2, c3⟩ := hsame hc
    rw [c3]
    exact h.tn.no c1
  · obtain ⟨c1, c2, c3⟩ := hsame hc
    by_cases e : q = m
    · subst e
      rw [hj] at hj'
      injection hj' with hj'
      have e2 : j = j' := by omega
      subst e2
      rw [← (h.tn.no c1).1, getD_at hr]
      have := (joinR_up (h.tn.ci.ok j r hr) h.vok).2
      rw [c2] at this
      exact this
    · exact h.done c1 q j' (by omega) hj'

theorem Tw.wayTo {n : Nat} {p : List Bk} {hv : List Int} {X0 X : List (List Int)} {ch b : Bool} {i m j : Nat} {js v r q : List Int} (h : Tw n p hv X0 X ch i js v m) (hj : js[m]? = some (j : Int)) (hr : X[j]? = some r) (hq : joinR r v = q) (hb : b = true ↔ q ≠ r) : Tw n p hv X0 (X.set j q) (ch || b) i js v (m + 1) := by
  have h2 := h.way hj hr
  have e : b = decide (joinR r v ≠ r) := by rw [Bool.eq_iff_iff, hb, hq, decide_eq_true_eq]
  have e2 : X.set j q = pt X j v := by unfold pt; rw [getD_at hr, hq]
  rw [e, e2]
  exact h2

theorem Tw.block {n : Nat} {p : List Bk} {hv : List Int} {X0 X : List (List Int)} {ch : Bool} {i m : Nat} {js v : List Int} (h : Tw n p hv X0 X ch i js v m) (hm : js.length ≤ m) : Tn n p hv X0 X ch (i + 1) := by
  refine ⟨h.tn.ci, h.tn.wt, h.tn.yes, fun hc => ⟨(h.tn.no hc).1, fun i' j b a hi hb ha hne hj => ?_⟩⟩
  by_cases e : i' = i
  · subst e
    obtain ⟨b', a', h1, h2, h3, h4⟩ := h.of hc
    rw [hb] at h1
    injection h1 with h1
    subst h1
    rw [ha] at h2
    injection h2 with h2
    subst h2
    rw [← h3] at hj
    obtain ⟨q, hq, e⟩ := List.getElem_of_mem hj
    rw [← h4]
    exact h.done hc q j (by omega) (by rw [List.getElem?_eq_getElem hq, e])
  · exact (h.tn.no hc).2 i' j b a (by omega) hb ha hne hj

/-- what a turn answers -/
structure Turn (n : Nat) (p : List Bk) (hv : List Int) (X0 X : List (List Int)) (ch : Bool) : Prop where
  ci : Ci n p hv X
  yes : ch = true → wtM n X < wtM n X0
  no : ch = false → Least n p hv X

theorem Tn.turn {n : Nat} {p : List Bk} {hv : List Int} {X0 X : List (List Int)} {ch : Bool} {i : Nat} (h : Tn n p hv X0 X ch i) (hi : p.length ≤ i) : Turn n p hv X0 X ch := by
  refine ⟨h.ci, h.yes, fun hc => ?_⟩
  obtain ⟨h1, h2⟩ := h.no hc
  refine ⟨⟨h.ci.len, h.ci.ok, h.ci.start, fun i' j b a hb ha hne hj => ?_⟩, h.ci.low⟩
  rw [h1] at ha ⊢
  exact h2 i' j b a (by have := (List.getElem?_eq_some_iff.1 hb).1; omega) hb ha hne hj

/-! ### Where a folded block leads -/

def folG (b : Bk) : List Int := if b.test ≠ -1 then [b.th, b.el] else if b.th ≠ -1 then [b.th] else []

theorem folG_fd {n m : Nat} {b : Bk} (h : BkOk n m b) {a : List Int} (ha : KOk n a) (hn : 0 < n) : folG (fdB b a) = goK b (bhK b.code a) := by
  have hne : a ≠ [] := fun e => by have := ha.1; rw [e] at this; simp at this; omega
  have hk := bhK_ok h.code ha
  unfold fdB
  rw [if_neg hne]
  by_cases ht : b.test = -1
  · rw [if_neg (by omega)]
    unfold folG goK
    simp only []
    rw [if_neg (by simp [ht])]
    by_cases h2 : b.th = -1
    · rw [if_neg (by simp [h2]), if_pos ⟨ht, h2⟩]
    · rw [if_pos h2, if_neg (by omega), if_pos (.inl ht)]
  · have h3 : 0 ≤ b.test ∧ b.test < n := by rcases h.test with h | h <;> omega
    have hel := h.el h3.1
    have hth := h.th
    have hxb := hk.at_ (v := b.test.toNat) (by omega)
    have hg : goK b (bhK b.code a) = if 0 < (bhK b.code a).getD b.test.toNat 0 then [b.th] else if (bhK b.code a).getD b.test.toNat 0 = 0 then [b.el] else [b.th, b.el] := by
      unfold goK
      rw [if_neg (by omega)]
      by_cases h4 : 0 < (bhK b.code a).getD b.test.toNat 0
      · rw [if_pos (.inr h4), if_pos h4]
      · rw [if_neg (by omega), if_neg h4]
    rw [hg]
    generalize (bhK b.code a).getD b.test.toNat 0 = x at *
    by_cases h5 : 0 < x
    · rw [if_pos ⟨h3.1, by omega⟩, if_pos h5]
      unfold folG
      simp only []
      rw [if_neg (by simp), List.getD_cons_zero, if_pos (by omega)]
    · by_cases h6 : x = 0
      · rw [if_pos ⟨h3.1, by omega⟩, if_neg h5, if_pos h6]
        unfold folG
        simp only []
        rw [if_neg (by simp), List.getD_cons_zero, if_pos (by omega)]
      · rw [if_neg (by omega), if_neg h5, if_neg h6]
        unfold folG
        simp only []
        rw [if_pos ht]

end Go.Proofs.Ytdckagledddkdaa
