/-
  Several texts in one: RegionAll, RegionSteps, RegionLate.
-/
import Derived.Orders
import Derived.OrdersHeld
import Derived.Deep.RegionHeld3
import Derived.Test.YteogdcjigigeeaaMBase

/-
  A region that draws its order, whose operations yield the same in every order, in every world that keeps what the caller needs: ONE STATE BEHIND IT, AND NO ORDERS TO WALK.
-/

namespace Go.Proofs.Yteogdcjigigeeaa
set_option linter.unusedSimpArgs false
set_option linter.unusedVariables false

section
variable {P : Program} {ops : Array Oper} {Q : Exit → Act → World → Prop} {S : World → Prop}

/-- in every world that meets S it leaves a value, at once, or by a call; with that the state is one of those that may stand behind all -/
def GivesX {X : Type} (P : Program) (S : World → Prop) (o : Oper) (af : X → Act) (x : X) : Prop :=
  ∀ w, S w → ∃ n w1, (execOp (af x).eval o).run P w = .ok n w1 ∧ ((∃ v, n = .value v ∧ (∃ x', af x' = (af x).put o.dst v) ∧ S w1) ∨ (n = .skip ∧ (∃ x', af x' = (af x).put o.dst undef) ∧ S w1) ∨
    (∃ f args, n = .enter f args ∧ Calls P f args w1 fun e w' => ∃ v, e = .returned v ∧ (∃ x', af x' = (af x).put o.dst v) ∧ S w') ∨ ∃ row args, n = .row row args ∧ Rows P row args w1 fun u w' => (∃ x', af x' = (af x).put o.dst u) ∧ S w')

/-- what one operation leaves stands in the states behind all of them -/
def ObX {X : Type} (P : Program) (ops : Array Oper) (S : World → Prop) (af : X → Act) (x : X) (o : Oper) : Prop :=
  (Region.wanted o (yielded ops (af x).tmps) = true ∧ GivesX P S o af x) ∨ (Region.wanted o (yielded ops (af x).tmps) = false ∧ af x = (af x).put o.dst undef)

/-- each slot is written once, and read behind that -/
def detOk (ops : Array Oper) : Bool :=
  Region.noSelect ops && (List.range ops.size).all fun i => match ops[i]? with
    | none => true
    | some o => (o.after.all fun e => decide (e.on < i)) && (List.range ops.size).all fun j => match ops[j]? with
      | none => true
      | some q => match q.dst with
        | none => true
        | some d => (j == i || o.dst != some d) && (!(o.looksAt ops).contains d || o.after.any (fun e => Region.binds .any e && e.on == j))

theorem detOk_at (h : detOk ops = true) {i : Nat} {o : Oper} (ho : ops[i]? = some o) :
    (∀ e ∈ o.after, e.on < i) ∧ ∀ (j : Nat) (q : Oper) (d : Tmp), ops[j]? = some q → q.dst = some d → (j = i ∨ o.dst ≠ some d) ∧ (d ∈ o.looksAt ops → ∃ e ∈ o.after, Region.binds .any e = true ∧ e.on = j) := by
  unfold detOk at h
  rw [Bool.and_eq_true] at h
  have h1 := List.all_eq_true.1 h.2 i (List.mem_range.2 (Array.getElem?_eq_some_iff.1 ho).1)
  simp only [ho, Bool.and_eq_true] at h1
  refine ⟨fun e he => by simpa using (Array.all_eq_true_iff_forall_mem.1 h1.1) e he, fun j q d hq hd => ?_⟩
  have h2 := List.all_eq_true.1 h1.2 j (List.mem_range.2 (Array.getElem?_eq_some_iff.1 hq).1)
  simp only [hq, hd, Bool.and_eq_true, Bool.or_eq_true, beq_iff_eq, bne_iff_ne, ne_eq, Bool.not_eq_true'] at h2
  refine ⟨h2.1, fun hm => ?_⟩
  rcases h2.2 with h3 | h3
  · have : (o.looksAt ops).contains d = true := by simpa using hm
    rw [this] at h3
    cases h3
  · obtain ⟨e, he, hb⟩ := Array.any_eq_true'.1 h3
    simp only [Bool.and_eq_true, beq_iff_eq] at hb
    exact ⟨e, he, hb⟩

/-- so far as listed the state is the one behind all -/
def AgrD (ops : Array Oper) (af : Act) (listed : Array Bool) (a : Act) : Prop :=
  a.defers = af.defers ∧ a.tmps.size = af.tmps.size ∧ ∀ d : Nat, (∀ (j : Nat) (q : Oper), ops[j]? = some q → q.dst = some d → listed.getD j true = true) → a.tmps[d]? = af.tmps[d]?

theorem getD_ft {listed : Array Bool} {j : Nat} (h : listed.getD j false = true) : listed.getD j true = true := by
  rcases Nat.lt_or_ge j listed.size with h' | h'
  · simpa [h'] using h
  · simp [Array.getElem?_eq_none h'] at h

theorem getD_self_true {listed : Array Bool} {i : Nat} : (listed.setIfInBounds i true).getD i true = true := by
  rcases Nat.lt_or_ge i listed.size with h' | h'
  · simp [h']
  · simp [Array.getElem?_eq_none h']

theorem det_any {X : Type} {af : X → Act} (hk : detOk ops = true) (hob : ∀ (x : X) (i : Nat) (o : Oper), ops[i]? = some o → ObX P ops S af x o) (hQ : ∀ x w, S w → Q .normal (af x) w) :
    ∀ (fuel : Nat) (listed : Array Bool) (a : Act) (w : World) (L : List Nat) (x : X), listed.size = ops.size → (∀ i, i < ops.size → listed.getD i true = false → i ∈ L) → L.length ≤ fuel → AgrD ops (af x) listed a → S w →
      wpAny P .any ops Q fuel listed a w := by
  -- where all are listed the state is one behind all
  have last : ∀ (x : X) (listed : Array Bool) (a : Act), (∀ i, i < ops.size → listed.getD i true = true) → AgrD ops (af x) listed a → a = af x := fun x listed a hl h => by
    generalize af x = z at h
    obtain ⟨t, df⟩ := a
    obtain ⟨t2, df2⟩ := z
    obtain ⟨h1, h2, h3⟩ := h
    simp only [] at h1 h2 h3
    subst h1
    congr 1
    apply Array.ext_getElem?
    intro d
    exact h3 d fun j q hq _ => hl j (Array.getElem?_eq_some_iff.1 hq).1
  -- where none is ready all are listed
  have none_ : ∀ listed : Array Bool, listed.size = ops.size → Region.ready .any ops listed = [] → ∀ i, i < ops.size → listed.getD i true = true := fun listed hs hr i => by
    induction i using Nat.strongRecOn with
    | _ i ih =>
      intro hi
      cases e : listed.getD i true with
      | true => rfl
      | false =>
        exfalso
        have ho : ops[i]? = some ops[i] := Array.getElem?_eq_getElem hi
        have : i ∈ Region.ready .any ops listed := mem_ready.2 ⟨e, _, ho, fun ed hed _ => by
          have hlt := (detOk_at hk ho).1 ed hed
          have := ih ed.on hlt (by omega)
          have hb : ed.on < listed.size := by omega
          simpa [hb] using this⟩
        rw [hr] at this
        cases this
  intro fuel
  induction fuel with
  | zero =>
    intro listed a w L x hs hL hlen hA hS
    have hL0 : L = [] := List.length_eq_zero_iff.1 (by omega)
    have hall : ∀ i, i < ops.size → listed.getD i true = true := fun i hi => by
      cases e : listed.getD i true with
      | true => rfl
      | false =>
        have := hL i hi e
        rw [hL0] at this
        cases this
    refine ⟨?_, last x listed a hall hA ▸ hQ x w hS⟩
    cases e : Region.ready .any ops listed with
    | nil => rfl
    | cons y r =>
      have hx : y ∈ Region.ready .any ops listed := by rw [e]; exact List.mem_cons_self ..
      obtain ⟨h1, o, ho, _⟩ := mem_ready.1 hx
      rw [hall y (Array.getElem?_eq_some_iff.1 ho).1] at h1
      cases h1
  | succ fuel ih =>
    intro listed a w L x hs hL hlen hA hS
    refine ⟨fun hr => last x listed a (none_ listed hs hr) hA ▸ hQ x w hS, fun i hi => ?_⟩
    obtain ⟨hun, o, ho, hdep⟩ := mem_ready.1 hi
    have hilt := (Array.getElem?_eq_some_iff.1 ho).1
    obtain ⟨hlt, hchk⟩ := detOk_at hk ho
    obtain ⟨hA1, hA2, hA3⟩ := hA
    -- what it looks at stands already
    have hsee : ∀ t ∈ o.looksAt ops, a.tmps[t]? = (af x).tmps[t]? := fun t ht => hA3 t fun j q hq hd => by
      obtain ⟨e, he, hb, hj⟩ := (hchk j q t hq hd).2 ht
      rw [← hj]
      exact getD_ft (hdep e he hb)
    have hns : ∀ cs b, o.op ≠ .select cs b := fun cs b => by
      have hk2 := hk
      unfold detOk at hk2
      rw [Bool.and_eq_true] at hk2
      exact Region.noSelect_spec hk2.1 i o cs b ho
    have hex : execOp a.eval o = execOp (af x).eval o := execOp_congr o hns fun y hx => by
      cases y with
      | tmp t =>
        have := hsee t (List.mem_append_left _ (List.mem_filterMap.2 ⟨.tmp t, by simpa using hx, rfl⟩))
        show a.tmps.getD t undef = (af x).tmps.getD t undef
        simp only [Array.getD_eq_getD_getElem?, this]
      | _ => rfl
    have hwa : Region.wanted o (yielded ops a.tmps) = Region.wanted o (yielded ops (af x).tmps) := by
      unfold Region.wanted
      cases hg : o.guard with
      | none => rfl
      | some gw =>
        obtain ⟨g, want⟩ := gw
        have hy : yielded ops a.tmps g = yielded ops (af x).tmps g := by
          unfold yielded
          cases ht : (ops[g]?).bind (·.dst) with
          | none => rfl
          | some t =>
            have := hsee t (by simp [Oper.looksAt, hg, ht])
            simp only [Option.bind_some, this]
        simp only [hy]
    -- behind it
    have next : ∀ (v : Value) (w' : World), (∃ x', af x' = (af x).put o.dst v) → S w' → wpAny P .any ops Q fuel (listed.setIfInBounds i true) (a.put o.dst v) w' := fun v w' ⟨x', hx'⟩ hS' => by
      have him : i ∈ L := hL i hilt hun
      refine ih _ _ _ (L.erase i) x' (by simpa using hs) (fun j hj hju => ?_) (by rw [List.length_erase_of_mem him]; omega) ?_ hS'
      · have hji : j ≠ i := fun e => by
          subst e
          rw [getD_self_true] at hju
          cases hju
        rw [getD_set_ne true (Ne.symm hji)] at hju
        exact (List.mem_erase_of_ne hji).2 (hL j hj hju)
      · rw [hx']
        refine ⟨?_, ?_, fun d hd => ?_⟩
        · cases o.dst <;> exact hA1
        · cases h : o.dst with
          | none => exact hA2
          | some d => simpa [Act.put, h] using hA2
        · cases h : o.dst with
          | none =>
            refine hA3 d fun j q hq hqd => ?_
            have hji : j ≠ i := fun e => by
              subst e
              rw [ho] at hq
              injection hq with hq
              rw [← hq, h] at hqd
              cases hqd
            have := hd j q hq hqd
            rwa [getD_set_ne true (Ne.symm hji)] at this
          | some d' =>
            by_cases e : d' = d
            · subst e
              simp only [Act.put]
              rw [Array.getElem?_setIfInBounds_self, Array.getElem?_setIfInBounds_self, hA2]
            · simp only [Act.put]
              rw [Array.getElem?_setIfInBounds_ne e, Array.getElem?_setIfInBounds_ne e]
              refine hA3 d fun j q hq hqd => ?_
              have hji : j ≠ i := fun e2 => by
                subst e2
                rw [ho] at hq
                injection hq with hq
                rw [← hq, h] at hqd
                injection hqd with hqd
                exact e hqd
              have := hd j q hq hqd
              rwa [getD_set_ne true (Ne.symm hji)] at this
    unfold wpOp
    simp only [ho]
    rw [hwa]
    rcases hob x i o ho with ⟨hw, hg⟩ | ⟨hw, he⟩
    · simp only [hw, if_true]
      refine .inl ?_
      unfold Oper.wp
      rw [hex]
      obtain ⟨n, w1, hrun, hn⟩ := hg w hS
      rw [hrun]
      rcases hn with ⟨v, rfl, hx', hS1⟩ | ⟨rfl, hx', hS1⟩ | ⟨f, args, rfl, hcall⟩ | ⟨row, args, rfl, hrow⟩
      · exact next v w1 hx' hS1
      · exact next undef w1 hx' hS1
      · refine Calls.mono hcall fun e w' he => ?_
        obtain ⟨v, rfl, hx', hS'⟩ := he
        exact next v w' hx' hS'
      · refine Rows.mono hrow fun u w' he => ?_
        exact next u w' he.1 he.2
    · simp only [hw, Bool.false_eq_true, if_false]
      exact next undef w ⟨x, he⟩ hS

/-- what each leaves, put in its slot -/
def putsD : List Oper → List Value → Act → Act
  | o :: os, v :: vs, a => putsD os vs (a.put o.dst v)
  | _, _, a => a

theorem putsD_defers : ∀ (os : List Oper) (vs : List Value) (a : Act), (putsD os vs a).defers = a.defers
  | [], _, _ => by unfold putsD; rfl
  | _ :: _, [], _ => by unfold putsD; rfl
  | o :: os, v :: vs, a => by
    rw [putsD, putsD_defers os vs]
    cases o.dst <;> rfl

theorem putsD_size : ∀ (os : List Oper) (vs : List Value) (a : Act), (putsD os vs a).tmps.size = a.tmps.size
  | [], _, _ => by unfold putsD; rfl
  | _ :: _, [], _ => by unfold putsD; rfl
  | o :: os, v :: vs, a => by
    rw [putsD, putsD_size os vs]
    cases h : o.dst <;> simp [Act.put]

theorem putsD_ne : ∀ (os : List Oper) (vs : List Value) (a : Act) (d : Nat), (∀ o ∈ os, o.dst ≠ some d) → (putsD os vs a).tmps[d]? = a.tmps[d]?
  | [], _, _, _, _ => by unfold putsD; rfl
  | _ :: _, [], _, _, _ => by unfold putsD; rfl
  | o :: os, v :: vs, a, d, h => by
    rw [putsD, putsD_ne os vs _ d fun x hx => h x (List.mem_cons_of_mem _ hx)]
    have h1 := h o (List.mem_cons_self ..)
    cases e : o.dst with
    | none => rfl
    | some d' =>
      rw [e] at h1
      simp only [Act.put]
      rw [Array.getElem?_setIfInBounds_ne fun e2 => h1 (by rw [e2])]

/-- THE LAW: the state behind the region is one in which each operation has left what it yields there -/
theorem wp_region_allX {X : Type} {id : Nat} {os : List Oper} {a : Act} {w : World} (x0 : X) (af : X → Act) (vs : X → List Value) (hm : P.follows .mixedOrders = true) (hk : detOk os.toArray = true) (haf : ∀ x, putsD os (vs x) a = af x) (hS : S { w with drawn := w.drawn + 1 })
    (hob : ∀ x, ∀ o ∈ os, ObX P os.toArray S af x o) (hQ : ∀ x w', S w' → Q .normal (af x) w') : (Code.region id os.toArray true).wp P Q a w := by
  refine wp_region_any hm (det_any hk (fun x i o ho => hob x o (by simpa using Array.mem_of_getElem? ho)) hQ _ _ _ _ (List.range os.toArray.size) x0 (by simp) (fun i hi _ => List.mem_range.2 hi) (by simp) ⟨?_, ?_, fun d hd => ?_⟩ hS)
  · rw [← haf, putsD_defers]
  · rw [← haf, putsD_size]
  · rw [← haf, putsD_ne]
    intro o ho hod
    obtain ⟨i, hi, rfl⟩ := List.getElem_of_mem ho
    have := hd i os[i] (by simp [hi]) hod
    simp [hi] at this

theorem putsD_get : ∀ (os : List Oper) (vs : List Value) (a : Act) (k : Nat) (o : Oper) (v : Value) (d : Tmp), os[k]? = some o → vs[k]? = some v → o.dst = some d → d < a.tmps.size → (∀ (j : Nat) (q : Oper), os[j]? = some q → q.dst = some d → j = k) → (putsD os vs a).tmps[d]? = some v
  | [], _, _, _, _, _, _, h, _, _, _, _ => by simp at h
  | _ :: _, [], _, _, _, _, _, _, h, _, _, _ => by simp at h
  | p :: os, u :: vs, a, 0, o, v, d, h, h2, hd, hlt, hu => by
    simp at h h2
    subst h h2
    rw [putsD, putsD_ne, hd]
    · simp [Act.put, hlt]
    · intro q hq hqd
      obtain ⟨j, hj, rfl⟩ := List.getElem_of_mem hq
      have := hu (j + 1) os[j] (by simp) hqd
      omega
  | p :: os, u :: vs, a, k + 1, o, v, d, h, h2, hd, hlt, hu => by
    rw [putsD]
    refine putsD_get os vs _ k o v d (by simpa using h) (by simpa using h2) hd ?_ fun j q hq hqd => ?_
    · cases e : p.dst <;> simpa [Act.put, e] using hlt
    · have := hu (j + 1) q (by simpa using hq) hqd
      omega

theorem put_same {af : Act} {dst : Option Tmp} {v : Value} (h : ∀ d, dst = some d → af.tmps[d]? = some v) : af = af.put dst v := by
  cases dst with
  | none => rfl
  | some d =>
    have h1 := h d rfl
    obtain ⟨t, df⟩ := af
    simp only [Act.put, Act.mk.injEq, and_true]
    apply Array.ext_getElem?
    intro i
    by_cases e : d = i
    · subst e
      simp only [] at h1
      rw [Array.getElem?_setIfInBounds_self, h1, if_pos (Array.getElem?_eq_some_iff.1 h1).1]
    · rw [Array.getElem?_setIfInBounds_ne e]

/-- what one operation leaves: nothing, for its guard says no; v, in every world that meets S; or what the state holds then -/
def ObV {X : Type} (P : Program) (ops : Array Oper) (S : World → Prop) (af : X → Act) (x : X) (o : Oper) (v : Value) : Prop :=
  (Region.wanted o (yielded ops (af x).tmps) = false ∧ v = undef) ∨ (Region.wanted o (yielded ops (af x).tmps) = true ∧ ∀ w, S w → (execOp (af x).eval o).run P w = .ok (.value v) w) ∨ (Region.wanted o (yielded ops (af x).tmps) = true ∧ GivesX P S o af x)

/-- .. each of them -/
def AllV {X : Type} (P : Program) (ops : Array Oper) (S : World → Prop) (af : X → Act) (x : X) : List Oper → List Value → Prop
  | [], _ => True
  | _ :: _, [] => False
  | o :: os, v :: vs => ObV P ops S af x o v ∧ AllV P ops S af x os vs

theorem AllV.at_ {X : Type} {af : X → Act} {x : X} : ∀ {os : List Oper} {vs : List Value} {k : Nat} {o : Oper}, AllV P ops S af x os vs → os[k]? = some o → ∃ v, vs[k]? = some v ∧ ObV P ops S af x o v
  | [], _, _, _, _, h => by simp at h
  | _ :: _, [], _, _, h, _ => h.elim
  | p :: os, u :: vs, 0, o, h, e => by
    simp at e
    subst e
    exact ⟨u, rfl, h.1⟩
  | p :: os, u :: vs, k + 1, o, h, e => by
    obtain ⟨v, h1, h2⟩ := AllV.at_ (k := k) (o := o) h.2 (by simpa using e)
    exact ⟨v, by simpa using h1, h2⟩

/-- each slot is there -/
def dstOk (os : List Oper) (n : Nat) : Bool := os.all fun o => match o.dst with
  | some d => decide (d < n)
  | none => true

/-- THE LAW, as it is used: a list of the values that the operations leave, by what is not known of them ahead (x) -/
theorem wp_region_each {X : Type} {id : Nat} {os : List Oper} {a : Act} {w : World} (S : World → Prop) (x0 : X) (vs : X → List Value) (af : X → Act) (hm : P.follows .mixedOrders = true) (hk : detOk os.toArray = true) (hd : dstOk os a.tmps.size = true) (haf : ∀ x, putsD os (vs x) a = af x)
    (hS : S w.drew) (hob : ∀ x, AllV P os.toArray S af x os (vs x)) (hQ : ∀ x w', S w' → Q .normal (af x) w') : (Code.region id os.toArray true).wp P Q a w := by
  refine wp_region_allX (S := S) x0 af vs hm hk haf hS (fun x o ho => ?_) hQ
  obtain ⟨k, hkl, rfl⟩ := List.getElem_of_mem ho
  have hok : os[k]? = some os[k] := List.getElem?_eq_getElem hkl
  obtain ⟨v, hv, hob1⟩ := (hob x).at_ hok
  have hput : af x = (af x).put os[k].dst v := put_same fun d hdd => by
    rw [← haf x]
    refine putsD_get os (vs x) a k _ v d hok hv hdd ?_ fun j q hq hqd => ?_
    · have := List.all_eq_true.1 hd _ ho
      rw [hdd] at this
      simpa using this
    · rcases ((detOk_at hk (i := k) (o := os[k]) (by simp)).2 j q d (by simpa using hq) hqd).1 with h | h
      · exact h
      · exact absurd hdd h
  rcases hob1 with ⟨hw, rfl⟩ | ⟨hw, h⟩ | ⟨hw, h⟩
  · exact .inr ⟨hw, hput⟩
  · exact .inl ⟨hw, fun w hS => ⟨_, _, h w hS, .inl ⟨v, rfl, ⟨x, hput⟩, hS⟩⟩⟩
  · exact .inl ⟨hw, h⟩

theorem AllV.nil {X : Type} {af : X → Act} {x : X} {vs : List Value} : AllV P ops S af x [] vs := trivial

theorem AllV.no {X : Type} {af : X → Act} {x : X} {o : Oper} {os : List Oper} {vs : List Value} (hw : Region.wanted o (yielded ops (af x).tmps) = false) (hs : AllV P ops S af x os vs) : AllV P ops S af x (o :: os) (undef :: vs) := ⟨.inl ⟨hw, rfl⟩, hs⟩

theorem AllV.val {X : Type} {af : X → Act} {x : X} {o : Oper} {os : List Oper} {v : Value} {vs : List Value} (hw : Region.wanted o (yielded ops (af x).tmps) = true) (h : ∀ w, S w → (execOp (af x).eval o).run P w = .ok (.value v) w) (hs : AllV P ops S af x os vs) : AllV P ops S af x (o :: os) (v :: vs) := ⟨.inr (.inl ⟨hw, h⟩), hs⟩

/-- a call: shown as the walk shows one -/
theorem AllV.call {X : Type} {af : X → Act} {x : X} {o : Oper} {os : List Oper} {v : Value} {vs : List Value} (hdf : ∀ x y, (af x).defers = (af y).defers) (hw : Region.wanted o (yielded ops (af x).tmps) = true)
    (h : ∀ w, S w → ∀ K : Act → World → Prop, (∀ x' w', S w' → K (af x') w') → Oper.wp P o (af x) w K fun _ _ _ => False) (hs : AllV P ops S af x os vs) : AllV P ops S af x (o :: os) (v :: vs) := by
  refine ⟨.inr (.inr ⟨hw, fun w hS => ?_⟩), hs⟩
  have h1 := h w hS (fun a' w' => (∃ x', af x' = a') ∧ S w') fun x' w' hS' => ⟨⟨x', rfl⟩, hS'⟩
  unfold Oper.wp at h1
  generalize (execOp (af x).eval o).run P w = r at h1
  cases r with
  | ok n w' =>
    cases n <;> simp only [Oper.upon] at h1
    case value u => exact ⟨_, _, rfl, .inl ⟨u, rfl, h1⟩⟩
    case skip => exact ⟨_, _, rfl, .inr (.inl ⟨rfl, h1⟩)⟩
    case defer df =>
      exfalso
      obtain ⟨x', h2⟩ := h1.1
      have h3 := congrArg Act.defers h2
      rw [hdf x' x] at h3
      have h4 : ({ (af x) with defers := df :: (af x).defers }.put o.dst undef).defers = df :: (af x).defers := by cases o.dst <;> rfl
      rw [h4] at h3
      have h5 := congrArg List.length h3
      simp at h5
    case enter f args =>
      refine ⟨_, _, rfl, .inr (.inr (.inl ⟨f, args, rfl, Calls.mono h1 fun e w'' he => ?_⟩))⟩
      cases e with
      | returned u => exact ⟨u, rfl, he⟩
      | panicked c => exact he.elim
      | outgrown =>
        obtain ⟨_, _, h⟩ := he
        exact h.elim
    case row row args => exact ⟨_, _, rfl, .inr (.inr (.inr ⟨row, args, rfl, h1⟩))⟩
  | halt y w' =>
    cases y <;> simp only [Oper.upon] at h1

end

end Go.Proofs.Yteogdcjigigeeaa

/-
  A region that draws its order, whose operations turn the world step by step: WHAT IS DONE SO FAR IS PART OF THE STATE; no orders to walk.
-/

namespace Go.Proofs.Yteogdcjigigeeaa
open Go.RowKit
set_option linter.unusedSimpArgs false
set_option linter.unusedVariables false

section
variable {P : Program} {ops : Array Oper} {Q : Exit → Act → World → Prop} {X : Type} {S : X → World → Prop} {D : X → Nat → Bool} {eff : Nat → Bool}

/-- of the operations that turn the world, i is done, and those done before -/
def Nxt (eff : Nat → Bool) (D : X → Nat → Bool) (x x' : X) (i : Nat) : Prop := ∀ j, eff j = true → (D x' j = true ↔ j = i ∨ D x j = true)

/-- what is known where number i is taken: those that it waits for are done, those that wait for it are not -/
structure Pre (ops : Array Oper) (eff : Nat → Bool) (D : X → Nat → Bool) (x : X) (i : Nat) (o : Oper) : Prop where
  me : eff i = true → D x i = false
  bef : ∀ e ∈ o.after, Region.binds .any e = true → eff e.on = true → D x e.on = true
  aft : ∀ (j : Nat) (q : Oper), ops[j]? = some q → eff j = true → (∃ e ∈ q.after, Region.binds .any e = true ∧ e.on = i) → D x j = false

theorem Pre.need {x : X} {i k : Nat} {o : Oper} (h : Pre ops eff D x i o) (hk : eff k = true) (he : (o.after.any fun e => Region.binds .any e && e.on == k) = true) : D x k = true := by
  obtain ⟨e, hm, hb⟩ := Array.any_eq_true'.1 he
  simp only [Bool.and_eq_true, beq_iff_eq] at hb
  have := h.bef e hm hb.1
  rw [hb.2] at this
  exact this hk

theorem Pre.not {x : X} {i j : Nat} {o : Oper} (h : Pre ops eff D x i o) (hj : eff j = true) (he : (match ops[j]? with | some q => q.after.any fun e => Region.binds .any e && e.on == i | none => false) = true) : D x j = false := by
  cases hq : ops[j]? with
  | none => rw [hq] at he; cases he
  | some q =>
    rw [hq] at he
    obtain ⟨e, hm, hb⟩ := Array.any_eq_true'.1 he
    simp only [Bool.and_eq_true, beq_iff_eq] at hb
    exact h.aft j q hq hj ⟨e, hm, hb.1, hb.2⟩

/-- the state behind number i -/
def ResS (S : X → World → Prop) (D : X → Nat → Bool) (eff : Nat → Bool) (af : X → Act) (x : X) (i : Nat) (o : Oper) (v : Value) (w' : World) : Prop := ∃ x', af x' = (af x).put o.dst v ∧ Nxt eff D x x' i ∧ S x' w'

def GivesS (P : Program) (ops : Array Oper) (S : X → World → Prop) (D : X → Nat → Bool) (eff : Nat → Bool) (af : X → Act) (x : X) (i : Nat) (o : Oper) : Prop :=
  ∀ w, S x w → Pre ops eff D x i o → ∃ n w1, (execOp (af x).eval o).run P w = .ok n w1 ∧ ((∃ v, n = .value v ∧ ResS S D eff af x i o v w1) ∨ (n = .skip ∧ ResS S D eff af x i o undef w1) ∨
    (∃ f args, n = .enter f args ∧ Calls P f args w1 fun e w' => ∃ v, e = .returned v ∧ ResS S D eff af x i o v w') ∨ ∃ row args, n = .row row args ∧ Rows P row args w1 fun u w' => ResS S D eff af x i o u w')

def ObS (P : Program) (ops : Array Oper) (S : X → World → Prop) (D : X → Nat → Bool) (eff : Nat → Bool) (af : X → Act) (x : X) (i : Nat) (o : Oper) : Prop :=
  (Region.wanted o (yielded ops (af x).tmps) = true ∧ GivesS P ops S D eff af x i o) ∨ (Region.wanted o (yielded ops (af x).tmps) = false ∧ eff i = false ∧ af x = (af x).put o.dst undef)

theorem Nxt.none {x : X} {i : Nat} (h : eff i = false) : Nxt eff D x x i := fun j hj => by
  constructor
  · exact .inr
  · rintro (rfl | h2)
    · rw [h] at hj; cases hj
    · exact h2

theorem det_steps {af : X → Act} (hk : detOk ops = true) (hob : ∀ (x : X) (i : Nat) (o : Oper), ops[i]? = some o → ObS P ops S D eff af x i o) (hQ : ∀ x w, (∀ i, i < ops.size → eff i = true → D x i = true) → S x w → Q .normal (af x) w) :
    ∀ (fuel : Nat) (listed : Array Bool) (a : Act) (w : World) (L : List Nat) (x : X), listed.size = ops.size → (∀ i, i < ops.size → listed.getD i true = false → i ∈ L) → L.length ≤ fuel → AgrD ops (af x) listed a → S x w →
      (∀ i, i < ops.size → eff i = true → (D x i = true ↔ listed.getD i true = true)) → (∀ (j : Nat) (q : Oper), ops[j]? = some q → listed.getD j true = true → ∀ e ∈ q.after, Region.binds .any e = true → listed.getD e.on true = true) →
      wpAny P .any ops Q fuel listed a w := by
  have last : ∀ (x : X) (listed : Array Bool) (a : Act), (∀ i, i < ops.size → listed.getD i true = true) → AgrD ops (af x) listed a → a = af x := fun x listed a hl h => by
    generalize af x = z at h
    obtain ⟨t, df⟩ := a
    obtain ⟨t2, df2⟩ := z
    obtain ⟨h1, h2, h3⟩ := h
    simp only [] at h1 h2 h3
    subst h1
    congr 1
    apply Array.ext_getElem?
    intro d
    exact h3 d fun j q hq _ => hl j (Array.getElem?_eq_some_iff.1 hq).1
  have none_ : ∀ listed : Array Bool, listed.size = ops.size → Region.ready .any ops listed = [] → ∀ i, i < ops.size → listed.getD i true = true := fun listed hs hr i => by
    induction i using Nat.strongRecOn with
    | _ i ih =>
      intro hi
      cases e : listed.getD i true with
      | true => rfl
      | false =>
        exfalso
        have ho : ops[i]? = some ops[i] := Array.getElem?_eq_getElem hi
        have : i ∈ Region.ready .any ops listed := mem_ready.2 ⟨e, _, ho, fun ed hed _ => by
          have hlt := (detOk_at hk ho).1 ed hed
          have := ih ed.on hlt (by omega)
          have hb : ed.on < listed.size := by omega
          simpa [hb] using this⟩
        rw [hr] at this
        cases this
  intro fuel
  induction fuel with
  | zero =>
    intro listed a w L x hs hL hlen hA hS hD hC
    have hL0 : L = [] := List.length_eq_zero_iff.1 (by omega)
    have hall : ∀ i, i < ops.size → listed.getD i true = true := fun i hi => by
      cases e : listed.getD i true with
      | true => rfl
      | false =>
        have := hL i hi e
        rw [hL0] at this
        cases this
    refine ⟨?_, last x listed a hall hA ▸ hQ x w (fun i hi he => (hD i hi he).2 (hall i hi)) hS⟩
    cases e : Region.ready .any ops listed with
    | nil => rfl
    | cons y r =>
      have hx : y ∈ Region.ready .any ops listed := by rw [e]; exact List.mem_cons_self ..
      obtain ⟨h1, o, ho, _⟩ := mem_ready.1 hx
      rw [hall y (Array.getElem?_eq_some_iff.1 ho).1] at h1
      cases h1
  | succ fuel ih =>
    intro listed a w L x hs hL hlen hA hS hD hC
    refine ⟨fun hr => last x listed a (none_ listed hs hr) hA ▸ hQ x w (fun i hi he => (hD i hi he).2 (none_ listed hs hr i hi)) hS, fun i hi => ?_⟩
    obtain ⟨hun, o, ho, hdep⟩ := mem_ready.1 hi
    have hilt := (Array.getElem?_eq_some_iff.1 ho).1
    obtain ⟨hlt, hchk⟩ := detOk_at hk ho
    obtain ⟨hA1, hA2, hA3⟩ := hA
    have hpre : Pre ops eff D x i o := by
      refine ⟨fun he => ?_, fun e he hb hef => ?_, fun j q hq hej ⟨e, he, hb, hon⟩ => ?_⟩
      · cases h : D x i with
        | false => rfl
        | true =>
          have := (hD i hilt he).1 h
          rw [hun] at this
          cases this
      · have := hlt e he
        exact (hD e.on (by omega) hef).2 (getD_ft (hdep e he hb))
      · have hjl := (Array.getElem?_eq_some_iff.1 hq).1
        cases h : D x j with
        | false => rfl
        | true =>
          have h1 := (hD j hjl hej).1 h
          have h2 := hC j q hq h1 e he hb
          rw [hon, hun] at h2
          cases h2
    have hsee : ∀ t ∈ o.looksAt ops, a.tmps[t]? = (af x).tmps[t]? := fun t ht => hA3 t fun j q hq hd => by
      obtain ⟨e, he, hb, hj⟩ := (hchk j q t hq hd).2 ht
      rw [← hj]
      exact getD_ft (hdep e he hb)
    have hns : ∀ cs b, o.op ≠ .select cs b := fun cs b => by
      have hk2 := hk
      unfold detOk at hk2
      rw [Bool.and_eq_true] at hk2
      exact Region.noSelect_spec hk2.1 i o cs b ho
    have hex : execOp a.eval o = execOp (af x).eval o := execOp_congr o hns fun y hx => by
      cases y with
      | tmp t =>
        have := hsee t (List.mem_append_left _ (List.mem_filterMap.2 ⟨.tmp t, by simpa using hx, rfl⟩))
        show a.tmps.getD t undef = (af x).tmps.getD t undef
        simp only [Array.getD_eq_getD_getElem?, this]
      | _ => rfl
    have hwa : Region.wanted o (yielded ops a.tmps) = Region.wanted o (yielded ops (af x).tmps) := by
      unfold Region.wanted
      cases hg : o.guard with
      | none => rfl
      | some gw =>
        obtain ⟨g, want⟩ := gw
        have hy : yielded ops a.tmps g = yielded ops (af x).tmps g := by
          unfold yielded
          cases ht : (ops[g]?).bind (·.dst) with
          | none => rfl
          | some t =>
            have := hsee t (by simp [Oper.looksAt, hg, ht])
            simp only [Option.bind_some, this]
        simp only [hy]
    have next : ∀ (v : Value) (w' : World), ResS S D eff af x i o v w' → wpAny P .any ops Q fuel (listed.setIfInBounds i true) (a.put o.dst v) w' := fun v w' ⟨x', hx', hnx, hS'⟩ => by
      have him : i ∈ L := hL i hilt hun
      refine ih _ _ _ (L.erase i) x' (by simpa using hs) (fun j hj hju => ?_) (by rw [List.length_erase_of_mem him]; omega) ?_ hS' (fun j hj hej => ?_) fun j q hq hjl e he hb => ?_
      · have hji : j ≠ i := fun e => by
          subst e
          rw [getD_self_true] at hju
          cases hju
        rw [getD_set_ne true (Ne.symm hji)] at hju
        exact (List.mem_erase_of_ne hji).2 (hL j hj hju)
      · rw [hx']
        refine ⟨?_, ?_, fun d hd => ?_⟩
        · cases o.dst <;> exact hA1
        · cases h : o.dst with
          | none => exact hA2
          | some d => simpa [Act.put, h] using hA2
        · cases h : o.dst with
          | none =>
            refine hA3 d fun j q hq hqd => ?_
            have hji : j ≠ i := fun e => by
              subst e
              rw [ho] at hq
              injection hq with hq
              rw [← hq, h] at hqd
              cases hqd
            have := hd j q hq hqd
            rwa [getD_set_ne true (Ne.symm hji)] at this
          | some d' =>
            by_cases e : d' = d
            · subst e
              simp only [Act.put]
              rw [Array.getElem?_setIfInBounds_self, Array.getElem?_setIfInBounds_self, hA2]
            · simp only [Act.put]
              rw [Array.getElem?_setIfInBounds_ne e, Array.getElem?_setIfInBounds_ne e]
              refine hA3 d fun j q hq hqd => ?_
              have hji : j ≠ i := fun e2 => by
                subst e2
                rw [ho] at hq
                injection hq with hq
                rw [← hq, h] at hqd
                injection hqd with hqd
                exact e hqd
              have := hd j q hq hqd
              rwa [getD_set_ne true (Ne.symm hji)] at this
      · rw [hnx j hej]
        by_cases hji : j = i
        · subst hji
          rw [getD_self_true]
          simp
        · rw [getD_set_ne true (Ne.symm hji), hD j hj hej]
          simp [hji]
      · by_cases hji : j = i
        · subst hji
          rw [ho] at hq
          injection hq with hq
          subst hq
          have := hlt e he
          rw [getD_set_ne true (by omega)]
          exact getD_ft (hdep e he hb)
        · rw [getD_set_ne true (Ne.symm hji)] at hjl
          have := hC j q hq hjl e he hb
          by_cases e2 : e.on = i
          · rw [e2, getD_self_true]
          · rw [getD_set_ne true (Ne.symm e2)]
            exact this
    unfold wpOp
    simp only [ho]
    rw [hwa]
    rcases hob x i o ho with ⟨hw, hg⟩ | ⟨hw, hef, he⟩
    · simp only [hw, if_true]
      refine .inl ?_
      unfold Oper.wp
      rw [hex]
      obtain ⟨n, w1, hrun, hn⟩ := hg w hS hpre
      rw [hrun]
      rcases hn with ⟨v, rfl, hr⟩ | ⟨rfl, hr⟩ | ⟨f, args, rfl, hcall⟩ | ⟨row, args, rfl, hrow⟩
      · exact next v w1 hr
      · exact next undef w1 hr
      · refine Calls.mono hcall fun e w' he => ?_
        obtain ⟨v, rfl, hr⟩ := he
        exact next v w' hr
      · refine Rows.mono hrow fun u w' he => ?_
        exact next u w' he
    · simp only [hw, Bool.false_eq_true, if_false]
      exact next undef w ⟨x, he, Nxt.none hef, hS⟩

/-- what number i leaves: nothing, for its guard says no; v, the world as it was; or what the state holds then -/
def ObSV (P : Program) (ops : Array Oper) (S : X → World → Prop) (D : X → Nat → Bool) (eff : Nat → Bool) (af : X → Act) (x : X) (i : Nat) (o : Oper) (v : Value) : Prop :=
  (Region.wanted o (yielded ops (af x).tmps) = false ∧ eff i = false ∧ v = undef) ∨ (Region.wanted o (yielded ops (af x).tmps) = true ∧ eff i = false ∧ ∀ w, S x w → Pre ops eff D x i o → (execOp (af x).eval o).run P w = .ok (.value v) w) ∨ (Region.wanted o (yielded ops (af x).tmps) = true ∧ GivesS P ops S D eff af x i o)

def AllS (P : Program) (ops : Array Oper) (S : X → World → Prop) (D : X → Nat → Bool) (eff : Nat → Bool) (af : X → Act) (x : X) : Nat → List Oper → List Value → Prop
  | _, [], _ => True
  | _, _ :: _, [] => False
  | i, o :: os, v :: vs => ObSV P ops S D eff af x i o v ∧ AllS P ops S D eff af x (i + 1) os vs

theorem AllS.at_ {af : X → Act} {x : X} : ∀ {os : List Oper} {vs : List Value} {i k : Nat} {o : Oper}, AllS P ops S D eff af x i os vs → os[k]? = some o → ∃ v, vs[k]? = some v ∧ ObSV P ops S D eff af x (i + k) o v
  | [], _, _, _, _, _, h => by simp at h
  | _ :: _, [], _, _, _, h, _ => h.elim
  | p :: os, u :: vs, i, 0, o, h, e => by
    simp at e
    subst e
    exact ⟨u, rfl, h.1⟩
  | p :: os, u :: vs, i, k + 1, o, h, e => by
    obtain ⟨v, h1, h2⟩ := AllS.at_ (k := k) (o := o) h.2 (by simpa using e)
    exact ⟨v, by simpa using h1, by rwa [show i + (k + 1) = i + 1 + k by omega]⟩

/-- THE LAW: a list of the values that the operations leave, by what is not known of them ahead; what is done so far (D) of those that turn the world (eff) -/
theorem wp_region_steps {id : Nat} {os : List Oper} {a : Act} {w : World} (S : X → World → Prop) (D : X → Nat → Bool) (eff : Nat → Bool) (x0 : X) (vs : X → List Value) (af : X → Act) (hm : P.follows .mixedOrders = true) (hk : detOk os.toArray = true) (hd : dstOk os a.tmps.size = true) (haf : ∀ x, putsD os (vs x) a = af x)
    (h0 : ∀ i, i < os.length → eff i = true → D x0 i = false) (hS : S x0 w.drew) (hob : ∀ x, AllS P os.toArray S D eff af x 0 os (vs x)) (hQ : ∀ x w', (∀ i, i < os.length → eff i = true → D x i = true) → S x w' → Q .normal (af x) w') : (Code.region id os.toArray true).wp P Q a w := by
  refine wp_region_any hm (det_steps (S := S) (D := D) (eff := eff) hk (fun x i o ho => ?_) (fun x w' h => hQ x w' (by simpa using h)) _ _ _ _ (List.range os.toArray.size) x0 (by simp) (fun i hi _ => List.mem_range.2 hi) (by simp) ⟨?_, ?_, fun d hd => ?_⟩ hS (fun i hi he => ?_) fun j q hq hjl => ?_)
  · have ho' : os[i]? = some o := by simpa using ho
    obtain ⟨v, hv, hob1⟩ := (hob x).at_ ho'
    rw [Nat.zero_add] at hob1
    have hput : ∀ v, (vs x)[i]? = some v → af x = (af x).put o.dst v := fun v hv => put_same fun d hdd => by
      rw [← haf x]
      refine putsD_get os (vs x) a i _ v d ho' hv hdd ?_ fun j q hq hqd => ?_
      · have := List.all_eq_true.1 hd _ (List.mem_of_getElem? ho')
        rw [hdd] at this
        simpa using this
      · rcases ((detOk_at hk (i := i) (o := o) ho).2 j q d (by simpa using hq) hqd).1 with h | h
        · exact h
        · exact absurd hdd h
    rcases hob1 with ⟨hw, hef, rfl⟩ | ⟨hw, hef, h⟩ | ⟨hw, h⟩
    · exact .inr ⟨hw, hef, hput _ hv⟩
    · exact .inl ⟨hw, fun w hS hp => ⟨_, _, h w hS hp, .inl ⟨v, rfl, x, hput _ hv, Nxt.none hef, hS⟩⟩⟩
    · exact .inl ⟨hw, h⟩
  · rw [← haf, putsD_defers]
  · rw [← haf, putsD_size]
  · rw [← haf, putsD_ne]
    intro o ho hod
    obtain ⟨i, hi, rfl⟩ := List.getElem_of_mem ho
    have := hd i os[i] (by simp [hi]) hod
    simp [hi] at this
  · have hi' : i < os.length := by simpa using hi
    rw [h0 i hi' he]
    simp [hi']
  · have hj : j < os.length := by simpa using (Array.getElem?_eq_some_iff.1 hq).1
    simp [hj] at hjl

theorem AllS.nil {af : X → Act} {x : X} {i : Nat} {vs : List Value} : AllS P ops S D eff af x i [] vs := trivial

theorem AllS.no {af : X → Act} {x : X} {i : Nat} {o : Oper} {os : List Oper} {vs : List Value} (he : eff i = false) (hw : Region.wanted o (yielded ops (af x).tmps) = false) (hs : AllS P ops S D eff af x (i + 1) os vs) : AllS P ops S D eff af x i (o :: os) (undef :: vs) := ⟨.inl ⟨hw, he, rfl⟩, hs⟩

theorem AllS.val {af : X → Act} {x : X} {i : Nat} {o : Oper} {os : List Oper} {v : Value} {vs : List Value} (he : eff i = false) (hw : Region.wanted o (yielded ops (af x).tmps) = true) (h : ∀ w, S x w → Pre ops eff D x i o → (execOp (af x).eval o).run P w = .ok (.value v) w) (hs : AllS P ops S D eff af x (i + 1) os vs) : AllS P ops S D eff af x i (o :: os) (v :: vs) := ⟨.inr (.inl ⟨hw, he, h⟩), hs⟩

/-- one that turns the world: shown as the walk shows one -/
theorem AllS.turn {af : X → Act} {x : X} {i : Nat} {o : Oper} {os : List Oper} {v : Value} {vs : List Value} (hdf : ∀ x y, (af x).defers = (af y).defers) (hw : Region.wanted o (yielded ops (af x).tmps) = true)
    (h : ∀ w, S x w → Pre ops eff D x i o → ∀ K : Act → World → Prop, (∀ x' w', Nxt eff D x x' i → S x' w' → K (af x') w') → Oper.wp P o (af x) w K fun _ _ _ => False) (hs : AllS P ops S D eff af x (i + 1) os vs) : AllS P ops S D eff af x i (o :: os) (v :: vs) := by
  refine ⟨.inr (.inr ⟨hw, fun w hS hp => ?_⟩), hs⟩
  have h1 := h w hS hp (fun a' w' => ∃ x', af x' = a' ∧ Nxt eff D x x' i ∧ S x' w') fun x' w' hn hS' => ⟨x', rfl, hn, hS'⟩
  unfold Oper.wp at h1
  generalize (execOp (af x).eval o).run P w = r at h1
  cases r with
  | ok n w' =>
    cases n <;> simp only [Oper.upon] at h1
    case value u => exact ⟨_, _, rfl, .inl ⟨u, rfl, h1⟩⟩
    case skip => exact ⟨_, _, rfl, .inr (.inl ⟨rfl, h1⟩)⟩
    case defer df =>
      exfalso
      obtain ⟨x', h2, _⟩ := h1
      have h3 := congrArg Act.defers h2
      rw [hdf x' x] at h3
      have h4 : ({ (af x) with defers := df :: (af x).defers }.put o.dst undef).defers = df :: (af x).defers := by cases o.dst <;> rfl
      rw [h4] at h3
      have h5 := congrArg List.length h3
      simp at h5
    case enter f args =>
      refine ⟨_, _, rfl, .inr (.inr (.inl ⟨f, args, rfl, Calls.mono h1 fun e w'' he => ?_⟩))⟩
      cases e with
      | returned u => exact ⟨u, rfl, he⟩
      | panicked c => exact he.elim
      | outgrown =>
        obtain ⟨_, _, h⟩ := he
        exact h.elim
    case row row args => exact ⟨_, _, rfl, .inr (.inr (.inr ⟨row, args, rfl, h1⟩))⟩
  | halt y w' =>
    cases y <;> simp only [Oper.upon] at h1

end

/-- which operations turn the world, in their turn: 0 those that do not -/
def effL (L : List Nat) (j : Nat) : Bool := decide (0 < L.getD j 0)

def doneL (L : List Nat) (p j : Nat) : Bool := decide (L.getD j 0 ≤ p)

theorem h0L {L : List Nat} {n : Nat} : ∀ i, i < n → effL L i = true → doneL L 0 i = false := fun i _ h => by
  unfold effL doneL at *
  simp only [decide_eq_true_eq, decide_eq_false_iff_not] at *
  omega

theorem nxtL {Y : Type} {L : List Nat} {i p : Nat} {y y' : Y} (h : L.getD i 0 = p + 1) (hL : ((List.range L.length).all fun j => L.getD j 0 != p + 1 || j == i) = true) : Nxt (effL L) (fun (x : Nat × Y) j => doneL L x.1 j) (p, y) (p + 1, y') i := fun j hj => by
  unfold effL doneL at *
  simp only [decide_eq_true_eq] at *
  constructor
  · intro h2
    rcases Nat.lt_or_ge (L.getD j 0) (p + 1) with h3 | h3
    · exact .inr (by omega)
    · left
      have hjl : j < L.length := by
        rcases Nat.lt_or_ge j L.length with h4 | h4
        · exact h4
        · rw [List.getD_eq_getElem?_getD, List.getElem?_eq_none h4] at hj
          simp at hj
      have := List.all_eq_true.1 hL j (List.mem_range.2 hjl)
      simp only [Bool.or_eq_true, bne_iff_ne, ne_eq, beq_iff_eq] at this
      rcases this with h5 | h5
      · omega
      · exact h5
  · rintro (rfl | h2) <;> omega

theorem nxtN {Y : Type} {L : List Nat} {i p : Nat} {y y' : Y} (h : L.getD i 0 = 0) : Nxt (effL L) (fun (x : Nat × Y) j => doneL L x.1 j) (p, y) (p, y') i := fun j hj => by
  constructor
  · exact .inr
  · rintro (rfl | h2)
    · unfold effL at hj
      rw [h] at hj
      cases hj
    · exact h2

/-- append, as one operation -/
theorem oper_app {P : Program} {w : World} {o : Oper} {a : Act} {K : Act → World → Prop} {E : Exit → Act → World → Prop} (s x : Operand) (t : TypeId)
    (ho : o.op = .call { callee := .builtin .append, args := #[s, x], argTypes := #[t, t] }) (base : Nat) (e : TypeId) (size bytes : Nat) (hT : AppTy P t e size bytes)
    {A : Option Addr} {n c : Nat} (xs : List Value) (hs : a.eval s = .slice A n c) (hown : w.ownsRow base e size (.slice A n c) n xs)
    {A2 : Option Addr} {m c2 : Nat} (news : List Value) (hx : a.eval x = .slice A2 m c2) (hl : news.length = m * size) (hn : A2 = none → m = 0) (hnews : ∀ ad, A2 = some ad → ∀ j u, news[j]? = some u → w.cell? (ad.add j) = some u) (h1 : ∀ u ∈ news, u.oneCell' = true)
    (hb1 : n + m ≤ maxLen) (hb2 : (n + m) * bytes ≤ 140737488355328) (hbase : base ≤ w.heap.size)
    (h : ∀ A' c' w', w'.ownsRow base e size (.slice A' (n + m) c') (n + m) (xs ++ news) → w.grownBy w' (Value.slice A n c).ownBlock → Below base w w' → K (a.put o.dst (.slice A' (n + m) c')) w') : Oper.wp P o a w K E := by
  obtain ⟨A', c', w', hrun, h2, h3, h5⟩ := run_app (P := P) (w := w) base t o.type e size bytes hT A n c xs hown A2 m c2 news hl hn hnews h1 hb1 hb2 hbase
  unfold Oper.wp execOp
  simp only [ho, resolve, invoke, builtin, Sem.run_bind, Sem.run_pure, Result.andThen_ok, List.map_toArray, List.map_cons, List.map_nil, hs, hx, hrun]
  exact h A' c' w' h2 h3 (own_base hown h3 hbase)

end Go.Proofs.Yteogdcjigigeeaa

/-
  The same where a slot is read and then set within one region: its setter is 'late', the state tells what the slot holds so far.
-/

namespace Go.Proofs.Yteogdcjigigeeaa
open Go.RowKit
set_option linter.unusedSimpArgs false
set_option linter.unusedVariables false

section
variable {P : Program} {ops : Array Oper} {Q : Exit → Act → World → Prop} {X : Type} {S : X → World → Prop} {D : X → Nat → Bool} {eff : Nat → Bool}

/-- each slot is written once, and read behind that or written late -/
def detLate (ops : Array Oper) (lt : List Nat) : Bool :=
  Region.noSelect ops && (List.range ops.size).all fun i => match ops[i]? with
    | none => true
    | some o => (o.after.all fun e => decide (e.on < i)) && (List.range ops.size).all fun j => match ops[j]? with
      | none => true
      | some q => match q.dst with
        | none => true
        | some d => (j == i || o.dst != some d) && (!(o.looksAt ops).contains d || (o.after.any (fun e => Region.binds .any e && e.on == j) || lt.contains j))

theorem detLate_at {lt : List Nat} (h : detLate ops lt = true) {i : Nat} {o : Oper} (ho : ops[i]? = some o) :
    (∀ e ∈ o.after, e.on < i) ∧ ∀ (j : Nat) (q : Oper) (d : Tmp), ops[j]? = some q → q.dst = some d → (j = i ∨ o.dst ≠ some d) ∧ (d ∈ o.looksAt ops → (∃ e ∈ o.after, Region.binds .any e = true ∧ e.on = j) ∨ j ∈ lt) := by
  unfold detLate at h
  rw [Bool.and_eq_true] at h
  have h1 := List.all_eq_true.1 h.2 i (List.mem_range.2 (Array.getElem?_eq_some_iff.1 ho).1)
  simp only [ho, Bool.and_eq_true] at h1
  refine ⟨fun e he => by simpa using (Array.all_eq_true_iff_forall_mem.1 h1.1) e he, fun j q d hq hd => ?_⟩
  have h2 := List.all_eq_true.1 h1.2 j (List.mem_range.2 (Array.getElem?_eq_some_iff.1 hq).1)
  simp only [hq, hd, Bool.and_eq_true, Bool.or_eq_true, beq_iff_eq, bne_iff_ne, ne_eq, Bool.not_eq_true'] at h2
  refine ⟨h2.1, fun hm => ?_⟩
  rcases h2.2 with h3 | h3 | h3
  · have : (o.looksAt ops).contains d = true := by simpa using hm
    rw [this] at h3
    cases h3
  · obtain ⟨e, he, hb⟩ := Array.any_eq_true'.1 h3
    simp only [Bool.and_eq_true, beq_iff_eq] at hb
    exact .inl ⟨e, he, hb⟩
  · exact .inr (by simpa using h3)

/-- so far as listed the state is the one told; where a slot is written late, always -/
def AgrL (ops : Array Oper) (lt : List Nat) (af : Act) (listed : Array Bool) (a : Act) : Prop :=
  a.defers = af.defers ∧ a.tmps.size = af.tmps.size ∧ ∀ d : Nat, ((∀ (j : Nat) (q : Oper), ops[j]? = some q → q.dst = some d → listed.getD j true = true) ∨ ∃ (j : Nat) (q : Oper), ops[j]? = some q ∧ q.dst = some d ∧ j ∈ lt) → a.tmps[d]? = af.tmps[d]?

theorem det_late {af : X → Act} {lt : List Nat} (hk : detLate ops lt = true) (hob : ∀ (x : X) (i : Nat) (o : Oper), ops[i]? = some o → ObS P ops S D eff af x i o) (hQ : ∀ x w, (∀ i, i < ops.size → eff i = true → D x i = true) → S x w → Q .normal (af x) w) :
    ∀ (fuel : Nat) (listed : Array Bool) (a : Act) (w : World) (L : List Nat) (x : X), listed.size = ops.size → (∀ i, i < ops.size → listed.getD i true = false → i ∈ L) → L.length ≤ fuel → AgrL ops lt (af x) listed a → S x w →
      (∀ i, i < ops.size → eff i = true → (D x i = true ↔ listed.getD i true = true)) → (∀ (j : Nat) (q : Oper), ops[j]? = some q → listed.getD j true = true → ∀ e ∈ q.after, Region.binds .any e = true → listed.getD e.on true = true) →
      wpAny P .any ops Q fuel listed a w := by
  have last : ∀ (x : X) (listed : Array Bool) (a : Act), (∀ i, i < ops.size → listed.getD i true = true) → AgrL ops lt (af x) listed a → a = af x := fun x listed a hl h => by
    generalize af x = z at h
    obtain ⟨t, df⟩ := a
    obtain ⟨t2, df2⟩ := z
    obtain ⟨h1, h2, h3⟩ := h
    simp only [] at h1 h2 h3
    subst h1
    congr 1
    apply Array.ext_getElem?
    intro d
    exact h3 d (.inl fun j q hq _ => hl j (Array.getElem?_eq_some_iff.1 hq).1)
  have none_ : ∀ listed : Array Bool, listed.size = ops.size → Region.ready .any ops listed = [] → ∀ i, i < ops.size → listed.getD i true = true := fun listed hs hr i => by
    induction i using Nat.strongRecOn with
    | _ i ih =>
      intro hi
      cases e : listed.getD i true with
      | true => rfl
      | false =>
        exfalso
        have ho : ops[i]? = some ops[i] := Array.getElem?_eq_getElem hi
        have : i ∈ Region.ready .any ops listed := mem_ready.2 ⟨e, _, ho, fun ed hed _ => by
          have hlt := (detLate_at hk ho).1 ed hed
          have := ih ed.on hlt (by omega)
          have hb : ed.on < listed.size := by omega
          simpa [hb] using this⟩
        rw [hr] at this
        cases this
  intro fuel
  induction fuel with
  | zero =>
    intro listed a w L x hs hL hlen hA hS hD hC
    have hL0 : L = [] := List.length_eq_zero_iff.1 (by omega)
    have hall : ∀ i, i < ops.size → listed.getD i true = true := fun i hi => by
      cases e : listed.getD i true with
      | true => rfl
      | false =>
        have := hL i hi e
        rw [hL0] at this
        cases this
    refine ⟨?_, last x listed a hall hA ▸ hQ x w (fun i hi he => (hD i hi he).2 (hall i hi)) hS⟩
    cases e : Region.ready .any ops listed with
    | nil => rfl
    | cons y r =>
      have hx : y ∈ Region.ready .any ops listed := by rw [e]; exact List.mem_cons_self ..
      obtain ⟨h1, o, ho, _⟩ := mem_ready.1 hx
      rw [hall y (Array.getElem?_eq_some_iff.1 ho).1] at h1
      cases h1
  | succ fuel ih =>
    intro listed a w L x hs hL hlen hA hS hD hC
    refine ⟨fun hr => last x listed a (none_ listed hs hr) hA ▸ hQ x w (fun i hi he => (hD i hi he).2 (none_ listed hs hr i hi)) hS, fun i hi => ?_⟩
    obtain ⟨hun, o, ho, hdep⟩ := mem_ready.1 hi
    have hilt := (Array.getElem?_eq_some_iff.1 ho).1
    obtain ⟨hlt, hchk⟩ := detLate_at hk ho
    obtain ⟨hA1, hA2, hA3⟩ := hA
    have hpre : Pre ops eff D x i o := by
      refine ⟨fun he => ?_, fun e he hb hef => ?_, fun j q hq hej ⟨e, he, hb, hon⟩ => ?_⟩
      · cases h : D x i with
        | false => rfl
        | true =>
          have := (hD i hilt he).1 h
          rw [hun] at this
          cases this
      · have := hlt e he
        exact (hD e.on (by omega) hef).2 (getD_ft (hdep e he hb))
      · have hjl := (Array.getElem?_eq_some_iff.1 hq).1
        cases h : D x j with
        | false => rfl
        | true =>
          have h1 := (hD j hjl hej).1 h
          have h2 := hC j q hq h1 e he hb
          rw [hon, hun] at h2
          cases h2
    have hsee : ∀ t ∈ o.looksAt ops, a.tmps[t]? = (af x).tmps[t]? := fun t ht => by
      by_cases hl : ∃ (j : Nat) (q : Oper), ops[j]? = some q ∧ q.dst = some t ∧ j ∈ lt
      · exact hA3 t (.inr hl)
      · refine hA3 t (.inl fun j q hq hd => ?_)
        rcases (hchk j q t hq hd).2 ht with ⟨e, he, hb, hj⟩ | hj
        · rw [← hj]
          exact getD_ft (hdep e he hb)
        · exact absurd ⟨j, q, hq, hd, hj⟩ hl
    have hns : ∀ cs b, o.op ≠ .select cs b := fun cs b => by
      have hk2 := hk
      unfold detLate at hk2
      rw [Bool.and_eq_true] at hk2
      exact Region.noSelect_spec hk2.1 i o cs b ho
    have hex : execOp a.eval o = execOp (af x).eval o := execOp_congr o hns fun y hx => by
      cases y with
      | tmp t =>
        have := hsee t (List.mem_append_left _ (List.mem_filterMap.2 ⟨.tmp t, by simpa using hx, rfl⟩))
        show a.tmps.getD t undef = (af x).tmps.getD t undef
        simp only [Array.getD_eq_getD_getElem?, this]
      | _ => rfl
    have hwa : Region.wanted o (yielded ops a.tmps) = Region.wanted o (yielded ops (af x).tmps) := by
      unfold Region.wanted
      cases hg : o.guard with
      | none => rfl
      | some gw =>
        obtain ⟨g, want⟩ := gw
        have hy : yielded ops a.tmps g = yielded ops (af x).tmps g := by
          unfold yielded
          cases ht : (ops[g]?).bind (·.dst) with
          | none => rfl
          | some t =>
            have := hsee t (by simp [Oper.looksAt, hg, ht])
            simp only [Option.bind_some, this]
        simp only [hy]
    have next : ∀ (v : Value) (w' : World), ResS S D eff af x i o v w' → wpAny P .any ops Q fuel (listed.setIfInBounds i true) (a.put o.dst v) w' := fun v w' ⟨x', hx', hnx, hS'⟩ => by
      have him : i ∈ L := hL i hilt hun
      refine ih _ _ _ (L.erase i) x' (by simpa using hs) (fun j hj hju => ?_) (by rw [List.length_erase_of_mem him]; omega) ?_ hS' (fun j hj hej => ?_) fun j q hq hjl e he hb => ?_
      · have hji : j ≠ i := fun e => by
          subst e
          rw [getD_self_true] at hju
          cases hju
        rw [getD_set_ne true (Ne.symm hji)] at hju
        exact (List.mem_erase_of_ne hji).2 (hL j hj hju)
      · rw [hx']
        refine ⟨?_, ?_, fun d hd => ?_⟩
        · cases o.dst <;> exact hA1
        · cases h : o.dst with
          | none => exact hA2
          | some d => simpa [Act.put, h] using hA2
        · cases h : o.dst with
          | none =>
            refine hA3 d (hd.imp (fun hd j q hq hqd => ?_) id)
            have hji : j ≠ i := fun e => by
              subst e
              rw [ho] at hq
              injection hq with hq
              rw [← hq, h] at hqd
              cases hqd
            have := hd j q hq hqd
            rwa [getD_set_ne true (Ne.symm hji)] at this
          | some d' =>
            by_cases e : d' = d
            · subst e
              simp only [Act.put]
              rw [Array.getElem?_setIfInBounds_self, Array.getElem?_setIfInBounds_self, hA2]
            · simp only [Act.put]
              rw [Array.getElem?_setIfInBounds_ne e, Array.getElem?_setIfInBounds_ne e]
              refine hA3 d (hd.imp (fun hd j q hq hqd => ?_) id)
              have hji : j ≠ i := fun e2 => by
                subst e2
                rw [ho] at hq
                injection hq with hq
                rw [← hq, h] at hqd
                injection hqd with hqd
                exact e hqd
              have := hd j q hq hqd
              rwa [getD_set_ne true (Ne.symm hji)] at this
      · rw [hnx j hej]
        by_cases hji : j = i
        · subst hji
          rw [getD_self_true]
          simp
        · rw [getD_set_ne true (Ne.symm hji), hD j hj hej]
          simp [hji]
      · by_cases hji : j = i
        · subst hji
          rw [ho] at hq
          injection hq with hq
          subst hq
          have := hlt e he
          rw [getD_set_ne true (by omega)]
          exact getD_ft (hdep e he hb)
        · rw [getD_set_ne true (Ne.symm hji)] at hjl
          have := hC j q hq hjl e he hb
          by_cases e2 : e.on = i
          · rw [e2, getD_self_true]
          · rw [getD_set_ne true (Ne.symm e2)]
            exact this
    unfold wpOp
    simp only [ho]
    rw [hwa]
    rcases hob x i o ho with ⟨hw, hg⟩ | ⟨hw, hef, he⟩
    · simp only [hw, if_true]
      refine .inl ?_
      unfold Oper.wp
      rw [hex]
      obtain ⟨n, w1, hrun, hn⟩ := hg w hS hpre
      rw [hrun]
      rcases hn with ⟨v, rfl, hr⟩ | ⟨rfl, hr⟩ | ⟨f, args, rfl, hcall⟩ | ⟨row, args, rfl, hrow⟩
      · exact next v w1 hr
      · exact next undef w1 hr
      · refine Calls.mono hcall fun e w' he => ?_
        obtain ⟨v, rfl, hr⟩ := he
        exact next v w' hr
      · refine Rows.mono hrow fun u w' he => ?_
        exact next u w' he
    · simp only [hw, Bool.false_eq_true, if_false]
      exact next undef w ⟨x, he, Nxt.none hef, hS⟩

/-- THE LAW: a list of the values that the operations leave, by what is not known of them ahead; what is done so far (D) of those that turn the world (eff) -/
theorem wp_region_late {id : Nat} {os : List Oper} {a : Act} {w : World} (S : X → World → Prop) (D : X → Nat → Bool) (eff : Nat → Bool) (lt : List Nat) (x0 : X) (vs : X → List Value) (af : X → Act) (hm : P.follows .mixedOrders = true) (hk : detLate os.toArray lt = true) (hd : dstOk os a.tmps.size = true) (haf : ∀ x, putsD os (vs x) a = af x)
    (hla : ∀ j ∈ lt, ((os[j]?).bind (·.dst)).bind (fun d => a.tmps[d]?) = (vs x0)[j]?)
    (h0 : ∀ i, i < os.length → eff i = true → D x0 i = false) (hS : S x0 w.drew) (hob : ∀ x, AllS P os.toArray S D eff af x 0 os (vs x)) (hQ : ∀ x w', (∀ i, i < os.length → eff i = true → D x i = true) → S x w' → Q .normal (af x) w') : (Code.region id os.toArray true).wp P Q a w := by
  refine wp_region_any hm (det_late (lt := lt) (S := S) (D := D) (eff := eff) hk (fun x i o ho => ?_) (fun x w' h => hQ x w' (by simpa using h)) _ _ _ _ (List.range os.toArray.size) x0 (by simp) (fun i hi _ => List.mem_range.2 hi) (by simp) ⟨?_, ?_, fun d hda => ?_⟩ hS (fun i hi he => ?_) fun j q hq hjl => ?_)
  · have ho' : os[i]? = some o := by simpa using ho
    obtain ⟨v, hv, hob1⟩ := (hob x).at_ ho'
    rw [Nat.zero_add] at hob1
    have hput : ∀ v, (vs x)[i]? = some v → af x = (af x).put o.dst v := fun v hv => put_same fun d hdd => by
      rw [← haf x]
      refine putsD_get os (vs x) a i _ v d ho' hv hdd ?_ fun j q hq hqd => ?_
      · have := List.all_eq_true.1 hd _ (List.mem_of_getElem? ho')
        rw [hdd] at this
        simpa using this
      · rcases ((detLate_at hk (i := i) (o := o) ho).2 j q d (by simpa using hq) hqd).1 with h | h
        · exact h
        · exact absurd hdd h
    rcases hob1 with ⟨hw, hef, rfl⟩ | ⟨hw, hef, h⟩ | ⟨hw, h⟩
    · exact .inr ⟨hw, hef, hput _ hv⟩
    · exact .inl ⟨hw, fun w hS hp => ⟨_, _, h w hS hp, .inl ⟨v, rfl, x, hput _ hv, Nxt.none hef, hS⟩⟩⟩
    · exact .inl ⟨hw, h⟩
  · rw [← haf, putsD_defers]
  · rw [← haf, putsD_size]
  · rcases hda with hda | ⟨j, q, hq, hqd, hj⟩
    · rw [← haf, putsD_ne]
      intro o ho hod
      obtain ⟨i, hi, rfl⟩ := List.getElem_of_mem ho
      have := hda i os[i] (by simp [hi]) hod
      simp [hi] at this
    · have hq' : os[j]? = some q := by simpa using hq
      have h1 := hla j hj
      rw [hq'] at h1
      simp only [Option.bind_some, hqd] at h1
      have hlt : d < a.tmps.size := by
        have := List.all_eq_true.1 hd _ (List.mem_of_getElem? hq')
        rw [hqd] at this
        simpa using this
      have h2 : a.tmps[d]? = some a.tmps[d] := Array.getElem?_eq_getElem hlt
      rw [← haf x0, h2]
      refine (putsD_get os (vs x0) a j q _ d hq' (h1.symm.trans h2) hqd hlt fun i p hp hpd => ?_).symm
      rcases ((detLate_at hk (i := j) (o := q) hq).2 i p d (by simpa using hp) hpd).1 with h | h
      · exact h
      · exact absurd hqd h
  · have hi' : i < os.length := by simpa using hi
    rw [h0 i hi' he]
    simp [hi']
  · have hj : j < os.length := by simpa using (Array.getElem?_eq_some_iff.1 hq).1
    simp [hj] at hjl

end

/-- append, as one operation, and where the row lies behind it -/
theorem oper_app' {P : Program} {w : World} {o : Oper} {a : Act} {K : Act → World → Prop} {E : Exit → Act → World → Prop} (s x : Operand) (t : TypeId)
    (ho : o.op = .call { callee := .builtin .append, args := #[s, x], argTypes := #[t, t] }) (base : Nat) (e : TypeId) (size bytes : Nat) (hT : AppTy P t e size bytes)
    {A : Option Addr} {n c : Nat} (xs : List Value) (hs : a.eval s = .slice A n c) (hown : w.ownsRow base e size (.slice A n c) n xs)
    {A2 : Option Addr} {m c2 : Nat} (news : List Value) (hx : a.eval x = .slice A2 m c2) (hl : news.length = m * size) (hn : A2 = none → m = 0) (hnews : ∀ ad, A2 = some ad → ∀ j u, news[j]? = some u → w.cell? (ad.add j) = some u) (h1 : ∀ u ∈ news, u.oneCell' = true)
    (hb1 : n + m ≤ maxLen) (hb2 : (n + m) * bytes ≤ 140737488355328) (hbase : base ≤ w.heap.size)
    (h : ∀ A' c' w', w'.ownsRow base e size (.slice A' (n + m) c') (n + m) (xs ++ news) → w.grownBy w' (Value.slice A n c).ownBlock → Below base w w' →
      ((Value.slice A' (n + m) c').ownBlock = (Value.slice A n c).ownBlock ∨ (Value.slice A' (n + m) c').ownBlock = some w.heap.size) → K (a.put o.dst (.slice A' (n + m) c')) w') : Oper.wp P o a w K E := by
  obtain ⟨A', c', w', hrun, h2, h3, h5⟩ := run_app (P := P) (w := w) base t o.type e size bytes hT A n c xs hown A2 m c2 news hl hn hnews h1 hb1 hb2 hbase
  unfold Oper.wp execOp
  simp only [ho, resolve, invoke, builtin, Sem.run_bind, Sem.run_pure, Result.andThen_ok, List.map_toArray, List.map_cons, List.map_nil, hs, hx, hrun]
  exact h A' c' w' h2 h3 (own_base hown h3 hbase) h5

end Go.Proofs.Yteogdcjigigeeaa
