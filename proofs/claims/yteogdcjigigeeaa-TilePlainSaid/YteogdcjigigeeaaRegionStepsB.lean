/-
  A region that draws its order, as XRegionSteps has it, where edges that bind in one order alone (a lookup's, a result's late stores) lead forward.
-/
import Derived.Test.YteogdcjigigeeaaMReg
namespace Go.Proofs.Yteogdcjigigeeaa
open Go.RowKit
set_option linter.unusedSimpArgs false
set_option linter.unusedVariables false

/-- each slot is written once, and read behind that; only edges that bind are asked -/
def detOkB (ops : Array Oper) : Bool :=
  Region.noSelect ops && (List.range ops.size).all fun i => match ops[i]? with
    | none => true
    | some o => (o.after.all fun e => !(Region.binds .any e) || decide (e.on < i)) && (List.range ops.size).all fun j => match ops[j]? with
      | none => true
      | some q => match q.dst with
        | none => true
        | some d => (j == i || o.dst != some d) && (!(o.looksAt ops).contains d || o.after.any (fun e => Region.binds .any e && e.on == j))

theorem detOkB_at {ops : Array Oper} (h : detOkB ops = true) {i : Nat} {o : Oper} (ho : ops[i]? = some o) :
    (∀ e ∈ o.after, Region.binds .any e = true → e.on < i) ∧ ∀ (j : Nat) (q : Oper) (d : Tmp), ops[j]? = some q → q.dst = some d → (j = i ∨ o.dst ≠ some d) ∧ (d ∈ o.looksAt ops → ∃ e ∈ o.after, Region.binds .any e = true ∧ e.on = j) := by
  unfold detOkB at h
  rw [Bool.and_eq_true] at h
  have h1 := List.all_eq_true.1 h.2 i (List.mem_range.2 (Array.getElem?_eq_some_iff.1 ho).1)
  simp only [ho, Bool.and_eq_true] at h1
  refine ⟨fun e he hb => by
    have := (Array.all_eq_true_iff_forall_mem.1 h1.1) e he
    rw [hb] at this
    simpa using this, fun j q d hq hd => ?_⟩
  have h2 := List.all_eq_true.1 h1.2 j (List.mem_range.2 (Array.getElem?_eq_some_iff.1 hq).1)
  simp only [hq, hd, Bool.and_eq_true, Bool.or_eq_true, beq_iff_eq, bne_iff_ne, ne_eq, Bool.not_eq_true'] at h2
  refine ⟨h2.1, fun hm => ?_⟩
  rcases h2.2 with h3 | h3
  · have : (o.looksAt ops).contains d = true := by simpa using hm
    rw [this] at h3
    cases h3
  · obtain ⟨e, he, hb⟩ := Array.any_eq_true'.1 h3
    simp only [Bool.and_eq_true, beq_iff_eq] at hb
    exact ⟨e, he, hb⟩

section
variable {P : Program} {ops : Array Oper} {Q : Exit → Act → World → Prop} {X : Type} {S : X → World → Prop} {D : X → Nat → Bool} {eff : Nat → Bool}

theorem det_stepsB {af : X → Act} (hk : detOkB ops = true) (hob : ∀ (x : X) (i : Nat) (o : Oper), ops[i]? = some o → ObS P ops S D eff af x i o) (hQ : ∀ x w, (∀ i, i < ops.size → eff i = true → D x i = true) → S x w → Q .normal (af x) w) :
    ∀ (fuel : Nat) (listed : Array Bool) (a : Act) (w : World) (L : List Nat) (x : X), listed.size = ops.size → (∀ i, i < ops.size → listed.getD i true = false → i ∈ L) → L.length ≤ fuel → AgrD ops (af x) listed a → S x w →
      (∀ i, i < ops.size → eff i = true → (D x i = true ↔ listed.getD i true = true)) → (∀ (j : Nat) (q : Oper), ops[j]? = some q → listed.getD j true = true → ∀ e ∈ q.after, Region.binds .any e = true → listed.getD e.on true = true) →
      wpAny P .any ops Q fuel listed a w := by
  have last : ∀ (x : X) (listed : Array Bool) (a : Act), (∀ i, i < ops.size → listed.getD i true = true) → AgrD ops (af x) listed a → a = af x := fun x listed a hl h => by
    generalize af x = z at h
    obtain ⟨t, df⟩ := a
    obtain ⟨t2, df2⟩ := z
    obtain ⟨h1, h2, h3⟩ := h
    simp only [] at h1 h2 h3
    subst h1
    congr 1
    apply Array.ext_getElem?
    intro d
    exact h3 d fun j q hq _ => hl j (Array.getElem?_eq_some_iff.1 hq).1
  have none_ : ∀ listed : Array Bool, listed.size = ops.size → Region.ready .any ops listed = [] → ∀ i, i < ops.size → listed.getD i true = true := fun listed hs hr i => by
    induction i using Nat.strongRecOn with
    | _ i ih =>
      intro hi
      cases e : listed.getD i true with
      | true => rfl
      | false =>
        exfalso
        have ho : ops[i]? = some ops[i] := Array.getElem?_eq_getElem hi
        have : i ∈ Region.ready .any ops listed := mem_ready.2 ⟨e, _, ho, fun ed hed hbb => by
          have hlt := (detOkB_at hk ho).1 ed hed hbb
          have := ih ed.on hlt (by omega)
          have hb : ed.on < listed.size := by omega
          simpa [hb] using this⟩
        rw [hr] at this
        cases this
  intro fuel
  induction fuel with
  | zero =>
    intro listed a w L x hs hL hlen hA hS hD hC
    have hL0 : L = [] := List.length_eq_zero_iff.1 (by omega)
    have hall : ∀ i, i < ops.size → listed.getD i true = true := fun i hi => by
      cases e : listed.getD i true with
      | true => rfl
      | false =>
        have := hL i hi e
        rw [hL0] at this
        cases this
    refine ⟨?_, last x listed a hall hA ▸ hQ x w (fun i hi he => (hD i hi he).2 (hall i hi)) hS⟩
    cases e : Region.ready .any ops listed with
    | nil => rfl
    | cons y r =>
      have hx : y ∈ Region.ready .any ops listed := by rw [e]; exact List.mem_cons_self ..
      obtain ⟨h1, o, ho, _⟩ := mem_ready.1 hx
      rw [hall y (Array.getElem?_eq_some_iff.1 ho).1] at h1
      cases h1
  | succ fuel ih =>
    intro listed a w L x hs hL hlen hA hS hD hC
    refine ⟨fun hr => last x listed a (none_ listed hs hr) hA ▸ hQ x w (fun i hi he => (hD i hi he).2 (none_ listed hs hr i hi)) hS, fun i hi => ?_⟩
    obtain ⟨hun, o, ho, hdep⟩ := mem_ready.1 hi
    have hilt := (Array.getElem?_eq_some_iff.1 ho).1
    obtain ⟨hlt, hchk⟩ := detOkB_at hk ho
    obtain ⟨hA1, hA2, hA3⟩ := hA
    have hpre : Pre ops eff D x i o := by
      refine ⟨fun he => ?_, fun e he hb hef => ?_, fun j q hq hej ⟨e, he, hb, hon⟩ => ?_⟩
      · cases h : D x i with
        | false => rfl
        | true =>
          have := (hD i hilt he).1 h
          rw [hun] at this
          cases this
      · have := hlt e he hb
        exact (hD e.on (by omega) hef).2 (getD_ft (hdep e he hb))
      · have hjl := (Array.getElem?_eq_some_iff.1 hq).1
        cases h : D x j with
        | false => rfl
        | true =>
          have h1 := (hD j hjl hej).1 h
          have h2 := hC j q hq h1 e he hb
          rw [hon, hun] at h2
          cases h2
    have hsee : ∀ t ∈ o.looksAt ops, a.tmps[t]? = (af x).tmps[t]? := fun t ht => hA3 t fun j q hq hd => by
      obtain ⟨e, he, hb, hj⟩ := (hchk j q t hq hd).2 ht
      rw [← hj]
      exact getD_ft (hdep e he hb)
    have hns : ∀ cs b, o.op ≠ .select cs b := fun cs b => by
      have hk2 := hk
      unfold detOkB at hk2
      rw [Bool.and_eq_true] at hk2
      exact Region.noSelect_spec hk2.1 i o cs b ho
    have hex : execOp a.eval o = execOp (af x).eval o := execOp_congr o hns fun y hx => by
      cases y with
      | tmp t =>
        have := hsee t (List.mem_append_left _ (List.mem_filterMap.2 ⟨.tmp t, by simpa using hx, rfl⟩))
        show a.tmps.getD t undef = (af x).tmps.getD t undef
        simp only [Array.getD_eq_getD_getElem?, this]
      | _ => rfl
    have hwa : Region.wanted o (yielded ops a.tmps) = Region.wanted o (yielded ops (af x).tmps) := by
      unfold Region.wanted
      cases hg : o.guard with
      | none => rfl
      | some gw =>
        obtain ⟨g, want⟩ := gw
        have hy : yielded ops a.tmps g = yielded ops (af x).tmps g := by
          unfold yielded
          cases ht : (ops[g]?).bind (·.dst) with
          | none => rfl
          | some t =>
            have := hsee t (by simp [Oper.looksAt, hg, ht])
            simp only [Option.bind_some, this]
        simp only [hy]
    have next : ∀ (v : Value) (w' : World), ResS S D eff af x i o v w' → wpAny P .any ops Q fuel (listed.setIfInBounds i true) (a.put o.dst v) w' := fun v w' ⟨x', hx', hnx, hS'⟩ => by
      have him : i ∈ L := hL i hilt hun
      refine ih _ _ _ (L.erase i) x' (by simpa using hs) (fun j hj hju => ?_) (by rw [List.length_erase_of_mem him]; omega) ?_ hS' (fun j hj hej => ?_) fun j q hq hjl e he hb => ?_
      · have hji : j ≠ i := fun e => by
          subst e
          rw [getD_self_true] at hju
          cases hju
        rw [getD_set_ne true (Ne.symm hji)] at hju
        exact (List.mem_erase_of_ne hji).2 (hL j hj hju)
      · rw [hx']
        refine ⟨?_, ?_, fun d hd => ?_⟩
        · cases o.dst <;> exact hA1
        · cases h : o.dst with
          | none => exact hA2
          | some d => simpa [Act.put, h] using hA2
        · cases h : o.dst with
          | none =>
            refine hA3 d fun j q hq hqd => ?_
            have hji : j ≠ i := fun e => by
              subst e
              rw [ho] at hq
              injection hq with hq
              rw [← hq, h] at hqd
              cases hqd
            have := hd j q hq hqd
            rwa [getD_set_ne true (Ne.symm hji)] at this
          | some d' =>
            by_cases e : d' = d
            · subst e
              simp only [Act.put]
              rw [Array.getElem?_setIfInBounds_self, Array.getElem?_setIfInBounds_self, hA2]
            · simp only [Act.put]
              rw [Array.getElem?_setIfInBounds_ne e, Array.getElem?_setIfInBounds_ne e]
              refine hA3 d fun j q hq hqd => ?_
              have hji : j ≠ i := fun e2 => by
                subst e2
                rw [ho] at hq
                injection hq with hq
                rw [← hq, h] at hqd
                injection hqd with hqd
                exact e hqd
              have := hd j q hq hqd
              rwa [getD_set_ne true (Ne.symm hji)] at this
      · rw [hnx j hej]
        by_cases hji : j = i
        · subst hji
          rw [getD_self_true]
          simp
        · rw [getD_set_ne true (Ne.symm hji), hD j hj hej]
          simp [hji]
      · by_cases hji : j = i
        · subst hji
          rw [ho] at hq
          injection hq with hq
          subst hq
          have := hlt e he hb
          rw [getD_set_ne true (by omega)]
          exact getD_ft (hdep e he hb)
        · rw [getD_set_ne true (Ne.symm hji)] at hjl
          have := hC j q hq hjl e he hb
          by_cases e2 : e.on = i
          · rw [e2, getD_self_true]
          · rw [getD_set_ne true (Ne.symm e2)]
            exact this
    unfold wpOp
    simp only [ho]
    rw [hwa]
    rcases hob x i o ho with ⟨hw, hg⟩ | ⟨hw, hef, he⟩
    · simp only [hw, if_true]
      refine .inl ?_
      unfold Oper.wp
      rw [hex]
      obtain ⟨n, w1, hrun, hn⟩ := hg w hS hpre
      rw [hrun]
      rcases hn with ⟨v, rfl, hr⟩ | ⟨rfl, hr⟩ | ⟨f, args, rfl, hcall⟩ | ⟨row, args, rfl, hrow⟩
      · exact next v w1 hr
      · exact next undef w1 hr
      · refine Calls.mono hcall fun e w' he => ?_
        obtain ⟨v, rfl, hr⟩ := he
        exact next v w' hr
      · refine Rows.mono hrow fun u w' he => ?_
        exact next u w' he
    · simp only [hw, Bool.false_eq_true, if_false]
      exact next undef w ⟨x, he, Nxt.none hef, hS⟩

/-- THE LAW: a list of the values that the operations leave, by what is not known of them ahead; what is done so far (D) of those that turn the world (eff) -/
theorem wp_region_stepsB {id : Nat} {os : List Oper} {a : Act} {w : World} (S : X → World → Prop) (D : X → Nat → Bool) (eff : Nat → Bool) (x0 : X) (vs : X → List Value) (af : X → Act) (hm : P.follows .mixedOrders = true) (hk : detOkB os.toArray = true) (hd : dstOk os a.tmps.size = true) (haf : ∀ x, putsD os (vs x) a = af x)
    (h0 : ∀ i, i < os.length → eff i = true → D x0 i = false) (hS : S x0 w.drew) (hob : ∀ x, AllS P os.toArray S D eff af x 0 os (vs x)) (hQ : ∀ x w', (∀ i, i < os.length → eff i = true → D x i = true) → S x w' → Q .normal (af x) w') : (Code.region id os.toArray true).wp P Q a w := by
  refine wp_region_any hm (det_stepsB (S := S) (D := D) (eff := eff) hk (fun x i o ho => ?_) (fun x w' h => hQ x w' (by simpa using h)) _ _ _ _ (List.range os.toArray.size) x0 (by simp) (fun i hi _ => List.mem_range.2 hi) (by simp) ⟨?_, ?_, fun d hd => ?_⟩ hS (fun i hi he => ?_) fun j q hq hjl => ?_)
  · have ho' : os[i]? = some o := by simpa using ho
    obtain ⟨v, hv, hob1⟩ := (hob x).at_ ho'
    rw [Nat.zero_add] at hob1
    have hput : ∀ v, (vs x)[i]? = some v → af x = (af x).put o.dst v := fun v hv => put_same fun d hdd => by
      rw [← haf x]
      refine putsD_get os (vs x) a i _ v d ho' hv hdd ?_ fun j q hq hqd => ?_
      · have := List.all_eq_true.1 hd _ (List.mem_of_getElem? ho')
        rw [hdd] at this
        simpa using this
      · rcases ((detOkB_at hk (i := i) (o := o) ho).2 j q d (by simpa using hq) hqd).1 with h | h
        · exact h
        · exact absurd hdd h
    rcases hob1 with ⟨hw, hef, rfl⟩ | ⟨hw, hef, h⟩ | ⟨hw, h⟩
    · exact .inr ⟨hw, hef, hput _ hv⟩
    · exact .inl ⟨hw, fun w hS hp => ⟨_, _, h w hS hp, .inl ⟨v, rfl, x, hput _ hv, Nxt.none hef, hS⟩⟩⟩
    · exact .inl ⟨hw, h⟩
  · rw [← haf, putsD_defers]
  · rw [← haf, putsD_size]
  · rw [← haf, putsD_ne]
    intro o ho hod
    obtain ⟨i, hi, rfl⟩ := List.getElem_of_mem ho
    have := hd i os[i] (by simp [hi]) hod
    simp [hi] at this
  · have hi' : i < os.length := by simpa using hi
    rw [h0 i hi' he]
    simp [hi']
  · have hj : j < os.length := by simpa using (Array.getElem?_eq_some_iff.1 hq).1
    simp [hj] at hjl

end

end Go.Proofs.Yteogdcjigigeeaa
