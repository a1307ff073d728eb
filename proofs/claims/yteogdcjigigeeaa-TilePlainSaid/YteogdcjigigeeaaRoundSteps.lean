/-
  XRegionStepsB's law for a region inside a fence: in a round of a range over a function, and in a function that has such a range.
-/
import Derived.Test.YteogdcjigigeeaaRound
import Derived.Test.YteogdcjigigeeaaRegionStepsB
namespace Go.Proofs.Yteogdcjigigeeaa
set_option linter.unusedSimpArgs false
set_option linter.unusedVariables false

theorem rowsIn_wideS {n : Nat} {P : Program} {row : String} {args : Array Value} {w : World} {R : Value → World → Prop} (h : Rows P row args w R) : RowsIn Fence.wide n P row args w R := fun c cs _ => by
  obtain ⟨v, w', h1, h2⟩ := h c cs
  exact ⟨v, w', h1, (StepsIn.of_steps h2).mono fun m _ => fenced_wide P m⟩

theorem oper_wideS {n : Nat} {P : Program} {o : Oper} {a : Act} {w : World} {K : Act → World → Prop} {Q : Exit → Act → World → Prop} (hd : ∀ c, o.op ≠ .defer c) (h : o.wp P a w K Q) : o.wpIn Fence.wide n P a w K Q := by
  refine ⟨fun f _ => trivial, ?_⟩
  unfold Oper.wp at h
  rw [Oper.semAt_eq _ _ _ hd]
  have hdp : Fence.wide.depth.isSome = true → 1 ≤ n := fun h => by cases h
  generalize (execOp a.eval o).run P w = r at *
  cases r with
  | ok x w' =>
    cases x <;> simp only [Oper.upon, Oper.uponIn] at h ⊢
    case value => exact h
    case skip => exact h
    case defer => exact h
    case enter => exact ⟨hdp, callsIn_wide.2 h⟩
    case row => exact ⟨hdp, rowsIn_wideS h⟩
  | halt x w' => cases x <;> simp only [Oper.upon, Oper.uponIn] at h ⊢ <;> exact h

theorem wpOp_wideS {n i : Nat} {P : Program} {ops : Array Oper} {a : Act} {w : World} {K : Act → World → Prop} {Q : Exit → Act → World → Prop} (hd : noDefer ops = true) (hno : ¬ LetsOut Q) (h : wpOp P ops Q i K a w) : wpOpIn Fence.wide n P ops Q i K a w := by
  unfold wpOp at h
  unfold wpOpIn
  cases ho : ops[i]? with
  | none => simpa only [ho] using h
  | some o =>
    simp only [ho] at h ⊢
    split
    · rename_i hw
      simp only [hw, if_true] at h
      rcases h with h | ⟨_, h⟩
      · exact oper_wideS (noDefer_at hd ho) h
      · exact absurd h hno
    · rename_i hw
      simp only [hw] at h
      exact ⟨fun _ _ => trivial, h⟩

theorem wpAny_wideS {n : Nat} {P : Program} {md : Region.Mode} {ops : Array Oper} {Q : Exit → Act → World → Prop} (hd : noDefer ops = true) (hno : ¬ LetsOut Q) : ∀ (fuel : Nat) (listed : Array Bool) (a : Act) (w : World),
    wpAny P md ops Q fuel listed a w → wpAnyIn Fence.wide n P md ops Q fuel listed a w
  | 0, _, _, _, h => h
  | fuel + 1, _, _, _, h => ⟨h.1, fun i hi => wpOpIn_mono (fun a' w' h' => wpAny_wideS hd hno fuel _ a' w' h') (wpOp_wideS hd hno (h.2 i hi))⟩

section
variable {P : Program} {X : Type} {Q : Exit → Act → World → Prop}

theorem any_steps {os : List Oper} {a : Act} {w : World} (S : X → World → Prop) (D : X → Nat → Bool) (eff : Nat → Bool) (x0 : X) (vs : X → List Value) (af : X → Act) (hk : detOkB os.toArray = true) (hd : dstOk os a.tmps.size = true) (haf : ∀ x, putsD os (vs x) a = af x)
    (h0 : ∀ i, i < os.length → eff i = true → D x0 i = false) (hS : S x0 w.drew) (hob : ∀ x, AllS P os.toArray S D eff af x 0 os (vs x)) (hQ : ∀ x w', (∀ i, i < os.length → eff i = true → D x i = true) → S x w' → Q .normal (af x) w') :
    wpAny P .any os.toArray Q os.toArray.size (Array.replicate os.toArray.size false) a w.drew := by
  refine det_stepsB (S := S) (D := D) (eff := eff) hk (fun x i o ho => ?_) (fun x w' h => hQ x w' (by simpa using h)) _ _ _ _ (List.range os.toArray.size) x0 (by simp) (fun i hi _ => List.mem_range.2 hi) (by simp) ⟨?_, ?_, fun d hd => ?_⟩ hS (fun i hi he => ?_) fun j q hq hjl => ?_
  · have ho' : os[i]? = some o := by simpa using ho
    obtain ⟨v, hv, hob1⟩ := (hob x).at_ ho'
    rw [Nat.zero_add] at hob1
    have hput : ∀ v, (vs x)[i]? = some v → af x = (af x).put o.dst v := fun v hv => put_same fun d hdd => by
      rw [← haf x]
      refine putsD_get os (vs x) a i _ v d ho' hv hdd ?_ fun j q hq hqd => ?_
      · have := List.all_eq_true.1 hd _ (List.mem_of_getElem? ho')
        rw [hdd] at this
        simpa using this
      · rcases ((detOkB_at hk (i := i) (o := o) ho).2 j q d (by simpa using hq) hqd).1 with h | h
        · exact h
        · exact absurd hdd h
    rcases hob1 with ⟨hw, hef, rfl⟩ | ⟨hw, hef, h⟩ | ⟨hw, h⟩
    · exact .inr ⟨hw, hef, hput _ hv⟩
    · exact .inl ⟨hw, fun w hS hp => ⟨_, _, h w hS hp, .inl ⟨v, rfl, x, hput _ hv, Nxt.none hef, hS⟩⟩⟩
    · exact .inl ⟨hw, h⟩
  · rw [← haf, putsD_defers]
  · rw [← haf, putsD_size]
  · rw [← haf, putsD_ne]
    intro o ho hod
    obtain ⟨i, hi, rfl⟩ := List.getElem_of_mem ho
    have := hd i os[i] (by simp [hi]) hod
    simp [hi] at this
  · have hi' : i < os.length := by simpa using hi
    rw [h0 i hi' he]
    simp [hi']
  · have hj : j < os.length := by simpa using (Array.getElem?_eq_some_iff.1 hq).1
    simp [hj] at hjl

/-- in a round -/
theorem wp_region_stepsR {id n l : Nat} {os : List Oper} {a : Act} {w : World} (hnd : noDefer os.toArray = true) (hno : ¬ LetsOut Q) (S : X → World → Prop) (D : X → Nat → Bool) (eff : Nat → Bool) (x0 : X) (vs : X → List Value) (af : X → Act) (hm : P.follows .mixedOrders = true) (hk : detOkB os.toArray = true) (hd : dstOk os a.tmps.size = true) (haf : ∀ x, putsD os (vs x) a = af x)
    (h0 : ∀ i, i < os.length → eff i = true → D x0 i = false) (hS : S x0 w.drew) (hob : ∀ x, AllS P os.toArray S D eff af x 0 os (vs x)) (hQ : ∀ x w', (∀ i, i < os.length → eff i = true → D x i = true) → S x w' → Q .normal (af x) w') : (Code.region id os.toArray true).wpIn (Fence.wide.inRound l) n P Q a w :=
  region_round hm hnd hno (any_steps S D eff x0 vs af hk hd haf h0 hS hob hQ)

/-- beside such a range -/
theorem wp_region_stepsW {id n : Nat} {os : List Oper} {a : Act} {w : World} (hnd : noDefer os.toArray = true) (hno : ¬ LetsOut Q) (S : X → World → Prop) (D : X → Nat → Bool) (eff : Nat → Bool) (x0 : X) (vs : X → List Value) (af : X → Act) (hm : P.follows .mixedOrders = true) (hk : detOkB os.toArray = true) (hd : dstOk os a.tmps.size = true) (haf : ∀ x, putsD os (vs x) a = af x)
    (h0 : ∀ i, i < os.length → eff i = true → D x0 i = false) (hS : S x0 w.drew) (hob : ∀ x, AllS P os.toArray S D eff af x 0 os (vs x)) (hQ : ∀ x w', (∀ i, i < os.length → eff i = true → D x i = true) → S x w' → Q .normal (af x) w') : (Code.region id os.toArray true).wpIn Fence.wide n P Q a w :=
  wpIn_region_any hm (wpAny_wideS hnd hno _ _ _ _ (any_steps S D eff x0 vs af hk hd haf h0 hS hob hQ))

end

end Go.Proofs.Yteogdcjigigeeaa
