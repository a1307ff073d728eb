/-
  Plain mathematics of data flow problems (I1, I2): what may come next, where some path comes, facts spread until nothing changes, a problem turned into its opposite, a path node by node.
-/
import Derived.Test.YtmbabbdcijgnoaaFactPath
import Derived.Test.YtmbabbdcijgnoaaPureNarrow
namespace Go.Proofs.Ytmbabbdcijgnoaa
open Go.RowKit
set_option linter.unusedSimpArgs false
set_option linter.unusedVariables false
set_option maxRecDepth 100000

/-- the edges of the first i nodes, and of the next one the first c -/
def FoE (nx : List (List Int)) (i c a b : Nat) : Prop := (a < i ∧ b ∈ sc nx a) ∨ (a = i ∧ b ∈ (sc nx i).take c)

/-- .. in the direction of the problem -/
def FoR (nx : List (List Int)) (bw : Bool) (i c a b : Nat) : Prop := if bw = true then FoE nx i c b a else FoE nx i c a b

/-- b may come next after a -/
def Fol (nx : List (List Int)) (bw : Bool) (a b : Nat) : Prop := if bw = true then a ∈ sc nx b else b ∈ sc nx a

/-- some path of the problem comes to node i -/
inductive Com (nx : List (List Int)) (lw : Lw) : Nat → Prop
  | here {i : Nat} : i ∈ sts nx lw → Com nx lw i
  | step {i j : Nat} : Com nx lw i → j ∈ sc (dirG nx lw) i → Com nx lw j

section
variable {nx : List (List Int)} {lw : Lw} {bw : Bool} {i c a b f : Nat}

theorem FoE.zero : ¬ FoE nx 0 0 a b := by
  rintro (⟨h, _⟩ | ⟨_, h⟩)
  · omega
  · simp at h

theorem FoE.more {t : Nat} (h : (sc nx i)[c]? = some t) : FoE nx i (c + 1) a b ↔ FoE nx i c a b ∨ (a = i ∧ b = t) := by
  unfold FoE
  rw [List.take_add_one, h, Option.toList_some, List.mem_append, List.mem_singleton]
  constructor
  · rintro (h1 | ⟨h1, h2 | h2⟩)
    · exact .inl (.inl h1)
    · exact .inl (.inr ⟨h1, h2⟩)
    · exact .inr ⟨h1, h2⟩
  · rintro ((h1 | ⟨h1, h2⟩) | ⟨h1, h2⟩)
    · exact .inl h1
    · exact .inr ⟨h1, .inl h2⟩
    · exact .inr ⟨h1, .inr h2⟩

theorem FoE.next (h : (sc nx i).length ≤ c) : FoE nx i c a b ↔ FoE nx (i + 1) 0 a b := by
  unfold FoE
  rw [List.take_of_length_le h]
  constructor
  · rintro (⟨h1, h2⟩ | ⟨rfl, h2⟩)
    · exact .inl ⟨by omega, h2⟩
    · exact .inl ⟨by omega, h2⟩
  · rintro (⟨h1, h2⟩ | ⟨_, h2⟩)
    · by_cases e : a = i
      · subst e; exact .inr ⟨rfl, h2⟩
      · exact .inl ⟨by omega, h2⟩
    · simp at h2

theorem FoE.all : FoE nx nx.length 0 a b ↔ b ∈ sc nx a := by
  unfold FoE
  constructor
  · rintro (⟨_, h⟩ | ⟨_, h⟩)
    · exact h
    · simp at h
  · intro h
    rcases Nat.lt_or_ge a nx.length with ha | ha
    · exact .inl ⟨ha, h⟩
    · rw [sc_out ha] at h; cases h

theorem FoR.zero : False ↔ FoR nx bw 0 0 a b := by
  unfold FoR
  split
  · exact ⟨False.elim, FoE.zero⟩
  · exact ⟨False.elim, FoE.zero⟩

theorem FoR.fwd {t : Nat} (h : (sc nx i)[c]? = some t) : (FoR nx false i c a b ∨ (a = i ∧ b = t)) ↔ FoR nx false i (c + 1) a b := by
  unfold FoR
  rw [if_neg (by simp), if_neg (by simp)]
  exact (FoE.more h).symm

theorem FoR.bwd {t : Nat} (h : (sc nx i)[c]? = some t) : (FoR nx true i c a b ∨ (a = t ∧ b = i)) ↔ FoR nx true i (c + 1) a b := by
  unfold FoR
  rw [if_pos rfl, if_pos rfl, FoE.more h]
  exact or_congr Iff.rfl ⟨fun ⟨h1, h2⟩ => ⟨h2, h1⟩, fun ⟨h1, h2⟩ => ⟨h2, h1⟩⟩

theorem FoR.next (h : (sc nx i).length ≤ c) : FoR nx bw i c a b ↔ FoR nx bw (i + 1) 0 a b := by
  unfold FoR
  split <;> exact FoE.next h

theorem FoR.all : FoR nx bw nx.length 0 a b ↔ Fol nx bw a b := by
  unfold FoR Fol
  split <;> exact FoE.all

theorem Fol.dir (hc : ckWay nx = 0) : Fol nx lw.bw a b ↔ b ∈ sc (dirG nx lw) a := by
  unfold Fol dirG
  split
  · exact (sc_tr hc).symm
  · exact Iff.rfl

/-- one step of a path -/
theorem Fol.stB (hc : ckWay nx = 0) (ha : a < nx.length) (hb : b < nx.length) : stB nx bw (a : Int) (b : Int) = true ↔ Fol nx bw a b := by
  have hh : ∀ {x y : Nat}, x < nx.length → (hasB (nx.getD x []) (y : Int) = true ↔ y ∈ sc nx x) := by
    intro x y hx
    have e : nx.getD x [] = ni (sc nx x) := by
      rw [List.getD_eq_getElem?_getD, List.getElem?_eq_getElem hx]
      exact row_sc hc (List.getElem?_eq_getElem hx)
    rw [e, hasB_iff]
    simp only [ni, List.mem_map]
    exact ⟨fun ⟨z, h1, h2⟩ => by rw [show y = z by omega]; exact h1, fun h => ⟨y, h, rfl⟩⟩
  unfold Go.Proofs.Ytmbabbdcijgnoaa.stB Fol
  rw [Int.toNat_natCast, Int.toNat_natCast]
  split
  · exact hh hb
  · exact hh ha

theorem Com.path (h : Com nx lw i) (f : Nat) : ∃ b, StP nx lw f i b := by
  induction h with
  | here h => exact ⟨_, .here h⟩
  | step _ hj ih =>
    obtain ⟨b, hb⟩ := ih
    exact ⟨_, hb.step hj⟩

theorem StP.com {b : Bool} (h : StP nx lw f i b) : Com nx lw i := by
  induction h with
  | here h => exact .here h
  | step _ hj ih => exact ih.step hj

theorem Com.lt (hc : ckWay nx = 0) (h : Com nx lw i) : i < nx.length := by
  obtain ⟨b, hb⟩ := h.path 0
  exact hb.lt hc

end

/-- the first nodes, of those below k -/
def FsI (nx : List (List Int)) (k W : Nat) : Prop := W < 256 ∧ ∀ j, W.testBit j = true ↔ j < k ∧ sc nx j = []

section
variable {nx : List (List Int)} {lw : Lw} {k W : Nat}

theorem FsI.start : FsI nx 0 0 := ⟨by omega, fun j => by simp⟩

theorem FsI.yes (h : FsI nx k W) (hk : k < 8) (hs : sc nx k = []) : FsI nx (k + 1) (W ||| 2 ^ k) := ⟨Nat.or_lt_two_pow (n := 8) h.1 (Nat.pow_lt_pow_right (by omega) hk), fun j => by
  rw [Nat.testBit_or, Bool.or_eq_true, h.2, Nat.testBit_two_pow, decide_eq_true_eq]
  constructor
  · rintro (⟨h1, h2⟩ | rfl)
    · exact ⟨by omega, h2⟩
    · exact ⟨by omega, hs⟩
  · rintro ⟨h1, h2⟩
    by_cases e : k = j
    · exact .inr e
    · exact .inl ⟨by omega, h2⟩⟩

theorem FsI.no (h : FsI nx k W) (hs : sc nx k ≠ []) : FsI nx (k + 1) W := ⟨h.1, fun j => by
  rw [h.2]
  constructor
  · rintro ⟨h1, h2⟩; exact ⟨by omega, h2⟩
  · rintro ⟨h1, h2⟩
    by_cases e : j = k
    · subst e; exact absurd h2 hs
    · exact ⟨by omega, h2⟩⟩

theorem FsI.done (h : FsI nx nx.length W) (hb : lw.bw = true) : W < 256 ∧ ∀ j, W.testBit j = true ↔ j ∈ sts nx lw := ⟨h.1, fun j => by
  rw [h.2]
  unfold sts
  rw [if_pos hb, List.mem_filter, List.mem_range, decide_eq_true_eq]⟩

theorem fs_fwd (hb : lw.bw = false) : 1 < 256 ∧ ∀ j, (1 : Nat).testBit j = true ↔ j ∈ sts nx lw := ⟨by omega, fun j => by
  unfold sts
  rw [if_neg (by simp [hb]), List.mem_singleton, show (1 : Nat) = 2 ^ 0 from rfl, Nat.testBit_two_pow, decide_eq_true_eq]
  exact eq_comm⟩

end

/-- nodes found so far -/
structure RcI (nx : List (List Int)) (lw : Lw) (W : Nat) : Prop where
  lt : W < 256
  com : ∀ j, W.testBit j = true → Com nx lw j
  sts : ∀ j, j ∈ sts nx lw → W.testBit j = true

section
variable {nx : List (List Int)} {lw : Lw} {fw : List Nat} {W : Nat}

theorem RcI.next (hc : ckWay nx = 0) (he : EgI nx fw (Fol nx lw.bw)) (h : RcI nx lw W) : RcI nx lw (W ||| frW fw W nx.length) := by
  refine ⟨Nat.or_lt_two_pow (n := 8) h.lt (frW_lt (n := 8) he.lt _), fun j hj => ?_, fun j hj => ?_⟩
  · rw [Nat.testBit_or, Bool.or_eq_true] at hj
    rcases hj with hj | hj
    · exact h.com j hj
    · obtain ⟨i, h1, h2, h3⟩ := frW_bit.1 hj
      have hil : i < fw.length := by rw [he.len]; exact h1
      have hie := List.getElem?_eq_getElem hil
      rw [List.getD_eq_getElem?_getD, hie] at h3
      exact (h.com i h2).step ((Fol.dir hc).1 ((he.mem i _ hie j).1 h3))
  · rw [Nat.testBit_or, h.sts j hj, Bool.true_or]

theorem RcI.done (hc : ckWay nx = 0) (he : EgI nx fw (Fol nx lw.bw)) (h : RcI nx lw W) (hm : W ||| frW fw W nx.length = W) (j : Nat) : W.testBit j = true ↔ Com nx lw j := by
  refine ⟨h.com j, fun hj => ?_⟩
  induction hj with
  | here hs => exact h.sts _ hs
  | @step i j hi hj ih =>
    have hil := hi.lt hc
    rw [← hm, Nat.testBit_or, Bool.or_eq_true]
    refine .inr (frW_bit.2 ⟨i, hil, ih, ?_⟩)
    have hie := List.getElem?_eq_getElem (show i < fw.length by rw [he.len]; exact hil)
    rw [List.getD_eq_getElem?_getD, hie]
    exact (he.mem i _ hie j).2 ((Fol.dir hc).2 hj)

end

/-- what stands behind a node, fact by fact -/
theorem behW_bit {lw : Lw} {v s f : Nat} (hE : ∀ x ∈ lw.en, x < 256) : (behW lw (v : Int) s).testBit f = true ↔ f < 32 ∧ trB lw f v (s.testBit f) = true ∨ 32 ≤ f ∧ mkB lw v f = true := by
  have he : lw.en.getD v 0 < 4294967296 := by
    rw [List.getD_eq_getElem?_getD]
    cases h : lw.en[v]? with
    | none => simp
    | some x => have := hE x (List.mem_of_getElem? h); simp; omega
  unfold behW trB mkB enB
  rw [Int.toNat_natCast, Nat.testBit_or, Nat.testBit_and, show 4294967295 - lw.en.getD v 0 = 2 ^ 32 - (lw.en.getD v 0 + 1) by omega, Nat.testBit_two_pow_sub_succ (by omega)]
  rcases Nat.lt_or_ge f 32 with hf | hf
  · rw [decide_eq_true hf, Bool.true_and, Bool.or_comm]
    constructor
    · exact fun h => .inl ⟨hf, h⟩
    · rintro (⟨_, h⟩ | ⟨h, _⟩)
      · exact h
      · omega
  · rw [decide_eq_false (by omega), Bool.false_and, Bool.and_false, Bool.false_or]
    constructor
    · exact fun h => .inr ⟨hf, h⟩
    · rintro (⟨h, _⟩ | ⟨_, h⟩)
      · omega
      · exact h

theorem bit_8 {W f : Nat} (hW : W < 256) (h : W.testBit f = true) : f < 8 := by
  rcases Nat.lt_or_ge f 8 with hf | hf
  · exact hf
  · rw [Nat.testBit_lt_two_pow (Nat.lt_of_lt_of_le (by omega : W < 2 ^ 8) (Nat.pow_le_pow_right (by omega) hf))] at h
    cases h

theorem mkB_8 {lw : Lw} {v f : Nat} (hM : ∀ x ∈ lw.ma, x < 256) (h : mkB lw v f = true) : f < 8 := by
  unfold mkB at h
  refine bit_8 ?_ h
  rw [List.getD_eq_getElem?_getD]
  cases h : lw.ma[v]? with
  | none => simp
  | some x => exact hM x (List.mem_of_getElem? h)

theorem behW_tr {lw : Lw} {v s f : Nat} (hE : ∀ x ∈ lw.en, x < 256) (hM : ∀ x ∈ lw.ma, x < 256) (hs : s < 256) : (behW lw (v : Int) s).testBit f = trB lw f v (s.testBit f) := by
  rw [Bool.eq_iff_iff, behW_bit hE]
  constructor
  · rintro (⟨_, h⟩ | ⟨h1, h2⟩)
    · exact h
    · have := mkB_8 hM h2; omega
  · intro h
    refine .inl ⟨?_, h⟩
    unfold trB at h
    rw [Bool.or_eq_true, Bool.and_eq_true] at h
    rcases h with h | ⟨h, _⟩
    · have := mkB_8 hM h; omega
    · have := bit_8 hs h; omega

/-- facts found so far -/
structure FcI (nx : List (List Int)) (lw : Lw) (F : List Nat) : Prop where
  len : F.length = nx.length
  lt : ∀ (i W : Nat), F[i]? = some W → W < 256
  snd : ∀ (i W : Nat), F[i]? = some W → ∀ f, W.testBit f = true → StP nx lw f i true
  sts : ∀ (i W : Nat), F[i]? = some W → i ∈ sts nx lw → ∀ f, lw.st.testBit f = true → W.testBit f = true

/-- nothing more goes from v to t -/
def okF (nx : List (List Int)) (lw : Lw) (F : List Nat) (v t : Nat) : Prop := Com nx lw v → t ∈ sc (dirG nx lw) v → ∀ V T, F[v]? = some V → F[t]? = some T → T ||| behW lw (v : Int) V = T

/-- one round: so much was done -/
structure Spr (nx : List (List Int)) (lw : Lw) (s0 : Nat) (F : List Nat) (ch : Bool) (D : Nat → Nat → Prop) : Prop where
  inv : FcI nx lw F
  le : s0 ≤ F.sum
  lt : ch = true → s0 < F.sum
  ok : ch = false → ∀ v t, D v t → okF nx lw F v t

/-- the pairs done: all of nodes below i, and i with those below c -/
def SpD (i c v t : Nat) : Prop := v < i ∨ (v = i ∧ t < c)

/-- some facts everywhere -/
structure Sm (nx : List (List Int)) (lw : Lw) (ws : List Nat) : Prop where
  len : ws.length = nx.length
  lt : ∀ (i W : Nat), ws[i]? = some W → W < 256
  mem : ∀ (i W : Nat), ws[i]? = some W → ∀ f, W.testBit f = true ↔ StP nx lw f i true

section
variable {nx : List (List Int)} {lw : Lw} {F : List Nat} {s0 : Nat} {ch : Bool} {D E : Nat → Nat → Prop}

theorem Spr.start (h : FcI nx lw F) : Spr nx lw F.sum F false (SpD 0 0) := ⟨h, Nat.le_refl _, fun e => (by cases e), fun _ v t hd => by rcases hd with hd | ⟨_, hd⟩ <;> omega⟩

theorem Spr.mono (h : Spr nx lw s0 F ch D) (he : ∀ v t, E v t → D v t) : Spr nx lw s0 F ch E := ⟨h.inv, h.le, h.lt, fun e v t hd => h.ok e v t (he v t hd)⟩

theorem Spr.stay {i c : Nat} (h : Spr nx lw s0 F ch (SpD i c)) (hs : okF nx lw F i c) : Spr nx lw s0 F ch (SpD i (c + 1)) := ⟨h.inv, h.le, h.lt, fun e v t hd => by
  by_cases e2 : v = i ∧ t = c
  · obtain ⟨rfl, rfl⟩ := e2
    exact hs
  · refine h.ok e v t ?_
    unfold SpD at hd ⊢
    omega⟩

theorem Spr.over {i : Nat} (h : Spr nx lw s0 F ch (SpD i 0)) (hs : ¬ Com nx lw i) : Spr nx lw s0 F ch (SpD (i + 1) 0) := ⟨h.inv, h.le, h.lt, fun e v t hd => by
  by_cases e2 : v = i
  · subst e2
    exact fun hv => absurd hv hs
  · refine h.ok e v t ?_
    unfold SpD at hd ⊢
    omega⟩

theorem Spr.full (hc : ckWay nx = 0) {i : Nat} (h : Spr nx lw s0 F ch (SpD i nx.length)) : Spr nx lw s0 F ch (SpD (i + 1) 0) := ⟨h.inv, h.le, h.lt, fun e v t hd => by
  intro hv ht
  have := dirG_lt hc ht
  exact h.ok e v t (by unfold SpD at hd ⊢; omega) hv ht⟩

theorem FcI.go (hE : ∀ x ∈ lw.en, x < 256) (hM : ∀ x ∈ lw.ma, x < 256) (h : FcI nx lw F) {v t V T : Nat} (hv : Com nx lw v) (ht : t ∈ sc (dirG nx lw) v) (hV : F[v]? = some V) (hT : F[t]? = some T) : FcI nx lw (F.set t (T ||| behW lw (v : Int) V)) := by
  have hVl := h.lt v V hV
  have hat : ∀ {i W : Nat}, (F.set t (T ||| behW lw (v : Int) V))[i]? = some W → (i = t ∧ W = T ||| behW lw (v : Int) V) ∨ (i ≠ t ∧ F[i]? = some W) := by
    intro i W hW
    rw [List.getElem?_set] at hW
    split at hW
    · rename_i e
      split at hW
      · injection hW with hW; exact .inl ⟨e.symm, hW.symm⟩
      · cases hW
    · rename_i e
      exact .inr ⟨fun e' => e e'.symm, hW⟩
  refine ⟨by rw [List.length_set]; exact h.len, fun i W hW => ?_, fun i W hW f hf => ?_, fun i W hW hi f hf => ?_⟩
  · rcases hat hW with ⟨_, rfl⟩ | ⟨_, h2⟩
    · exact Nat.or_lt_two_pow (n := 8) (h.lt t T hT) (behW_lt hE hM hVl _)
    · exact h.lt i W h2
  · rcases hat hW with ⟨rfl, rfl⟩ | ⟨_, h2⟩
    · rw [Nat.testBit_or, Bool.or_eq_true] at hf
      rcases hf with hf | hf
      · exact h.snd i T hT f hf
      · rw [behW_tr hE hM hVl] at hf
        cases hb : V.testBit f with
        | true =>
          have := (h.snd v V hV f hb).step ht
          rw [hb] at hf
          rw [hf] at this
          exact this
        | false =>
          obtain ⟨b, hb2⟩ := hv.path f
          have := hb2.step ht
          rw [hb] at hf
          have h1 : trB lw f v b = true := trB_mono (fun e => by cases e) hf
          rw [h1] at this
          exact this
    · exact h.snd i W h2 f hf
  · rcases hat hW with ⟨rfl, rfl⟩ | ⟨_, h2⟩
    · rw [Nat.testBit_or, h.sts i T hT hi f hf, Bool.true_or]
    · exact h.sts i W h2 hi f hf

theorem Spr.go (hE : ∀ x ∈ lw.en, x < 256) (hM : ∀ x ∈ lw.ma, x < 256) (h : Spr nx lw s0 F ch D) {v t V T : Nat} (hv : Com nx lw v) (ht : t ∈ sc (dirG nx lw) v) (hV : F[v]? = some V) (hT : F[t]? = some T) (hne : T ||| behW lw (v : Int) V ≠ T) : Spr nx lw s0 (F.set t (T ||| behW lw (v : Int) V)) true E := by
  have h1 := sum_set (x := T ||| behW lw (v : Int) V) hT
  have h2 : T ≤ T ||| behW lw (v : Int) V := Nat.left_le_or
  have h3 := h.le
  exact ⟨h.inv.go hE hM hv ht hV hT, by omega, fun _ => by omega, fun e => (by cases e)⟩

theorem FcI.sum_le (h : FcI nx lw F) (hl : nx.length ≤ 8) : F.sum ≤ 2040 := by
  have : ∀ (l : List Nat), (∀ x ∈ l, x < 256) → l.sum ≤ l.length * 255 := by
    intro l
    induction l with
    | nil => simp
    | cons x l ih =>
      intro hx
      have h1 := hx x (List.mem_cons_self ..)
      have h2 := ih fun y hy => hx y (List.mem_cons_of_mem _ hy)
      rw [List.sum_cons, List.length_cons]
      omega
  have h1 := this F fun x hx => by
    obtain ⟨i, hi, e⟩ := List.getElem_of_mem hx
    exact h.lt i x (by rw [List.getElem?_eq_getElem hi, e])
  have h2 := h.len
  omega

theorem Sm.of (hc : ckWay nx = 0) (hE : ∀ x ∈ lw.en, x < 256) (hM : ∀ x ∈ lw.ma, x < 256) (h : Spr nx lw s0 F false (SpD nx.length 0)) : Sm nx lw F := by
  have hI := h.inv
  have key : ∀ {f i : Nat} {b : Bool}, StP nx lw f i b → b = true → ∀ W, F[i]? = some W → W.testBit f = true := by
    intro f i b hp
    induction hp with
    | here hi => exact fun e W hW => hI.sts _ W hW hi _ e
    | @step i j b hp hj ih =>
      intro e T hT
      have hil := hp.lt hc
      have hV := List.getElem?_eq_getElem (show i < F.length by rw [hI.len]; exact hil)
      have hVl := hI.lt i _ hV
      rw [← h.ok rfl i j (.inl hil) hp.com hj _ T hV hT, Nat.testBit_or, behW_tr hE hM hVl, Bool.or_eq_true]
      refine .inr (trB_mono (fun e2 => ih e2 _ hV) e)
  exact ⟨hI.len, hI.lt, fun i W hW f => ⟨hI.snd i W hW f, fun hp => key hp rfl W hW⟩⟩

theorem Sm.slv (h : Sm nx lw F) (ha : lw.al = false) : Slv nx lw F := ⟨h.len, fun i W hW => ⟨h.lt i W hW, fun f => by
  unfold SlP
  rw [if_neg (by simp [ha]), h.mem i W hW]
  exact ⟨fun hp => ⟨bit_8 (h.lt i W hW) ((h.mem i W hW f).2 hp), hp⟩, fun h => h.2⟩⟩⟩

end

/-- the first nodes' facts laid, of nodes below k -/
structure FsF (nx : List (List Int)) (lw : Lw) (k : Nat) (F : List Nat) : Prop where
  len : F.length = nx.length
  at_ : ∀ (i W : Nat), F[i]? = some W → (i < k ∧ i ∈ sts nx lw ∧ W = lw.st) ∨ (¬ (i < k ∧ i ∈ sts nx lw) ∧ W = 0)

section
variable {nx : List (List Int)} {lw : Lw} {F : List Nat} {k : Nat}

theorem FsF.start (n : Nat) (h : nx.length = n) : FsF nx lw 0 (List.replicate n 0) := ⟨by simp [h], fun i W hW => .inr ⟨by omega, by
  rw [List.getElem?_replicate] at hW
  split at hW
  · injection hW with hW; exact hW.symm
  · cases hW⟩⟩

theorem FsF.yes (h : FsF nx lw k F) (hs : k ∈ sts nx lw) : FsF nx lw (k + 1) (F.set k lw.st) := by
  refine ⟨by rw [List.length_set]; exact h.len, fun i W hW => ?_⟩
  rw [List.getElem?_set] at hW
  split at hW
  · rename_i e
    subst e
    split at hW
    · injection hW with hW; exact .inl ⟨by omega, hs, hW.symm⟩
    · cases hW
  · rename_i e
    rcases h.at_ i W hW with ⟨h1, h2, h3⟩ | ⟨h1, h2⟩
    · exact .inl ⟨by omega, h2, h3⟩
    · exact .inr ⟨fun ⟨h3, h4⟩ => h1 ⟨by omega, h4⟩, h2⟩

theorem FsF.no (h : FsF nx lw k F) (hs : k ∉ sts nx lw) : FsF nx lw (k + 1) F := ⟨h.len, fun i W hW => by
  rcases h.at_ i W hW with ⟨h1, h2, h3⟩ | ⟨h1, h2⟩
  · exact .inl ⟨by omega, h2, h3⟩
  · refine .inr ⟨fun ⟨h3, h4⟩ => ?_, h2⟩
    by_cases e : i = k
    · subst e; exact hs h4
    · exact h1 ⟨by omega, h4⟩⟩

theorem FsF.done (hs : lw.st < 256) (h : FsF nx lw nx.length F) : FcI nx lw F := by
  refine ⟨h.len, fun i W hW => ?_, fun i W hW f hf => ?_, fun i W hW hi f hf => ?_⟩
  · rcases h.at_ i W hW with ⟨_, _, h3⟩ | ⟨_, h3⟩ <;> omega
  · rcases h.at_ i W hW with ⟨_, h2, h3⟩ | ⟨_, h3⟩
    · have := StP.here (lw := lw) (f := f) h2
      rw [← h3, hf] at this
      exact this
    · rw [h3] at hf; simp at hf
  · rcases h.at_ i W hW with ⟨_, _, h3⟩ | ⟨h1, _⟩
    · rw [h3]; exact hf
    · exact absurd ⟨by rw [← h.len]; exact (List.getElem?_eq_some_iff.1 hW).1, hi⟩ h1

end

/-- the problem in which a fact is so where it is not so in this one -/
def opL (lw : Lw) : Lw := ⟨lw.bw, false, (List.range lw.ma.length).map fun v => lw.en.getD v 0 &&& (4294967295 - lw.ma.getD v 0), lw.ma, lw.st ^^^ 255⟩

/-- every fact turned -/
def flW (l : List Nat) : List Nat := l.map fun W => W ^^^ 255

section
variable {nx : List (List Int)} {lw : Lw} {f i : Nat}

theorem getD_lt {l : List Nat} (h : ∀ x ∈ l, x < 256) (i : Nat) : l.getD i 0 < 256 := by
  rw [List.getD_eq_getElem?_getD]
  cases e : l[i]? with
  | none => simp
  | some x => exact h x (List.mem_of_getElem? e)

theorem opL_ma (hE : ∀ x ∈ lw.en, x < 256) : ∀ x ∈ (opL lw).ma, x < 256 := by
  intro x hx
  obtain ⟨v, _, rfl⟩ := List.mem_map.1 hx
  exact Nat.lt_of_le_of_lt Nat.and_le_left (getD_lt hE v)

theorem xor_255 {W : Nat} (h : W < 256) : W ^^^ 255 < 256 := Nat.xor_lt_two_pow (n := 8) h (by omega)

theorem xor_bit {W : Nat} (hf : f < 8) : (W ^^^ 255).testBit f = !W.testBit f := by
  rw [Nat.testBit_xor, show (255 : Nat) = 2 ^ 8 - 1 from rfl, Nat.testBit_two_pow_sub_one, decide_eq_true hf, Bool.xor_true]

theorem opL_ok (hl : lw.ma.length = nx.length) (hM : ∀ x ∈ lw.ma, x < 256) (hE : ∀ x ∈ lw.en, x < 256) (hs : lw.st < 256) : (opL lw).ma.length = nx.length ∧ (opL lw).en.length = nx.length ∧ (∀ x ∈ (opL lw).ma, x < 256) ∧ (∀ x ∈ (opL lw).en, x < 256) ∧ (opL lw).st < 256 :=
  ⟨by simp [opL, hl], hl, opL_ma hE, hM, xor_255 hs⟩

theorem trB_op (hl : lw.ma.length = nx.length) (hM : ∀ x ∈ lw.ma, x < 256) (hf : f < 8) (hi : i < nx.length) (b : Bool) : trB (opL lw) f i (!b) = !trB lw f i b := by
  have e1 : mkB (opL lw) i f = (enB lw i f && !mkB lw i f) := by
    have hm := getD_lt hM i
    unfold mkB enB opL
    show (((List.range lw.ma.length).map fun v => lw.en.getD v 0 &&& (4294967295 - lw.ma.getD v 0)).getD i 0).testBit f = _
    rw [List.getD_eq_getElem?_getD, List.getElem?_map, List.getElem?_range (by omega)]
    show (lw.en.getD i 0 &&& (4294967295 - lw.ma.getD i 0)).testBit f = _
    rw [Nat.testBit_and, show 4294967295 - lw.ma.getD i 0 = 2 ^ 32 - (lw.ma.getD i 0 + 1) by omega, Nat.testBit_two_pow_sub_succ (by omega), decide_eq_true (by omega), Bool.true_and]
  have e2 : enB (opL lw) i f = mkB lw i f := rfl
  unfold trB
  rw [e1, e2]
  cases mkB lw i f <;> cases enB lw i f <;> cases b <;> rfl

theorem sts_op : sts nx (opL lw) = sts nx lw := rfl

theorem dirG_op : dirG nx (opL lw) = dirG nx lw := rfl

theorem StP.op (hc : ckWay nx = 0) (hl : lw.ma.length = nx.length) (hM : ∀ x ∈ lw.ma, x < 256) (hf : f < 8) {b : Bool} (h : StP nx lw f i b) : StP nx (opL lw) f i (!b) := by
  induction h with
  | here h =>
    have := StP.here (lw := opL lw) (f := f) (by rw [sts_op]; exact h)
    rw [show (opL lw).st = lw.st ^^^ 255 from rfl, xor_bit hf] at this
    exact this
  | @step i j b hp hj ih =>
    have := ih.step (j := j) (by rw [dirG_op]; exact hj)
    rw [trB_op hl hM hf (hp.lt hc)] at this
    exact this

theorem StP.unop (hc : ckWay nx = 0) (hl : lw.ma.length = nx.length) (hM : ∀ x ∈ lw.ma, x < 256) (hf : f < 8) {b : Bool} (h : StP nx (opL lw) f i b) : StP nx lw f i (!b) := by
  induction h with
  | here h =>
    rw [show (opL lw).st = lw.st ^^^ 255 from rfl, xor_bit hf, Bool.not_not]
    exact .here (by rw [sts_op] at h; exact h)
  | @step i j b hp hj ih =>
    have hil := hp.lt hc
    have h2 := ih.step (j := j) (by rw [dirG_op] at hj; exact hj)
    have h3 := trB_op (lw := lw) hl hM hf hil (!b)
    rw [Bool.not_not] at h3
    rw [h3, Bool.not_not]
    exact h2

theorem Sm.op (hc : ckWay nx = 0) (hl : lw.ma.length = nx.length) (hM : ∀ x ∈ lw.ma, x < 256) (ha : lw.al = true) {F : List Nat} (h : Sm nx (opL lw) F) : Slv nx lw (flW F) := by
  refine ⟨by unfold flW; rw [List.length_map]; exact h.len, fun i W hW => ?_⟩
  unfold flW at hW
  rw [List.getElem?_map] at hW
  obtain ⟨V, hV, rfl⟩ := Option.map_eq_some_iff.1 hW
  have hVl := h.lt i V hV
  refine ⟨xor_255 hVl, fun f => ?_⟩
  unfold SlP
  rw [if_pos ha]
  constructor
  · intro hb
    have hf := bit_8 (xor_255 hVl) hb
    refine ⟨hf, fun hp => ?_⟩
    rw [xor_bit hf, (h.mem i V hV f).2 (hp.op hc hl hM hf)] at hb
    cases hb
  · rintro ⟨hf, hp⟩
    rw [xor_bit hf]
    cases hb : V.testBit f with
    | false => rfl
    | true => exact absurd (((h.mem i V hV f).1 hb).unop hc hl hM hf) hp

end

/-- the nodes of a list, one after the other -/
def pOk (nx : List (List Int)) (bw : Bool) (ps : List Int) (k : Nat) : Prop := ∀ j b, j < k → ps[j]? = some b → (0 ≤ b ∧ b < nx.length) ∧ ∀ a, 0 < j → ps[j - 1]? = some a → stB nx bw a b = true

section
variable {nx : List (List Int)} {bw : Bool} {ps : List Int} {k : Nat}

theorem pOk.zero : pOk nx bw ps 0 := fun j b hj => by omega

theorem pOk.next (h : pOk nx bw ps k) {b : Int} (hb : ps[k]? = some b) (h0 : 0 ≤ b ∧ b < nx.length) (h1 : ∀ a, 0 < k → ps[k - 1]? = some a → stB nx bw a b = true) : pOk nx bw ps (k + 1) := fun j b' hj hb' => by
  by_cases e : j = k
  · subst e
    rw [hb] at hb'
    injection hb' with hb'
    subst hb'
    exact ⟨h0, h1⟩
  · exact h j b' (by omega) hb'

theorem pthB_drop : ∀ (m : Nat) (q : Nat), ps.length - q = m → (∀ j a b, q ≤ j → ps[j]? = some a → ps[j + 1]? = some b → stB nx bw a b = true) → pthB nx bw (ps.drop q) = true
  | m, q, hm, h => by
    by_cases hq : q + 1 < ps.length
    · have ha := List.getElem?_eq_getElem (show q < ps.length by omega)
      have hb := List.getElem?_eq_getElem hq
      rw [pthB_at ha hb, h q _ _ (Nat.le_refl _) ha hb, Bool.true_and]
      match m, hm with
      | 0, hm => omega
      | m + 1, hm => exact pthB_drop m (q + 1) (by omega) fun j a b hj => h j a b (by omega)
    · exact pthB_end (by omega)

theorem pthB_step : ∀ (q j : Nat) {a b : Int}, pthB nx bw (ps.drop q) = true → q ≤ j → ps[j]? = some a → ps[j + 1]? = some b → stB nx bw a b = true := by
  intro q j a b h hj ha hb
  obtain ⟨d, rfl⟩ := Nat.exists_eq_add_of_le hj
  clear hj
  induction d generalizing q with
  | zero =>
    rw [Nat.add_zero] at ha hb
    rw [pthB_at ha hb, Bool.and_eq_true] at h
    exact h.1
  | succ d ih =>
    have hl := (List.getElem?_eq_some_iff.1 hb).1
    rw [pthB_at (List.getElem?_eq_getElem (show q < ps.length by omega)) (List.getElem?_eq_getElem (show q + 1 < ps.length by omega)), Bool.and_eq_true] at h
    refine ih (q + 1) h.2 ?_ ?_
    · rw [← ha]; congr 1; omega
    · rw [← hb]; congr 1; omega

theorem pOk.all (h : pOk nx bw ps ps.length) : rowOk nx.length ps = true ∧ pthB nx bw ps = true := by
  constructor
  · unfold rowOk
    rw [List.all_eq_true]
    intro x hx
    obtain ⟨j, hj, e⟩ := List.getElem_of_mem hx
    have := (h j x hj (by rw [List.getElem?_eq_getElem hj, e])).1
    simpa using this
  · have := pthB_drop (nx := nx) (bw := bw) (ps := ps) ps.length 0 (by omega) fun j a b _ ha hb => by
      have hl := (List.getElem?_eq_some_iff.1 hb).1
      exact (h (j + 1) b hl hb).2 a (by omega) ha
    simpa using this

/-- a list that is none -/
theorem pOk.out {b : Int} (hb : ps[k]? = some b) (h : ¬ (0 ≤ b ∧ b < nx.length)) : rowOk nx.length ps = false := by
  cases e : rowOk nx.length ps with
  | false => rfl
  | true => exact absurd (rowOk_in e hb) h

theorem pOk.off {a b : Int} (h0 : 0 < k) (ha : ps[k - 1]? = some a) (hb : ps[k]? = some b) (h : stB nx bw a b = false) : pthB nx bw ps = false := by
  cases e : pthB nx bw ps with
  | false => rfl
  | true =>
    have := pthB_step (nx := nx) (bw := bw) (ps := ps) 0 (k - 1) (a := a) (b := b) (by simpa using e) (by omega) ha (by rw [← hb]; congr 1; omega)
    rw [h] at this
    cases this

end

end Go.Proofs.Ytmbabbdcijgnoaa
