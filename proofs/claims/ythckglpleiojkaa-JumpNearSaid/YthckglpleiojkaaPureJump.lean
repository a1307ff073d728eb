/-
  Plain mathematics of pieces laid one after the other (X1): sizes, addresses, the smallest set of long jumps by lengthening; no program.
-/
import Derived.Test.YthckglpleiojkaaMPure
namespace Go.Proofs.Ythckglpleiojkaa
set_option linter.unusedSimpArgs false
set_option linter.unusedVariables false

/-- a piece -/
structure Pc where
  b : Int
  j : Bool
  to : Int

/-! ### Checked -/

def ckPc1 (n : Nat) (p : Pc) : Int := if p.j = false then (if 0 ≤ p.b ∧ p.b ≤ 200 then 0 else 4) else (if 0 ≤ p.to ∧ p.to ≤ (n : Int) then 0 else 2)

def ckPcL (n : Nat) : List Pc → Int
  | [] => 0
  | p :: r => if ckPc1 n p = 0 then ckPcL n r else ckPc1 n p

def ckPc (l : List Pc) : Int := if 10 < l.length then 1 else ckPcL l.length l

structure PcOk (l : List Pc) : Prop where
  len : l.length ≤ 10
  byt : ∀ (i : Nat) (p : Pc), l[i]? = some p → p.j = false → 0 ≤ p.b ∧ p.b ≤ 200
  jmp : ∀ (i : Nat) (p : Pc), l[i]? = some p → p.j = true → 0 ≤ p.to ∧ p.to ≤ (l.length : Int)

theorem ckPc1_ok {n : Nat} {p : Pc} (h : ckPc1 n p = 0) : (p.j = false → 0 ≤ p.b ∧ p.b ≤ 200) ∧ (p.j = true → 0 ≤ p.to ∧ p.to ≤ (n : Int)) := by
  unfold ckPc1 at h
  cases hj : p.j with
  | false =>
    rw [hj, if_pos rfl] at h
    refine ⟨fun _ => ?_, fun h2 => by cases h2⟩
    split at h
    · assumption
    · cases h
  | true =>
    rw [hj, if_neg (by simp)] at h
    refine ⟨fun h2 => (by cases h2), fun _ => ?_⟩
    split at h
    · assumption
    · cases h

theorem ckPcL_all {n : Nat} : ∀ {l : List Pc}, ckPcL n l = 0 → ∀ p ∈ l, ckPc1 n p = 0
  | [], _, p, hp => by cases hp
  | q :: r, h, p, hp => by
    unfold ckPcL at h
    split at h
    · rename_i h1
      rcases List.mem_cons.1 hp with rfl | h2
      · exact h1
      · exact ckPcL_all h p h2
    · rename_i h1
      exact absurd h h1

theorem ckPc_ok {l : List Pc} (h : ckPc l = 0) : PcOk l := by
  unfold ckPc at h
  split at h
  · cases h
  · rename_i h1
    have ha := ckPcL_all h
    exact ⟨by omega, fun i p hp => (ckPc1_ok (ha p (List.mem_of_getElem? hp))).1, fun i p hp => (ckPc1_ok (ha p (List.mem_of_getElem? hp))).2⟩

theorem ckPcL_at {n : Nat} {l : List Pc} {i : Nat} {p : Pc} (h : l[i]? = some p) : ckPcL n (l.drop i) = if ckPc1 n p = 0 then ckPcL n (l.drop (i + 1)) else ckPc1 n p := by
  rw [drop_at h]
  rfl

/-! ### Sizes and addresses, where the jumps of a word are long -/

def szP (l : List Pc) (W i : Nat) : Int := match l[i]? with
  | none => 0
  | some p => if p.j = true then (if W.testBit i = true then 4 else 2) else p.b

def atP (l : List Pc) (W : Nat) : Nat → Int
  | 0 => 0
  | k + 1 => atP l W k + szP l W k

/-- each bit of one word is in the other -/
def SubJ (W V : Nat) : Prop := ∀ i, W.testBit i = true → V.testBit i = true

theorem SubJ.refl (W : Nat) : SubJ W W := fun _ h => h

theorem SubJ.trans {U V W : Nat} (h : SubJ U V) (h2 : SubJ V W) : SubJ U W := fun i hi => h2 i (h i hi)

theorem szP_jmp {l : List Pc} {W i : Nat} {p : Pc} (h : l[i]? = some p) (hj : p.j = true) : szP l W i = if W.testBit i = true then 4 else 2 := by
  unfold szP
  rw [h]
  simp only [hj, if_true]

theorem szP_byt {l : List Pc} {W i : Nat} {p : Pc} (h : l[i]? = some p) (hj : p.j = false) : szP l W i = p.b := by
  unfold szP
  rw [h]
  simp [hj]

theorem szP_bd {l : List Pc} (hk : PcOk l) (W i : Nat) : 0 ≤ szP l W i ∧ szP l W i ≤ 200 := by
  cases h : l[i]? with
  | none => unfold szP; rw [h]; simp
  | some p =>
    cases hj : p.j with
    | false => rw [szP_byt h hj]; exact hk.byt i p h hj
    | true => rw [szP_jmp h hj]; split <;> omega

theorem szP_mono {l : List Pc} {W V : Nat} (h : SubJ W V) (i : Nat) : szP l W i ≤ szP l V i := by
  cases h1 : l[i]? with
  | none => unfold szP; rw [h1]; exact Int.le_refl _
  | some p =>
    cases hj : p.j with
    | false => rw [szP_byt h1 hj, szP_byt h1 hj]; exact Int.le_refl _
    | true =>
      rw [szP_jmp h1 hj, szP_jmp h1 hj]
      by_cases h2 : W.testBit i = true
      · rw [if_pos h2, if_pos (h i h2)]; exact Int.le_refl _
      · rw [if_neg h2]; split <;> omega

theorem at_bd {l : List Pc} (hk : PcOk l) (W : Nat) : ∀ k : Nat, 0 ≤ atP l W k ∧ atP l W k ≤ 200 * (k : Int)
  | 0 => ⟨Int.le_refl _, by simp [atP]⟩
  | k + 1 => by
    have h1 := at_bd hk W k
    have h2 := szP_bd hk W k
    simp only [atP]
    omega

theorem at_mono {l : List Pc} (hk : PcOk l) {W V : Nat} (h : SubJ W V) (a : Nat) : ∀ d : Nat, 0 ≤ atP l W (a + d) - atP l W a ∧ atP l W (a + d) - atP l W a ≤ atP l V (a + d) - atP l V a
  | 0 => by simp
  | d + 1 => by
    have h1 := at_mono hk h a d
    have h2 := szP_bd hk W (a + d)
    have h3 := szP_mono (l := l) h (a + d)
    have e : ∀ U, atP l U (a + (d + 1)) = atP l U (a + d) + szP l U (a + d) := fun U => rfl
    rw [e, e]
    omega

/-- number i is a jump to t -/
def JmpAt (l : List Pc) (i t : Nat) : Prop := ∃ b, l[i]? = some ⟨b, true, (t : Int)⟩

theorem jmpAt_of {l : List Pc} (hk : PcOk l) {i : Nat} {p : Pc} (h : l[i]? = some p) (hj : p.j = true) : ∃ t : Nat, p.to = t ∧ JmpAt l i t ∧ t ≤ l.length := by
  have := hk.jmp i p h hj
  refine ⟨p.to.toNat, by omega, ⟨p.b, ?_⟩, by omega⟩
  have e : ((p.to.toNat : Nat) : Int) = p.to := by omega
  rw [h, e]
  cases p
  simp only at hj
  subst hj
  rfl

/-- from a jump's own end to its target -/
def farP (l : List Pc) (W i t : Nat) : Int := atP l W t - atP l W (i + 1)

theorem far_up {l : List Pc} (hk : PcOk l) {W V : Nat} (h : SubJ W V) {i t : Nat} (ht : i + 1 ≤ t) : 0 ≤ farP l W i t ∧ farP l W i t ≤ farP l V i t := by
  have := at_mono hk h (i + 1) (t - (i + 1))
  rw [show i + 1 + (t - (i + 1)) = t by omega] at this
  unfold farP
  omega

/-- back: what lies from the target to the jump's beginning, and the jump -/
theorem far_down {l : List Pc} (hk : PcOk l) {W V : Nat} (h : SubJ W V) {i t : Nat} (ht : t ≤ i) : ∃ x y : Int, 0 ≤ x ∧ x ≤ y ∧ farP l W i t = - (x + szP l W i) ∧ farP l V i t = - (y + szP l V i) := by
  have := at_mono hk h t (i - t)
  rw [show t + (i - t) = i by omega] at this
  refine ⟨_, _, this.1, this.2, ?_, ?_⟩
  · unfold farP
    show _ - (atP l W i + szP l W i) = _
    omega
  · unfold farP
    show _ - (atP l V i + szP l V i) = _
    omega

def OkW (l : List Pc) (W : Nat) : Prop := ∀ i t, JmpAt l i t → W.testBit i = false → farP l W i t ≤ 50 ∧ -50 ≤ farP l W i t

/-- what is too far away stays so with more long ones -/
theorem far_more {l : List Pc} (hk : PcOk l) {W V : Nat} (h : SubJ W V) {i t : Nat} (hf : 50 < farP l W i t ∨ farP l W i t < -50) : 50 < farP l V i t ∨ farP l V i t < -50 := by
  rcases Nat.lt_or_ge i t with h1 | h1
  · have := far_up hk h h1
    omega
  · obtain ⟨x, y, h2, h3, h4, h5⟩ := far_down hk h h1
    have h6 := szP_mono (l := l) h i
    have h7 := szP_bd hk W i
    omega

/-! ### One time through all, at the addresses of one word -/

/-- is number k to be made long? -/
def lgB (l : List Pc) (W k : Nat) : Bool := match l[k]? with
  | none => false
  | some p => p.j && (!W.testBit k && decide (50 < farP l W k p.to.toNat ∨ farP l W k p.to.toNat < -50))

def lgW (l : List Pc) (W : Nat) : Nat → Nat
  | 0 => W
  | k + 1 => if lgB l W k = true then lgW l W k ||| 2 ^ k else lgW l W k

def lgA (l : List Pc) (W : Nat) : Nat → Bool
  | 0 => false
  | k + 1 => lgA l W k || lgB l W k

theorem lgW_bit (l : List Pc) (W i : Nat) : ∀ k, (lgW l W k).testBit i = (W.testBit i || (decide (i < k) && lgB l W i))
  | 0 => by simp [lgW]
  | k + 1 => by
    have ih := lgW_bit l W i k
    unfold lgW
    by_cases hi : i = k
    · subst hi
      by_cases hb : lgB l W i = true
      · rw [if_pos hb, Nat.testBit_or, ih, Nat.testBit_two_pow_self, hb]
        simp
      · rw [if_neg hb, ih]
        simp [Bool.not_eq_true] at hb
        simp [hb]
    · have hd : decide (i < k + 1) = decide (i < k) := by
        by_cases h : i < k
        · rw [decide_eq_true h, decide_eq_true (by omega)]
        · rw [decide_eq_false h, decide_eq_false (by omega)]
      rw [hd]
      split
      · rw [Nat.testBit_or, ih, Nat.testBit_two_pow_of_ne (by omega)]
        simp
      · exact ih

theorem lgW_sub (l : List Pc) (W k : Nat) : SubJ W (lgW l W k) := fun i hi => by rw [lgW_bit, hi]; rfl

theorem lgB_of {l : List Pc} {W k t : Nat} (h : JmpAt l k t) : lgB l W k = (!W.testBit k && decide (50 < farP l W k t ∨ farP l W k t < -50)) := by
  obtain ⟨b, hb⟩ := h
  unfold lgB
  rw [hb]
  simp

theorem lgB_true {l : List Pc} (hk : PcOk l) {W k : Nat} (h : lgB l W k = true) : ∃ t, JmpAt l k t ∧ W.testBit k = false ∧ (50 < farP l W k t ∨ farP l W k t < -50) := by
  unfold lgB at h
  cases hl : l[k]? with
  | none => rw [hl] at h; cases h
  | some p =>
    rw [hl] at h
    simp only [Bool.and_eq_true, Bool.not_eq_true', decide_eq_true_eq] at h
    obtain ⟨t, h1, h2, _⟩ := jmpAt_of hk hl h.1
    refine ⟨t, h2, h.2.1, ?_⟩
    have h3 := h.2.2
    rw [h1] at h3
    simpa using h3

theorem lgA_false {l : List Pc} {W : Nat} : ∀ {n : Nat}, lgA l W n = false → ∀ k, k < n → lgB l W k = false
  | 0, _, k, hk => by omega
  | n + 1, h, k, hk => by
    simp only [lgA, Bool.or_eq_false_iff] at h
    rcases Nat.lt_or_ge k n with h1 | h1
    · exact lgA_false h.1 k h1
    · have : k = n := by omega
      subst this
      exact h.2

theorem lgA_true {l : List Pc} {W : Nat} : ∀ {n : Nat}, lgA l W n = true → ∃ k, k < n ∧ lgB l W k = true
  | 0, h => by cases h
  | n + 1, h => by
    simp only [lgA, Bool.or_eq_true] at h
    rcases h with h | h
    · obtain ⟨k, h1, h2⟩ := lgA_true h
      exact ⟨k, by omega, h2⟩
    · exact ⟨n, by omega, h⟩

theorem lgW_same {l : List Pc} {W n : Nat} (h : lgA l W n = false) : lgW l W n = W := by
  refine Nat.eq_of_testBit_eq fun i => ?_
  rw [lgW_bit]
  by_cases hi : i < n
  · rw [lgA_false h i hi]; simp
  · rw [decide_eq_false hi]; simp

/-! ### The smallest word -/

structure GoI (l : List Pc) (W : Nat) : Prop where
  low : ∀ V, OkW l V → SubJ W V
  jmp : ∀ i, W.testBit i = true → ∃ t, JmpAt l i t
  nar : ∀ i t, JmpAt l i t → W.testBit i = true → 50 < farP l W i t ∨ farP l W i t < -52

theorem GoI.zero (l : List Pc) : GoI l 0 := ⟨fun V _ i h => by simp at h, fun i h => by simp at h, fun i t _ h => by simp at h⟩

theorem JmpAt.one {l : List Pc} {i t u : Nat} (h : JmpAt l i t) (h2 : JmpAt l i u) : t = u := by
  obtain ⟨b, hb⟩ := h
  obtain ⟨c, hc⟩ := h2
  rw [hb] at hc
  injection hc with hc
  injection hc with _ _ hc
  omega

theorem GoI.next {l : List Pc} (hk : PcOk l) {W : Nat} (h : GoI l W) (n : Nat) : GoI l (lgW l W n) := by
  have hs := lgW_sub l W n
  have hcase : ∀ i, (lgW l W n).testBit i = true → W.testBit i = true ∨ lgB l W i = true := fun i hi => by
    rw [lgW_bit, Bool.or_eq_true, Bool.and_eq_true] at hi
    exact hi.imp id And.right
  refine ⟨fun V hV i hi => ?_, fun i hi => ?_, fun i t hj hi => ?_⟩
  · rcases hcase i hi with h1 | h1
    · exact h.low V hV i h1
    · obtain ⟨t, h2, h3, h4⟩ := lgB_true hk h1
      cases hb : V.testBit i with
      | true => rfl
      | false =>
        have h5 := hV i t h2 hb
        have h6 := far_more hk (h.low V hV) h4
        omega
  · rcases hcase i hi with h1 | h1
    · exact h.jmp i h1
    · obtain ⟨t, h2, _⟩ := lgB_true hk h1
      exact ⟨t, h2⟩
  · obtain ⟨b, hb⟩ := hj
    have hz1 := szP_jmp (W := W) hb rfl
    have hz2 := szP_jmp (W := lgW l W n) hb rfl
    rw [hi, if_pos rfl] at hz2
    rcases hcase i hi with h1 | h1
    · have h2 := h.nar i t ⟨b, hb⟩ h1
      rw [h1, if_pos rfl] at hz1
      rcases Nat.lt_or_ge i t with h3 | h3
      · have := far_up hk hs h3
        omega
      · obtain ⟨x, y, h4, h5, h6, h7⟩ := far_down hk hs h3
        omega
    · obtain ⟨t', h2, h3, h4⟩ := lgB_true hk h1
      have := JmpAt.one ⟨b, hb⟩ h2
      subst this
      rw [h3, if_neg (by simp)] at hz1
      rcases Nat.lt_or_ge i t with h5 | h5
      · have := far_up hk hs h5
        omega
      · obtain ⟨x, y, h6, h7, h8, h9⟩ := far_down hk hs h5
        omega

/-- the word that lengthening ends with -/
structure FinW (l : List Pc) (W : Nat) : Prop extends GoI l W where
  ok : OkW l W

theorem GoI.fin {l : List Pc} (hk : PcOk l) {W : Nat} (h : GoI l W) (hf : lgA l W l.length = false) : FinW l W :=
  ⟨h, fun i t hj hb => by
    have hi : i < l.length := by
      obtain ⟨b, hb⟩ := hj
      exact (List.getElem?_eq_some_iff.1 hb).1
    have h1 := lgA_false hf i hi
    rw [lgB_of hj, hb] at h1
    simp only [Bool.not_false, Bool.true_and, decide_eq_false_iff_not] at h1
    omega⟩

/-- where one is made long the end lies further -/
theorem lg_end {l : List Pc} (hk : PcOk l) {W n : Nat} (h : lgA l W n = true) : atP l W n + 2 ≤ atP l (lgW l W n) n := by
  obtain ⟨k, h1, h2⟩ := lgA_true h
  obtain ⟨t, ⟨b, h3⟩, h4, _⟩ := lgB_true hk h2
  have hs := lgW_sub l W n
  have hz1 := szP_jmp (W := W) h3 rfl
  have hz2 := szP_jmp (W := lgW l W n) h3 rfl
  have hb : (lgW l W n).testBit k = true := by rw [lgW_bit, h2, decide_eq_true h1]; simp
  rw [h4, if_neg (by simp)] at hz1
  rw [hb, if_pos rfl] at hz2
  have h5 := at_mono hk hs 0 k
  have h6 := at_mono hk hs (k + 1) (n - (k + 1))
  rw [show k + 1 + (n - (k + 1)) = n by omega] at h6
  rw [Nat.zero_add] at h5
  have e : ∀ U, atP l U (k + 1) = atP l U k + szP l U k := fun U => rfl
  rw [e, e] at h6
  have e0 : ∀ U, atP l U 0 = 0 := fun U => rfl
  rw [e0, e0] at h5
  omega

theorem FinW.lt {l : List Pc} {W : Nat} (h : FinW l W) : W < 2 ^ l.length := by
  refine Nat.lt_pow_two_of_testBit W fun i hi => ?_
  cases hb : W.testBit i with
  | false => rfl
  | true =>
    obtain ⟨t, b, hj⟩ := h.jmp i hb
    have := (List.getElem?_eq_some_iff.1 hj).1
    omega

/-! ### The fewest by all words -/

theorem szW_subJ {A B : Nat} (h : SubJ A B) : ∀ n, szW A n ≤ szW B n ∧ (szW B n ≤ szW A n → ∀ i, i < n → B.testBit i = true → A.testBit i = true)
  | 0 => ⟨Nat.le_refl _, fun _ i hi => by omega⟩
  | n + 1 => by
    obtain ⟨h1, h2⟩ := szW_subJ h n
    simp only [szW]
    cases ha : A.testBit n with
    | true =>
      rw [h n ha]
      simp only [if_true]
      refine ⟨by omega, fun h3 i hi hb => ?_⟩
      rcases Nat.lt_or_ge i n with h4 | h4
      · exact h2 (by omega) i h4 hb
      · have : i = n := by omega
        subst this
        exact ha
    | false =>
      cases hb : B.testBit n with
      | true =>
        simp only [Bool.false_eq_true, if_false, if_true]
        exact ⟨by omega, fun h3 => by omega⟩
      | false =>
        simp only [Bool.false_eq_true, if_false]
        refine ⟨by omega, fun h3 i hi hb2 => ?_⟩
        rcases Nat.lt_or_ge i n with h4 | h4
        · exact h2 (by omega) i h4 hb2
        · have : i = n := by omega
          subst this
          rw [hb] at hb2
          cases hb2

/-- the word of all jumps among the first k -/
def jmW (l : List Pc) : Nat → Nat
  | 0 => 0
  | k + 1 => (match l[k]? with
    | none => jmW l k
    | some p => if p.j = true then jmW l k ||| 2 ^ k else jmW l k)

theorem jmW_next {l : List Pc} {k : Nat} {p : Pc} (h : l[k]? = some p) : jmW l (k + 1) = if p.j = true then jmW l k ||| 2 ^ k else jmW l k := by
  show (match l[k]? with
    | none => jmW l k
    | some p => if p.j = true then jmW l k ||| 2 ^ k else jmW l k) = _
  rw [h]

theorem jmW_lt (l : List Pc) : ∀ k, jmW l k < 2 ^ k
  | 0 => by simp [jmW]
  | k + 1 => by
    have h := jmW_lt l k
    have h2 : jmW l k < 2 ^ (k + 1) := Nat.lt_of_lt_of_le h (Nat.pow_le_pow_right (by omega) (by omega))
    unfold jmW
    split
    · exact h2
    · split
      · exact Nat.or_lt_two_pow h2 (Nat.pow_lt_pow_right (by omega) (by omega))
      · exact h2

theorem jmW_bit {l : List Pc} {i t : Nat} (h : JmpAt l i t) : ∀ k, i < k → (jmW l k).testBit i = true
  | 0, hk => by omega
  | k + 1, hk => by
    obtain ⟨b, hb⟩ := h
    rcases Nat.lt_or_ge i k with h1 | h1
    · have ih := jmW_bit ⟨b, hb⟩ k h1
      unfold jmW
      split
      · exact ih
      · split
        · rw [Nat.testBit_or, ih]; rfl
        · exact ih
    · have : i = k := by omega
      subst this
      rw [jmW_next hb, if_pos rfl, Nat.testBit_or, Nat.testBit_two_pow_self, Bool.or_true]

structure FewJ (l : List Pc) (L s best : Nat) : Prop where
  ok : OkW l best
  lt : best < 2 ^ l.length
  got : L < s → best = L

theorem FewJ.zero {l : List Pc} (L : Nat) : FewJ l L 0 (jmW l l.length) :=
  ⟨fun i t hj hb => (by
    have hi : i < l.length := by
      obtain ⟨b, h⟩ := hj
      exact (List.getElem?_eq_some_iff.1 h).1
    rw [jmW_bit hj _ hi] at hb
    cases hb), jmW_lt l _, fun h => by omega⟩

theorem FinW.sub_jm {l : List Pc} {L : Nat} (h : FinW l L) : SubJ L (jmW l l.length) := fun i hi => by
  obtain ⟨t, hj⟩ := h.jmp i hi
  have hi : i < l.length := by
    obtain ⟨b, h⟩ := hj
    exact (List.getElem?_eq_some_iff.1 h).1
  exact jmW_bit hj _ hi

theorem FewJ.skip {l : List Pc} {L s best : Nat} (h : FewJ l L s best) (hs : s ≠ L) : FewJ l L (s + 1) best := ⟨h.ok, h.lt, fun h2 => h.got (by omega)⟩

theorem FewJ.big {l : List Pc} {L s best n : Nat} (hf : FinW l L) (hn : l.length ≤ n) (h : FewJ l L s best) (hs : szW best n ≤ szW s n) : FewJ l L (s + 1) best := by
  by_cases he : s = L
  · subst he
    refine ⟨h.ok, h.lt, fun _ => Nat.eq_of_testBit_eq fun i => ?_⟩
    have h1 := (szW_subJ (hf.low _ h.ok) n).2 hs
    have h2 := hf.low _ h.ok i
    cases hb : best.testBit i with
    | true =>
      have hi : i < n := by
        rcases Nat.lt_or_ge i n with h3 | h3
        · exact h3
        · have := Nat.testBit_lt_two_pow (Nat.lt_of_lt_of_le h.lt (Nat.pow_le_pow_right (n := 2) (by omega) (Nat.le_trans hn h3)))
          rw [this] at hb
          cases hb
      exact (h1 i hi hb).symm
    | false =>
      cases hb2 : s.testBit i with
      | true => rw [h2 hb2] at hb; cases hb
      | false => rfl
  · exact h.skip he

theorem FewJ.take {l : List Pc} {L s best n : Nat} (hf : FinW l L) (hlt : s < 2 ^ l.length) (h : FewJ l L s best) (hs : szW s n < szW best n) (ho : OkW l s) : FewJ l L (s + 1) s :=
  ⟨ho, hlt, fun h2 => by
    rcases Nat.lt_or_ge L s with h3 | h3
    · have h4 := h.got h3
      subst h4
      have := (szW_subJ (hf.low s ho) n).1
      omega
    · omega⟩

theorem FewJ.done {l : List Pc} {L best : Nat} (hf : FinW l L) (h : FewJ l L (2 ^ l.length) best) : best = L := h.got hf.lt

/-! ### As lists -/

def szl (l : List Pc) (W : Nat) : List Int := (List.range l.length).map (szP l W)

def atl (l : List Pc) (W : Nat) : List Int := (List.range (l.length + 1)).map (atP l W)

theorem szl_len (l : List Pc) (W : Nat) : (szl l W).length = l.length := by simp [szl]

theorem atl_len (l : List Pc) (W : Nat) : (atl l W).length = l.length + 1 := by simp [atl]

theorem szl_at {l : List Pc} {W i : Nat} (h : i < l.length) : (szl l W)[i]? = some (szP l W i) := by
  unfold szl
  rw [List.getElem?_map, List.getElem?_range h]
  rfl

theorem atl_at {l : List Pc} {W i : Nat} (h : i ≤ l.length) : (atl l W)[i]? = some (atP l W i) := by
  unfold atl
  rw [List.getElem?_map, List.getElem?_range (by omega)]
  rfl

theorem szl_set {l : List Pc} {W k : Nat} {p : Pc} (h : l[k]? = some p) (hj : p.j = true) : (szl l W).set k 4 = szl l (W ||| 2 ^ k) := by
  have hk := (List.getElem?_eq_some_iff.1 h).1
  apply List.ext_getElem?
  intro i
  rw [List.getElem?_set]
  by_cases hi : k = i
  · subst hi
    rw [if_pos rfl, if_pos (by rw [szl_len]; exact hk), szl_at hk, szP_jmp h hj, Nat.testBit_or, Nat.testBit_two_pow_self, Bool.or_true, if_pos rfl]
  · rw [if_neg hi]
    rcases Nat.lt_or_ge i l.length with h1 | h1
    · rw [szl_at h1, szl_at h1]
      congr 1
      unfold szP
      rw [Nat.testBit_or, Nat.testBit_two_pow_of_ne hi, Bool.or_false]
    · rw [List.getElem?_eq_none (by rw [szl_len]; exact h1), List.getElem?_eq_none (by rw [szl_len]; exact h1)]

/-- the sizes of the first k, and 0 for those that are still to come -/
def szU (l : List Pc) (W k : Nat) : List Int := (List.range l.length).map fun i => if i < k then szP l W i else 0

theorem szU_zero (l : List Pc) (W : Nat) : szU l W 0 = List.replicate l.length 0 := by
  unfold szU
  apply List.ext_getElem?
  intro i
  rw [List.getElem?_map, List.getElem?_replicate]
  by_cases h : i < l.length
  · rw [List.getElem?_range h, if_pos h]; rfl
  · rw [List.getElem?_eq_none (by simp; omega), if_neg h]; rfl

theorem szU_all (l : List Pc) (W : Nat) : szU l W l.length = szl l W := by
  unfold szU szl
  exact List.map_congr_left fun i hi => by rw [if_pos (List.mem_range.1 hi)]

theorem szU_set {l : List Pc} {W k : Nat} (h : k < l.length) {x : Int} (hx : x = szP l W k) : (szU l W k).set k x = szU l W (k + 1) := by
  subst hx
  unfold szU
  apply List.ext_getElem?
  intro i
  rw [List.getElem?_set, List.getElem?_map, List.getElem?_map]
  by_cases hi : k = i
  · subst hi
    rw [if_pos rfl, if_pos (by simp; exact h), List.getElem?_range h]
    simp
  · rw [if_neg hi]
    rcases Nat.lt_or_ge i l.length with h1 | h1
    · rw [List.getElem?_range h1]
      simp only [Option.map_some]
      congr 1
      by_cases h2 : i < k
      · rw [if_pos h2, if_pos (by omega)]
      · rw [if_neg h2, if_neg (by omega)]
    · rw [List.getElem?_eq_none (by simp; omega)]; rfl

theorem szU_at {l : List Pc} {W k : Nat} (h : k < l.length) : (szU l W k)[k]? = some 0 := by
  unfold szU
  rw [List.getElem?_map, List.getElem?_range h]
  simp

/-- the addresses up to number k, and 0 for those that are still to come -/
def atU (l : List Pc) (W k : Nat) : List Int := (List.range (l.length + 1)).map fun i => if i ≤ k then atP l W i else 0

theorem atU_zero (l : List Pc) (W : Nat) : atU l W 0 = List.replicate (l.length + 1) 0 := by
  unfold atU
  apply List.ext_getElem?
  intro i
  rw [List.getElem?_map, List.getElem?_replicate]
  by_cases h : i < l.length + 1
  · rw [List.getElem?_range h, if_pos h]
    simp only [Option.map_some]
    congr 1
    by_cases h2 : i ≤ 0
    · rw [if_pos h2]
      have : i = 0 := by omega
      subst this
      rfl
    · rw [if_neg h2]
  · rw [List.getElem?_eq_none (by simp; omega), if_neg h]; rfl

theorem atU_all (l : List Pc) (W : Nat) : atU l W l.length = atl l W := by
  unfold atU atl
  exact List.map_congr_left fun i hi => by rw [if_pos (by have := List.mem_range.1 hi; omega)]

theorem atU_at {l : List Pc} {W k : Nat} (h : k ≤ l.length) : (atU l W k)[k]? = some (atP l W k) := by
  unfold atU
  rw [List.getElem?_map, List.getElem?_range (by omega)]
  simp

theorem atU_next {l : List Pc} {W k : Nat} (h : k < l.length) : (atU l W k)[k + 1]? = some 0 := by
  unfold atU
  rw [List.getElem?_map, List.getElem?_range (by omega)]
  simp only [Option.map_some]
  rw [if_neg (by omega)]

theorem atU_len (l : List Pc) (W k : Nat) : (atU l W k).length = l.length + 1 := by simp [atU]

theorem atU_set {l : List Pc} {W k : Nat} (h : k < l.length) : (atU l W k).set (k + 1) (atP l W k + szP l W k) = atU l W (k + 1) := by
  unfold atU
  apply List.ext_getElem?
  intro i
  rw [List.getElem?_set, List.getElem?_map, List.getElem?_map]
  by_cases hi : k + 1 = i
  · subst hi
    rw [if_pos rfl, if_pos (by simp; omega), List.getElem?_range (by omega)]
    simp only [Option.map_some, if_pos (Nat.le_refl _)]
    rfl
  · rw [if_neg hi]
    rcases Nat.lt_or_ge i (l.length + 1) with h1 | h1
    · rw [List.getElem?_range h1]
      simp only [Option.map_some]
      congr 1
      by_cases h2 : i ≤ k
      · rw [if_pos h2, if_pos (by omega)]
      · rw [if_neg h2, if_neg (by omega)]
    · rw [List.getElem?_eq_none (by simp; omega)]; rfl

/-- the first k sizes, the first k + 1 addresses -/
theorem szl_take {l : List Pc} {W k : Nat} (h : k < l.length) : (szl l W).take (k + 1) = (szl l W).take k ++ [szP l W k] := by
  rw [List.take_add_one, szl_at h]
  rfl

theorem atl_take {l : List Pc} {W k : Nat} (h : k < l.length) : (atl l W).take (k + 1 + 1) = (atl l W).take (k + 1) ++ [atP l W k + szP l W k] := by
  rw [List.take_add_one, atl_at (by omega)]
  rfl

theorem szl_sum {l : List Pc} (W : Nat) : ∀ k, k ≤ l.length → ((szl l W).take k).sum = atP l W k
  | 0, _ => rfl
  | k + 1, h => by
    rw [szl_take (by omega), List.sum_append, szl_sum W k (by omega)]
    simp [atP]

end Go.Proofs.Ythckglpleiojkaa
