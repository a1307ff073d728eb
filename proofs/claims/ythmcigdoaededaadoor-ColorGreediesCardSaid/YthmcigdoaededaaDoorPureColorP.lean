/-
  Plain mathematics of package color (O1, O2): words of conflicts, what is taken, what is left when what is right goes.
-/
import Derived.Test.YthmcigdoaededaaDoorPurePerfect
namespace Go.Proofs.YthmcigdoaededaaDoor
set_option linter.unusedSimpArgs false
set_option linter.unusedVariables false

/-- for each thing the word of those it clashes with -/
structure AdW (n : Nat) (ad : Nat → Nat → Bool) (ws : List Nat) : Prop where
  len : ws.length = n
  lt : ∀ v W : Nat, ws[v]? = some W → W < 2 ^ n
  bit : ∀ v W : Nat, ws[v]? = some W → ∀ j, W.testBit j = ad v j

theorem clP_append (p q : List (Nat × Nat)) (i j : Nat) : clP (p ++ q) i j = (clP p i j || clP q i j) := by unfold clP; rw [List.any_append]

theorem clP_one (a b i j : Nat) : clP [(a, b)] i j = ((a == i && b == j) || (a == j && b == i)) := by simp [clP]

theorem AdW.zero (n : Nat) : AdW n (clP []) (List.replicate n 0) := by
  refine ⟨List.length_replicate, fun v W h => ?_, fun v W h j => ?_⟩
  all_goals
    have h2 := List.mem_of_getElem? h
    have := (List.mem_replicate.1 h2).2
    subst this
  · exact Nat.two_pow_pos n
  · simp [clP]

theorem set_set_at {ws : List Nat} {a b x y v W : Nat} (hab : a ≠ b) (h : ((ws.set a x).set b y)[v]? = some W) : v = a ∧ W = x ∨ v = b ∧ W = y ∨ v ≠ a ∧ v ≠ b ∧ ws[v]? = some W := by
  rw [List.getElem?_set] at h
  by_cases h1 : b = v
  · subst h1
    rw [if_pos rfl] at h
    split at h
    · injection h with h
      exact .inr (.inl ⟨rfl, h.symm⟩)
    · cases h
  · rw [if_neg h1, List.getElem?_set] at h
    by_cases h2 : a = v
    · subst h2
      rw [if_pos rfl] at h
      split at h
      · injection h with h
        exact .inl ⟨rfl, h.symm⟩
      · cases h
    · rw [if_neg h2] at h
      exact .inr (.inr ⟨Ne.symm h2, Ne.symm h1, h⟩)

theorem dec_beq (a b : Nat) : (a == b) = decide (a = b) := by
  rw [Bool.eq_iff_iff]
  simp

theorem AdW.step {n : Nat} {qs : List (Nat × Nat)} {ws : List Nat} {a b X Y : Nat} (h : AdW n (clP qs) ws) (ha : a < n) (hb : b < n) (hab : a ≠ b) (hX : ws[a]? = some X) (hY : ws[b]? = some Y) : AdW n (clP (qs ++ [(a, b)])) ((ws.set a (X ||| 2 ^ b)).set b (Y ||| 2 ^ a)) := by
  refine ⟨by simp [h.len], fun v W hv => ?_, fun v W hv j => ?_⟩
  · rcases set_set_at hab hv with ⟨rfl, rfl⟩ | ⟨rfl, rfl⟩ | ⟨_, _, hv⟩
    · exact Nat.or_lt_two_pow (h.lt _ _ hX) (Nat.pow_lt_pow_right (by omega) hb)
    · exact Nat.or_lt_two_pow (h.lt _ _ hY) (Nat.pow_lt_pow_right (by omega) ha)
    · exact h.lt _ _ hv
  · rw [clP_append, clP_one]
    rcases set_set_at hab hv with ⟨rfl, rfl⟩ | ⟨rfl, rfl⟩ | ⟨h1, h2, hv⟩
    · rw [Nat.testBit_or, h.bit _ _ hX, Nat.testBit_two_pow]
      have : (b == v) = false := by simpa using Ne.symm hab
      rw [this, dec_beq b j]
      simp
    · rw [Nat.testBit_or, h.bit _ _ hY, Nat.testBit_two_pow]
      have : (a == v) = false := by simpa using hab
      rw [this, dec_beq a j]
      simp
    · rw [h.bit _ _ hv]
      have e1 : (a == v) = false := by simpa using Ne.symm h1
      have e2 : (b == v) = false := by simpa using Ne.symm h2
      rw [e1, e2]
      simp

theorem AdW.get {n : Nat} {ad : Nat → Nat → Bool} {ws : List Nat} (h : AdW n ad ws) {v : Nat} (hv : v < n) : ∃ W, ws[v]? = some W := ⟨_, List.getElem?_eq_getElem (by rw [h.len]; exact hv)⟩

/-! ### What is left out of a word -/

theorem andC_bit {V C : Nat} (hV : V < 256) (hC : C < 256) (k : Nat) : (V &&& (4294967295 - C)).testBit k = (V.testBit k && !C.testBit k) := by
  rw [Nat.testBit_and]
  rcases Nat.lt_or_ge k 32 with h | h
  · have : 4294967295 - C = 2 ^ 32 - (C + 1) := by omega
    rw [this, Nat.testBit_two_pow_sub_succ (by omega)]
    simp [h]
  · have h1 : V < 2 ^ k := Nat.lt_of_lt_of_le hV (Nat.le_trans (by decide) (Nat.pow_le_pow_right (by omega) h))
    rw [Nat.testBit_lt_two_pow h1]
    rfl

/-- all but those of a word are one alone: each other one of them lies in the word -/
theorem andC_one {V C v : Nat} (hV : V < 256) (hC : C < 256) (hv : V.testBit v = true) (hc : C.testBit v = false) : V &&& (4294967295 - C) = 2 ^ v ↔ ∀ j, V.testBit j = true → j ≠ v → C.testBit j = true := by
  constructor
  · intro h j hj hne
    have h2 := andC_bit hV hC j
    rw [h, Nat.testBit_two_pow, hj] at h2
    have : decide (v = j) = false := by simpa using Ne.symm hne
    rw [this] at h2
    simpa using h2.symm
  · intro h
    refine word_ext fun j => ?_
    rw [andC_bit hV hC, Nat.testBit_two_pow, Bool.and_eq_true, Bool.not_eq_true', decide_eq_true_eq]
    constructor
    · rintro ⟨h1, h2⟩
      refine Classical.byContradiction fun hne => ?_
      rw [h j h1 (Ne.symm hne)] at h2
      cases h2
    · rintro rfl
      exact ⟨hv, hc⟩

/-- any two of a word clash, those up to i looked at -/
def clqU (ad : Nat → Nat → Bool) (W : Nat) (i : Nat) : Prop := ∀ v, v < i → W.testBit v = true → ∀ j, W.testBit j = true → j ≠ v → ad v j = true

theorem clqU_clq {n : Nat} {ad : Nat → Nat → Bool} {W : Nat} (hW : W < 2 ^ n) : clqU ad W n ↔ ClqW n ad W := by
  constructor
  · exact fun h i j hi hj h1 h2 hne => h i hi h1 j h2 (Ne.symm hne)
  · intro h v hv h1 j h2 hne
    refine h v j hv ?_ h1 h2 (Ne.symm hne)
    refine Classical.byContradiction fun hj => ?_
    rw [Nat.testBit_lt_two_pow (Nat.lt_of_lt_of_le hW (Nat.pow_le_pow_right (by omega) (by omega)))] at h2
    cases h2

/-! ### The greatest -/

/-- the first of the greatest sets so far -/
structure MaxI (n : Nat) (ad : Nat → Nat → Bool) (t L : Nat) : Prop where
  lt : L < 2 ^ n
  clq : ClqW n ad L
  le : L ≤ t
  great : ∀ T, T < t → ClqW n ad T → szW T n < szW L n ∨ szW T n = szW L n ∧ L ≤ T

theorem szW_nil : ∀ n, szW 0 n = 0
  | 0 => rfl
  | n + 1 => by unfold szW; rw [szW_nil n]; simp

theorem MaxI.zero (n : Nat) (ad : Nat → Nat → Bool) : MaxI n ad 0 0 := ⟨Nat.two_pow_pos n, fun i j _ _ h => by simp at h, Nat.le_refl _, fun T h => by omega⟩

theorem MaxI.skip {n : Nat} {ad : Nat → Nat → Bool} {t L : Nat} (h : MaxI n ad t L) (hn : ¬ (szW L n < szW t n ∧ ClqW n ad t)) : MaxI n ad (t + 1) L := by
  refine ⟨h.lt, h.clq, Nat.le_succ_of_le h.le, fun T hT hc => ?_⟩
  rcases Nat.lt_or_ge T t with h1 | h1
  · exact h.great T h1 hc
  · have : T = t := by omega
    subst this
    have := h.le
    rcases Nat.lt_or_ge (szW L n) (szW T n) with h2 | h2
    · exact absurd ⟨h2, hc⟩ hn
    · omega

theorem MaxI.take {n : Nat} {ad : Nat → Nat → Bool} {t L : Nat} (h : MaxI n ad t L) (ht : t < 2 ^ n) (h1 : szW L n < szW t n) (h2 : ClqW n ad t) : MaxI n ad (t + 1) t := by
  refine ⟨ht, h2, Nat.le_succ t, fun T hT hc => ?_⟩
  rcases Nat.lt_or_ge T t with h3 | h3
  · have := h.great T h3 hc
    omega
  · have : T = t := by omega
    subst this
    exact .inr ⟨rfl, Nat.le_refl _⟩

theorem MaxI.done {n : Nat} {ad : Nat → Nat → Bool} {L : Nat} (h : MaxI n ad (2 ^ n) L) : CliqueC n ad L := ⟨h.lt, h.clq, h.great⟩

/-! ### What is right goes, the least one first -/

/-- those not done, as a word -/
def lfW (n : Nat) (R : List Nat) : Nat := setW ((List.range n).filter fun i => !decide (i ∈ R))

theorem lfW_bit {n : Nat} {R : List Nat} {i : Nat} : (lfW n R).testBit i = true ↔ i < n ∧ i ∉ R := by unfold lfW; rw [setW_bit, List.mem_filter, List.mem_range]; simp

theorem lfW_lt (n : Nat) (R : List Nat) : lfW n R < 2 ^ n := setW_lt fun x hx => List.mem_range.1 (List.mem_filter.1 hx).1

/-- those not done that i clashes with, as a word -/
def neW (n : Nat) (ad : Nat → Nat → Bool) (R : List Nat) (i : Nat) : Nat := setW (nbB n ad R i)

theorem neW_bit {n : Nat} {ad : Nat → Nat → Bool} {R : List Nat} {i j : Nat} : (neW n ad R i).testBit j = true ↔ j < n ∧ j ∉ R ∧ ad i j = true := by unfold neW; rw [setW_bit, nbB_mem]

theorem neW_lt {n : Nat} {ad : Nat → Nat → Bool} {R : List Nat} {i : Nat} : neW n ad R i < 2 ^ n := setW_lt fun x hx => (nbB_mem.1 hx).1

theorem AdW.left {n : Nat} {ad : Nat → Nat → Bool} {ws : List Nat} (h : AdW n ad ws) {v W : Nat} (hv : ws[v]? = some W) (R : List Nat) : W &&& lfW n R = neW n ad R v :=
  word_ext fun j => by
    rw [Nat.testBit_and, Bool.and_eq_true, lfW_bit, neW_bit, h.bit _ _ hv]
    constructor
    · rintro ⟨h1, h2, h3⟩; exact ⟨h2, h3, h1⟩
    · rintro ⟨h1, h2, h3⟩; exact ⟨h3, h1, h2⟩

theorem lfW_nil {n : Nat} (hn : n < 32) : lfW n [] = 2 ^ n - 1 :=
  word_ext fun j => by
    rw [lfW_bit]
    have : 2 ^ n - 1 = 2 ^ n - (0 + 1) := rfl
    rw [Nat.testBit_two_pow_sub_one]
    simp

theorem lfW_snoc {n : Nat} {R : List Nat} {v : Nat} (hn : n ≤ 8) (hv : v < n) : lfW n R &&& (4294967295 - 2 ^ v) = lfW n (R ++ [v]) :=
  word_ext fun j => by
    have h8 : 2 ^ n ≤ 2 ^ 8 := Nat.pow_le_pow_right (by omega) hn
    have h9 : 2 ^ v < 2 ^ 8 := Nat.pow_lt_pow_right (by omega) (by omega)
    rw [andC_bit (Nat.lt_of_lt_of_le (lfW_lt n R) h8) h9, Bool.and_eq_true, Bool.not_eq_true', lfW_bit, lfW_bit, Nat.testBit_two_pow]
    simp only [decide_eq_false_iff_not, List.mem_append, List.mem_singleton, not_or]
    constructor
    · rintro ⟨⟨h1, h2⟩, h3⟩; exact ⟨h1, h2, fun e => h3 e.symm⟩
    · rintro ⟨h1, h2, h3⟩; exact ⟨⟨h1, h2⟩, fun e => h3 e.symm⟩

/-- what has gone so far, each the least that was right -/
structure GoneI (n : Nat) (ad : Nat → Nat → Bool) (q : Nat → Bool) (R : List Nat) : Prop where
  nd : R.Nodup
  lt : ∀ x ∈ R, x < n
  right : ∀ t i, R[t]? = some i → q (neW n ad (R.take t) i) = true
  least : ∀ t i, R[t]? = some i → ∀ j, j < i → j ∉ R.take t → q (neW n ad (R.take t) j) = false

theorem GoneI.nil (n : Nat) (ad : Nat → Nat → Bool) (q : Nat → Bool) : GoneI n ad q [] := ⟨by simp, fun x h => absurd h (by simp), fun t i h => by simp at h, fun t i h => by simp at h⟩

theorem snoc_at {R : List Nat} {v t i : Nat} (h : (R ++ [v])[t]? = some i) : R[t]? = some i ∧ (R ++ [v]).take t = R.take t ∨ t = R.length ∧ i = v ∧ (R ++ [v]).take t = R := by
  rcases Nat.lt_or_ge t R.length with h1 | h1
  · rw [List.getElem?_append_left h1] at h
    exact .inl ⟨h, List.take_append_of_le_length (by omega)⟩
  · rw [List.getElem?_append_right h1] at h
    have h2 : t = R.length := by
      rcases Nat.eq_or_lt_of_le h1 with h3 | h3
      · exact h3.symm
      · have h4 : t - R.length = (t - R.length - 1) + 1 := by omega
        rw [h4] at h
        simp at h
    subst h2
    simp at h
    exact .inr ⟨rfl, h.symm, List.take_left⟩

theorem GoneI.snoc {n : Nat} {ad : Nat → Nat → Bool} {q : Nat → Bool} {R : List Nat} {v : Nat} (h : GoneI n ad q R) (hv : v < n) (hn : v ∉ R) (hq : q (neW n ad R v) = true) (hl : ∀ j, j < v → j ∉ R → q (neW n ad R j) = false) : GoneI n ad q (R ++ [v]) := by
  refine ⟨?_, fun x hx => ?_, fun t i ht => ?_, fun t i ht => ?_⟩
  · rw [List.nodup_append]
    exact ⟨h.nd, by simp, fun a ha b hb e => by
      simp at hb
      subst hb
      rw [e] at ha
      exact hn ha⟩
  · rcases List.mem_append.1 hx with h1 | h1
    · exact h.lt x h1
    · simp at h1
      rw [h1]
      exact hv
  · rcases snoc_at ht with ⟨h1, h2⟩ | ⟨rfl, rfl, h2⟩
    · rw [h2]; exact h.right t i h1
    · rw [h2]; exact hq
  · rcases snoc_at ht with ⟨h1, h2⟩ | ⟨rfl, rfl, h2⟩
    · rw [h2]; exact h.least t i h1
    · rw [h2]; exact hl

theorem GoneI.short {n : Nat} {ad : Nat → Nat → Bool} {q : Nat → Bool} {R : List Nat} (h : GoneI n ad q R) : R.length ≤ n := nodup_len h.nd h.lt

theorem GoneI.shorter {n : Nat} {ad : Nat → Nat → Bool} {q : Nat → Bool} {R : List Nat} {v : Nat} (h : GoneI n ad q R) (hv : v < n) (hn : v ∉ R) : R.length < n := by
  have := nodup_len (hs := v :: R) (n := n) (List.nodup_cons.2 ⟨hn, h.nd⟩) fun x hx => by
    rcases List.mem_cons.1 hx with h1 | h1
    · rw [h1]; exact hv
    · exact h.lt x h1
  rw [List.length_cons] at this
  omega

theorem GoneI.all {n : Nat} {ad : Nat → Nat → Bool} {q : Nat → Bool} {R : List Nat} (h : GoneI n ad q R) : lfW n R = 0 ↔ R.length = n := by
  constructor
  · intro h0
    refine Nat.le_antisymm h.short ?_
    refine all_len fun i hi => Classical.byContradiction fun hno => ?_
    have := lfW_bit.2 ⟨hi, hno⟩
    rw [h0] at this
    simp at this
  · intro hl
    refine word_ext fun j => ?_
    rw [lfW_bit]
    constructor
    · rintro ⟨h1, h2⟩
      have := h.shorter h1 h2
      omega
    · intro h1
      simp at h1

/-- of all -/
structure GoneL (n : Nat) (ad : Nat → Nat → Bool) (q : Nat → Bool) (R : List Nat) : Prop where
  gone : GoneI n ad q R
  stop : ∀ j, j < n → j ∉ R → q (neW n ad R j) = false

theorem szW_ne {n : Nat} {ad : Nat → Nat → Bool} {R : List Nat} {i : Nat} : szW (neW n ad R i) n = cntN n fun j => (lfW n R).testBit j && ad i j := by
  rw [szW_cnt]
  refine cntN_congr fun j hj => ?_
  rw [Bool.eq_iff_iff, neW_bit, Bool.and_eq_true, lfW_bit]
  constructor
  · rintro ⟨h1, h2, h3⟩; exact ⟨⟨h1, h2⟩, h3⟩
  · rintro ⟨⟨h1, h2⟩, h3⟩; exact ⟨h1, h2, h3⟩

theorem cntN_mono {p q : Nat → Bool} : ∀ {n : Nat}, (∀ i, i < n → p i = true → q i = true) → cntN n p ≤ cntN n q
  | 0, _ => Nat.le_refl _
  | n + 1, h => by
    have h1 := cntN_mono (n := n) fun i hi => h i (by omega)
    unfold cntN
    cases hp : p n with
    | false => simp; omega
    | true => rw [h n (by omega) hp]; omega

/-- PEELED -/
theorem GoneL.peel {n k : Nat} {ad : Nat → Nat → Bool} {R : List Nat} (h : GoneL n ad (fun W => decide (szW W n < k)) R) : PeelC n ad k (lfW n R) := by
  refine ⟨lfW_lt n R, fun i hi hb => ?_, fun T hT hc i hi => ?_⟩
  · have h1 := h.stop i hi (lfW_bit.1 hb).2
    rw [decide_eq_false_iff_not, szW_ne] at h1
    omega
  · have key : ∀ t, t ≤ R.length → ∀ j, T.testBit j = true → j ∉ R.take t := by
      intro t
      induction t with
      | zero => intro _ j _; simp
      | succ t ih =>
        intro ht j hj hm
        have ih := ih (by omega)
        have hg : R[t]? = some R[t] := List.getElem?_eq_getElem (by omega)
        rw [List.take_add_one, hg, Option.toList_some, List.mem_append, List.mem_singleton] at hm
        rcases hm with hm | hm
        · exact ih j hj hm
        · have h1 := h.gone.right t _ hg
          rw [← hm, decide_eq_true_eq, szW_ne] at h1
          have hjn : j < n := by
            refine Classical.byContradiction fun hge => ?_
            rw [Nat.testBit_lt_two_pow (Nat.lt_of_lt_of_le hT (Nat.pow_le_pow_right (by omega) (by omega)))] at hj
            cases hj
          have h2 := hc j hjn hj
          have h3 := cntN_mono (n := n) (p := fun i => T.testBit i && ad j i) (q := fun i => (lfW n (R.take t)).testBit i && ad j i) fun i hi hb => by
            rw [Bool.and_eq_true] at hb ⊢
            exact ⟨lfW_bit.2 ⟨hi, ih i hb.1⟩, hb.2⟩
          omega
    have hin : i < n := by
      refine Classical.byContradiction fun hge => ?_
      rw [Nat.testBit_lt_two_pow (Nat.lt_of_lt_of_le hT (Nat.pow_le_pow_right (by omega) (by omega)))] at hi
      cases hi
    have := key R.length (Nat.le_refl _) i hi
    rw [List.take_length] at this
    exact lfW_bit.2 ⟨hin, this⟩

/-- does any two of a word clash? -/
def clqN (n : Nat) (ad : Nat → Nat → Bool) (W : Nat) : Bool := (List.range n).all fun v => (List.range n).all fun j => !(W.testBit v && W.testBit j) || (v == j || ad v j)

theorem clqN_iff {n : Nat} {ad : Nat → Nat → Bool} {W : Nat} : clqN n ad W = true ↔ ClqW n ad W := by
  unfold clqN ClqW
  simp only [List.all_eq_true, List.mem_range, Bool.or_eq_true, Bool.not_eq_true', Bool.and_eq_false_iff, beq_iff_eq]
  constructor
  · intro h i j hi hj h1 h2 hne
    rcases h i hi j hj with h3 | h3 | h3
    · rcases h3 with h3 | h3
      · rw [h1] at h3; cases h3
      · rw [h2] at h3; cases h3
    · exact absurd h3 hne
    · exact h3
  · intro h i hi j hj
    by_cases he : i = j
    · exact .inr (.inl he)
    · cases h1 : W.testBit i with
      | false => exact .inl (.inl rfl)
      | true =>
        cases h2 : W.testBit j with
        | false => exact .inl (.inr rfl)
        | true => exact .inr (.inr (h i j hi hj h1 h2 he))

theorem clqN_sim {n : Nat} {ad : Nat → Nat → Bool} {R : List Nat} {i : Nat} (hi : i ∉ R) : clqN n ad (neW n ad R i) = simB n ad R i := by
  rw [Bool.eq_iff_iff, clqN_iff, simB_iff]
  constructor
  · exact fun h => ⟨hi, fun j j' hj hj' hd hd' ha ha' hne => h j j' hj hj' (neW_bit.2 ⟨hj, hd, ha⟩) (neW_bit.2 ⟨hj', hd', ha'⟩) hne⟩
  · intro h j j' hj hj' h1 h2 hne
    obtain ⟨_, h3, h4⟩ := neW_bit.1 h1
    obtain ⟨_, h5, h6⟩ := neW_bit.1 h2
    exact h.2 j j' hj hj' h3 h5 h4 h6 hne

theorem simB_done {n : Nat} {ad : Nat → Nat → Bool} {R : List Nat} {i : Nat} (hi : i ∈ R) : simB n ad R i = false := by unfold simB; simp [hi]

/-- THE PERFECT LIST -/
theorem GoneI.way {n : Nat} {ad : Nat → Nat → Bool} {R : List Nat} (h : GoneI n ad (clqN n ad) R) : ∀ t, t ≤ R.length → pfL n ad n [] = pfL n ad (n - t) (R.take t)
  | 0, _ => by simp
  | t + 1, ht => by
    rw [h.way t (by omega)]
    have hg : R[t]? = some R[t] := List.getElem?_eq_getElem (by omega)
    have hnd : R[t] ∉ R.take t := by
      intro hm
      have hsp : R = R.take t ++ R[t] :: R.drop (t + 1) := by
        rw [← drop_at hg, List.take_append_drop]
      have hnd := h.nd
      rw [hsp] at hnd
      exact (List.nodup_append.1 hnd).2.2 _ hm _ List.mem_cons_self rfl
    have hs : simL n ad (R.take t) = some R[t] := by
      refine simL_of (h.lt _ (List.getElem_mem _)) ?_ fun j hj => ?_
      · rw [← clqN_sim hnd]
        exact h.right t _ hg
      · by_cases hm : j ∈ R.take t
        · exact simB_done hm
        · rw [← clqN_sim hm]
          exact h.least t _ hg j hj hm
    have hl := h.short
    obtain ⟨m, hm⟩ : ∃ m, n - t = m + 1 := ⟨n - t - 1, by omega⟩
    have hm2 : n - (t + 1) = m := by omega
    rw [hm, hm2, pfL, hs, List.take_add_one, hg]
    rfl

theorem GoneL.perfect {n : Nat} {ad : Nat → Nat → Bool} {R : List Nat} (h : GoneL n ad (clqN n ad) R) : pfL n ad n [] = if lfW n R = 0 then some R else none := by
  rw [h.gone.way R.length (Nat.le_refl _), List.take_length]
  by_cases h0 : lfW n R = 0
  · rw [if_pos h0]
    have := h.gone.all.1 h0
    rw [show n - R.length = 0 by omega]
    rfl
  · rw [if_neg h0]
    have h1 : R.length ≠ n := fun e => h0 (h.gone.all.2 e)
    have h2 := h.gone.short
    obtain ⟨m, hm⟩ : ∃ m, n - R.length = m + 1 := ⟨n - R.length - 1, by omega⟩
    have hs : simL n ad R = none := simL_none fun j hj => by
      by_cases hd : j ∈ R
      · exact simB_done hd
      · rw [← clqN_sim hd]
        exact h.stop j hj hd
    rw [hm, pfL, hs]

/-! ### What colors are taken -/

/-- the colors of the things of a word, those below k looked at -/
structure TakN (W : Nat) (cs : List Int) (k s : Nat) : Prop where
  lt : s < 2 ^ 8
  bit : ∀ c, s.testBit c = true ↔ ∃ v, v < k ∧ W.testBit v = true ∧ cs[v]? = some (c : Int)

theorem TakN.zero (W : Nat) (cs : List Int) : TakN W cs 0 0 := ⟨by omega, fun c => ⟨fun h => by simp at h, fun ⟨v, h, _⟩ => by omega⟩⟩

theorem TakN.skip {W : Nat} {cs : List Int} {k s : Nat} (h : TakN W cs k s) (hn : W.testBit k = false ∨ cs[k]? = some (-1)) : TakN W cs (k + 1) s := by
  refine ⟨h.lt, fun c => ?_⟩
  rw [h.bit]
  constructor
  · rintro ⟨v, h1, h2, h3⟩
    exact ⟨v, by omega, h2, h3⟩
  · rintro ⟨v, h1, h2, h3⟩
    rcases Nat.lt_or_ge v k with h4 | h4
    · exact ⟨v, h4, h2, h3⟩
    · have : v = k := by omega
      subst this
      rcases hn with hn | hn
      · rw [hn] at h2; cases h2
      · rw [hn] at h3
        injection h3 with h3
        omega

theorem TakN.put {W : Nat} {cs : List Int} {k s c : Nat} (h : TakN W cs k s) (hW : W.testBit k = true) (hc : cs[k]? = some (c : Int)) (hc8 : c < 8) : TakN W cs (k + 1) (s ||| 2 ^ c) := by
  refine ⟨Nat.or_lt_two_pow h.lt (Nat.pow_lt_pow_right (by omega) hc8), fun d => ?_⟩
  rw [Nat.testBit_or, Bool.or_eq_true, h.bit, Nat.testBit_two_pow, decide_eq_true_eq]
  constructor
  · rintro (⟨v, h1, h2, h3⟩ | rfl)
    · exact ⟨v, by omega, h2, h3⟩
    · exact ⟨k, by omega, hW, hc⟩
  · rintro ⟨v, h1, h2, h3⟩
    rcases Nat.lt_or_ge v k with h4 | h4
    · exact .inl ⟨v, h4, h2, h3⟩
    · have : v = k := by omega
      subst this
      rw [hc] at h3
      injection h3 with h3
      exact .inr (by omega)

/-- is a color free? -/
theorem TakN.ok {ad : Nat → Nat → Bool} (hg : Gr ad) {l : List Nat} {W s : Nat} (hW : ∀ j, W.testBit j = ad l.length j) (h : TakN W (l.map fun x : Nat => (x : Int)) l.length s) (c : Nat) : s.testBit c = !okC ad l c := by
  rw [Bool.eq_iff_iff, h.bit, Bool.not_eq_true', ← Bool.not_eq_true, okC_iff]
  constructor
  · rintro ⟨v, h1, h2, h3⟩ hno
    rw [hW] at h2
    rw [List.getElem?_map, cof_get h1] at h3
    simp at h3
    exact hno v h1 (hg.symm _ _ h2) (by omega)
  · intro hno
    refine Classical.byContradiction fun hn => hno fun j hj ha he => hn ⟨j, hj, ?_, ?_⟩
    · rw [hW]; exact hg.symm _ _ ha
    · rw [List.getElem?_map, cof_get hj, he]; rfl

/-- with as many colors as things there is a coloring -/
theorem colG_self {n : Nat} {ad : Nat → Nat → Bool} (hg : Gr ad) {k : Nat} (h : colG ad k n [] = none) : k < n := by
  refine Classical.byContradiction fun hge => ?_
  have hk : Kol n ad k (cof (List.range n)) := by
    have e : ∀ i, i < n → cof (List.range n) i = i := fun i hi => cof_at (by simp [hi])
    refine ⟨fun i hi => ?_, fun i j hi hj ha => ?_⟩
    · have hi : i < n := hi
      rw [e i hi]; omega
    · have hi : i < n := hi
      have hj : j < n := hj
      rw [e i hi, e j hj]
      exact hg.ne ha
  exact colG_none hg (kol_nil k) h _ (Ons.of (n := n) (by simp) hk)

theorem colG_none0 {n : Nat} {ad : Nat → Nat → Bool} (h : 1 ≤ n) : colG ad 0 n [] = none := by
  obtain ⟨m, rfl⟩ : ∃ m, n = m + 1 := ⟨n - 1, by omega⟩
  rfl

theorem colG_len {ad : Nat → Nat → Bool} : ∀ {k m : Nat} {l r : List Nat}, colG ad k m l = some r → r.length = l.length + m
  | k, 0, l, r, h => by injection h with h; rw [h]; rfl
  | k, m + 1, l, r, h => by
    obtain ⟨c, _, _, hf, _⟩ := tryC_some h
    have hf : (if okC ad l c then colG ad k m (l ++ [c]) else none) = some r := hf
    split at hf
    · have := colG_len hf
      rw [List.length_append, List.length_singleton] at this
      omega
    · cases hf

end Go.Proofs.YthmcigdoaededaaDoor
