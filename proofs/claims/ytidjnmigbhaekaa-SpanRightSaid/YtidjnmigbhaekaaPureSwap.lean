/-
  Plain mathematics of moves at once (N1): each register's From, moves one by one, cycles and how many there are, and how a list of moves comes to be.
-/
import Derived.Test.YtidjnmigbhaekaaMPure
namespace Go.Proofs.Ytidjnmigbhaekaa
set_option linter.unusedSimpArgs false
set_option linter.unusedVariables false

/-! ### How many of the first numbers -/

def cntN : Nat → (Nat → Bool) → Nat
  | 0, _ => 0
  | n + 1, p => cntN n p + (if p n then 1 else 0)

theorem cntN_congr {p q : Nat → Bool} : ∀ {n : Nat}, (∀ i, i < n → p i = q i) → cntN n p = cntN n q
  | 0, _ => rfl
  | n + 1, h => by
    unfold cntN
    rw [cntN_congr (n := n) fun i hi => h i (by omega), h n (by omega)]

theorem cntN_one {p q : Nat → Bool} {m : Nat} : ∀ {n : Nat}, m < n → p m = true → q m = false → (∀ i, i < n → i ≠ m → p i = q i) → cntN n p = cntN n q + 1
  | 0, hm, _, _, _ => by omega
  | n + 1, hm, hp, hq, h => by
    unfold cntN
    by_cases he : m = n
    · subst he
      rw [cntN_congr (n := m) fun i hi => h i (by omega) (by omega), hp, hq]
      simp
    · rw [cntN_one (n := n) (by omega) hp hq fun i hi hne => h i (by omega) hne, h n (by omega) (by omega)]
      omega

theorem cntN_none {p : Nat → Bool} : ∀ {n : Nat}, (∀ i, i < n → p i = false) → cntN n p = 0
  | 0, _ => rfl
  | n + 1, h => by
    unfold cntN
    rw [cntN_none (n := n) fun i hi => h i (by omega), h n (by omega)]
    rfl

theorem cntN_le (p : Nat → Bool) : ∀ n, cntN n p ≤ n
  | 0 => Nat.le_refl _
  | n + 1 => by
    have := cntN_le p n
    unfold cntN
    split <;> omega

theorem beq_no {a b : Nat} (h : a ≠ b) : (a == b) = false := by simp [h]

theorem bne_yes {a b : Nat} (h : a ≠ b) : (a != b) = true := by simp [h]

/-! ### Step by step -/

def itF (F : Nat → Nat) : Nat → Nat → Nat
  | 0, x => x
  | k + 1, x => F (itF F k x)

section
variable {F G : Nat → Nat} {n : Nat}

theorem itF_add (a b x : Nat) : itF F (a + b) x = itF F a (itF F b x) := by
  induction a with
  | zero => simp [itF]
  | succ a ih =>
    have e : a + 1 + b = (a + b) + 1 := by omega
    rw [e]
    show F (itF F (a + b) x) = F (itF F a (itF F b x))
    rw [ih]

theorem itF_mul {p y : Nat} (h : itF F p y = y) : ∀ m, itF F (m * p) y = y
  | 0 => by simp [itF]
  | m + 1 => by rw [Nat.add_mul, Nat.one_mul, itF_add, h, itF_mul h m]

theorem itF_mod {p y : Nat} (h : itF F p y = y) (j : Nat) : itF F j y = itF F (j % p) y := by
  have e : j = j % p + j / p * p := by
    have := Nat.mod_add_div j p
    rw [Nat.mul_comm]
    omega
  have e2 : itF F (j % p + j / p * p) y = itF F (j % p) y := by rw [itF_add, itF_mul h]
  rw [← e] at e2
  exact e2

theorem itF_fix {z : Nat} (h : F z = z) : ∀ j, itF F j z = z
  | 0 => rfl
  | j + 1 => by
    show F (itF F j z) = z
    rw [itF_fix h j, h]

theorem itF_rep (y : Nat) (hlt : ∀ j, itF F j y < n) : ∃ i j, i < j ∧ j ≤ n ∧ itF F i y = itF F j y := by
  refine Classical.byContradiction fun hno => ?_
  have hnd : ((List.range (n + 1)).map fun j => itF F j y).Nodup := by
    unfold List.Nodup
    rw [List.pairwise_map]
    refine List.pairwise_lt_range.imp_of_mem fun {a b} ha hb hab he => hno ⟨a, b, hab, ?_, he⟩
    have := List.mem_range.1 hb
    omega
  have := nodup_len (n := n) hnd fun x hx => by
    obtain ⟨j, _, rfl⟩ := List.mem_map.1 hx
    exact hlt j
  simp at this
  omega

/-- comes back to y from each place -/
theorem itF_home {p y : Nat} (hp : 0 < p) (h : itF F p y = y) (i : Nat) : itF F (i * p - i) (itF F i y) = y := by
  rw [← itF_add]
  have h1 : i ≤ i * p := Nat.le_mul_of_pos_right _ hp
  rw [Nat.sub_add_cancel h1]
  exact itF_mul h i

theorem per_le {y k : Nat} (hlt : ∀ j, itF F j y < n) (hb : itF F (k + 1) y = y) : ∃ p, p < n ∧ itF F (p + 1) y = y := by
  obtain ⟨i, j, hij, hjn, he⟩ := itF_rep y hlt
  refine ⟨j - i - 1, by omega, ?_⟩
  have h1 := itF_home (by omega) hb i
  rw [he, ← itF_add] at h1
  have h2 : i ≤ i * (k + 1) := Nat.le_mul_of_pos_right _ (by omega)
  have e : i * (k + 1) - i + j = (j - i) + i * (k + 1) := by omega
  rw [e, itF_add, itF_mul hb] at h1
  have e2 : j - i - 1 + 1 = j - i := by omega
  rw [e2]
  exact h1

/-! ### Who uses a register -/

def usF (n : Nat) (F : Nat → Nat) (z : Nat) : Nat := cntN n fun s => F s == z

theorem us_one {z s : Nat} (hs : s < n) (h : F s = z) (hu : ∀ t, t < n → F t = z → t = s) : usF n F z = 1 := by
  unfold usF
  rw [cntN_one (q := fun _ => false) (m := s) hs (by simp [h]) rfl fun i hi hne => by
      have : F i ≠ z := fun he => hne (hu i hi he)
      simp [this], cntN_none fun _ _ => rfl]

theorem us_uniq {z a b : Nat} (h : usF n F z = 1) (ha : a < n) (hb : b < n) (hfa : F a = z) (hfb : F b = z) : a = b := by
  refine Classical.byContradiction fun hne => ?_
  unfold usF at h
  rw [cntN_one (q := fun s => (F s == z) && (s != a)) (m := a) ha (by simp [hfa]) (by simp) fun i hi hn => by simp [hn],
    cntN_one (q := fun s => (F s == z) && (s != a) && (s != b)) (m := b) hb (by simp [hfb]; omega) (by simp) fun i hi hn => by simp [hn]] at h
  omega

/-! ### Cycles -/

structure Circ (n : Nat) (F : Nat → Nat) (y : Nat) : Prop where
  ne : F y ≠ y
  back : ∃ k, itF F (k + 1) y = y
  lt : ∀ j, itF F j y < n
  least : ∀ j, y ≤ itF F j y
  one : ∀ j, usF n F (itF F j y) = 1

def circB (n : Nat) (F : Nat → Nat) (y : Nat) : Bool :=
  decide (F y ≠ y) && (List.range n).any (fun k => itF F (k + 1) y == y) && (List.range (n + 1)).all fun j => decide (itF F j y < n ∧ y ≤ itF F j y ∧ usF n F (itF F j y) = 1)

theorem circB_iff {y : Nat} : circB n F y = true ↔ Circ n F y := by
  unfold circB
  rw [Bool.and_eq_true, Bool.and_eq_true, List.any_eq_true, List.all_eq_true, decide_eq_true_eq]
  constructor
  · rintro ⟨⟨h1, k, hk, h2⟩, h3⟩
    have hk := List.mem_range.1 hk
    have h2 : itF F (k + 1) y = y := by simpa using h2
    have h4 : ∀ j, itF F j y < n ∧ y ≤ itF F j y ∧ usF n F (itF F j y) = 1 := fun j => by
      rw [itF_mod h2 j]
      have hm : j % (k + 1) < k + 1 := Nat.mod_lt _ (by omega)
      simpa using h3 (j % (k + 1)) (List.mem_range.2 (by omega))
    exact ⟨h1, ⟨k, h2⟩, fun j => (h4 j).1, fun j => (h4 j).2.1, fun j => (h4 j).2.2⟩
  · rintro ⟨h1, ⟨k, h2⟩, h3, h4, h5⟩
    obtain ⟨p, hp, hpy⟩ := per_le h3 h2
    exact ⟨⟨h1, p, List.mem_range.2 hp, by simpa using hpy⟩, fun j _ => by simp [h3 j, h4 j, h5 j]⟩

/-- how many cycles -/
def nCirc (n : Nat) (F : Nat → Nat) : Nat := cntN n (circB n F)

/-- how many registers get another one's -/
def nWait (n : Nat) (F : Nat → Nat) : Nat := cntN n fun k => F k != k

theorem Circ.img {y : Nat} (h : Circ n F y) (j : Nat) : ∃ i, F (itF F i y) = itF F j y := by
  cases j with
  | zero =>
    obtain ⟨k, hk⟩ := h.back
    exact ⟨k, hk⟩
  | succ j => exact ⟨j, rfl⟩

theorem Circ.noFix {y z : Nat} (h : Circ n F y) (hz : F z = z) (j : Nat) : itF F j y ≠ z := fun he => by
  obtain ⟨k, hk⟩ := h.back
  have h1 := itF_home (by omega) hk j
  rw [he, itF_fix hz] at h1
  rw [h1] at hz
  exact h.ne hz

theorem circ_same {y : Nat} (B : Nat → Prop) (h : ∀ s, G s = F s ∨ (B (F s) ∧ B (G s))) (hO : ∀ j, ¬ B (itF F j y)) (hc : Circ n F y) : Circ n G y ∧ ∀ j, itF G j y = itF F j y := by
  have h1 : ∀ j, itF G j y = itF F j y := fun j => by
    induction j with
    | zero => rfl
    | succ j ih =>
      show G (itF G j y) = F (itF F j y)
      rw [ih]
      rcases h (itF F j y) with h2 | ⟨h2, _⟩
      · exact h2
      · exact absurd h2 (hO (j + 1))
  refine ⟨⟨?_, ?_, fun j => ?_, fun j => ?_, fun j => ?_⟩, h1⟩
  · have := h1 1
    have h2 : G y = F y := this
    rw [h2]
    exact hc.ne
  · obtain ⟨k, hk⟩ := hc.back
    exact ⟨k, by rw [h1]; exact hk⟩
  · rw [h1]; exact hc.lt j
  · rw [h1]; exact hc.least j
  · rw [h1, ← hc.one j]
    unfold usF
    refine cntN_congr fun s _ => ?_
    rcases h s with h2 | ⟨h2, h3⟩
    · rw [h2]
    · have e1 : F s ≠ itF F j y := fun e => hO j (by rw [← e]; exact h2)
      have e2 : G s ≠ itF F j y := fun e => hO j (by rw [← e]; exact h3)
      rw [beq_no e1, beq_no e2]

/-! ### What waits takes it from elsewhere -/

structure StF (n : Nat) (F : Nat → Nat) : Prop where
  out : ∀ k, n ≤ k → F k = k
  le : ∀ k, k < n → F k ≤ n

def redF (F : Nat → Nat) (r c : Nat) (k : Nat) : Nat := if F k = r ∧ k ≠ r then c else F k

theorem StF.red (h : StF n F) {r c : Nat} (hc : c ≤ n) : StF n (redF F r c) := by
  refine ⟨fun k hk => ?_, fun k hk => ?_⟩
  · have := h.out k hk
    unfold redF
    rw [if_neg (by omega)]
    exact this
  · have := h.le k hk
    unfold redF
    split <;> omega

/-- x may be written over -/
structure Over (n : Nat) (F : Nat → Nat) (x : Nat) : Prop where
  lt : x < n
  ne : F x ≠ x
  no : ∀ s, s < n → F s ≠ x

theorem Over.all {x : Nat} (h : Over n F x) (hs : StF n F) (s : Nat) : F s ≠ x := by
  rcases Nat.lt_or_ge s n with h1 | h1
  · exact h.no s h1
  · have := hs.out s h1
    have := h.lt
    omega

theorem red_or (r c s : Nat) (B : Nat → Prop) (hr : B r) (hc : B c) : redF F r c s = F s ∨ (B (F s) ∧ B (redF F r c s)) := by
  unfold redF
  split
  · rename_i h
    rw [h.1]
    exact .inr ⟨hr, hc⟩
  · exact .inl rfl

theorem red_or' (r c s : Nat) (B : Nat → Prop) (hr : B r) (hc : B c) : F s = redF F r c s ∨ (B (redF F r c s) ∧ B (F s)) := by
  rcases red_or (F := F) r c s B hr hc with h | ⟨h, h2⟩
  · exact .inl h.symm
  · exact .inr ⟨h2, h⟩

theorem Over.circ {x : Nat} (h : Over n F x) (hs : StF n F) (y : Nat) : Circ n (redF F (F x) x) y ↔ Circ n F y := by
  have hne := h.ne
  have hall := h.all hs
  have hfx : redF F (F x) x x = x := by unfold redF; rw [if_pos ⟨rfl, fun e => hne e.symm⟩]
  constructor
  · intro hc
    refine (circ_same (F := redF F (F x) x) (fun z => z = x ∨ z = F x) (fun s => red_or' _ _ s (fun z => z = x ∨ z = F x) (Or.inr rfl) (Or.inl rfl)) (fun j hb => ?_) hc).1
    rcases hb with hb | hb
    · exact hc.noFix hfx j hb
    · obtain ⟨i, hi⟩ := hc.img j
      rw [hb] at hi
      have h2 : itF (redF F (F x) x) i y = F x := by
        unfold redF at hi
        split at hi
        · exact absurd hi.symm hne
        · rename_i h3
          refine Classical.byContradiction fun h4 => h3 ⟨hi, h4⟩
      rw [h2] at hi
      exact hc.noFix hi j hb
  · intro hc
    have hx : ∀ j, itF F j y ≠ x := fun j he => by
      obtain ⟨i, hi⟩ := hc.img j
      exact hall _ (hi.trans he)
    refine (circ_same (G := redF F (F x) x) (fun z => z = x ∨ z = F x) (fun s => red_or _ _ s (fun z => z = x ∨ z = F x) (Or.inr rfl) (Or.inl rfl)) (fun j hb => ?_) hc).1
    rcases hb with hb | hb
    · exact hx j hb
    · obtain ⟨i, hi⟩ := hc.img j
      exact hx i (us_uniq (hc.one j) (hc.lt i) h.lt hi hb.symm)

theorem Over.nCirc {x : Nat} (h : Over n F x) (hs : StF n F) : nCirc n (redF F (F x) x) = nCirc n F := by
  unfold Proofs.Ytidjnmigbhaekaa.nCirc
  refine cntN_congr fun y _ => ?_
  rw [Bool.eq_iff_iff, circB_iff, circB_iff]
  exact h.circ hs y

theorem Over.nWait {x : Nat} (h : Over n F x) : nWait n F = nWait n (redF F (F x) x) + 1 := by
  unfold Proofs.Ytidjnmigbhaekaa.nWait
  have hne := h.ne
  refine cntN_one (m := x) h.lt (by simp [hne]) ?_ fun i hi hx => ?_
  · unfold redF
    rw [if_pos ⟨rfl, fun e => hne e.symm⟩]
    simp
  · unfold redF
    split
    · rename_i h2
      have e1 : F i ≠ i := fun e => h2.2 (by rw [← h2.1, e])
      have e2 : x ≠ i := fun e => hx e.symm
      rw [bne_yes e1, bne_yes e2]
    · rfl

/-! ### Where nothing may be written over, there are only cycles -/

theorem cover : ∀ {n : Nat} {l : List Nat}, (∀ y, y < n → y ∈ l) → l.length ≤ n → l.Nodup ∧ ∀ x ∈ l, x < n
  | 0, l, _, hl => by
    have : l = [] := List.eq_nil_of_length_eq_zero (by omega)
    subst this
    simp
  | n + 1, l, h, hl => by
    have hn := h n (by omega)
    have h1 := List.length_erase_of_mem hn
    obtain ⟨h2, h3⟩ := cover (n := n) (l := l.erase n) (fun y hy => (List.mem_erase_of_ne (by omega)).2 (h y (by omega))) (by omega)
    have hp := List.perm_cons_erase hn
    refine ⟨hp.nodup_iff.2 (List.nodup_cons.2 ⟨fun hm => ?_, h2⟩), fun x hx => ?_⟩
    · have := h3 n hm
      omega
    · rcases List.mem_cons.1 (hp.mem_iff.1 hx) with rfl | h4
      · omega
      · have := h3 x h4
        omega

structure PermR (n : Nat) (F : Nat → Nat) : Prop where
  lt : ∀ r, r < n → F r < n
  inj : ∀ a b, a < n → b < n → F a = F b → a = b
  onto : ∀ y, y < n → ∃ s, s < n ∧ F s = y

theorem PermR.of_onto (h : ∀ y, y < n → ∃ s, s < n ∧ F s = y) : PermR n F := by
  obtain ⟨h1, h2⟩ := cover (n := n) (l := (List.range n).map F) (fun y hy => by
    obtain ⟨s, hs, rfl⟩ := h y hy
    exact List.mem_map.2 ⟨s, List.mem_range.2 hs, rfl⟩) (by simp)
  refine ⟨fun r hr => h2 _ (List.mem_map.2 ⟨r, List.mem_range.2 hr, rfl⟩), fun a b ha hb he => ?_, h⟩
  unfold List.Nodup at h1
  rw [List.pairwise_map, List.pairwise_iff_getElem] at h1
  rcases Nat.lt_trichotomy a b with h3 | h3 | h3
  · have := h1 a b (by simpa using ha) (by simpa using hb) h3
    simp at this
    exact absurd he this
  · exact h3
  · have := h1 b a (by simpa using hb) (by simpa using ha) h3
    simp at this
    exact absurd he.symm this

theorem PermR.one (h : PermR n F) {y : Nat} (hy : y < n) : usF n F y = 1 := by
  obtain ⟨s, hs, he⟩ := h.onto y hy
  exact us_one hs he fun t ht h2 => h.inj t s ht hs (h2.trans he.symm)

theorem PermR.it (h : PermR n F) {y : Nat} (hy : y < n) : ∀ j, itF F j y < n
  | 0 => hy
  | j + 1 => h.lt _ (h.it hy j)

theorem PermR.cancel (h : PermR n F) {a b : Nat} (ha : a < n) (hb : b < n) : ∀ i, itF F i a = itF F i b → a = b
  | 0, he => he
  | i + 1, he => h.cancel ha hb i (h.inj _ _ (h.it ha i) (h.it hb i) he)

theorem PermR.per (h : PermR n F) {y : Nat} (hy : y < n) : ∃ k, itF F (k + 1) y = y := by
  obtain ⟨i, j, hij, hjn, he⟩ := itF_rep y (h.it hy)
  refine ⟨j - i - 1, ?_⟩
  have e : j = i + (j - i) := by omega
  rw [e, itF_add] at he
  have e2 : j - i - 1 + 1 = j - i := by omega
  rw [e2]
  exact (h.cancel hy (h.it hy _) i he).symm

theorem argmin (f : Nat → Nat) : ∃ i, ∀ j, f i ≤ f j := by
  have h : ∀ v i, f i ≤ v → ∃ i, ∀ j, f i ≤ f j := by
    intro v
    induction v with
    | zero => exact fun i hi => ⟨i, fun j => by omega⟩
    | succ v ih =>
      intro i hi
      by_cases h : ∃ j, f j ≤ v
      · obtain ⟨j, hj⟩ := h
        exact ih j hj
      · exact ⟨i, fun j => by
          have : ¬ f j ≤ v := fun e => h ⟨j, e⟩
          omega⟩
  exact h (f 0) 0 (Nat.le_refl _)

theorem PermR.circ (h : PermR n F) {c : Nat} (hc : c < n) (hne : F c ≠ c) : ∃ m i, Circ n F m ∧ itF F i m = c ∧ ∀ y j, Circ n F y → itF F j y = c → y = m := by
  obtain ⟨k, hk⟩ := h.per hc
  obtain ⟨i0, hi0⟩ := argmin fun j => itF F j c
  have hhome := itF_home (by omega) hk i0
  have hper : itF F (k + 1) (itF F i0 c) = itF F i0 c := by rw [← itF_add, Nat.add_comm, itF_add, hk]
  have hmc : Circ n F (itF F i0 c) := by
    refine ⟨fun he => ?_, ⟨k, hper⟩, fun j => ?_, fun j => ?_, fun j => ?_⟩
    · rw [itF_fix he] at hhome
      rw [hhome] at he
      exact hne he
    · rw [← itF_add]; exact h.it hc _
    · rw [← itF_add]; exact hi0 _
    · rw [← itF_add]; exact h.one (h.it hc _)
  refine ⟨itF F i0 c, _, hmc, hhome, fun y j hy hj => ?_⟩
  have h1 : y ≤ itF F i0 c := by
    rw [← hj, ← itF_add]
    exact hy.least _
  obtain ⟨q, hq⟩ := hy.back
  have h2 := itF_home (by omega) hq j
  rw [hj] at h2
  have h3 : itF F i0 c ≤ y := by
    rw [← h2]
    exact hi0 _
  omega

/-- all that is left are cycles -/
structure Stuck (n : Nat) (F : Nat → Nat) (c : Nat) : Prop where
  lt : c < n
  ne : F c ≠ c
  used : ∀ x, x < n → F x ≠ x → ∃ s, s < n ∧ F s = x

theorem Stuck.perm {c : Nat} (h : Stuck n F c) : PermR n F := PermR.of_onto fun y hy => by
  by_cases he : F y = y
  · exact ⟨y, hy, he⟩
  · exact h.used y hy he

theorem Stuck.nCirc {c : Nat} (h : Stuck n F c) : nCirc n F = nCirc n (redF F c n) + 1 := by
  have hp := h.perm
  have hlt := h.lt
  have hne := h.ne
  obtain ⟨m, i, hm, hi, hu⟩ := hp.circ h.lt h.ne
  have hto : ∀ y, Circ n (redF F c n) y → Circ n F y ∧ y ≠ m := fun y hc => by
    have hno : ∀ j, itF (redF F c n) j y ≠ c := fun j he => by
      obtain ⟨s, hs⟩ := hc.img j
      rw [he] at hs
      unfold redF at hs
      split at hs
      · omega
      · rename_i h2
        have h3 : itF (redF F c n) s y = c := Classical.byContradiction fun h4 => h2 ⟨hs, h4⟩
        have h5 : F c = c := by
          have := hs
          unfold redF at h3
          rw [h3] at this
          exact this
        exact hne h5
    obtain ⟨h1, h2⟩ := circ_same (F := redF F c n) (G := F) (fun z => z = c ∨ z = n) (fun s => red_or' _ _ s (fun z => z = c ∨ z = n) (Or.inl rfl) (Or.inr rfl)) (fun j hb => by
      rcases hb with hb | hb
      · exact hno j hb
      · have := hc.lt j
        omega) hc
    refine ⟨h1, fun he => ?_⟩
    subst he
    exact hno i (by rw [← h2]; exact hi)
  have hfrom : ∀ y, Circ n F y → y ≠ m → Circ n (redF F c n) y := fun y hc hy => by
    refine (circ_same (G := redF F c n) (fun z => z = c ∨ z = n) (fun s => red_or _ _ s (fun z => z = c ∨ z = n) (Or.inl rfl) (Or.inr rfl)) (fun j hb => ?_) hc).1
    rcases hb with hb | hb
    · exact hy (hu y j hc hb)
    · have := hc.lt j
      omega
  unfold Proofs.Ytidjnmigbhaekaa.nCirc
  refine cntN_one (m := m) (hm.lt 0) (circB_iff.2 hm) ?_ fun y _ hy => ?_
  · rw [Bool.eq_false_iff]
    exact fun h2 => (hto m (circB_iff.1 h2)).2 rfl
  · rw [Bool.eq_iff_iff, circB_iff, circB_iff]
    exact ⟨fun h2 => hfrom y h2 hy, fun h2 => (hto y h2).1⟩

theorem Stuck.nWait {c : Nat} (h : Stuck n F c) : nWait n (redF F c n) = nWait n F := by
  unfold Proofs.Ytidjnmigbhaekaa.nWait
  refine cntN_congr fun k hk => ?_
  unfold redF
  split
  · rename_i h2
    have e1 : F k ≠ k := fun e => h2.2 (by rw [← h2.1, e])
    have e2 : n ≠ k := by omega
    rw [bne_yes e1, bne_yes e2]
  · rfl

/-! ### Moves one by one -/

def rnM : List (Nat × Nat) → (Nat → Nat) → Nat → Nat
  | [], v => v
  | m :: o, v => rnM o fun r => if r = m.1 then v m.2 else v r

theorem rnM_append : ∀ (o q : List (Nat × Nat)) (v : Nat → Nat), rnM (o ++ q) v = rnM q (rnM o v)
  | [], _, _ => rfl
  | m :: o, q, v => rnM_append o q _

theorem rnM_snoc (o : List (Nat × Nat)) (x y : Nat) (v : Nat → Nat) : rnM (o ++ [(x, y)]) v = fun r => if r = x then rnM o v y else rnM o v r := by
  rw [rnM_append]
  rfl

/-- how many moves lead to the register n -/
def toN (n : Nat) (o : List (Nat × Nat)) : Nat := (o.filter fun m => m.1 == n).length

structure OdI (n : Nat) (F0 F : Nat → Nat) (o : List (Nat × Nat)) : Prop where
  st : StF n F
  ins : ∀ m ∈ o, m.1 ≤ n ∧ m.2 ≤ n
  run : ∀ (v : Nat → Nat) r, r < n → rnM o v (F r) = v (F0 r)
  len : o.length + nWait n F + nCirc n F = nWait n F0 + nCirc n F0
  tmp : toN n o + nCirc n F = nCirc n F0

theorem OdI.zero (h : StF n F) : OdI n F F [] := ⟨h, fun _ h => by simp at h, fun _ _ _ => rfl, by simp, by simp [toN]⟩

theorem OdI.one {F0 : Nat → Nat} {o : List (Nat × Nat)} {x : Nat} (h : OdI n F0 F o) (hx : Over n F x) : OdI n F0 (redF F (F x) x) (o ++ [(x, F x)]) := by
  have h1 := hx.nCirc h.st
  have h2 := hx.nWait
  have h3 := hx.lt
  have h4 := h.len
  have h5 := h.tmp
  refine ⟨h.st.red (by omega), fun m hm => ?_, fun v r hr => ?_, ?_, ?_⟩
  · rcases List.mem_append.1 hm with h6 | h6
    · exact h.ins m h6
    · simp at h6
      subst h6
      exact ⟨by omega, h.st.le x h3⟩
  · rw [rnM_snoc]
    unfold redF
    by_cases hc : F r = F x ∧ r ≠ F x
    · rw [if_pos hc]
      simp only [if_true]
      rw [← hc.1]
      exact h.run v r hr
    · rw [if_neg hc]
      simp only
      rw [if_neg (hx.no r hr)]
      exact h.run v r hr
  · rw [List.length_append, List.length_singleton]
    omega
  · have e : toN n (o ++ [(x, F x)]) = toN n o := by
      unfold toN
      rw [List.filter_append]
      have : (x == n) = false := by simp; omega
      simp [this]
    omega

theorem OdI.two {F0 : Nat → Nat} {o : List (Nat × Nat)} {c : Nat} (h : OdI n F0 F o) (hc : Stuck n F c) : OdI n F0 (redF F c n) (o ++ [(n, c)]) := by
  have h1 := hc.nCirc
  have h2 := hc.nWait
  have h3 := hc.lt
  have h4 := h.len
  have h5 := h.tmp
  refine ⟨h.st.red (by omega), fun m hm => ?_, fun v r hr => ?_, ?_, ?_⟩
  · rcases List.mem_append.1 hm with h6 | h6
    · exact h.ins m h6
    · simp at h6
      subst h6
      exact ⟨by omega, by simp; omega⟩
  · rw [rnM_snoc]
    unfold redF
    by_cases he : F r = c ∧ r ≠ c
    · rw [if_pos he]
      simp only [if_true]
      rw [← he.1]
      exact h.run v r hr
    · rw [if_neg he]
      simp only
      rw [if_neg (by have := hc.perm.lt r hr; omega)]
      exact h.run v r hr
  · rw [List.length_append, List.length_singleton]
    omega
  · have e : toN n (o ++ [(n, c)]) = toN n o + 1 := by
      unfold toN
      rw [List.filter_append]
      simp
    omega

/-- what Order tells -/
structure Ordd (n : Nat) (F : Nat → Nat) (o : List (Nat × Nat)) : Prop where
  ins : ∀ m ∈ o, m.1 ≤ n ∧ m.2 ≤ n
  run : ∀ (v : Nat → Nat) r, r < n → rnM o v r = v (F r)
  len : o.length = nWait n F + nCirc n F
  tmp : toN n o = nCirc n F

theorem OdI.done {F0 : Nat → Nat} {o : List (Nat × Nat)} (h : OdI n F0 F o) (hd : ∀ k, k < n → F k = k) : Ordd n F0 o := by
  have h1 : Proofs.Ytidjnmigbhaekaa.nWait n F = 0 := cntN_none fun i hi => by simp [hd i hi]
  have h2 : Proofs.Ytidjnmigbhaekaa.nCirc n F = 0 := cntN_none fun i hi => by
    rw [Bool.eq_false_iff]
    exact fun he => (circB_iff.1 he).ne (hd i hi)
  have h4 := h.len
  have h5 := h.tmp
  refine ⟨h.ins, fun v r hr => ?_, by omega, by omega⟩
  have := h.run v r hr
  rw [hd r hr] at this
  exact this

end

/-! ### The moves -/

def nvF (l : List (Nat × Nat)) (r : Nat) : Nat := match l with
  | [] => r
  | m :: l => if m.1 = r then m.2 else nvF l r

theorem nvF_cons (m : Nat × Nat) (l : List (Nat × Nat)) (r : Nat) : nvF (m :: l) r = if m.1 = r then m.2 else nvF l r := rfl

structure MvOk (n : Nat) (l : List (Nat × Nat)) : Prop where
  pos : 1 ≤ n
  small : n ≤ 8
  short : l.length ≤ 8
  ins : ∀ m ∈ l, m.1 < n ∧ m.2 < n
  nd : (l.map Prod.fst).Nodup

theorem nvF_out : ∀ {l : List (Nat × Nat)} {r : Nat}, r ∉ l.map Prod.fst → nvF l r = r
  | [], _, _ => rfl
  | m :: l, r, h => by
    simp only [List.map_cons, List.mem_cons, not_or] at h
    unfold nvF
    rw [if_neg fun e => h.1 e.symm]
    exact nvF_out h.2

theorem nvF_in : ∀ {l : List (Nat × Nat)} {r : Nat}, r ∈ l.map Prod.fst → (r, nvF l r) ∈ l
  | [], _, h => by simp at h
  | m :: l, r, h => by
    unfold nvF
    split
    · rename_i h2
      subst h2
      simp
    · rename_i h2
      simp only [List.map_cons, List.mem_cons] at h
      rcases h with h | h
      · exact absurd h.symm h2
      · exact List.mem_cons_of_mem _ (nvF_in h)

theorem nvF_lt {n : Nat} {l : List (Nat × Nat)} (h : ∀ m ∈ l, m.1 < n ∧ m.2 < n) {r : Nat} (hr : r < n) : nvF l r < n := by
  by_cases hm : r ∈ l.map Prod.fst
  · exact (h _ (nvF_in hm)).2
  · rw [nvF_out hm]; exact hr

theorem nvF_st {n : Nat} {l : List (Nat × Nat)} (h : ∀ m ∈ l, m.1 < n ∧ m.2 < n) : StF n (nvF l) := by
  refine ⟨fun k hk => nvF_out fun hm => ?_, fun k hk => Nat.le_of_lt (nvF_lt h hk)⟩
  have := (h _ (nvF_in hm)).1
  simp at this
  omega

/-- as many registers get another one's as there are moves from one to another -/
theorem nWait_nv {n : Nat} : ∀ {l : List (Nat × Nat)}, (∀ m ∈ l, m.1 < n ∧ m.2 < n) → (l.map Prod.fst).Nodup → nWait n (nvF l) = (l.filter fun m => m.1 != m.2).length
  | [], _, _ => cntN_none fun i _ => by simp [nvF]
  | m :: l, hi, hd => by
    rw [List.map_cons, List.nodup_cons] at hd
    have ih := nWait_nv (l := l) (fun x hx => hi x (List.mem_cons_of_mem _ hx)) hd.2
    have hm := hi m (List.mem_cons_self ..)
    have ho := nvF_out hd.1
    rw [List.filter_cons]
    by_cases he : m.1 = m.2
    · have e : (m.1 != m.2) = false := by simp [he]
      rw [if_neg (by simp [he]), ← ih]
      unfold nWait
      refine cntN_congr fun k _ => ?_
      rw [nvF_cons]
      by_cases h2 : m.1 = k
      · rw [if_pos h2, ← h2, ho]
        simp [he]
      · rw [if_neg h2]
    · rw [if_pos (by simp [he]), List.length_cons, ← ih]
      unfold nWait
      refine cntN_one (m := m.1) hm.1 ?_ (by simp [ho]) fun k _ hk => ?_
      · rw [nvF_cons, if_pos rfl]
        simp
        omega
      · rw [nvF_cons, if_neg fun e => hk e.symm]

/-! ### Turned round -/

theorem circ_turn {n : Nat} {F G : Nat → Nat} (hF : PermR n F) (hG : PermR n G) (h : ∀ r, r < n → G (F r) = r) {y : Nat} (hc : Circ n F y) : Circ n G y := by
  have hy : y < n := hc.lt 0
  have hback : ∀ j z, z < n → itF G j (itF F j z) = z := fun j => by
    induction j with
    | zero => exact fun _ _ => rfl
    | succ j ih =>
      intro z hz
      have e : itF F (j + 1) z = F (itF F j z) := rfl
      have e2 : itF G (j + 1) (itF F (j + 1) z) = itF G j (G (itF F (j + 1) z)) := itF_add j 1 _
      rw [e2, e, h _ (hF.it hz j)]
      exact ih z hz
  obtain ⟨k, hk⟩ := hc.back
  have horb : ∀ j, itF G j y = itF F (j * (k + 1) - j) y := fun j => by
    have h1 : j ≤ j * (k + 1) := Nat.le_mul_of_pos_right _ (by omega)
    have h2 := hback j (itF F (j * (k + 1) - j) y) (hc.lt _)
    rw [← itF_add, Nat.add_sub_cancel' h1, itF_mul hk] at h2
    exact h2
  refine ⟨fun he => ?_, ⟨k, ?_⟩, fun j => ?_, fun j => ?_, fun j => ?_⟩
  · have h1 := h y hy
    exact hc.ne (hG.inj _ _ (hF.lt y hy) hy (h1.trans he.symm))
  · rw [horb]
    have e : (k + 1) * (k + 1) - (k + 1) = k * (k + 1) := by rw [Nat.add_mul, Nat.one_mul]; omega
    rw [e]
    exact itF_mul hk k
  · rw [horb]; exact hc.lt _
  · rw [horb]; exact hc.least _
  · rw [horb]; exact hG.one (hc.lt _)

structure Turn (n : Nat) (F G : Nat → Nat) : Prop where
  pF : PermR n F
  pG : PermR n G
  gf : ∀ r, r < n → G (F r) = r
  fg : ∀ r, r < n → F (G r) = r

theorem Turn.mk' {n : Nat} {F G : Nat → Nat} (hF : ∀ r, r < n → F r < n) (h : ∀ r, r < n → G (F r) = r) : Turn n F G := by
  have pG : PermR n G := PermR.of_onto fun y hy => ⟨F y, hF y hy, h y hy⟩
  have fg : ∀ r, r < n → F (G r) = r := fun r hr => pG.inj _ _ (hF _ (pG.lt r hr)) hr (h _ (pG.lt r hr))
  exact ⟨PermR.of_onto fun y hy => ⟨G y, pG.lt y hy, fg y hy⟩, pG, h, fg⟩

theorem Turn.nCirc {n : Nat} {F G : Nat → Nat} (h : Turn n F G) : nCirc n F = nCirc n G := by
  unfold Proofs.Ytidjnmigbhaekaa.nCirc
  refine cntN_congr fun y _ => ?_
  rw [Bool.eq_iff_iff, circB_iff, circB_iff]
  exact ⟨circ_turn h.pF h.pG h.gf, circ_turn h.pG h.pF h.fg⟩

def flipM (l : List (Nat × Nat)) : List (Nat × Nat) := l.map fun m => (m.2, m.1)

theorem flip_wait {l : List (Nat × Nat)} : ((flipM l).filter fun m => m.1 != m.2).length = (l.filter fun m => m.1 != m.2).length := by
  unfold flipM
  rw [List.filter_map, List.length_map]
  congr 1
  refine List.filter_congr fun m _ => ?_
  show (m.2 != m.1) = (m.1 != m.2)
  rw [Bool.eq_iff_iff]
  simp
  exact ⟨fun h e => h e.symm, fun h e => h e.symm⟩

/-! ### The cycles counted one by one -/

def lsB (F : Nat → Nat) (r : Nat) : Nat → Bool
  | 0 => true
  | j + 1 => lsB F r j && decide (r < itF F (j + 1) r)

def okB (n : Nat) (F : Nat → Nat) (r : Nat) : Nat → Bool
  | 0 => true
  | k + 1 => okB n F r k && (usF n F (itF F k r) == 1)

theorem lsB_iff {F : Nat → Nat} {r : Nat} : ∀ {j : Nat}, lsB F r j = true ↔ ∀ i, i < j → r < itF F (i + 1) r
  | 0 => by simp [lsB]
  | j + 1 => by
    unfold lsB
    rw [Bool.and_eq_true, lsB_iff, decide_eq_true_eq]
    constructor
    · rintro ⟨h1, h2⟩ i hi
      rcases Nat.lt_or_ge i j with h | h
      · exact h1 i h
      · have : i = j := by omega
        subst this
        exact h2
    · exact fun h => ⟨fun i hi => h i (by omega), h j (by omega)⟩

theorem okB_iff {n : Nat} {F : Nat → Nat} {r : Nat} : ∀ {j : Nat}, okB n F r j = true ↔ ∀ i, i < j → usF n F (itF F i r) = 1
  | 0 => by simp [okB]
  | j + 1 => by
    unfold okB
    rw [Bool.and_eq_true, okB_iff, beq_iff_eq]
    constructor
    · rintro ⟨h1, h2⟩ i hi
      rcases Nat.lt_or_ge i j with h | h
      · exact h1 i h
      · have : i = j := by omega
        subst this
        exact h2
    · exact fun h => ⟨fun i hi => h i (by omega), h j (by omega)⟩

section
variable {F : Nat → Nat} {n r j : Nat}

theorem itF_in (hcl : ∀ k, k < n → F k < n) (hr : r < n) : ∀ i, itF F i r < n
  | 0 => hr
  | i + 1 => hcl _ (itF_in hcl hr i)

theorem circ_not (hcl : ∀ k, k < n → F k < n) (hr : r < n) (hne : ∀ i, i < j → itF F (i + 1) r ≠ r) (hend : j = n ∨ itF F (j + 1) r = r) (h : itF F (j + 1) r ≠ r ∨ lsB F r j = false ∨ F r = r) : circB n F r = false := by
  rw [Bool.eq_false_iff]
  intro hb
  have hc := circB_iff.1 hb
  rcases h with h | h | h
  · have hj : j = n := hend.resolve_right h
    obtain ⟨k, hk⟩ := hc.back
    obtain ⟨p, hp, hpy⟩ := per_le hc.lt hk
    exact hne p (by omega) hpy
  · have h2 : lsB F r j = true := lsB_iff.2 fun i hi => by
      have h3 := hc.least (i + 1)
      have h4 := hne i hi
      omega
    rw [h2] at h
    cases h
  · exact hc.ne h

theorem circ_yes (hcl : ∀ k, k < n → F k < n) (hr : r < n) (hne : ∀ i, i < j → itF F (i + 1) r ≠ r) (h1 : itF F (j + 1) r = r) (h2 : lsB F r j = true) (h3 : F r ≠ r) : circB n F r = okB n F r n := by
  rw [Bool.eq_iff_iff, circB_iff, okB_iff]
  constructor
  · exact fun hc i _ => hc.one i
  · intro hu
    obtain ⟨p, hp, hpy⟩ := per_le (itF_in hcl hr) h1
    have hjn : j < n := by
      rcases Nat.lt_or_ge p j with h | h
      · exact absurd hpy (hne p h)
      · omega
    refine ⟨h3, ⟨j, h1⟩, itF_in hcl hr, fun i => ?_, fun i => ?_⟩
    · rw [itF_mod h1 i]
      have hm : i % (j + 1) < j + 1 := Nat.mod_lt _ (by omega)
      cases hq : i % (j + 1) with
      | zero => exact Nat.le_refl _
      | succ q => exact Nat.le_of_lt (lsB_iff.1 h2 q (by omega))
    · rw [itF_mod h1 i]
      have hm : i % (j + 1) < j + 1 := Nat.mod_lt _ (by omega)
      exact hu _ (by omega)

end

end Go.Proofs.Ytidjnmigbhaekaa
