/-
  Plain mathematics of stack code (C1, C2): no program.
-/
import Derived.Test.YtppnckiedcbleaaPureNeed
namespace Go.Proofs.Ytppnckiedcbleaa
set_option linter.unusedSimpArgs false
set_option linter.unusedVariables false

/-- an operation of stack code -/
structure So where
  op : Int
  v : Int

def so0 : So := ⟨0, 0⟩

/-- what C1 says of one operation at a height; with vars below 0 numbers and variables are not looked at -/
def ckSo (vars : Int) (deep : Nat) (op v : Int) : Int :=
  if op < 1 ∨ 6 < op then 6
  else if 0 ≤ vars ∧ ((op = 1 ∧ ¬ (0 ≤ v ∧ v ≤ 255)) ∨ (op = 2 ∧ ¬ (0 ≤ v ∧ v < vars))) then 4
  else if 3 ≤ op ∧ deep < 2 then 5 else 0

def nxD (deep : Nat) (op : Int) : Nat := if 3 ≤ op then deep - 1 else deep + 1

def ckSoF (vars : Int) : Nat → List So → Int
  | _, [] => 0
  | d, s :: r => if ckSo vars d s.op s.v = 0 then ckSoF vars (nxD d s.op) r else ckSo vars d s.op s.v

/-- C1: the code of stack code; of Deep with vars -1 -/
def ckStack (vars : Int) (c : List So) : Int := if 6 < vars ∨ 40 < c.length then 1 else ckSoF vars 0 c

def ckStk (vars : Int) (c : List So) : Int := if vars < 0 then 1 else ckStack vars c

theorem ckSoF_go {vars : Int} {d : Nat} {o v : Int} {r : List So} (h : ckSo vars d o v = 0) : ckSoF vars d (⟨o, v⟩ :: r) = ckSoF vars (nxD d o) r := by
  rw [ckSoF, if_pos h]

theorem ckSoF_stop {vars c : Int} {d : Nat} {o v : Int} {r : List So} (h : ckSo vars d o v = c) (hc : c ≠ 0) : c = ckSoF vars d (⟨o, v⟩ :: r) := by
  rw [← h] at hc
  rw [ckSoF, if_neg hc, h]

theorem ckSo_cases {vars op v : Int} {d : Nat} (h : ckSo vars d op v = 0) : (op = 1 ∧ (0 ≤ vars → 0 ≤ v ∧ v ≤ 255)) ∨ (op = 2 ∧ (0 ≤ vars → 0 ≤ v ∧ v < vars)) ∨ (3 ≤ op ∧ op ≤ 6 ∧ 2 ≤ d) := by
  unfold ckSo at h
  (repeat' split at h) <;> omega

/-- what a code lays on the stack from a height on; the greatest height, h being the greatest so far -/
def dpF : List So → Nat → Nat → Nat
  | [], _, h => h
  | s :: r, d, h => dpF r (nxD d s.op) (max h (nxD d s.op))

/-- C1: one operation on a stack, from the bottom on -/
def stkStep (hv : List Int) (c : So) (s : List Int) : List Int :=
  if c.op = 1 then s ++ [c.v] else if c.op = 2 then s ++ [hv.getD c.v.toNat 0]
  else s.take (s.length - 2) ++ [opv c.op (s.getD (s.length - 2) 0) (s.getD (s.length - 1) 0)]

def stkF (hv : List Int) : List So → List Int → List Int
  | [], s => s
  | c :: r, s => stkF hv r (stkStep hv c s)

theorem stkF_append (hv : List Int) : ∀ (a b : List So) (s : List Int), stkF hv (a ++ b) s = stkF hv b (stkF hv a s)
  | [], _, _ => rfl
  | c :: r, b, s => stkF_append hv r b _

theorem take_two {α : Type} (s : List α) (x y : α) : (s ++ [x] ++ [y]).take ((s ++ [x] ++ [y]).length - 2) = s := by
  have h : (s ++ [x] ++ [y]).length - 2 = s.length := by simp
  rw [h, List.append_assoc, List.take_append_of_le_length (Nat.le_refl _), List.take_length]

theorem getD_top {α : Type} (s : List α) (x y d : α) : (s ++ [x] ++ [y]).getD ((s ++ [x] ++ [y]).length - 1) d = y ∧ (s ++ [x] ++ [y]).getD ((s ++ [x] ++ [y]).length - 2) d = x := by
  have h1 : (s ++ [x] ++ [y]).length - 1 = s.length + 1 := by simp
  have h2 : (s ++ [x] ++ [y]).length - 2 = s.length := by simp
  rw [h1, h2]
  constructor
  · rw [List.getD_eq_getElem?_getD, List.getElem?_append_right (by simp)]
    simp
  · rw [List.getD_eq_getElem?_getD, List.getElem?_append_left (by simp), List.getElem?_append_right (by simp)]
    simp

/-! ### The code of a tree -/

/-- C2: the code of each term -/
def ldL (l : List Tm) : List (List So) := trL (fun t => [⟨t.op, t.v⟩]) (fun t x y => x ++ y ++ [⟨t.op, 0⟩]) [] l

def ldA (l : List Tm) (i : Nat) : List So := (ldL l).getD i []

theorem ldA_at {vars : Int} {l : List Tm} {k : Nat} {t : Tm} (hc : ckTerms vars l = 0) (h : l[k]? = some t) :
    ldA l k = if t.op < 3 then [⟨t.op, t.v⟩] else ldA l t.a.toNat ++ ldA l t.b.toNat ++ [⟨t.op, 0⟩] := trL_at hc h

theorem ld_len {vars : Int} {l : List Tm} (hc : ckTerms vars l = 0) : ∀ i, i < l.length → (ldA l i).length = szA l i := by
  refine tm_ind hc (fun i t h ho => ?_) fun i t h ho h1 h2 h3 h4 => ?_
  · rw [ldA_at hc h, szA_at hc h, if_pos ho, if_pos ho]; rfl
  · have hno : ¬ t.op < 3 := by omega
    rw [ldA_at hc h, szA_at hc h, if_neg hno, if_neg hno, List.length_append, List.length_append, h3, h4, List.length_singleton]
    omega

theorem ld_root_len {vars : Int} {l : List Tm} (hc : ckTerms vars l = 0) (ht : treeL l) : (ldA l (l.length - 1)).length = l.length := by
  have := ckTerms_bd hc
  rw [ld_len hc _ (by omega), sz_root hc ht]

/-- MCCARTHY, PAINTER: behind the code of a term the stack has its value on top -/
theorem ld_run {vars : Int} {l : List Tm} (hv : List Int) (hc : ckTerms vars l = 0) : ∀ i, i < l.length → ∀ s : List Int, stkF hv (ldA l i) s = s ++ [evA hv l i] := by
  refine tm_ind hc (fun i t h ho => ?_) fun i t h ho h1 h2 h3 h4 => ?_
  · intro s
    have hcs := ckTerm_cases (ckTerms_at hc h)
    rw [ldA_at hc h, if_pos ho, evA_at hv hc h]
    simp only [stkF, stkStep]
    split
    · rfl
    · have e2 : t.op = 2 := by omega
      rw [if_pos e2, if_pos e2]
  · intro s
    have hno : ¬ t.op < 3 := by omega
    have e1 : ¬ t.op = 1 := by omega
    have e2 : ¬ t.op = 2 := by omega
    rw [ldA_at hc h, if_neg hno, evA_at hv hc h, stkF_append, stkF_append, h3, h4, if_neg e1, if_neg e2]
    simp only [stkF, stkStep, if_neg e1, if_neg e2]
    rw [take_two, (getD_top s _ _ 0).1, (getD_top s _ _ 0).2]

theorem ld_val {vars : Int} {l : List Tm} (hv : List Int) (hc : ckTerms vars l = 0) : stkF hv (ldA l (l.length - 1)) [] = [valT l hv] := by
  have := ckTerms_bd hc
  rw [ld_run hv hc _ (by omega)]
  rfl

/-- the code of a term is fit at every height, and leaves one more -/
theorem ld_ck {vars vc : Int} {l : List Tm} (hc : ckTerms vars l = 0) (hvc : vc = vars ∨ vc < 0) : ∀ i, i < l.length → ∀ (d : Nat) (r : List So), ckSoF vc d (ldA l i ++ r) = ckSoF vc (d + 1) r := by
  refine tm_ind hc (fun i t h ho => ?_) fun i t h ho h1 h2 h3 h4 => ?_
  · intro d r
    have hcs := ckTerm_cases (ckTerms_at hc h)
    rw [ldA_at hc h, if_pos ho, List.singleton_append, ckSoF_go]
    · unfold nxD
      rw [if_neg (by omega)]
    · unfold ckSo
      rw [if_neg (by omega), if_neg (by omega), if_neg (by omega)]
  · intro d r
    have hno : ¬ t.op < 3 := by omega
    have hcs := ckTerm_cases (ckTerms_at hc h)
    rw [ldA_at hc h, if_neg hno, List.append_assoc, List.append_assoc, h3, h4, List.singleton_append, ckSoF_go]
    · unfold nxD
      rw [if_pos ho]
      rfl
    · unfold ckSo
      rw [if_neg (by omega), if_neg (by omega), if_neg (by omega)]

theorem ld_ok {vars vc : Int} {l : List Tm} (hc : ckTerms vars l = 0) (ht : treeL l) (hvc : vc = vars ∨ vc < 0) : ckStack vc (ldA l (l.length - 1)) = 0 := by
  have hb := ckTerms_bd hc
  unfold ckStack
  rw [if_neg (by rw [ld_root_len hc ht]; omega)]
  have := ld_ck hc hvc (l.length - 1) (by omega) 0 []
  rw [List.append_nil] at this
  rw [this]
  rfl

/-- the height that a term's code needs -/
def htA (l : List Tm) (i : Nat) : Nat := (trL (fun _ => 1) (fun _ x y => max x (1 + y)) 0 l).getD i 0

theorem htA_at {vars : Int} {l : List Tm} {k : Nat} {t : Tm} (hc : ckTerms vars l = 0) (h : l[k]? = some t) :
    htA l k = if t.op < 3 then 1 else max (htA l t.a.toNat) (1 + htA l t.b.toNat) := trL_at hc h

theorem ht_pos {vars : Int} {l : List Tm} (hc : ckTerms vars l = 0) : ∀ i, i < l.length → 1 ≤ htA l i := by
  refine tm_ind hc (fun i t h ho => ?_) fun i t h ho h1 h2 h3 h4 => ?_
  · rw [htA_at hc h, if_pos ho]; exact Nat.le_refl _
  · rw [htA_at hc h, if_neg (by omega)]; omega

theorem dp_ld {vars : Int} {l : List Tm} (hc : ckTerms vars l = 0) : ∀ i, i < l.length → ∀ (d h : Nat) (r : List So), dpF (ldA l i ++ r) d h = dpF r (d + 1) (max h (d + htA l i)) := by
  have hp := ht_pos hc
  refine tm_ind hc (fun i t h ho => ?_) fun i t h ho h1 h2 h3 h4 => ?_
  · intro d m r
    have hno : ¬ 3 ≤ t.op := by omega
    rw [ldA_at hc h, htA_at hc h, if_pos ho, if_pos ho, List.singleton_append, dpF]
    unfold nxD
    simp only [if_neg hno]
  · intro d m r
    have hi := (List.getElem?_eq_some_iff.1 h).1
    have p1 := hp t.a.toNat (by omega)
    have p2 := hp t.b.toNat (by omega)
    have hno : ¬ t.op < 3 := by omega
    rw [ldA_at hc h, htA_at hc h, if_neg hno, if_neg hno, List.append_assoc, List.append_assoc, h3, h4, List.singleton_append, dpF]
    unfold nxD
    simp only [if_pos ho]
    have e1 : d + 1 + 1 - 1 = d + 1 := by omega
    have e2 : max (max (max m (d + htA l t.a.toNat)) (d + 1 + htA l t.b.toNat)) (d + 1) = max m (d + max (htA l t.a.toNat) (1 + htA l t.b.toNat)) := by omega
    rw [e1, e2]

theorem dp_root {vars : Int} {l : List Tm} (hc : ckTerms vars l = 0) : dpF (ldA l (l.length - 1)) 0 0 = htA l (l.length - 1) := by
  have hb := ckTerms_bd hc
  have := dp_ld hc (l.length - 1) (by omega) 0 0 []
  rw [List.append_nil] at this
  rw [this, dpF]
  omega

theorem nd_ht {vars : Int} {l : List Tm} (hc : ckTerms vars l = 0) : ∀ i, i < l.length → ndA l i ≤ htA l i ∧ htA l i ≤ lfA l i ∧ 1 ≤ lfA l i := by
  refine tm_ind hc (fun i t h ho => ?_) fun i t h ho h1 h2 h3 h4 => ?_
  · rw [ndA_at hc h, htA_at hc h, lfA_at hc h, if_pos ho, if_pos ho, if_pos ho]; omega
  · have hno : ¬ t.op < 3 := by omega
    rw [ndA_at hc h, htA_at hc h, lfA_at hc h, if_neg hno, if_neg hno, if_neg hno]
    unfold ndN
    refine ⟨?_, by omega, by omega⟩
    (repeat' split) <;> omega

/-! ### Back from code to terms -/

theorem trL_at' {α : Type} {leaf : Tm → α} {node : Tm → α → α → α} {d : α} {l : List Tm} {k : Nat} {t : Tm} (h : l[k]? = some t) (hab : 3 ≤ t.op → t.a.toNat < k ∧ t.b.toNat < k) :
    (trL leaf node d l).getD k d = if t.op < 3 then leaf t else node t ((trL leaf node d l).getD t.a.toNat d) ((trL leaf node d l).getD t.b.toNat d) := by
  have hg := trL_get (leaf := leaf) (node := node) (d := d) h
  rw [List.getD_eq_getElem?_getD, hg, Option.getD_some]
  unfold trT
  split
  · rfl
  · obtain ⟨h1, h2⟩ := hab (by omega)
    rw [getD_take h1, getD_take h2]

theorem ldA_grow {l : List Tm} {t : Tm} {j : Nat} (h : j < l.length) : ldA (l ++ [t]) j = ldA l j := by
  unfold ldA ldL
  rw [trL_snoc, List.getD_eq_getElem?_getD, List.getElem?_append_left (by rw [trL_len]; exact h), ← List.getD_eq_getElem?_getD]

/-- an operation as the code of terms has it -/
def nrm (c : So) : So := if 3 ≤ c.op then ⟨c.op, 0⟩ else c

def bkT (c : So) (s : List Nat) : Tm := if 3 ≤ c.op then ⟨c.op, (s.getD (s.length - 2) 0 : Nat), (s.getD (s.length - 1) 0 : Nat), 0⟩ else ⟨c.op, 0, 0, c.v⟩

def bkN (c : So) (n : Nat) (s : List Nat) : List Nat := if 3 ≤ c.op then s.take (s.length - 2) ++ [n] else s ++ [n]

/-- C2: the terms of code, and what is left on the stack -/
def bkF : List So → List Tm → List Nat → List Tm × List Nat
  | [], l, s => (l, s)
  | c :: r, l, s => bkF r (l ++ [bkT c s]) (bkN c l.length s)

structure BkInv (vars : Int) (pre : List So) (l : List Tm) (s : List Nat) : Prop where
  len : l.length = pre.length
  ck : ∀ i t, l[i]? = some t → ckTerm vars (i : Nat) t.op t.a t.b t.v = 0
  st : ∀ x ∈ s, x < l.length
  used : ∀ j, j < l.length → usedN l j = if j ∈ s then 0 else 1
  far : ∀ j, l.length ≤ j → usedN l j = 0
  nodup : s.Nodup
  code : (s.map (ldA l)).flatten = pre.map nrm
  last : pre ≠ [] → s.getLast? = some (l.length - 1)

theorem BkInv.start (vars : Int) : BkInv vars [] [] [] :=
  ⟨rfl, fun i t h => by simp at h, fun x h => by simp at h, fun j h => by simp at h, fun j _ => rfl, List.nodup_nil, rfl, fun h => absurd rfl h⟩

theorem two_last {α : Type} {s : List α} (h : 2 ≤ s.length) : ∃ s0 x y, s = s0 ++ [x] ++ [y] := by
  refine ⟨s.take (s.length - 2), s[s.length - 2], s[s.length - 1], ?_⟩
  have h1 : s.take (s.length - 2) ++ [s[s.length - 2]] = s.take (s.length - 1) := by
    rw [← List.take_succ_eq_append_getElem (by omega)]
    congr 1
    omega
  have h2 : s.take (s.length - 1) ++ [s[s.length - 1]] = s := by
    rw [← List.take_succ_eq_append_getElem (by omega), List.take_of_length_le (by omega)]
  rw [h1, h2]

theorem map_ld {l : List Tm} {t : Tm} {s : List Nat} (h : ∀ x ∈ s, x < l.length) : s.map (ldA (l ++ [t])) = s.map (ldA l) :=
  List.map_congr_left fun x hx => ldA_grow (h x hx)

theorem last_get {l : List Tm} {t : Tm} : (l ++ [t])[l.length]? = some t := by simp

theorem BkInv.step {vars : Int} {pre : List So} {l : List Tm} {s : List Nat} {c : So} (hv : 0 ≤ vars) (h : BkInv vars pre l s) (hc : ckSo vars s.length c.op c.v = 0) : BkInv vars (pre ++ [c]) (l ++ [bkT c s]) (bkN c l.length s) := by
  have hcs := ckSo_cases hc
  by_cases ho : 3 ≤ c.op
  · obtain ⟨s0, x, y, rfl⟩ := two_last (s := s) (by omega)
    have hT : bkT c (s0 ++ [x] ++ [y]) = ⟨c.op, x, y, 0⟩ := by
      unfold bkT
      rw [if_pos ho, (getD_top s0 x y 0).1, (getD_top s0 x y 0).2]
    have hN : bkN c l.length (s0 ++ [x] ++ [y]) = s0 ++ [l.length] := by
      unfold bkN
      rw [if_pos ho, take_two]
    rw [hT, hN]
    have hx := h.st x (by simp)
    have hy := h.st y (by simp)
    have hnd := h.nodup
    have hxy : x ≠ y := by
      intro e
      subst e
      have := (List.nodup_append.1 hnd).2.2 x (by simp) x (by simp)
      exact this rfl
    have hx0 : x ∉ s0 := fun hm => by
      have h1 := (List.nodup_append.1 (List.nodup_append.1 hnd).1).2.2 x hm x (by simp)
      exact h1 rfl
    have hy0 : y ∉ s0 := fun hm => by
      have h1 := (List.nodup_append.1 hnd).2.2 y (by simp [hm]) y (by simp)
      exact h1 rfl
    have hs0 : ∀ z ∈ s0, z < l.length := fun z hz => h.st z (by simp [hz])
    refine ⟨by simp [h.len], fun i t hi => ?_, fun z hz => ?_, fun j hj => ?_, fun j hj => ?_, ?_, ?_, fun _ => by simp⟩
    · rw [List.getElem?_append] at hi
      split at hi
      · exact h.ck i t hi
      · rename_i hil
        have hil2 : i - l.length = 0 := by
          rcases Nat.eq_zero_or_pos (i - l.length) with h0 | h0
          · exact h0
          · rw [List.getElem?_eq_none (by simp; omega)] at hi; cases hi
        rw [hil2] at hi
        simp at hi
        subst hi
        unfold ckTerm
        simp only []
        rw [if_neg (by omega), if_neg (by omega), if_pos (by omega), if_pos (by omega)]
    · rw [List.length_append]
      rcases List.mem_append.1 hz with hz | hz
      · have := hs0 z hz; simp; omega
      · simp at hz; subst hz; simp
    · rw [usedN_append]
      simp only [usedN, if_pos ho, Nat.add_zero]
      have hj' : j < l.length + 1 := by simpa using hj
      rcases Nat.lt_or_ge j l.length with hjl | hjl
      · rw [h.used j hjl]
        have hjne : j ≠ l.length := by omega
        have em : j ∈ s0 ++ [l.length] ↔ j ∈ s0 := by simp [hjne]
        by_cases e1 : (x : Int) = (j : Int)
        · have : x = j := by omega
          subst this
          have e2 : ¬ (y : Int) = (x : Int) := by omega
          have e3 : ¬ x ∈ s0 ++ [l.length] := fun hm => hx0 (em.1 hm)
          rw [if_pos (by simp), if_pos e1, if_neg e2, if_neg e3]
        · by_cases e2 : (y : Int) = (j : Int)
          · have : y = j := by omega
            subst this
            have e3 : ¬ y ∈ s0 ++ [l.length] := fun hm => hy0 (em.1 hm)
            rw [if_pos (by simp), if_neg e1, if_pos e2, if_neg e3]
          · have n1 : j ≠ x := by omega
            have n2 : j ≠ y := by omega
            have e3 : j ∈ s0 ++ [x] ++ [y] ↔ j ∈ s0 := by simp [n1, n2]
            rw [if_neg e1, if_neg e2]
            by_cases e4 : j ∈ s0
            · rw [if_pos (e3.2 e4), if_pos (em.2 e4)]
            · rw [if_neg (fun hm => e4 (e3.1 hm)), if_neg (fun hm => e4 (em.1 hm))]
      · have hjl' : j = l.length := by omega
        subst hjl'
        rw [h.far _ (Nat.le_refl _), if_neg (by omega), if_neg (by omega), if_pos (by simp)]
    · rw [usedN_append]
      simp only [usedN, if_pos ho, Nat.add_zero]
      have hj' : l.length + 1 ≤ j := by simpa using hj
      rw [h.far j (by omega), if_neg (by omega), if_neg (by omega)]
    · refine List.nodup_append.2 ⟨(List.nodup_append.1 (List.nodup_append.1 hnd).1).1, by simp, fun a ha b hb => ?_⟩
      simp at hb
      subst hb
      have := hs0 a ha
      omega
    · have hcode := h.code
      have hg : ldA (l ++ [⟨c.op, x, y, 0⟩]) l.length = ldA l x ++ ldA l y ++ [⟨c.op, 0⟩] := by
        have hat := trL_at' (leaf := fun t => [(⟨t.op, t.v⟩ : So)]) (node := fun t x y => x ++ y ++ [⟨t.op, 0⟩]) (d := []) (last_get (l := l) (t := ⟨c.op, x, y, 0⟩)) (fun _ => ⟨by simpa using hx, by simpa using hy⟩)
        simp only [Int.toNat_natCast] at hat
        rw [if_neg (by omega)] at hat
        have e1 := ldA_grow (t := (⟨c.op, x, y, 0⟩ : Tm)) hx
        have e2 := ldA_grow (t := (⟨c.op, x, y, 0⟩ : Tm)) hy
        unfold ldA ldL at *
        rw [hat, e1, e2]
      rw [List.map_append, List.map_singleton, map_ld hs0, hg, List.map_append, List.map_singleton]
      rw [List.map_append, List.map_append, List.map_singleton, List.map_singleton] at hcode
      simp only [List.flatten_append, List.flatten_cons, List.flatten_nil, List.append_nil] at hcode ⊢
      rw [← List.append_assoc, ← List.append_assoc, hcode]
      unfold nrm
      rw [if_pos ho]
  · have hT : bkT c s = ⟨c.op, 0, 0, c.v⟩ := by unfold bkT; rw [if_neg ho]
    have hN : bkN c l.length s = s ++ [l.length] := by unfold bkN; rw [if_neg ho]
    rw [hT, hN]
    refine ⟨by simp [h.len], fun i t hi => ?_, fun z hz => ?_, fun j hj => ?_, fun j hj => ?_, ?_, ?_, fun _ => by simp⟩
    · rw [List.getElem?_append] at hi
      split at hi
      · exact h.ck i t hi
      · rename_i hil
        have hil2 : i - l.length = 0 := by
          rcases Nat.eq_zero_or_pos (i - l.length) with h0 | h0
          · exact h0
          · rw [List.getElem?_eq_none (by simp; omega)] at hi; cases hi
        rw [hil2] at hi
        simp at hi
        subst hi
        unfold ckTerm
        simp only []
        rcases hcs with ⟨h1, h2⟩ | ⟨h1, h2⟩ | h1
        · rw [if_pos h1, if_pos (by omega)]
        · rw [if_neg (by omega), if_pos h1, if_pos (by omega)]
        · omega
    · rw [List.length_append]
      rcases List.mem_append.1 hz with hz | hz
      · have := h.st z hz; simp; omega
      · simp at hz; subst hz; simp
    · rw [usedN_append]
      simp only [usedN, if_neg ho, Nat.add_zero]
      have hj' : j < l.length + 1 := by simpa using hj
      rcases Nat.lt_or_ge j l.length with hjl | hjl
      · rw [h.used j hjl]
        have hjne : j ≠ l.length := by omega
        have em : j ∈ s ++ [l.length] ↔ j ∈ s := by simp [hjne]
        by_cases e4 : j ∈ s
        · rw [if_pos e4, if_pos (em.2 e4)]
        · rw [if_neg e4, if_neg (fun hm => e4 (em.1 hm))]
      · have hjl' : j = l.length := by omega
        subst hjl'
        rw [h.far _ (Nat.le_refl _), if_pos (by simp)]
    · rw [usedN_append]
      simp only [usedN, if_neg ho, Nat.add_zero]
      have hj' : l.length + 1 ≤ j := by simpa using hj
      rw [h.far j (by omega)]
    · refine List.nodup_append.2 ⟨h.nodup, by simp, fun a ha b hb => ?_⟩
      simp at hb
      subst hb
      have := h.st a ha
      omega
    · have hcode := h.code
      have hg : ldA (l ++ [⟨c.op, 0, 0, c.v⟩]) l.length = [⟨c.op, c.v⟩] := by
        have hat := trL_at' (leaf := fun t => [(⟨t.op, t.v⟩ : So)]) (node := fun t x y => x ++ y ++ [⟨t.op, 0⟩]) (d := []) (last_get (l := l) (t := ⟨c.op, 0, 0, c.v⟩)) (fun h3 => absurd h3 ho)
        simp only [] at hat
        rw [if_pos (by omega)] at hat
        unfold ldA ldL
        rw [hat]
      rw [List.map_append, List.map_singleton, map_ld h.st, hg, List.map_append, List.map_singleton]
      simp only [List.flatten_append, List.flatten_cons, List.flatten_nil, List.append_nil]
      rw [hcode]
      unfold nrm
      rw [if_neg ho]

theorem bkN_len {c : So} {n d : Nat} {s : List Nat} (hd : s.length = d) (ho : 3 ≤ c.op → 2 ≤ d) : (bkN c n s).length = nxD d c.op := by
  unfold bkN nxD
  split
  · have := ho (by assumption)
    simp; omega
  · simp; omega

theorem bk_all {vars : Int} (hv : 0 ≤ vars) : ∀ (c pre : List So) (l : List Tm) (s : List Nat), BkInv vars pre l s → ckSoF vars s.length c = 0 → BkInv vars (pre ++ c) (bkF c l s).1 (bkF c l s).2
  | [], pre, l, s, h, _ => by rw [List.append_nil]; exact h
  | c :: r, pre, l, s, h, hc => by
    unfold ckSoF at hc
    split at hc
    · have h0 : ckSo vars s.length c.op c.v = 0 := by assumption
      have hcs := ckSo_cases h0
      have ih := bk_all hv r (pre ++ [c]) _ _ (h.step hv h0) (by rw [bkN_len rfl (by omega)]; exact hc)
      rw [List.append_assoc, List.singleton_append] at ih
      exact ih
    · exact absurd hc (by assumption)

def bkL (c : List So) : List Tm := (bkF c [] []).1
def bkR (c : List So) : List Nat := (bkF c [] []).2

/-- MCCARTHY, PAINTER: code that leaves one value is the code of a tree: of its terms -/
theorem bk_tree {vars : Int} {c : List So} (hv : 0 ≤ vars) (h6 : vars ≤ 6) (hc : ckSoF vars 0 c = 0) (h0 : 0 < c.length) (h16 : c.length ≤ 16) (h1 : (bkR c).length = 1) :
    (bkL c).length = c.length ∧ ckTerms vars (bkL c) = 0 ∧ treeL (bkL c) ∧ ldA (bkL c) ((bkL c).length - 1) = c.map nrm := by
  have h := bk_all hv c [] [] [] (BkInv.start vars) hc
  rw [List.nil_append] at h
  have hl := h.len
  have hne : c ≠ [] := fun e => by rw [e] at h0; simp at h0
  have hlast := h.last hne
  have hr : bkR c = [(bkL c).length - 1] := by
    obtain ⟨x, hx⟩ := List.length_eq_one_iff.1 h1
    have : (bkR c).getLast? = some ((bkL c).length - 1) := hlast
    rw [hx] at this
    simp at this
    rw [hx, this]
  refine ⟨hl, ckTerms_of hv h6 (by unfold bkL; omega) (by unfold bkL; omega) h.ck, fun j hj => ?_, ?_⟩
  · have hu := h.used j (by unfold bkL at hj; omega)
    have hn : ¬ j ∈ (bkF c [] []).2 := by
      show ¬ j ∈ bkR c
      rw [hr]
      simp
      omega
    rw [if_neg hn] at hu
    exact hu
  · have hcode := h.code
    have : ((bkR c).map (ldA (bkL c))).flatten = c.map nrm := hcode
    rw [hr] at this
    simpa using this

theorem bkF_len : ∀ (c : List So) (l : List Tm) (s : List Nat), (bkF c l s).1.length = l.length + c.length
  | [], l, s => rfl
  | c :: r, l, s => by rw [bkF, bkF_len r]; simp; omega

end Go.Proofs.Ytppnckiedcbleaa
