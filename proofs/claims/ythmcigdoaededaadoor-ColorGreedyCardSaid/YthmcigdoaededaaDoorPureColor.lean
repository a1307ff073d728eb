/-
  Plain mathematics of colorings (O1, O2): what each function tells, and what follows: Welsh and Powell's bounds, Kempe's peeling, perfect lists, the fewest colors.
-/
import Derived.Test.YthmcigdoaededaaDoorPureBrooks
import Derived.Test.YthmcigdoaededaaDoorPureSwap
namespace Go.Proofs.YthmcigdoaededaaDoor
set_option linter.unusedSimpArgs false
set_option linter.unusedVariables false

/-- do i and j clash? -/
def clP (ps : List (Nat × Nat)) (i j : Nat) : Bool := ps.any fun p => (p.1 == i && p.2 == j) || (p.1 == j && p.2 == i)

theorem clP_iff {ps : List (Nat × Nat)} {i j : Nat} : clP ps i j = true ↔ (i, j) ∈ ps ∨ (j, i) ∈ ps := by
  unfold clP
  rw [List.any_eq_true]
  constructor
  · rintro ⟨⟨a, b⟩, hp, h⟩
    simp at h
    rcases h with ⟨rfl, rfl⟩ | ⟨rfl, rfl⟩
    · exact .inl hp
    · exact .inr hp
  · rintro (h | h)
    · exact ⟨_, h, by simp⟩
    · exact ⟨_, h, by simp⟩

theorem clP_gr {ps : List (Nat × Nat)} (h : ∀ p ∈ ps, p.1 ≠ p.2) : Gr (clP ps) := by
  refine ⟨fun i j hij => ?_, fun i => ?_⟩
  · rw [clP_iff] at hij ⊢
    exact hij.symm
  · rw [Bool.eq_false_iff]
    intro h2
    rw [clP_iff] at h2
    rcases h2 with h2 | h2 <;> exact h _ h2 rfl

/-- a list as a function -/
def cof (l : List Nat) (i : Nat) : Nat := l.getD i 0

theorem cof_at {l : List Nat} {i x : Nat} (h : l[i]? = some x) : cof l i = x := by unfold cof; rw [List.getD_eq_getElem?_getD, h]; rfl

theorem cof_get {l : List Nat} {i : Nat} (h : i < l.length) : l[i]? = some (cof l i) := by
  unfold cof
  rw [List.getD_eq_getElem?_getD, List.getElem?_eq_getElem h]
  rfl

/-- a coloring of the first n with k colors -/
def Kol (n : Nat) (ad : Nat → Nat → Bool) (k : Nat) (c : Nat → Nat) : Prop := Prp ad k (fun i => i < n) c

/-- one more than the greatest -/
def mst (l : List Nat) : Nat := l.foldl (fun k x => if k < x + 1 then x + 1 else k) 0

theorem mst_from : ∀ (l : List Nat) (s : Nat), s ≤ l.foldl (fun k x => if k < x + 1 then x + 1 else k) s ∧ (∀ x ∈ l, x < l.foldl (fun k x => if k < x + 1 then x + 1 else k) s) ∧
    (l.foldl (fun k x => if k < x + 1 then x + 1 else k) s = s ∨ ∃ x ∈ l, l.foldl (fun k x => if k < x + 1 then x + 1 else k) s = x + 1)
  | [], s => ⟨Nat.le_refl _, fun x h => absurd h (by simp), .inl rfl⟩
  | y :: l, s => by
    rw [List.foldl_cons]
    obtain ⟨h1, h2, h3⟩ := mst_from l (if s < y + 1 then y + 1 else s)
    have h4 : s ≤ (if s < y + 1 then y + 1 else s) ∧ y + 1 ≤ (if s < y + 1 then y + 1 else s) := by split <;> omega
    refine ⟨by omega, fun x hx => ?_, ?_⟩
    · rcases List.mem_cons.1 hx with rfl | hx
      · omega
      · exact h2 x hx
    · rcases h3 with h3 | ⟨x, hx, h3⟩
      · rw [h3]
        split
        · exact .inr ⟨y, by simp, rfl⟩
        · exact .inl rfl
      · exact .inr ⟨x, List.mem_cons_of_mem _ hx, h3⟩

theorem mst_lt {l : List Nat} {x : Nat} (h : x ∈ l) : x < mst l := (mst_from l 0).2.1 x h

theorem mst_le {l : List Nat} {k : Nat} (h : ∀ x ∈ l, x < k) : mst l ≤ k := by
  rcases (mst_from l 0).2.2 with h1 | ⟨x, hx, h1⟩
  · unfold mst; omega
  · have := h x hx
    unfold mst
    omega

theorem mst_take {l : List Nat} {k x : Nat} (h : l[k]? = some x) : mst (l.take (k + 1)) = if mst (l.take k) < x + 1 then x + 1 else mst (l.take k) := by
  rw [List.take_add_one, h, Option.toList_some]
  unfold mst
  rw [List.foldl_append]
  rfl

/-! ### The fewest colors -/

/-- one list before another, or the same -/
def LexLe (l r : List Nat) : Prop := l = r ∨ ∃ i : Nat, (∀ j : Nat, j < i → l[j]? = r[j]?) ∧ ∃ x y : Nat, l[i]? = some x ∧ r[i]? = some y ∧ x < y

theorem LexLe.anti {l r : List Nat} (h1 : LexLe l r) (h2 : LexLe r l) : l = r := by
  rcases h1 with h1 | ⟨i, hi, x, y, hx, hy, hxy⟩
  · exact h1
  · rcases h2 with h2 | ⟨j, hj, u, v, hu, hv, huv⟩
    · exact h2.symm
    · exfalso
      rcases Nat.lt_trichotomy i j with h | h | h
      · have := hj i h
        rw [hx, hy] at this
        injection this with this
        omega
      · subst h
        rw [hx] at hv
        rw [hy] at hu
        injection hu with hu
        injection hv with hv
        omega
      · have := hi j h
        rw [hu, hv] at this
        injection this with this
        omega

/-- the first of the colorings with the fewest colors -/
structure LeastC (n : Nat) (ad : Nat → Nat → Bool) (k : Nat) (l : List Nat) : Prop where
  len : l.length = n
  kol : Kol n ad k (cof l)
  least : ∀ k' c, Kol n ad k' c → k ≤ k'
  first : ∀ r : List Nat, r.length = n → Kol n ad k (cof r) → LexLe l r

section
variable {n : Nat} {ad : Nat → Nat → Bool}

theorem LeastC.same {k k' : Nat} {l r : List Nat} (h : LeastC n ad k l) (h' : LeastC n ad k' r) : l = r := by
  have e : k = k' := Nat.le_antisymm (h.least _ _ h'.kol) (h'.least _ _ h.kol)
  subst e
  exact (h.first r h'.len h'.kol).anti (h'.first l h.len h.kol)

theorem cof_lt {k : Nat} {l : List Nat} (hl : l.length = n) (h : ∀ i, i < n → cof l i < k) : ∀ x ∈ l, x < k := fun x hx => by
  obtain ⟨i, hi⟩ := List.getElem?_of_mem hx
  have hil := (List.getElem?_eq_some_iff.1 hi).1
  have := h i (by omega)
  rwa [cof_at hi] at this

theorem kol_most {k : Nat} {l : List Nat} (hl : l.length = n) (h : Kol n ad k (cof l)) : Kol n ad (mst l) (cof l) := by
  refine ⟨fun i hi => ?_, h.ne⟩
  have : i < l.length := by
    show i < l.length
    have h2 : i < n := hi
    omega
  exact mst_lt (List.mem_of_getElem? (cof_get this))

theorem LeastC.most {k : Nat} {l : List Nat} (h : LeastC n ad k l) : mst l = k := by
  refine Nat.le_antisymm (mst_le (cof_lt h.len fun i hi => h.kol.lt i hi)) (h.least _ _ (kol_most h.len h.kol))

/-- with how many of n one clashes -/
def dgN (n : Nat) (ad : Nat → Nat → Bool) (i : Nat) : Nat := cntN n (ad i)

theorem cntN_filter (p : Nat → Bool) : ∀ n, cntN n p = ((List.range n).filter p).length
  | 0 => rfl
  | n + 1 => by
    unfold cntN
    rw [List.range_succ, List.filter_append, List.length_append, cntN_filter p n]
    congr 1
    cases h : p n <;> simp [h]

theorem dgN_dgL (i : Nat) : dgN n ad i = dgL ad (List.range n) i := cntN_filter _ _

/-- each color but 0 is that of one that clashes with one of each lesser color -/
theorem LeastC.forced (hg : Gr ad) {k : Nat} {l : List Nat} (h : LeastC n ad k l) {q : Nat} (hq : q < k) : ∃ i, i < n ∧ cof l i = q ∧ ∀ low, low < q → ∃ j, j < n ∧ cof l j = low ∧ ad i j = true := by
  refine Classical.byContradiction fun hno => ?_
  have hch : ∀ i, ∃ low, i < n → cof l i = q → low < q ∧ ∀ j, j < n → cof l j = low → ad i j = false := fun i => by
    by_cases hi : i < n ∧ cof l i = q
    · refine Classical.byContradiction fun h2 => hno ⟨i, hi.1, hi.2, fun low hlow => Classical.byContradiction fun h3 => h2 ⟨low, fun _ _ => ⟨hlow, fun j hj hc => ?_⟩⟩⟩
      cases ha : ad i j with
      | false => rfl
      | true => exact absurd ⟨j, hj, hc, ha⟩ h3
    · exact ⟨0, fun h1 h2 => absurd ⟨h1, h2⟩ hi⟩
  obtain ⟨lo, hlo⟩ := Classical.axiomOfChoice hch
  have hk := h.least (k - 1) (fun i => if cof l i = q then lo i else if q < cof l i then cof l i - 1 else cof l i) ⟨fun i hi => ?_, fun i j hi hj ha => ?_⟩
  · omega
  · have h1 := h.kol.lt i hi
    show (if cof l i = q then lo i else if q < cof l i then cof l i - 1 else cof l i) < k - 1
    by_cases h2 : cof l i = q
    · rw [if_pos h2]
      have := (hlo i hi h2).1
      omega
    · rw [if_neg h2]
      split <;> omega
  · have hne := h.kol.ne i j hi hj ha
    show (if cof l i = q then lo i else if q < cof l i then cof l i - 1 else cof l i) ≠ (if cof l j = q then lo j else if q < cof l j then cof l j - 1 else cof l j)
    by_cases h2 : cof l i = q
    · rw [if_pos h2]
      obtain ⟨h3, h4⟩ := hlo i hi h2
      by_cases h5 : cof l j = q
      · omega
      · rw [if_neg h5]
        split
        · omega
        · intro e
          rw [h4 j hj e.symm] at ha
          cases ha
    · rw [if_neg h2]
      by_cases h5 : cof l j = q
      · rw [if_pos h5]
        obtain ⟨h3, h4⟩ := hlo j hj h5
        split
        · omega
        · intro e
          have ha2 := hg.symm _ _ ha
          rw [h4 i hi e] at ha2
          cases ha2
      · rw [if_neg h5]
        (repeat' split) <;> omega

/-! ### One by one, in an order (Welsh and Powell) -/

/-- each thing below n just once -/
structure OrdK (n : Nat) (o : List Nat) : Prop where
  len : o.length = n
  all : ∀ i, i < n → i ∈ o

theorem OrdK.nodup {o : List Nat} (h : OrdK n o) : o.Nodup ∧ ∀ x ∈ o, x < n := cover h.all (Nat.le_of_eq h.len)

/-- the least color for each in its turn -/
structure GrdC (n : Nat) (ad : Nat → Nat → Bool) (o l : List Nat) : Prop where
  len : l.length = n
  ne : ∀ t i, o[t]? = some i → ∀ j ∈ o.take t, ad i j = true → cof l j ≠ cof l i
  low : ∀ t i, o[t]? = some i → ∀ c, c < cof l i → ∃ j ∈ o.take t, ad i j = true ∧ cof l j = c

theorem mem_take_of {o : List Nat} {s t i : Nat} (h : o[s]? = some i) (hst : s < t) : i ∈ o.take t := by
  refine List.mem_of_getElem? (i := s) ?_
  rw [List.getElem?_take, if_pos hst, h]

theorem GrdC.kol {o l : List Nat} (hg : Gr ad) (ho : OrdK n o) (h : GrdC n ad o l) : Kol n ad (mst l) (cof l) := by
  refine kol_most (k := mst l) h.len ⟨fun i hi => ?_, fun i j hi hj ha he => ?_⟩
  · have hi2 : i < n := hi
    exact mst_lt (List.mem_of_getElem? (cof_get (by rw [h.len]; exact hi2)))
  · obtain ⟨s, hs⟩ := List.getElem?_of_mem (ho.all i hi)
    obtain ⟨t, ht⟩ := List.getElem?_of_mem (ho.all j hj)
    rcases Nat.lt_trichotomy s t with h1 | h1 | h1
    · exact h.ne t j ht i (mem_take_of hs h1) (hg.symm _ _ ha) he
    · subst h1
      rw [hs] at ht
      injection ht with ht
      exact hg.ne ha ht
    · exact h.ne s i hs j (mem_take_of ht h1) ha he.symm

/-- no more colors than one clashes with things, and one -/
theorem GrdC.deg {o l : List Nat} (ho : OrdK n o) (h : GrdC n ad o l) {i : Nat} (hi : i < n) : cof l i ≤ dgN n ad i := by
  obtain ⟨t, ht⟩ := List.getElem?_of_mem (ho.all i hi)
  rw [dgN_dgL]
  unfold dgL
  have := all_len (k := cof l i) (xs := ((List.range n).filter (ad i)).map (cof l)) fun c hc => by
    obtain ⟨j, hj, ha, he⟩ := h.low t i ht c hc
    exact List.mem_map.2 ⟨j, List.mem_filter.2 ⟨List.mem_range.2 (ho.nodup.2 j (List.mem_of_mem_take hj)), ha⟩, he⟩
  rwa [List.length_map] at this

theorem GrdC.most {o l : List Nat} {D : Nat} (ho : OrdK n o) (h : GrdC n ad o l) (hD : ∀ i, i < n → dgN n ad i ≤ D) : mst l ≤ D + 1 := by
  refine mst_le (cof_lt h.len fun i hi => ?_)
  have := h.deg ho hi
  have := hD i hi
  omega

/-! ### Sets of which any two clash -/

/-- any two of a word clash -/
def ClqW (n : Nat) (ad : Nat → Nat → Bool) (W : Nat) : Prop := ∀ i j, i < n → j < n → W.testBit i = true → W.testBit j = true → i ≠ j → ad i j = true

/-- the first of the greatest sets of which any two clash -/
structure CliqueC (n : Nat) (ad : Nat → Nat → Bool) (W : Nat) : Prop where
  lt : W < 2 ^ n
  clq : ClqW n ad W
  great : ∀ T, T < 2 ^ n → ClqW n ad T → szW T n < szW W n ∨ szW T n = szW W n ∧ W ≤ T

/-- a word's members -/
def mbW (n W : Nat) : List Nat := (List.range n).filter fun i => W.testBit i

theorem mbW_mem {W i : Nat} : i ∈ mbW n W ↔ i < n ∧ W.testBit i = true := by unfold mbW; rw [List.mem_filter, List.mem_range]

theorem mbW_nodup (n W : Nat) : (mbW n W).Nodup := List.nodup_range.filter _

theorem szW_cnt (W : Nat) : ∀ n, szW W n = cntN n fun i => W.testBit i
  | 0 => rfl
  | n + 1 => by unfold szW cntN; rw [szW_cnt W n]

theorem mbW_len (W : Nat) : (mbW n W).length = szW W n := by rw [szW_cnt, cntN_filter]; rfl

theorem CliqueC.len {W : Nat} (h : CliqueC n ad W) {Q : List Nat} (hd : Q.Nodup) (hl : ∀ x ∈ Q, x < n) (hq : CqL ad Q) : Q.length ≤ szW W n := by
  rw [← szW_len hd hl]
  have := h.great (setW Q) (setW_lt hl) fun i j _ _ hi hj hne => hq i j (setW_bit.1 hi) (setW_bit.1 hj) hne
  omega

theorem clq_le {k : Nat} {c : Nat → Nat} (h : Kol n ad k c) {Q : List Nat} (hd : Q.Nodup) (hl : ∀ x ∈ Q, x < n) (hq : CqL ad Q) : Q.length ≤ k := by
  have h1 : (Q.map c).Nodup := by
    unfold List.Nodup
    rw [List.pairwise_map]
    refine List.Pairwise.imp_of_mem (fun {a b} ha hb hab => ?_) hd
    exact h.ne a b (hl a ha) (hl b hb) (hq a b ha hb hab)
  have := nodup_len h1 (n := k) fun x hx => by
    obtain ⟨y, hy, rfl⟩ := List.mem_map.1 hx
    exact h.lt y (hl y hy)
  rwa [List.length_map] at this

theorem CliqueC.le {W k : Nat} {c : Nat → Nat} (h : CliqueC n ad W) (hk : Kol n ad k c) : szW W n ≤ k := by
  rw [← mbW_len]
  exact clq_le hk (mbW_nodup n W) (fun x hx => (mbW_mem.1 hx).1) fun i j hi hj hne => h.clq i j (mbW_mem.1 hi).1 (mbW_mem.1 hj).1 (mbW_mem.1 hi).2 (mbW_mem.1 hj).2 hne

/-- BROOKS -/
theorem brooks_n (hg : Gr ad) {D W : Nat} (h3 : 3 ≤ D) (hD : ∀ i, i < n → dgN n ad i ≤ D) (hW : CliqueC n ad W) (hs : szW W n ≤ D) : ∃ c, Kol n ad D c := by
  obtain ⟨c, hc⟩ := brooks hg h3 n (List.range n) (by simp) List.nodup_range (fun v hv => by rw [← dgN_dgL]; exact hD v (List.mem_range.1 hv)) fun Q hd hl hq => Nat.le_trans (hW.len hd (fun x hx => List.mem_range.1 (hl x hx)) hq) hs
  exact ⟨c, hc.sub fun i hi => List.mem_range.2 hi⟩

/-! ### Peeling (Kempe; Chaitin) -/

/-- each of a set clashes with k or more of it -/
def CoreW (n : Nat) (ad : Nat → Nat → Bool) (k T : Nat) : Prop := ∀ i, i < n → T.testBit i = true → k ≤ cntN n fun j => T.testBit j && ad i j

/-- what is left -/
structure PeelC (n : Nat) (ad : Nat → Nat → Bool) (k W : Nat) : Prop where
  lt : W < 2 ^ n
  core : CoreW n ad k W
  great : ∀ T, T < 2 ^ n → CoreW n ad k T → ∀ i, T.testBit i = true → W.testBit i = true

theorem kempe (hg : Gr ad) {k : Nat} (h : PeelC n ad k 0) : ∃ c, Kol n ad k c := by
  have key : ∀ (m : Nat) (S : List Nat), S.length ≤ m → S.Nodup → (∀ x ∈ S, x < n) → ∃ c, Prp ad k (fun i => i ∈ S) c := by
    intro m
    induction m with
    | zero =>
      intro S hm _ _
      have : S = [] := List.eq_nil_of_length_eq_zero (by omega)
      subst this
      exact ⟨fun _ => 0, ⟨fun i hi => absurd hi (by simp), fun i _ hi => absurd hi (by simp)⟩⟩
    | succ m ih =>
      intro S hm hd hl
      cases hS : S with
      | nil => exact ⟨fun _ => 0, ⟨fun i hi => absurd hi (by simp), fun i _ hi => absurd hi (by simp)⟩⟩
      | cons v0 S0 =>
        rw [← hS]
        obtain ⟨v, hv, hvd⟩ : ∃ v, v ∈ S ∧ (cntN n fun j => (setW S).testBit j && ad v j) < k := by
          refine Classical.byContradiction fun hno => ?_
          have h1 := h.great (setW S) (setW_lt hl) (fun i hi hb => Classical.byContradiction fun h2 => hno ⟨i, setW_bit.1 hb, by omega⟩) v0 (setW_bit.2 (by rw [hS]; simp))
          simp at h1
        obtain ⟨c, hc⟩ := ih (S.erase v) (by
          have := List.length_erase_of_mem hv
          have := List.length_pos_of_mem hv
          omega) (hd.erase v) fun x hx => hl x (List.mem_of_mem_erase hx)
        obtain ⟨c', h1, _⟩ := hc.go hg (v := v) (fun hh => List.Nodup.not_mem_erase hd hh) (((List.range n).filter fun j => (setW S).testBit j && ad v j).map c) (by rw [List.length_map, ← cntN_filter]; exact hvd) fun w hw haw => by
          have hwS := List.mem_of_mem_erase hw
          refine List.mem_map.2 ⟨w, List.mem_filter.2 ⟨List.mem_range.2 (hl w hwS), ?_⟩, rfl⟩
          simp [setW_bit.2 hwS, haw]
        exact ⟨c', h1.sub fun i hi => by
          by_cases he : i = v
          · exact .inr he
          · exact .inl ((List.mem_erase_of_ne he).2 hi)⟩
  obtain ⟨c, hc⟩ := key n (List.range n) (by simp) List.nodup_range fun x hx => List.mem_range.1 hx
  exact ⟨c, hc.sub fun i hi => List.mem_range.2 hi⟩

theorem PeelC.same {k W V : Nat} (h : PeelC n ad k W) (h' : PeelC n ad k V) : W = V :=
  word_ext fun j => ⟨h'.great W h.lt h.core j, h.great V h'.lt h'.core j⟩

/-! ### Perfect lists (Rose, Tarjan and Lueker) -/

/-- what of those that are not done i clashes with clashes with each other -/
def SimP (n : Nat) (ad : Nat → Nat → Bool) (done : List Nat) (i : Nat) : Prop := i ∉ done ∧ ∀ j j', j < n → j' < n → j ∉ done → j' ∉ done → ad i j = true → ad i j' = true → j ≠ j' → ad j j' = true

/-- a perfect list -/
structure PerfL (n : Nat) (ad : Nat → Nat → Bool) (l : List Nat) : Prop where
  ord : OrdK n l
  sim : ∀ t i, l[t]? = some i → SimP n ad (l.take t) i

theorem OrdK.rev {o : List Nat} (h : OrdK n o) : OrdK n o.reverse := ⟨by rw [List.length_reverse]; exact h.len, fun i hi => List.mem_reverse.2 (h.all i hi)⟩

/-- colored from its end on, a perfect list needs no more colors than a set of which any two clash has things (Gavril) -/
theorem PerfL.most {l d : List Nat} {W : Nat} (hg : Gr ad) (h : PerfL n ad l) (hd : GrdC n ad l.reverse d) (hW : CliqueC n ad W) : mst d ≤ szW W n := by
  refine mst_le (cof_lt hd.len fun i hi => ?_)
  obtain ⟨hnd, hlt⟩ := h.ord.nodup
  obtain ⟨t, ht⟩ := List.getElem?_of_mem (h.ord.all i hi)
  have htl := (List.getElem?_eq_some_iff.1 ht).1
  have hrev : l.reverse[l.length - 1 - t]? = some i := by
    rw [List.getElem?_reverse (by omega), ← ht]
    congr 1
    omega
  have hs := (h.sim t i ht).2
  have hin := (h.sim t i ht).1
  -- those behind it
  have hbehind : ∀ j, j ∈ l.reverse.take (l.length - 1 - t) → j ∉ l.take t ∧ j ≠ i ∧ j < n := fun j hj => by
    have hj2 : j ∈ l.drop (t + 1) := by
      have e : l.reverse.take (l.length - 1 - t) = (l.drop (t + 1)).reverse := by
        rw [List.take_reverse]
        congr 2
        omega
      rw [e] at hj
      exact List.mem_reverse.1 hj
    have hsp : l = l.take t ++ i :: l.drop (t + 1) := by
      rw [← drop_at ht, List.take_append_drop]
    rw [hsp] at hnd
    obtain ⟨_, h2, h3⟩ := List.nodup_append.1 hnd
    refine ⟨fun hm => h3 j hm j (by simp [hj2]) rfl, fun e => (List.nodup_cons.1 h2).1 (by rw [← e]; exact hj2), hlt j (List.mem_of_mem_drop hj2)⟩
  obtain ⟨Q, hQ⟩ : ∃ Q, (List.range n).filter (fun j => ad i j && decide (j ∉ l.take t)) = Q := ⟨_, rfl⟩
  have hQm : ∀ j, j ∈ Q ↔ j < n ∧ ad i j = true ∧ j ∉ l.take t := fun j => by rw [← hQ, List.mem_filter, List.mem_range]; simp
  have hQd : Q.Nodup := by rw [← hQ]; exact List.nodup_range.filter _
  have hlow : cof d i ≤ Q.length := by
    have := all_len (k := cof d i) (xs := Q.map (cof d)) fun c hc => by
      obtain ⟨j, hj, ha, he⟩ := hd.low _ i hrev c hc
      obtain ⟨h1, h2, h3⟩ := hbehind j hj
      exact List.mem_map.2 ⟨j, (hQm j).2 ⟨h3, ha, h1⟩, he⟩
    rwa [List.length_map] at this
  have hiQ : i ∉ Q := fun hm => by
    have := ((hQm i).1 hm).2.1
    rw [hg.irr] at this
    cases this
  have hclq := hW.len (Q := i :: Q) (List.nodup_cons.2 ⟨hiQ, hQd⟩) (fun x hx => by
    rcases List.mem_cons.1 hx with h1 | h1
    · rw [h1]; exact hi
    · exact ((hQm x).1 h1).1) fun a b ha hb hne => by
      rcases List.mem_cons.1 ha with h1 | h1
      · rcases List.mem_cons.1 hb with h2 | h2
        · exact absurd (h1.trans h2.symm) hne
        · rw [h1]; exact ((hQm b).1 h2).2.1
      · rcases List.mem_cons.1 hb with h2 | h2
        · rw [h2]; exact hg.symm _ _ ((hQm a).1 h1).2.1
        · obtain ⟨a1, a2, a3⟩ := (hQm a).1 h1
          obtain ⟨b1, b2, b3⟩ := (hQm b).1 h2
          exact hs a b a1 b1 a3 b3 a2 b2 hne
  rw [List.length_cons] at hclq
  omega

end

end Go.Proofs.YthmcigdoaededaaDoor
