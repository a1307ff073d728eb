/-
  Plain mathematics of package loop's ways (G1, G2): what leads to each node, a loop gathered backwards, nodes merged: no program's text.
-/
import Derived.Test.YtfijkkllfbpepaaPureLoop
import Derived.Test.YtfijkkllfbpepaaPureNarrow
namespace Go.Proofs.Ytfijkkllfbpepaa
set_option linter.unusedSimpArgs false
set_option linter.unusedVariables false

/-! ### What leads to a node -/

/-- an edge leads from v, which is reached, to i -/
def LdP (nx : List (List Int)) (i v : Nat) : Prop := Rea nx (-1) 0 v ∧ i ∈ sc nx v

/-- .. of the first k nodes -/
def LdQ (nx : List (List Int)) (k i v : Nat) : Prop := v < k ∧ LdP nx i v

/-- .. and by the first c edges of node k -/
def LdR (nx : List (List Int)) (k c i v : Nat) : Prop := LdQ nx k i v ∨ (v = k ∧ i ∈ (sc nx k).take c)

section
variable {nx : List (List Int)}

theorem LdQ.zero {i v : Nat} : LdQ nx 0 i v ↔ False := ⟨fun h => by have := h.1; omega, False.elim⟩

theorem LdQ.skip {k i v : Nat} (h : ¬ Rea nx (-1) 0 k) : LdQ nx k i v ↔ LdQ nx (k + 1) i v := by
  constructor
  · exact fun h1 => ⟨by have := h1.1; omega, h1.2⟩
  · rintro ⟨h1, h2⟩
    refine ⟨?_, h2⟩
    have : v ≠ k := fun e => h (e ▸ h2.1)
    omega

theorem LdR.zero {k i v : Nat} : LdQ nx k i v ↔ LdR nx k 0 i v := ⟨.inl, fun h => h.resolve_right fun h => by simp at h⟩

theorem LdR.more {k c i v t : Nat} (ht : (sc nx k)[c]? = some t) : (LdR nx k c i v ∨ (i = t ∧ v = k)) ↔ LdR nx k (c + 1) i v := by
  unfold LdR
  rw [List.take_add_one, ht, Option.toList_some, List.mem_append, List.mem_singleton]
  constructor
  · rintro ((h | ⟨h1, h2⟩) | ⟨h1, h2⟩)
    · exact .inl h
    · exact .inr ⟨h1, .inl h2⟩
    · exact .inr ⟨h2, .inr h1⟩
  · rintro (h | ⟨h1, h2 | h2⟩)
    · exact .inl (.inl h)
    · exact .inl (.inr ⟨h1, h2⟩)
    · exact .inr ⟨h2, h1⟩

theorem LdR.done {k c i v : Nat} (hc : (sc nx k).length ≤ c) (hr : Rea nx (-1) 0 k) : LdR nx k c i v ↔ LdQ nx (k + 1) i v := by
  unfold LdR LdQ LdP
  rw [List.take_of_length_le hc]
  constructor
  · rintro (⟨h1, h2⟩ | ⟨rfl, h⟩)
    · exact ⟨by omega, h2⟩
    · exact ⟨by omega, hr, h⟩
  · rintro ⟨h1, h2, h3⟩
    by_cases e : v = k
    · subst e; exact .inr ⟨rfl, h3⟩
    · exact .inl ⟨by omega, h2, h3⟩

theorem LdQ.all (hc : ckWay nx = 0) {i v : Nat} : LdQ nx nx.length i v ↔ LdP nx i v := by
  have hb := ckWay_bd hc
  exact ⟨fun h => h.2, fun h => ⟨h.1.lt hc (by omega), h⟩⟩

/-- a whole word more -/
theorem EgI.or {eg : List Nat} {Q : Nat → Nat → Prop} {R : Nat → Prop} (h : EgI nx eg Q) {a W V : Nat} (hW : eg[a]? = some W) (hV : V < 256) (hR : ∀ j, V.testBit j = true ↔ R j) : EgI nx (eg.set a (W ||| V)) (fun i j => Q i j ∨ (i = a ∧ R j)) := by
  have hat : ∀ {i U : Nat}, (eg.set a (W ||| V))[i]? = some U → (i = a ∧ U = W ||| V) ∨ (i ≠ a ∧ eg[i]? = some U) := by
    intro i U hU
    rw [List.getElem?_set] at hU
    split at hU
    · rename_i e
      subst e
      rw [if_pos (List.getElem?_eq_some_iff.1 hW).1] at hU
      injection hU with hU
      exact .inl ⟨rfl, hU.symm⟩
    · rename_i e
      exact .inr ⟨fun e' => e e'.symm, hU⟩
  refine ⟨by rw [List.length_set]; exact h.len, fun i U hU => ?_, fun i U hU j => ?_⟩
  · rcases hat hU with ⟨rfl, rfl⟩ | ⟨_, h2⟩
    · exact Nat.or_lt_two_pow (n := 8) (h.lt i W hW) hV
    · exact h.lt i U h2
  · rcases hat hU with ⟨rfl, rfl⟩ | ⟨hne, h2⟩
    · rw [Nat.testBit_or, Bool.or_eq_true, h.mem i W hW j, hR]
      exact ⟨fun h => h.imp id fun e => ⟨rfl, e⟩, fun h => h.imp id fun e => e.2⟩
    · rw [h.mem i U h2 j]
      exact ⟨.inl, fun h => h.resolve_right fun e => hne e.1⟩

end

/-! ### A loop gathered -/

/-- a word without a bit -/
def clW (W i : Nat) : Nat := W &&& (4294967295 - 2 ^ i)

theorem clW_bit {W i : Nat} (hi : i < 32) (k : Nat) : (clW W i).testBit k = true ↔ W.testBit k = true ∧ k ≠ i ∧ k < 32 := by
  have hp : 2 ^ i < 2 ^ 32 := Nat.pow_lt_pow_right (by omega) hi
  unfold clW
  rw [Nat.testBit_and, Bool.and_eq_true, show 4294967295 - 2 ^ i = 2 ^ 32 - (2 ^ i + 1) by omega, Nat.testBit_two_pow_sub_succ hp, Bool.and_eq_true, decide_eq_true_eq, Bool.not_eq_true', Nat.testBit_two_pow, decide_eq_false_iff_not]
  exact ⟨fun h => ⟨h.1, fun e => h.2.2 e.symm, h.2.1⟩, fun h => ⟨h.1, h.2.2, fun e => h.2.1 e.symm⟩⟩

theorem bit_lt {W k n : Nat} (h : W < 2 ^ n) (hb : W.testBit k = true) : k < n := by
  refine Classical.byContradiction fun hk => ?_
  have : W < 2 ^ k := Nat.lt_of_lt_of_le h (Nat.pow_le_pow_right (by omega) (by omega))
  rw [Nat.testBit_lt_two_pow this] at hb
  cases hb

theorem clW_bit8 {W i : Nat} (hW : W < 256) (hi : i < 32) (k : Nat) : (clW W i).testBit k = true ↔ W.testBit k = true ∧ k ≠ i := by
  rw [clW_bit hi]
  exact ⟨fun h => ⟨h.1, h.2.1⟩, fun h => ⟨h.1, h.2, by have := bit_lt (n := 8) hW h.1; omega⟩⟩

theorem clW_le (W i : Nat) : clW W i ≤ W := Nat.and_le_left

/-- G1: what is in the loop that the edge from a to h closes -/
def BdP (nx : List (List Int)) (a h x : Nat) : Prop := x = h ∨ (Rea nx (-1) 0 x ∧ Rea nx (h : Int) x a)

/-- backwards: all from which one comes here -/
theorem Rea.backw {nx : List (List Int)} {wo : Int} {S : Nat → Prop} {j a : Nat} (h : Rea nx wo j a) (h0 : S a) (hs : ∀ x y, S y → y ∈ sc nx x → (x : Int) ≠ wo → (y : Int) ≠ wo → S x) : S j := by
  induction h with
  | here => exact h0
  | step h1 h2 h3 ih => exact ih (hs _ _ h0 h2 h1.stop h3)

/-- on the way to the loop -/
structure BdI (nx : List (List Int)) (a h m : Nat) : Prop where
  lt : m < 256
  head : m.testBit h = true
  tail : m.testBit a = true
  sub : ∀ j, m.testBit j = true → BdP nx a h j

section
variable {nx : List (List Int)} {bs : List Nat} {a h m : Nat}

theorem or_one_bit (W i k : Nat) : (W ||| 2 ^ i).testBit k = true ↔ W.testBit k = true ∨ k = i := by
  rw [Nat.testBit_or, Bool.or_eq_true, Nat.testBit_two_pow, decide_eq_true_eq]
  exact ⟨fun h => h.imp id Eq.symm, fun h => h.imp id Eq.symm⟩

theorem two_pow_bit (i k : Nat) : (2 ^ i).testBit k = true ↔ k = i := by
  rw [Nat.testBit_two_pow, decide_eq_true_eq]
  exact eq_comm

theorem BdI.start (ha : a < 8) (hh : h < 8) (hr : Rea nx (-1) 0 a) : BdI nx a h (2 ^ h ||| 2 ^ a) := by
  refine ⟨Nat.or_lt_two_pow (n := 8) (Nat.pow_lt_pow_right (by omega) hh) (Nat.pow_lt_pow_right (by omega) ha), ?_, ?_, fun j hj => ?_⟩
  · rw [or_one_bit, two_pow_bit]; exact .inl rfl
  · rw [or_one_bit]; exact .inr rfl
  · rw [or_one_bit, two_pow_bit] at hj
    rcases hj with hj | hj
    · exact .inl hj
    · subst hj
      by_cases e : j = h
      · exact .inl e
      · exact .inr ⟨hr, .here (int_ne e)⟩

theorem BdI.next (hb : EgI nx bs (LdP nx)) (hh : h < 8) (hi : BdI nx a h m) : BdI nx a h (m ||| frW bs (clW m h) nx.length) := by
  refine ⟨Nat.or_lt_two_pow (n := 8) hi.lt (frW_lt (n := 8) hb.lt _), ?_, ?_, fun j hj => ?_⟩
  · rw [Nat.testBit_or, hi.head]; rfl
  · rw [Nat.testBit_or, hi.tail]; rfl
  · rw [Nat.testBit_or, Bool.or_eq_true] at hj
    rcases hj with hj | hj
    · exact hi.sub j hj
    · obtain ⟨i, h1, h2, h3⟩ := frW_bit.1 hj
      have hie : bs[i]? = some (bs.getD i 0) := by
        rw [List.getD_eq_getElem?_getD, List.getElem?_eq_getElem (by rw [hb.len]; exact h1)]; rfl
      obtain ⟨h4, h5⟩ := (hb.mem i _ hie j).1 h3
      obtain ⟨h6, h7⟩ := (clW_bit8 hi.lt (by omega) i).1 h2
      rcases hi.sub i h6 with e | ⟨_, h8⟩
      · exact absurd e h7
      · by_cases e : j = h
        · exact .inl e
        · exact .inr ⟨h4, (Rea.edge (int_ne e) h5 (int_ne h7)).trans h8⟩

theorem BdI.le (m x : Nat) : m ≤ m ||| x := Nat.left_le_or

theorem BdI.done (hc : ckWay nx = 0) (hb : EgI nx bs (LdP nx)) (hh : h < 8) (hi : BdI nx a h m) (hm : m ||| frW bs (clW m h) nx.length = m) (j : Nat) : m.testBit j = true ↔ BdP nx a h j := by
  refine ⟨hi.sub j, fun hj => ?_⟩
  rcases hj with rfl | ⟨hr, hja⟩
  · exact hi.head
  · refine hja.backw (S := fun x => Rea nx (-1) 0 x → m.testBit x = true) (fun _ => hi.tail) (fun x y hy hxy hx hyh hrx => ?_) hr
    have hry := hrx.step hxy (nat_ne y)
    have hmy := hy hry
    have hyl : y < nx.length := sc_lt hc hxy
    have hie : bs[y]? = some (bs.getD y 0) := by
      rw [List.getD_eq_getElem?_getD, List.getElem?_eq_getElem (by rw [hb.len]; exact hyl)]; rfl
    rw [← hm, Nat.testBit_or, Bool.or_eq_true]
    refine .inr (frW_bit.2 ⟨y, hyl, (clW_bit8 hi.lt (by omega) y).2 ⟨hmy, by omega⟩, (hb.mem y _ hie x).2 ⟨hrx, hxy⟩⟩)

end

/-! ### The edges that close a loop -/

/-- does the target rule the source, by the table? -/
def clB (tb : List Nat) (p : Nat × Nat) : Bool := (tb.getD p.1 0).testBit p.2

/-- those of the first k that do -/
def clK (nx : List (List Int)) (tb : List Nat) (k : Nat) : List (Nat × Nat) := ((bkL nx).take k).filter (clB tb)

/-- .. and those that don't -/
def otK (nx : List (List Int)) (tb : List Nat) (k : Nat) : List (Nat × Nat) := ((bkL nx).take k).filter fun p => !clB tb p

section
variable {nx : List (List Int)} {tb : List Nat}

theorem clK_yes {k : Nat} {p : Nat × Nat} (hp : (bkL nx)[k]? = some p) (hb : clB tb p = true) : clK nx tb (k + 1) = clK nx tb k ++ [p] ∧ otK nx tb (k + 1) = otK nx tb k := by
  unfold clK otK
  rw [List.take_add_one, hp, Option.toList_some, List.filter_append, List.filter_append]
  simp [hb]

theorem clK_no {k : Nat} {p : Nat × Nat} (hp : (bkL nx)[k]? = some p) (hb : clB tb p = false) : clK nx tb (k + 1) = clK nx tb k ∧ otK nx tb (k + 1) = otK nx tb k ++ [p] := by
  unfold clK otK
  rw [List.take_add_one, hp, Option.toList_some, List.filter_append, List.filter_append]
  simp [hb]

theorem clK_len (k : Nat) : (clK nx tb k).length ≤ (bkL nx).length := by
  refine Nat.le_trans (List.length_filter_le _ _) ?_
  rw [List.length_take]
  omega

theorem otK_len (k : Nat) : (otK nx tb k).length ≤ (bkL nx).length := by
  refine Nat.le_trans (List.length_filter_le _ _) ?_
  rw [List.length_take]
  omega

/-- all that close a loop, all that don't -/
def clL (nx : List (List Int)) (tb : List Nat) : List (Nat × Nat) := (bkL nx).filter (clB tb)

def otL (nx : List (List Int)) (tb : List Nat) : List (Nat × Nat) := (bkL nx).filter fun p => !clB tb p

theorem clK_all : clK nx tb (bkL nx).length = clL nx tb := by unfold clK clL; rw [List.take_length]

theorem otK_all : otK nx tb (bkL nx).length = otL nx tb := by unfold otK otL; rw [List.take_length]

/-- the table says who rules whom -/
structure TbP (nx : List (List Int)) (tb : List Nat) : Prop where
  len : tb.length = nx.length
  mem : ∀ (i W : Nat), tb[i]? = some W → ∀ j, W.testBit j = true ↔ Dom nx j i

theorem clB_iff (hc : ckWay nx = 0) (ht : TbP nx tb) {a b : Nat} (hp : (a, b) ∈ bkL nx) : clB tb (a, b) = true ↔ Dom nx b a := by
  have hal : a < nx.length := (bkM_mem.1 hp).1
  have hie : tb[a]? = some (tb.getD a 0) := by
    rw [List.getD_eq_getElem?_getD, List.getElem?_eq_getElem (by rw [ht.len]; exact hal)]; rfl
  exact ht.mem a _ hie b

theorem clL_mem (hc : ckWay nx = 0) (ht : TbP nx tb) {a b : Nat} : (a, b) ∈ clL nx tb ↔ (a, b) ∈ bkL nx ∧ Dom nx b a := by
  unfold clL
  rw [List.mem_filter]
  exact ⟨fun h => ⟨h.1, (clB_iff hc ht h.1).1 h.2⟩, fun h => ⟨h.1, (clB_iff hc ht h.1).2 h.2⟩⟩

theorem ot_tame (hc : ckWay nx = 0) (ht : TbP nx tb) : (otL nx tb).length = 0 ↔ TameP nx := by
  rw [List.length_eq_zero_iff]
  unfold otL
  rw [List.filter_eq_nil_iff]
  constructor
  · intro h a b hab
    have := h (a, b) hab
    refine (clB_iff hc ht hab).1 ?_
    cases hb : clB tb (a, b) with
    | true => rfl
    | false => rw [hb] at this; exact absurd rfl this
  · rintro h ⟨a, b⟩ hab
    rw [(clB_iff hc ht hab).2 (h a b hab)]
    simp

/-- of the first k edges that close a loop: what is in the loops of a head -/
def LpQ (nx : List (List Int)) (tb : List Nat) (k h x : Nat) : Prop := ∃ a, (a, h) ∈ (clL nx tb).take k ∧ BdP nx a h x

theorem LpQ.zero {h x : Nat} : LpQ nx tb 0 h x ↔ False := ⟨fun ⟨a, h, _⟩ => by simp at h, False.elim⟩

theorem LpQ.more {k a b h x : Nat} (hk : (clL nx tb)[k]? = some (a, b)) : (LpQ nx tb k h x ∨ (h = b ∧ BdP nx a b x)) ↔ LpQ nx tb (k + 1) h x := by
  unfold LpQ
  rw [List.take_add_one, hk, Option.toList_some]
  constructor
  · rintro (⟨c, h1, h2⟩ | ⟨rfl, h2⟩)
    · exact ⟨c, List.mem_append_left _ h1, h2⟩
    · exact ⟨a, by simp, h2⟩
  · rintro ⟨c, h1, h2⟩
    rcases List.mem_append.1 h1 with h1 | h1
    · exact .inl ⟨c, h1, h2⟩
    · rw [List.mem_singleton] at h1
      injection h1 with e1 e2
      subst e1 e2
      exact .inr ⟨rfl, h2⟩

theorem LpQ.all (hc : ckWay nx = 0) (ht : TbP nx tb) {h x : Nat} : LpQ nx tb (clL nx tb).length h x ↔ LoopP nx h x := by
  unfold LpQ LoopP
  rw [List.take_length]
  constructor
  · rintro ⟨a, h1, h2⟩
    obtain ⟨h3, h4⟩ := (clL_mem hc ht).1 h1
    exact ⟨a, h3, h4, h2⟩
  · rintro ⟨a, h1, h2, h3⟩
    exact ⟨a, (clL_mem hc ht).2 ⟨h1, h2⟩, h3⟩

end

/-! ### Merged -/

/-- the nodes of a word -/
def ndW (n L : Nat) : List Nat := (List.range n).filter fun x => L.testBit x

theorem ndW_mem {n L x : Nat} : x ∈ ndW n L ↔ x < n ∧ L.testBit x = true := by unfold ndW; rw [List.mem_filter, List.mem_range]

theorem ndW_nodup (n L : Nat) : (ndW n L).Nodup := List.nodup_range.filter _

theorem ndW_len (L : Nat) : ∀ n, (ndW n L).length = szW L n
  | 0 => rfl
  | n + 1 => by
    have ih := ndW_len L n
    unfold ndW at ih ⊢
    rw [List.range_succ, List.filter_append, List.length_append, ih, szW]
    by_cases h : L.testBit n = true
    · simp [h]
    · simp [h]

/-- the graph of what is left: its nodes, and for each what leads to it -/
def gW (n L : Nat) (bs : List Nat) : Gf := ⟨ndW n L, fun x y => (bs.getD y 0).testBit x = true⟩

theorem getD_at {bs : List Nat} {i W : Nat} (h : bs[i]? = some W) : bs.getD i 0 = W := by rw [List.getD_eq_getElem?_getD, h]; rfl

theorem getD_out {bs : List Nat} {i : Nat} (h : bs.length ≤ i) : bs.getD i 0 = 0 := by rw [List.getD_eq_getElem?_getD, List.getElem?_eq_none h]; rfl

theorem getD_set {bs : List Nat} {i x j : Nat} (hi : i < bs.length) : (bs.set i x).getD j 0 = if j = i then x else bs.getD j 0 := by
  rw [List.getD_eq_getElem?_getD, List.getElem?_set, List.getD_eq_getElem?_getD]
  by_cases e : i = j
  · subst e; rw [if_pos rfl, if_pos hi, if_pos rfl]; rfl
  · rw [if_neg e, if_neg (Ne.symm e)]

/-- on the way -/
structure FdI (nx : List (List Int)) (L : Nat) (bs : List Nat) : Prop where
  len : bs.length = nx.length
  inn : ∀ i v, (bs.getD i 0).testBit v = true → L.testBit i = true ∧ L.testBit v = true
  ltL : L < 2 ^ nx.length
  red : ∀ k, Red (gW nx.length L bs) k → Red (gOf nx) k

section
variable {nx : List (List Int)} {L : Nat} {bs : List Nat}

theorem FdI.lt (h : FdI nx L bs) (h8 : nx.length ≤ 8) {i W : Nat} (hW : bs[i]? = some W) : W < 256 :=
  lt_of_bits (n := 8) fun j hj => by
    have := bit_lt h.ltL (h.inn i j (by rw [getD_at hW]; exact hj)).2
    omega

theorem FdI.start (hc : ckWay nx = 0) (hb : EgI nx bs (LdP nx)) (hL : ∀ i, L.testBit i = true ↔ Rea nx (-1) 0 i) : FdI nx L bs := by
  have hbd := ckWay_bd hc
  have at_ : ∀ i, i < nx.length → bs[i]? = some (bs.getD i 0) := fun i hi => by
    rw [List.getD_eq_getElem?_getD, List.getElem?_eq_getElem (by rw [hb.len]; exact hi)]; rfl
  have hlt : ∀ i v, (bs.getD i 0).testBit v = true → i < nx.length := fun i v h => Classical.byContradiction fun hn => by
    rw [getD_out (by rw [hb.len]; omega)] at h
    simp at h
  refine ⟨hb.len, fun i v h => ?_, lt_of_bits fun j hj => ((hL j).1 hj).lt hc (by omega), fun k hk => ?_⟩
  · obtain ⟨h1, h2⟩ := (hb.mem i _ (at_ i (hlt i v h)) v).1 h
    exact ⟨(hL i).2 (h1.step h2 (nat_ne i)), (hL v).2 h1⟩
  · have he : Eqv (gW nx.length L bs) (gOf nx) := by
      have hmem : ∀ x, x ∈ ndW nx.length L ↔ x ∈ finL nx := fun x => by
        rw [ndW_mem, hL, fin_mem hc]
        exact ⟨fun h => h.2, fun h => ⟨h.lt hc (by omega), h⟩⟩
      refine ⟨fin_nodup hc, hmem, fun x y hx hy _ => ?_⟩
      have hyl : y < nx.length := (ndW_mem.1 hy).1
      have hrx : Rea nx (-1) 0 x := (hL x).1 (ndW_mem.1 hx).2
      show (bs.getD y 0).testBit x = true ↔ y ∈ sc nx x
      rw [hb.mem y _ (at_ y hyl) x]
      exact ⟨fun h => h.2, fun h => ⟨hrx, h⟩⟩
    exact he.red (ndW_nodup _ _) hk

/-- T1 -/
theorem FdI.self (h : FdI nx L bs) (h8 : nx.length ≤ 8) {v W : Nat} (hW : bs[v]? = some W) : FdI nx L (bs.set v (clW W v)) := by
  have hvl : v < bs.length := (List.getElem?_eq_some_iff.1 hW).1
  have hW8 := h.lt h8 hW
  have hv8 : v < 32 := by have := h.len; omega
  have hbit : ∀ i x, x ≠ i → (((bs.set v (clW W v)).getD i 0).testBit x = true ↔ (bs.getD i 0).testBit x = true) := fun i x hne => by
    rw [getD_set hvl]
    by_cases e : i = v
    · subst e
      rw [if_pos rfl, clW_bit8 hW8 hv8, getD_at hW]
      exact ⟨fun h => h.1, fun h => ⟨h, hne⟩⟩
    · rw [if_neg e]
  refine ⟨by rw [List.length_set]; exact h.len, fun i x hx => ?_, h.ltL, fun k hk => h.red k ?_⟩
  · rw [getD_set hvl] at hx
    by_cases e : i = v
    · subst e
      rw [if_pos rfl, clW_bit8 hW8 hv8] at hx
      exact h.inn i x (by rw [getD_at hW]; exact hx.1)
    · rw [if_neg e] at hx
      exact h.inn i x hx
  · have he : Eqv (gW nx.length L (bs.set v (clW W v))) (gW nx.length L bs) := ⟨ndW_nodup _ _, fun x => Iff.rfl, fun x y _ _ hne => hbit y x hne⟩
    exact he.red (ndW_nodup _ _) hk

/-- what merge makes of the words of the first m nodes -/
structure MgI (n v I m : Nat) (bs bs' : List Nat) : Prop where
  len : bs'.length = n
  at_ : ∀ i, bs'.getD i 0 = if i = v then 0 else if i < m ∧ (bs.getD i 0).testBit v = true then clW (bs.getD i 0) v ||| I else bs.getD i 0

theorem MgI.start {n v I : Nat} (hl : bs.length = n) (hv : v < n) : MgI n v I 0 bs (bs.set v 0) := by
  refine ⟨by rw [List.length_set]; exact hl, fun i => ?_⟩
  rw [getD_set (by omega)]
  by_cases e : i = v
  · rw [if_pos e, if_pos e]
  · rw [if_neg e, if_neg e, if_neg (by omega)]

theorem MgI.skip {n v I m : Nat} {bs' : List Nat} (h : MgI n v I m bs bs') (hb : (bs'.getD m 0).testBit v = false) : MgI n v I (m + 1) bs bs' := by
  refine ⟨h.len, fun i => ?_⟩
  rw [h.at_ i]
  by_cases e : i = v
  · rw [if_pos e, if_pos e]
  · rw [if_neg e, if_neg e]
    by_cases e2 : i = m
    · subst e2
      rw [h.at_ i, if_neg e, if_neg (by omega)] at hb
      rw [if_neg (by omega), if_neg (by rw [hb]; simp)]
    · have : (i < m ∧ (bs.getD i 0).testBit v = true) ↔ (i < m + 1 ∧ (bs.getD i 0).testBit v = true) := ⟨fun h => ⟨by omega, h.2⟩, fun h => ⟨by omega, h.2⟩⟩
      simp only [this]

theorem MgI.more {n v I m : Nat} {bs' : List Nat} (h : MgI n v I m bs bs') (hm : m < n) (hb : (bs'.getD m 0).testBit v = true) : MgI n v I (m + 1) bs (bs'.set m (clW (bs'.getD m 0) v ||| I)) := by
  have hmv : m ≠ v := fun e => by
    rw [h.at_ m, if_pos e] at hb
    simp at hb
  have hsame : bs'.getD m 0 = bs.getD m 0 := by rw [h.at_ m, if_neg hmv, if_neg (by omega)]
  refine ⟨by rw [List.length_set]; exact h.len, fun i => ?_⟩
  rw [getD_set (by rw [h.len]; exact hm)]
  by_cases e2 : i = m
  · subst e2
    rw [if_pos rfl, if_neg hmv, if_pos ⟨by omega, by rw [← hsame]; exact hb⟩, hsame]
  · rw [if_neg e2, h.at_ i]
    have : (i < m ∧ (bs.getD i 0).testBit v = true) ↔ (i < m + 1 ∧ (bs.getD i 0).testBit v = true) := ⟨fun h => ⟨by omega, h.2⟩, fun h => ⟨by omega, h.2⟩⟩
    simp only [this]

/-- T2 -/
theorem FdI.merge (hc : ckWay nx = 0) (h : FdI nx L bs) {v p : Nat} {bs' : List Nat} (hv : v ≠ 0) (hW : bs[v]? = some (2 ^ p)) (hpv : p ≠ v) (hm : MgI nx.length v (2 ^ p) nx.length bs bs') : FdI nx (clW L v) bs' := by
  have hbd := ckWay_bd hc
  have hvl : v < nx.length := by rw [← h.len]; exact (List.getElem?_eq_some_iff.1 hW).1
  have hgW : bs.getD v 0 = 2 ^ p := getD_at hW
  obtain ⟨hLv, hLp⟩ := h.inn v p (by rw [hgW, two_pow_bit])
  have hpl : p < nx.length := bit_lt h.ltL hLp
  have hL8 : L < 256 := Nat.lt_of_lt_of_le h.ltL (show 2 ^ nx.length ≤ 2 ^ 8 from Nat.pow_le_pow_right (by omega) (by omega))
  have hcl := fun k => clW_bit8 hL8 (show v < 32 by omega) k
  have hW8 : ∀ i, bs.getD i 0 < 256 := fun i => by
    rcases Nat.lt_or_ge i bs.length with hi | hi
    · exact h.lt (by omega) (show bs[i]? = some (bs.getD i 0) by rw [List.getD_eq_getElem?_getD, List.getElem?_eq_getElem hi]; rfl)
    · rw [getD_out hi]; omega
  have hbits : ∀ i x, (bs'.getD i 0).testBit x = true ↔ i ≠ v ∧ (((bs.getD i 0).testBit x = true ∧ ((bs.getD i 0).testBit v = true → x ≠ v)) ∨ (x = p ∧ (bs.getD i 0).testBit v = true)) := fun i x => by
    rw [hm.at_ i]
    by_cases e : i = v
    · rw [if_pos e]; simp [e]
    · rw [if_neg e]
      by_cases hb : (bs.getD i 0).testBit v = true
      · have hil : i < nx.length := Classical.byContradiction fun hn => by
          rw [getD_out (by rw [h.len]; omega)] at hb
          simp at hb
        rw [if_pos ⟨hil, hb⟩, or_one_bit, clW_bit8 (hW8 i) (by omega)]
        constructor
        · rintro (⟨h1, h2⟩ | h1)
          · exact ⟨e, .inl ⟨h1, fun _ => h2⟩⟩
          · exact ⟨e, .inr ⟨h1, hb⟩⟩
        · rintro ⟨_, ⟨h1, h2⟩ | ⟨h1, _⟩⟩
          · exact .inl ⟨h1, h2 hb⟩
          · exact .inr h1
      · rw [if_neg (fun h => hb h.2)]
        constructor
        · intro h1
          exact ⟨e, .inl ⟨h1, fun h => absurd h hb⟩⟩
        · rintro ⟨_, ⟨h1, _⟩ | ⟨_, h1⟩⟩
          · exact h1
          · exact absurd h1 hb
  refine ⟨hm.len, fun i x hx => ?_, Nat.lt_of_le_of_lt (clW_le _ _) h.ltL, fun k hk => h.red k ?_⟩
  · obtain ⟨h1, h2⟩ := (hbits i x).1 hx
    rcases h2 with ⟨h2, h3⟩ | ⟨rfl, h2⟩
    · obtain ⟨h4, h5⟩ := h.inn i x h2
      refine ⟨(hcl i).2 ⟨h4, h1⟩, (hcl x).2 ⟨h5, fun e => ?_⟩⟩
      subst e
      exact h3 h2 rfl
    · exact ⟨(hcl i).2 ⟨(h.inn i v h2).1, h1⟩, (hcl x).2 ⟨hLp, hpv⟩⟩
  · have hs : Stp (gW nx.length L bs) (gW nx.length (clW L v) bs') v p := by
      refine ⟨⟨hv, ndW_mem.2 ⟨hvl, hLv⟩, ndW_mem.2 ⟨hpl, hLp⟩, hpv, ?_, fun q _ _ hq => ?_⟩, ndW_nodup _ _, fun x => ?_, fun x y hx hy hne => ?_⟩
      · show (bs.getD v 0).testBit p = true
        rw [hgW, two_pow_bit]
      · change (bs.getD v 0).testBit q = true at hq
        rw [hgW, two_pow_bit] at hq
        exact hq
      · show x ∈ ndW nx.length (clW L v) ↔ x ∈ ndW nx.length L ∧ x ≠ v
        rw [ndW_mem, ndW_mem, hcl, and_assoc]
      · have hxv : x ≠ v := ((hcl x).1 (ndW_mem.1 hx).2).2
        have hyv : y ≠ v := ((hcl y).1 (ndW_mem.1 hy).2).2
        show (bs'.getD y 0).testBit x = true ↔ (bs.getD y 0).testBit x = true ∨ (x = p ∧ (bs.getD y 0).testBit v = true)
        rw [hbits]
        constructor
        · rintro ⟨_, ⟨h1, _⟩ | h1⟩
          · exact .inl h1
          · exact .inr h1
        · rintro (h1 | h1)
          · exact ⟨hyv, .inl ⟨h1, fun _ => hxv⟩⟩
          · exact ⟨hyv, .inr h1⟩
    exact .step hs hk

/-- nothing is to be done at the first m nodes -/
def QtI (bs : List Nat) (m : Nat) : Prop := ∀ v, v < m → (bs.getD v 0).testBit v = false ∧ (v = 0 ∨ szW (bs.getD v 0) 8 ≠ 1)

theorem szW_one1 {n W p : Nat} (hp : p < n) (hW : W.testBit p = true) (h : ∀ q, q < n → W.testBit q = true → q = p) : szW W n = 1 := by
  rw [← ndW_len]
  have h1 : ∀ x, x ∈ ndW n W ↔ x ∈ [p] := fun x => by
    rw [ndW_mem, List.mem_singleton]
    exact ⟨fun h2 => h x h2.1 h2.2, fun e => by subst e; exact ⟨hp, hW⟩⟩
  exact set_len (ndW_nodup _ _) (by simp) h1

theorem szW_pow {n W : Nat} (hW : W < 2 ^ n) (h : szW W n = 1) : ∃ p, p < n ∧ W = 2 ^ p := by
  rw [← ndW_len] at h
  obtain ⟨p, hp⟩ := List.length_eq_one_iff.1 h
  have hm : ∀ x, x < n ∧ W.testBit x = true ↔ x = p := fun x => by rw [← ndW_mem, hp, List.mem_singleton]
  have hpp := (hm p).2 rfl
  refine ⟨p, hpp.1, word_ext fun j => ?_⟩
  rw [two_pow_bit]
  exact ⟨fun hj => (hm j).1 ⟨bit_lt hW hj, hj⟩, fun e => by subst e; exact hpp.2⟩

theorem FdI.stop (hc : ckWay nx = 0) (h : FdI nx L bs) (hq : QtI bs nx.length) : Red (gOf nx) (szW L nx.length) := by
  have hbd := ckWay_bd hc
  refine h.red _ ?_
  rw [← ndW_len]
  refine .stop (G := gW nx.length L bs) fun i p hcl => ?_
  have hil := (ndW_mem.1 hcl.iV).1
  have hpl := (ndW_mem.1 hcl.pV).1
  obtain ⟨h1, h2⟩ := hq i hil
  rcases h2 with h2 | h2
  · exact hcl.i0 h2
  · have hE : (bs.getD i 0).testBit p = true := hcl.e
    refine h2 (szW_one1 (p := p) (by omega) hE fun q _ hq2 => ?_)
    have hin := (h.inn i q hq2).2
    by_cases e : q = i
    · subst e; rw [h1] at hq2; cases hq2
    · exact hcl.one q (ndW_mem.2 ⟨bit_lt h.ltL hin, hin⟩) e hq2

theorem QtI.next {m W : Nat} (h : QtI bs m) (hW : bs[m]? = some W) (hm : m < 32) (hW8 : W < 256) (hs : m = 0 ∨ szW (clW W m) 8 ≠ 1) : QtI (bs.set m (clW W m)) (m + 1) := by
  have hml : m < bs.length := (List.getElem?_eq_some_iff.1 hW).1
  intro v hv
  rw [getD_set hml]
  by_cases e : v = m
  · subst e
    rw [if_pos rfl]
    refine ⟨?_, hs⟩
    cases hb : (clW W v).testBit v with
    | false => rfl
    | true => exact absurd rfl ((clW_bit8 hW8 hm v).1 hb).2
  · rw [if_neg e]
    exact h v (by omega)

theorem szW_clW {n L v : Nat} (hL : L < 256) (hv : v < n) (hv32 : v < 32) (hb : L.testBit v = true) : szW (clW L v) n + 1 = szW L n := by
  have h1 : (ndW n (clW L v)).length = ((ndW n L).erase v).length := set_len (ndW_nodup _ _) ((ndW_nodup _ _).erase v) fun x => by
    rw [(ndW_nodup n L).mem_erase_iff, ndW_mem, ndW_mem, clW_bit8 hL hv32]
    exact ⟨fun h => ⟨h.2.2, h.1, h.2.1⟩, fun h => ⟨h.2.1, h.2.2, h.1⟩⟩
  have hm : v ∈ ndW n L := ndW_mem.2 ⟨hv, hb⟩
  have h2 := List.length_erase_of_mem hm
  have := List.length_pos_of_mem hm
  rw [ndW_len] at h1
  rw [h2, ndW_len] at h1
  rw [ndW_len] at this
  omega

end

end Go.Proofs.Ytfijkkllfbpepaa
