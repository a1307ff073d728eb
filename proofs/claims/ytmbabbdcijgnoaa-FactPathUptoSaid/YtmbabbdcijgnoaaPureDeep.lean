/-
  Plain mathematics of the search in depth (E2): the order in which nodes are left; the pairs that go back: no program's text.
-/
import Derived.Test.YtmbabbdcijgnoaaPureWay
namespace Go.Proofs.Ytmbabbdcijgnoaa
set_option linter.unusedSimpArgs false
set_option linter.unusedVariables false

/-- what was seen, what was left -/
abbrev Sn := List Nat × List Nat

/-- the search from i on -/
def wkF (nx : List (List Int)) : Nat → Nat → Sn → Sn
  | 0, _, s => s
  | f + 1, i, s =>
    let r := (sc nx i).foldl (fun s j => if j ∈ s.1 then s else wkF nx f j s) (s.1 ++ [i], s.2)
    (r.1, r.2 ++ [i])

/-- one node of a list -/
def wkJ (nx : List (List Int)) (f : Nat) (s : Sn) (j : Nat) : Sn := if j ∈ s.1 then s else wkF nx f j s

theorem wkF_succ (nx : List (List Int)) (f i : Nat) (s : Sn) : wkF nx (f + 1) i s = (((sc nx i).foldl (wkJ nx f) (s.1 ++ [i], s.2)).1, ((sc nx i).foldl (wkJ nx f) (s.1 ++ [i], s.2)).2 ++ [i]) := rfl

/-- an edge to a node without which one comes here -/
def Fw (nx : List (List Int)) (a b : Nat) : Prop := b ∈ sc nx a ∧ Rea nx (b : Int) 0 a

/-- .. on and on -/
inductive Frea (nx : List (List Int)) (i : Nat) : Nat → Prop
  | here : Frea nx i i
  | step {j k : Nat} : Frea nx i j → Fw nx j k → Frea nx i k

theorem Frea.rea {nx : List (List Int)} {i j : Nat} (h : Frea nx i j) : Rea nx (-1) i j := by
  induction h with
  | here => exact Rea.me nx i
  | step _ h ih => exact ih.step h.1 (nat_ne _)

structure Wk (nx : List (List Int)) (i : Nat) (s r : Sn) (new newl : List Nat) : Prop where
  e1 : r.1 = s.1 ++ new
  e2 : r.2 = s.2 ++ newl
  nd : r.1.Nodup
  lt : ∀ x ∈ r.1, x < nx.length
  mem : ∀ x, x ∈ newl ↔ x ∈ new
  ln : newl.length = new.length
  ndl : newl.Nodup
  rea : ∀ x ∈ new, Rea nx (-1) i x
  cl : ∀ x ∈ new, ∀ b ∈ sc nx x, b ∈ r.1
  gd : (∀ g ∈ s.1, g ∉ s.2 → Frea nx g i) → (∀ x, x ∉ s.1 → x ≠ i → Rea nx (x : Int) 0 i) → ∀ p a q, newl = p ++ a :: q → ∀ b ∈ sc nx a, b ∈ s.2 ∨ b ∈ p ∨ Frea nx b a

/-- what is asked ahead -/
structure Wa (nx : List (List Int)) (f : Nat) (s : Sn) : Prop where
  nd : s.1.Nodup
  lt : ∀ x ∈ s.1, x < nx.length
  fu : nx.length ≤ s.1.length + f

section
variable {nx : List (List Int)} (hc : ckWay nx = 0)
include hc

theorem wkL_spec {f i : Nat} (ih : ∀ (j : Nat) (s : Sn), Wa nx f s → j < nx.length → j ∉ s.1 → ∃ new newl, Wk nx j s (wkF nx f j s) new newl ∧ j ∈ new) :
    ∀ (xs : List Nat) (s : Sn), (∀ x ∈ xs, x ∈ sc nx i) → i ∈ s.1 → Wa nx f s → ∃ new newl, Wk nx i s (xs.foldl (wkJ nx f) s) new newl ∧ ∀ x ∈ xs, x ∈ (xs.foldl (wkJ nx f) s).1
  | [], s, _, _, ha => ⟨[], [], ⟨by simp, by simp, ha.nd, ha.lt, by simp, rfl, by simp, by simp, by simp, fun _ _ p a q h => by simp at h⟩, by simp⟩
  | x :: xs, s, hx, his, ha => by
    have hxi := hx x (List.mem_cons_self ..)
    have hxn := sc_lt hc hxi
    have hxs : ∀ y ∈ xs, y ∈ sc nx i := fun y hy => hx y (List.mem_cons_of_mem _ hy)
    rw [List.foldl_cons]
    by_cases hin : x ∈ s.1
    · have e : wkJ nx f s x = s := by unfold wkJ; rw [if_pos hin]
      rw [e]
      obtain ⟨new, newl, hw, hall⟩ := wkL_spec ih xs s hxs his ha
      refine ⟨new, newl, hw, fun y hy => ?_⟩
      rcases List.mem_cons.1 hy with rfl | hy
      · rw [hw.e1]; exact List.mem_append_left _ hin
      · exact hall y hy
    · have e : wkJ nx f s x = wkF nx f x s := by unfold wkJ; rw [if_neg hin]
      rw [e]
      obtain ⟨n1, l1, h1, hx1⟩ := ih x s ha hxn hin
      have ha2 : Wa nx f (wkF nx f x s) := ⟨h1.nd, h1.lt, by rw [h1.e1, List.length_append]; have := ha.fu; omega⟩
      obtain ⟨n2, l2, h2, hall⟩ := wkL_spec ih xs (wkF nx f x s) hxs (by rw [h1.e1]; exact List.mem_append_left _ his) ha2
      have hix : Rea nx (-1) i x := Rea.edge (nat_ne i) hxi (nat_ne x)
      refine ⟨n1 ++ n2, l1 ++ l2, ⟨by rw [h2.e1, h1.e1, List.append_assoc], by rw [h2.e2, h1.e2, List.append_assoc], h2.nd, h2.lt, fun y => by rw [List.mem_append, List.mem_append, h1.mem, h2.mem], by rw [List.length_append, List.length_append, h1.ln, h2.ln], ?_, fun y hy => ?_, fun y hy b hb => ?_, fun hg hr p a q hp b hb => ?_⟩, fun y hy => ?_⟩
      · rw [List.nodup_append]
        refine ⟨h1.ndl, h2.ndl, fun a ha' b hb' e => ?_⟩
        subst e
        have q1 := (h1.mem a).1 ha'
        have q2 := (h2.mem a).1 hb'
        have hnd := h2.nd
        rw [h2.e1, List.nodup_append] at hnd
        exact hnd.2.2 a (by rw [h1.e1]; exact List.mem_append_right _ q1) a q2 rfl
      · rcases List.mem_append.1 hy with hy | hy
        · exact hix.trans (h1.rea y hy)
        · exact h2.rea y hy
      · rcases List.mem_append.1 hy with hy | hy
        · rw [h2.e1]; exact List.mem_append_left _ (h1.cl y hy b hb)
        · exact h2.cl y hy b hb
      · have hxi2 : x ≠ i := fun e => hin (e ▸ his)
        have hfw : Fw nx i x := ⟨hxi, hr x hin hxi2⟩
        have hr1 : ∀ y, y ∉ s.1 → y ≠ x → Rea nx (y : Int) 0 x := fun y hy hyx => (hr y hy (fun e => hy (e ▸ his))).step hxi (by omega)
        have hr2 : ∀ y, y ∉ (wkF nx f x s).1 → y ≠ i → Rea nx (y : Int) 0 i := fun y hy hyi => hr y (fun h => hy (by rw [h1.e1]; exact List.mem_append_left _ h)) hyi
        have hpre : ∀ g ∈ (wkF nx f x s).1, g ∉ (wkF nx f x s).2 → Frea nx g i := fun g hg1 hg2 => by
          rw [h1.e1] at hg1
          rw [h1.e2] at hg2
          rcases List.mem_append.1 hg1 with hg1 | hg1
          · exact hg g hg1 (fun h => hg2 (List.mem_append_left _ h))
          · exact absurd (List.mem_append_right _ ((h1.mem g).2 hg1)) hg2
        rcases List.append_eq_append_iff.1 hp with ⟨m, hm1, hm2⟩ | ⟨m, hm1, hm2⟩
        · rcases h2.gd hpre hr2 m a q hm2 b hb with h | h | h
          · rw [h1.e2] at h
            rcases List.mem_append.1 h with h | h
            · exact .inl h
            · exact .inr (.inl (by rw [hm1]; exact List.mem_append_left _ h))
          · exact .inr (.inl (by rw [hm1]; exact List.mem_append_right _ h))
          · exact .inr (.inr h)
        · cases m with
          | nil =>
            simp only [List.append_nil] at hm1
            simp only [List.nil_append] at hm2
            rcases h2.gd hpre hr2 [] a q hm2.symm b hb with h | h | h
            · rw [h1.e2] at h
              rcases List.mem_append.1 h with h | h
              · exact .inl h
              · exact .inr (.inl (by rw [← hm1]; exact h))
            · cases h
            · exact .inr (.inr h)
          | cons a' m =>
            simp only [List.cons_append, List.cons.injEq] at hm2
            obtain ⟨rfl, hm2⟩ := hm2
            exact h1.gd (fun g hg1 hg2 => (hg g hg1 hg2).step hfw) hr1 p a m hm1 b hb
      · rcases List.mem_cons.1 hy with rfl | hy
        · rw [h2.e1, h1.e1]; exact List.mem_append_left _ (List.mem_append_right _ hx1)
        · exact hall y hy

theorem wk_spec : ∀ (f i : Nat) (s : Sn), Wa nx f s → i < nx.length → i ∉ s.1 → ∃ new newl, Wk nx i s (wkF nx f i s) new newl ∧ i ∈ new
  | 0, i, s, ha, hi, hin => by
    exfalso
    have h1 : (i :: s.1).length ≤ nx.length := nodup_len (List.nodup_cons.2 ⟨hin, ha.nd⟩) fun x hx => by
      rcases List.mem_cons.1 hx with rfl | hx
      · exact hi
      · exact ha.lt x hx
    have := ha.fu
    simp at h1
    omega
  | f + 1, i, s, ha, hi, hin => by
    have ha1 : Wa nx f (s.1 ++ [i], s.2) := by
      refine ⟨?_, fun x hx => ?_, ?_⟩
      · rw [List.nodup_append]
        exact ⟨ha.nd, by simp, fun a ha' b hb e => by simp at hb; subst hb e; exact hin ha'⟩
      · rcases List.mem_append.1 hx with hx | hx
        · exact ha.lt x hx
        · simp at hx; subst hx; exact hi
      · have := ha.fu
        simp only [List.length_append, List.length_singleton]
        omega
    obtain ⟨n1, l1, h1, hall⟩ := wkL_spec hc (i := i) (fun j s ha hj hjs => wk_spec f j s ha hj hjs) (sc nx i) (s.1 ++ [i], s.2) (fun x hx => hx) (by simp) ha1
    rw [wkF_succ]
    generalize (sc nx i).foldl (wkJ nx f) (s.1 ++ [i], s.2) = r at h1 hall
    obtain ⟨r1, r2⟩ := r
    have e1 := h1.e1
    have e2 := h1.e2
    simp only at e1 e2 hall ⊢
    have hnd := h1.nd
    simp only [e1] at hnd
    rw [List.nodup_append] at hnd
    have hin1 : i ∉ n1 := fun h => hnd.2.2 i (by simp) i h rfl
    refine ⟨i :: n1, l1 ++ [i], ⟨by simp [e1], by simp [e2], h1.nd, h1.lt, fun y => ?_, by simp [h1.ln], ?_, fun y hy => ?_, fun y hy b hb => ?_, fun hg hr p a q hp b hb => ?_⟩, by simp⟩
    · simp only [List.mem_append, h1.mem, List.mem_cons, List.not_mem_nil, or_false]; exact Or.comm
    · rw [List.nodup_append]
      exact ⟨h1.ndl, by simp, fun a ha' b hb e => by simp at hb; subst hb e; exact hin1 ((h1.mem _).1 ha')⟩
    · rcases List.mem_cons.1 hy with rfl | hy
      · exact Rea.me nx y
      · exact h1.rea y hy
    · rcases List.mem_cons.1 hy with rfl | hy
      · exact hall b hb
      · exact h1.cl y hy b hb
    · rcases List.append_eq_append_iff.1 hp with ⟨m, hm1, hm2⟩ | ⟨m, hm1, hm2⟩
      · cases m with
        | nil =>
          simp only [List.append_nil] at hm1
          simp only [List.nil_append, List.cons.injEq] at hm2
          obtain ⟨rfl, _⟩ := hm2
          have hb1 := hall b hb
          rw [e1] at hb1
          rcases List.mem_append.1 hb1 with hb1 | hb1
          · rcases List.mem_append.1 hb1 with hb1 | hb1
            · by_cases hbs : b ∈ s.2
              · exact .inl hbs
              · exact .inr (.inr (hg b hb1 hbs))
            · simp at hb1; subst hb1; exact .inr (.inr .here)
          · exact .inr (.inl (by rw [hm1]; exact (h1.mem b).2 hb1))
        | cons a' m =>
          simp at hm2
      · cases m with
        | nil =>
          simp only [List.append_nil] at hm1
          simp only [List.nil_append, List.cons.injEq] at hm2
          obtain ⟨rfl, _⟩ := hm2
          have hb1 := hall b hb
          rw [e1] at hb1
          rcases List.mem_append.1 hb1 with hb1 | hb1
          · rcases List.mem_append.1 hb1 with hb1 | hb1
            · by_cases hbs : b ∈ s.2
              · exact .inl hbs
              · exact .inr (.inr (hg b hb1 hbs))
            · simp at hb1; subst hb1; exact .inr (.inr .here)
          · exact .inr (.inl (by rw [← hm1]; exact (h1.mem b).2 hb1))
        | cons a' m =>
          simp only [List.cons_append, List.cons.injEq] at hm2
          obtain ⟨rfl, hm2⟩ := hm2
          refine h1.gd (fun g hg1 hg2 => ?_) (fun y hy hyi => hr y (fun h => hy (List.mem_append_left _ h)) hyi) p a m hm1 b hb
          rcases List.mem_append.1 hg1 with hg1 | hg1
          · exact hg g hg1 hg2
          · simp at hg1; subst hg1; exact .here

end

/-- E2: the order in which the search leaves nodes -/
def finL (nx : List (List Int)) : List Nat := (wkF nx nx.length 0 ([], [])).2

section
variable {nx : List (List Int)} (hc : ckWay nx = 0)
include hc

theorem fin_wk : ∃ new, Wk nx 0 ([], []) (wkF nx nx.length 0 ([], [])) new (finL nx) ∧ 0 ∈ new := by
  obtain ⟨h1, h2, h3⟩ := ckWay_bd hc
  obtain ⟨new, newl, hw, h0⟩ := wk_spec hc nx.length 0 ([], []) ⟨by simp, by simp, by simp⟩ (by omega) (by simp)
  have : finL nx = newl := by unfold finL; rw [hw.e2]; rfl
  rw [this]
  exact ⟨new, hw, h0⟩

theorem fin_nodup : (finL nx).Nodup := by
  obtain ⟨new, hw, _⟩ := fin_wk hc
  exact hw.ndl

theorem fin_mem {x : Nat} : x ∈ finL nx ↔ Rea nx (-1) 0 x := by
  obtain ⟨new, hw, h0⟩ := fin_wk hc
  rw [hw.mem]
  refine ⟨fun h => hw.rea x h, fun h => h.within (S := fun y => y ∈ new) h0 fun a b ha hb _ => ?_⟩
  have := hw.cl a ha b hb
  rw [hw.e1] at this
  simpa using this

theorem fin_lt {x : Nat} (h : x ∈ finL nx) : x < nx.length := by
  have := ckWay_bd hc
  exact ((fin_mem hc).1 h).lt hc (by omega)

theorem fin_len : (finL nx).length ≤ nx.length := nodup_len (fin_nodup hc) fun _ h => fin_lt hc h

theorem fin_last : ∃ p, finL nx = p ++ [0] := by
  obtain ⟨h1, h2, h3⟩ := ckWay_bd hc
  unfold finL
  obtain ⟨f, hf⟩ : ∃ f, nx.length = f + 1 := ⟨nx.length - 1, by omega⟩
  rw [hf, wkF_succ]
  exact ⟨_, rfl⟩

theorem fin_backF {p q : List Nat} {a b : Nat} (h : finL nx = p ++ a :: q) (hb : b ∈ sc nx a) : b ∈ p ∨ Frea nx b a := by
  obtain ⟨new, hw, _⟩ := fin_wk hc
  rcases hw.gd (fun g hg => by cases hg) (fun x _ hx => .here (by omega)) p a q h b hb with h | h | h
  · cases h
  · exact .inl h
  · exact .inr h

theorem fin_back {p q : List Nat} {a b : Nat} (h : finL nx = p ++ a :: q) (hb : b ∈ sc nx a) : b ∈ p ∨ Rea nx (-1) b a := (fin_backF hc h hb).imp id Frea.rea

theorem fin_sc {a b : Nat} (ha : a ∈ finL nx) (hb : b ∈ sc nx a) : b ∈ finL nx := (fin_mem hc).2 (((fin_mem hc).1 ha).step hb (nat_ne b))

end

/-! ### Pairs that go back -/

/-- where a number stands in a list -/
def posL : List Nat → Nat → Nat
  | [], _ => 0
  | y :: l, x => if y = x then 0 else posL l x + 1

theorem posL_lt : ∀ {l : List Nat} {x : Nat}, x ∈ l → posL l x < l.length ∧ l[posL l x]? = some x
  | y :: l, x, h => by
    unfold posL
    split
    · rename_i e; subst e; simp
    · rename_i e
      rcases List.mem_cons.1 h with rfl | h
      · exact absurd rfl e
      · obtain ⟨h1, h2⟩ := posL_lt h
        exact ⟨by simp; omega, by simpa using h2⟩

theorem posL_at : ∀ {l : List Nat} {k x : Nat}, l.Nodup → l[k]? = some x → posL l x = k
  | y :: l, 0, x, hd, h => by simp at h; subst h; unfold posL; rw [if_pos rfl]
  | y :: l, k + 1, x, hd, h => by
    obtain ⟨h1, h2⟩ := List.nodup_cons.1 hd
    have h3 : l[k]? = some x := by simpa using h
    unfold posL
    rw [if_neg (fun e : y = x => h1 (by rw [e]; exact List.mem_of_getElem? h3)), posL_at h2 h3]

theorem posL_inj {l : List Nat} {x y : Nat} (hx : x ∈ l) (hy : y ∈ l) (h : posL l x = posL l y) : x = y := by
  have h1 := (posL_lt hx).2
  have h2 := (posL_lt hy).2
  rw [h, h2] at h1
  injection h1 with h1
  exact h1.symm

/-- E2: does the pair go back? -/
def bkB (nx : List (List Int)) (i j : Nat) : Bool := decide (i ∈ finL nx ∧ j ∈ sc nx i ∧ posL (finL nx) i ≤ posL (finL nx) j)

/-- E2: of one node, of those below n -/
def bkR (nx : List (List Int)) (i n : Nat) : List (Nat × Nat) := ((List.range n).filter fun j => bkB nx i j).map fun j => (i, j)

/-- E2: of the nodes below m -/
def bkM (nx : List (List Int)) : Nat → List (Nat × Nat)
  | 0 => []
  | m + 1 => bkM nx m ++ bkR nx m nx.length

/-- E2: the pairs that go back -/
def bkL (nx : List (List Int)) : List (Nat × Nat) := bkM nx nx.length

theorem bkR_succ (nx : List (List Int)) (i n : Nat) : bkR nx i (n + 1) = if bkB nx i n = true then bkR nx i n ++ [(i, n)] else bkR nx i n := by
  unfold bkR
  rw [List.range_succ, List.filter_append, List.map_append]
  by_cases h : bkB nx i n = true
  · rw [if_pos h]; simp [h]
  · rw [if_neg h]; simp [h]

theorem bkR_mem {nx : List (List Int)} {i n : Nat} {p : Nat × Nat} : p ∈ bkR nx i n ↔ p.1 = i ∧ p.2 < n ∧ bkB nx i p.2 = true := by
  unfold bkR
  rw [List.mem_map]
  constructor
  · rintro ⟨j, hj, rfl⟩
    have := List.mem_filter.1 hj
    exact ⟨rfl, List.mem_range.1 this.1, this.2⟩
  · rintro ⟨h1, h2, h3⟩
    exact ⟨p.2, List.mem_filter.2 ⟨List.mem_range.2 h2, h3⟩, by rw [← h1]⟩

theorem bkM_mem {nx : List (List Int)} {p : Nat × Nat} : ∀ {m : Nat}, p ∈ bkM nx m ↔ p.1 < m ∧ p.2 < nx.length ∧ bkB nx p.1 p.2 = true
  | 0 => by simp [bkM]
  | m + 1 => by
    rw [bkM, List.mem_append, bkM_mem, bkR_mem]
    constructor
    · rintro (⟨h1, h2⟩ | ⟨h1, h2, h3⟩)
      · exact ⟨by omega, h2⟩
      · exact ⟨by omega, h2, by rw [h1]; exact h3⟩
    · rintro ⟨h1, h2, h3⟩
      by_cases h : p.1 < m
      · exact .inl ⟨h, h2, h3⟩
      · have : p.1 = m := by omega
        exact .inr ⟨this, h2, by rw [← this]; exact h3⟩

theorem bkL_mem {nx : List (List Int)} (hc : ckWay nx = 0) {a b : Nat} : (a, b) ∈ bkL nx ↔ a ∈ finL nx ∧ b ∈ sc nx a ∧ posL (finL nx) a ≤ posL (finL nx) b := by
  unfold bkL
  rw [bkM_mem]
  unfold bkB
  rw [decide_eq_true_eq]
  exact ⟨fun h => h.2.2, fun h => ⟨fin_lt hc h.1, sc_lt hc h.2.1, h⟩⟩

theorem bkR_len (nx : List (List Int)) (i n : Nat) : (bkR nx i n).length ≤ n := by
  unfold bkR
  rw [List.length_map]
  have := List.length_filter_le (fun j => bkB nx i j) (List.range n)
  simpa using this

theorem bkM_len (nx : List (List Int)) : ∀ m, (bkM nx m).length ≤ m * nx.length
  | 0 => by simp [bkM]
  | m + 1 => by
    rw [bkM, List.length_append, Nat.add_mul, Nat.one_mul]
    have := bkM_len nx m
    have := bkR_len nx m nx.length
    omega

/-! ### Round -/

/-- in one part -/
def Both (nx : List (List Int)) (i j : Nat) : Prop := Rea nx (-1) i j ∧ Rea nx (-1) j i

theorem split_pos {l : List Nat} {a : Nat} (h : a ∈ l) : ∃ p q, l = p ++ a :: q ∧ p.length = posL l a := by
  obtain ⟨h1, h2⟩ := posL_lt h
  refine ⟨l.take (posL l a), l.drop (posL l a + 1), ?_, by rw [List.length_take]; omega⟩
  rw [← drop_at h2, List.take_append_drop]

theorem mem_take_pos {l : List Nat} (hd : l.Nodup) {b k : Nat} (h : b ∈ l.take k) : posL l b < k := by
  obtain ⟨j, hj, e⟩ := List.getElem_of_mem h
  rw [List.length_take] at hj
  have h2 : l[j]? = some b := by
    rw [List.getElem_take] at e
    rw [List.getElem?_eq_getElem (by omega), e]
  rw [posL_at hd h2]
  omega

/-- TARJAN: a pair that goes back goes to a node from which one came -/
theorem bk_frea {nx : List (List Int)} (hc : ckWay nx = 0) {a b : Nat} (h : (a, b) ∈ bkL nx) : Frea nx b a := by
  obtain ⟨h1, h2, h3⟩ := (bkL_mem hc).1 h
  obtain ⟨p, q, e, hp⟩ := split_pos h1
  rcases fin_backF hc e h2 with h4 | h4
  · exfalso
    have : b ∈ (finL nx).take p.length := by rw [e, List.take_left]; exact h4
    have := mem_take_pos (fin_nodup hc) this
    omega
  · exact h4

/-- TARJAN: a pair that goes back closes a round -/
theorem bk_round {nx : List (List Int)} (hc : ckWay nx = 0) {a b : Nat} (h : (a, b) ∈ bkL nx) : Rea nx (-1) b a := by
  obtain ⟨h1, h2, h3⟩ := (bkL_mem hc).1 h
  obtain ⟨p, q, e, hp⟩ := split_pos h1
  rcases fin_back hc e h2 with h4 | h4
  · exfalso
    have : b ∈ (finL nx).take p.length := by rw [e, List.take_left]; exact h4
    have := mem_take_pos (fin_nodup hc) this
    omega
  · exact h4

/-- TARJAN: without a pair that goes back none is twice on a way -/
theorem no_round {nx : List (List Int)} (hc : ckWay nx = 0) (hb : bkL nx = []) {i j : Nat} (hi : i ∈ finL nx) (h : Rea nx (-1) i j) : j ∈ finL nx ∧ (j = i ∨ posL (finL nx) j < posL (finL nx) i) := by
  induction h with
  | here => exact ⟨hi, .inl rfl⟩
  | @step j k h hk _ ih =>
    obtain ⟨i1, i2⟩ := ih
    have hkf := fin_sc hc i1 hk
    have : posL (finL nx) k < posL (finL nx) j := by
      rcases Nat.lt_or_ge (posL (finL nx) k) (posL (finL nx) j) with h1 | h1
      · exact h1
      · have : (j, k) ∈ bkL nx := (bkL_mem hc).2 ⟨i1, hk, h1⟩
        rw [hb] at this
        cases this
    refine ⟨hkf, .inr ?_⟩
    rcases i2 with rfl | i2 <;> omega

/-- TARJAN: some pair goes back just if some node to which one comes lies on a round -/
theorem round_iff {nx : List (List Int)} (hc : ckWay nx = 0) : bkL nx ≠ [] ↔ ∃ i, Rea nx (-1) 0 i ∧ (i ∈ sc nx i ∨ ∃ j, j ≠ i ∧ Both nx i j) := by
  constructor
  · intro h
    cases e : bkL nx with
    | nil => exact absurd e h
    | cons p l =>
      obtain ⟨a, b⟩ := p
      have hm : (a, b) ∈ bkL nx := by rw [e]; exact List.mem_cons_self ..
      obtain ⟨h1, h2, h3⟩ := (bkL_mem hc).1 hm
      refine ⟨a, (fin_mem hc).1 h1, ?_⟩
      by_cases hab : b = a
      · subst hab; exact .inl h2
      · exact .inr ⟨b, hab, Rea.edge (nat_ne a) h2 (nat_ne b), bk_round hc hm⟩
  · rintro ⟨i, hi, h⟩ hb
    have hif := (fin_mem hc).2 hi
    rcases h with h | ⟨j, hj, h1, h2⟩
    · have : (i, i) ∈ bkL nx := (bkL_mem hc).2 ⟨hif, h, Nat.le_refl _⟩
      rw [hb] at this
      cases this
    · obtain ⟨j1, j2⟩ := no_round hc hb hif h1
      obtain ⟨_, j4⟩ := no_round hc hb j1 h2
      rcases j2 with j2 | j2
      · exact hj j2
      · rcases j4 with j4 | j4
        · exact hj j4.symm
        · omega

end Go.Proofs.Ytmbabbdcijgnoaa
