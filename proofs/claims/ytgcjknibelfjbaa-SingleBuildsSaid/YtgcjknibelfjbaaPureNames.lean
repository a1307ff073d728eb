/-
  Plain mathematics of static single assignment form (M3): what a named program sets and uses; how one is made; CYTRON, FERRANTE, ROSEN, WEGMAN, ZADECK: it does the same: no program's text.
-/
import Derived.Test.YtgcjknibelfjbaaMPure
namespace Go.Proofs.Ytgcjknibelfjbaa
set_option linter.unusedSimpArgs false
set_option linter.unusedVariables false

/-! ### The search leaves what dominates a node behind it -/

/-- each node that was left newly: i, or one comes to it from one that is left later -/
def ParF (nx : List (List Int)) (i : Nat) (s r : Sn) : Prop := ∃ newl, r.2 = s.2 ++ newl ∧ ∀ p x q, newl = p ++ x :: q → x = i ∨ ∃ a ∈ q, x ∈ sc nx a

/-- .. or from i -/
def ParJ (nx : List (List Int)) (i : Nat) (s r : Sn) : Prop := ∃ newl, r.2 = s.2 ++ newl ∧ ∀ p x q, newl = p ++ x :: q → x ∈ sc nx i ∨ ∃ a ∈ q, x ∈ sc nx a

theorem app_cons {α : Type} {a b p q : List α} {x : α} (h : a ++ b = p ++ x :: q) : (∃ q', a = p ++ x :: q' ∧ q = q' ++ b) ∨ (∃ p', b = p' ++ x :: q ∧ p = a ++ p') := by
  rcases List.append_eq_append_iff.1 h with ⟨c, h1, h2⟩ | ⟨c, h1, h2⟩
  · exact .inr ⟨c, h2, h1⟩
  · cases c with
    | nil =>
      simp only [List.nil_append] at h2
      simp only [List.append_nil] at h1
      exact .inr ⟨[], by rw [← h2]; rfl, by rw [h1]; simp⟩
    | cons y c =>
      simp only [List.cons_append, List.cons.injEq] at h2
      obtain ⟨rfl, rfl⟩ := h2
      exact .inl ⟨c, h1, rfl⟩

theorem parJ_fold {nx : List (List Int)} {f i : Nat} (ih : ∀ (j : Nat) (s : Sn), ParF nx j s (wkF nx f j s)) : ∀ (xs : List Nat) (s : Sn), (∀ x ∈ xs, x ∈ sc nx i) → ParJ nx i s (xs.foldl (wkJ nx f) s)
  | [], s, _ => ⟨[], by simp, fun p x q h => by simp at h⟩
  | j :: xs, s, hx => by
    obtain ⟨n2, h2, g2⟩ := parJ_fold ih xs (wkJ nx f s j) fun x h => hx x (List.mem_cons_of_mem _ h)
    rw [List.foldl_cons]
    unfold wkJ at h2 ⊢
    split at h2
    · rename_i hm
      rw [if_pos hm]
      exact ⟨n2, h2, g2⟩
    · rename_i hm
      rw [if_neg hm]
      obtain ⟨n1, h1, g1⟩ := ih j s
      refine ⟨n1 ++ n2, by rw [h2, h1, List.append_assoc], fun p x q h => ?_⟩
      rcases app_cons h with ⟨q', e1, rfl⟩ | ⟨p', e1, _⟩
      · rcases g1 p x q' e1 with rfl | ⟨a, ha, hs⟩
        · exact .inl (hx _ (List.mem_cons_self ..))
        · exact .inr ⟨a, List.mem_append_left _ ha, hs⟩
      · exact g2 p' x q e1

theorem parF_wk (nx : List (List Int)) : ∀ (f i : Nat) (s : Sn), ParF nx i s (wkF nx f i s)
  | 0, i, s => ⟨[], by simp [wkF], fun p x q h => by simp at h⟩
  | f + 1, i, s => by
    obtain ⟨n, h, g⟩ := parJ_fold (nx := nx) (f := f) (i := i) (parF_wk nx f) (sc nx i) (s.1 ++ [i], s.2) fun _ h => h
    rw [wkF_succ]
    refine ⟨n ++ [i], by simp only [h, List.append_assoc], fun p x q hq => ?_⟩
    rcases app_cons hq with ⟨q', e1, rfl⟩ | ⟨p', e1, _⟩
    · rcases g p x q' e1 with hx | ⟨a, ha, hs⟩
      · exact .inr ⟨i, List.mem_append_right _ (List.mem_singleton_self i), hx⟩
      · exact .inr ⟨a, List.mem_append_left _ ha, hs⟩
    · left
      cases p' with
      | nil => simp only [List.nil_append, List.cons.injEq] at e1; exact e1.1.symm
      | cons y p' => simp at e1

section
variable {nx : List (List Int)} (hc : ckWay nx = 0)
include hc

/-- what dominates a node is left behind it -/
theorem fin_dom {d i : Nat} (h : Dom nx d i) (hne : d ≠ i) {p q : List Nat} (hf : finL nx = p ++ d :: q) : i ∈ p := by
  have hm : i ∈ finL nx := (fin_mem hc).2 h.2.1
  rw [hf, List.mem_append, List.mem_cons] at hm
  rcases hm with h1 | h1 | h1
  · exact h1
  · exact absurd h1.symm hne
  · exfalso
    obtain ⟨newl, e, g⟩ := parF_wk nx nx.length 0 ([], [])
    have e2 : finL nx = newl := by unfold finL; rw [e]; rfl
    have hnd := fin_nodup hc
    -- all that is left behind d comes without d
    have key : ∀ (m : Nat) (b : List Nat) (x : Nat), b.length ≤ m → (∃ a, q = a ++ x :: b) → Rea nx (d : Int) 0 x := by
      intro m
      induction m with
      | zero =>
        intro b x hb hq
        obtain ⟨a, rfl⟩ := hq
        have hb0 : b = [] := List.length_eq_zero_iff.1 (by omega)
        subst hb0
        obtain ⟨p0, h0⟩ := fin_last hc
        have : x = 0 := by
          have h2 : finL nx = (p ++ d :: a) ++ [x] := by rw [hf]; simp
          rw [h0] at h2
          have := List.append_inj_right' h2 rfl
          simpa using this.symm
        subst this
        refine .here (int_ne fun e0 => ?_)
        rw [hf, List.nodup_append] at hnd
        have := (List.nodup_cons.1 hnd.2.1).1
        exact this (by rw [← e0]; simp)
      | succ m ih =>
        intro b x hb hq
        obtain ⟨a, rfl⟩ := hq
        have hxd : x ≠ d := by
          rintro rfl
          rw [hf, List.nodup_append] at hnd
          exact (List.nodup_cons.1 hnd.2.1).1 (by simp)
        rcases g (p ++ d :: a) x b (by rw [← e2, hf]; simp) with rfl | ⟨y, hy, hs⟩
        · exact .here (int_ne (by omega))
        · obtain ⟨b1, b2, rfl⟩ := List.append_of_mem hy
          exact (ih b2 y (by simp at hb; omega) ⟨a ++ x :: b1, by simp⟩).step hs (int_ne hxd)
    obtain ⟨a, b, rfl⟩ := List.append_of_mem h1
    have := key b.length b i (Nat.le_refl _) ⟨a, rfl⟩
    rcases h.2.2 with h3 | h3
    · exact hne h3
    · exact h3 this

/-- turned round: it stands ahead of it -/
theorem rev_dom {d i : Nat} (h : Dom nx d i) (hne : d ≠ i) {a b : List Nat} (hf : (finL nx).reverse = a ++ i :: b) : d ∈ a := by
  have hd : d ∈ finL nx := (fin_mem hc).2 h.1
  obtain ⟨p, q, hp⟩ := List.append_of_mem hd
  have hi := fin_dom hc h hne hp
  have hnd := fin_nodup hc
  have e : finL nx = b.reverse ++ i :: a.reverse := by rw [← List.reverse_reverse (finL nx), hf]; simp
  have hd2 := hd
  rw [e, List.mem_append, List.mem_cons] at hd2
  rcases hd2 with h1 | h1 | h1
  · exfalso
    obtain ⟨b1, b2, hb⟩ := List.append_of_mem h1
    rw [hb, List.append_assoc] at e
    rw [hp] at e hnd
    have h2 : p = b1 ∧ q = b2 ++ i :: a.reverse := by
      have hn1 : d ∉ p := fun hm => (List.nodup_append.1 hnd).2.2 d hm d (List.mem_cons_self ..) rfl
      have hnd2 := hnd
      rw [e] at hnd2
      have hn2 : d ∉ b1 := fun hm => (List.nodup_append.1 hnd2).2.2 d hm d (List.mem_cons_self ..) rfl
      rcases app_cons (a := p) (b := d :: q) (p := b1) (x := d) (q := b2 ++ i :: a.reverse) (by simpa using e) with ⟨q', e1, _⟩ | ⟨p', e1, e3⟩
      · exact absurd (by rw [e1]; simp) hn1
      · cases p' with
        | nil =>
          simp only [List.nil_append, List.cons.injEq] at e1
          exact ⟨by rw [e3]; simp, e1.2⟩
        | cons y p' =>
          simp only [List.cons_append, List.cons.injEq] at e1
          exact absurd (by rw [e3, ← e1.1]; simp) hn2
    obtain ⟨rfl, rfl⟩ := h2
    exact (List.nodup_append.1 hnd).2.2 i hi i (by simp) rfl
  · exact absurd h1 hne
  · exact List.mem_reverse.1 h1

end

/-! ### What is set, what is used -/

def sg0 : Sg := ⟨[], [], -1, -1, 0, []⟩

/-- how often joins, steps, a block with so many steps, all blocks set a name -/
def setJ (n : Int) : List Jn → Nat
  | [] => 0
  | j :: r => (if j.to = n then 1 else 0) + setJ n r

def setC (n : Int) : List St → Nat
  | [] => 0
  | s :: r => (if s.to = n then 1 else 0) + setC n r

def setN (s : Sg) (n : Int) (k : Nat) : Nat := setJ n s.joins + setC n (s.code.take k)

def setAll (n : Int) : List Sg → Nat
  | [] => 0
  | s :: r => setN s n s.code.length + setAll n r

/-- is a name set ahead of so many steps of a block? below 0: the beginning -/
def Av (vars : Int) (l : List Sg) (n i : Int) (k : Nat) : Prop :=
  n < vars ∨ (0 ≤ i ∧ (0 < setN (l.getD i.toNat sg0) n k ∨ ∃ j : Nat, j ≠ i.toNat ∧ Dom (nxP (bareP l)) j i.toNat ∧ 0 < setN (l.getD j sg0) n (l.getD j sg0).code.length))

/-- M3: what one block that is reached uses -/
structure OnB (vars : Int) (l : List Sg) (i : Nat) (s : Sg) : Prop where
  joins : ∀ j ∈ s.joins, ∀ (k : Nat) (f n : Int), ((frP l).getD i [])[k]? = some f → j.fr[k]? = some n → (0 ≤ f ∧ ¬ Rea (nxP (bareP l)) (-1) 0 f.toNat) ∨ Av vars l n f (if 0 ≤ f then (l.getD f.toNat sg0).code.length else 0)
  code : ∀ (k : Nat) (st : St), s.code[k]? = some st → (st.op = 2 → Av vars l st.v i k) ∧ (3 ≤ st.op → Av vars l st.a i k ∧ Av vars l st.b i k)
  test : 0 ≤ s.test → Av vars l s.test i s.code.length
  last : ∀ n ∈ s.last, Av vars l n i s.code.length

/-- M3: each name set once, ahead of its uses -/
structure OnP (vars : Int) (l : List Sg) : Prop where
  one : ∀ n : Int, 0 ≤ n → n < 128 → (if n < vars then 1 else 0) + setAll n l ≤ 1
  use : ∀ (i : Nat) (s : Sg), l[i]? = some s → Rea (nxP (bareP l)) (-1) 0 i → OnB vars l i s

/-! ### How one is made -/

/-- names for joins, and what Last then says -/
def jnT : List Nat → Nat → List Jn
  | [], _ => []
  | v :: r, t => ⟨(t : Int), []⟩ :: jnT r (t + 1)

def jnF : List Nat → Nat → List Int → List Int
  | [], _, la => la
  | v :: r, t, la => jnF r (t + 1) (la.set v (t : Int))

/-- a step over names -/
def nmS (s : St) (t : Nat) (la : List Int) : St :=
  if s.op = 1 then ⟨1, t, 0, 0, s.v⟩ else if s.op = 2 then ⟨2, t, 0, 0, la.getD s.v.toNat 0⟩ else ⟨s.op, t, la.getD s.a.toNat 0, la.getD s.b.toNat 0, 0⟩

def cdC : List St → Nat → List Int → List St
  | [], _, _ => []
  | s :: r, t, la => nmS s t la :: cdC r (t + 1) (la.set s.to.toNat (t : Int))

def cdF : List St → Nat → List Int → List Int
  | [], _, la => la
  | s :: r, t, la => cdF r (t + 1) (la.set s.to.toNat (t : Int))

/-- a block over names, its joins without From -/
def nmB (vs : List Nat) (b : Bk) (be : List Int) (t : Nat) : Sg :=
  ⟨jnT vs t, cdC b.code (t + vs.length) (jnF vs t be), if b.test = -1 then -1 else (cdF b.code (t + vs.length) (jnF vs t be)).getD b.test.toNat 0, b.th, b.el, cdF b.code (t + vs.length) (jnF vs t be)⟩

/-- the names ahead of a block -/
def bef (vars : Nat) (ts : List Int) (l : List Sg) (i : Nat) : List Int := if ts.getD i (-1) = -1 then ni (List.range vars) else (l.getD (ts.getD i (-1)).toNat sg0).last

/-- how many names a block takes -/
def szB (jv : List (List Nat)) (p : List Bk) (i : Nat) : Nat := (jv.getD i []).length + (p.getD i bk0).code.length

def bldF (vars : Nat) (ts : List Int) (jv : List (List Nat)) (p : List Bk) : List Nat → List Sg → Nat → List Sg × Nat
  | [], l, t => (l, t)
  | i :: r, l, t => bldF vars ts jv p r (l.set i (nmB (jv.getD i []) (p.getD i bk0) (bef vars ts l i) t)) (t + szB jv p i)

/-- From of a join -/
def fillJ (l : List Sg) (srcs : List Int) (v : Nat) : List Int := srcs.map fun f => if f = -1 then (v : Int) else (l.getD f.toNat sg0).last.getD v 0

def fillS (l : List Sg) (srcs : List Int) (vs : List Nat) (s : Sg) : Sg := { s with joins := List.zipWith (fun (j : Jn) v => ⟨j.to, fillJ l srcs v⟩) s.joins vs }

def fillL (l : List Sg) (frs : List (List Int)) (jv : List (List Nat)) : List Sg := (List.range l.length).map fun i => fillS l (frs.getD i []) (jv.getD i []) (l.getD i sg0)

theorem jnT_len : ∀ (vs : List Nat) (t : Nat), (jnT vs t).length = vs.length
  | [], _ => rfl
  | v :: r, t => by simp [jnT, jnT_len r]

theorem jnF_len : ∀ (vs : List Nat) (t : Nat) (la : List Int), (jnF vs t la).length = la.length
  | [], _, _ => rfl
  | v :: r, t, la => by rw [jnF, jnF_len r]; simp

theorem cdC_len : ∀ (c : List St) (t : Nat) (la : List Int), (cdC c t la).length = c.length
  | [], _, _ => rfl
  | s :: r, t, la => by simp [cdC, cdC_len r]

theorem cdF_len : ∀ (c : List St) (t : Nat) (la : List Int), (cdF c t la).length = la.length
  | [], _, _ => rfl
  | s :: r, t, la => by rw [cdF, cdF_len r]; simp

theorem jnT_at : ∀ {vs : List Nat} {t k : Nat}, k < vs.length → (jnT vs t)[k]? = some ⟨((t + k : Nat) : Int), []⟩
  | [], _, _, h => by simp at h
  | v :: r, t, 0, _ => by simp [jnT]
  | v :: r, t, k + 1, h => by
    have := jnT_at (vs := r) (t := t + 1) (k := k) (by simpa using h)
    simp only [jnT, List.getElem?_cons_succ, this]
    congr 3
    omega

theorem jnF_not : ∀ {vs : List Nat} {t : Nat} {la : List Int} {v : Nat}, v ∉ vs → (jnF vs t la)[v]? = la[v]?
  | [], _, _, _, _ => rfl
  | x :: r, t, la, v, h => by
    rw [List.mem_cons, not_or] at h
    rw [jnF, jnF_not h.2, List.getElem?_set_ne (fun e => h.1 e.symm)]

theorem jnF_at : ∀ {vs : List Nat} {t : Nat} {la : List Int} {k v : Nat}, vs.Nodup → vs[k]? = some v → v < la.length → (jnF vs t la)[v]? = some ((t + k : Nat) : Int)
  | [], _, _, _, _, _, h, _ => by simp at h
  | x :: r, t, la, 0, v, hn, h, hv => by
    simp at h
    subst h
    rw [jnF, jnF_not (List.nodup_cons.1 hn).1, List.getElem?_set_self hv]
    rfl
  | x :: r, t, la, k + 1, v, hn, h, hv => by
    rw [jnF, jnF_at (List.nodup_cons.1 hn).2 (by simpa using h) (by simpa using hv)]
    congr 2
    omega

theorem cdF_not : ∀ {c : List St} {t : Nat} {la : List Int} {v : Nat}, (∀ s ∈ c, s.to.toNat ≠ v) → (cdF c t la)[v]? = la[v]?
  | [], _, _, _, _ => rfl
  | s :: r, t, la, v, h => by
    rw [cdF, cdF_not fun x hx => h x (List.mem_cons_of_mem _ hx), List.getElem?_set_ne (h s (List.mem_cons_self ..))]

/-- names in use: those ahead, or new ones -/
theorem mem_set_or {la : List Int} {v : Nat} {x n : Int} (h : n ∈ la.set v x) : n ∈ la ∨ n = x := List.mem_or_eq_of_mem_set h

theorem jnF_mem : ∀ {vs : List Nat} {t : Nat} {la : List Int} {n : Int}, n ∈ jnF vs t la → n ∈ la ∨ ∃ k, k < vs.length ∧ n = ((t + k : Nat) : Int)
  | [], _, _, _, h => .inl h
  | x :: r, t, la, n, h => by
    rcases jnF_mem (vs := r) (by rwa [jnF] at h) with h1 | ⟨k, hk, rfl⟩
    · rcases mem_set_or h1 with h1 | rfl
      · exact .inl h1
      · exact .inr ⟨0, by simp, rfl⟩
    · exact .inr ⟨k + 1, by simpa using hk, by omega⟩

theorem cdF_mem : ∀ {c : List St} {t : Nat} {la : List Int} {n : Int}, n ∈ cdF c t la → n ∈ la ∨ ∃ k, k < c.length ∧ n = ((t + k : Nat) : Int)
  | [], _, _, _, h => .inl h
  | x :: r, t, la, n, h => by
    rcases cdF_mem (c := r) (by rwa [cdF] at h) with h1 | ⟨k, hk, rfl⟩
    · rcases mem_set_or h1 with h1 | rfl
      · exact .inl h1
      · exact .inr ⟨0, by simp, rfl⟩
    · exact .inr ⟨k + 1, by simpa using hk, by omega⟩

/-- each step of those named, by what Last says ahead of it -/
theorem cdC_at : ∀ {c : List St} {t : Nat} {la : List Int} {k : Nat} {s : St}, c[k]? = some s → (cdC c t la)[k]? = some (nmS s (t + k) (cdF (c.take k) t la))
  | [], _, _, _, _, h => by simp at h
  | x :: r, t, la, 0, s, h => by
    simp at h
    subst h
    simp [cdC, cdF]
  | x :: r, t, la, k + 1, s, h => by
    have := cdC_at (c := r) (t := t + 1) (la := la.set x.to.toNat (t : Int)) (k := k) (s := s) (by simpa using h)
    simp only [cdC, List.getElem?_cons_succ, this, List.take_succ_cons, cdF]
    congr 2
    omega

theorem nmS_to (s : St) (t : Nat) (la : List Int) : (nmS s t la).to = t := by
  unfold nmS
  split
  · rfl
  · split <;> rfl

/-! ### What the names are -/

/-- what holds of the blocks when all are named -/
structure Bt (vars n : Nat) (ts : List Int) (jv : List (List Nat)) (p : List Bk) (l : List Sg) (t : Nat → Nat) (T : Nat) : Prop where
  len : l.length = n
  at_ : ∀ i, i < n → l[i]? = some (nmB (jv.getD i []) (p.getD i bk0) (bef vars ts l i) (t i))
  lo : ∀ i, i < n → vars ≤ t i
  hi : ∀ i, i < n → t i + szB jv p i ≤ T
  dis : ∀ i j, i < n → j < n → i ≠ j → t i + szB jv p i ≤ t j ∨ t j + szB jv p j ≤ t i
  par : ∀ i, i < n → ts.getD i (-1) = -1 ∨ ∃ d : Nat, d < n ∧ ts.getD i (-1) = d ∧ t d + szB jv p d ≤ t i

/-- how many names blocks take -/
def szL (jv : List (List Nat)) (p : List Bk) : List Nat → Nat
  | [] => 0
  | i :: r => szB jv p i + szL jv p r

theorem bldF_spec {vars n : Nat} {ts : List Int} {jv : List (List Nat)} {p : List Bk} :
    ∀ (r pre : List Nat) (l : List Sg) (T : Nat), (pre ++ r).Nodup → (∀ i, i ∈ pre ++ r → i < n) → l.length = n →
      (∀ a i b, pre ++ r = a ++ i :: b → ts.getD i (-1) = -1 ∨ ∃ d : Nat, d ∈ a ∧ ts.getD i (-1) = d) →
      (∃ t : Nat → Nat, vars ≤ T ∧ (∀ i ∈ pre, l[i]? = some (nmB (jv.getD i []) (p.getD i bk0) (bef vars ts l i) (t i)) ∧ vars ≤ t i ∧ t i + szB jv p i ≤ T ∧ (ts.getD i (-1) = -1 ∨ ∃ d : Nat, d ∈ pre ∧ ts.getD i (-1) = d ∧ t d + szB jv p d ≤ t i)) ∧
        ∀ i j, i ∈ pre → j ∈ pre → i ≠ j → t i + szB jv p i ≤ t j ∨ t j + szB jv p j ≤ t i) →
      (bldF vars ts jv p r l T).1.length = n ∧ (bldF vars ts jv p r l T).2 = T + szL jv p r ∧
      ∃ t : Nat → Nat, (∀ i ∈ pre ++ r, (bldF vars ts jv p r l T).1[i]? = some (nmB (jv.getD i []) (p.getD i bk0) (bef vars ts (bldF vars ts jv p r l T).1 i) (t i)) ∧ vars ≤ t i ∧ t i + szB jv p i ≤ T + szL jv p r ∧
          (ts.getD i (-1) = -1 ∨ ∃ d : Nat, d ∈ pre ++ r ∧ ts.getD i (-1) = d ∧ t d + szB jv p d ≤ t i)) ∧
        ∀ i j, i ∈ pre ++ r → j ∈ pre ++ r → i ≠ j → t i + szB jv p i ≤ t j ∨ t j + szB jv p j ≤ t i
  | [], pre, l, T, hnd, hlt, hl, hts, ⟨t, hv, h1, h2⟩ => by
    refine ⟨hl, by simp [bldF, szL], t, fun i hi => ?_, fun i j hi hj => ?_⟩
    · simp only [List.append_nil] at hi ⊢
      obtain ⟨a, b, c, d⟩ := h1 i hi
      exact ⟨a, b, by simp only [szL]; omega, d⟩
    · simp only [List.append_nil] at hi hj
      exact h2 i j hi hj
  | x :: r, pre, l, T, hnd, hlt, hl, hts, ⟨t, hv, h1, h2⟩ => by
    have hxp : x ∉ pre := fun hm => (List.nodup_append.1 hnd).2.2 x hm x (List.mem_cons_self ..) rfl
    have hxn : x < n := hlt x (by simp)
    have e : pre ++ x :: r = (pre ++ [x]) ++ r := by simp
    -- the blocks named before stay
    have hkeep : ∀ (i : Nat) (y : Sg), i ≠ x → (l.set x y).getD i sg0 = l.getD i sg0 := fun i y hne => by
      rw [List.getD_eq_getElem?_getD, List.getElem?_set_ne (Ne.symm hne), ← List.getD_eq_getElem?_getD]
    have hbef : ∀ (i : Nat) (y : Sg), (ts.getD i (-1) = -1 ∨ ∃ d : Nat, d ∈ pre ∧ ts.getD i (-1) = d) → bef vars ts (l.set x y) i = bef vars ts l i := fun i y h => by
      unfold bef
      rcases h with h | ⟨d, hd, h⟩
      · rw [if_pos h, if_pos h]
      · rw [h, if_neg (by omega), if_neg (by omega), Int.toNat_natCast, hkeep d y fun e => hxp (e ▸ hd)]
    have hpx := hts pre x r rfl
    obtain ⟨g1, g2, t', g3, g4⟩ := bldF_spec (vars := vars) (n := n) (ts := ts) (jv := jv) (p := p) r (pre ++ [x]) (l.set x (nmB (jv.getD x []) (p.getD x bk0) (bef vars ts l x) T)) (T + szB jv p x) (by rw [← e]; exact hnd) (by rw [← e]; exact hlt) (by simpa using hl) (by rw [← e]; exact hts)
      ⟨fun i => if i = x then T else t i, by omega, fun i hi => by
        rw [List.mem_append, List.mem_singleton] at hi
        by_cases hix : i = x
        · subst hix
          refine ⟨?_, by simp; exact hv, by simp, ?_⟩
          · rw [List.getElem?_set_self (by omega), hbef i _ hpx]
            simp
          · rcases hpx with h | ⟨d, hd, h⟩
            · exact .inl h
            · have hdx : d ≠ i := fun e => hxp (e ▸ hd)
              refine .inr ⟨d, List.mem_append_left _ hd, h, ?_⟩
              simp only [if_neg hdx, if_pos trivial]
              exact (h1 d hd).2.2.1
        · have hip : i ∈ pre := by rcases hi with h | h; exact h; exact absurd h hix
          obtain ⟨a, b, c, d⟩ := h1 i hip
          simp only [if_neg hix]
          refine ⟨?_, b, by omega, ?_⟩
          · rw [List.getElem?_set_ne (Ne.symm hix), hbef i _ (d.imp id fun ⟨d, h1, h2, _⟩ => ⟨d, h1, h2⟩), a]
          · rcases d with h | ⟨d, hd, h, h3⟩
            · exact .inl h
            · have hdx : d ≠ x := fun e => hxp (e ▸ hd)
              exact .inr ⟨d, List.mem_append_left _ hd, h, by simp only [if_neg hdx]; exact h3⟩,
      fun i j hi hj hne => by
        rw [List.mem_append, List.mem_singleton] at hi hj
        by_cases hix : i = x
        · subst hix
          have hji : j ≠ i := Ne.symm hne
          have hjp : j ∈ pre := by rcases hj with h | h; exact h; exact absurd h hji
          simp only [if_pos trivial, if_neg hji]
          exact .inr (h1 j hjp).2.2.1
        · have hip : i ∈ pre := by rcases hi with h | h; exact h; exact absurd h hix
          by_cases hjx : j = x
          · subst hjx
            simp only [if_pos trivial, if_neg hix]
            exact .inl (h1 i hip).2.2.1
          · have hjp : j ∈ pre := by rcases hj with h | h; exact h; exact absurd h hjx
            simp only [if_neg hix, if_neg hjx]
            exact h2 i j hip hjp hne⟩
    rw [bldF, e]
    refine ⟨g1, by rw [g2, szL]; omega, t', fun i hi => ?_, g4⟩
    obtain ⟨a, b, c, d⟩ := g3 i hi
    exact ⟨a, b, by rw [szL]; omega, d⟩

end Go.Proofs.Ytgcjknibelfjbaa
