/-
  Plain mathematics of colors: things that clash, colored one by one; with fewer clashes than colors one goes on (Kempe); Brooks' theorem, by the longest way (Zajac).
-/
import Derived.Test.YthmcigdoaededaaDoorMPure
namespace Go.Proofs.YthmcigdoaededaaDoor
set_option linter.unusedSimpArgs false
set_option linter.unusedVariables false

/-- what clashes with what -/
structure Gr (ad : Nat → Nat → Bool) : Prop where
  symm : ∀ i j, ad i j = true → ad j i = true
  irr : ∀ i, ad i i = false

/-- a coloring of some things with k colors -/
structure Prp (ad : Nat → Nat → Bool) (k : Nat) (T : Nat → Prop) (c : Nat → Nat) : Prop where
  lt : ∀ i, T i → c i < k
  ne : ∀ i j, T i → T j → ad i j = true → c i ≠ c j

theorem Prp.sub {ad : Nat → Nat → Bool} {k : Nat} {T T' : Nat → Prop} {c : Nat → Nat} (h : Prp ad k T c) (hs : ∀ i, T' i → T i) : Prp ad k T' c :=
  ⟨fun i hi => h.lt i (hs i hi), fun i j hi hj => h.ne i j (hs i hi) (hs j hj)⟩

theorem Gr.ne {ad : Nat → Nat → Bool} (hg : Gr ad) {i j : Nat} (h : ad i j = true) : i ≠ j := fun e => by
  subst e
  rw [hg.irr] at h
  cases h

theorem all_len : ∀ {k : Nat} {xs : List Nat}, (∀ c, c < k → c ∈ xs) → k ≤ xs.length
  | 0, _, _ => Nat.zero_le _
  | k + 1, xs, h => by
    have hk := h k (by omega)
    have h1 := List.length_erase_of_mem hk
    have h2 := all_len (k := k) (xs := xs.erase k) fun c hc => (List.mem_erase_of_ne (by omega)).2 (h c (by omega))
    have h3 : 0 < xs.length := List.length_pos_of_mem hk
    omega

theorem free_color {k : Nat} {xs : List Nat} (h : xs.length < k) : ∃ c, c < k ∧ c ∉ xs := by
  refine Classical.byContradiction fun hn => ?_
  have := all_len (k := k) (xs := xs) fun c hc => Classical.byContradiction fun hx => hn ⟨c, hc, hx⟩
  omega

section
variable {ad : Nat → Nat → Bool} {k : Nat}

/-- one thing more -/
theorem Prp.put {T : Nat → Prop} {c : Nat → Nat} (hg : Gr ad) (h : Prp ad k T c) {v col : Nat} (hv : ¬ T v) (hc : col < k) (hn : ∀ w, T w → ad v w = true → c w ≠ col) :
    Prp ad k (fun i => T i ∨ i = v) (fun i => if i = v then col else c i) ∧ ∀ i, T i → (if i = v then col else c i) = c i := by
  have hsame : ∀ i, T i → (if i = v then col else c i) = c i := fun i hi => if_neg fun e => hv (by rw [← e]; exact hi)
  refine ⟨⟨fun i hi => ?_, fun i j hi hj ha => ?_⟩, hsame⟩
  · rcases hi with hi | rfl
    · show (if i = v then col else c i) < k
      rw [hsame i hi]
      exact h.lt i hi
    · show (if i = i then col else c i) < k
      rw [if_pos rfl]
      exact hc
  · show (if i = v then col else c i) ≠ (if j = v then col else c j)
    rcases hi with hi | rfl
    · rw [hsame i hi]
      rcases hj with hj | rfl
      · rw [hsame j hj]; exact h.ne i j hi hj ha
      · rw [if_pos rfl]; exact hn i hi (hg.symm _ _ ha)
    · rw [if_pos rfl]
      rcases hj with hj | rfl
      · rw [hsame j hj]; exact fun e => hn j hj ha e.symm
      · rw [hg.irr] at ha; cases ha

/-- fewer colors about than there are -/
theorem Prp.go {T : Nat → Prop} {c : Nat → Nat} (hg : Gr ad) (h : Prp ad k T c) {v : Nat} (hv : ¬ T v) (xs : List Nat) (hx : xs.length < k) (hn : ∀ w, T w → ad v w = true → c w ∈ xs) :
    ∃ c', Prp ad k (fun i => T i ∨ i = v) c' ∧ ∀ i, T i → c' i = c i := by
  obtain ⟨col, h1, h2⟩ := free_color hx
  obtain ⟨h3, h4⟩ := h.put hg hv h1 fun w hw ha e => h2 (by rw [← e]; exact hn w hw ha)
  exact ⟨_, h3, h4⟩

/-- how many of a list a thing clashes with -/
def dgL (ad : Nat → Nat → Bool) (S : List Nat) (v : Nat) : Nat := (S.filter (ad v)).length

theorem nb_mem {S : List Nat} {v u : Nat} : u ∈ S.filter (ad v) ↔ u ∈ S ∧ ad v u = true := List.mem_filter

/-- one of those about is not colored, or has another one's color -/
theorem Prp.goOn {T : Nat → Prop} {c : Nat → Nat} {S : List Nat} (hg : Gr ad) (h : Prp ad k T c) (hT : ∀ i, T i → i ∈ S) {v u : Nat} (hv : ¬ T v) (hd : dgL ad S v ≤ k) (hu : u ∈ S) (ha : ad v u = true)
    (hor : ¬ T u ∨ ∃ u', u' ≠ u ∧ T u' ∧ ad v u' = true ∧ c u' = c u) : ∃ c', Prp ad k (fun i => T i ∨ i = v) c' ∧ ∀ i, T i → c' i = c i := by
  have hm : u ∈ S.filter (ad v) := nb_mem.2 ⟨hu, ha⟩
  have hl := List.length_erase_of_mem hm
  have hp : 0 < (S.filter (ad v)).length := List.length_pos_of_mem hm
  unfold dgL at hd
  refine h.go hg hv (((S.filter (ad v)).erase u).map c) (by rw [List.length_map]; omega) fun w hw haw => ?_
  by_cases he : w = u
  · subst he
    rcases hor with h1 | ⟨u', h1, h2, h3, h4⟩
    · exact absurd hw h1
    · exact List.mem_map.2 ⟨u', (List.mem_erase_of_ne h1).2 (nb_mem.2 ⟨hT u' h2, h3⟩), h4⟩
  · exact List.mem_map.2 ⟨w, (List.mem_erase_of_ne he).2 (nb_mem.2 ⟨hT w hw, haw⟩), rfl⟩

/-! ### Ways -/

def Ch (ad : Nat → Nat → Bool) : List Nat → Prop
  | [] => True
  | [_] => True
  | x :: y :: l => ad x y = true ∧ Ch ad (y :: l)

theorem Ch.tail {x : Nat} : ∀ {l : List Nat}, Ch ad (x :: l) → Ch ad l
  | [], _ => trivial
  | _ :: _, h => h.2

theorem Ch.left : ∀ {a b : List Nat}, Ch ad (a ++ b) → Ch ad a
  | [], _, _ => trivial
  | [x], _, _ => trivial
  | x :: y :: a, b, h => ⟨h.1, Ch.left (a := y :: a) h.2⟩

theorem Ch.right : ∀ {a b : List Nat}, Ch ad (a ++ b) → Ch ad b
  | [], _, h => h
  | x :: a, b, h => Ch.right (a := a) (Ch.tail h)

theorem Ch.link : ∀ {a b : List Nat} {x y : Nat}, Ch ad (a ++ x :: y :: b) → ad x y = true
  | [], _, _, _, h => h.1
  | z :: a, b, x, y, h => Ch.link (a := a) (Ch.tail h)

theorem Ch.join : ∀ {a b : List Nat}, Ch ad a → Ch ad b → (∀ x y, a.getLast? = some x → b.head? = some y → ad x y = true) → Ch ad (a ++ b)
  | [], _, _, hb, _ => hb
  | [x], [], _, _, _ => trivial
  | [x], y :: b, _, hb, hl => ⟨hl x y rfl rfl, hb⟩
  | x :: y :: a, b, ha, hb, hl => ⟨ha.1, Ch.join (a := y :: a) ha.2 hb fun u v hu hv => hl u v (by rw [List.getLast?_cons_cons]; exact hu) hv⟩

theorem Ch.rev (hg : Gr ad) : ∀ {a : List Nat}, Ch ad a → Ch ad a.reverse
  | [], _ => trivial
  | x :: a, h => by
    rw [List.reverse_cons]
    refine Ch.join (Ch.rev hg (Ch.tail h)) trivial fun u v hu hv => ?_
    rw [List.getLast?_reverse] at hu
    simp at hv
    subst hv
    cases a with
    | nil => simp at hu
    | cons y a =>
      simp at hu
      subst hu
      exact hg.symm _ _ h.1

/-- all of a way but its end, each of which leads on to one that is not colored -/
theorem Prp.way (hg : Gr ad) {S : List Nat} (hd : ∀ v ∈ S, dgL ad S v ≤ k) : ∀ (L : List Nat) (z : Nat) (T : Nat → Prop) (c : Nat → Nat), Prp ad k T c → (∀ i, T i → i ∈ S) → Ch ad (L ++ [z]) → (L ++ [z]).Nodup → (∀ x ∈ L ++ [z], x ∈ S ∧ ¬ T x) →
    ∃ c', Prp ad k (fun i => T i ∨ i ∈ L) c' ∧ ∀ i, T i → c' i = c i
  | [], _, T, c, h, _, _, _, _ => ⟨c, h.sub fun i hi => by simpa using hi, fun _ _ => rfl⟩
  | x :: L, z, T, c, h, hT, hch, hnd, hin => by
    obtain ⟨y, hy, hay⟩ : ∃ y, y ∈ L ++ [z] ∧ ad x y = true := by
      cases L with
      | nil => exact ⟨z, by simp, hch.1⟩
      | cons y L => exact ⟨y, by simp, hch.1⟩
    rw [List.cons_append, List.nodup_cons] at hnd
    obtain ⟨hxS, hxT⟩ := hin x (by simp)
    obtain ⟨hyS, hyT⟩ := hin y (List.mem_cons_of_mem _ hy)
    obtain ⟨c1, h1, h2⟩ := h.goOn hg hT hxT (hd x hxS) hyS hay (.inl hyT)
    obtain ⟨c2, h3, h4⟩ := Prp.way hg hd L z (fun i => T i ∨ i = x) c1 h1 (fun i hi => hi.elim (hT i) fun e => by rw [e]; exact hxS) (Ch.tail hch) hnd.2 fun u hu =>
      ⟨(hin u (List.mem_cons_of_mem _ hu)).1, fun hh => hh.elim (hin u (List.mem_cons_of_mem _ hu)).2 fun e => hnd.1 (by rw [← e]; exact hu)⟩
    refine ⟨c2, h3.sub fun i hi => ?_, fun i hi => (h4 i (.inl hi)).trans (h2 i hi)⟩
    rcases hi with hi | hi
    · exact .inl (.inl hi)
    · rcases List.mem_cons.1 hi with hi | hi
      · exact .inl (.inr hi)
      · exact .inr hi

/-- any two of a list clash -/
def CqL (ad : Nat → Nat → Bool) (Q : List Nat) : Prop := ∀ i j, i ∈ Q → j ∈ Q → i ≠ j → ad i j = true

/-- a way that cannot be gone on with -/
theorem longest (hg : Gr ad) {S : List Nat} : ∀ (m : Nat) (P : List Nat) (h : Nat), S.length ≤ m + P.length → Ch ad (h :: P) → (h :: P).Nodup → (∀ x ∈ h :: P, x ∈ S) →
    ∃ E h', (E ++ h :: P).head? = some h' ∧ Ch ad (E ++ h :: P) ∧ (E ++ h :: P).Nodup ∧ (∀ x ∈ E ++ h :: P, x ∈ S) ∧ ∀ u ∈ S, ad h' u = true → u ∈ E ++ h :: P := by
  intro m
  induction m with
  | zero =>
    intro P h hm hch hnd hin
    have hlt : (h :: P).length ≤ S.length := by
      have hsub : ∀ {A B : List Nat}, A.Nodup → (∀ x ∈ A, x ∈ B) → A.length ≤ B.length := by
        intro A
        induction A with
        | nil => intro B _ _; simp
        | cons a A ih =>
          intro B hA hB
          rw [List.nodup_cons] at hA
          have ha := hB a (by simp)
          have h1 := List.length_erase_of_mem ha
          have h2 := ih (B := B.erase a) hA.2 fun x hx => (List.mem_erase_of_ne fun e => hA.1 (by rw [← e]; exact hx)).2 (hB x (List.mem_cons_of_mem _ hx))
          have h3 : 0 < B.length := List.length_pos_of_mem ha
          rw [List.length_cons]
          omega
      exact hsub hnd hin
    rw [List.length_cons] at hlt
    omega
  | succ m ih =>
    intro P h hm hch hnd hin
    by_cases hu : ∃ u, u ∈ S ∧ ad h u = true ∧ u ∉ h :: P
    · obtain ⟨u, hu1, hu2, hu3⟩ := hu
      obtain ⟨E, h', e1, e2, e3, e4, e5⟩ := ih (h :: P) u (by rw [List.length_cons]; omega) ⟨hg.symm _ _ hu2, hch⟩ (List.nodup_cons.2 ⟨hu3, hnd⟩) (fun x hx => by
        rcases List.mem_cons.1 hx with rfl | hx
        · exact hu1
        · exact hin x hx)
      refine ⟨E ++ [u], h', ?_⟩
      rw [List.append_assoc]
      exact ⟨e1, e2, e3, e4, e5⟩
    · exact ⟨[], h, rfl, hch, hnd, hin, fun u hu1 hu2 => Classical.byContradiction fun hu3 => hu ⟨u, hu1, hu2, hu3⟩⟩

/-- the last of a list that has something -/
theorem last_with {p : Nat → Prop} : ∀ {l : List Nat}, (∃ x, x ∈ l ∧ p x) → ∃ a x b, l = a ++ x :: b ∧ p x ∧ ∀ y ∈ b, ¬ p y
  | [], h => by obtain ⟨x, hx, _⟩ := h; cases hx
  | z :: l, h => by
    by_cases h2 : ∃ x, x ∈ l ∧ p x
    · obtain ⟨a, x, b, e, h3, h4⟩ := last_with h2
      exact ⟨z :: a, x, b, by rw [e]; rfl, h3, h4⟩
    · obtain ⟨x, hx, hp⟩ := h
      rcases List.mem_cons.1 hx with rfl | hx
      · exact ⟨[], x, l, rfl, hp, fun y hy hpy => h2 ⟨y, hy, hpy⟩⟩
      · exact absurd ⟨x, hx, hp⟩ h2

/-- the first of a list that has something -/
theorem first_with {p : Nat → Prop} : ∀ {l : List Nat}, (∃ x, x ∈ l ∧ p x) → ∃ a x b, l = a ++ x :: b ∧ p x ∧ ∀ y ∈ a, ¬ p y
  | [], h => by obtain ⟨x, hx, _⟩ := h; cases hx
  | z :: l, h => by
    by_cases hz : p z
    · exact ⟨[], z, l, rfl, hz, fun y hy => by cases hy⟩
    · obtain ⟨a, x, b, e, h3, h4⟩ := first_with (l := l) (by
        obtain ⟨x, hx, hp⟩ := h
        rcases List.mem_cons.1 hx with rfl | hx
        · exact absurd hp hz
        · exact ⟨x, hx, hp⟩)
      exact ⟨z :: a, x, b, by rw [e]; rfl, h3, fun y hy => by
        rcases List.mem_cons.1 hy with rfl | hy
        · exact hz
        · exact h4 y hy⟩

theorem dgL_sub {S S' : List Nat} {v : Nat} (h : S'.Sublist S) : dgL ad S' v ≤ dgL ad S v := (h.filter _).length_le

/-- color the end of a way, where two about have one color -/
theorem Prp.close {T : Nat → Prop} {c : Nat → Nat} {S : List Nat} (hg : Gr ad) (h : Prp ad k T c) (hT : ∀ i, T i → i ∈ S) {v a b : Nat} (hv : ¬ T v) (hd : dgL ad S v ≤ k) (ha : T a) (hb : T b) (hab : a ≠ b) (hva : ad v a = true) (hvb : ad v b = true) (he : c a = c b) :
    ∃ c', Prp ad k (fun i => T i ∨ i = v) c' := by
  obtain ⟨c', h1, _⟩ := h.goOn hg hT hv hd (hT a ha) hva (.inr ⟨b, fun e => hab e.symm, hb, hvb, he.symm⟩)
  exact ⟨c', h1⟩

/-- BROOKS: each clashes with k or fewer, k is 3 or more, and no k + 1 all clash: k colors will do -/
theorem brooks (hg : Gr ad) (hk : 3 ≤ k) : ∀ (m : Nat) (S : List Nat), S.length ≤ m → S.Nodup → (∀ v ∈ S, dgL ad S v ≤ k) → (∀ Q : List Nat, Q.Nodup → (∀ x ∈ Q, x ∈ S) → CqL ad Q → Q.length ≤ k) → ∃ c, Prp ad k (fun i => i ∈ S) c := by
  intro m
  induction m with
  | zero =>
    intro S hm _ _ _
    have : S = [] := List.eq_nil_of_length_eq_zero (by omega)
    subst this
    exact ⟨fun _ => 0, ⟨fun i hi => absurd hi (by simp), fun i _ hi => absurd hi (by simp)⟩⟩
  | succ m ih =>
    intro S hm hnd hdeg hcq
    -- what is taken out colors what is left
    have hout : ∀ (p : Nat → Bool), (∃ x, x ∈ S ∧ p x = false) → ∃ c, Prp ad k (fun i => i ∈ S.filter p) c := fun p hx => by
      have hsub : (S.filter p).Sublist S := List.filter_sublist
      refine ih (S.filter p) ?_ (hnd.sublist hsub) (fun v hv => Nat.le_trans (dgL_sub hsub) (hdeg v (hsub.subset hv))) fun Q h1 h2 h3 => hcq Q h1 (fun x hx => hsub.subset (h2 x hx)) h3
      obtain ⟨x, hx, hp⟩ := hx
      have h1 : (S.filter p).length < S.length := by
        rcases Nat.lt_or_ge (S.filter p).length S.length with h | h
        · exact h
        · have h2 := List.Sublist.eq_of_length_le hsub h
          rw [← h2] at hx
          have := (List.mem_filter.1 hx).2
          rw [hp] at this
          cases this
      omega
    by_cases hlow : ∃ v, v ∈ S ∧ dgL ad S v < k
    · obtain ⟨v, hv, hvd⟩ := hlow
      obtain ⟨c, hc⟩ := hout (fun i => i != v) ⟨v, hv, by simp⟩
      obtain ⟨c', h1, _⟩ := hc.go hg (v := v) (fun h => by simp at h) ((S.filter (ad v)).map c) (by rw [List.length_map]; exact hvd) fun w hw haw => List.mem_map.2 ⟨w, nb_mem.2 ⟨(List.mem_filter.1 hw).1, haw⟩, rfl⟩
      exact ⟨c', h1.sub fun i hi => by
        by_cases he : i = v
        · exact .inr he
        · exact .inl (List.mem_filter.2 ⟨hi, by simp [he]⟩)⟩
    · have hreg : ∀ v ∈ S, dgL ad S v = k := fun v hv => by
        have h1 := hdeg v hv
        have h2 : ¬ dgL ad S v < k := fun h => hlow ⟨v, hv, h⟩
        omega
      cases hS : S with
      | nil => exact ⟨fun _ => 0, ⟨fun i hi => absurd hi (by simp), fun i _ hi => absurd hi (by simp)⟩⟩
      | cons v0 S0 =>
        rw [← hS]
        have hv0 : v0 ∈ S := by rw [hS]; simp
        -- two that do not clash, about one
        obtain ⟨a, b, ha, hb, hab, hnab⟩ : ∃ a b, a ∈ S.filter (ad v0) ∧ b ∈ S.filter (ad v0) ∧ a ≠ b ∧ ad a b = false := by
          refine Classical.byContradiction fun hno => ?_
          have hv0n : v0 ∉ S.filter (ad v0) := fun h => by
            have := (nb_mem.1 h).2
            rw [hg.irr] at this
            cases this
          have h1 := hcq (v0 :: S.filter (ad v0)) (List.nodup_cons.2 ⟨hv0n, hnd.filter _⟩) (fun x hx => by
            rcases List.mem_cons.1 hx with rfl | hx
            · exact hv0
            · exact (nb_mem.1 hx).1) fun i j hi hj hne => by
              rcases List.mem_cons.1 hi with rfl | hi
              · rcases List.mem_cons.1 hj with rfl | hj
                · exact absurd rfl hne
                · exact (nb_mem.1 hj).2
              · rcases List.mem_cons.1 hj with rfl | hj
                · exact hg.symm _ _ (nb_mem.1 hi).2
                · cases h : ad i j with
                  | true => rfl
                  | false => exact absurd ⟨i, j, hi, hj, hne, h⟩ hno
          rw [List.length_cons] at h1
          have h2 := hreg v0 hv0
          unfold dgL at h2
          omega
        obtain ⟨haS, hva⟩ := nb_mem.1 ha
        obtain ⟨hbS, hvb⟩ := nb_mem.1 hb
        -- a way that cannot be gone on with
        obtain ⟨E, x0, hh, hch, hpd, hpS, hall⟩ := longest hg (S := S) S.length [v0, a] b (by simp) ⟨hg.symm _ _ hvb, hva, trivial⟩ (by simp [hab.symm, hg.ne (hg.symm _ _ hvb), hg.ne hva]) (fun x hx => by
          simp at hx
          rcases hx with rfl | rfl | rfl
          · exact hbS
          · exact hv0
          · exact haS)
        obtain ⟨P, hP⟩ : ∃ P, E ++ b :: [v0, a] = P := ⟨_, rfl⟩
        rw [hP] at hh hch hpd hpS hall
        have hx0P : x0 ∈ P := by
          cases P with
          | nil => simp at hh
          | cons y P => simp at hh; subst hh; simp
        have hx0S := hpS x0 hx0P
        -- where it comes back
        obtain ⟨C, y, R, hsp, hy, hR⟩ := last_with (p := fun y => ad x0 y = true) (l := P) (by
          have h1 : 0 < (S.filter (ad x0)).length := by
            have := hreg x0 hx0S
            unfold dgL at this
            omega
          obtain ⟨u, hu⟩ := List.exists_mem_of_length_pos h1
          obtain ⟨h2, h3⟩ := nb_mem.1 hu
          exact ⟨u, hall u h2 h3, h3⟩)
        obtain ⟨Cy, hCy⟩ : ∃ Cy, C ++ [y] = Cy := ⟨_, rfl⟩
        have hPC : P = Cy ++ R := by rw [hsp, ← hCy, List.append_assoc]; rfl
        have hCyd : Cy.Nodup := by rw [hPC] at hpd; exact (List.nodup_append.1 hpd).1
        have hCyS : ∀ x ∈ Cy, x ∈ S := fun x hx => hpS x (by rw [hPC]; exact List.mem_append_left _ hx)
        have hCyc : Ch ad Cy := by rw [hPC] at hch; exact hch.left
        have hx0y : ad x0 y = true := hy
        have hCyh : Cy.head? = some x0 := by
          rw [hPC] at hh
          cases hc : Cy with
          | nil => rw [← hCy] at hc; simp at hc
          | cons q t => rw [hc] at hh; simpa using hh
        have hCyl : Cy.getLast? = some y := by rw [← hCy]; simp
        have hx0C : ∀ u ∈ S, ad x0 u = true → u ∈ Cy := fun u hu hau => by
          have h1 := hall u hu hau
          rw [hPC] at h1
          rcases List.mem_append.1 h1 with h | h
          · exact h
          · exact absurd hau (hR u h)
        have hx0m : x0 ∈ Cy := List.mem_of_mem_head? (by rw [hCyh]; rfl)
        by_cases hext : ∃ z, z ∈ Cy ∧ ∃ u, u ∈ S ∧ ad z u = true ∧ u ∉ Cy
        · obtain ⟨X', z, Y, hs, ⟨u, huS, hzu, huC⟩, hfirst⟩ := first_with (p := fun z => ∃ u, u ∈ S ∧ ad z u = true ∧ u ∉ Cy) hext
          obtain ⟨X, w, hXw⟩ : ∃ X w, X' = X ++ [w] := by
            rcases List.eq_nil_or_concat X' with h | ⟨X, w, h⟩
            · exfalso
              subst h
              rw [hs] at hCyh
              simp at hCyh
              subst hCyh
              exact huC (hx0C u huS hzu)
            · exact ⟨X, w, by simpa using h⟩
          subst hXw
          have hs2 : Cy = X ++ w :: z :: Y := by rw [hs, List.append_assoc]; rfl
          have hwC : w ∈ Cy := by rw [hs2]; simp
          have hzC : z ∈ Cy := by rw [hs2]; simp
          have hwin : ∀ t, t ∈ S → ad w t = true → t ∈ Cy := fun t ht hat => Classical.byContradiction fun hn => hfirst w (by simp) ⟨t, ht, hat, hn⟩
          obtain ⟨c, hc⟩ := hout (fun i => decide (i ∉ Cy)) ⟨x0, hx0S, by simp [hx0m]⟩
          have hT0 : ∀ i, i ∈ S.filter (fun i => decide (i ∉ Cy)) ↔ i ∈ S ∧ i ∉ Cy := fun i => by rw [List.mem_filter]; simp
          have huT : u ∈ S.filter (fun i => decide (i ∉ Cy)) := (hT0 u).2 ⟨huS, huC⟩
          obtain ⟨h1, h2⟩ := hc.put hg (v := w) (col := c u) (fun h => ((hT0 w).1 h).2 hwC) (hc.lt u huT) fun t ht hat => absurd (hwin t ((hT0 t).1 ht).1 hat) ((hT0 t).1 ht).2
          obtain ⟨c1, hc1⟩ : ∃ c1, (fun i => if i = w then c u else c i) = c1 := ⟨_, rfl⟩
          have hc1w : c1 w = c u := by rw [← hc1]; exact if_pos rfl
          have hc1u : c1 u = c u := by rw [← hc1]; exact h2 u huT
          rw [hc1] at h1
          have hnd2 : (X ++ z :: Y).Nodup := by
            rw [hs2] at hCyd
            exact hCyd.sublist (List.Sublist.append (List.Sublist.refl _) (List.sublist_cons_self _ _))
          have hwn : w ∉ X ++ z :: Y := by
            rw [hs2] at hCyd
            have h3 := List.nodup_append.1 hCyd
            intro h4
            rcases List.mem_append.1 h4 with h5 | h5
            · exact h3.2.2 w h5 w (by simp) rfl
            · exact (List.nodup_cons.1 h3.2.1).1 h5
          have hLz : X.reverse ++ Y.reverse ++ [z] = X.reverse ++ (z :: Y).reverse := by rw [List.reverse_cons, List.append_assoc]
          have hmem : ∀ x, x ∈ X.reverse ++ (z :: Y).reverse ↔ x ∈ X ++ z :: Y := fun x => by
            rw [List.mem_append, List.mem_append, List.mem_reverse, List.mem_reverse]
          have hXzC : ∀ x, x ∈ X ++ z :: Y → x ∈ Cy := fun x hx => by
            rw [hs2]
            rcases List.mem_append.1 hx with h | h
            · exact List.mem_append_left _ h
            · exact List.mem_append_right _ (List.mem_cons_of_mem _ h)
          have hch1 : Ch ad (X.reverse ++ (z :: Y).reverse) := by
            rw [hs2] at hCyc hCyh hCyl
            refine Ch.join (Ch.rev hg hCyc.left) (Ch.rev hg (Ch.tail hCyc.right)) fun p q hp hq => ?_
            rw [List.getLast?_reverse] at hp
            rw [List.head?_reverse] at hq
            have hp2 : p = x0 := by
              cases X with
              | nil => simp at hp
              | cons f t => simp at hp hCyh; rw [← hp, hCyh]
            have hq2 : q = y := by
              rw [List.getLast?_append] at hCyl
              rw [List.getLast?_cons_cons, hq] at hCyl
              simpa using hCyl
            rw [hp2, hq2]
            exact hx0y
          obtain ⟨c2, h3, h4⟩ := Prp.way hg (fun v hv => hdeg v hv) (X.reverse ++ Y.reverse) z _ c1 h1 (fun i hi => hi.elim (fun h => ((hT0 i).1 h).1) fun h => by rw [h]; exact hCyS w hwC) (by rw [hLz]; exact hch1)
            (by
              rw [hLz]
              exact (List.Perm.nodup_iff ((List.reverse_perm X).append (List.reverse_perm (z :: Y)))).2 hnd2) (fun x hx => by
              rw [hLz, hmem] at hx
              refine ⟨hCyS x (hXzC x hx), fun h => ?_⟩
              rcases h with h | h
              · exact ((hT0 x).1 h).2 (hXzC x hx)
              · rw [h] at hx; exact hwn hx)
          have hzw : ad w z = true := by rw [hs2] at hCyc; exact hCyc.link
          obtain ⟨c3, h5⟩ := h3.close hg (v := z) (a := u) (b := w) (fun i hi => by
              rcases hi with (h | h) | h
              · exact ((hT0 i).1 h).1
              · rw [h]; exact hCyS w hwC
              · refine hCyS i (hXzC i ?_)
                rcases List.mem_append.1 h with h | h
                · exact List.mem_append_left _ (List.mem_reverse.1 h)
                · exact List.mem_append_right _ (List.mem_cons_of_mem _ (List.mem_reverse.1 h))) (fun hi => by
              rcases hi with (h | h) | h
              · exact ((hT0 z).1 h).2 hzC
              · rw [h] at hnd2
                exact hwn (by rw [← h]; simp)
              · have h6 := List.nodup_append.1 hnd2
                rcases List.mem_append.1 h with h | h
                · exact h6.2.2 z (List.mem_reverse.1 h) z (by simp) rfl
                · exact (List.nodup_cons.1 h6.2.1).1 (List.mem_reverse.1 h)) (hdeg z (hCyS z hzC)) (.inl (.inl huT)) (.inl (.inr rfl)) (fun e => huC (by rw [e]; exact hwC)) hzu (hg.symm _ _ hzw) (by rw [h4 u (.inl huT), h4 w (.inr rfl), hc1u, hc1w])
          refine ⟨c3, h5.sub fun i hi => ?_⟩
          by_cases hiC : i ∈ Cy
          · rw [hs2] at hiC
            rcases List.mem_append.1 hiC with h | h
            · exact .inl (.inr (List.mem_append_left _ (List.mem_reverse.2 h)))
            · rcases List.mem_cons.1 h with h | h
              · exact .inl (.inl (.inr h))
              · rcases List.mem_cons.1 h with h | h
                · exact .inr h
                · exact .inl (.inr (List.mem_append_right _ (List.mem_reverse.2 h)))
          · exact .inl (.inl (.inl ((hT0 i).2 ⟨hi, hiC⟩)))
        · have hin : ∀ z, z ∈ Cy → ∀ u, u ∈ S → ad z u = true → u ∈ Cy := fun z hz u hu ha => Classical.byContradiction fun hn => hext ⟨z, hz, u, hu, ha, hn⟩
          have hRn : R = [] := by
            cases R with
            | nil => rfl
            | cons r R' =>
              exfalso
              have h1 : ad y r = true := by
                rw [hsp] at hch
                exact hch.link
              have h2 := hin y (List.mem_of_mem_getLast? (by rw [hCyl]; rfl)) r (hpS r (by rw [hPC]; simp)) h1
              rw [hPC] at hpd
              exact (List.nodup_append.1 hpd).2.2 r h2 r (by simp) rfl
          have hEC : Cy = E ++ b :: [v0, a] := by rw [hP, hPC, hRn, List.append_nil]
          have haC : a ∈ Cy := by rw [hEC]; simp
          have hbC : b ∈ Cy := by rw [hEC]; simp
          have hvC : v0 ∈ Cy := by rw [hEC]; simp
          have hba : ad b a = false := by
            cases h : ad b a with
            | false => rfl
            | true => rw [hg.symm _ _ h] at hnab; cases hnab
          -- a third one about
          obtain ⟨z, hzS, hvz, hzE⟩ : ∃ z, z ∈ S ∧ ad v0 z = true ∧ z ∈ E := by
            have hFd : (S.filter (ad v0)).Nodup := hnd.filter _
            have h1 := List.length_erase_of_mem ha
            have hb2 : b ∈ (S.filter (ad v0)).erase a := (List.mem_erase_of_ne fun e => hab e.symm).2 hb
            have h2 := List.length_erase_of_mem hb2
            have h3 := hreg v0 hv0
            unfold dgL at h3
            obtain ⟨z, hz⟩ := List.exists_mem_of_length_pos (l := ((S.filter (ad v0)).erase a).erase b) (by omega)
            have hzb : z ≠ b := fun e => by rw [e] at hz; exact (List.Nodup.not_mem_erase (hFd.erase a)) hz
            have hz1 := List.mem_of_mem_erase hz
            have hza : z ≠ a := fun e => by rw [e] at hz1; exact (List.Nodup.not_mem_erase hFd) hz1
            obtain ⟨h4, h5⟩ := nb_mem.1 (List.mem_of_mem_erase hz1)
            have h6 := hin v0 hvC z h4 h5
            rw [hEC] at h6
            rcases List.mem_append.1 h6 with h7 | h7
            · exact ⟨z, h4, h5, h7⟩
            · simp at h7
              rcases h7 with h7 | h7 | h7
              · exact absurd h7 hzb
              · rw [h7, hg.irr] at h5; cases h5
              · exact absurd h7 hza
          obtain ⟨X, Y, hXY⟩ := List.append_of_mem hzE
          have hs3 : Cy = X ++ z :: (Y ++ [b, v0, a]) := by rw [hEC, hXY, List.append_assoc]; rfl
          rw [hs3] at hCyd hCyc
          obtain ⟨n1, n2, n3⟩ := List.nodup_append.1 hCyd
          obtain ⟨n4, n5⟩ := List.nodup_cons.1 n2
          obtain ⟨n6, n7, n8⟩ := List.nodup_append.1 n5
          have hXC : ∀ x ∈ X, x ∈ Cy := fun x hx => by rw [hs3]; exact List.mem_append_left _ hx
          have hzC : z ∈ Cy := by rw [hs3]; simp
          have hYC : ∀ x ∈ Y, x ∈ Cy := fun x hx => by rw [hs3]; simp [hx]
          have hXn : ∀ x ∈ X, x ≠ z ∧ x ∉ Y ∧ x ≠ b ∧ x ≠ v0 ∧ x ≠ a := fun x hx => by
            refine ⟨n3 x hx z (by simp), fun h => n3 x hx x (by simp [h]) rfl, n3 x hx b (by simp), n3 x hx v0 (by simp), n3 x hx a (by simp)⟩
          have hYn : ∀ x ∈ Y, x ≠ z ∧ x ≠ b ∧ x ≠ v0 ∧ x ≠ a := fun x hx => by
            refine ⟨fun e => n4 (by rw [← e]; exact List.mem_append_left _ hx), n8 x hx b (by simp), n8 x hx v0 (by simp), n8 x hx a (by simp)⟩
          have hzn : z ≠ b ∧ z ≠ v0 ∧ z ≠ a := by
            refine ⟨fun e => n4 (by rw [e]; simp), fun e => n4 (by rw [e]; simp), fun e => n4 (by rw [e]; simp)⟩
          have hbn : b ≠ v0 := (hg.ne (hg.symm _ _ hvb))
          have hvan : v0 ≠ a := hg.ne hva
          obtain ⟨c, hc⟩ := hout (fun i => decide (i ∉ Cy)) ⟨x0, hx0S, by simp [hx0m]⟩
          have hT0 : ∀ i, i ∈ S.filter (fun i => decide (i ∉ Cy)) ↔ i ∈ S ∧ i ∉ Cy := fun i => by rw [List.mem_filter]; simp
          obtain ⟨h1, h2⟩ := hc.put hg (v := a) (col := 0) (fun h => ((hT0 a).1 h).2 haC) (by omega) fun t ht hat => absurd (hin a haC t ((hT0 t).1 ht).1 hat) ((hT0 t).1 ht).2
          obtain ⟨c1, hc1⟩ : ∃ c1, (fun i => if i = a then 0 else c i) = c1 := ⟨_, rfl⟩
          have hc1a : c1 a = 0 := by rw [← hc1]; exact if_pos rfl
          rw [hc1] at h1
          clear h2
          obtain ⟨h3, h4⟩ := h1.put hg (v := b) (col := 0) (fun h => h.elim (fun h => ((hT0 b).1 h).2 hbC) fun h => hab h.symm) (by omega) fun t ht hbt => by
            rcases ht with ht | ht
            · exact absurd (hin b hbC t ((hT0 t).1 ht).1 hbt) ((hT0 t).1 ht).2
            · rw [ht, hba] at hbt; cases hbt
          obtain ⟨c2, hc2⟩ : ∃ c2, (fun i => if i = b then 0 else c1 i) = c2 := ⟨_, rfl⟩
          have hc2a : c2 a = 0 := by
            rw [← hc2]
            show (if a = b then 0 else c1 a) = 0
            rw [if_neg hab]
            exact hc1a
          have hc2b : c2 b = 0 := by rw [← hc2]; exact if_pos rfl
          rw [hc2] at h3
          clear h4 h1
          have hT2 : ∀ i, (i ∈ S.filter (fun i => decide (i ∉ Cy)) ∨ i = a) ∨ i = b → i ∈ S := fun i hi => by
            rcases hi with (h | h) | h
            · exact ((hT0 i).1 h).1
            · rw [h]; exact haS
            · rw [h]; exact hbS
          have hno2 : ∀ i, i ∈ Cy → i ≠ a → i ≠ b → ¬ ((i ∈ S.filter (fun i => decide (i ∉ Cy)) ∨ i = a) ∨ i = b) := fun i hiC hia hib hi => by
            rcases hi with (h | h) | h
            · exact ((hT0 i).1 h).2 hiC
            · exact hia h
            · exact hib h
          -- from b's end to z
          have hr1 : Y.reverse ++ [z] = (z :: Y).reverse := by rw [List.reverse_cons]
          obtain ⟨c3, h5, h6⟩ := Prp.way hg (fun v hv => hdeg v hv) Y.reverse z _ c2 h3 hT2 (by
              rw [hr1]
              exact Ch.rev hg (Ch.left (a := z :: Y) (b := [b, v0, a]) (hCyc.right))) (by
              rw [hr1]
              exact (List.reverse_perm (z :: Y)).nodup_iff.2 (List.nodup_cons.2 ⟨fun h => n4 (List.mem_append_left _ h), n6⟩)) (fun x hx => by
              rw [hr1, List.mem_reverse] at hx
              rcases List.mem_cons.1 hx with rfl | hx
              · exact ⟨hzS, hno2 _ hzC hzn.2.2 hzn.1⟩
              · exact ⟨hCyS x (hYC x hx), hno2 x (hYC x hx) (hYn x hx).2.2.2 (hYn x hx).2.1⟩)
          have hT3 : ∀ i, ((i ∈ S.filter (fun i => decide (i ∉ Cy)) ∨ i = a) ∨ i = b) ∨ i ∈ Y.reverse → i ∈ S := fun i hi => hi.elim (hT2 i) fun h => hCyS i (hYC i (List.mem_reverse.1 h))
          have hXz : Ch ad (X ++ [z]) := by
            have h7 := hCyc
            rw [show X ++ z :: (Y ++ [b, v0, a]) = (X ++ [z]) ++ (Y ++ [b, v0, a]) by simp] at h7
            exact h7.left
          -- from the other end to z
          obtain ⟨c4, h7, h8⟩ := Prp.way hg (fun v hv => hdeg v hv) X z _ c3 h5 hT3 hXz (by
              rw [List.nodup_append]
              exact ⟨n1, by simp, fun x hx q hq => by simp at hq; rw [hq]; exact (hXn x hx).1⟩) (fun x hx => by
              rcases List.mem_append.1 hx with hx | hx
              · refine ⟨hCyS x (hXC x hx), fun h => ?_⟩
                rcases h with h | h
                · exact hno2 x (hXC x hx) (hXn x hx).2.2.2.2 (hXn x hx).2.2.1 h
                · exact (hXn x hx).2.1 (List.mem_reverse.1 h)
              · simp at hx
                rw [hx]
                refine ⟨hzS, fun h => ?_⟩
                rcases h with h | h
                · exact hno2 z hzC hzn.2.2 hzn.1 h
                · exact (hYn z (List.mem_reverse.1 h)).1 rfl)
          have hT4 : ∀ i, (((i ∈ S.filter (fun i => decide (i ∉ Cy)) ∨ i = a) ∨ i = b) ∨ i ∈ Y.reverse) ∨ i ∈ X → i ∈ S := fun i hi => hi.elim (hT3 i) fun h => hCyS i (hXC i h)
          have hz4 : ¬ ((((z ∈ S.filter (fun i => decide (i ∉ Cy)) ∨ z = a) ∨ z = b) ∨ z ∈ Y.reverse) ∨ z ∈ X) := fun h => by
            rcases h with (h | h) | h
            · exact hno2 z hzC hzn.2.2 hzn.1 h
            · exact (hYn z (List.mem_reverse.1 h)).1 rfl
            · exact (hXn z h).1 rfl
          have hv4 : ¬ ((((v0 ∈ S.filter (fun i => decide (i ∉ Cy)) ∨ v0 = a) ∨ v0 = b) ∨ v0 ∈ Y.reverse) ∨ v0 ∈ X) := fun h => by
            rcases h with (h | h) | h
            · exact hno2 v0 hvC hvan hbn.symm h
            · exact (hYn v0 (List.mem_reverse.1 h)).2.2.1 rfl
            · exact (hXn v0 h).2.2.2.1 rfl
          obtain ⟨c5, h9, h10⟩ := h7.goOn hg hT4 hz4 (hdeg z hzS) hv0 (hg.symm _ _ hvz) (.inl hv4)
          have e5a : c5 a = 0 := by rw [h10 a (.inl (.inl (.inl (.inr rfl)))), h8 a (.inl (.inl (.inr rfl))), h6 a (.inl (.inr rfl)), hc2a]
          have e5b : c5 b = 0 := by rw [h10 b (.inl (.inl (.inr rfl))), h8 b (.inl (.inr rfl)), h6 b (.inr rfl), hc2b]
          obtain ⟨c6, h11⟩ := h9.close hg (v := v0) (a := a) (b := b) (fun i hi => hi.elim (hT4 i) fun h => by rw [h]; exact hzS) (fun hi => hi.elim hv4 fun h => hzn.2.1 h.symm) (hdeg v0 hv0) (.inl (.inl (.inl (.inl (.inr rfl))))) (.inl (.inl (.inl (.inr rfl)))) hab hva hvb (e5a.trans e5b.symm)
          refine ⟨c6, h11.sub fun i hi => ?_⟩
          by_cases hiC : i ∈ Cy
          · rw [hs3] at hiC
            rcases List.mem_append.1 hiC with h | h
            · exact .inl (.inl (.inr h))
            · rcases List.mem_cons.1 h with h | h
              · exact .inl (.inr h)
              · rcases List.mem_append.1 h with h | h
                · exact .inl (.inl (.inl (.inr (List.mem_reverse.2 h))))
                · simp at h
                  rcases h with h | h | h
                  · exact .inl (.inl (.inl (.inl (.inr h))))
                  · exact .inr h
                  · exact .inl (.inl (.inl (.inl (.inl (.inr h)))))
          · exact .inl (.inl (.inl (.inl (.inl (.inl ((hT0 i).2 ⟨hi, hiC⟩))))))

end

end Go.Proofs.YthmcigdoaededaaDoor
