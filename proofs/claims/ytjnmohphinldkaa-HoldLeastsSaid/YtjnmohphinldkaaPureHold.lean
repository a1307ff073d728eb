/-
  Plain mathematics of places for things (P1): runs by any choice, the two rules, what each implies (Belady; Mattson, Gecsei, Slutz and Traiger; Sleator and Tarjan).
-/
import Derived.Test.YtjnmohphinldkaaMPure
namespace Go.Proofs.Ytjnmohphinldkaa
set_option linter.unusedSimpArgs false
set_option linter.unusedVariables false

/-- things asked for one by one, by any choice of what goes: the misses, and what is there at the end -/
inductive Run (p : Nat) : List Int → List Int → Nat → List Int → Prop
  | nil (c) : Run p c [] 0 c
  | hit {c c' d r rs k} : r ∈ c → c'.Perm c → Run p c' rs k d → Run p c (r :: rs) k d
  | room {c c' d r rs k} : r ∉ c → c.length < p → c'.Perm (r :: c) → Run p c' rs k d → Run p c (r :: rs) (k + 1) d
  | out {c c' d r x rs k} : r ∉ c → c.length = p → x ∈ c → c'.Perm (r :: c.erase x) → Run p c' rs k d → Run p c (r :: rs) (k + 1) d

theorem perm_nodup {a b : List Int} (h : a.Perm b) (hb : b.Nodup) : a.Nodup := h.nodup_iff.2 hb

theorem out_nodup {c : List Int} {r x : Int} (hc : c.Nodup) (hr : r ∉ c) : (r :: c.erase x).Nodup := List.nodup_cons.2 ⟨fun h => hr (List.mem_of_mem_erase h), hc.erase x⟩

theorem Run.keep {p : Nat} {c d rs : List Int} {k : Nat} (h : Run p c rs k d) : c.Nodup → c.length ≤ p → d.Nodup ∧ d.length ≤ p := by
  induction h with
  | nil => exact fun h1 h2 => ⟨h1, h2⟩
  | hit _ hp _ ih => exact fun h1 h2 => ih (perm_nodup hp h1) (by rw [hp.length_eq]; exact h2)
  | room hr hl hp _ ih => exact fun h1 h2 => ih (perm_nodup hp (List.nodup_cons.2 ⟨hr, h1⟩)) (by rw [hp.length_eq, List.length_cons]; omega)
  | @out c c' d r x rs k hr hl hx hp _ ih =>
    intro h1 h2
    have h3 := List.length_erase_of_mem hx
    have h4 := List.length_pos_of_mem hx
    exact ih (perm_nodup hp (out_nodup h1 hr)) (by rw [hp.length_eq, List.length_cons]; omega)

theorem Run.split {p : Nat} : ∀ {a b c d : List Int} {k : Nat}, Run p c (a ++ b) k d → ∃ k1 k2 e, Run p c a k1 e ∧ Run p e b k2 d ∧ k = k1 + k2
  | [], b, c, d, k, h => ⟨0, k, c, .nil c, h, by omega⟩
  | r :: a, b, c, d, k, h => by
    rw [List.cons_append] at h
    cases h with
    | hit h1 h2 h3 =>
      obtain ⟨k1, k2, e, h4, h5, h6⟩ := Run.split h3
      exact ⟨k1, k2, e, .hit h1 h2 h4, h5, h6⟩
    | room h1 h2 h3 h4 =>
      obtain ⟨k1, k2, e, h5, h6, h7⟩ := Run.split h4
      exact ⟨k1 + 1, k2, e, .room h1 h2 h3 h5, h6, by omega⟩
    | out h1 h2 h3 h4 h5 =>
      obtain ⟨k1, k2, e, h6, h7, h8⟩ := Run.split h5
      exact ⟨k1 + 1, k2, e, .out h1 h2 h3 h4 h6, h7, by omega⟩

/-- what was asked for last is there -/
theorem Run.last {p : Nat} {c d rs : List Int} {k : Nat} (h : Run p c rs k d) : ∀ r, rs.getLast? = some r → r ∈ d := by
  have key : ∀ {c d rs : List Int} {k : Nat}, Run p c rs k d → ∀ r, (r ∈ c → rs = [] → r ∈ d) ∧ (rs.getLast? = some r → r ∈ d) := by
    intro c d rs k h
    induction h with
    | nil c => exact fun r => ⟨fun h1 _ => h1, fun h1 => by simp at h1⟩
    | @hit c c' d r rs k hr hp _ ih =>
      refine fun q => ⟨fun _ h1 => by simp at h1, fun h1 => ?_⟩
      cases rs with
      | nil => simp at h1; subst h1; exact (ih _).1 (hp.mem_iff.2 hr) rfl
      | cons y t => rw [List.getLast?_cons_cons] at h1; exact (ih q).2 h1
    | @room c c' d r rs k hr hl hp _ ih =>
      refine fun q => ⟨fun _ h1 => by simp at h1, fun h1 => ?_⟩
      cases rs with
      | nil => simp at h1; subst h1; exact (ih _).1 (hp.mem_iff.2 (by simp)) rfl
      | cons y t => rw [List.getLast?_cons_cons] at h1; exact (ih q).2 h1
    | @out c c' d r x rs k hr hl hx hp _ ih =>
      refine fun q => ⟨fun _ h1 => by simp at h1, fun h1 => ?_⟩
      cases rs with
      | nil => simp at h1; subst h1; exact (ih _).1 (hp.mem_iff.2 (by simp)) rfl
      | cons y t => rw [List.getLast?_cons_cons] at h1; exact (ih q).2 h1
  exact fun r hr => (key h r).2 hr

/-- the fewest misses -/
structure Best (p : Nat) (rs : List Int) (k : Nat) : Prop where
  run : ∃ d, Run p [] rs k d
  least : ∀ k' d, Run p [] rs k' d → k ≤ k'

theorem Best.same {p : Nat} {rs : List Int} {k k' : Nat} (h : Best p rs k) (h' : Best p rs k') : k = k' := by
  obtain ⟨d, hd⟩ := h.run
  obtain ⟨d', hd'⟩ := h'.run
  exact Nat.le_antisymm (h.least _ _ hd') (h'.least _ _ hd)

/-! ### The two rules -/

/-- what was asked for longest ago goes: it stands first -/
def lruC (p : Nat) (c : List Int) (r : Int) : List Int := if r ∈ c then c.erase r ++ [r] else (if c.length < p then c else c.tail) ++ [r]

def lruM (c : List Int) (r : Int) : Nat := if r ∈ c then 0 else 1

def lruG (p : Nat) : List Int → List Int → Nat
  | _, [] => 0
  | c, r :: rs => lruM c r + lruG p (lruC p c r) rs

def lruF (p : Nat) : List Int → List Int → List Int
  | c, [] => c
  | c, r :: rs => lruF p (lruC p c r) rs

/-- what came longest ago goes: it stands first -/
def fifoC (p : Nat) (c : List Int) (r : Int) : List Int := if r ∈ c then c else (if c.length < p then c else c.tail) ++ [r]

def fifoG (p : Nat) : List Int → List Int → Nat
  | _, [] => 0
  | c, r :: rs => lruM c r + fifoG p (fifoC p c r) rs

theorem snoc_perm (c : List Int) (r : Int) : (c ++ [r]).Perm (r :: c) := List.perm_append_comm

theorem tail_erase {x : Int} {c : List Int} : (x :: c).erase x = c := by simp

theorem lru_run {p : Nat} (hp : 1 ≤ p) : ∀ (rs c : List Int), c.Nodup → c.length ≤ p → ∃ d, Run p c rs (lruG p c rs) d
  | [], c, _, _ => ⟨c, .nil c⟩
  | r :: rs, c, hd, hl => by
    unfold lruG lruM lruC
    by_cases hr : r ∈ c
    · have hpm : (c.erase r ++ [r]).Perm c := (snoc_perm _ r).trans (List.perm_cons_erase hr).symm
      rw [if_pos hr, if_pos hr, Nat.zero_add]
      obtain ⟨d, h⟩ := lru_run hp rs (c.erase r ++ [r]) (perm_nodup hpm hd) (by rw [hpm.length_eq]; exact hl)
      exact ⟨d, .hit hr hpm h⟩
    · rw [if_neg hr, if_neg hr, Nat.add_comm]
      by_cases hc : c.length < p
      · rw [if_pos hc]
        have hpm := snoc_perm c r
        obtain ⟨d, h⟩ := lru_run hp rs (c ++ [r]) (perm_nodup hpm (List.nodup_cons.2 ⟨hr, hd⟩)) (by rw [hpm.length_eq, List.length_cons]; omega)
        exact ⟨d, .room hr hc hpm h⟩
      · rw [if_neg hc]
        cases c with
        | nil => simp at hc; omega
        | cons x t =>
          have hpm : (t ++ [r]).Perm (r :: (x :: t).erase x) := by rw [tail_erase]; exact snoc_perm t r
          rw [List.length_cons] at hc hl
          obtain ⟨d, h⟩ := lru_run hp rs (t ++ [r]) (perm_nodup hpm (out_nodup hd hr)) (by rw [List.length_append, List.length_singleton]; omega)
          exact ⟨d, .out hr (by rw [List.length_cons]; omega) (by simp) hpm h⟩

theorem fifo_run {p : Nat} (hp : 1 ≤ p) : ∀ (rs c : List Int), c.Nodup → c.length ≤ p → ∃ d, Run p c rs (fifoG p c rs) d
  | [], c, _, _ => ⟨c, .nil c⟩
  | r :: rs, c, hd, hl => by
    unfold fifoG lruM fifoC
    by_cases hr : r ∈ c
    · rw [if_pos hr, if_pos hr, Nat.zero_add]
      obtain ⟨d, h⟩ := fifo_run hp rs c hd hl
      exact ⟨d, .hit hr (List.Perm.refl _) h⟩
    · rw [if_neg hr, if_neg hr, Nat.add_comm]
      by_cases hc : c.length < p
      · rw [if_pos hc]
        have hpm := snoc_perm c r
        obtain ⟨d, h⟩ := fifo_run hp rs (c ++ [r]) (perm_nodup hpm (List.nodup_cons.2 ⟨hr, hd⟩)) (by rw [hpm.length_eq, List.length_cons]; omega)
        exact ⟨d, .room hr hc hpm h⟩
      · rw [if_neg hc]
        cases c with
        | nil => simp at hc; omega
        | cons x t =>
          have hpm : (t ++ [r]).Perm (r :: (x :: t).erase x) := by rw [tail_erase]; exact snoc_perm t r
          rw [List.length_cons] at hc hl
          obtain ⟨d, h⟩ := fifo_run hp rs (t ++ [r]) (perm_nodup hpm (out_nodup hd hr)) (by rw [List.length_append, List.length_singleton]; omega)
          exact ⟨d, .out hr (by rw [List.length_cons]; omega) (by simp) hpm h⟩

theorem lruG_append (p : Nat) : ∀ (a b c : List Int), lruG p c (a ++ b) = lruG p c a + lruG p (lruF p c a) b
  | [], b, c => by simp [lruG, lruF]
  | r :: a, b, c => by
    show lruM c r + lruG p (lruC p c r) (a ++ b) = lruM c r + lruG p (lruC p c r) a + lruG p (lruF p (lruC p c r) a) b
    rw [lruG_append p a b]
    omega

/-- with room for one more, nothing that was there is missed (Mattson, Gecsei, Slutz and Traiger) -/
theorem lru_more {p : Nat} (hp : 1 ≤ p) : ∀ (rs pre c : List Int), (pre ++ c).Nodup → (pre = [] ∧ c.length ≤ p ∨ pre.length = 1 ∧ c.length = p) → lruG (p + 1) (pre ++ c) rs ≤ lruG p c rs
  | [], _, _, _, _ => Nat.le_refl _
  | r :: rs, pre, c, hd, hpc => by
    obtain ⟨n1, n2, n3⟩ := List.nodup_append.1 hd
    have hdr : r ∉ pre ++ c → ∀ e : List Int, (e ++ c).Nodup → r ∉ e → ((e ++ c) ++ [r]).Nodup := fun h e he hre => by
      rw [List.nodup_append]
      refine ⟨he, by simp, fun x hx y hy e2 => ?_⟩
      simp at hy
      subst hy
      subst e2
      rcases List.mem_append.1 hx with h1 | h1
      · exact hre h1
      · exact h (List.mem_append_right _ h1)
    unfold lruG lruM lruC
    by_cases hr : r ∈ c
    · have hr2 : r ∈ pre ++ c := List.mem_append_right _ hr
      have hrp : r ∉ pre := fun h => n3 r h r hr rfl
      rw [if_pos hr, if_pos hr, if_pos hr2, if_pos hr2, List.erase_append_right _ hrp, List.append_assoc]
      have hpm : (c.erase r ++ [r]).Perm c := (snoc_perm _ r).trans (List.perm_cons_erase hr).symm
      have := lru_more hp rs pre (c.erase r ++ [r]) (by
        rw [List.nodup_append]
        exact ⟨n1, perm_nodup hpm n2, fun x hx y hy => n3 x hx y (hpm.mem_iff.1 hy)⟩) (by rw [hpm.length_eq]; exact hpc)
      omega
    · rw [if_neg hr, if_neg hr]
      rcases hpc with ⟨rfl, hl⟩ | ⟨hl1, hl⟩
      · simp only [List.nil_append] at hd ⊢
        rw [if_neg hr, if_neg hr, if_pos (by omega)]
        by_cases hc : c.length < p
        · rw [if_pos hc]
          have := lru_more hp rs [] (c ++ [r]) (by simpa using perm_nodup (snoc_perm c r) (List.nodup_cons.2 ⟨hr, hd⟩)) (.inl ⟨rfl, by rw [List.length_append, List.length_singleton]; omega⟩)
          simp only [List.nil_append] at this
          omega
        · rw [if_neg hc]
          cases c with
          | nil => simp at hc; omega
          | cons x t =>
            rw [List.length_cons] at hc hl
            have := lru_more hp rs [x] (t ++ [r]) (by simpa using perm_nodup (snoc_perm (x :: t) r) (List.nodup_cons.2 ⟨hr, hd⟩)) (.inr ⟨rfl, by rw [List.length_append, List.length_singleton]; omega⟩)
            show 1 + lruG (p + 1) ([x] ++ (t ++ [r])) rs ≤ 1 + lruG p (t ++ [r]) rs
            omega
      · obtain ⟨y, rfl⟩ : ∃ y, pre = [y] := List.length_eq_one_iff.1 hl1
        cases c with
        | nil => simp at hl; omega
        | cons x t =>
          rw [List.length_cons] at hl
          have hc2 : ¬ (x :: t).length < p := by rw [List.length_cons]; omega
          rw [if_neg hc2]
          show (if r ∈ [y] ++ x :: t then 0 else 1) + lruG (p + 1) (if r ∈ [y] ++ x :: t then ([y] ++ x :: t).erase r ++ [r] else (if ([y] ++ x :: t).length < p + 1 then [y] ++ x :: t else ([y] ++ x :: t).tail) ++ [r]) rs ≤ 1 + lruG p (t ++ [r]) rs
          have hnd : ([x] ++ (t ++ [r])).Nodup := by simpa using perm_nodup (snoc_perm (x :: t) r) (List.nodup_cons.2 ⟨hr, n2⟩)
          have ih := lru_more hp rs [x] (t ++ [r]) hnd (.inr ⟨rfl, by rw [List.length_append, List.length_singleton]; omega⟩)
          by_cases hy : r = y
          · subst hy
            have h1 : r ∈ [r] ++ x :: t := by simp
            rw [if_pos h1, if_pos h1]
            have e : ([r] ++ x :: t).erase r ++ [r] = [x] ++ (t ++ [r]) := by simp
            rw [e]
            omega
          · have h1 : r ∉ [y] ++ x :: t := by
              intro h
              rcases List.mem_append.1 h with h | h
              · exact hy (by simpa using h)
              · exact hr h
            rw [if_neg h1, if_neg h1, if_neg (by simp; omega)]
            have e : ([y] ++ x :: t).tail ++ [r] = [x] ++ (t ++ [r]) := by simp
            rw [e]
            omega

/-- with room for one more, the fewest misses are no more -/
theorem run_more {p : Nat} {c d rs : List Int} {k : Nat} (h : Run p c rs k d) : ∀ c' : List Int, c.Nodup → c.length ≤ p → c'.Nodup → c'.length ≤ p + 1 → (∀ x ∈ c, x ∈ c') → ∃ k' d', k' ≤ k ∧ Run (p + 1) c' rs k' d' := by
  have hsub : ∀ {a b : List Int}, a.Nodup → a.length < b.length → b.Nodup → ∃ y, y ∈ b ∧ y ∉ a := by
    intro a b ha hl hb
    refine Classical.byContradiction fun hno => ?_
    have h1 : ∀ y ∈ b, y ∈ a := fun y hy => Classical.byContradiction fun h => hno ⟨y, hy, h⟩
    have key : ∀ {b a : List Int}, b.Nodup → (∀ y ∈ b, y ∈ a) → b.length ≤ a.length := by
      intro b
      induction b with
      | nil => intro a _ _; simp
      | cons y b ih =>
        intro a hb hs
        rw [List.nodup_cons] at hb
        have hy := hs y (by simp)
        have h3 := List.length_erase_of_mem hy
        have h4 := List.length_pos_of_mem hy
        have := ih (a := a.erase y) hb.2 fun z hz => (List.mem_erase_of_ne fun e => hb.1 (by rw [← e]; exact hz)).2 (hs z (List.mem_cons_of_mem _ hz))
        rw [List.length_cons]
        omega
    have := key hb h1
    omega
  induction h with
  | nil c => exact fun c' _ _ _ _ _ => ⟨0, c', Nat.le_refl _, .nil c'⟩
  | @hit c c1 d r rs k hr hp _ ih =>
    intro c' h1 h2 h3 h4 h5
    obtain ⟨k', d', h6, h7⟩ := ih c' (perm_nodup hp h1) (by rw [hp.length_eq]; exact h2) h3 h4 fun x hx => h5 x (hp.mem_iff.1 hx)
    exact ⟨k', d', h6, .hit (h5 r hr) (List.Perm.refl _) h7⟩
  | @room c c1 d r rs k hr hl hp _ ih =>
    intro c' h1 h2 h3 h4 h5
    have n1 : c1.Nodup := perm_nodup hp (List.nodup_cons.2 ⟨hr, h1⟩)
    have l1 : c1.length ≤ p := by rw [hp.length_eq, List.length_cons]; omega
    by_cases hrc : r ∈ c'
    · obtain ⟨k', d', h6, h7⟩ := ih c' n1 l1 h3 h4 fun x hx => by
        rcases List.mem_cons.1 (hp.mem_iff.1 hx) with h | h
        · rw [h]; exact hrc
        · exact h5 x h
      exact ⟨k', d', by omega, .hit hrc (List.Perm.refl _) h7⟩
    · by_cases hc' : c'.length < p + 1
      · obtain ⟨k', d', h6, h7⟩ := ih (r :: c') n1 l1 (List.nodup_cons.2 ⟨hrc, h3⟩) (by rw [List.length_cons]; omega) fun x hx => by
          rcases List.mem_cons.1 (hp.mem_iff.1 hx) with h | h
          · rw [h]; simp
          · exact List.mem_cons_of_mem _ (h5 x h)
        exact ⟨k' + 1, d', by omega, .room hrc hc' (List.Perm.refl _) h7⟩
      · obtain ⟨y, hy1, hy2⟩ := hsub (a := c) (b := c') h1 (by omega) h3
        have l3 := List.length_erase_of_mem hy1
        obtain ⟨k', d', h6, h7⟩ := ih (r :: c'.erase y) n1 l1 (out_nodup h3 hrc) (by rw [List.length_cons]; omega) fun x hx => by
          rcases List.mem_cons.1 (hp.mem_iff.1 hx) with h | h
          · rw [h]; simp
          · exact List.mem_cons_of_mem _ ((List.mem_erase_of_ne fun e => hy2 (by rw [← e]; exact h)).2 (h5 x h))
        exact ⟨k' + 1, d', by omega, .out hrc (by omega) hy1 (List.Perm.refl _) h7⟩
  | @out c c1 d r x rs k hr hl hx hp _ ih =>
    intro c' h1 h2 h3 h4 h5
    have n1 : c1.Nodup := perm_nodup hp (out_nodup h1 hr)
    have lx := List.length_erase_of_mem hx
    have lp := List.length_pos_of_mem hx
    have l1 : c1.length ≤ p := by rw [hp.length_eq, List.length_cons]; omega
    by_cases hrc : r ∈ c'
    · obtain ⟨k', d', h6, h7⟩ := ih c' n1 l1 h3 h4 fun z hz => by
        rcases List.mem_cons.1 (hp.mem_iff.1 hz) with h | h
        · rw [h]; exact hrc
        · exact h5 z (List.mem_of_mem_erase h)
      exact ⟨k', d', by omega, .hit hrc (List.Perm.refl _) h7⟩
    · by_cases hc' : c'.length < p + 1
      · obtain ⟨k', d', h6, h7⟩ := ih (r :: c') n1 l1 (List.nodup_cons.2 ⟨hrc, h3⟩) (by rw [List.length_cons]; omega) fun z hz => by
          rcases List.mem_cons.1 (hp.mem_iff.1 hz) with h | h
          · rw [h]; simp
          · exact List.mem_cons_of_mem _ (h5 z (List.mem_of_mem_erase h))
        exact ⟨k' + 1, d', by omega, .room hrc hc' (List.Perm.refl _) h7⟩
      · have l3 := List.length_erase_of_mem (h5 x hx)
        obtain ⟨k', d', h6, h7⟩ := ih (r :: c'.erase x) n1 l1 (out_nodup h3 hrc) (by rw [List.length_cons]; omega) fun z hz => by
          rcases List.mem_cons.1 (hp.mem_iff.1 hz) with h | h
          · rw [h]; simp
          · have hne : z ≠ x := fun e => by rw [e] at h; exact List.Nodup.not_mem_erase h1 h
            exact List.mem_cons_of_mem _ ((List.mem_erase_of_ne hne).2 (h5 z (List.mem_of_mem_erase h)))
        exact ⟨k' + 1, d', by omega, .out hrc (by omega) (h5 x hx) (List.Perm.refl _) h7⟩

theorem Best.more {p : Nat} {rs : List Int} {k k' : Nat} (h : Best p rs k) (h' : Best (p + 1) rs k') : k' ≤ k := by
  obtain ⟨d, hd⟩ := h.run
  obtain ⟨k2, d2, h1, h2⟩ := run_more hd [] (by simp) (by simp) (by simp) (by simp) (fun x hx => by simp at hx)
  exact Nat.le_trans (h'.least _ _ h2) h1

/-! ### New ones -/

/-- how many different things are asked for that are not among s -/
def newD : List Int → List Int → Nat
  | _, [] => 0
  | s, r :: rs => if r ∈ s then newD s rs else newD (r :: s) rs + 1

theorem newD_set : ∀ {rs s t : List Int}, (∀ x, x ∈ s ↔ x ∈ t) → newD s rs = newD t rs
  | [], _, _, _ => rfl
  | r :: rs, s, t, h => by
    unfold newD
    by_cases hr : r ∈ s
    · rw [if_pos hr, if_pos ((h r).1 hr), newD_set h]
    · rw [if_neg hr, if_neg (fun h2 => hr ((h r).2 h2)), newD_set (s := r :: s) (t := r :: t) fun x => by rw [List.mem_cons, List.mem_cons, h x]]

theorem newD_one : ∀ {rs s : List Int} {x : Int}, newD s rs ≤ newD (x :: s) rs + 1
  | [], _, _ => by simp [newD]
  | r :: rs, s, x => by
    unfold newD
    by_cases hr : r ∈ s
    · rw [if_pos hr, if_pos (List.mem_cons_of_mem _ hr)]
      exact newD_one
    · rw [if_neg hr]
      by_cases hx : r = x
      · subst hx
        rw [if_pos (List.mem_cons_self ..)]
        omega
      · rw [if_neg (fun h => by rcases List.mem_cons.1 h with h | h; exact hx h; exact hr h)]
        have h1 := newD_one (rs := rs) (s := r :: s) (x := x)
        have h2 := newD_set (rs := rs) (s := x :: r :: s) (t := r :: x :: s) fun y => by simp only [List.mem_cons]; constructor <;> (rintro (h | h | h) <;> simp [h])
        omega

theorem newD_anti : ∀ {rs s t : List Int}, (∀ x ∈ s, x ∈ t) → newD t rs ≤ newD s rs
  | [], _, _, _ => Nat.le_refl _
  | r :: rs, s, t, h => by
    unfold newD
    by_cases hr : r ∈ s
    · rw [if_pos hr, if_pos (h r hr)]
      exact newD_anti h
    · rw [if_neg hr]
      have h2 : newD (r :: t) rs ≤ newD (r :: s) rs := newD_anti fun x hx => by
        rcases List.mem_cons.1 hx with h1 | h1
        · rw [h1]; simp
        · exact List.mem_cons_of_mem _ (h x h1)
      by_cases ht : r ∈ t
      · rw [if_pos ht]
        have h3 := newD_set (rs := rs) (s := r :: t) (t := t) fun x => by
          rw [List.mem_cons]
          exact ⟨fun h1 => h1.elim (fun e => by rw [e]; exact ht) id, .inr⟩
        omega
      · rw [if_neg ht]
        omega

theorem newD_many : ∀ {d s rs : List Int}, newD s rs ≤ newD (d ++ s) rs + d.length
  | [], s, rs => by simp
  | x :: d, s, rs => by
    have h1 := newD_many (d := d) (s := s) (rs := rs)
    have h2 := newD_one (rs := rs) (s := d ++ s) (x := x)
    rw [List.cons_append, List.length_cons]
    omega

/-- each new one is missed -/
theorem Run.new {p : Nat} {c d rs : List Int} {k : Nat} (h : Run p c rs k d) : newD c rs ≤ k := by
  induction h with
  | nil => exact Nat.le_refl _
  | @hit c c' d r rs k hr hp _ ih =>
    unfold newD
    rw [if_pos hr, newD_set (t := c') fun x => hp.mem_iff.symm]
    exact ih
  | @room c c' d r rs k hr hl hp _ ih =>
    unfold newD
    rw [if_neg hr, newD_set (t := c') fun x => hp.mem_iff.symm]
    omega
  | @out c c' d r x rs k hr hl hx hp _ ih =>
    unfold newD
    rw [if_neg hr]
    have h1 : newD (r :: c) rs ≤ newD c' rs := newD_anti fun y hy => by
      rcases List.mem_cons.1 (hp.mem_iff.1 hy) with h2 | h2
      · rw [h2]; simp
      · exact List.mem_cons_of_mem _ (List.mem_of_mem_erase h2)
    omega

/-- with as many places as there are different things each misses once -/
theorem Run.all {p : Nat} {c d rs : List Int} {k : Nat} (h : Run p c rs k d) : c.length + newD c rs ≤ p → k = newD c rs := by
  induction h with
  | nil => exact fun _ => rfl
  | @hit c c' d r rs k hr hp _ ih =>
    unfold newD
    rw [if_pos hr, newD_set (t := c') fun x => hp.mem_iff.symm]
    intro h1
    exact ih (by rw [hp.length_eq]; exact h1)
  | @room c c' d r rs k hr hl hp _ ih =>
    unfold newD
    rw [if_neg hr, newD_set (t := c') fun x => hp.mem_iff.symm]
    intro h1
    rw [ih (by rw [hp.length_eq, List.length_cons]; omega)]
  | @out c c' d r x rs k hr hl hx hp _ ih =>
    unfold newD
    rw [if_neg hr]
    intro h1
    omega

/-! ### Sleator and Tarjan -/

/-- what was asked for since, s, stands last; while it is no more than the places, each miss is a new one -/
theorem lru_new {p : Nat} : ∀ (rs u s : List Int), (u ++ s).Nodup → (u ++ s).length ≤ p → lruG p (u ++ s) rs ≤ newD s rs ∨ p + 1 ≤ s.length + newD s rs
  | [], _, _, _, _ => .inl (Nat.zero_le _)
  | r :: rs, u, s, hd, hl => by
    obtain ⟨n1, n2, n3⟩ := List.nodup_append.1 hd
    unfold newD
    by_cases hr : r ∈ s
    · have hru : r ∉ u := fun h => n3 r h r hr rfl
      have hm : r ∈ u ++ s := List.mem_append_right _ hr
      have hpm : (s.erase r ++ [r]).Perm s := (snoc_perm _ r).trans (List.perm_cons_erase hr).symm
      rw [if_pos hr]
      have ih := lru_new (p := p) rs u (s.erase r ++ [r]) (by
        rw [List.nodup_append]
        exact ⟨n1, perm_nodup hpm n2, fun x hx y hy => n3 x hx y (hpm.mem_iff.1 hy)⟩) (by rw [List.length_append, hpm.length_eq, ← List.length_append]; exact hl)
      rw [newD_set (t := s) fun x => hpm.mem_iff, hpm.length_eq] at ih
      have e : lruG p (u ++ s) (r :: rs) = lruG p (u ++ (s.erase r ++ [r])) rs := by
        show lruM (u ++ s) r + lruG p (lruC p (u ++ s) r) rs = _
        unfold lruM lruC
        rw [if_pos hm, if_pos hm, List.erase_append_right _ hru, List.append_assoc, Nat.zero_add]
      rw [e]
      exact ih
    · rw [if_neg hr]
      have hns : newD (r :: s) rs = newD (s ++ [r]) rs := newD_set fun x => by rw [List.mem_cons, List.mem_append, List.mem_singleton]; exact or_comm
      rw [hns]
      have hls : (s ++ [r]).length = s.length + 1 := by simp
      by_cases hu : r ∈ u
      · have hm : r ∈ u ++ s := List.mem_append_left _ hu
        have lu := List.length_erase_of_mem hu
        have lp := List.length_pos_of_mem hu
        rw [List.length_append] at hl
        have ih := lru_new (p := p) rs (u.erase r) (s ++ [r]) (by
          rw [List.nodup_append]
          refine ⟨n1.erase r, perm_nodup (snoc_perm s r) (List.nodup_cons.2 ⟨hr, n2⟩), fun x hx y hy e2 => ?_⟩
          subst e2
          rcases List.mem_append.1 hy with h | h
          · exact n3 x (List.mem_of_mem_erase hx) x h rfl
          · simp at h
            rw [h] at hx
            exact List.Nodup.not_mem_erase n1 hx) (by rw [List.length_append, hls]; omega)
        rw [hls] at ih
        have e : lruG p (u ++ s) (r :: rs) = lruG p (u.erase r ++ (s ++ [r])) rs := by
          show lruM (u ++ s) r + lruG p (lruC p (u ++ s) r) rs = _
          unfold lruM lruC
          rw [if_pos hm, if_pos hm, List.erase_append_left _ hu, List.append_assoc, Nat.zero_add]
        rw [e]
        omega
      · have hm : r ∉ u ++ s := fun h => (List.mem_append.1 h).elim hu hr
        have hnd : ∀ v : List Int, v.Sublist u → (v ++ (s ++ [r])).Nodup := fun v hv => by
          have h1 : ((u ++ s) ++ [r]).Nodup := perm_nodup (snoc_perm _ r) (List.nodup_cons.2 ⟨hm, hd⟩)
          rw [List.append_assoc] at h1
          exact h1.sublist (List.Sublist.append hv (List.Sublist.refl _))
        have e : lruG p (u ++ s) (r :: rs) = 1 + lruG p ((if (u ++ s).length < p then u ++ s else (u ++ s).tail) ++ [r]) rs := by
          show lruM (u ++ s) r + lruG p (lruC p (u ++ s) r) rs = _
          unfold lruM lruC
          rw [if_neg hm, if_neg hm]
        rw [e]
        by_cases hc : (u ++ s).length < p
        · rw [if_pos hc, List.append_assoc]
          rw [List.length_append] at hc
          have ih := lru_new (p := p) rs u (s ++ [r]) (hnd u (List.Sublist.refl _)) (by rw [List.length_append, hls]; omega)
          rw [hls] at ih
          omega
        · rw [if_neg hc]
          rw [List.length_append] at hc hl
          cases u with
          | nil =>
            simp only [List.length_nil] at hc hl
            right
            omega
          | cons y u =>
            rw [List.length_cons] at hc hl
            have ih := lru_new (p := p) rs u (s ++ [r]) (hnd u (List.sublist_cons_self _ _)) (by rw [List.length_append, hls]; omega)
            rw [hls] at ih
            have e2 : (y :: u ++ s).tail ++ [r] = u ++ (s ++ [r]) := by simp
            rw [e2]
            omega

theorem lruM_le (c : List Int) (r : Int) : lruM c r ≤ 1 := by unfold lruM; split <;> omega

theorem lru_cut {p : Nat} : ∀ (rs c : List Int) (q : Nat), ∃ a b, rs = a ++ b ∧ lruG p c a ≤ q ∧ (b = [] ∨ lruG p c a = q)
  | [], c, q => ⟨[], [], rfl, Nat.zero_le _, .inl rfl⟩
  | r :: rs, c, q => by
    have h1 := lruM_le c r
    by_cases hq : q = 0
    · exact ⟨[], r :: rs, rfl, Nat.zero_le _, .inr (by rw [hq]; rfl)⟩
    · obtain ⟨a, b, e, h2, h3⟩ := lru_cut (p := p) rs (lruC p c r) (q - lruM c r)
      have h4 : lruG p c (r :: a) = lruM c r + lruG p (lruC p c r) a := rfl
      exact ⟨r :: a, b, by rw [e]; rfl, by omega, h3.imp id fun h => by omega⟩

theorem lruC_keep {p : Nat} (hp : 1 ≤ p) {c : List Int} {r : Int} (hd : c.Nodup) (hl : c.length ≤ p) : (lruC p c r).Nodup ∧ (lruC p c r).length ≤ p ∧ ∃ u, lruC p c r = u ++ [r] := by
  unfold lruC
  by_cases hr : r ∈ c
  · have hpm : (c.erase r ++ [r]).Perm c := (snoc_perm _ r).trans (List.perm_cons_erase hr).symm
    rw [if_pos hr]
    exact ⟨perm_nodup hpm hd, by rw [hpm.length_eq]; exact hl, _, rfl⟩
  · rw [if_neg hr]
    by_cases hc : c.length < p
    · rw [if_pos hc]
      have hpm := snoc_perm c r
      exact ⟨perm_nodup hpm (List.nodup_cons.2 ⟨hr, hd⟩), by rw [hpm.length_eq, List.length_cons]; omega, _, rfl⟩
    · rw [if_neg hc]
      have hpm := snoc_perm c.tail r
      refine ⟨perm_nodup hpm (List.nodup_cons.2 ⟨fun h => hr (List.mem_of_mem_tail h), hd.sublist (List.tail_sublist c)⟩), ?_, _, rfl⟩
      rw [hpm.length_eq, List.length_cons, List.length_tail]
      omega

theorem lruF_keep {p : Nat} (hp : 1 ≤ p) : ∀ (rs c : List Int), c.Nodup → c.length ≤ p → (lruF p c rs).Nodup ∧ (lruF p c rs).length ≤ p ∧ ∀ y, rs.getLast? = some y → ∃ u, lruF p c rs = u ++ [y]
  | [], c, hd, hl => ⟨hd, hl, fun y h => by simp at h⟩
  | [r], c, hd, hl => by
    obtain ⟨h1, h2, h3⟩ := lruC_keep hp (r := r) hd hl
    refine ⟨h1, h2, fun y h => ?_⟩
    simp at h
    subst h
    exact h3
  | r :: q :: rs, c, hd, hl => by
    obtain ⟨h1, h2, _⟩ := lruC_keep hp (r := r) hd hl
    obtain ⟨h4, h5, h6⟩ := lruF_keep hp (q :: rs) (lruC p c r) h1 h2
    exact ⟨h4, h5, fun y h => h6 y (by rw [List.getLast?_cons_cons] at h; exact h)⟩

/-- from what was asked for last on -/
theorem sleator_from {p h : Nat} (hh : 1 ≤ h) (hhp : h ≤ p) : ∀ (m : Nat) (rs u : List Int) (x : Int) (d e : List Int) (k : Nat), rs.length ≤ m → (u ++ [x]).Nodup → (u ++ [x]).length ≤ p → d.Nodup → d.length ≤ h → x ∈ d → Run h d rs k e →
    (p - h + 1) * lruG p (u ++ [x]) rs ≤ p * k + (p - h + 1) * (h - 1) := by
  intro m
  induction m with
  | zero =>
    intro rs u x d e k hm _ _ _ _ _ _
    have : rs = [] := List.eq_nil_of_length_eq_zero (by omega)
    subst this
    simp [lruG]
  | succ m ih =>
    intro rs u x d e k hm hnd hl hdd hdl hxd hrun
    obtain ⟨a, b, rfl, ha, hb⟩ := lru_cut (p := p) rs (u ++ [x]) p
    obtain ⟨k1, k2, e1, r1, r2, rfl⟩ := hrun.split
    have hnew : lruG p (u ++ [x]) a ≤ newD [x] a := by
      rcases lru_new a u [x] hnd hl with h1 | h1
      · exact h1
      · simp at h1; omega
    have hk1 : newD [x] a ≤ k1 + (h - 1) := by
      have h1 := newD_many (d := d.erase x) (s := [x]) (rs := a)
      have h2 := newD_set (rs := a) (s := d.erase x ++ [x]) (t := d) fun y => by
        rw [List.mem_append, List.mem_singleton]
        constructor
        · rintro (h | h)
          · exact List.mem_of_mem_erase h
          · rw [h]; exact hxd
        · intro h
          by_cases hy : y = x
          · exact .inr hy
          · exact .inl ((List.mem_erase_of_ne hy).2 h)
      have h3 := r1.new
      have h4 := List.length_erase_of_mem hxd
      omega
    rw [lruG_append]
    obtain ⟨M, hM⟩ : ∃ M, lruG p (u ++ [x]) a = M := ⟨_, rfl⟩
    rw [hM] at ha hb hnew ⊢
    have hc : p - h + 1 ≤ p := by omega
    rcases hb with rfl | hMp
    · have e0 : lruG p (lruF p (u ++ [x]) a) [] = 0 := rfl
      have e00 : M + lruG p (lruF p (u ++ [x]) a) [] = M := by rw [e0, Nat.add_zero]
      rw [e00]
      by_cases hMh : M ≤ h - 1
      · exact Nat.le_trans (Nat.mul_le_mul_left _ hMh) (Nat.le_add_left _ _)
      · have e1 : (p - h + 1) * M = (p - h + 1) * (M - (h - 1)) + (p - h + 1) * (h - 1) := by
          rw [← Nat.mul_add]
          congr 1
          omega
        rw [e1]
        exact Nat.add_le_add_right (Nat.mul_le_mul hc (by omega)) _
    · have hane : a ≠ [] := fun h0 => by
        subst h0
        have : lruG p (u ++ [x]) [] = 0 := rfl
        omega
      obtain ⟨y, hy⟩ : ∃ y, a.getLast? = some y := ⟨_, List.getLast?_eq_some_getLast hane⟩
      obtain ⟨f1, f2, f3⟩ := lruF_keep (p := p) (by omega) a (u ++ [x]) hnd hl
      obtain ⟨u', hu'⟩ := f3 y hy
      have hal : 0 < a.length := List.length_pos_iff.2 hane
      rw [List.length_append] at hm
      obtain ⟨g1, g2⟩ := r1.keep hdd hdl
      have hib := ih b u' y e1 e k2 (by omega) (by rw [← hu']; exact f1) (by rw [← hu']; exact f2) g1 g2 (r1.last y hy) r2
      rw [hu', hMp, Nat.mul_add]
      have h5 : (p - h + 1) * p ≤ p * k1 := by
        rw [Nat.mul_comm p k1]
        exact Nat.mul_le_mul_right _ (by omega)
      rw [Nat.mul_add]
      omega

/-- SLEATOR, TARJAN -/
theorem sleator {p h k : Nat} {rs : List Int} (hh : 1 ≤ h) (hhp : h ≤ p) (hb : Best h rs k) : ((p : Int) - h + 1) * ((lruG p [] rs : Nat) - (h : Int)) ≤ (p : Int) * (k : Int) := by
  obtain ⟨d, hd⟩ := hb.run
  have hc : ((p : Int) - h + 1) = ((p - h + 1 : Nat) : Int) := by omega
  rw [hc]
  cases rs with
  | nil =>
    have e0 : lruG p [] [] = 0 := rfl
    rw [e0]
    have h1 : ((p - h + 1 : Nat) : Int) * (((0 : Nat) : Int) - (h : Int)) ≤ 0 := Int.mul_nonpos_of_nonneg_of_nonpos (by omega) (by omega)
    have h2 : (0 : Int) ≤ (p : Int) * (k : Int) := Int.mul_nonneg (by omega) (by omega)
    omega
  | cons r t =>
    have e1 : lruG p [] (r :: t) = 1 + lruG p ([] ++ [r]) t := by
      show lruM [] r + lruG p (lruC p [] r) t = _
      unfold lruM lruC
      have h1 : r ∉ ([] : List Int) := by simp
      rw [if_neg h1, if_neg h1]
      have h2 : (if ([] : List Int).length < p then ([] : List Int) else ([] : List Int).tail) = [] := by split <;> rfl
      rw [h2]
    cases hd with
    | hit h1 => simp at h1
    | @room _ c' _ _ _ k0 h1 h2 h3 h4 =>
      have hr : r ∈ c' := h3.mem_iff.2 (by simp)
      have hcl : c'.length = 1 := by rw [h3.length_eq]; rfl
      have hcn : c'.Nodup := perm_nodup h3 (by simp)
      have h5 := sleator_from hh hhp t.length t [] r c' d k0 (Nat.le_refl _) (by simp) (by simp; omega) hcn (by omega) hr h4
      rw [e1]
      obtain ⟨Lm, hL⟩ : ∃ Lm, lruG p ([] ++ [r]) t = Lm := ⟨_, rfl⟩
      rw [hL] at h5 ⊢
      obtain ⟨g, hg⟩ : ∃ g, p - h + 1 = g := ⟨_, rfl⟩
      rw [hg] at h5 ⊢
      have h6 : ((g * Lm : Nat) : Int) ≤ ((p * k0 + g * (h - 1) : Nat) : Int) := Int.ofNat_le.2 h5
      have e2 : (g : Int) * (((1 + Lm : Nat) : Int) - (h : Int)) = (g : Int) * (Lm : Int) - (g : Int) * ((h - 1 : Nat) : Int) := by
        rw [← Int.mul_sub]
        congr 1
        omega
      rw [e2]
      have e3 : (p : Int) * (((k0 + 1 : Nat)) : Int) = (p : Int) * (k0 : Int) + (p : Int) := by
        rw [Int.natCast_add, Int.mul_add]
        simp
      rw [e3]
      rw [Int.natCast_add, Int.natCast_mul, Int.natCast_mul, Int.natCast_mul] at h6
      omega
    | out h1 h2 h3 h4 h5 => simp at h2; omega

end Go.Proofs.Ytjnmohphinldkaa
