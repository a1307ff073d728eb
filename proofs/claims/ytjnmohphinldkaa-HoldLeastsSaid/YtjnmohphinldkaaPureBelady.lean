/-
  Plain mathematics of places for things (P1): what is asked for again latest goes: no choice has fewer misses (Belady).
-/
import Derived.Test.YtjnmohphinldkaaPureHold
namespace Go.Proofs.Ytjnmohphinldkaa
set_option linter.unusedSimpArgs false
set_option linter.unusedVariables false

theorem Run.perm {p : Nat} {c c' d rs : List Int} {k : Nat} (h : Run p c rs k d) (hc : c'.Perm c) : ∃ d', Run p c' rs k d' := by
  cases h with
  | nil => exact ⟨c', .nil c'⟩
  | hit h1 h2 h3 => exact ⟨d, .hit (hc.mem_iff.2 h1) (h2.trans hc.symm) h3⟩
  | room h1 h2 h3 h4 => exact ⟨d, .room (fun h => h1 (hc.mem_iff.1 h)) (by rw [hc.length_eq]; exact h2) (h3.trans (List.Perm.cons _ hc.symm)) h4⟩
  | out h1 h2 h3 h4 h5 => exact ⟨d, .out (fun h => h1 (hc.mem_iff.1 h)) (by rw [hc.length_eq]; exact h2) (hc.mem_iff.2 h3) (h4.trans (List.Perm.cons _ (hc.symm.erase _))) h5⟩

theorem perm_erase_head {a : Int} {c T : List Int} (h : c.Perm (a :: T)) : (c.erase a).Perm T := by
  have := h.erase a
  rwa [tail_erase] at this

theorem perm_erase_in {a y : Int} {c T : List Int} (h : c.Perm (a :: T)) (hy : y ≠ a) : (c.erase y).Perm (a :: T.erase y) := by
  have h1 := h.erase y
  rw [List.erase_cons_tail (by simp; exact fun e => hy e.symm)] at h1
  exact h1

/-- one thing in place of another costs one miss at most -/
theorem Run.lip {p : Nat} {c d rs : List Int} {k : Nat} (h : Run p c rs k d) : ∀ (T : List Int) (a x : Int) (c' : List Int), c.Perm (a :: T) → c'.Perm (x :: T) → (a :: T).Nodup → x ∉ T → x ≠ a → c.length = p → ∃ k' d', k' ≤ k + 1 ∧ Run p c' rs k' d' := by
  induction h with
  | nil c => exact fun T a x c' _ _ _ _ _ _ => ⟨0, c', by omega, .nil c'⟩
  | @hit c c1 d r rs k hr hp hrun ih =>
    intro T a x c' h1 h2 h3 h4 h5 h6
    obtain ⟨ha, hT⟩ := List.nodup_cons.1 h3
    rcases List.mem_cons.1 (h1.mem_iff.1 hr) with h7 | h7
    · subst h7
      have hc' : c'.length = p := by rw [h2.length_eq, ← h6, h1.length_eq]; rfl
      have hx : x ∈ c' := h2.mem_iff.2 (by simp)
      have hr' : r ∉ c' := fun h => by
        rcases List.mem_cons.1 (h2.mem_iff.1 h) with h8 | h8
        · exact h5 h8.symm
        · exact ha h8
      have hpm : (r :: c'.erase x).Perm c1 := (List.Perm.cons _ (perm_erase_head h2)).trans (h1.symm.trans hp.symm)
      obtain ⟨d', h8⟩ := hrun.perm hpm
      exact ⟨k + 1, d', Nat.le_refl _, .out hr' hc' hx (List.Perm.refl _) h8⟩
    · obtain ⟨k', d', h8, h9⟩ := ih T a x c' (hp.trans h1) h2 h3 h4 h5 (by rw [hp.length_eq]; exact h6)
      exact ⟨k', d', h8, .hit (h2.mem_iff.2 (List.mem_cons_of_mem _ h7)) (List.Perm.refl _) h9⟩
  | room hr hl _ _ _ => exact fun T a x c' _ _ _ _ _ h6 => by omega
  | @out c c1 d r y rs k hr hl hy hp hrun ih =>
    intro T a x c' h1 h2 h3 h4 h5 h6
    obtain ⟨ha, hT⟩ := List.nodup_cons.1 h3
    have hrT : r ∉ a :: T := fun h => hr (h1.mem_iff.2 h)
    have hra : r ≠ a := fun e => hrT (by rw [e]; simp)
    have hrT2 : r ∉ T := fun h => hrT (List.mem_cons_of_mem _ h)
    have hc' : c'.length = p := by rw [h2.length_eq, ← h6, h1.length_eq]; rfl
    have hl1 : c1.length = p := by
      rw [hp.length_eq, List.length_cons, List.length_erase_of_mem hy]
      have := List.length_pos_of_mem hy
      omega
    by_cases hrx : r = x
    · subst hrx
      have hin : r ∈ c' := h2.mem_iff.2 (by simp)
      by_cases hya : y = a
      · subst hya
        have hpm : c'.Perm c1 := h2.trans ((List.Perm.cons _ (perm_erase_head h1)).symm.trans hp.symm)
        obtain ⟨d', h8⟩ := hrun.perm hpm
        exact ⟨k, d', by omega, .hit hin (List.Perm.refl _) h8⟩
      · have hyT : y ∈ T := (List.mem_cons.1 (h1.mem_iff.1 hy)).resolve_left hya
        have e1 : c1.Perm (a :: (r :: T.erase y)) := (hp.trans (List.Perm.cons _ (perm_erase_in h1 hya))).trans (List.Perm.swap _ _ _)
        have e2 : c'.Perm (y :: (r :: T.erase y)) := (h2.trans (List.Perm.cons _ (List.perm_cons_erase hyT))).trans (List.Perm.swap _ _ _)
        obtain ⟨k', d', h8, h9⟩ := ih (r :: T.erase y) a y c' e1 e2 (by
          rw [List.nodup_cons, List.nodup_cons]
          refine ⟨fun h => ?_, fun h => hrT2 (List.mem_of_mem_erase h), hT.erase y⟩
          rcases List.mem_cons.1 h with h | h
          · exact hra h.symm
          · exact ha (List.mem_of_mem_erase h)) (fun h => by
          rcases List.mem_cons.1 h with h | h
          · rw [h] at hyT; exact hrT2 hyT
          · exact List.Nodup.not_mem_erase hT h) hya hl1
        exact ⟨k', d', by omega, .hit hin (List.Perm.refl _) h9⟩
    · have hr' : r ∉ c' := fun h => by
        rcases List.mem_cons.1 (h2.mem_iff.1 h) with h8 | h8
        · exact hrx h8
        · exact hrT2 h8
      by_cases hya : y = a
      · subst hya
        have hx : x ∈ c' := h2.mem_iff.2 (by simp)
        have hpm : (r :: c'.erase x).Perm c1 := (List.Perm.cons _ (perm_erase_head h2)).trans ((List.Perm.cons _ (perm_erase_head h1)).symm.trans hp.symm)
        obtain ⟨d', h8⟩ := hrun.perm hpm
        exact ⟨k + 1, d', by omega, .out hr' hc' hx (List.Perm.refl _) h8⟩
      · have hyT : y ∈ T := (List.mem_cons.1 (h1.mem_iff.1 hy)).resolve_left hya
        have hyx : y ≠ x := fun e => h4 (by rw [← e]; exact hyT)
        have e1 : c1.Perm (a :: (r :: T.erase y)) := (hp.trans (List.Perm.cons _ (perm_erase_in h1 hya))).trans (List.Perm.swap _ _ _)
        have e2 : (r :: c'.erase y).Perm (x :: (r :: T.erase y)) := (List.Perm.cons _ (perm_erase_in h2 hyx)).trans (List.Perm.swap _ _ _)
        obtain ⟨k', d', h8, h9⟩ := ih (r :: T.erase y) a x (r :: c'.erase y) e1 e2 (by
          rw [List.nodup_cons, List.nodup_cons]
          refine ⟨fun h => ?_, fun h => hrT2 (List.mem_of_mem_erase h), hT.erase y⟩
          rcases List.mem_cons.1 h with h | h
          · exact hra h.symm
          · exact ha (List.mem_of_mem_erase h)) (fun h => by
          rcases List.mem_cons.1 h with h | h
          · exact hrx h.symm
          · exact h4 (List.mem_of_mem_erase h)) h5 hl1
        exact ⟨k' + 1, d', by omega, .out hr' hc' (h2.mem_iff.2 (List.mem_cons_of_mem _ hyT)) (List.Perm.refl _) h9⟩

/-- when it is asked for again -/
def nxtA (x : Int) : List Int → Nat
  | [] => 0
  | r :: rs => if r = x then 0 else nxtA x rs + 1

/-- what is asked for again sooner in place of what is asked for later costs nothing -/
theorem Run.exch {p : Nat} {c d rs : List Int} {k : Nat} (h : Run p c rs k d) : ∀ (S : List Int) (a b : Int) (c' : List Int), c.Perm (a :: S) → c'.Perm (b :: S) → (a :: S).Nodup → b ∉ S → b ≠ a → c.length = p → nxtA b rs ≤ nxtA a rs → ∃ k' d', k' ≤ k ∧ Run p c' rs k' d' := by
  induction h with
  | nil c => exact fun S a b c' _ _ _ _ _ _ _ => ⟨0, c', by omega, .nil c'⟩
  | @hit c c1 d r rs k hr hp hrun ih =>
    intro S a b c' h1 h2 h3 h4 h5 h6 h7
    obtain ⟨ha, hS⟩ := List.nodup_cons.1 h3
    rcases List.mem_cons.1 (h1.mem_iff.1 hr) with h8 | h8
    · subst h8
      unfold nxtA at h7
      rw [if_neg (fun e => h5 e.symm), if_pos rfl] at h7
      omega
    · have hra : r ≠ a := fun e => ha (by rw [← e]; exact h8)
      have hrb : r ≠ b := fun e => h4 (by rw [← e]; exact h8)
      unfold nxtA at h7
      rw [if_neg hrb, if_neg hra] at h7
      obtain ⟨k', d', h9, h10⟩ := ih S a b c' (hp.trans h1) h2 h3 h4 h5 (by rw [hp.length_eq]; exact h6) (by omega)
      exact ⟨k', d', h9, .hit (h2.mem_iff.2 (List.mem_cons_of_mem _ h8)) (List.Perm.refl _) h10⟩
  | room hr hl _ _ _ => exact fun S a b c' _ _ _ _ _ h6 _ => by omega
  | @out c c1 d r y rs k hr hl hy hp hrun ih =>
    intro S a b c' h1 h2 h3 h4 h5 h6 h7
    obtain ⟨ha, hS⟩ := List.nodup_cons.1 h3
    have hrS : r ∉ a :: S := fun h => hr (h1.mem_iff.2 h)
    have hra : r ≠ a := fun e => hrS (by rw [e]; simp)
    have hrS2 : r ∉ S := fun h => hrS (List.mem_cons_of_mem _ h)
    have hc' : c'.length = p := by rw [h2.length_eq, ← h6, h1.length_eq]; rfl
    have hl1 : c1.length = p := by
      rw [hp.length_eq, List.length_cons, List.length_erase_of_mem hy]
      have := List.length_pos_of_mem hy
      omega
    by_cases hrb : r = b
    · subst hrb
      have hin : r ∈ c' := h2.mem_iff.2 (by simp)
      by_cases hya : y = a
      · subst hya
        have hpm : c'.Perm c1 := h2.trans ((List.Perm.cons _ (perm_erase_head h1)).symm.trans hp.symm)
        obtain ⟨d', h8⟩ := hrun.perm hpm
        exact ⟨k, d', by omega, .hit hin (List.Perm.refl _) h8⟩
      · have hyS : y ∈ S := (List.mem_cons.1 (h1.mem_iff.1 hy)).resolve_left hya
        have e1 : c1.Perm (a :: (r :: S.erase y)) := (hp.trans (List.Perm.cons _ (perm_erase_in h1 hya))).trans (List.Perm.swap _ _ _)
        have e2 : c'.Perm (y :: (r :: S.erase y)) := (h2.trans (List.Perm.cons _ (List.perm_cons_erase hyS))).trans (List.Perm.swap _ _ _)
        obtain ⟨k', d', h8, h9⟩ := hrun.lip (r :: S.erase y) a y c' e1 e2 (by
          rw [List.nodup_cons, List.nodup_cons]
          refine ⟨fun h => ?_, fun h => hrS2 (List.mem_of_mem_erase h), hS.erase y⟩
          rcases List.mem_cons.1 h with h | h
          · exact hra h.symm
          · exact ha (List.mem_of_mem_erase h)) (fun h => by
          rcases List.mem_cons.1 h with h | h
          · rw [h] at hyS; exact hrS2 hyS
          · exact List.Nodup.not_mem_erase hS h) hya hl1
        exact ⟨k', d', h8, .hit hin (List.Perm.refl _) h9⟩
    · have hr' : r ∉ c' := fun h => by
        rcases List.mem_cons.1 (h2.mem_iff.1 h) with h8 | h8
        · exact hrb h8
        · exact hrS2 h8
      unfold nxtA at h7
      rw [if_neg hrb, if_neg hra] at h7
      by_cases hya : y = a
      · subst hya
        have hb : b ∈ c' := h2.mem_iff.2 (by simp)
        have hpm : (r :: c'.erase b).Perm c1 := (List.Perm.cons _ (perm_erase_head h2)).trans ((List.Perm.cons _ (perm_erase_head h1)).symm.trans hp.symm)
        obtain ⟨d', h8⟩ := hrun.perm hpm
        exact ⟨k + 1, d', Nat.le_refl _, .out hr' hc' hb (List.Perm.refl _) h8⟩
      · have hyS : y ∈ S := (List.mem_cons.1 (h1.mem_iff.1 hy)).resolve_left hya
        have hyb : y ≠ b := fun e => h4 (by rw [← e]; exact hyS)
        have e1 : c1.Perm (a :: (r :: S.erase y)) := (hp.trans (List.Perm.cons _ (perm_erase_in h1 hya))).trans (List.Perm.swap _ _ _)
        have e2 : (r :: c'.erase y).Perm (b :: (r :: S.erase y)) := (List.Perm.cons _ (perm_erase_in h2 hyb)).trans (List.Perm.swap _ _ _)
        obtain ⟨k', d', h8, h9⟩ := ih (r :: S.erase y) a b (r :: c'.erase y) e1 e2 (by
          rw [List.nodup_cons, List.nodup_cons]
          refine ⟨fun h => ?_, fun h => hrS2 (List.mem_of_mem_erase h), hS.erase y⟩
          rcases List.mem_cons.1 h with h | h
          · exact hra h.symm
          · exact ha (List.mem_of_mem_erase h)) (fun h => by
          rcases List.mem_cons.1 h with h | h
          · exact hrb h.symm
          · exact h4 (List.mem_of_mem_erase h)) h5 hl1 (by omega)
        exact ⟨k' + 1, d', by omega, .out hr' hc' (h2.mem_iff.2 (List.mem_cons_of_mem _ hyS)) (List.Perm.refl _) h9⟩

/-- what is asked for again latest goes -/
inductive Bel (p : Nat) : List Int → List Int → Nat → Prop
  | nil (c) : Bel p c [] 0
  | hit {c c' r rs k} : r ∈ c → c'.Perm c → Bel p c' rs k → Bel p c (r :: rs) k
  | room {c c' r rs k} : r ∉ c → c.length < p → c'.Perm (r :: c) → Bel p c' rs k → Bel p c (r :: rs) (k + 1)
  | out {c c' r x rs k} : r ∉ c → c.length = p → x ∈ c → (∀ y ∈ c, nxtA y rs ≤ nxtA x rs) → c'.Perm (r :: c.erase x) → Bel p c' rs k → Bel p c (r :: rs) (k + 1)

theorem Bel.run {p : Nat} {c rs : List Int} {k : Nat} (h : Bel p c rs k) : ∃ d, Run p c rs k d := by
  induction h with
  | nil c => exact ⟨c, .nil c⟩
  | hit h1 h2 _ ih => obtain ⟨d, hd⟩ := ih; exact ⟨d, .hit h1 h2 hd⟩
  | room h1 h2 h3 _ ih => obtain ⟨d, hd⟩ := ih; exact ⟨d, .room h1 h2 h3 hd⟩
  | out h1 h2 h3 _ h4 _ ih => obtain ⟨d, hd⟩ := ih; exact ⟨d, .out h1 h2 h3 h4 hd⟩

/-- BELADY -/
theorem Bel.least {p : Nat} {c rs : List Int} {k : Nat} (h : Bel p c rs k) : c.Nodup → c.length ≤ p → ∀ k' d, Run p c rs k' d → k ≤ k' := by
  induction h with
  | nil c => exact fun _ _ k' d _ => Nat.zero_le _
  | @hit c c' r rs k hr hp _ ih =>
    intro hd hl k' d hrun
    cases hrun with
    | hit h1 h2 h3 =>
      obtain ⟨d', h4⟩ := h3.perm (hp.trans h2.symm)
      exact ih (perm_nodup hp hd) (by rw [hp.length_eq]; exact hl) _ _ h4
    | room h1 => exact absurd hr h1
    | out h1 => exact absurd hr h1
  | @room c c' r rs k hr hlt hp _ ih =>
    intro hd hl k' d hrun
    cases hrun with
    | hit h1 => exact absurd h1 hr
    | room h1 h2 h3 h4 =>
      obtain ⟨d', h5⟩ := h4.perm (hp.trans h3.symm)
      have := ih (perm_nodup hp (List.nodup_cons.2 ⟨hr, hd⟩)) (by rw [hp.length_eq, List.length_cons]; omega) _ _ h5
      omega
    | out h1 h2 => omega
  | @out c c' r x rs k hr hlp hx hfar hp _ ih =>
    intro hd hl k' d hrun
    have hcl : c'.length ≤ p := by
      rw [hp.length_eq, List.length_cons, List.length_erase_of_mem hx]
      have := List.length_pos_of_mem hx
      omega
    have hcn : c'.Nodup := perm_nodup hp (out_nodup hd hr)
    cases hrun with
    | hit h1 => exact absurd h1 hr
    | room h1 h2 => omega
    | @out _ c2 _ _ y _ k0 h1 h2 h3 h4 h5 =>
      by_cases hyx : y = x
      · subst hyx
        obtain ⟨d', h6⟩ := h5.perm (hp.trans h4.symm)
        have := ih hcn hcl _ _ h6
        omega
      · have hyx2 : y ∈ c.erase x := (List.mem_erase_of_ne hyx).2 h3
        have hxy2 : x ∈ c.erase y := (List.mem_erase_of_ne fun e => hyx e.symm).2 hx
        have e1 : c2.Perm (x :: (r :: (c.erase y).erase x)) := (h4.trans (List.Perm.cons _ (List.perm_cons_erase hxy2))).trans (List.Perm.swap _ _ _)
        have e2 : c'.Perm (y :: (r :: (c.erase y).erase x)) := by
          have e3 : (c.erase x).Perm (y :: (c.erase y).erase x) := by
            rw [List.erase_comm]
            exact List.perm_cons_erase hyx2
          exact (hp.trans (List.Perm.cons _ e3)).trans (List.Perm.swap _ _ _)
        have hl2 : c2.length = p := by
          rw [h4.length_eq, List.length_cons, List.length_erase_of_mem h3]
          have := List.length_pos_of_mem h3
          omega
        obtain ⟨k1, d1, h6, h7⟩ := h5.exch (r :: (c.erase y).erase x) x y c' e1 e2 (perm_nodup e1.symm (perm_nodup h4 (out_nodup hd hr))) (by
          intro h
          rcases List.mem_cons.1 h with h | h
          · rw [h] at h3; exact hr h3
          · exact List.Nodup.not_mem_erase hd (List.mem_of_mem_erase h)) hyx hl2 (hfar y h3)
        have := ih hcn hcl _ _ h7
        omega

theorem Bel.best {p : Nat} {rs : List Int} {k : Nat} (h : Bel p [] rs k) : Best p rs k := ⟨h.run, fun k' d hr => h.least (by simp) (by simp) k' d hr⟩

end Go.Proofs.Ytjnmohphinldkaa
