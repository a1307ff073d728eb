/-
  Plain mathematics of what package hold and its reference go through (P1).
-/
import Derived.Test.YtjnmohphinldkaaPureBelady
namespace Go.Proofs.Ytjnmohphinldkaa
set_option linter.unusedSimpArgs false
set_option linter.unusedVariables false

/-- misses where ch tells by its place what goes; none: it told nothing -/
def misG (ch : List Int → Nat → Nat → Int) (p : Nat) : List Int → Nat → Nat → List Int → Option Nat
  | _, _, q, [] => some q
  | c, i, q, r :: rs =>
    if r ∈ c then misG ch p c (i + 1) q rs
    else if c.length = p then (if ch c i q = -1 then none else misG ch p (c.eraseIdx (ch c i q).toNat ++ [r]) (i + 1) (q + 1) rs)
    else misG ch p (c ++ [r]) (i + 1) (q + 1) rs

theorem misG_hit {ch : List Int → Nat → Nat → Int} {p i q : Nat} {c rs : List Int} {r : Int} (h : r ∈ c) : misG ch p c i q (r :: rs) = misG ch p c (i + 1) q rs := by
  rw [misG, if_pos h]

theorem misG_room {ch : List Int → Nat → Nat → Int} {p i q : Nat} {c rs : List Int} {r : Int} (h : r ∉ c) (hl : c.length ≠ p) : misG ch p c i q (r :: rs) = misG ch p (c ++ [r]) (i + 1) (q + 1) rs := by
  rw [misG, if_neg h, if_neg hl]

theorem misG_stop {ch : List Int → Nat → Nat → Int} {p i q : Nat} {c rs : List Int} {r : Int} (h : r ∉ c) (hl : c.length = p) (he : ch c i q = -1) : misG ch p c i q (r :: rs) = none := by
  rw [misG, if_neg h, if_pos hl, if_pos he]

theorem misG_out {ch : List Int → Nat → Nat → Int} {p i q e : Nat} {c rs : List Int} {r : Int} (h : r ∉ c) (hl : c.length = p) (he : ch c i q = e) : misG ch p c i q (r :: rs) = misG ch p (c.eraseIdx e ++ [r]) (i + 1) (q + 1) rs := by
  rw [misG, if_neg h, if_pos hl, if_neg (by omega), he, Int.toNat_natCast]

theorem drop_ref {refs : List Int} {k : Nat} {r : Int} (h : refs[k]? = some r) : refs.drop k = r :: refs.drop (k + 1) := by
  obtain ⟨hl, hr⟩ := List.getElem?_eq_some_iff.1 h
  rw [List.drop_eq_getElem_cons hl, hr]

/-! ### the first in goes first -/

def fifoCh (_ : List Int) (_ _ : Nat) : Int := 0

theorem misG_fifo {p : Nat} (hp : 1 ≤ p) : ∀ (rs c : List Int) (i q : Nat), c.length ≤ p → misG fifoCh p c i q rs = some (q + fifoG p c rs)
  | [], _, _, _, _ => rfl
  | r :: rs, c, i, q, hl => by
    unfold fifoG lruM fifoC
    by_cases hr : r ∈ c
    · rw [misG_hit hr, if_pos hr, if_pos hr, misG_fifo hp rs c _ _ hl, Nat.zero_add]
    · rw [if_neg hr, if_neg hr]
      by_cases hc : c.length = p
      · rw [misG_out (e := 0) hr hc rfl, if_neg (by omega), List.eraseIdx_zero, misG_fifo hp rs _ _ _ (by simp; omega)]
        congr 1; omega
      · rw [misG_room hr hc, if_pos (by omega), misG_fifo hp rs _ _ _ (by simp; omega)]
        congr 1; omega

/-! ### the place of the greatest -/

/-- where the first of the greatest among the first n is -/
def farK (d : Int → Nat) (c : List Int) : Nat → Nat
  | 0 => 0
  | n + 1 => if d (c.getD (farK d c n) 0) < d (c.getD n 0) then n else farK d c n

theorem farK_lt (d : Int → Nat) (c : List Int) : ∀ n, farK d c (n + 1) < n + 1
  | 0 => by unfold farK; split <;> simp [farK]
  | n + 1 => by
    have := farK_lt d c n
    rw [farK]
    split <;> omega

theorem farK_le (d : Int → Nat) (c : List Int) (n : Nat) : farK d c n ≤ n := by
  cases n with
  | zero => exact Nat.le_refl _
  | succ n => exact Nat.le_of_lt (farK_lt d c n)

theorem farK_most (d : Int → Nat) (c : List Int) : ∀ n j, j < n → d (c.getD j 0) ≤ d (c.getD (farK d c n) 0)
  | 0, j, h => by omega
  | n + 1, j, h => by
    rw [farK]
    by_cases hj : j = n
    · subst hj
      split
      · exact Nat.le_refl _
      · omega
    · have := farK_most d c n j (by omega)
      split
      · omega
      · exact this

theorem farK_spec (d : Int → Nat) {c : List Int} (h : c ≠ []) : ∃ x, c[farK d c c.length]? = some x ∧ ∀ y ∈ c, d y ≤ d x := by
  have hl : farK d c c.length < c.length := by
    cases hc : c.length with
    | zero => exact absurd (List.length_eq_zero_iff.1 hc) h
    | succ n => exact farK_lt d c n
  refine ⟨_, List.getElem?_eq_getElem hl, fun y hy => ?_⟩
  obtain ⟨j, hj, rfl⟩ := List.getElem_of_mem hy
  have := farK_most d c c.length j hj
  rwa [List.getD_eq_getElem?_getD, List.getD_eq_getElem?_getD, List.getElem?_eq_getElem hj, List.getElem?_eq_getElem hl] at this

theorem erase_at : ∀ {c : List Int} {e : Nat} {x : Int}, c[e]? = some x → c.Nodup → c.eraseIdx e = c.erase x
  | [], e, x, h, _ => by simp at h
  | y :: t, 0, x, h, _ => by
    have : y = x := by simpa using h
    subst this
    simp
  | y :: t, e + 1, x, h, hd => by
    have hx : t[e]? = some x := by simpa using h
    have hne : y ≠ x := fun e1 => (List.nodup_cons.1 hd).1 (by rw [e1]; exact List.mem_of_getElem? hx)
    rw [List.eraseIdx_cons_succ, List.erase_cons_tail (by simpa using hne), erase_at hx (List.nodup_cons.1 hd).2]

/-! ### what was asked for longest ago goes -/

/-- how long ago what was asked for last is the longest -/
def lruCh (refs c : List Int) (i _ : Nat) : Int := (farK (fun x => nxtA x (refs.take i).reverse + 1) c c.length : Nat)

/-- what was asked for longer ago stands ahead -/
def Sd (a c : List Int) : Prop := c.Pairwise fun x y => nxtA y a.reverse < nxtA x a.reverse

theorem nxt_snoc (a : List Int) (x r : Int) : nxtA x (a ++ [r]).reverse = if r = x then 0 else nxtA x a.reverse + 1 := by
  rw [List.reverse_append]; rfl

theorem Sd.snoc {a s : List Int} {r : Int} (h : Sd a s) (hr : r ∉ s) : Sd (a ++ [r]) (s ++ [r]) := by
  unfold Sd
  rw [List.pairwise_append]
  refine ⟨List.Pairwise.imp_of_mem (fun {x y} hx hy hxy => ?_) h, List.pairwise_singleton _ _, fun x hx y hy => ?_⟩
  · rw [nxt_snoc, nxt_snoc, if_neg (fun e => hr (by rw [e]; exact hy)), if_neg (fun e => hr (by rw [e]; exact hx))]
    omega
  · rw [List.mem_singleton.1 hy, nxt_snoc, nxt_snoc, if_pos rfl, if_neg (fun e => hr (by rw [e]; exact hx))]
    omega

theorem misG_lru {p : Nat} (hp : 1 ≤ p) {refs : List Int} : ∀ (rs a c c' : List Int) (q : Nat), a ++ rs = refs → c.Perm c' → c'.Nodup → c'.length ≤ p → Sd a c' → misG (lruCh refs) p c a.length q rs = some (q + lruG p c' rs)
  | [], _, _, _, _, _, _, _, _, _ => rfl
  | r :: rs, a, c, c', q, ha, hpm, hd, hl, hs => by
    have ha2 : (a ++ [r]) ++ rs = refs := by rw [List.append_assoc]; exact ha
    have hal : (a ++ [r]).length = a.length + 1 := by simp
    unfold lruG lruM lruC
    by_cases hr : r ∈ c
    · have hr' := hpm.mem_iff.1 hr
      rw [misG_hit hr, if_pos hr', if_pos hr', Nat.zero_add, ← hal]
      have hpm2 : (c'.erase r ++ [r]).Perm c' := (snoc_perm _ r).trans (List.perm_cons_erase hr').symm
      exact misG_lru hp rs (a ++ [r]) c _ q ha2 (hpm.trans hpm2.symm) (perm_nodup hpm2 hd) (by rw [hpm2.length_eq]; exact hl) (Sd.snoc (List.Pairwise.sublist List.erase_sublist hs) (List.Nodup.not_mem_erase hd))
    · have hr' : r ∉ c' := fun h => hr (hpm.mem_iff.2 h)
      have hcl := hpm.length_eq
      rw [if_neg hr', if_neg hr']
      by_cases hc : c.length = p
      · have hne : c ≠ [] := by
          intro e
          rw [e] at hc
          simp at hc
          omega
        obtain ⟨x, hx, hmost⟩ := farK_spec (fun x => nxtA x (refs.take a.length).reverse + 1) hne
        have hta : refs.take a.length = a := by rw [← ha, List.take_left]
        rw [misG_out (e := farK (fun x => nxtA x (refs.take a.length).reverse + 1) c c.length) hr hc rfl, erase_at hx (perm_nodup hpm hd), if_neg (by omega), ← hal]
        cases c' with
        | nil => exact absurd (List.length_eq_zero_iff.1 hcl) hne
        | cons y t =>
          have hxy : x = y := by
            rcases List.mem_cons.1 (hpm.mem_iff.1 (List.mem_of_getElem? hx)) with e | e
            · exact e
            · have h1 := (List.pairwise_cons.1 hs).1 x e
              have h2 := hmost y (hpm.mem_iff.2 (by simp))
              rw [hta] at h2
              omega
          subst hxy
          have hpm2 : (c.erase x ++ [r]).Perm ((x :: t).tail ++ [r]) := List.Perm.append_right _ ((hpm.erase x).trans (by rw [tail_erase]; exact List.Perm.refl _))
          rw [misG_lru hp rs (a ++ [r]) _ ((x :: t).tail ++ [r]) (q + 1) ha2 hpm2 (by
            have h1 := (List.nodup_cons.1 hd).2
            have h2 : r ∉ t := fun h => hr' (List.mem_cons_of_mem _ h)
            exact perm_nodup (snoc_perm _ _) (List.nodup_cons.2 ⟨h2, h1⟩)) (by
            simp at hl ⊢; omega) (Sd.snoc (List.pairwise_cons.1 hs).2 fun h => hr' (List.mem_cons_of_mem _ h))]
          congr 1; omega
      · rw [misG_room hr hc, if_pos (by omega), ← hal, misG_lru hp rs (a ++ [r]) _ (c' ++ [r]) (q + 1) ha2 (List.Perm.append_right _ hpm) (perm_nodup (snoc_perm _ _) (List.nodup_cons.2 ⟨hr', hd⟩)) (by simp; omega) (Sd.snoc hs hr')]
        congr 1; omega

/-! ### what is asked for again latest goes -/

def minCh (refs c : List Int) (i _ : Nat) : Int := (farK (fun x => nxtA x (refs.drop i)) c c.length : Nat)

theorem misG_min {p : Nat} (hp : 1 ≤ p) {refs : List Int} : ∀ (rs a c : List Int) (q : Nat), a ++ rs = refs → c.Nodup → c.length ≤ p → ∃ k, misG (minCh refs) p c a.length q rs = some (q + k) ∧ Bel p c rs k
  | [], _, c, _, _, _, _ => ⟨0, rfl, .nil c⟩
  | r :: rs, a, c, q, ha, hd, hl => by
    have ha2 : (a ++ [r]) ++ rs = refs := by rw [List.append_assoc]; exact ha
    have hal : (a ++ [r]).length = a.length + 1 := by simp
    by_cases hr : r ∈ c
    · rw [misG_hit hr, ← hal]
      obtain ⟨k, h1, h2⟩ := misG_min hp rs (a ++ [r]) c q ha2 hd hl
      exact ⟨k, h1, .hit hr (List.Perm.refl _) h2⟩
    · by_cases hc : c.length = p
      · have hne : c ≠ [] := by
          intro e
          rw [e] at hc
          simp at hc
          omega
        obtain ⟨x, hx, hmost⟩ := farK_spec (fun x => nxtA x (refs.drop a.length)) hne
        have hta : refs.drop a.length = r :: rs := by rw [← ha, List.drop_left]
        rw [misG_out (e := farK (fun x => nxtA x (refs.drop a.length)) c c.length) hr hc rfl, erase_at hx hd, ← hal]
        have hxm := List.mem_of_getElem? hx
        obtain ⟨k, h1, h2⟩ := misG_min hp rs (a ++ [r]) (c.erase x ++ [r]) (q + 1) ha2 (perm_nodup (snoc_perm _ _) (out_nodup hd hr)) (by
          rw [List.length_append, List.length_erase_of_mem hxm, List.length_singleton]
          have := List.length_pos_of_mem hxm
          omega)
        refine ⟨k + 1, by rw [h1]; congr 1; omega, .out hr hc hxm (fun y hy => ?_) (snoc_perm _ _) h2⟩
        have h3 := hmost y hy
        rw [hta, nxtA, nxtA, if_neg (fun e => hr (by rw [e]; exact hy)), if_neg (fun e => hr (by rw [e]; exact hxm))] at h3
        omega
      · rw [misG_room hr hc, ← hal]
        obtain ⟨k, h1, h2⟩ := misG_min hp rs (a ++ [r]) (c ++ [r]) (q + 1) ha2 (perm_nodup (snoc_perm _ _) (List.nodup_cons.2 ⟨hr, hd⟩)) (by simp; omega)
        exact ⟨k + 1, by rw [h1]; congr 1; omega, .room hr (by omega) (snoc_perm _ _) h2⟩

/-! ### what is told goes -/

def playCh (p : Nat) (out c : List Int) (_ q : Nat) : Int :=
  match out[q - p]? with
  | none => -1
  | some x => if x ∈ c then (nxtA x c : Nat) else -1

/-- misses where what goes is told; none: nothing told, or what is not there -/
def playG (p : Nat) : List Int → List Int → Nat → List Int → Option Nat
  | _, _, q, [] => some q
  | c, out, q, r :: rs =>
    if r ∈ c then playG p c out q rs
    else if c.length = p then
      match out with
      | [] => none
      | x :: o => if x ∈ c then playG p (c.erase x ++ [r]) o (q + 1) rs else none
    else playG p (c ++ [r]) out (q + 1) rs

theorem playG_cons (p : Nat) (c out : List Int) (q : Nat) (r : Int) (rs : List Int) : playG p c out q (r :: rs) =
    if r ∈ c then playG p c out q rs
    else if c.length = p then
      match out with
      | [] => none
      | x :: o => if x ∈ c then playG p (c.erase x ++ [r]) o (q + 1) rs else none
    else playG p (c ++ [r]) out (q + 1) rs := by
  cases out <;> rfl

theorem nxt_at : ∀ {c : List Int} {x : Int}, x ∈ c → c[nxtA x c]? = some x
  | y :: t, x, h => by
    rw [nxtA]
    by_cases hy : y = x
    · rw [if_pos hy, hy]; rfl
    · rw [if_neg hy, List.getElem?_cons_succ]
      exact nxt_at ((List.mem_cons.1 h).resolve_left (fun e => hy e.symm))

theorem nxt_le : ∀ (x : Int) (c : List Int), nxtA x c ≤ c.length
  | _, [] => Nat.le_refl _
  | x, y :: t => by
    rw [nxtA]
    have := nxt_le x t
    split <;> simp <;> omega

theorem nxt_out : ∀ {c : List Int} {x : Int}, x ∉ c → nxtA x c = c.length
  | [], _, _ => rfl
  | y :: t, x, h => by
    rw [nxtA, if_neg (fun e => h (by rw [e]; simp)), nxt_out (fun e => h (List.mem_cons_of_mem _ e))]; rfl

theorem nxt_lt {c : List Int} {x : Int} (h : x ∈ c) : nxtA x c < c.length := (List.getElem?_eq_some_iff.1 (nxt_at h)).1

theorem misG_play {p : Nat} (hp : 1 ≤ p) {out : List Int} : ∀ (rs c : List Int) (i q : Nat), c.Nodup → c.length ≤ p → (c.length = p → p ≤ q) → (c.length < p → q = c.length) → misG (playCh p out) p c i q rs = playG p c (out.drop (q - p)) q rs
  | [], _, _, _, _, _, _, _ => rfl
  | r :: rs, c, i, q, hd, hl, hf, hn => by
    rw [playG_cons]
    by_cases hr : r ∈ c
    · rw [misG_hit hr, if_pos hr, misG_play hp rs c _ q hd hl hf hn]
    · rw [if_neg hr]
      by_cases hc : c.length = p
      · rw [if_pos hc]
        cases ho : out[q - p]? with
        | none =>
          rw [misG_stop hr hc (by unfold playCh; rw [ho]), List.drop_eq_nil_of_le (List.getElem?_eq_none_iff.1 ho)]
        | some x =>
          obtain ⟨hlt, hx⟩ := List.getElem?_eq_some_iff.1 ho
          rw [List.drop_eq_getElem_cons hlt, hx]
          by_cases hxc : x ∈ c
          · rw [misG_out (e := nxtA x c) hr hc (by unfold playCh; rw [ho]; exact if_pos hxc), erase_at (nxt_at hxc) hd]
            simp only [if_pos hxc]
            have hl2 : (c.erase x ++ [r]).length = p := by
              rw [List.length_append, List.length_erase_of_mem hxc, List.length_singleton]
              have := List.length_pos_of_mem hxc
              omega
            rw [misG_play hp rs (c.erase x ++ [r]) (i + 1) (q + 1) (perm_nodup (snoc_perm _ _) (out_nodup hd hr)) (by omega) (fun _ => by have := hf hc; omega) (fun h => by omega), show q + 1 - p = q - p + 1 by have := hf hc; omega]
          · rw [misG_stop hr hc (by unfold playCh; rw [ho]; exact if_neg hxc)]
            simp only [if_neg hxc]
      · have hq := hn (by omega)
        rw [if_neg hc, misG_room hr hc, misG_play hp rs (c ++ [r]) (i + 1) (q + 1) (perm_nodup (snoc_perm _ _) (List.nodup_cons.2 ⟨hr, hd⟩)) (by simp; omega) (fun h => by simp at h; omega) (fun h => by simp at h ⊢; omega), show q + 1 - p = q - p by omega]

theorem playG_run {p : Nat} (hp : 1 ≤ p) : ∀ (rs c out : List Int) (q m : Nat), c.Nodup → c.length ≤ p → playG p c out q rs = some m → ∃ k d, m = q + k ∧ Run p c rs k d
  | [], c, _, q, m, _, _, h => by
    rw [playG] at h
    injection h with h
    exact ⟨0, c, by omega, .nil c⟩
  | r :: rs, c, out, q, m, hd, hl, h => by
    rw [playG_cons] at h
    by_cases hr : r ∈ c
    · rw [if_pos hr] at h
      obtain ⟨k, d, h1, h2⟩ := playG_run hp rs c out q m hd hl h
      exact ⟨k, d, h1, .hit hr (List.Perm.refl _) h2⟩
    · rw [if_neg hr] at h
      by_cases hc : c.length = p
      · rw [if_pos hc] at h
        cases out with
        | nil => cases h
        | cons x o =>
          by_cases hxc : x ∈ c
          · simp only [if_pos hxc] at h
            obtain ⟨k, d, h1, h2⟩ := playG_run hp rs _ o (q + 1) m (perm_nodup (snoc_perm _ _) (out_nodup hd hr)) (by
              rw [List.length_append, List.length_erase_of_mem hxc, List.length_singleton]
              have := List.length_pos_of_mem hxc
              omega) h
            exact ⟨k + 1, d, by omega, .out hr hc hxc (snoc_perm _ _) h2⟩
          · simp only [if_neg hxc] at h
            cases h
      · rw [if_neg hc] at h
        obtain ⟨k, d, h1, h2⟩ := playG_run hp rs _ out (q + 1) m (perm_nodup (snoc_perm _ _) (List.nodup_cons.2 ⟨hr, hd⟩)) (by simp; omega) h
        exact ⟨k + 1, d, by omega, .room hr (by omega) (snoc_perm _ _) h2⟩

/-- where all find room nothing is to go -/
theorem playG_all {p : Nat} : ∀ (rs c out : List Int) (q : Nat), c.length + newD c rs ≤ p → playG p c out q rs = some (q + newD c rs)
  | [], _, _, _, _ => rfl
  | r :: rs, c, out, q, h => by
    rw [playG_cons]
    unfold newD at h ⊢
    by_cases hr : r ∈ c
    · rw [if_pos hr] at h ⊢
      rw [if_pos hr]
      exact playG_all rs c out q h
    · rw [if_neg hr] at h ⊢
      have hs : newD (c ++ [r]) rs = newD (r :: c) rs := newD_set fun x => by simp [or_comm]
      rw [if_neg hr, if_neg (by omega), playG_all rs (c ++ [r]) out (q + 1) (by rw [hs]; simp; omega), hs]
      congr 1; omega

/-! ### the fewest -/

theorem Run.le {p : Nat} {c d rs : List Int} {k : Nat} (h : Run p c rs k d) : k ≤ rs.length := by
  induction h with
  | nil => exact Nat.le_refl _
  | hit _ _ _ ih => simp; omega
  | room _ _ _ _ ih => simp; omega
  | out _ _ _ _ _ ih => simp; omega

theorem best_min {p : Nat} (hp : 1 ≤ p) (refs : List Int) : ∃ k, misG (minCh refs) p [] 0 0 refs = some k ∧ Best p refs k := by
  obtain ⟨k, h1, h2⟩ := misG_min (p := p) hp (refs := refs) refs [] [] 0 rfl List.nodup_nil (by simp)
  exact ⟨k, by rw [Nat.zero_add] at h1; exact h1, h2.best⟩

end Go.Proofs.Ytjnmohphinldkaa
