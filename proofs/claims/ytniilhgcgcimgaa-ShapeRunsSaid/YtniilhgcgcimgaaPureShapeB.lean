/-
  Plain mathematics (U2): BOEHM AND JACOPINI: a program made into shapes of which at most one goes round: no program's text.
-/
import Derived.Test.YtniilhgcgcimgaaPureShape
namespace Go.Proofs.Ytniilhgcgcimgaa
set_option linter.unusedSimpArgs false
set_option linter.unusedVariables false

/-- a step that sets a variable to a number -/
def snS (to v : Int) : St := ⟨1, to, 0, 0, v⟩

/-- steps and one more, as a list of one shape, with more behind it -/
def cdSh (c : List St) (s : St) (r : Sh) : Sh := .cons 1 0 (cpS c ++ [s]) .nil .nil r

/-- behind it a block is due, or nothing goes on -/
def prS (n : Nat) (to : Int) : St := if to = -1 then snS (n + 1) 0 else snS n to

/-- one block -/
def xbSh (n : Nat) (b : Bk) : Sh := if b.test = -1 then cdSh b.code (prS n b.th) .nil
  else cdSh b.code (prS n b.el) (.cons 2 b.test [] (cdSh [] (prS n b.th) .nil) .nil .nil)

/-- the block that is due, of these, of which the first one has this number -/
def xdSh (n : Nat) : Nat → List Bk → Sh
  | _, [] => .nil
  | _, [b] => xbSh n b
  | 0, b :: c :: r => .cons 2 n [] (xdSh n 1 (c :: r)) (xbSh n b) .nil
  | i + 1, b :: c :: r => .cons 1 0 [⟨4, n, n, n + 1, 0⟩] .nil .nil (.cons 2 n [] (xdSh n (i + 2) (c :: r)) (xbSh n b) .nil)

/-- U2: the whole -/
def blSh (n : Nat) (p : List Bk) : Sh := .cons 1 0 [snS (n + 1) 1] .nil .nil (.cons 3 (n + 1 : Nat) [] (xdSh n 0 p) .nil .nil)

/-- how many go round -/
def whSh : Sh → Nat
  | .nil => 0
  | .cons kd _ _ th el r => (if kd = 3 then 1 else 0) + whSh th + whSh el + whSh r

theorem wh_cd (c : List St) (s : St) (r : Sh) : whSh (cdSh c s r) = whSh r := by simp [cdSh, whSh]

theorem wh_xb (n : Nat) (b : Bk) : whSh (xbSh n b) = 0 := by
  unfold xbSh
  split
  · rw [wh_cd]; rfl
  · rw [wh_cd]; simp [whSh, wh_cd]

theorem wh_xd (n : Nat) : ∀ (p : List Bk) (i : Nat), whSh (xdSh n i p) = 0
  | [], i => by cases i <;> rfl
  | [b], i => by cases i <;> exact wh_xb n b
  | b :: c :: r, 0 => by
    have := wh_xd n (c :: r) 1
    simp only [xdSh, whSh, this, wh_xb]
    rfl
  | b :: c :: r, i + 1 => by
    have := wh_xd n (c :: r) (i + 2)
    simp only [xdSh, whSh, this, wh_xb]
    rfl

theorem wh_bl (n : Nat) (p : List Bk) : whSh (blSh n p) = 1 := by
  simp [blSh, whSh, wh_xd]

/-! ### They may be -/

theorem ckStep_sn {vars to v : Int} (h1 : 0 ≤ to) (h2 : to < vars) (h3 : 0 ≤ v) (h4 : v ≤ 255) : ckStep vars vars (snS to v).op (snS to v).to (snS to v).a (snS to v).b (snS to v).v = 0 := by
  unfold ckStep snS
  simp only []
  rw [if_neg (by omega), if_neg (by omega), if_neg (by omega)]

theorem ckStep_up {n m : Int} (hm : n ≤ m) {s : St} (h : ckStep n n s.op s.to s.a s.b s.v = 0) : ckStep m m s.op s.to s.a s.b s.v = 0 := by
  unfold ckStep at h ⊢
  split at h
  · omega
  · split at h
    · omega
    · split at h
      · omega
      · rw [if_neg (by omega), if_neg (by omega), if_neg (by omega)]

theorem ckStepsF_up {n m : Int} (hm : n ≤ m) {c : List St} (h : ckStepsF n n c = 0) : ckStepsF m m c = 0 := ckStepsF_of fun s hs => ckStep_up hm (mem_ckStepsF h hs)

theorem ckStepsF_one {vars regs : Int} {s : St} (h : ckStep vars regs s.op s.to s.a s.b s.v = 0) : ckStepsF vars regs [s] = 0 := ckStepsF_of fun x hx => by
  rw [List.mem_singleton] at hx
  subst hx
  exact h

theorem ck_pr {n : Nat} {to : Int} (h : to = -1 ∨ (0 ≤ to ∧ to < 8)) : ckStep (n + 2 : Nat) (n + 2 : Nat) (prS n to).op (prS n to).to (prS n to).a (prS n to).b (prS n to).v = 0 := by
  unfold prS
  split
  · exact ckStep_sn (by omega) (by omega) (by omega) (by omega)
  · exact ckStep_sn (by omega) (by omega) (by omega) (by omega)

theorem ck_cd {vars : Int} {c : List St} {s : St} {r : Sh} (h1 : ckStepsF vars vars c = 0) (h2 : ckStep vars vars s.op s.to s.a s.b s.v = 0) (h3 : ckSh vars r = 0) : ckSh vars (cdSh c s r) = 0 :=
  ckSh_of (by simp only [ckOne, if_true]; exact ckStepsF_app (ckStepsF_cp h1) (ckStepsF_one h2)) rfl rfl h3

theorem ck_xb {n m : Nat} {b : Bk} (h : BkOk n m b) (hm : m ≤ 8) : ckSh (n + 2 : Nat) (xbSh n b) = 0 := by
  obtain ⟨h1, h2, h3, h4⟩ := h
  unfold xbSh
  split
  · exact ck_cd (ckStepsF_up (by omega) h1) (ck_pr (by omega)) rfl
  · rename_i hne
    have h5 := h4 (by omega)
    refine ck_cd (ckStepsF_up (by omega) h1) (ck_pr (by omega)) (ckSh_of ?_ (ck_cd rfl (ck_pr (by omega)) rfl) rfl rfl)
    unfold ckOne
    rw [if_neg (by omega), if_pos (.inl rfl), if_pos (by omega)]

theorem ck_two {n : Nat} : ckOne (n + 2 : Nat) 2 (n : Int) [] = 0 := by
  unfold ckOne
  rw [if_neg (by omega), if_pos (.inl rfl), if_pos (by omega)]

theorem ck_sub {n : Nat} : ckOne (n + 2 : Nat) 1 0 [⟨4, n, n, n + 1, 0⟩] = 0 := by
  simp only [ckOne, if_true]
  refine ckStepsF_one ?_
  unfold ckStep
  simp only []
  rw [if_neg (by omega), if_neg (by omega), if_neg (by omega)]

theorem ck_xd {n m : Nat} (hm : m ≤ 8) : ∀ (p : List Bk) (i : Nat), (∀ b ∈ p, BkOk n m b) → ckSh (n + 2 : Nat) (xdSh n i p) = 0
  | [], i, _ => by cases i <;> rfl
  | [b], i, h => by
    have : xdSh n i [b] = xbSh n b := by cases i <;> rfl
    rw [this]
    exact ck_xb (h b (by simp)) hm
  | b :: c :: r, 0, h => by
    have := ck_xd hm (c :: r) 1 fun x hx => h x (List.mem_cons_of_mem _ hx)
    simp only [xdSh]
    exact ckSh_of ck_two this (ck_xb (h b (by simp)) hm) rfl
  | b :: c :: r, i + 1, h => by
    have := ck_xd hm (c :: r) (i + 2) fun x hx => h x (List.mem_cons_of_mem _ hx)
    simp only [xdSh]
    exact ckSh_of ck_sub rfl rfl (ckSh_of ck_two this (ck_xb (h b (by simp)) hm) rfl)

theorem ck_bl {n : Nat} {p : List Bk} (h : ∀ b ∈ p, BkOk n p.length b) (hm : p.length ≤ 8) : ckSh (n + 2 : Nat) (blSh n p) = 0 := by
  refine ckSh_of ?_ rfl rfl (ckSh_of ?_ (ck_xd hm p 0 h) rfl rfl)
  · simp only [ckOne, if_true]
    exact ckStepsF_one (ckStep_sn (by omega) (by omega) (by omega) (by omega))
  · unfold ckOne
    rw [if_neg (by omega), if_pos (.inr rfl), if_pos (by omega)]

theorem fit_xb (n : Nat) (b : Bk) : (xbSh n b).many ≤ 3 ∧ (xbSh n b).steps ≤ b.code.length + 2 := by
  unfold xbSh
  split <;> simp [cdSh, Sh.many, Sh.steps, cpS]

theorem fit_xd (n : Nat) : ∀ (p : List Bk) (i : Nat), (xdSh n i p).many ≤ 5 * p.length ∧ (xdSh n i p).steps ≤ manyS p + 3 * p.length
  | [], i => by cases i <;> simp [xdSh, Sh.many, Sh.steps]
  | [b], i => by
    have := fit_xb n b
    have e : xdSh n i [b] = xbSh n b := by cases i <;> rfl
    rw [e]
    simp only [manyS, List.length_cons, List.length_nil]
    omega
  | b :: c :: r, 0 => by
    have h1 := fit_xd n (c :: r) 1
    have h2 := fit_xb n b
    simp only [xdSh, Sh.many, Sh.steps, manyS, List.length_cons, List.length_nil] at h1 ⊢
    omega
  | b :: c :: r, i + 1 => by
    have h1 := fit_xd n (c :: r) (i + 2)
    have h2 := fit_xb n b
    simp only [xdSh, Sh.many, Sh.steps, manyS, List.length_cons, List.length_nil] at h1 ⊢
    omega

theorem fit_bl (n : Nat) (p : List Bk) (h8 : p.length ≤ 8) (h20 : manyS p ≤ 20) : (blSh n p).many ≤ 1000 ∧ (blSh n p).steps ≤ 1000 := by
  have := fit_xd n p 0
  simp only [blSh, Sh.many, Sh.steps, List.length_cons, List.length_nil]
  omega

/-! ### What they do -/

/-- values, and the two more -/
def tw (v : List Int) (d g : Int) : List Int := v ++ [d, g]

theorem tw_len (v : List Int) (d g : Int) : (tw v d g).length = v.length + 2 := by simp [tw]

theorem tw_due {n : Nat} {v : List Int} {d g : Int} (h : v.length = n) : (tw v d g).getD n 0 = d := by
  rw [tw, List.getD_eq_getElem?_getD, List.getElem?_append_right (by omega)]
  simp [h]

theorem tw_go {n : Nat} {v : List Int} {d g : Int} (h : v.length = n) : (tw v d g).getD (n + 1) 0 = g := by
  rw [tw, List.getD_eq_getElem?_getD, List.getElem?_append_right (by omega)]
  simp [h]

theorem tw_at {v : List Int} {d g : Int} {i : Nat} (h : i < v.length) : (tw v d g).getD i 0 = v.getD i 0 := by
  rw [tw, List.getD_eq_getElem?_getD, List.getElem?_append_left h, List.getD_eq_getElem?_getD]

theorem tw_set {v : List Int} {d g x : Int} {i : Nat} (h : i < v.length) : (tw v d g).set i x = tw (v.set i x) d g := by
  rw [tw, tw, List.set_append_left _ _ h]

theorem tw_set_due {n : Nat} {v : List Int} {d g x : Int} (h : v.length = n) : (tw v d g).set n x = tw v x g := by
  rw [tw, tw, List.set_append_right _ _ (by omega), h, Nat.sub_self]
  rfl

theorem tw_set_go {n : Nat} {v : List Int} {d g x : Int} (h : v.length = n) : (tw v d g).set (n + 1) x = tw v d x := by
  rw [tw, tw, List.set_append_right _ _ (by omega), show n + 1 - v.length = 1 by omega]
  rfl

theorem tw_ok {n : Nat} {v : List Int} {d g : Int} (h : ValsOk n v) (hd : 0 ≤ d ∧ d ≤ 255) (hg : 0 ≤ g ∧ g ≤ 255) : ValsOk (n + 2) (tw v d g) := by
  refine ⟨by rw [tw_len, h.1], fun j x hx => ?_⟩
  by_cases hj : j < v.length
  · rw [tw, List.getElem?_append_left hj] at hx
    exact h.2 j x hx
  · rw [tw, List.getElem?_append_right (by omega)] at hx
    have : j - v.length = 0 ∨ j - v.length = 1 ∨ 2 ≤ j - v.length := by omega
    rcases this with e | e | e
    · rw [e] at hx; simp at hx; omega
    · rw [e] at hx; simp at hx; omega
    · rw [List.getElem?_eq_none (by simpa using e)] at hx; cases hx

theorem doS_tw {n : Nat} : ∀ {c : List St} {v : List Int} {d g : Int}, ckStepsF n n c = 0 → v.length = n → doS c (tw v d g) = tw (doS c v) d g
  | [], _, _, _, _, _ => rfl
  | s :: c, v, d, g, hc, h => by
    have h0 : ckStep n n s.op s.to s.a s.b s.v = 0 := ckStepsF_at hc (i := 0) (s := s) (by simp)
    have h1 : ckStepsF n n c = 0 := by
      unfold ckStepsF at hc
      rwa [if_pos h0] at hc
    have hst : stV (tw v d g) s (tw v d g) = stV v s v := by
      obtain ⟨_, h2⟩ := ckStep_cases h0
      unfold stV
      rcases h2 with ⟨h3, _⟩ | ⟨h3, h4, h5⟩ | ⟨h3, h4, h5⟩
      · simp [h3]
      · rw [if_neg (by omega), if_pos h3, if_neg (by omega), if_pos h3, tw_at (by omega)]
      · rw [if_neg (by omega), if_neg (by omega), if_neg (by omega), if_neg (by omega), tw_at (by omega), tw_at (by omega)]
    have hto : 0 ≤ s.to ∧ s.to < n := by
      unfold ckStep at h0
      split at h0
      · omega
      · split at h0
        · omega
        · split at h0 <;> omega
    show doS c ((tw v d g).set s.to.toNat (stV (tw v d g) s (tw v d g))) = tw (doS c (v.set s.to.toNat (stV v s v))) d g
    rw [hst, tw_set (by omega)]
    exact doS_tw h1 (by simp [h])

theorem doS_one (s : St) (v : List Int) : doS [s] v = v.set s.to.toNat (stV v s v) := rfl

theorem stV_sn (to x : Int) (h r : List Int) : stV h (snS to x) r = x := by simp [stV, snS]

theorem doS_pr {n : Nat} {v : List Int} {d g to : Int} (h : v.length = n) (ht : -1 ≤ to) : doS [prS n to] (tw v d g) = if to = -1 then tw v d 0 else tw v to g := by
  unfold prS
  split
  · rw [doS_one, stV_sn]
    show (tw v d g).set ((n : Int) + 1).toNat 0 = _
    rw [show ((n : Int) + 1).toNat = n + 1 by omega, tw_set_go h]
  · rw [doS_one, stV_sn]
    show (tw v d g).set (n : Int).toNat to = _
    rw [Int.toNat_natCast, tw_set_due h]

theorem ex_cd {c : List St} {s : St} {r : Sh} {t : Nat} {v : List Int} : exSh (cdSh c s r) t v = exSh r t (doS [s] (doS c v)) := by
  unfold cdSh
  rw [exSh_cons, exOne_code]
  simp only [doS_append, doS_cp]

theorem ex_two (th el r : Sh) (n t : Nat) (v : List Int) : exSh (.cons 2 (n : Int) [] th el r) t v = match (if v.getD n 0 = 0 then exSh el t v else exSh th t v) with
    | none => none
    | some x => exSh r x.1 x.2 := by
  rw [exSh_cons]
  by_cases h : v.getD n 0 = 0
  · rw [exOne_else h, if_pos h]
    cases exSh el t v <;> rfl
  · rw [exOne_then h, if_neg h]
    cases exSh th t v <;> rfl

/-- where a block leads, told by the two -/
def nxtW (n : Nat) (b : Bk) (v : List Int) (t : Nat) (y : Option (Nat × List Int)) : Prop :=
  ∃ d g, y = some (t, tw (doS b.code v) d g) ∧ 0 ≤ d ∧ d ≤ 255 ∧ ((g = 0 ∧ goB b (doS b.code v) = -1) ∨ (g = 1 ∧ goB b (doS b.code v) = d))

theorem ex_xb {n m : Nat} {b : Bk} (h : BkOk n m b) (hm : m ≤ 8) {t : Nat} {v : List Int} {d : Int} (hv : ValsOk n v) (hd : 0 ≤ d ∧ d ≤ 255) : nxtW n b v t (exSh (xbSh n b) t (tw v d 1)) := by
  obtain ⟨h1, h2, h3, h4⟩ := h
  have hl : (doS b.code v).length = n := by rw [doS_len]; exact hv.1
  unfold xbSh
  split
  · rename_i he
    rw [ex_cd, doS_tw h1 hv.1, doS_pr hl (by omega), exSh_nil]
    have hg : goB b (doS b.code v) = b.th := by unfold goB; rw [if_neg (by omega)]
    by_cases e : b.th = -1
    · rw [if_pos e]
      exact ⟨d, 0, rfl, hd.1, hd.2, .inl ⟨rfl, by rw [hg, e]⟩⟩
    · rw [if_neg e]
      exact ⟨b.th, 1, rfl, by omega, by omega, .inr ⟨rfl, hg⟩⟩
  · rename_i he
    have h5 := h4 (by omega)
    obtain ⟨k, hk⟩ : ∃ k : Nat, b.test = (k : Int) := ⟨b.test.toNat, by omega⟩
    have hkn : k < n := by omega
    rw [ex_cd, doS_tw h1 hv.1, doS_pr hl (by omega), if_neg (by omega), hk, ex_two, tw_at (by omega)]
    have hg : goB b (doS b.code v) = if (doS b.code v).getD k 0 = 0 then b.el else b.th := by
      unfold goB
      rw [hk, Int.toNat_natCast]
      by_cases e : (doS b.code v).getD k 0 = 0
      · rw [if_pos ⟨by omega, e⟩, if_pos e]
      · rw [if_neg (fun h => e h.2), if_neg e]
    by_cases e : (doS b.code v).getD k 0 = 0
    · rw [if_pos e, exSh_nil]
      rw [if_pos e] at hg
      exact ⟨b.el, 1, rfl, by omega, by omega, .inr ⟨rfl, hg⟩⟩
    · rw [if_neg e, ex_cd, show ∀ u : List Int, doS [] u = u from fun _ => rfl, doS_pr hl (by omega), if_neg (by omega), exSh_nil]
      rw [if_neg e] at hg
      exact ⟨b.th, 1, rfl, by omega, by omega, .inr ⟨rfl, hg⟩⟩

theorem stV_sub {n : Nat} {v : List Int} {d : Int} (h : v.length = n) (hd : 1 ≤ d ∧ d ≤ 255) : doS [⟨4, n, n, n + 1, 0⟩] (tw v d 1) = tw v (d - 1) 1 := by
  rw [doS_one]
  have e : stV (tw v d 1) ⟨4, n, n, n + 1, 0⟩ (tw v d 1) = d - 1 := by
    unfold stV
    simp only []
    rw [if_neg (by omega), if_neg (by omega), show ((n : Int) + 1).toNat = n + 1 by omega, Int.toNat_natCast, tw_due h, tw_go h]
    unfold opv
    rw [if_neg (by omega), if_pos rfl]
    omega
  rw [e]
  show (tw v d 1).set (n : Int).toNat (d - 1) = _
  rw [Int.toNat_natCast, tw_set_due h]

/-- the block that is due is executed -/
theorem ex_xd {n m : Nat} (hm : m ≤ 8) : ∀ (p : List Bk) (i k : Nat) (b : Bk) (t : Nat) (v : List Int), (∀ b ∈ p, BkOk n m b) → ValsOk n v → p[k]? = some b → k ≤ 8 → nxtW n b v t (exSh (xdSh n i p) t (tw v (if i = 0 then (k : Int) else (k : Int) + 1) 1))
  | [], i, k, b, t, v, _, _, h, _ => by simp at h
  | [c], i, k, b, t, v, hp, hv, h, hk => by
    have hk0 : k = 0 := by
      have := (List.getElem?_eq_some_iff.1 h).1
      simp at this
      exact this
    subst hk0
    simp at h
    subst h
    have : xdSh n i [c] = xbSh n c := by cases i <;> rfl
    rw [this]
    exact ex_xb (hp c (by simp)) hm hv (by split <;> omega)
  | c :: e :: r, 0, k, b, t, v, hp, hv, h, hk => by
    simp only [xdSh, if_true]
    rw [ex_two, tw_due hv.1]
    cases k with
    | zero =>
      simp at h
      subst h
      rw [if_pos (by rfl)]
      obtain ⟨d, g, h1, h2, h3, h4⟩ := ex_xb (t := t) (hp c (by simp)) hm hv (d := ((0 : Nat) : Int)) (by omega)
      rw [h1]
      exact ⟨d, g, rfl, h2, h3, h4⟩
    | succ k =>
      rw [if_neg (by omega)]
      obtain ⟨d, g, h1, h2, h3, h4⟩ := ex_xd hm (e :: r) 1 k b t v (fun x hx => hp x (List.mem_cons_of_mem _ hx)) hv (by simpa using h) (by omega)
      rw [if_neg (by omega)] at h1
      rw [show (((k + 1 : Nat)) : Int) = (k : Int) + 1 by omega, h1]
      exact ⟨d, g, rfl, h2, h3, h4⟩
  | c :: e :: r, i + 1, k, b, t, v, hp, hv, h, hk => by
    simp only [xdSh]
    rw [if_neg (by omega), exSh_cons, exOne_code]
    simp only []
    rw [stV_sub hv.1 (by omega), ex_two, show (k : Int) + 1 - 1 = (k : Int) by omega, tw_due hv.1]
    cases k with
    | zero =>
      simp at h
      subst h
      rw [if_pos (by rfl)]
      obtain ⟨d, g, h1, h2, h3, h4⟩ := ex_xb (t := t) (hp c (by simp)) hm hv (d := ((0 : Nat) : Int)) (by omega)
      rw [h1]
      exact ⟨d, g, rfl, h2, h3, h4⟩
    | succ k =>
      rw [if_neg (by omega)]
      obtain ⟨d, g, h1, h2, h3, h4⟩ := ex_xd hm (e :: r) (i + 2) k b t v (fun x hx => hp x (List.mem_cons_of_mem _ hx)) hv (by simpa using h) (by omega)
      rw [if_neg (by omega)] at h1
      rw [show (((k + 1 : Nat)) : Int) = (k : Int) + 1 by omega, h1]
      exact ⟨d, g, rfl, h2, h3, h4⟩

/-- a run of the program is a run of the one that goes round -/
theorem ex_round {n : Nat} {p : List Bk} (hp : ∀ b ∈ p, BkOk n p.length b) (hm : p.length ≤ 8) : ∀ (f t i : Nat) (v x : List Int) (l : List Nat), f ≤ t → i < p.length → ValsOk n v → goP p f (i : Int) v = some (x, l) →
    ∃ t2 d, loopW (exSh (xdSh n 0 p)) (n + 1) (t + 1) t (tw v i 1) = some (t2, tw x d 0)
  | 0, t, i, v, x, l, _, _, _, h => by rw [goP_zero] at h; cases h
  | f + 1, t, i, v, x, l, hf, hi, hv, h => by
    have hb := List.getElem?_eq_getElem hi
    have hok := hp _ (List.getElem_mem hi)
    rw [goP_step hb] at h
    obtain ⟨t, rfl⟩ : ∃ t', t = t' + 1 := ⟨t - 1, by omega⟩
    obtain ⟨d, g, h1, h2, h3, h4⟩ := ex_xd hm p 0 i p[i] t v hp hv hb (by omega)
    rw [if_pos rfl] at h1
    have hv2 := doS_ok hok.code hv
    rw [loopW, tw_go hv.1, if_neg (by omega)]
    simp only [h1]
    generalize doS p[i].code v = v2 at *
    rcases h4 with ⟨rfl, h5⟩ | ⟨rfl, h5⟩
    · rw [h5, goP_stop] at h
      simp only [Option.map_some, Option.some.injEq, Prod.mk.injEq] at h
      obtain ⟨rfl, _⟩ := h
      exact ⟨t, d, whW_end (f := exSh (xdSh n 0 p)) (t := t) (tw_go hv2.1)⟩
    · rcases goB_lt hok v2 with e | ⟨j, e, hj⟩
      · omega
      · rw [e] at h h5
        subst h5
        cases hg : goP p f (j : Int) v2 with
        | none => rw [hg] at h; cases h
        | some y =>
          obtain ⟨x2, l2⟩ := y
          rw [hg] at h
          simp only [Option.map_some, Option.some.injEq, Prod.mk.injEq] at h
          obtain ⟨rfl, _⟩ := h
          exact ex_round hp hm f t j v2 x2 l2 (by omega) hj hv2 hg

/-- BOEHM AND JACOPINI: the shapes end with what the program stops with -/
theorem ex_bl {n : Nat} {p : List Bk} (hp : ∀ b ∈ p, BkOk n p.length b) (hm : p.length ≤ 8) (h0 : 0 < p.length) {t : Nat} {v x : List Int} {l : List Nat} (hv : ValsOk n v) (h : goP p t 0 v = some (x, l)) : ∃ t2 d, exSh (blSh n p) t (tw v 0 0) = some (t2, tw x d 0) := by
  obtain ⟨t2, d, h1⟩ := ex_round hp hm t t 0 v x l (Nat.le_refl _) h0 hv h
  refine ⟨t2, d, ?_⟩
  unfold blSh
  rw [exSh_cons, exOne_code]
  simp only []
  rw [doS_one, stV_sn]
  have e : (tw v 0 0).set (snS (n + 1) 1).to.toNat 1 = tw v (0 : Nat) 1 := by
    show (tw v 0 0).set ((n : Int) + 1).toNat 1 = _
    rw [show ((n : Int) + 1).toNat = n + 1 by omega, tw_set_go hv.1]
    rfl
  rw [e, exSh_cons, exOne_while]
  unfold whW
  rw [h1]
  rfl

end Go.Proofs.Ytniilhgcgcimgaa
