/-
  Several texts in one: PureSsa, PureSsaRun, PureSsaGo, PureSsaOk, PureSsaBt.
-/
import Derived.Test.YtgcjknibelfjbaaPureNames
import Derived.Test.YtgcjknibelfjbaaPureSnRun

/-
  CYTRON, FERRANTE, ROSEN, WEGMAN, ZADECK (M3), plain: a program over names, with joins where ways from what sets a variable meet, does what the program does.
-/

namespace Go.Proofs.Ytgcjknibelfjbaa
set_option linter.unusedSimpArgs false
set_option linter.unusedVariables false

/-- what is given: a checked program, its dominators' tree, where joins stand -/
structure Ssa (vars : Nat) (p : List Bk) (ts : List Int) (jv : List (List Nat)) (sw : Nat → Nat) : Prop where
  ck : ckProg vars p = 0
  tree : ∀ i, i < p.length → TreeAt (nxP p) i (ts.getD i (-1))
  jn : ∀ i, (jv.getD i []).Nodup
  jm : ∀ i v, i < p.length → (v ∈ jv.getD i [] ↔ v < vars ∧ Mt (nxP p) (sw v) i)
  jl : ∀ i v, v ∈ jv.getD i [] → v < vars
  sw : ∀ v i, (sw v).testBit i = true ↔ i < p.length ∧ ∃ s ∈ (p.getD i bk0).code, s.to = (v : Int)

/-- what dominates the only way ahead of i dominates all sources of i -/
theorem dom_pred {nx : List (List Int)} {d i j : Nat} (hd : Dom nx d i) (hne : d ≠ i) (hj : Rea nx (-1) 0 j) (hs : i ∈ sc nx j) : Dom nx d j := by
  refine ⟨hd.1, hj, ?_⟩
  by_cases e : d = j
  · exact .inl e
  · refine .inr fun h => ?_
    rcases hd.2.2 with h2 | h2
    · exact hne h2
    · exact h2 (h.step hs (int_ne (Ne.symm hne)))

section
variable {vars : Nat} {p : List Bk} {ts : List Int} {jv : List (List Nat)} {sw : Nat → Nat} {l : List Sg} {t : Nat → Nat} {T : Nat}

/-- Last, of one block -/
def laB (l : List Sg) (i : Nat) : List Int := (l.getD i sg0).last

theorem nx_len (p : List Bk) : (nxP p).length = p.length := by simp [nxP]

theorem Bt.la (hB : Bt vars p.length ts jv p l t T) {i : Nat} (hi : i < p.length) : laB l i = cdF (p.getD i bk0).code (t i + (jv.getD i []).length) (jnF (jv.getD i []) (t i) (bef vars ts l i)) := by
  unfold laB
  rw [List.getD_eq_getElem?_getD, hB.at_ i hi]
  rfl

/-- what is neither joined nor set keeps its name -/
theorem Bt.stay (hS : Ssa vars p ts jv sw) (hB : Bt vars p.length ts jv p l t T) {i v : Nat} (hi : i < p.length) (hj : v ∉ jv.getD i []) (hs : ¬ ∃ s ∈ (p.getD i bk0).code, s.to = (v : Int)) : (laB l i)[v]? = (bef vars ts l i)[v]? := by
  rw [hB.la hi, cdF_not, jnF_not hj]
  intro s hsm e
  have hb : p[i]? = some (p.getD i bk0) := by rw [List.getD_eq_getElem?_getD, List.getElem?_eq_getElem hi]; rfl
  have hok := (ckProg_at hS.ck hb).code
  obtain ⟨k, hk, rfl⟩ := List.getElem_of_mem hsm
  have := (ckStep_cases (ckStepsF_at hok (List.getElem?_eq_getElem hk))).1
  exact hs ⟨_, hsm, by omega⟩

/-- ahead of a block with an immediate dominator: what Last says there -/
theorem bef_dom {d i : Nat} (h : ts.getD i (-1) = (d : Int)) : bef vars ts l i = laB l d := by
  unfold bef laB
  rw [h, if_neg (by omega), Int.toNat_natCast]

theorem bef_none {i : Nat} (h : ts.getD i (-1) = -1) : bef vars ts l i = ni (List.range vars) := by
  unfold bef
  rw [if_pos h]

/-- THE SOURCES OF A BLOCK AGREE where it has no join -/
theorem Bt.same (hS : Ssa vars p ts jv sw) (hB : Bt vars p.length ts jv p l t T) {i j v : Nat} (hi : i < p.length) (hr : Rea (nxP p) (-1) 0 j) (hs : i ∈ sc (nxP p) j) (hv : v < vars) (hn : v ∉ jv.getD i []) : (laB l j)[v]? = (bef vars ts l i)[v]? := by
  have hw : ckWay (nxP p) = 0 := nxP_way hS.ck
  have hjl : j < p.length := by rw [← nx_len p]; exact hr.lt hw (by have := (ckWay_bd hw).1; omega)
  have hri : Rea (nxP p) (-1) 0 i := hr.step hs (nat_ne i)
  obtain ⟨f, hf⟩ := dom_bool (nxP p)
  -- what stands on the way up from j, and does not dominate i, has i in its edge
  have edge : ∀ x, Dom (nxP p) x j → (x = i ∨ ¬ Dom (nxP p) x i) → v ∉ jv.getD x [] ∧ ¬ ∃ s ∈ (p.getD x bk0).code, s.to = (v : Int) := by
    intro x hx hxi
    have hxl : x < p.length := by rw [← nx_len p]; exact (hx.lt hw).1
    have he : EdgeP (nxP p) x i := ⟨j, hx, hs, hxi.imp Eq.symm id⟩
    refine ⟨fun hm => hn ((hS.jm i v hi).2 ⟨hv, .more ((hS.jm x v hxl).1 hm).2 he⟩), fun hm => hn ((hS.jm i v hi).2 ⟨hv, .one ((hS.sw v x).2 ⟨hxl, hm⟩) he⟩)⟩
  rcases hS.tree i hi with ⟨d, hd, hid⟩ | ⟨hd, hnone⟩
  · rw [bef_dom hd]
    have hdj := dom_pred hid.2.1 hid.1 hr hs
    have key : ∀ (m : Nat) (x : Nat), dcnt f x p.length ≤ m → Dom (nxP p) x j → Dom (nxP p) d x → (laB l x)[v]? = (laB l d)[v]? := by
      intro m
      induction m with
      | zero =>
        intro x hm hx hdx
        exfalso
        have hxl : x < p.length := by rw [← nx_len p]; exact (hx.lt hw).1
        by_cases h0 : x = 0
        · subst h0
          have hz : ∀ n : Nat, 0 < n → 1 ≤ dcnt f 0 n := by
            intro n
            induction n with
            | zero => omega
            | succ n ih =>
              intro _
              unfold dcnt
              by_cases e : n = 0
              · subst e
                rw [if_pos ((hf 0 0).2 (Dom.me (Rea.me _ 0)))]
                omega
              · have := ih (by omega); omega
          have := hz p.length (by omega)
          omega
        · have := dcnt_dom hf (Dom.zero hx.1) (Ne.symm h0) hxl
          omega
      | succ m ih =>
        intro x hm hx hdx
        by_cases e : x = d
        · rw [e]
        · have hxl : x < p.length := by rw [← nx_len p]; exact (hx.lt hw).1
          have hxi : x = i ∨ ¬ Dom (nxP p) x i := by
            by_cases e2 : x = i
            · exact .inl e2
            · exact .inr fun h => e (Dom.anti (hid.2.2 x e2 h) hdx)
          obtain ⟨h1, h2⟩ := edge x hx hxi
          rw [hB.stay hS hxl h1 h2]
          have hx0 : x ≠ 0 := fun e0 => by
            subst e0
            have := Dom.zero_iff.1 hdx
            exact e this.symm
          rcases hS.tree x hxl with ⟨d', hd', hid'⟩ | ⟨_, hno⟩
          · rw [bef_dom hd']
            have hlt := dcnt_dom hf hid'.2.1 hid'.1 hxl
            refine ih d' (by omega) (hid'.2.1.trans hx) ?_
            rcases (dom_idom hid' d).1 hdx with h | h
            · exact absurd h.symm e
            · exact h
          · obtain ⟨d', hd'⟩ := idom_is hw hx.1 hx0
            exact absurd hd' (hno d')
    exact key _ j (Nat.le_refl _) (Dom.me hr) hdj
  · have h0 : i = 0 := by
      refine Classical.byContradiction fun h0 => ?_
      obtain ⟨d, hd⟩ := idom_is hw hri h0
      exact hnone d hd
    subst h0
    rw [bef_none hd]
    have key : ∀ (m : Nat) (x : Nat), dcnt f x p.length ≤ m → Dom (nxP p) x j → (laB l x)[v]? = (ni (List.range vars))[v]? := by
      intro m
      induction m with
      | zero =>
        intro x hm hx
        exfalso
        have hxl : x < p.length := by rw [← nx_len p]; exact (hx.lt hw).1
        by_cases h0 : x = 0
        · subst h0
          have hz : ∀ n : Nat, 0 < n → 1 ≤ dcnt f 0 n := by
            intro n
            induction n with
            | zero => omega
            | succ n ih =>
              intro _
              unfold dcnt
              by_cases e : n = 0
              · subst e
                rw [if_pos ((hf 0 0).2 (Dom.me (Rea.me _ 0)))]
                omega
              · have := ih (by omega); omega
          have := hz p.length (by omega)
          omega
        · have := dcnt_dom hf (Dom.zero hx.1) (Ne.symm h0) hxl
          omega
      | succ m ih =>
        intro x hm hx
        have hxl : x < p.length := by rw [← nx_len p]; exact (hx.lt hw).1
        have hxi : x = 0 ∨ ¬ Dom (nxP p) x 0 := by
          by_cases e2 : x = 0
          · exact .inl e2
          · exact .inr fun h => e2 (Dom.zero_iff.1 h)
        obtain ⟨h1, h2⟩ := edge x hx hxi
        rw [hB.stay hS hxl h1 h2]
        rcases hS.tree x hxl with ⟨d', hd', hid'⟩ | ⟨hd', hno⟩
        · rw [bef_dom hd']
          have hlt := dcnt_dom hf hid'.2.1 hid'.1 hxl
          exact ih d' (by omega) (hid'.2.1.trans hx)
        · rw [bef_none hd']
    exact key _ j (Nat.le_refl _) (Dom.me hr)

end

end Go.Proofs.Ytgcjknibelfjbaa

/-
  Plain: a program over names made of a program runs as that does (M3).
-/

namespace Go.Proofs.Ytgcjknibelfjbaa
set_option linter.unusedSimpArgs false
set_option linter.unusedVariables false

/-- names have what variables have -/
def AgrN (vars : Nat) (w la vv : List Int) : Prop := ∀ v, v < vars → w.getD (la.getD v 0).toNat 0 = vv.getD v 0

theorem getD_set_self {xs : List Int} {i : Nat} {x : Int} (h : i < xs.length) : (xs.set i x).getD i 0 = x := by
  rw [List.getD_eq_getElem?_getD, List.getElem?_set_self h]
  rfl

theorem getD_set_ne {xs : List Int} {i j : Nat} {x : Int} (h : i ≠ j) : (xs.set i x).getD j 0 = xs.getD j 0 := by
  rw [List.getD_eq_getElem?_getD, List.getElem?_set_ne h, ← List.getD_eq_getElem?_getD]

theorem getD_memS {xs : List Int} {v : Nat} (h : v < xs.length) : xs.getD v 0 ∈ xs := by
  rw [List.getD_eq_getElem?_getD, List.getElem?_eq_getElem h]
  exact List.getElem_mem h

/-- one step over names gives what the step gives -/
theorem stV_nm {vars : Nat} {s : St} {t : Nat} {la w vv : List Int} (hk : ckStep vars vars s.op s.to s.a s.b s.v = 0) (h : AgrN vars w la vv) : stV w (nmS s t la) w = stV vv s vv := by
  obtain ⟨_, hc⟩ := ckStep_cases hk
  rcases hc with ⟨h1, _⟩ | ⟨h1, h2, h3⟩ | ⟨h1, h2, ha, ha2, hb, hb2⟩
  · unfold stV nmS
    rw [if_pos h1, if_pos h1]
    rfl
  · have e1 : ¬ s.op = 1 := by omega
    have := h s.v.toNat (by omega)
    unfold stV nmS
    simp only [if_neg e1, if_pos h1]
    rw [if_neg (by omega), if_pos trivial]
    exact this
  · have e1 : ¬ s.op = 1 := by omega
    have e2 : ¬ s.op = 2 := by omega
    have hA := h s.a.toNat (by omega)
    have hB := h s.b.toNat (by omega)
    unfold stV nmS
    simp only [if_neg e1, if_neg e2]
    rw [hA, hB]

theorem agrN_set {vars t : Nat} {la w vv : List Int} {v : Nat} {x : Int} (h : ∀ u, u < vars → u ≠ v → w.getD (la.getD u 0).toNat 0 = vv.getD u 0) (hla : la.length = vars) (hl : ∀ y ∈ la, 0 ≤ y ∧ y < (t : Int)) (hw : t < w.length) (hv : v < vars) (hx : vv.getD v 0 = x) : AgrN vars (w.set t x) (la.set v (t : Int)) vv := fun u hu => by
  by_cases e : u = v
  · subst e
    rw [getD_set_self (by omega), Int.toNat_natCast, getD_set_self hw, hx]
  · rw [getD_set_ne (Ne.symm e)]
    have hm := hl _ (getD_memS (show u < la.length by omega))
    rw [getD_set_ne (by omega)]
    exact h u hu e

theorem set_lt {la : List Int} {t v : Nat} (hl : ∀ y ∈ la, 0 ≤ y ∧ y < (t : Int)) : ∀ y ∈ la.set v (t : Int), 0 ≤ y ∧ y < ((t + 1 : Nat) : Int) := fun y hy => by
  rcases mem_set_or hy with h | h
  · have := hl y h; omega
  · omega

/-- steps over names do what the steps do -/
theorem cd_run {vars : Nat} : ∀ {c : List St} {t : Nat} {la w vv : List Int}, (∀ s ∈ c, ckStep vars vars s.op s.to s.a s.b s.v = 0) → la.length = vars → vv.length = vars → (∀ y ∈ la, 0 ≤ y ∧ y < (t : Int)) → t + c.length ≤ w.length → AgrN vars w la vv →
    AgrN vars (doS (cdC c t la) w) (cdF c t la) (doS c vv)
  | [], _, _, _, _, _, _, _, _, _, h => h
  | s :: c, t, la, w, vv, hk, hla, hvv, hl, hw, h => by
    have hks := hk s (List.mem_cons_self ..)
    have hto := (ckStep_cases hks).1
    have hw2 : t < w.length := by simp at hw; omega
    rw [cdC, cdF, doS, doS, nmS_to, Int.toNat_natCast, stV_nm hks h]
    refine cd_run (fun x hx => hk x (List.mem_cons_of_mem _ hx)) (by simpa using hla) (by simpa using hvv) (set_lt hl) (by simp at hw ⊢; omega) ?_
    refine agrN_set (fun u hu hne => ?_) hla hl hw2 (by omega) (getD_set_self (by omega))
    rw [getD_set_ne (Ne.symm hne)]
    exact h u hu

/-- one join takes what its source has -/
theorem jnS_fill {v0 : List Int} {last : Int} {to : Nat} {g : Int → Int} : ∀ {srcs w : List Int}, jnS v0 last to srcs (srcs.map g) w = if last ∈ srcs then w.set to (v0.getD (g last).toNat 0) else w
  | [], w => by simp [jnS]
  | f :: ss, w => by
    rw [List.map_cons, jnS, jnS_fill (srcs := ss)]
    by_cases e : f = last
    · subst e
      rw [if_pos rfl, if_pos (List.mem_cons_self ..)]
      split
      · rw [List.set_set]
      · rfl
    · rw [if_neg e]
      by_cases hm : last ∈ ss
      · rw [if_pos hm, if_pos (List.mem_cons_of_mem _ hm)]
      · rw [if_neg hm, if_neg]
        intro h
        rcases List.mem_cons.1 h with h | h
        · exact e h.symm
        · exact hm h

def fillZ (l : List Sg) (srcs : List Int) (vs : List Nat) (t : Nat) : List Jn := List.zipWith (fun (j : Jn) v => ⟨j.to, fillJ l srcs v⟩) (jnT vs t) vs

/-- the name that the source has for a variable -/
def srcN (l : List Sg) (last : Int) (v : Nat) : Int := if last = -1 then (v : Int) else (l.getD last.toNat sg0).last.getD v 0

/-- joins give each joined variable a new name with what its source has -/
theorem jn_run {vars : Nat} {l : List Sg} {v0 : List Int} {last : Int} {srcs vv : List Int} (hm : last ∈ srcs) : ∀ {vs : List Nat} {t : Nat} {la w : List Int}, (∀ v ∈ vs, v < vars) → la.length = vars → (∀ y ∈ la, 0 ≤ y ∧ y < (t : Int)) → t + vs.length ≤ w.length →
    (∀ v ∈ vs, v0.getD (srcN l last v).toNat 0 = vv.getD v 0) → (∀ u, u < vars → u ∉ vs → w.getD (la.getD u 0).toNat 0 = vv.getD u 0) → AgrN vars (jnsS v0 last srcs (fillZ l srcs vs t) w) (jnF vs t la) vv
  | [], t, la, w, _, _, _, _, _, h => fun u hu => h u hu (by simp)
  | v :: r, t, la, w, hv, hla, hl, hw, hq, h => by
    have hw2 : t < w.length := by simp at hw; omega
    have e : jnsS v0 last srcs (fillZ l srcs (v :: r) t) w = jnsS v0 last srcs (fillZ l srcs r (t + 1)) (w.set t (v0.getD (srcN l last v).toNat 0)) := by
      unfold fillZ
      simp only [jnT, List.zipWith_cons_cons, jnsS, Int.toNat_natCast]
      unfold fillJ
      rw [jnS_fill, if_pos hm]
      rfl
    rw [e, jnF]
    refine jn_run hm (fun x hx => hv x (List.mem_cons_of_mem _ hx)) (by simpa using hla) (set_lt hl) (by simp at hw ⊢; omega) (fun x hx => hq x (List.mem_cons_of_mem _ hx)) fun u hu hur => ?_
    by_cases euv : u = v
    · subst euv
      rw [getD_set_self (by omega), Int.toNat_natCast, getD_set_self hw2]
      exact hq u (List.mem_cons_self ..)
    · rw [getD_set_ne (Ne.symm euv)]
      have hmem := hl _ (getD_memS (show u < la.length by omega))
      rw [getD_set_ne (by omega)]
      exact h u hu fun h2 => by
        rcases List.mem_cons.1 h2 with h2 | h2
        · exact euv h2
        · exact hur h2

section
variable {vars : Nat} {p : List Bk} {ts : List Int} {jv : List (List Nat)} {sw : Nat → Nat} {l : List Sg} {t : Nat → Nat} {T : Nat}

/-- by the dominators' tree -/
theorem dom_ind (hS : Ssa vars p ts jv sw) {P : Nat → Prop} (h0 : ∀ i, i < p.length → ts.getD i (-1) = -1 → P i) (h1 : ∀ i d, i < p.length → d < p.length → ts.getD i (-1) = (d : Int) → Idom (nxP p) d i → P d → P i) : ∀ i, i < p.length → P i := by
  have hw : ckWay (nxP p) = 0 := nxP_way hS.ck
  obtain ⟨f, hf⟩ := dom_bool (nxP p)
  have key : ∀ (m i : Nat), i < p.length → dcnt f i p.length < m → P i := by
    intro m
    induction m with
    | zero => intro i _ h; omega
    | succ m ih =>
      intro i hi hm
      rcases hS.tree i hi with ⟨d, hd, hid⟩ | ⟨hd, _⟩
      · have hdl : d < p.length := by rw [← nx_len p]; exact (hid.2.1.lt hw).1
        have := dcnt_dom hf hid.2.1 hid.1 hi
        exact h1 i d hi hdl hd hid (ih d hdl (by omega))
      · exact h0 i hi hd
  exact fun i hi => key _ i hi (Nat.lt_succ_self _)

/-- the names ahead of a block: as many as variables; of the beginning, or of a strict dominator -/
theorem Bt.names (hS : Ssa vars p ts jv sw) (hB : Bt vars p.length ts jv p l t T) : ∀ i, i < p.length → (bef vars ts l i).length = vars ∧ ∀ x ∈ bef vars ts l i, (0 ≤ x ∧ x < vars) ∨ ∃ d : Nat, d < p.length ∧ d ≠ i ∧ Dom (nxP p) d i ∧ (t d : Int) ≤ x ∧ x < ((t d + szB jv p d : Nat) : Int) ∧ t d + szB jv p d ≤ t i := by
  refine dom_ind hS (fun i hi hd => ?_) fun i d hi hdl hd hid ih => ?_
  · rw [bef_none hd]
    refine ⟨by simp [ni], fun x hx => .inl ?_⟩
    obtain ⟨k, hk, rfl⟩ := List.mem_map.1 hx
    have := List.mem_range.1 hk
    omega
  · rw [bef_dom hd, hB.la hdl]
    have hpar : t d + szB jv p d ≤ t i := by
      rcases hB.par i hi with h | ⟨d', _, h, h2⟩
      · omega
      · have : d' = d := by omega
        rw [← this]; exact h2
    refine ⟨by rw [cdF_len, jnF_len]; exact ih.1, fun x hx => ?_⟩
    have own : ∀ k, k < szB jv p d → x = ((t d + k : Nat) : Int) → (0 ≤ x ∧ x < vars) ∨ ∃ d : Nat, d < p.length ∧ d ≠ i ∧ Dom (nxP p) d i ∧ (t d : Int) ≤ x ∧ x < ((t d + szB jv p d : Nat) : Int) ∧ t d + szB jv p d ≤ t i := fun k hk e => .inr ⟨d, hdl, hid.1, hid.2.1, by omega, by omega, hpar⟩
    rcases cdF_mem hx with h | ⟨k, hk, h⟩
    · rcases jnF_mem h with h | ⟨k, hk, h⟩
      · rcases ih.2 x h with h2 | ⟨d', h2, h3, h4, h5, h6, h7⟩
        · exact .inl h2
        · refine .inr ⟨d', h2, fun e => ?_, h4.trans hid.2.1, h5, h6, by omega⟩
          subst e
          exact idom_not hid h4
      · exact own k (by unfold szB; omega) h
    · exact own ((jv.getD d []).length + k) (by unfold szB; omega) (by omega)

theorem Bt.below (hS : Ssa vars p ts jv sw) (hB : Bt vars p.length ts jv p l t T) {i : Nat} (hi : i < p.length) : ∀ x ∈ bef vars ts l i, 0 ≤ x ∧ x < (t i : Int) := fun x hx => by
  have := hB.lo i hi
  rcases (hB.names hS i hi).2 x hx with h | ⟨d, _, _, _, h1, h2, h3⟩ <;> omega

end

end Go.Proofs.Ytgcjknibelfjbaa

/-
  Plain: CYTRON, FERRANTE, ROSEN, WEGMAN, ZADECK (M3): the named program runs as the program.
-/

namespace Go.Proofs.Ytgcjknibelfjbaa
set_option linter.unusedSimpArgs false
set_option linter.unusedVariables false

section
variable {vars : Nat} {p : List Bk} {ts : List Int} {jv : List (List Nat)} {sw : Nat → Nat} {l : List Sg} {t : Nat → Nat} {T : Nat}

theorem p_at {i : Nat} (h : i < p.length) : p[i]? = some (p.getD i bk0) := by rw [List.getD_eq_getElem?_getD, List.getElem?_eq_getElem h]; rfl

/-- names at the end of a block -/
theorem Bt.last (hS : Ssa vars p ts jv sw) (hB : Bt vars p.length ts jv p l t T) {i : Nat} (hi : i < p.length) : (laB l i).length = vars ∧ ∀ x ∈ laB l i, 0 ≤ x ∧ x < (T : Int) := by
  obtain ⟨h1, h2⟩ := hB.names hS i hi
  have hh := hB.hi i hi
  rw [hB.la hi]
  refine ⟨by rw [cdF_len, jnF_len]; exact h1, fun x hx => ?_⟩
  unfold szB at hh
  rcases cdF_mem hx with h | ⟨k, hk, h⟩
  · rcases jnF_mem h with h | ⟨k, hk, h⟩
    · have := hB.below hS hi x h
      omega
    · omega
  · omega

/-- the block over names -/
def nmL (l : List Sg) (p : List Bk) (ts : List Int) (jv : List (List Nat)) (vars : Nat) (t : Nat → Nat) (i : Nat) : Sg :=
  ⟨fillZ l ((frG (nxP p)).getD i []) (jv.getD i []) (t i), cdC (p.getD i bk0).code (t i + (jv.getD i []).length) (jnF (jv.getD i []) (t i) (bef vars ts l i)),
    if (p.getD i bk0).test = -1 then -1 else (laB l i).getD (p.getD i bk0).test.toNat 0, (p.getD i bk0).th, (p.getD i bk0).el, laB l i⟩

theorem Bt.fill (hB : Bt vars p.length ts jv p l t T) {i : Nat} (hi : i < p.length) : (fillL l (frG (nxP p)) jv)[i]? = some (nmL l p ts jv vars t i) := by
  unfold fillL
  rw [hB.len, List.getElem?_map, List.getElem?_range hi]
  have e : l.getD i sg0 = nmB (jv.getD i []) (p.getD i bk0) (bef vars ts l i) (t i) := by rw [List.getD_eq_getElem?_getD, hB.at_ i hi]; rfl
  have e2 := hB.la hi
  unfold nmL
  rw [e2]
  show some (fillS l _ _ (l.getD i sg0)) = _
  rw [e]
  rfl

theorem fillL_len (frs : List (List Int)) : (fillL l frs jv).length = l.length := by simp [fillL]

theorem Bt.bare (hS : Ssa vars p ts jv sw) (hB : Bt vars p.length ts jv p l t T) : nxP (bareP (fillL l (frG (nxP p)) jv)) = nxP p := by
  apply List.ext_getElem?
  intro i
  rcases Nat.lt_or_ge i p.length with hi | hi
  · have h1 := hB.fill hi
    obtain ⟨L, hL⟩ : ∃ L, fillL l (frG (nxP p)) jv = L := ⟨_, rfl⟩
    rw [hL] at h1 ⊢
    clear hL
    unfold nxP bareP
    rw [List.getElem?_map, List.getElem?_map, h1, List.getElem?_map, p_at hi]
    simp only [Option.map_some, Option.some.injEq]
    obtain ⟨_, ht, _, _⟩ := ckProg_at hS.ck (p_at hi)
    unfold nxB bareS nmL
    simp only []
    by_cases e : (p.getD i bk0).test = -1
    · rw [if_pos e, e]
    · rw [if_neg e]
      have hl := hB.last hS hi
      have h0 := (hl.2 _ (getD_memS (show (p.getD i bk0).test.toNat < (laB l i).length by omega))).1
      by_cases e2 : (p.getD i bk0).th ≠ (p.getD i bk0).el
      · have c1 : (laB l i).getD (p.getD i bk0).test.toNat 0 ≠ -1 ∧ (p.getD i bk0).th ≠ (p.getD i bk0).el := ⟨by omega, e2⟩
        have c2 : (p.getD i bk0).test ≠ -1 ∧ (p.getD i bk0).th ≠ (p.getD i bk0).el := ⟨e, e2⟩
        rw [if_pos c1, if_pos c2]
      · have c1 : ¬ ((laB l i).getD (p.getD i bk0).test.toNat 0 ≠ -1 ∧ (p.getD i bk0).th ≠ (p.getD i bk0).el) := fun h => e2 h.2
        have c2 : ¬ ((p.getD i bk0).test ≠ -1 ∧ (p.getD i bk0).th ≠ (p.getD i bk0).el) := fun h => e2 h.2
        rw [if_neg c1, if_neg c2]
  · rw [List.getElem?_eq_none (by simp [nxP, bareP, fillL_len, hB.len]; exact hi), List.getElem?_eq_none (by simp [nxP]; exact hi)]

/-- from where one came, and what names have there -/
def Came (vars : Nat) (p : List Bk) (l : List Sg) (i : Nat) (last : Int) (vv w : List Int) : Prop :=
  (last = -1 ∧ i = 0 ∧ ∀ v, v < vars → w.getD v 0 = vv.getD v 0) ∨ ∃ j : Nat, last = (j : Int) ∧ Rea (nxP p) (-1) 0 j ∧ i ∈ sc (nxP p) j ∧ AgrN vars w (laB l j) vv

theorem jnsS_len (v : List Int) (last : Int) (srcs : List Int) : ∀ (js : List Jn) (w : List Int), (jnsS v last srcs js w).length = w.length
  | [], _ => rfl
  | j :: r, w => by rw [jnsS, jnsS_len v last srcs r, jnS_len]

/-- one block -/
theorem Bt.block (hS : Ssa vars p ts jv sw) (hB : Bt vars p.length ts jv p l t T) (hT : T ≤ 128) {i : Nat} {last : Int} {vv w row : List Int} (hi : i < p.length) (hv : vv.length = vars) (hw : w.length = 128) (hc : Came vars p l i last vv w) (hr : (frG (nxP p))[i]? = some row) :
    AgrN vars (doS (nmL l p ts jv vars t i).code (jnsS w last row (nmL l p ts jv vars t i).joins w)) (laB l i) (doS (p.getD i bk0).code vv) := by
  obtain ⟨hbl, _⟩ := hB.names hS i hi
  have hbb := hB.below hS hi
  have hh := hB.hi i hi
  unfold szB at hh
  have hrow : (frG (nxP p)).getD i [] = row := by rw [List.getD_eq_getElem?_getD, hr]; rfl
  have hok := (ckProg_at hS.ck (p_at hi)).code
  have hst : ∀ s ∈ (p.getD i bk0).code, ckStep vars vars s.op s.to s.a s.b s.v = 0 := fun s hs => by
    obtain ⟨k, hk, rfl⟩ := List.getElem_of_mem hs
    exact ckStepsF_at hok (List.getElem?_eq_getElem hk)
  have hmem : last ∈ row := by
    refine (frG_mem hr).2 ?_
    rcases hc with ⟨rfl, rfl, _⟩ | ⟨j, rfl, hj, hs, _⟩
    · exact .inl ⟨rfl, rfl⟩
    · have hw' := nxP_way hS.ck
      exact .inr ⟨j, rfl, hj.lt hw' (by have := (ckWay_bd hw').1; omega), hs⟩
  -- what the source has
  have hsrc : ∀ v, v < vars → w.getD (srcN l last v).toNat 0 = vv.getD v 0 := fun v hv => by
    unfold srcN
    rcases hc with ⟨rfl, rfl, h⟩ | ⟨j, rfl, _, _, h⟩
    · rw [if_pos rfl, Int.toNat_natCast]
      exact h v hv
    · rw [if_neg (by omega), Int.toNat_natCast]
      exact h v hv
  -- where there is no join the source's name is the one ahead
  have hno : ∀ v, v < vars → v ∉ jv.getD i [] → srcN l last v = (bef vars ts l i).getD v 0 := fun v hv hn => by
    unfold srcN
    rcases hc with ⟨rfl, rfl, _⟩ | ⟨j, rfl, hj, hs, _⟩
    · rw [if_pos rfl]
      have hz : ts.getD 0 (-1) = -1 := by
        rcases hS.tree 0 hi with ⟨d, _, hd⟩ | ⟨h, _⟩
        · exact absurd hd (no_idom_zero d)
        · exact h
      rw [bef_none hz, List.getD_eq_getElem?_getD]
      unfold ni
      rw [List.getElem?_map, List.getElem?_range hv]
      rfl
    · rw [if_neg (by omega), Int.toNat_natCast]
      have := hB.same hS hi hj hs hv hn
      show (laB l j).getD v 0 = _
      rw [List.getD_eq_getElem?_getD, this, ← List.getD_eq_getElem?_getD]
  rw [hB.la hi]
  unfold nmL
  simp only [hrow]
  have hlen : (jnsS w last row (fillZ l row (jv.getD i []) (t i)) w).length = 128 := by rw [jnsS_len, hw]
  refine cd_run hst (by rw [jnF_len]; exact hbl) hv (fun y hy => ?_) (by rw [hlen]; omega) ?_
  · rcases jnF_mem hy with h | ⟨k, hk, h⟩
    · have := hbb y h; omega
    · omega
  · refine jn_run hmem (fun v hv => hS.jl i v hv) hbl hbb (by rw [hw]; omega) (fun v hvm => hsrc v (hS.jl i v hvm)) fun u hu hun => ?_
    rw [← hno u hu hun]
    exact hsrc u hu

/-- M3: THE NAMED PROGRAM RUNS AS THE PROGRAM -/
theorem Bt.run (hS : Ssa vars p ts jv sw) (hB : Bt vars p.length ts jv p l t T) (hT : T ≤ 128) : ∀ (f i : Nat) (last : Int) (vv w : List Int), i < p.length → Rea (nxP p) (-1) 0 i → ValsOk vars vv → w.length = 128 → Came vars p l i last vv w →
    runN (fillL l (frG (nxP p)) jv) f i last w = (goP p f (i : Int) vv).map Prod.fst
  | 0, i, last, vv, w, _, _, _, _, _ => by rw [goP_zero]; rfl
  | f + 1, i, last, vv, w, hi, hr, hv, hw, hc => by
    have hlen : (fillL l (frG (nxP p)) jv).length = p.length := by rw [fillL_len, hB.len]
    obtain ⟨row, hrow⟩ := frP_get (l := fillL l (frG (nxP p)) jv) (j := i) (by rw [hlen]; exact hi)
    have hrow2 : (frG (nxP p))[i]? = some row := by
      have := hrow
      unfold frP at this
      rw [hB.bare hS] at this
      exact this
    have hA := hB.block hS hT hi hv.1 hw hc hrow2
    have hok := ckProg_at hS.ck (p_at hi)
    have hl := hB.last hS hi
    rw [runN_step (hB.fill hi) hrow, goP_step (p_at hi)]
    obtain ⟨X, hX⟩ : ∃ X, doS (nmL l p ts jv vars t i).code (jnsS w last row (nmL l p ts jv vars t i).joins w) = X := ⟨_, rfl⟩
    have hXl : X.length = 128 := by rw [← hX, doS_len, jnsS_len, hw]
    rw [hX] at hA ⊢
    have hv2 : ValsOk vars (doS (p.getD i bk0).code vv) := doS_ok hok.code hv
    obtain ⟨V, hV⟩ : ∃ V, doS (p.getD i bk0).code vv = V := ⟨_, rfl⟩
    rw [hV] at hA hv2 ⊢
    have hgo : goB (bareS (nmL l p ts jv vars t i)) X = goB (p.getD i bk0) V := by
      unfold goB bareS nmL
      simp only []
      by_cases e : (p.getD i bk0).test = -1
      · rw [if_pos e, e, if_neg (by omega), if_neg (by omega)]
      · rw [if_neg e]
        have ht : 0 ≤ (p.getD i bk0).test ∧ (p.getD i bk0).test < vars := by have := hok.test; omega
        have h0 := (hl.2 _ (getD_memS (show (p.getD i bk0).test.toNat < (laB l i).length by omega))).1
        have hag := hA (p.getD i bk0).test.toNat (by omega)
        rw [hag]
        by_cases e2 : V.getD (p.getD i bk0).test.toNat 0 = 0
        · rw [if_pos ⟨h0, e2⟩, if_pos ⟨ht.1, e2⟩]
        · rw [if_neg (fun h => e2 h.2), if_neg (fun h => e2 h.2)]
    rw [hgo]
    rcases goB_lt hok V with e | ⟨j, e, hj⟩
    · rw [if_pos e, e, goP_stop]
      simp only [Option.map_some, Option.some.injEq]
      show (laB l i).map (fun n => X.getD n.toNat 0) = V
      apply List.ext_getElem?
      intro v
      rcases Nat.lt_or_ge v vars with h | h
      · have h2 := hA v h
        have hvl : v < (laB l i).length := by omega
        have hVl : v < V.length := by rw [hv2.1]; exact h
        rw [List.getElem?_map, List.getElem?_eq_getElem hvl, List.getElem?_eq_getElem hVl]
        have hg : (laB l i).getD v 0 = (laB l i)[v] := by rw [List.getD_eq_getElem?_getD, List.getElem?_eq_getElem hvl]; rfl
        have hg2 : V.getD v 0 = V[v] := by rw [List.getD_eq_getElem?_getD, List.getElem?_eq_getElem hVl]; rfl
        rw [hg, hg2] at h2
        exact congrArg some h2
      · rw [List.getElem?_eq_none (by simp; omega), List.getElem?_eq_none (by rw [hv2.1]; exact h)]
    · have hne : goB (p.getD i bk0) V ≠ -1 := by omega
      rw [if_neg hne, e, Int.toNat_natCast]
      have hs : j ∈ sc (nxP p) i := by
        have hn : (nxP p)[i]? = some (nxB (p.getD i bk0)) := by unfold nxP; rw [List.getElem?_map, p_at hi]; rfl
        rw [sc_at hn]
        exact List.mem_map.2 ⟨_, goB_nx hok e, by simp⟩
      rw [Bt.run hS hB hT f j (i : Int) V X hj (hr.step hs (nat_ne j)) hv2 hXl (.inr ⟨i, rfl, hr, hs, hA⟩), Option.map_map]
      rfl

end

end Go.Proofs.Ytgcjknibelfjbaa

/-
  Plain: the named program made of a program is valid, and each of its names is set once, ahead of its uses (M3).
-/

namespace Go.Proofs.Ytgcjknibelfjbaa
set_option linter.unusedSimpArgs false
set_option linter.unusedVariables false

/-! ### How much there is -/

theorem manyC_same : ∀ {L : List Sg} {p : List Bk}, L.length = p.length → (∀ (i : Nat) (s : Sg) (b : Bk), L[i]? = some s → p[i]? = some b → s.code.length = b.code.length) → manyC L = manyS p
  | [], [], _, _ => rfl
  | [], _ :: _, h, _ => by simp at h
  | _ :: _, [], h, _ => by simp at h
  | s :: L, b :: p, h, hc => by
    have h1 := hc 0 s b rfl rfl
    have h2 := manyC_same (L := L) (p := p) (by simpa using h) fun i s b h1 h2 => hc (i + 1) s b (by simpa using h1) (by simpa using h2)
    simp only [manyC, manyS]
    omega

theorem manyJ_bd {m : Nat} : ∀ {L : List Sg}, (∀ s ∈ L, s.joins.length ≤ m) → manyJ L ≤ L.length * m
  | [], _ => by simp [manyJ]
  | s :: L, h => by
    have h1 := h s (List.mem_cons_self ..)
    have h2 := manyJ_bd (L := L) fun x hx => h x (List.mem_cons_of_mem _ hx)
    simp only [manyJ, List.length_cons, Nat.add_mul, Nat.one_mul]
    omega

theorem szL_perm {jv : List (List Nat)} {p : List Bk} {a b : List Nat} (h : a.Perm b) : szL jv p a = szL jv p b := by
  induction h with
  | nil => rfl
  | cons x _ ih => simp only [szL, ih]
  | swap x y l => simp only [szL]; omega
  | trans _ _ h1 h2 => rw [h1, h2]

theorem szL_bd {m : Nat} {jv : List (List Nat)} {p : List Bk} (hj : ∀ i, (jv.getD i []).length ≤ m) : ∀ (n k : Nat), k + n = p.length → szL jv p (List.range' k n) ≤ n * m + manyS (p.drop k)
  | 0, k, h => by simp [szL]
  | n + 1, k, h => by
    have hk : p[k]? = some (p.getD k bk0) := p_at (by omega)
    have h1 := szL_bd (m := m) (jv := jv) (p := p) hj n (k + 1) (by omega)
    have h2 := hj k
    rw [List.range'_succ, szL, drop_at hk, manyS]
    unfold szB
    rw [Nat.add_mul, Nat.one_mul]
    omega

theorem perm_range {n : Nat} {a : List Nat} (hd : a.Nodup) (hm : ∀ i, i ∈ a ↔ i < n) : a.Perm (List.range n) := by
  rw [List.perm_iff_count]
  intro x
  rw [hd.count, List.nodup_range.count]
  simp only [hm, List.mem_range]

/-! ### What a block over names sets -/

theorem setJ_fill {l : List Sg} {srcs : List Int} {n : Int} : ∀ {vs : List Nat} {t : Nat}, setJ n (fillZ l srcs vs t) = if (t : Int) ≤ n ∧ n < ((t + vs.length : Nat) : Int) then 1 else 0
  | [], t => by
    rw [if_neg (by simp <;> omega)]
    rfl
  | v :: r, t => by
    have ih := setJ_fill (l := l) (srcs := srcs) (n := n) (vs := r) (t := t + 1)
    have e : fillZ l srcs (v :: r) t = ⟨(t : Int), fillJ l srcs v⟩ :: fillZ l srcs r (t + 1) := rfl
    rw [e, setJ, ih]
    simp only [List.length_cons]
    by_cases h : (t : Int) = n
    · rw [if_pos h, if_neg (by omega), if_pos (by omega)]
    · rw [if_neg h]
      by_cases h2 : ((t + 1 : Nat) : Int) ≤ n ∧ n < ((t + 1 + r.length : Nat) : Int)
      · rw [if_pos h2, if_pos (by omega)]
      · rw [if_neg h2, if_neg (by omega)]

theorem setC_cd {n : Int} : ∀ {c : List St} {t : Nat} {la : List Int}, setC n (cdC c t la) = if (t : Int) ≤ n ∧ n < ((t + c.length : Nat) : Int) then 1 else 0
  | [], t, la => by
    rw [if_neg (by simp <;> omega)]
    rfl
  | s :: r, t, la => by
    have ih := setC_cd (n := n) (c := r) (t := t + 1) (la := la.set s.to.toNat (t : Int))
    rw [cdC, setC, nmS_to, ih]
    simp only [List.length_cons]
    by_cases h : (t : Int) = n
    · rw [if_pos h, if_neg (by omega), if_pos (by omega)]
    · rw [if_neg h]
      by_cases h2 : ((t + 1 : Nat) : Int) ≤ n ∧ n < ((t + 1 + r.length : Nat) : Int)
      · rw [if_pos h2, if_pos (by omega)]
      · rw [if_neg h2, if_neg (by omega)]

theorem cdC_take : ∀ {c : List St} {t : Nat} {la : List Int} {k : Nat}, (cdC c t la).take k = cdC (c.take k) t la
  | _, _, _, 0 => by simp [cdC]
  | [], _, _, k + 1 => by simp [cdC]
  | s :: r, t, la, k + 1 => by simp only [cdC, List.take_succ_cons, cdC_take (c := r)]

theorem fillZ_at {l : List Sg} {srcs : List Int} : ∀ {vs : List Nat} {t k : Nat} {j : Jn}, (fillZ l srcs vs t)[k]? = some j → ∃ v, vs[k]? = some v ∧ j = ⟨((t + k : Nat) : Int), fillJ l srcs v⟩
  | [], t, k, j, h => by simp [fillZ, jnT] at h
  | v :: r, t, 0, j, h => by
    have e : fillZ l srcs (v :: r) t = ⟨(t : Int), fillJ l srcs v⟩ :: fillZ l srcs r (t + 1) := rfl
    rw [e] at h
    simp at h
    exact ⟨v, rfl, h.symm⟩
  | v :: r, t, k + 1, j, h => by
    have e : fillZ l srcs (v :: r) t = ⟨(t : Int), fillJ l srcs v⟩ :: fillZ l srcs r (t + 1) := rfl
    rw [e] at h
    obtain ⟨u, h1, h2⟩ := fillZ_at (vs := r) (t := t + 1) (k := k) (j := j) (by simpa using h)
    refine ⟨u, by simpa using h1, ?_⟩
    rw [h2]
    congr 2
    omega

theorem fillZ_len (l : List Sg) (srcs : List Int) (vs : List Nat) (t : Nat) : (fillZ l srcs vs t).length = vs.length := by
  unfold fillZ
  rw [List.length_zipWith, jnT_len, Nat.min_self]

theorem setAll_zero {n : Int} : ∀ {L : List Sg}, (∀ (i : Nat) (s : Sg), L[i]? = some s → setN s n s.code.length = 0) → setAll n L = 0
  | [], _ => rfl
  | s :: L, h => by
    rw [setAll, h 0 s rfl, setAll_zero fun i x hx => h (i + 1) x (by simpa using hx)]

theorem setAll_one {n : Int} : ∀ {L : List Sg}, (∀ (i : Nat) (s : Sg), L[i]? = some s → setN s n s.code.length ≤ 1) → (∀ (i j : Nat) (s u : Sg), L[i]? = some s → L[j]? = some u → 0 < setN s n s.code.length → 0 < setN u n u.code.length → i = j) → setAll n L ≤ 1
  | [], _, _ => by simp [setAll]
  | s :: L, h1, h2 => by
    rw [setAll]
    have h3 := h1 0 s rfl
    by_cases e : setN s n s.code.length = 0
    · rw [e, Nat.zero_add]
      exact setAll_one (fun i x hx => h1 (i + 1) x (by simpa using hx)) fun i j x y hx hy a b => by
        have := h2 (i + 1) (j + 1) x y (by simpa using hx) (by simpa using hy) a b
        omega
    · have hz : setAll n L = 0 := setAll_zero fun i x hx => by
        refine Classical.byContradiction fun h4 => ?_
        have := h2 0 (i + 1) s x rfl (by simpa using hx) (by omega) (by omega)
        omega
      omega

section
variable {vars : Nat} {p : List Bk} {ts : List Int} {jv : List (List Nat)} {sw : Nat → Nat} {l : List Sg} {t : Nat → Nat} {T : Nat}

/-- where it is set: at the steps below k, or at joins -/
theorem nmL_set {n : Int} {i k : Nat} (hk : k ≤ (p.getD i bk0).code.length) : setN (nmL l p ts jv vars t i) n k = if (t i : Int) ≤ n ∧ n < ((t i + (jv.getD i []).length + k : Nat) : Int) then 1 else 0 := by
  unfold setN nmL
  simp only [cdC_take]
  rw [setJ_fill, setC_cd, List.length_take, Nat.min_eq_left hk]
  by_cases h : (t i : Int) ≤ n ∧ n < ((t i + (jv.getD i []).length : Nat) : Int)
  · rw [if_pos h, if_neg (by omega), if_pos (by omega)]
  · rw [if_neg h]
    by_cases h2 : ((t i + (jv.getD i []).length : Nat) : Int) ≤ n ∧ n < ((t i + (jv.getD i []).length + k : Nat) : Int)
    · rw [if_pos h2, if_pos (by omega)]
    · rw [if_neg h2, if_neg (by omega)]

theorem nmL_code {i : Nat} : (nmL l p ts jv vars t i).code.length = (p.getD i bk0).code.length := by
  unfold nmL
  exact cdC_len ..

theorem nmL_all {n : Int} {i : Nat} : setN (nmL l p ts jv vars t i) n (nmL l p ts jv vars t i).code.length = if (t i : Int) ≤ n ∧ n < ((t i + szB jv p i : Nat) : Int) then 1 else 0 := by
  rw [nmL_code, nmL_set (Nat.le_refl _)]
  unfold szB
  rw [Nat.add_assoc]

/-- names ahead of a step of a block may be used there -/
theorem Bt.avail (hS : Ssa vars p ts jv sw) (hB : Bt vars p.length ts jv p l t T) {i k : Nat} (hi : i < p.length) (hk : k ≤ (p.getD i bk0).code.length) {x : Int}
    (hx : x ∈ cdF ((p.getD i bk0).code.take k) (t i + (jv.getD i []).length) (jnF (jv.getD i []) (t i) (bef vars ts l i))) : Av vars (fillL l (frG (nxP p)) jv) x (i : Int) k := by
  have hgi : ∀ j, j < p.length → (fillL l (frG (nxP p)) jv).getD j sg0 = nmL l p ts jv vars t j := fun j hj => by
    rw [List.getD_eq_getElem?_getD, hB.fill hj]
    rfl
  have inn : ∀ y : Int, (t i : Int) ≤ y → y < ((t i + (jv.getD i []).length + k : Nat) : Int) → Av vars (fillL l (frG (nxP p)) jv) y (i : Int) k := fun y h1 h2 => by
    refine .inr ⟨by omega, .inl ?_⟩
    rw [Int.toNat_natCast, hgi i hi, nmL_set hk, if_pos ⟨h1, h2⟩]
    omega
  rcases cdF_mem hx with h | ⟨m, hm, rfl⟩
  · rcases jnF_mem h with h | ⟨m, hm, rfl⟩
    · rcases (hB.names hS i hi).2 x h with h | ⟨d, hd, hne, hdom, h1, h2, _⟩
      · exact .inl h.2
      · refine .inr ⟨by omega, .inr ⟨d, by rw [Int.toNat_natCast]; exact hne, ?_, ?_⟩⟩
        · rw [Int.toNat_natCast, hB.bare hS]
          exact hdom
        · rw [hgi d hd, nmL_all, if_pos ⟨h1, h2⟩]
          omega
    · exact inn _ (by omega) (by omega)
  · rw [List.length_take] at hm
    exact inn _ (by omega) (by omega)

theorem Bt.availL (hS : Ssa vars p ts jv sw) (hB : Bt vars p.length ts jv p l t T) {i : Nat} (hi : i < p.length) {x : Int} (hx : x ∈ laB l i) : Av vars (fillL l (frG (nxP p)) jv) x (i : Int) (p.getD i bk0).code.length := by
  refine hB.avail hS hi (Nat.le_refl _) ?_
  rw [List.take_of_length_le (Nat.le_refl _), ← hB.la hi]
  exact hx

/-- Last so far has a name for each variable -/
theorem Bt.lenF (hS : Ssa vars p ts jv sw) (hB : Bt vars p.length ts jv p l t T) {i : Nat} (hi : i < p.length) (c : List St) (T0 : Nat) : (cdF c T0 (jnF (jv.getD i []) (t i) (bef vars ts l i))).length = vars := by
  rw [cdF_len, jnF_len]
  exact (hB.names hS i hi).1

theorem getD_memT {xs : List Int} {x : Int} {n : Nat} (hl : xs.length = n) (h0 : 0 ≤ x) (h1 : x < n) : xs.getD x.toNat 0 ∈ xs := getD_memS (by omega)

/-- M3: EACH NAME IS SET ONCE, AHEAD OF ITS USES -/
theorem Bt.once (hS : Ssa vars p ts jv sw) (hB : Bt vars p.length ts jv p l t T) : OnP vars (fillL l (frG (nxP p)) jv) := by
  have hlen : (fillL l (frG (nxP p)) jv).length = p.length := by rw [fillL_len, hB.len]
  have hat : ∀ (i : Nat) (s : Sg), (fillL l (frG (nxP p)) jv)[i]? = some s → i < p.length ∧ s = nmL l p ts jv vars t i := fun i s h => by
    have hi : i < p.length := by rw [← hlen]; exact (List.getElem?_eq_some_iff.1 h).1
    rw [hB.fill hi] at h
    injection h with h
    exact ⟨hi, h.symm⟩
  refine ⟨fun n h0 h128 => ?_, fun i s hs hr => ?_⟩
  · by_cases hn : n < vars
    · have hz : setAll n (fillL l (frG (nxP p)) jv) = 0 := setAll_zero fun i s h => by
        obtain ⟨hi, rfl⟩ := hat i s h
        have := hB.lo i hi
        rw [nmL_all, if_neg (by omega)]
      rw [if_pos hn, hz]
      exact Nat.le_refl _
    · rw [if_neg hn, Nat.zero_add]
      refine setAll_one (fun i s h => ?_) fun i j s u h h2 => ?_
      · obtain ⟨hi, rfl⟩ := hat i s h
        rw [nmL_all]
        split <;> omega
      · obtain ⟨hi, rfl⟩ := hat i s h
        obtain ⟨hj, rfl⟩ := hat j u h2
        rw [nmL_all, nmL_all]
        intro h3 h4
        refine Classical.byContradiction fun hne => ?_
        split at h3
        · split at h4
          · have := hB.dis i j hi hj hne
            omega
          · omega
        · omega
  · obtain ⟨hi, rfl⟩ := hat i s hs
    have hok := ckProg_at hS.ck (p_at hi)
    have hlast : ∀ n ∈ laB l i, Av vars (fillL l (frG (nxP p)) jv) n (i : Int) (nmL l p ts jv vars t i).code.length := fun n hn => by
      rw [nmL_code]
      exact hB.availL hS hi hn
    refine ⟨fun j hj k f n hf hn => ?_, fun k st hk => ?_, fun h => ?_, hlast⟩
    · obtain ⟨m, hm, rfl⟩ := List.getElem_of_mem hj
      obtain ⟨v, hv, e⟩ := fillZ_at (List.getElem?_eq_getElem hm)
      rw [e] at hn
      have hvv : v < vars := hS.jl i v (List.mem_of_getElem? hv)
      have hrow : (frP (fillL l (frG (nxP p)) jv)).getD i [] = (frG (nxP p)).getD i [] := by
        unfold frP
        rw [hB.bare hS]
      rw [hrow] at hf
      have hfn : n = if f = -1 then (v : Int) else (l.getD f.toNat sg0).last.getD v 0 := by
        simp only [fillJ, List.getElem?_map, hf, Option.map_some, Option.some.injEq] at hn
        exact hn.symm
      obtain ⟨row, hr2⟩ : ∃ row, (frG (nxP p))[i]? = some row := ⟨_, List.getElem?_eq_getElem (by rw [frG_len, nx_len]; exact hi)⟩
      have hgr : (frG (nxP p)).getD i [] = row := by rw [List.getD_eq_getElem?_getD, hr2]; rfl
      rw [hgr] at hf
      rcases (frG_mem hr2).1 (List.mem_of_getElem? hf) with ⟨_, rfl⟩ | ⟨q, rfl, hq, _⟩
      · right
        rw [hfn, if_pos rfl]
        exact .inl (by omega)
      · have hql : q < p.length := by rw [← nx_len p]; exact hq
        right
        rw [hfn, if_neg (by omega), if_pos (by omega), Int.toNat_natCast]
        have hg : (fillL l (frG (nxP p)) jv).getD q sg0 = nmL l p ts jv vars t q := by
          rw [List.getD_eq_getElem?_getD, hB.fill hql]
          rfl
        rw [hg, nmL_code]
        refine hB.availL hS hql ?_
        exact getD_memS (by have := (hB.last hS hql).1; omega)
    · have hcl : k < (p.getD i bk0).code.length := by
        have := (List.getElem?_eq_some_iff.1 hk).1
        rwa [nmL_code] at this
      have hck : (p.getD i bk0).code[k]? = some (p.getD i bk0).code[k] := List.getElem?_eq_getElem hcl
      have hst := ckStepsF_at hok.code hck
      have h1 := cdC_at (t := t i + (jv.getD i []).length) (la := jnF (jv.getD i []) (t i) (bef vars ts l i)) hck
      have h2 : st = nmS (p.getD i bk0).code[k] (t i + (jv.getD i []).length + k) (cdF ((p.getD i bk0).code.take k) (t i + (jv.getD i []).length) (jnF (jv.getD i []) (t i) (bef vars ts l i))) := by
        have h3 : (nmL l p ts jv vars t i).code[k]? = some st := hk
        unfold nmL at h3
        simp only [] at h3
        rw [h1] at h3
        injection h3 with h3
        exact h3.symm
      have hl := hB.lenF hS hi ((p.getD i bk0).code.take k) (t i + (jv.getD i []).length)
      obtain ⟨F, hF⟩ : ∃ F, cdF ((p.getD i bk0).code.take k) (t i + (jv.getD i []).length) (jnF (jv.getD i []) (t i) (bef vars ts l i)) = F := ⟨_, rfl⟩
      have hav : ∀ x ∈ F, Av vars (fillL l (frG (nxP p)) jv) x (i : Int) k := fun x hx => hB.avail hS hi (Nat.le_of_lt hcl) (hF ▸ hx)
      rw [hF] at h2 hl
      obtain ⟨_, hc⟩ := ckStep_cases hst
      subst h2
      unfold nmS
      refine ⟨fun ho => ?_, fun ho => ?_⟩
      · split at ho
        · simp at ho
        · rename_i e1
          rw [if_neg e1]
          split at ho
          · rename_i e2
            rw [if_pos e2]
            exact hav _ (getD_memT hl (by omega) (by omega))
          · rename_i e2
            exact absurd ho e2
      · split at ho
        · simp at ho
        · rename_i e1
          rw [if_neg e1]
          split at ho
          · simp at ho
          · rename_i e2
            rw [if_neg e2]
            exact ⟨hav _ (getD_memT hl (by omega) (by omega)), hav _ (getD_memT hl (by omega) (by omega))⟩
    · unfold nmL at h ⊢
      simp only [] at h ⊢
      split at h
      · omega
      · rename_i e
        rw [if_neg e]
        have ht := hok.test
        exact hlast _ (getD_memT (hB.last hS hi).1 (by omega) (by omega))

theorem nmsOk_of {l : List Int} (h : ∀ x ∈ l, 0 ≤ x ∧ x < 128) : nmsOk l = true := List.all_eq_true.2 fun x hx => isNm_iff.2 (h x hx)

theorem ckStN_nm {vars t : Nat} {s : St} {F : List Int} (hs : ckStep vars vars s.op s.to s.a s.b s.v = 0) (hl : F.length = vars) (hF : ∀ x ∈ F, 0 ≤ x ∧ x < 128) (ht : t < 128) : ckStN (nmS s t F) = 0 := by
  obtain ⟨_, hc⟩ := ckStep_cases hs
  unfold nmS
  split
  · unfold ckStN
    simp only []
    rw [if_neg (by omega), if_neg (by omega), if_neg (by omega)]
  · split
    · have := hF _ (getD_memT hl (x := s.v) (by omega) (by omega))
      unfold ckStN
      simp only []
      rw [if_neg (by omega), if_neg (by omega), if_neg (by omega)]
    · have h1 := hF _ (getD_memT hl (x := s.a) (by omega) (by omega))
      have h2 := hF _ (getD_memT hl (x := s.b) (by omega) (by omega))
      unfold ckStN
      simp only []
      rw [if_neg (by omega), if_neg (by omega), if_neg (by omega)]

/-- M3: IT IS VALID -/
theorem Bt.valid (hS : Ssa vars p ts jv sw) (hB : Bt vars p.length ts jv p l t T) (hT : T ≤ 128) : ckSingle vars (fillL l (frG (nxP p)) jv) = 0 := by
  have hlen : (fillL l (frG (nxP p)) jv).length = p.length := by rw [fillL_len, hB.len]
  have hat : ∀ (i : Nat) (s : Sg), (fillL l (frG (nxP p)) jv)[i]? = some s → i < p.length ∧ s = nmL l p ts jv vars t i := fun i s h => by
    have hi : i < p.length := by rw [← hlen]; exact (List.getElem?_eq_some_iff.1 h).1
    rw [hB.fill hi] at h
    injection h with h
    exact ⟨hi, h.symm⟩
  obtain ⟨c1, c2, c3, c4, c5, _⟩ := ckProg_bd hS.ck
  have hC : manyC (fillL l (frG (nxP p)) jv) = manyS p := manyC_same hlen fun i s b h h2 => by
    obtain ⟨hi, rfl⟩ := hat i s h
    rw [p_at hi] at h2
    injection h2 with h2
    rw [nmL_code, h2]
  have hJ : manyJ (fillL l (frG (nxP p)) jv) ≤ 8 * 6 := by
    have := manyJ_bd (m := 6) (L := fillL l (frG (nxP p)) jv) fun s hs => by
      obtain ⟨i, hi, rfl⟩ := List.getElem_of_mem hs
      obtain ⟨hi2, e⟩ := hat i _ (List.getElem?_eq_getElem hi)
      rw [e]
      show (fillZ l _ (jv.getD i []) (t i)).length ≤ 6
      rw [fillZ_len]
      have := nodup_len (n := vars) (hS.jn i) fun x hx => hS.jl i x hx
      omega
    rw [hlen] at this
    have h8 : p.length * 6 ≤ 8 * 6 := Nat.mul_le_mul_right 6 c4
    omega
  have hF : ckForms vars (fillL l (frG (nxP p)) jv).length (fillL l (frG (nxP p)) jv) = 0 := ckForms_of fun s hs => by
    obtain ⟨i, hi, rfl⟩ := List.getElem_of_mem hs
    obtain ⟨hi2, e⟩ := hat i _ (List.getElem?_eq_getElem hi)
    rw [e, hlen]
    have hok := ckProg_at hS.ck (p_at hi2)
    obtain ⟨h1, h2⟩ := hB.last hS hi2
    have ht := hok.test
    have hth := hok.th
    have hel := hok.el
    unfold frmBad nmL
    simp only []
    by_cases e2 : (p.getD i bk0).test = -1
    · rw [if_pos e2]
      omega
    · rw [if_neg e2]
      have := (h2 _ (getD_memT h1 (x := (p.getD i bk0).test) (by omega) (by omega))).1
      omega
  have hG : ckSgs (frP (fillL l (frG (nxP p)) jv)) (fillL l (frG (nxP p)) jv) = 0 := ckSgs_of fun i f s hf hs => by
    obtain ⟨hi, rfl⟩ := hat i s hs
    have hok := ckProg_at hS.ck (p_at hi)
    obtain ⟨h1, h2⟩ := hB.last hS hi
    have hh := hB.hi i hi
    unfold szB at hh
    have hrow : (frG (nxP p))[i]? = some f := by
      have := hf
      unfold frP at this
      rwa [hB.bare hS] at this
    have hgr : (frG (nxP p)).getD i [] = f := by rw [List.getD_eq_getElem?_getD, hrow]; rfl
    have k1 : ckJns f.length (nmL l p ts jv vars t i).joins = 0 := ckJns_of fun j hj => by
      obtain ⟨m, hm, rfl⟩ := List.getElem_of_mem hj
      obtain ⟨v, hv, e⟩ := fillZ_at (List.getElem?_eq_getElem hm)
      have hvv : v < vars := hS.jl i v (List.mem_of_getElem? hv)
      have hml : m < (jv.getD i []).length := (List.getElem?_eq_some_iff.1 hv).1
      rw [e, hgr]
      have hfr : nmsOk (fillJ l f v) = true := nmsOk_of fun x hx => by
        obtain ⟨g, hg, rfl⟩ := List.mem_map.1 hx
        rcases (frG_mem hrow).1 hg with ⟨_, rfl⟩ | ⟨q, rfl, hq, _⟩
        · rw [if_pos rfl]
          omega
        · have hql : q < p.length := by rw [← nx_len p]; exact hq
          obtain ⟨g1, g2⟩ := hB.last hS hql
          rw [if_neg (by omega), Int.toNat_natCast]
          have := g2 _ (getD_memS (show v < (laB l q).length by omega))
          show 0 ≤ (laB l q).getD v 0 ∧ (laB l q).getD v 0 < 128
          omega
      unfold ckJn
      rw [if_neg (by simp [fillJ]), if_pos ⟨isNm_iff.2 (by simp only []; omega), hfr⟩]
    have k2 : ckStNs (nmL l p ts jv vars t i).code = 0 := ckStNs_of fun s hs => by
      obtain ⟨k, hk, rfl⟩ := List.getElem_of_mem hs
      have hcl : k < (p.getD i bk0).code.length := by rwa [nmL_code] at hk
      have hck : (p.getD i bk0).code[k]? = some (p.getD i bk0).code[k] := List.getElem?_eq_getElem hcl
      have hst := ckStepsF_at hok.code hck
      have e1 := cdC_at (t := t i + (jv.getD i []).length) (la := jnF (jv.getD i []) (t i) (bef vars ts l i)) hck
      have e2 : (nmL l p ts jv vars t i).code[k]? = some (nmS (p.getD i bk0).code[k] (t i + (jv.getD i []).length + k) (cdF ((p.getD i bk0).code.take k) (t i + (jv.getD i []).length) (jnF (jv.getD i []) (t i) (bef vars ts l i)))) := e1
      rw [List.getElem?_eq_getElem hk] at e2
      injection e2 with e2
      rw [e2]
      refine ckStN_nm hst (hB.lenF hS hi _ _) (fun x hx => ?_) (by omega)
      rcases cdF_mem hx with h | ⟨m, hm, rfl⟩
      · rcases jnF_mem h with h | ⟨m, hm, rfl⟩
        · have := hB.below hS hi x h
          omega
        · omega
      · rw [List.length_take] at hm
        omega
    have k3 : nmsOk (nmL l p ts jv vars t i).last = true := nmsOk_of fun x hx => by
      have := h2 x hx
      omega
    have k4 : (nmL l p ts jv vars t i).test < 128 := by
      unfold nmL
      simp only []
      split
      · omega
      · rename_i e
        have ht := hok.test
        have := h2 _ (getD_memT h1 (x := (p.getD i bk0).test) (by omega) (by omega))
        omega
    unfold ckSg1
    rw [if_neg (fun h => h k1), if_neg (fun h => h k2), if_pos ⟨k4, k3⟩]
  unfold ckSingle
  rw [if_neg (by omega), if_neg (fun h => h hF)]
  exact hG

end

end Go.Proofs.Ytgcjknibelfjbaa

/-
  Plain: the blocks named in turn, those that are reached first, each behind its dominators (M3).
-/

namespace Go.Proofs.Ytgcjknibelfjbaa
set_option linter.unusedSimpArgs false
set_option linter.unusedVariables false

/-- the blocks in turn: those that are reached first -/
def ordS (nx : List (List Int)) : List Nat := (finL nx).reverse ++ (List.range nx.length).filter fun i => decide (i ∉ finL nx)

section
variable {nx : List (List Int)} (hc : ckWay nx = 0)
include hc

theorem ordS_mem (i : Nat) : i ∈ ordS nx ↔ i < nx.length := by
  unfold ordS
  rw [List.mem_append, List.mem_reverse, List.mem_filter, List.mem_range, decide_eq_true_eq]
  constructor
  · rintro (h | h)
    · exact fin_lt hc h
    · exact h.1
  · intro h
    by_cases e : i ∈ finL nx
    · exact .inl e
    · exact .inr ⟨h, e⟩

theorem ordS_nodup : (ordS nx).Nodup := by
  unfold ordS
  rw [List.nodup_append]
  refine ⟨List.pairwise_reverse.2 ((fin_nodup hc).imp Ne.symm), List.nodup_range.sublist List.filter_sublist, fun a ha b hb e => ?_⟩
  subst e
  rw [List.mem_filter, decide_eq_true_eq] at hb
  exact hb.2 (List.mem_reverse.1 ha)

/-- a block's immediate dominator stands ahead of it -/
theorem ordS_par {ts : List Int} (ht : ∀ i, i < nx.length → TreeAt nx i (ts.getD i (-1))) {a b : List Nat} {i : Nat} (h : ordS nx = a ++ i :: b) : ts.getD i (-1) = -1 ∨ ∃ d : Nat, d ∈ a ∧ ts.getD i (-1) = d := by
  have hi : i < nx.length := (ordS_mem hc i).1 (by rw [h]; simp)
  rcases ht i hi with ⟨d, hd, hid⟩ | ⟨hd, _⟩
  · right
    refine ⟨d, ?_, hd⟩
    have hre : i ∈ finL nx := (fin_mem hc).2 hid.2.1.2.1
    unfold ordS at h
    rcases app_cons h with ⟨q, h1, _⟩ | ⟨p', h1, h2⟩
    · exact rev_dom hc hid.2.1 hid.1 h1
    · exfalso
      have : i ∈ (List.range nx.length).filter fun i => decide (i ∉ finL nx) := by rw [h1]; simp
      rw [List.mem_filter, decide_eq_true_eq] at this
      exact this.2 hre
  · exact .inl hd

end

/-- M3: WHAT IS BUILT -/
theorem build_bt {vars : Nat} {p : List Bk} {ts : List Int} {jv : List (List Nat)} {sw : Nat → Nat} {l0 : List Sg} (hS : Ssa vars p ts jv sw) (hl : l0.length = p.length) :
    ∃ t T, T ≤ 128 ∧ (bldF vars ts jv p (ordS (nxP p)) l0 vars).2 = T ∧ Bt vars p.length ts jv p (bldF vars ts jv p (ordS (nxP p)) l0 vars).1 t T := by
  have hw : ckWay (nxP p) = 0 := nxP_way hS.ck
  obtain ⟨c1, c2, c3, c4, c5, _⟩ := ckProg_bd hS.ck
  have hn := nx_len p
  have hm : ∀ i, i ∈ ordS (nxP p) ↔ i < p.length := fun i => by rw [ordS_mem hw, hn]
  have hnd := ordS_nodup hw
  obtain ⟨g1, g2, t, g3, g4⟩ := bldF_spec (vars := vars) (n := p.length) (ts := ts) (jv := jv) (p := p) (ordS (nxP p)) [] l0 vars (by simpa using hnd) (fun i hi => (hm i).1 (by simpa using hi)) hl
    (fun a i b h => ordS_par hw (fun i hi => hS.tree i (by rw [← hn]; exact hi)) (by simpa using h))
    ⟨fun _ => 0, Nat.le_refl _, fun i hi => by simp at hi, fun i j hi => by simp at hi⟩
  simp only [List.nil_append] at g3 g4
  have hT : szL jv p (ordS (nxP p)) ≤ 68 := by
    rw [szL_perm (perm_range hnd hm), List.range_eq_range']
    have := szL_bd (m := 6) (jv := jv) (p := p) (fun i => by
      have := nodup_len (n := vars) (hS.jn i) fun x hx => hS.jl i x hx
      omega) p.length 0 (by omega)
    rw [List.drop_zero] at this
    have h8 : p.length * 6 ≤ 8 * 6 := Nat.mul_le_mul_right 6 c4
    omega
  refine ⟨t, _, by omega, g2, g1, fun i hi => (g3 i ((hm i).2 hi)).1, fun i hi => (g3 i ((hm i).2 hi)).2.1, fun i hi => (g3 i ((hm i).2 hi)).2.2.1, fun i j hi hj hne => g4 i j ((hm i).2 hi) ((hm j).2 hj) hne, fun i hi => ?_⟩
  rcases (g3 i ((hm i).2 hi)).2.2.2 with h | ⟨d, hd, h1, h2⟩
  · exact .inl h
  · exact .inr ⟨d, (hm d).1 hd, h1, h2⟩

end Go.Proofs.Ytgcjknibelfjbaa
