/-
  need.appendCode: a tree's register code, appended (B2).
-/
import Derived.Test.YtfbpalgeajgbhaaTree2
import Derived.Maps.Range
namespace Go.Proofs.Ytfbpalgeajgbhaa
open Go.RowKit
set_option linter.unusedSimpArgs false
set_option linter.unusedVariables false
set_option maxRecDepth 100000

/-- the steps of term i in register 'to' -/
def emL (l : List Tm) (i to : Nat) : List St := emitL l (i + 1) i to

theorem emL_leaf {l : List Tm} {i to : Nat} {t : Tm} (h : l[i]? = some t) (ho : t.op < 3) : emL l i to = [⟨t.op, to, 0, 0, t.v⟩] := by
  unfold emL
  simp only [emitL, getD_some h]
  rw [if_pos ho]

theorem emL_op {vars : Int} {l : List Tm} {i to : Nat} {t : Tm} (hc : ckTerms vars l = 0) (h : l[i]? = some t) (ho : 3 ≤ t.op) :
    emL l i to = if ndA l t.b.toNat ≤ ndA l t.a.toNat then emL l t.a.toNat to ++ emL l t.b.toNat (to + 1) ++ [⟨t.op, to, to, (to : Int) + 1, 0⟩]
      else emL l t.b.toNat to ++ emL l t.a.toNat (to + 1) ++ [⟨t.op, to, (to : Int) + 1, to, 0⟩] := by
  have hi := (List.getElem?_eq_some_iff.1 h).1
  have hcs := ckTerm_cases (ckTerms_at hc h)
  have h1 : t.a.toNat < i := by omega
  have h2 : t.b.toNat < i := by omega
  have hno : ¬ t.op < 3 := by omega
  have e1 := fun to => emit_fuel hc t.a.toNat (by omega) i (t.a.toNat + 1) to (by omega) (by omega)
  have e2 := fun to => emit_fuel hc t.b.toNat (by omega) i (t.b.toNat + 1) to (by omega) (by omega)
  unfold emL
  rw [emitL]
  simp only [getD_some h, if_neg hno, e1, e2]

theorem codeL_em {l : List Tm} (h : 0 < l.length) : codeL l = emL l (l.length - 1) 0 := by
  unfold codeL emL
  rw [show l.length - 1 + 1 = l.length from by omega]

theorem step_app : AppTy Try.prog 22 62 5 40 := appTy_of (z := .agg #[.int .i64 0, .int .i64 0, .int .i64 0, .int .i64 0, .int .i64 0]) Try.underlying22 (by kernel_rfl) rfl (by omega)

/-- where a slice's block comes from -/
def Prov (w : World) (v v' : Value) : Prop := ∀ k, v'.ownBlock = some k → w.heap.size ≤ k ∨ v.ownBlock = some k

theorem Prov.refl (w : World) (v : Value) : Prov w v v := fun _ h => .inr h

theorem Prov.trans {w w1 : World} {v v1 v2 : Value} (h : Prov w v v1) (hs : w.heap.size ≤ w1.heap.size) (h2 : Prov w1 v1 v2) : Prov w v v2 := fun k hk => by
  rcases h2 k hk with h3 | h3
  · exact .inl (by omega)
  · exact h k h3

theorem Prov.grow {w w1 w2 : World} {v v1 : Value} (h : Prov w v v1) (hg : w.grownBy w1 v.ownBlock) (hg2 : w1.grownBy w2 v1.ownBlock) : w.grownBy w2 v.ownBlock :=
  hg.andThen hg2 fun j hj => h j hj

/-- a block of the call's own that the slice has not -/
theorem Prov.far {w : World} {v v1 : Value} {g : Nat} (h : Prov w v v1) (hg : g < w.heap.size) (hv : some g ≠ v.ownBlock) : some g ≠ v1.ownBlock := fun e => by
  rcases h g e.symm with h3 | h3
  · omega
  · exact hv h3.symm

/-- steps appended -/
def Emitted (base : Nat) (A : Option Addr) (n c m : Nat) (cs : List St) (w : World) (e : Ending) (w' : World) : Prop :=
  ∃ A' c', e = .returned (.slice A' (n + m) c') ∧ w'.ownsRow base 62 5 (.slice A' (n + m) c') (n + m) (rv cSt cs) ∧ w.grownBy w' (Value.slice A n c).ownBlock ∧ Prov w (.slice A n c) (.slice A' (n + m) c')

theorem cellsS_at {X : World} {k : Nat} (hk : k = X.heap.size) (s : St) (cs : Array Value) (hcs : cs = (cSt s).toArray) (t : TypeId) : ∀ ad : Addr, some (⟨k, 0, none⟩ : Addr) = some ad → ∀ j u, (cSt s)[j]? = some u → (X.alloc (.cells cs t)).cell? (ad.add j) = some u := by
  subst hcs
  exact cells_at hk (cSt s) t

theorem own_ne {w : World} {base : Nat} {e : TypeId} {size : Nat} {v : Value} {n : Nat} {xs : List Value} (h : w.ownsRow base e size v n xs) {g : Nat} (hg : w.heap.size ≤ g) : some g ≠ v.ownBlock := fun he => by
  have := (h.lt g he.symm).2
  omega

theorem ndL_at {l : List Tm} {i : Nat} (h : i < l.length) : (ni (ndL l))[i]? = some (ndA l i : Int) := by
  have hl : i < (ndL l).length := by rw [ndL_len]; exact h
  rw [ni_at (List.getElem?_eq_getElem hl)]
  unfold ndA
  rw [List.getD_eq_getElem?_getD, List.getElem?_eq_getElem hl, Option.getD_some]

set_option maxHeartbeats 4000000 in
theorem appendCode_any (vars : Int) (lA nA : Option Addr) (lcap ncap : Nat) (l : List Tm) (hc : ckTerms vars l = 0) (base : Nat) : ∀ i, i < l.length → ∀ (to : Nat) (A : Option Addr) (n c m : Nat) (cs : List St) (w : World),
    w.ownsRow base 62 5 (.slice A n c) n (rv cSt cs) → base ≤ w.heap.size → RdT w base lA l → RdI w base nA (ni (ndL l)) → (emL l i to).length = m → n + m ≤ 65536 → to + i ≤ 65536 →
    Calls Try.prog 37 #[.slice A n c, .slice lA l.length lcap, .slice nA l.length ncap, .int .i64 (i : Nat), .int .i64 (to : Nat)] w fun e w' => Emitted base A n c m (cs ++ emL l i to) w e w' := by
  refine tm_ind hc (fun i t h ho => ?_) fun i t h ho h1 h2 h3 h4 => ?_
  · intro to A n c m cs w hown hbase hx hn hm hnm hto
    have hi := (List.getElem?_eq_some_iff.1 h).1
    obtain ⟨ad, o, a, b, v, rfl, hbl, hd, hc0, hc1, hc2, hc3⟩ := hx.at_ (k := i) hi
    rw [h] at hd
    injection hd with hd
    subst hd
    have HE := Lib.hid (emL_leaf (to := to) h ho)
    have hm1 : m = 1 := by rw [← hm, HE.out]; rfl
    subst hm1
    simp only [] at ho
    have hlf : leafB' o = true := by
      have hcs := ckTerm_cases (ckTerms_at hc h)
      simp only [] at hcs
      unfold leafB'; simp; omega
    have hblw : (ad.add (i * 4)).block < w.heap.size := by omega
    have h63 : n + 1 ≤ maxLen := by unfold maxLen; omega
    have hbig : (n + 1) * 40 ≤ 140737488355328 := by omega
    clear h hx hn hm hc
    generalize l.length = len at *
    go_enter Try.func37, Try.ntmps37
    go_wp2_with (first
      | (go_at_call 53; (with_reducible refine (isLeaf_any _ _).mono ?_); rintro e w1 ⟨rfl, rfl⟩)
      | (at_builtin; refine wpList_app' rfl (.tmp 19) (.tmp 26) 22 rfl base 62 5 40 step_app (rv cSt cs) rfl (own_below hown (by go_grown)) (cSt ⟨o, to, 0, 0, v⟩) rfl rfl (fun h => by cases h) (cellsS_at (by simp) ⟨o, to, 0, 0, v⟩ _ rfl _) (cSt_one _) h63 hbig (by simp; omega) ?_; intro A4 c4 w4 hown4 hg4 hb4 hk4))
    go_ret
    refine ⟨A4, c4, rfl, by rw [HE.out, rv_append, rv_one]; exact hown4, ?_, ?_⟩
    · exact (((grown_alloc w _ _).andThen (grown_alloc _ _ _) fun j hj => .inr hj).andThen hg4 fun j hj => .inr hj)
    · intro k hk
      rcases hk4 with hk4 | hk4
      · rw [hk4] at hk; exact .inr hk
      · rw [hk4] at hk; injection hk with hk; exact .inl (by simp at hk; omega)
  · intro to A n c m cs w hown hbase hx hn hm hnm hto
    have hi := (List.getElem?_eq_some_iff.1 h).1
    obtain ⟨ad, o, a, b, v, rfl, hbl, hd, hc0, hc1, hc2, hc3⟩ := hx.at_ (k := i) hi
    rw [h] at hd
    injection hd with hd
    subst hd
    have HE := Lib.hid (emL_op (to := to) hc h ho)
    have hcs := ckTerm_cases (ckTerms_at hc h)
    simp only [] at ho h1 h2 h3 h4 hcs HE
    obtain ⟨ha0, ha1, hb0, hb1⟩ : 0 ≤ a ∧ a < i ∧ 0 ≤ b ∧ b < i := by omega
    obtain ⟨an, rfl⟩ := Int.eq_ofNat_of_zero_le ha0
    obtain ⟨bn, rfl⟩ := Int.eq_ofNat_of_zero_le hb0
    simp only [Int.toNat_natCast] at h1 h2 h3 h4 HE
    have hlf : leafB' o = false := by unfold leafB'; simp; omega
    have hblw : (ad.add (i * 4)).block < w.heap.size := by omega
    have han : an < l.length := by omega
    have hbn : bn < l.length := by omega
    obtain ⟨na, x, rfl, hbx, hxx, hcx⟩ := hn.at_ (k := an) (by simp [ni, ndL_len]; exact han)
    obtain ⟨na2, y, hna, hby, hyy, hcy⟩ := hn.at_ (k := bn) (by simp [ni, ndL_len]; exact hbn)
    injection hna with hna
    subst hna
    rw [ndL_at han] at hxx
    rw [ndL_at hbn] at hyy
    injection hxx with hxx
    injection hyy with hyy
    subst hxx hyy
    have hbx0 : (na.add an).block < w.heap.size := by omega
    have hby0 : (na.add bn).block < w.heap.size := by omega
    have hbx1 : (na.add an).block < w.heap.size + 1 := by omega
    have hby1 : (na.add bn).block < w.heap.size + 1 := by omega
    have hne0 := own_ne hown (Nat.le_refl _)
    have H3 := Lib.hid h3
    have H4 := Lib.hid h4
    have HX := Lib.hid hx
    have HNN := Lib.hid hn
    clear h hcs h3 h4 hx hn hc
    by_cases hge : ndA l bn ≤ ndA l an
    · rw [if_pos hge] at HE
      have hge' : (ndA l bn : Int) ≤ ndA l an := by omega
      obtain ⟨ma, hma⟩ : ∃ k, (emL l an to).length = k := ⟨_, rfl⟩
      obtain ⟨mb, hmb⟩ : ∃ k, (emL l bn (to + 1)).length = k := ⟨_, rfl⟩
      have hmm : m = ma + mb + 1 := by rw [← hm, HE.out, List.length_append, List.length_append, hma, hmb]; rfl
      subst hmm
      have HMA := Lib.hid hma
      have HMB := Lib.hid hmb
      clear hge hma hmb hm
      have h63 : n + ma + mb + 1 ≤ maxLen := by unfold maxLen; omega
      have hbig : (n + ma + mb + 1) * 40 ≤ 140737488355328 := by omega
      have hnm' : Hid (n + (ma + mb + 1) = n + ma + mb + 1) := Lib.hid (by omega)
      generalize ndA l an = xn at *
      generalize ndA l bn = yn at *
      go_enter Try.func37, Try.ntmps37
      go_wp2_with (go_at_call 53; (with_reducible refine (isLeaf_any _ _).mono ?_); rintro e w1 ⟨rfl, rfl⟩)
      go_region
      all_goals
        go_wp2_with fail
        refine (H3.out to A n c ma cs _ (own_below hown (by go_grown)) (by simp; omega) (HX.out.below (B' := w.heap.size) (by go_grown) hbase) (HNN.out.below (B' := w.heap.size) (by go_grown) hbase) HMA.out (by omega) (by omega)).mono ?_
        rintro e w2 ⟨A1, c1, rfl, hown1, hg1, hp1⟩
        have hs1 : w.heap.size + 1 ≤ w2.heap.size := by have := hg1.size; simpa using this
        have d0 := hg1.cell (a := ⟨w.heap.size, 0, none⟩) (v := .int .i64 o) (by simp) hne0
        have d1 := hg1.cell (a := ⟨w.heap.size, 1, none⟩) (v := .int .i64 an) (by simp) hne0
        have d2 := hg1.cell (a := ⟨w.heap.size, 2, none⟩) (v := .int .i64 bn) (by simp) hne0
        have hne1 := hp1.far (g := w.heap.size) (by simp) hne0
        have hb1 := grown_own (own_below hown (by go_grown)) hg1 (by simp; omega)
        have hx1 := (HX.out.below (B' := w.heap.size) (by go_grown) hbase).below hb1 (Nat.le_refl _)
        have hn1 := (HNN.out.below (B' := w.heap.size) (by go_grown) hbase).below hb1 (Nat.le_refl _)
        have hp1w : Prov w (.slice A n c) (.slice A1 (n + ma) c1) := fun k hk => (hp1 k hk).imp (fun h => by simp at h; omega) id
        have hg1w : w.grownBy w2 (Value.slice A n c).ownBlock := (grown_drew (grown_alloc w _ _)).andThen hg1 fun j hj => .inr hj
        have h4' := H4.out (to + 1) A1 (n + ma) c1 mb (cs ++ emL l an to) w2 hown1 (by omega) hx1 hn1 HMB.out (by omega) (by omega)
        rw [show ((to + 1 : Nat) : Int) = (to : Int) + 1 from by omega] at h4'
        have HX1 := Lib.hid hx1
        have HN1 := Lib.hid hn1
        clear hb1 hx1 hn1 hc0 hc1 hc2 hc3 hcx hcy hg1 hp1
        go_wp2_with fail
        refine h4'.mono ?_
        clear h4'
        rintro e w3 ⟨A2, c2, rfl, hown2, hg2, hp2⟩
        have hs2 := hg2.size
        have e0 := hg2.cell d0 hne1
        have e1 := hg2.cell d1 hne1
        have e2 := hg2.cell d2 hne1
        have hp2w := hp1w.trans (by omega) hp2
        have hg2w := hp1w.grow hg1w hg2
        clear d0 d1 d2 hg2 hp2
        go_wp2_with (at_builtin; refine wpList_app' rfl (.tmp 54) (.tmp 62) 22 rfl base 62 5 40 step_app (rv cSt (cs ++ emL l an to ++ emL l bn (to + 1))) rfl (own_below hown2 (by go_grown)) (cSt ⟨o, to, to, (to : Int) + 1, 0⟩) rfl rfl (fun h => by cases h) (cellsS_at (by simp) ⟨o, to, to, (to : Int) + 1, 0⟩ _ rfl _) (cSt_one _) h63 hbig (by simp; omega) ?_; intro A4 c4 w4 hown4 hg4 hb4 hk4)
        go_ret
        unfold Emitted
        rw [hnm'.out]
        refine ⟨A4, c4, rfl, by rw [HE.out, ← List.append_assoc, ← List.append_assoc, rv_append, rv_one]; exact hown4, ?_, ?_⟩
        · exact ((hg2w.andThen (grown_alloc w3 _ (Value.slice A2 (n + ma + mb) c2).ownBlock) fun j hj => hp2w j hj).andThen hg4 fun j hj => hp2w j hj)
        · intro k hk
          rcases hk4 with hk4 | hk4
          · rw [hk4] at hk; exact hp2w k hk
          · rw [hk4] at hk; injection hk with hk; exact .inl (by simp at hk; omega)
    · rw [if_neg hge] at HE
      have hge' : (ndA l an : Int) < ndA l bn := by omega
      obtain ⟨ma, hma⟩ : ∃ k, (emL l bn to).length = k := ⟨_, rfl⟩
      obtain ⟨mb, hmb⟩ : ∃ k, (emL l an (to + 1)).length = k := ⟨_, rfl⟩
      have hmm : m = ma + mb + 1 := by rw [← hm, HE.out, List.length_append, List.length_append, hma, hmb]; rfl
      subst hmm
      have HMA := Lib.hid hma
      have HMB := Lib.hid hmb
      clear hge hma hmb hm
      have h63 : n + ma + mb + 1 ≤ maxLen := by unfold maxLen; omega
      have hbig : (n + ma + mb + 1) * 40 ≤ 140737488355328 := by omega
      have hnm' : Hid (n + (ma + mb + 1) = n + ma + mb + 1) := Lib.hid (by omega)
      generalize ndA l an = xn at *
      generalize ndA l bn = yn at *
      go_enter Try.func37, Try.ntmps37
      go_wp2_with (go_at_call 53; (with_reducible refine (isLeaf_any _ _).mono ?_); rintro e w1 ⟨rfl, rfl⟩)
      go_region
      all_goals
        go_wp2_with fail
        refine (H4.out to A n c ma cs _ (own_below hown (by go_grown)) (by simp; omega) (HX.out.below (B' := w.heap.size) (by go_grown) hbase) (HNN.out.below (B' := w.heap.size) (by go_grown) hbase) HMA.out (by omega) (by omega)).mono ?_
        rintro e w2 ⟨A1, c1, rfl, hown1, hg1, hp1⟩
        have hs1 : w.heap.size + 1 ≤ w2.heap.size := by have := hg1.size; simpa using this
        have d0 := hg1.cell (a := ⟨w.heap.size, 0, none⟩) (v := .int .i64 o) (by simp) hne0
        have d1 := hg1.cell (a := ⟨w.heap.size, 1, none⟩) (v := .int .i64 an) (by simp) hne0
        have d2 := hg1.cell (a := ⟨w.heap.size, 2, none⟩) (v := .int .i64 bn) (by simp) hne0
        have hne1 := hp1.far (g := w.heap.size) (by simp) hne0
        have hb1 := grown_own (own_below hown (by go_grown)) hg1 (by simp; omega)
        have hx1 := (HX.out.below (B' := w.heap.size) (by go_grown) hbase).below hb1 (Nat.le_refl _)
        have hn1 := (HNN.out.below (B' := w.heap.size) (by go_grown) hbase).below hb1 (Nat.le_refl _)
        have hp1w : Prov w (.slice A n c) (.slice A1 (n + ma) c1) := fun k hk => (hp1 k hk).imp (fun h => by simp at h; omega) id
        have hg1w : w.grownBy w2 (Value.slice A n c).ownBlock := (grown_drew (grown_alloc w _ _)).andThen hg1 fun j hj => .inr hj
        have h4' := H3.out (to + 1) A1 (n + ma) c1 mb (cs ++ emL l bn to) w2 hown1 (by omega) hx1 hn1 HMB.out (by omega) (by omega)
        rw [show ((to + 1 : Nat) : Int) = (to : Int) + 1 from by omega] at h4'
        have HX1 := Lib.hid hx1
        have HN1 := Lib.hid hn1
        clear hb1 hx1 hn1 hc0 hc1 hc2 hc3 hcx hcy hg1 hp1
        go_wp2_with fail
        refine h4'.mono ?_
        clear h4'
        rintro e w3 ⟨A2, c2, rfl, hown2, hg2, hp2⟩
        have hs2 := hg2.size
        have e0 := hg2.cell d0 hne1
        have e1 := hg2.cell d1 hne1
        have e2 := hg2.cell d2 hne1
        have hp2w := hp1w.trans (by omega) hp2
        have hg2w := hp1w.grow hg1w hg2
        clear d0 d1 d2 hg2 hp2
        go_wp2_with (at_builtin; refine wpList_app' rfl (.tmp 79) (.tmp 87) 22 rfl base 62 5 40 step_app (rv cSt (cs ++ emL l bn to ++ emL l an (to + 1))) rfl (own_below hown2 (by go_grown)) (cSt ⟨o, to, (to : Int) + 1, to, 0⟩) rfl rfl (fun h => by cases h) (cellsS_at (by simp) ⟨o, to, (to : Int) + 1, to, 0⟩ _ rfl _) (cSt_one _) h63 hbig (by simp; omega) ?_; intro A4 c4 w4 hown4 hg4 hb4 hk4)
        go_ret
        unfold Emitted
        rw [hnm'.out]
        refine ⟨A4, c4, rfl, by rw [HE.out, ← List.append_assoc, ← List.append_assoc, rv_append, rv_one]; exact hown4, ?_, ?_⟩
        · exact ((hg2w.andThen (grown_alloc w3 _ (Value.slice A2 (n + ma + mb) c2).ownBlock) fun j hj => hp2w j hj).andThen hg4 fun j hj => hp2w j hj)
        · intro k hk
          rcases hk4 with hk4 | hk4
          · rw [hk4] at hk; exact hp2w k hk
          · rw [hk4] at hk; injection hk with hk; exact .inl (by simp at hk; omega)

end Go.Proofs.Ytfbpalgeajgbhaa
