/-
  The classes of point.Joined in memory: targetOf, aim, unify, equate, process (V2).
-/
import Derived.Test.YtfbnmgnkigfgpaaPtSet
import Derived.Test.YtfbnmgnkigfgpaaPtCk
import Derived.Test.YtfbnmgnkigfgpaaPtWords
import Derived.Test.YtfbnmgnkigfgpaaMReg
import Derived.StillTailTactics
import Derived.Deep.Cut
namespace Go.Proofs.Ytfbnmgnkigfgpaa
open Go.RowKit
set_option linter.unusedSimpArgs false
set_option linter.unusedVariables false
set_option maxRecDepth 100000

/-- classes in memory: who stands for whom in block g (which may be longer), to whom they point in block h -/
structure Cm (w : World) (g h n : Nat) (hd : List Nat) (tg : List Int) : Prop where
  hb : ∃ rest, Own w g 3 (iv (ni hd) ++ rest)
  tb : Own w h 3 (iv tg)
  ne : g ≠ h
  hl : hd.length = n
  tl : tg.length = n

section
variable {w w' : World} {g h n : Nat} {hd : List Nat} {tg : List Int}

theorem Cm.gl (c : Cm w g h n hd tg) : g < w.heap.size := by obtain ⟨r, hr⟩ := c.hb; exact hr.lt

theorem Cm.hlt (c : Cm w g h n hd tg) : h < w.heap.size := c.tb.lt

theorem hq_at {v : Nat} (hv : v < hd.length) : hd[v]? = some (hq hd v) := by
  unfold hq
  rw [List.getD_eq_getElem?_getD, List.getElem?_eq_getElem hv]
  rfl

theorem Cm.hc (c : Cm w g h n hd tg) {v : Nat} (hv : v < n) : w.cell? ⟨g, v, none⟩ = some (.int .i64 ((hq hd v : Nat) : Int)) := by
  obtain ⟨r, hr⟩ := c.hb
  refine hr.cell ?_
  rw [List.getElem?_append_left (by simp [iv, ni, c.hl, hv])]
  exact iv_at (ni_at (hq_at (by rw [c.hl]; exact hv)))

theorem Cm.tc (c : Cm w g h n hd tg) {v : Nat} (hv : v < n) : w.cell? ⟨h, v, none⟩ = some (.int .i64 (tg.getD v (-1))) := by
  refine c.tb.cell (iv_at ?_)
  rw [List.getD_eq_getElem?_getD, List.getElem?_eq_getElem (by rw [c.tl]; exact hv)]
  rfl

theorem Cm.hf (c : Cm w g h n hd tg) (v : Nat) : w.frozen? ⟨g, v, none⟩ = false := by
  obtain ⟨r, hr⟩ := c.hb
  exact hr.frozen v

theorem Cm.tf (c : Cm w g h n hd tg) (v : Nat) : w.frozen? ⟨h, v, none⟩ = false := c.tb.frozen v

theorem Cm.below (c : Cm w g h n hd tg) {B : Nat} (hb : Below B w w') (h1 : g < B) (h2 : h < B) : Cm w' g h n hd tg := by
  obtain ⟨r, hr⟩ := c.hb
  exact ⟨⟨r, hr.below hb h1⟩, c.tb.below hb h2, c.ne, c.hl, c.tl⟩

theorem Cm.quiet (c : Cm w g h n hd tg) (hb : Below w.heap.size w w') : Cm w' g h n hd tg := c.below hb c.gl c.hlt

theorem Cm.alloc (c : Cm w g h n hd tg) (o : Obj) : Cm (w.alloc o) g h n hd tg := c.quiet ((Below.refl _ _).alloc (Nat.le_refl _) _)

theorem Cm.drew (c : Cm w g h n hd tg) : Cm w.drew g h n hd tg := c.quiet ((Below.refl _ _).drew)

theorem Cm.setH (c : Cm w g h n hd tg) {v : Nat} (hv : v < n) (x : Nat) : Cm (w.setCell ⟨g, v, none⟩ (.int .i64 (x : Int))) g h n (hd.set v x) tg := by
  obtain ⟨r, hr⟩ := c.hb
  refine ⟨⟨r, ?_⟩, c.tb.far (by simpa using c.ne.symm) _, c.ne, by rw [List.length_set]; exact c.hl, c.tl⟩
  have h1 := hr.set v (.int .i64 (x : Int))
  rw [List.set_append_left _ _ (by simp [iv, ni, c.hl, hv]), iv_set] at h1
  rw [show ni (hd.set v x) = (ni hd).set v (x : Int) from by simp [ni, List.map_set]]
  exact h1

theorem Cm.setT (c : Cm w g h n hd tg) (v : Nat) (x : Int) : Cm (w.setCell ⟨h, v, none⟩ (.int .i64 x)) g h n hd (tg.set v x) := by
  obtain ⟨r, hr⟩ := c.hb
  exact ⟨⟨r, hr.far (by simpa using c.ne) _⟩, OwnI.set c.tb v x, c.ne, c.hl, by rw [List.length_set]; exact c.tl⟩

end

set_option maxHeartbeats 2000000 in
theorem targetOf_any (g h n cg v : Nat) (hd : List Nat) (tg : List Int) (w : World) (c : Cm w g h n hd tg) (hv : v < n) (hh : hq hd v < n) (hn : n ≤ 8) :
    Calls Try.prog 41 #[.agg #[.slice (some ⟨g, 0, none⟩) n cg, .slice (some ⟨h, 0, none⟩) n n], .int .i64 (v : Int)] w fun e w' => e = .returned (.int .i64 (tq hd tg v)) ∧ Below w.heap.size w w' := by
  have h1 := c.hc hv
  have h2 := c.tc hh
  have hg := c.gl
  have hhl := c.hlt
  obtain ⟨x, hx⟩ : ∃ x, hq hd v = x := ⟨_, rfl⟩
  obtain ⟨y, hy⟩ : ∃ y, tg.getD (hq hd v) (-1) = y := ⟨_, rfl⟩
  have hty : tq hd tg v = y := hy
  rw [hy] at h2
  rw [hx] at h1 h2 hh
  rw [hty]
  clear hx hy hty c
  go_enter Try.func41, Try.ntmps41
  go_wp2
  go_quiet (fail)
  go_wp2
  go_ret
  exact ⟨rfl, below_drewNQ (by go_grown) _⟩

theorem leQ {L : List Nat} {p j : Nat} (h : doneL L p j = false) : p ≤ L.getD j 0 - 1 := by
  unfold doneL at h
  simp only [decide_eq_false_iff_not] at h
  omega

theorem geQ {L : List Nat} {p j : Nat} (h : doneL L p j = true) : L.getD j 0 ≤ p := by
  unfold doneL at h
  simpa using h

theorem below_via2 {w Y Z : World} (h : Below w.heap.size w Y) (h2 : Below Y.heap.size Y Z) : Below w.heap.size w Z := h.trans (h2.mono h.size)

/-- what unifying does, of at most m classes -/
def UniDo (l : List Qt) (n m : Nat) : Prop := ∀ (g h cg : Nat) (hd : List Nat) (tg : List Int) (a b : Nat) (w : World), Cm w g h n hd tg → ClI l n hd tg → clsN hd ≤ m → a < n → b < n → Sg l n false a b →
  Calls Try.prog 45 #[.agg #[.slice (some ⟨g, 0, none⟩) n cg, .slice (some ⟨h, 0, none⟩) n n], .int .i64 (a : Int), .int .i64 (b : Int)] w fun e w' => e = .returned (.tuple #[]) ∧ ∃ hd' tg', UniC l n a b hd tg hd' tg' ∧ Cm w' g h n hd' tg' ∧ Wrote2 g h w w'

/-- what aiming does, of at most m classes -/
def AimDo (l : List Qt) (n m : Nat) : Prop := ∀ (g h cg : Nat) (hd : List Nat) (tg : List Int) (a : Nat) (to : Int) (w : World), Cm w g h n hd tg → ClI l n hd tg → clsN hd ≤ m → a < n → -1 ≤ to → to < n → (∀ y : Nat, to = (y : Int) → Sg l n true a y) →
  Calls Try.prog 39 #[.agg #[.slice (some ⟨g, 0, none⟩) n cg, .slice (some ⟨h, 0, none⟩) n n], .int .i64 (a : Int), .int .i64 to] w fun e w' => e = .returned (.tuple #[]) ∧ ∃ hd' tg', AimC l n a to hd tg hd' tg' ∧ Cm w' g h n hd' tg' ∧ Wrote2 g h w w'

set_option maxHeartbeats 4000000 in
theorem aim_of {l : List Qt} {n m : Nat} (hU : UniDo l n m) (hn : n ≤ 8) : AimDo l n m := by
  intro g h cg hd tg a to w c hI hm ha t1 t2 hs
  by_cases ht : to = -1
  · subst ht
    have HA := Lib.hid (AimC.none hI (a := a))
    have HC := Lib.hid c
    clear c hI hs hU
    go_enter Try.func39, Try.ntmps39
    go_wp2
    go_returns
    exact ⟨rfl, hd, tg, HA.out, HC.out.alloc _, Wrote2.of_below ((Below.refl _ _).alloc (Nat.le_refl _) _)⟩
  · obtain ⟨y, rfl⟩ := Int.eq_ofNat_of_zero_le (by omega : 0 ≤ to)
    have hy : y < n := by omega
    have e1 : (((y : Nat) : Int) == -1) = false := by simp
    have hS := hs y rfl
    have hha := hI.hlt a ha
    have HT := Lib.hid (fun (Z : World) (cz : Cm Z g h n hd tg) => targetOf_any g h n cg a hd tg Z cz ha hha hn)
    have ho := hI.tlt (v := a)
    obtain ⟨o, hoe⟩ : ∃ o, tq hd tg a = o := ⟨_, rfl⟩
    rw [hoe] at HT ho
    have hwb : Below w.heap.size w (w.alloc (.cells #[.slice (some ⟨g, 0, none⟩) n cg, .slice (some ⟨h, 0, none⟩) n n] 52)) := by go_grown
    have hq0 := Own.new w 52 [.slice (some ⟨g, 0, none⟩) n cg, .slice (some ⟨h, 0, none⟩) n n]
    have cb := c.quiet hwb
    by_cases h0 : o = -1
    · subst h0
      have HA := Lib.hid (AimC.new hI ha hy hoe hS)
      have e2 : ((-1 : Int) != -1) = false := rfl
      obtain ⟨x, hx⟩ : ∃ x, hq hd a = x := ⟨_, rfl⟩
      rw [hx] at hha HA
      have HC := Lib.hid cb
      have HX := Lib.hid hx
      clear c hI hs hU hS ht hoe ho cb hx
      go_enter Try.func39, Try.ntmps39
      go_wp2_with (go_at_call 41; (with_reducible refine (HT.out _ HC.out).mono ?_); rintro e w1 ⟨rfl, hb1⟩; have hq1 := hq0.below hb1 hq0.lt; have k0 := hq1.cell (j := 0) rfl; have k1 := hq1.cell (j := 1) rfl; have c1 := HC.out.quiet hb1; have k2 := c1.hc ha; rw [HX.out] at k2; have k3 := c1.tc hha; have k4 := c1.tf x; have HC1 := Lib.hid c1; clear c1)
      have HW := Lib.hid (HC1.out.setT x ((y : Nat) : Int))
      go_region
      all_goals
        go_wp2
        go_end0
        exact ⟨rfl, hd, _, HA.out, HW.out.drew, ((Wrote2.of_below (hwb.trans (hb1.mono hwb.size))).set (p := ⟨h, x, none⟩) (.inr rfl) _).drew⟩
    · obtain ⟨o, rfl⟩ := Int.eq_ofNat_of_zero_le (by omega : 0 ≤ o)
      have hon : o < n := by omega
      have e2 : (((o : Nat) : Int) != -1) = true := by simp
      have HU := Lib.hid (fun (Z : World) (cz : Cm Z g h n hd tg) => hU g h cg hd tg o y Z cz hI hm hon hy (AimC.oldPre hI ha hoe hS))
      have HA := Lib.hid (fun hd' tg' (hu : UniC l n o y hd tg hd' tg') => AimC.old hI ha hy hoe hu)
      have HC := Lib.hid cb
      clear c hI hs hU hS ht hoe ho cb h0
      go_enter Try.func39, Try.ntmps39
      go_wp2_with (first
        | (go_at_call 41; (with_reducible refine (HT.out _ HC.out).mono ?_); rintro e w1 ⟨rfl, hb1⟩; have hq1 := hq0.below hb1 hq0.lt; have k0 := hq1.cell (j := 0) rfl; have k1 := hq1.cell (j := 1) rfl; have HC1 := Lib.hid (HC.out.quiet hb1))
        | (go_at_call 45; (with_reducible refine (HU.out _ HC1.out).mono ?_); rintro e w2 ⟨rfl, hd', tg', hu, hc2, hw2⟩))
      go_returns
      exact ⟨rfl, hd', tg', HA.out _ _ hu, hc2, (Wrote2.of_below (hwb.trans (hb1.mono hwb.size))).trans hw2⟩

/-- the first k merged -/
def mrgK (hd : List Nat) (kept gone k : Nat) : List Nat := (mrgC hd kept gone).take k ++ hd.drop k

theorem mrgK_zero (hd : List Nat) (kept gone : Nat) : mrgK hd kept gone 0 = hd := by simp [mrgK]

theorem mrgK_all (hd : List Nat) (kept gone : Nat) : mrgK hd kept gone hd.length = mrgC hd kept gone := by
  unfold mrgK
  rw [List.drop_of_length_le (Nat.le_refl _), List.append_nil, List.take_of_length_le (by simp [mrgC])]

theorem mrgK_len (hd : List Nat) (kept gone k : Nat) : (mrgK hd kept gone k).length = hd.length := by
  unfold mrgK
  simp [mrgC]
  omega

theorem mrgK_hq {hd : List Nat} {kept gone k : Nat} (hk : k < hd.length) : hq (mrgK hd kept gone k) k = hq hd k := by
  unfold hq mrgK
  rw [List.getD_eq_getElem?_getD, List.getD_eq_getElem?_getD, List.getElem?_append_right (by rw [List.length_take]; omega), List.length_take, List.getElem?_drop]
  congr 2
  simp [mrgC]
  omega

theorem mrgK_next {hd : List Nat} {kept gone k : Nat} (hk : k < hd.length) : mrgK hd kept gone (k + 1) = if hq hd k = gone then (mrgK hd kept gone k).set k kept else mrgK hd kept gone k := by
  have h1 : (mrgC hd kept gone)[k]? = some (if hq hd k = gone then kept else hq hd k) := by
    unfold mrgC
    rw [List.getElem?_map, hq_at hk]
    rfl
  have h2 : hd.drop k = hq hd k :: hd.drop (k + 1) := drop_at (hq_at hk)
  have h3 : ((mrgC hd kept gone).take k).length = k := by rw [List.length_take]; simp [mrgC]; omega
  unfold mrgK
  rw [List.take_add_one, h1, Option.toList_some, h2]
  split
  · rw [List.set_append_right _ _ (by omega), h3, Nat.sub_self, List.set_cons_zero]
    simp
  · simp

set_option maxHeartbeats 8000000 in
theorem uni_step {l : List Qt} {n m : Nat} (hA : ∀ m', m = m' + 1 → AimDo l n m') (hn : n ≤ 8) : UniDo l n m := by
  intro g h cg hd tg a b w c hI hm ha hb hs
  have ca := c.hc ha
  have cb := c.hc hb
  have hga := hI.hlt a ha
  have hgb := hI.hlt b hb
  by_cases he : hq hd a = hq hd b
  · have HU := Lib.hid (UniC.same hI he)
    have HC := Lib.hid c
    have hgl := c.gl
    obtain ⟨x, hx⟩ : ∃ x, hq hd a = x := ⟨_, rfl⟩
    rw [← he, hx] at cb
    rw [hx] at ca
    clear c hI hs hA hx he hga hgb
    go_enter Try.func45, Try.ntmps45
    go_wp2
    go_quiet (fail)
    go_wp2
    go_returns
    exact ⟨rfl, hd, tg, HU.out, HC.out.quiet (below_drewNQ (by go_grown) _), Wrote2.of_below (below_drewNQ (by go_grown) _)⟩
  · have hmc := mrg_cls hI (hI.idem a ha) (hI.idem b hb) hgb he
    obtain ⟨m', rfl⟩ : ∃ m', m = m' + 1 := ⟨m - 1, by omega⟩
    have hAm := hA m' rfl
    have hMI := mrg_inv hI ha hb he hs
    have HU := Lib.hid (fun hd' tg' (q : AimC l n (hq hd a) (tg.getD (hq hd b) (-1)) (mrgC hd (hq hd a) (hq hd b)) tg hd' tg') => UniC.merge hI ha hb he q)
    have hgt := c.tc hgb
    have hto := hI.tv.getD (hq hd b)
    have hsa : ∀ y : Nat, tg.getD (hq hd b) (-1) = (y : Int) → Sg l n true (hq hd a) y := fun y hy =>
      .from_ (.trans (hI.one a ha).symm (.trans hs (hI.one b hb))) (hI.to _ hgb y (by unfold tq; rw [hI.idem b hb]; exact hy))
    obtain ⟨x, hx⟩ : ∃ x, hq hd a = x := ⟨_, rfl⟩
    obtain ⟨y, hy⟩ : ∃ y, hq hd b = y := ⟨_, rfl⟩
    obtain ⟨t, ht⟩ : ∃ t, tg.getD y (-1) = t := ⟨_, rfl⟩
    rw [hx, hy] at he hmc hMI HU
    rw [hy, ht] at hto hsa hgt
    rw [hx] at hsa ca hga
    rw [hy] at cb hgb
    rw [ht] at HU
    have HAM := Lib.hid (fun (Z : World) (cz : Cm Z g h n (mrgC hd x y) tg) => hAm g h cg (mrgC hd x y) tg x t Z cz hMI (by omega) hga hto.1 hto.2 hsa)
    have HTY : Hid (tg.getD y (-1) = t) := Lib.hid ht
    have hne : (((x : Nat) : Int) == ((y : Nat) : Int)) = false := by simp; omega
    have hwb : Below w.heap.size w (w.alloc (.cells #[.slice (some ⟨g, 0, none⟩) n cg, .slice (some ⟨h, 0, none⟩) n n] 52)) := by go_grown
    have hq0 := Own.new w 52 [.slice (some ⟨g, 0, none⟩) n cg, .slice (some ⟨h, 0, none⟩) n n]
    have HC := Lib.hid (c.quiet hwb)
    have HL := Lib.hid c.hl
    have hgl := c.gl
    have hhl := c.hlt
    clear c hI hs hA hAm hmc hMI hto hsa hx hy ht he hgt
    go_enter Try.func45, Try.ntmps45
    go_wp2
    go_quiet (fail)
    go_upto_region 4 with fail
    have HCD := Lib.hid (HC.out.quiet (below_drewNQ (Below.refl _ _) nq))
    have hqd : Own ((w.alloc (.cells #[.slice (some ⟨g, 0, none⟩) n cg, .slice (some ⟨h, 0, none⟩) n n] 52)).drewN nq) w.heap.size 52 [.slice (some ⟨g, 0, none⟩) n cg, .slice (some ⟨h, 0, none⟩) n n] := hq0
    have hwd := below_drewNQ hwb nq
    obtain ⟨wb, hwbe⟩ : ∃ wb, wb = (w.alloc (.cells #[.slice (some ⟨g, 0, none⟩) n cg, .slice (some ⟨h, 0, none⟩) n n] 52)).drewN nq := ⟨_, rfl⟩
    rw [← hwbe] at HCD hqd hwd ⊢
    clear hwbe hwb hq0 HC
    have HWD : Hid (Wrote2 g h w wb) := Lib.hid (Wrote2.of_below hwd)
    have hbg : w.heap.size ≠ g ∧ w.heap.size ≠ h := by omega
    obtain ⟨bs, hbs⟩ : ∃ b, w.heap.size = b := ⟨_, rfl⟩
    rw [hbs] at hqd hbg ⊢
    clear hbs hwd ca cb
    go_loopw [26] (fun i wr => ∃ k : Nat, k ≤ n ∧ i = .int .i64 k ∧ Cm wr g h n (mrgK hd x y k) tg ∧ Wrote2 g h wb wr) (fun i _ => n - (intOf i).toNat)
    case atStart => exact ⟨0, Nat.zero_le _, rfl, by rw [mrgK_zero]; exact HCD.out, Wrote2.refl _⟩
    case round =>
      obtain ⟨k, hk, rfl, hc, hw⟩ := hrel
      have hqr := hw.own hqd hbg.1 hbg.2
      have k0 := hqr.cell (j := 0) rfl
      have k1 := hqr.cell (j := 1) rfl
      have hql := hqr.lt
      by_cases hlt : k < n
      · have hck := hc.hc hlt
        rw [mrgK_hq (by rw [HL.out]; exact hlt)] at hck
        have hfk := hc.hf k
        have hnx := mrgK_next (hd := hd) (kept := x) (gone := y) (k := k) (by rw [HL.out]; exact hlt)
        obtain ⟨v, hv⟩ : ∃ v, hq hd k = v := ⟨_, rfl⟩
        rw [hv] at hck hnx
        clear hv
        by_cases hvy : v = y
        · rw [if_pos hvy] at hnx
          subst hvy
          have HN := Lib.hid hnx
          have HCS := Lib.hid (hc.setH hlt x)
          have hvv : (((v : Nat) : Int) == ((v : Nat) : Int)) = true := by simp
          clear hnx hc
          go_wp2
          go_round
          case rel => exact ⟨k + 1, by omega, by go_num, by rw [HN.out]; exact HCS.out, hw.set (p := ⟨g, k, none⟩) (.inl rfl) _⟩
          case measure => (simp [intOf]; omega)
        · rw [if_neg hvy] at hnx
          have HN := Lib.hid hnx
          have HCS := Lib.hid hc
          have hvv : (((v : Nat) : Int) == ((y : Nat) : Int)) = false := by simp; omega
          clear hnx hc hvy
          go_wp2
          go_round
          case rel => exact ⟨k + 1, by omega, by go_num, by rw [HN.out]; exact HCS.out, hw⟩
          case measure => (simp [intOf]; omega)
      · have hkn : k = hd.length := by rw [HL.out]; omega
        have hc2 : Cm wr g h n (mrgC hd x y) tg := by rw [hkn, mrgK_all] at hc; exact hc
        have hct := hc2.tc hgb
        rw [HTY.out] at hct
        have HC2 := Lib.hid hc2
        clear hc hc2 hkn
        go_wp2
        (refine still_tail 7 (by kernel_rfl) (by kernel_rfl) ?_; simp only [List.take_succ_cons, List.take_zero, List.drop_succ_cons, List.drop_zero]; repeat still_step)
        ((repeat still_step); refine wpStill_nil ?_)
        go_wp2_with (go_at_call 39; (with_reducible refine (HAM.out _ HC2.out.drew).mono ?_); rintro e w5 ⟨rfl, hd', tg', ha5, hc5, hw5⟩)
        go_end0
        exact ⟨rfl, hd', tg', HU.out _ _ ha5, hc5, HWD.out.trans (hw.drew.trans hw5)⟩

theorem uniDo {l : List Qt} {n : Nat} (hn : n ≤ 8) : ∀ m, UniDo l n m
  | 0 => uni_step (fun m' e => by omega) hn
  | m + 1 => uni_step (fun m' e => by
    have : m' = m := by omega
    subst this
    exact aim_of (uniDo hn m') hn) hn

theorem aimDo {l : List Qt} {n : Nat} (hn : n ≤ 8) (m : Nat) : AimDo l n m := aim_of (uniDo hn m) hn

theorem aim_any {l : List Qt} {n g h cg : Nat} {hd : List Nat} {tg : List Int} {a : Nat} {to : Int} {w : World} (hn : n ≤ 8) (c : Cm w g h n hd tg) (hI : ClI l n hd tg) (ha : a < n) (h1 : -1 ≤ to) (h2 : to < n) (hs : ∀ y : Nat, to = (y : Int) → Sg l n true a y) :
    Calls Try.prog 39 #[.agg #[.slice (some ⟨g, 0, none⟩) n cg, .slice (some ⟨h, 0, none⟩) n n], .int .i64 (a : Int), .int .i64 to] w fun e w' => e = .returned (.tuple #[]) ∧ ∃ hd' tg', AimC l n a to hd tg hd' tg' ∧ Cm w' g h n hd' tg' ∧ Wrote2 g h w w' :=
  aimDo hn (clsN hd) g h cg hd tg a to w c hI (Nat.le_refl _) ha h1 h2 hs

set_option maxHeartbeats 8000000 in
theorem equate_any {l : List Qt} {n g h cg : Nat} {hd : List Nat} {tg : List Int} {a b : Nat} {w : World} (hn : n ≤ 8) (c : Cm w g h n hd tg) (hI : ClI l n hd tg) (ha : a < n) (hb : b < n) (hs : ∀ x, Sg l n true a x ↔ Sg l n true b x) :
    Calls Try.prog 40 #[.agg #[.slice (some ⟨g, 0, none⟩) n cg, .slice (some ⟨h, 0, none⟩) n n], .int .i64 (a : Int), .int .i64 (b : Int)] w fun e w' => e = .returned (.tuple #[]) ∧ ∃ hd' tg', EqtC l n a b hd tg hd' tg' ∧ Cm w' g h n hd' tg' ∧ Wrote2 g h w w' := by
  have hwb : Below w.heap.size w (w.alloc (.cells #[.slice (some ⟨g, 0, none⟩) n cg, .slice (some ⟨h, 0, none⟩) n n] 52)) := by go_grown
  have hq0 := Own.new w 52 [.slice (some ⟨g, 0, none⟩) n cg, .slice (some ⟨h, 0, none⟩) n n]
  have hcb := c.quiet hwb
  have hbg : w.heap.size ≠ g ∧ w.heap.size ≠ h := by have := c.gl; have := c.hlt; omega
  have HT := Lib.hid (fun (Z : World) (cz : Cm Z g h n hd tg) => targetOf_any g h n cg b hd tg Z cz hb (hI.hlt b hb) hn)
  have ht1 := hI.tlt (v := b)
  have HA := Lib.hid (fun (Z : World) (cz : Cm Z g h n hd tg) => aim_any (cg := cg) (to := tq hd tg b) hn cz hI ha ht1.1 ht1.2 (fun y hy => (hs y).2 (hI.to b hb y hy)))
  have HS := Lib.hid (fun hd' tg' (q : AimC l n a (tq hd tg b) hd tg hd' tg') => q)
  have HE := Lib.hid (fun hd' tg' hd'' tg'' (q : AimC l n a (tq hd tg b) hd tg hd' tg') (q2 : AimC l n b (tq hd' tg' a) hd' tg' hd'' tg'') => EqtC.of hI ha hb q q2)
  have HIF := Lib.hid hs
  obtain ⟨t, ht⟩ : ∃ t, tq hd tg b = t := ⟨_, rfl⟩
  rw [ht] at HT HA HE
  clear c hI hs ht ht1 HS
  go_enter Try.func40, Try.ntmps40
  go_upto_region 1 with fail
  obtain ⟨X, hX⟩ : ∃ X, X = w.alloc (.cells #[.slice (some ⟨g, 0, none⟩) n cg, .slice (some ⟨h, 0, none⟩) n n] 52) := ⟨_, rfl⟩
  rw [← hX] at hwb hq0 hcb ⊢
  clear hX
  have HCB := Lib.hid hcb
  have HWB := Lib.hid hwb
  have HQ0 := Lib.hid hq0
  have hXl := hq0.lt
  obtain ⟨bs, hbs⟩ : ∃ b, w.heap.size = b := ⟨_, rfl⟩
  have HBS := Lib.hid hbs
  rw [hbs] at HQ0 hbg hXl ⊢
  clear hbs hcb hwb hq0
  have e0 := HQ0.out.cell (j := 0) rfl
  have e1 := HQ0.out.cell (j := 1) rfl
  refine wp_region_steps (X := Nat × (Unit)) (fun x w' => (x.1 ≤ 1 → Below X.heap.size X w') ∧ (2 ≤ x.1 → ∃ hd' tg', AimC l n a t hd tg hd' tg' ∧ Cm w' g h n hd' tg' ∧ Wrote2 g h X w')) (fun x j => doneL [0, 0, 0, 0, 1, 2] x.1 j) (effL [0, 0, 0, 0, 1, 2]) (0, ()) (fun x => [.agg #[.slice (some ⟨g, 0, none⟩) n cg, .slice (some ⟨h, 0, none⟩) n n], .int .i64 (a : Int), .agg #[.slice (some ⟨g, 0, none⟩) n cg, .slice (some ⟨h, 0, none⟩) n n], .int .i64 (b : Int), .int .i64 t, .tuple #[]]) _ (by kernel_rfl) (by kernel_rfl) (by kernel_rfl) (fun x => by simp only [putsD, Act.put, List.setIfInBounds_toArray, List.set_cons_zero, List.set_cons_succ]; exact rfl) h0L ⟨fun _ => Below.drew (Below.refl _ _), fun h => absurd h (by decide)⟩ (fun x => ?_) (fun x wz hDz hSz => ?_)
  · refine AllS.val (by rfl) (by rfl) (fun w hSw hPw => ?_) ?_
    · (try dsimp only at hSw)
      have hn' := leQ (hPw.not (j := 5) rfl (by kernel_rfl))
      have hq := hSw.1 hn'
      have c0 := (hq.cell (p := ⟨bs, 0, none⟩) hXl).trans e0
      have c1 := (hq.cell (p := ⟨bs, 1, none⟩) hXl).trans e1
      go_simp
    refine AllS.val (by rfl) (by rfl) (fun w hSw hPw => by go_simp) ?_
    refine AllS.val (by rfl) (by rfl) (fun w hSw hPw => ?_) ?_
    · (try dsimp only at hSw)
      have hn' := leQ (hPw.not (j := 4) rfl (by kernel_rfl))
      have hq := hSw.1 (Nat.le_trans hn' (by decide))
      have c0 := (hq.cell (p := ⟨bs, 0, none⟩) hXl).trans e0
      have c1 := (hq.cell (p := ⟨bs, 1, none⟩) hXl).trans e1
      go_simp
    refine AllS.val (by rfl) (by rfl) (fun w hSw hPw => by go_simp) ?_
    refine AllS.turn (fun _ _ => rfl) (by rfl) (fun w hSw hPw K hK => ?_) ?_
    · (try dsimp only at hSw)
      have h0 := leQ (hPw.me rfl)
      have hq := hSw.1 (Nat.le_trans h0 (by decide))
      go_simp
      go_at_call 41
      (with_reducible refine (HT.out _ (HCB.out.quiet hq)).mono ?_)
      rintro e w7 ⟨rfl, hb7⟩
      go_simp
      have hx0 : x.1 = 0 := by exact Nat.le_zero.1 h0
      obtain ⟨p, y⟩ := x
      (try dsimp only at hx0)
      subst hx0
      exact hK (1, y) _ (nxtL rfl (by decide)) ⟨fun _ => below_via2 hq hb7, fun h => absurd h (by simp)⟩
    refine AllS.turn (fun _ _ => rfl) (by rfl) (fun w hSw hPw K hK => ?_) ?_
    · (try dsimp only at hSw)
      have h0 := leQ (hPw.me rfl)
      have h1 := geQ (hPw.need (k := 4) rfl (by kernel_rfl))
      have hq := hSw.1 h0
      have hx0 : x.1 = 1 := Nat.le_antisymm h0 h1
      go_simp
      go_at_call 39
      (with_reducible refine (HA.out _ (HCB.out.quiet hq)).mono ?_)
      rintro e w7 ⟨rfl, hd', tg', ha7, hc7, hw7⟩
      go_simp
      obtain ⟨p, y⟩ := x
      (try dsimp only at hx0)
      subst hx0
      exact hK (2, y) _ (nxtL rfl (by decide)) ⟨fun h => absurd h (by simp), fun _ => ⟨hd', tg', ha7, hc7, (Wrote2.of_below hq).trans hw7⟩⟩
    exact AllS.nil
  obtain ⟨hd1, tg1, ha1, hc1, hw1⟩ := hSz.2 (geQ (hDz 5 (by decide) (by decide)))
  clear hSz hDz
  have hI1 := ha1.stp.inv
  have HT1 := Lib.hid (fun (Z : World) (cz : Cm Z g h n hd1 tg1) => targetOf_any g h n cg a hd1 tg1 Z cz ha (hI1.hlt a ha) hn)
  have ht1 := hI1.tlt (v := a)
  have HA1 := Lib.hid (fun (Z : World) (cz : Cm Z g h n hd1 tg1) => aim_any (cg := cg) (to := tq hd1 tg1 a) hn cz hI1 hb ht1.1 ht1.2 (fun y hy => (HIF.out y).1 (hI1.to a ha y hy)))
  have HE1 := Lib.hid (fun hd'' tg'' (q2 : AimC l n b (tq hd1 tg1 a) hd1 tg1 hd'' tg'') => HE.out _ _ _ _ ha1 q2)
  have hq1 := hw1.own HQ0.out hbg.1 hbg.2
  have HC1 := Lib.hid hc1
  have hwf : Wrote2 g h w wz := (Wrote2.of_below HWB.out).trans hw1
  have HWF := Lib.hid hwf
  have f0 := hq1.cell (j := 0) rfl
  have f1 := hq1.cell (j := 1) rfl
  have hzl := hq1.lt
  obtain ⟨t1, ht1e⟩ : ∃ t, tq hd1 tg1 a = t := ⟨_, rfl⟩
  rw [ht1e] at HT1 HA1 HE1
  clear ht1e ht1 hI1 ha1 hc1 hwf hw1 hq1 HT HA HE HCB HQ0 HWB e0 e1 hXl
  go_upto_region 2 with fail
  refine wp_region_steps (X := Nat × (Unit)) (fun x w' => (x.1 ≤ 1 → Below wz.heap.size wz w') ∧ (2 ≤ x.1 → ∃ hd' tg', AimC l n b t1 hd1 tg1 hd' tg' ∧ Cm w' g h n hd' tg' ∧ Wrote2 g h wz w')) (fun x j => doneL [0, 0, 0, 0, 1, 2] x.1 j) (effL [0, 0, 0, 0, 1, 2]) (0, ()) (fun x => [.agg #[.slice (some ⟨g, 0, none⟩) n cg, .slice (some ⟨h, 0, none⟩) n n], .int .i64 (b : Int), .agg #[.slice (some ⟨g, 0, none⟩) n cg, .slice (some ⟨h, 0, none⟩) n n], .int .i64 (a : Int), .int .i64 t1, .tuple #[]]) _ (by kernel_rfl) (by kernel_rfl) (by kernel_rfl) (fun x => by simp only [putsD, Act.put, List.setIfInBounds_toArray, List.set_cons_zero, List.set_cons_succ]; exact rfl) h0L ⟨fun _ => Below.drew (Below.refl _ _), fun h => absurd h (by decide)⟩ (fun x => ?_) (fun x wz hDz hSz => ?_)
  · refine AllS.val (by rfl) (by rfl) (fun w hSw hPw => ?_) ?_
    · (try dsimp only at hSw)
      have hn' := leQ (hPw.not (j := 5) rfl (by kernel_rfl))
      have hq := hSw.1 hn'
      have c0 := (hq.cell (p := ⟨bs, 0, none⟩) hzl).trans f0
      have c1 := (hq.cell (p := ⟨bs, 1, none⟩) hzl).trans f1
      go_simp
    refine AllS.val (by rfl) (by rfl) (fun w hSw hPw => by go_simp) ?_
    refine AllS.val (by rfl) (by rfl) (fun w hSw hPw => ?_) ?_
    · (try dsimp only at hSw)
      have hn' := leQ (hPw.not (j := 4) rfl (by kernel_rfl))
      have hq := hSw.1 (Nat.le_trans hn' (by decide))
      have c0 := (hq.cell (p := ⟨bs, 0, none⟩) hzl).trans f0
      have c1 := (hq.cell (p := ⟨bs, 1, none⟩) hzl).trans f1
      go_simp
    refine AllS.val (by rfl) (by rfl) (fun w hSw hPw => by go_simp) ?_
    refine AllS.turn (fun _ _ => rfl) (by rfl) (fun w hSw hPw K hK => ?_) ?_
    · (try dsimp only at hSw)
      have h0 := leQ (hPw.me rfl)
      have hq := hSw.1 (Nat.le_trans h0 (by decide))
      go_simp
      go_at_call 41
      (with_reducible refine (HT1.out _ (HC1.out.quiet hq)).mono ?_)
      rintro e w7 ⟨rfl, hb7⟩
      go_simp
      have hx0 : x.1 = 0 := by exact Nat.le_zero.1 h0
      obtain ⟨p, y⟩ := x
      (try dsimp only at hx0)
      subst hx0
      exact hK (1, y) _ (nxtL rfl (by decide)) ⟨fun _ => below_via2 hq hb7, fun h => absurd h (by simp)⟩
    refine AllS.turn (fun _ _ => rfl) (by rfl) (fun w hSw hPw K hK => ?_) ?_
    · (try dsimp only at hSw)
      have h0 := leQ (hPw.me rfl)
      have h1 := geQ (hPw.need (k := 4) rfl (by kernel_rfl))
      have hq := hSw.1 h0
      have hx0 : x.1 = 1 := Nat.le_antisymm h0 h1
      go_simp
      go_at_call 39
      (with_reducible refine (HA1.out _ (HC1.out.quiet hq)).mono ?_)
      rintro e w7 ⟨rfl, hd', tg', ha7, hc7, hw7⟩
      go_simp
      obtain ⟨p, y⟩ := x
      (try dsimp only at hx0)
      subst hx0
      exact hK (2, y) _ (nxtL rfl (by decide)) ⟨fun h => absurd h (by simp), fun _ => ⟨hd', tg', ha7, hc7, (Wrote2.of_below hq).trans hw7⟩⟩
    exact AllS.nil
  obtain ⟨hd2, tg2, ha2, hc2, hw2⟩ := hSz.2 (geQ (hDz 5 (by decide) (by decide)))
  clear hSz hDz
  go_wp2
  go_end0
  exact ⟨rfl, hd2, tg2, HE1.out _ _ ha2, hc2, HWF.out.trans hw2⟩

set_option maxHeartbeats 8000000 in
theorem process_any {l : List Qt} {n g h cg : Nat} {hd : List Nat} {tg : List Int} {k t f : Nat} {w : World} (hn : n ≤ 8) (c : Cm w g h n hd tg) (hI : ClI l n hd tg) (hl : QOk n l) (hp : (⟨k, t, f⟩ : Qt) ∈ l) :
    Calls Try.prog 28 #[.agg #[.slice (some ⟨g, 0, none⟩) n cg, .slice (some ⟨h, 0, none⟩) n n], .agg #[.int .i64 (k : Int), .int .i64 (t : Int), .int .i64 (f : Int)]] w fun e w' => e = .returned (.tuple #[]) ∧ ∃ hd' tg', PrcC l n ⟨k, t, f⟩ hd tg hd' tg' ∧ Cm w' g h n hd' tg' ∧ Wrote2 g h w w' := by
  obtain ⟨h1, h4, ht, hf⟩ := hl _ hp
  simp only at h1 h4 ht hf
  have hK : k = 1 ∨ k = 2 ∨ k = 3 ∨ k = 4 := by omega
  have hwb : ∀ K : Int, Below w.heap.size w ((w.alloc (.cells #[.slice (some ⟨g, 0, none⟩) n cg, .slice (some ⟨h, 0, none⟩) n n] 52)).alloc (.cells #[.int .i64 K, .int .i64 (t : Int), .int .i64 (f : Int)] 41)) := fun K => by go_grown
  have hqa : ∀ K : Int, Own ((w.alloc (.cells #[.slice (some ⟨g, 0, none⟩) n cg, .slice (some ⟨h, 0, none⟩) n n] 52)).alloc (.cells #[.int .i64 K, .int .i64 (t : Int), .int .i64 (f : Int)] 41)) w.heap.size 52 [.slice (some ⟨g, 0, none⟩) n cg, .slice (some ⟨h, 0, none⟩) n n] := fun K => (Own.new w _ _).alloc _
  have hqb : ∀ K : Int, Own ((w.alloc (.cells #[.slice (some ⟨g, 0, none⟩) n cg, .slice (some ⟨h, 0, none⟩) n n] 52)).alloc (.cells #[.int .i64 K, .int .i64 (t : Int), .int .i64 (f : Int)] 41)) (w.heap.size + 1) 41 [.int .i64 K, .int .i64 (t : Int), .int .i64 (f : Int)] := fun K => by
    have hN := Own.new (w.alloc (.cells #[.slice (some ⟨g, 0, none⟩) n cg, .slice (some ⟨h, 0, none⟩) n n] 52)) 41 [.int .i64 K, .int .i64 (t : Int), .int .i64 (f : Int)]
    rw [show (w.alloc (.cells #[.slice (some ⟨g, 0, none⟩) n cg, .slice (some ⟨h, 0, none⟩) n n] 52)).heap.size = w.heap.size + 1 from by simp] at hN
    exact hN
  clear h1 h4
  rcases hK with rfl | rfl | rfl | rfl
  · have HWB := Lib.hid (hwb 1)
    have HA := Lib.hid (aim_any (cg := cg) (to := ((f : Nat) : Int)) hn (c.quiet HWB.out) hI ht (by omega) (by omega) (fun y hy => by
      have : y = f := by omega
      subst this
      exact .addr hp rfl))
    have HD := Lib.hid (fun hd' tg' (q : AimC l n t (f : Int) hd tg hd' tg') => PrcC.addr (p := ⟨1, t, f⟩) rfl q)
    clear c hI hl hp hwb hqa hqb
    go_enter Try.func28, Try.ntmps28
    go_wp2_with (go_at_call 39; (with_reducible refine HA.out.mono ?_); rintro e w1 ⟨rfl, hd', tg', ha1, hc1, hw1⟩)
    go_end0
    exact ⟨rfl, hd', tg', HD.out _ _ ha1, hc1, (Wrote2.of_below HWB.out).trans hw1⟩
  · have HWB := Lib.hid (hwb 2)
    have HA := Lib.hid (equate_any (cg := cg) hn (c.quiet HWB.out) hI ht hf (PrcC.copyPre hp rfl))
    have HD := Lib.hid (fun hd' tg' (q : EqtC l n t f hd tg hd' tg') => PrcC.copy (p := ⟨2, t, f⟩) rfl q)
    clear c hI hl hp hwb hqa hqb
    go_enter Try.func28, Try.ntmps28
    go_wp2_with (go_at_call 40; (with_reducible refine HA.out.mono ?_); rintro e w1 ⟨rfl, hd', tg', ha1, hc1, hw1⟩)
    go_end0
    exact ⟨rfl, hd', tg', HD.out _ _ ha1, hc1, (Wrote2.of_below HWB.out).trans hw1⟩
  · have HWB := Lib.hid (hwb 3)
    have HC := Lib.hid (c.quiet HWB.out)
    have hq1 := hqa 3
    have hq2 := hqb 3
    have hto := hI.tlt (v := f)
    have HT := Lib.hid (targetOf_any g h n cg f hd tg _ HC.out hf (hI.hlt f hf) hn)
    obtain ⟨v, hv⟩ : ∃ v, tq hd tg f = v := ⟨_, rfl⟩
    rw [hv] at hto HT
    by_cases h0 : v = -1
    · subst h0
      have HD := Lib.hid (PrcC.idle (p := ⟨3, t, f⟩) hI (.inl ⟨rfl, hv⟩))
      have e2 : ((-1 : Int) != -1) = false := rfl
      clear c hI hl hp hwb hqa hqb hv hto
      go_enter Try.func28, Try.ntmps28
      go_wp2_with (go_at_call 41; (with_reducible refine HT.out.mono ?_); rintro e w1 ⟨rfl, hb1⟩; have r1 := hq1.below hb1 hq1.lt; have r2 := hq2.below hb1 hq2.lt; have k0 := r1.cell (j := 0) rfl; have k1 := r1.cell (j := 1) rfl; have p0 := r2.cell (j := 0) rfl; have p1 := r2.cell (j := 1) rfl; have p2 := r2.cell (j := 2) rfl)
      go_end0
      exact ⟨rfl, hd, tg, HD.out, HC.out.quiet hb1, Wrote2.of_below (HWB.out.trans (hb1.mono HWB.out.size))⟩
    · obtain ⟨v, rfl⟩ := Int.eq_ofNat_of_zero_le (by omega : 0 ≤ v)
      have hvn : v < n := by omega
      have HA := Lib.hid (fun (Z : World) (cz : Cm Z g h n hd tg) => equate_any (cg := cg) hn cz hI ht hvn (PrcC.loadPre hp hl rfl hI hv))
      have HD := Lib.hid (fun hd' tg' (q : EqtC l n t v hd tg hd' tg') => PrcC.load (p := ⟨3, t, f⟩) rfl hI hv q)
      have e2 : (((v : Nat) : Int) != -1) = true := by simp
      clear c hI hl hp hwb hqa hqb hv hto h0
      go_enter Try.func28, Try.ntmps28
      go_wp2_with (first
        | (go_at_call 41; (with_reducible refine HT.out.mono ?_); rintro e w1 ⟨rfl, hb1⟩; have r1 := hq1.below hb1 hq1.lt; have r2 := hq2.below hb1 hq2.lt; have k0 := r1.cell (j := 0) rfl; have k1 := r1.cell (j := 1) rfl; have p0 := r2.cell (j := 0) rfl; have p1 := r2.cell (j := 1) rfl; have p2 := r2.cell (j := 2) rfl)
        | (go_at_call 40; (with_reducible refine (HA.out _ (HC.out.quiet hb1)).mono ?_); rintro e w2 ⟨rfl, hd', tg', ha1, hc1, hw1⟩))
      go_end0
      exact ⟨rfl, hd', tg', HD.out _ _ ha1, hc1, (Wrote2.of_below (HWB.out.trans (hb1.mono HWB.out.size))).trans hw1⟩
  · have HWB := Lib.hid (hwb 4)
    have HC := Lib.hid (c.quiet HWB.out)
    have hq1 := hqa 4
    have hq2 := hqb 4
    have hto := hI.tlt (v := t)
    have HT := Lib.hid (targetOf_any g h n cg t hd tg _ HC.out ht (hI.hlt t ht) hn)
    obtain ⟨v, hv⟩ : ∃ v, tq hd tg t = v := ⟨_, rfl⟩
    rw [hv] at hto HT
    by_cases h0 : v = -1
    · subst h0
      have HD := Lib.hid (PrcC.idle (p := ⟨4, t, f⟩) hI (.inr ⟨rfl, hv⟩))
      have e2 : ((-1 : Int) != -1) = false := rfl
      clear c hI hl hp hwb hqa hqb hv hto
      go_enter Try.func28, Try.ntmps28
      go_wp2_with (go_at_call 41; (with_reducible refine HT.out.mono ?_); rintro e w1 ⟨rfl, hb1⟩; have r1 := hq1.below hb1 hq1.lt; have r2 := hq2.below hb1 hq2.lt; have k0 := r1.cell (j := 0) rfl; have k1 := r1.cell (j := 1) rfl; have p0 := r2.cell (j := 0) rfl; have p1 := r2.cell (j := 1) rfl; have p2 := r2.cell (j := 2) rfl)
      go_end0
      exact ⟨rfl, hd, tg, HD.out, HC.out.quiet hb1, Wrote2.of_below (HWB.out.trans (hb1.mono HWB.out.size))⟩
    · obtain ⟨v, rfl⟩ := Int.eq_ofNat_of_zero_le (by omega : 0 ≤ v)
      have hvn : v < n := by omega
      have HA := Lib.hid (fun (Z : World) (cz : Cm Z g h n hd tg) => equate_any (cg := cg) hn cz hI hvn hf (PrcC.storePre hp hl rfl hI hv))
      have HD := Lib.hid (fun hd' tg' (q : EqtC l n v f hd tg hd' tg') => PrcC.store (p := ⟨4, t, f⟩) rfl hI hv q)
      have e2 : (((v : Nat) : Int) != -1) = true := by simp
      clear c hI hl hp hwb hqa hqb hv hto h0
      go_enter Try.func28, Try.ntmps28
      go_wp2_with (first
        | (go_at_call 41; (with_reducible refine HT.out.mono ?_); rintro e w1 ⟨rfl, hb1⟩; have r1 := hq1.below hb1 hq1.lt; have r2 := hq2.below hb1 hq2.lt; have k0 := r1.cell (j := 0) rfl; have k1 := r1.cell (j := 1) rfl; have p0 := r2.cell (j := 0) rfl; have p1 := r2.cell (j := 1) rfl; have p2 := r2.cell (j := 2) rfl)
        | (go_at_call 40; (with_reducible refine (HA.out _ (HC.out.quiet hb1)).mono ?_); rintro e w2 ⟨rfl, hd', tg', ha1, hc1, hw1⟩))
      go_end0
      exact ⟨rfl, hd', tg', HD.out _ _ ha1, hc1, (Wrote2.of_below (HWB.out.trans (hb1.mono HWB.out.size))).trans hw1⟩

end Go.Proofs.Ytfbnmgnkigfgpaa
