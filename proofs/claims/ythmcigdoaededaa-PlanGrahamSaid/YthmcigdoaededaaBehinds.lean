/-
  codemasonref.Behinds: of each task those that must be behind it (Q1).
-/
import Derived.Test.YthmcigdoaededaaRowsO
import Derived.Test.YthmcigdoaededaaSwapMv
import Derived.Test.YthmcigdoaededaaRegionSteps
import Derived.BigRegion
namespace Go.Proofs.Ythmcigdoaededaa
open Go.RowKit
set_option linter.unusedSimpArgs false
set_option linter.unusedVariables false
set_option maxRecDepth 100000

/-- those that must be behind i -/
def bhL (ps : List (Nat × Nat)) (i : Nat) : List Nat := (ps.filter fun p => decide (p.1 = i)).map Prod.snd

/-- of each task those that must be behind it -/
def bhG (n : Nat) (ps : List (Nat × Nat)) : List (List Int) := (List.range n).map fun i => ni (bhL ps i)

theorem bhG_len (n : Nat) (ps : List (Nat × Nat)) : (bhG n ps).length = n := by simp [bhG]

theorem bhG_at {n i : Nat} (ps : List (Nat × Nat)) (h : i < n) : (bhG n ps)[i]? = some (ni (bhL ps i)) := by
  unfold bhG
  rw [List.getElem?_map, List.getElem?_range h]
  rfl

theorem bhL_mem {ps : List (Nat × Nat)} {a b : Nat} : b ∈ bhL ps a ↔ (a, b) ∈ ps := by
  unfold bhL
  rw [List.mem_map]
  constructor
  · rintro ⟨p, hp, rfl⟩
    obtain ⟨h1, h2⟩ := List.mem_filter.1 hp
    rw [decide_eq_true_eq] at h2
    rw [← h2]
    exact h1
  · exact fun h => ⟨(a, b), List.mem_filter.2 ⟨h, by simp⟩, rfl⟩

theorem bhL_len (ps : List (Nat × Nat)) (i : Nat) : (bhL ps i).length ≤ ps.length := by
  unfold bhL
  rw [List.length_map]
  exact List.filter_sublist.length_le

theorem bhG_nil (n : Nat) : bhG n [] = List.replicate n [] := by
  apply List.ext_getElem?
  intro j
  rcases Nat.lt_or_ge j n with h | h
  · rw [bhG_at _ h, List.getElem?_replicate, if_pos h]; rfl
  · rw [List.getElem?_eq_none (by rw [bhG_len]; exact h), List.getElem?_eq_none (by simpa using h)]

theorem bhG_step {n k a b : Nat} {ps : List (Nat × Nat)} (hp : ps[k]? = some (a, b)) (ha : a < n) : bhG n (ps.take (k + 1)) = (bhG n (ps.take k)).set a (ni (bhL (ps.take k) a) ++ [(b : Int)]) := by
  have ht : ps.take (k + 1) = ps.take k ++ [(a, b)] := by rw [List.take_add_one, hp]; rfl
  apply List.ext_getElem?
  intro j
  rcases Nat.lt_or_ge j n with h | h
  · rw [bhG_at _ h]
    by_cases e : j = a
    · subst e
      rw [List.getElem?_set_self (by rw [bhG_len]; exact h), ht]
      unfold bhL
      rw [List.filter_append, List.map_append]
      simp [ni]
    · rw [List.getElem?_set_ne (Ne.symm e), bhG_at _ h, ht]
      unfold bhL
      rw [List.filter_append, List.map_append]
      have : ¬ a = j := fun h2 => e h2.symm
      simp [ni, this]
  · rw [List.getElem?_eq_none (by rw [bhG_len]; exact h), List.getElem?_eq_none (by rw [List.length_set, bhG_len]; exact h)]

theorem leL {L : List Nat} {p j : Nat} (h : doneL L p j = false) : p ≤ L.getD j 0 - 1 := by
  unfold doneL at h
  simp only [decide_eq_false_iff_not] at h
  omega

theorem geL {L : List Nat} {p j : Nat} (h : doneL L p j = true) : L.getD j 0 ≤ p := by
  unfold doneL at h
  simpa using h

/-- append, told where the row lies -/
theorem oper_app2 {P : Program} {w : World} {o : Oper} {a : Act} {K : Act → World → Prop} {E : Exit → Act → World → Prop} (s x : Operand) (t : TypeId)
    (ho : o.op = .call { callee := .builtin .append, args := #[s, x], argTypes := #[t, t] }) (base : Nat) (e : TypeId) (size bytes : Nat) (hT : AppTy P t e size bytes)
    {A : Option Addr} {n c : Nat} (xs : List Value) (hs : a.eval s = .slice A n c) (hown : w.ownsRow base e size (.slice A n c) n xs)
    {A2 : Option Addr} {m c2 : Nat} (news : List Value) (hx : a.eval x = .slice A2 m c2) (hl : news.length = m * size) (hn : A2 = none → m = 0) (hnews : ∀ ad, A2 = some ad → ∀ j u, news[j]? = some u → w.cell? (ad.add j) = some u) (h1 : ∀ u ∈ news, u.oneCell' = true)
    (hb1 : n + m ≤ maxLen) (hb2 : (n + m) * bytes ≤ 140737488355328) (hbase : base ≤ w.heap.size)
    (h : ∀ A' c' w', w'.ownsRow base e size (.slice A' (n + m) c') (n + m) (xs ++ news) → w.grownBy w' (Value.slice A n c).ownBlock → Below base w w' →
      ((Value.slice A' (n + m) c').ownBlock = (Value.slice A n c).ownBlock ∨ (Value.slice A' (n + m) c').ownBlock = some w.heap.size) → K (a.put o.dst (.slice A' (n + m) c')) w') : Oper.wp P o a w K E := by
  obtain ⟨A', c', w', hrun, h2, h3, h5⟩ := run_app (P := P) (w := w) base t o.type e size bytes hT A n c xs hown A2 m c2 news hl hn hnews h1 hb1 hb2 hbase
  unfold Oper.wp execOp
  simp only [ho, resolve, invoke, builtin, Sem.run_bind, Sem.run_pure, Result.andThen_ok, List.map_toArray, List.map_cons, List.map_nil, hs, hx, hrun]
  exact h A' c' w' h2 h3 (own_base hown h3 hbase) h5

/-- behind the append -/
def AppB (W0 : World) (G b7 ql : Nat) (row : List Int) (u : Value) (a b : Nat) (A8 : Option Addr) (c8 : Nat) (w : World) : Prop :=
  ∃ X : World, Below W0.heap.size W0 X ∧ w.ownsRow (G + 1) 3 1 (.slice A8 (ql + 1) c8) (ql + 1) (iv row ++ [.int .i64 (b : Nat)]) ∧ X.grownBy w u.ownBlock ∧
    ((Value.slice A8 (ql + 1) c8).ownBlock = u.ownBlock ∨ (Value.slice A8 (ql + 1) c8).ownBlock = some X.heap.size) ∧ Below (G + 1) X w ∧ Own w b7 36 [.int .i64 (a : Nat), .int .i64 (b : Nat)]

theorem own_news {w : World} {g : Nat} {t : TypeId} {cs : List Value} (h : Own w g t cs) : ∀ ad : Addr, some (⟨g, 0, none⟩ : Addr) = some ad → ∀ j u, cs[j]? = some u → w.cell? (ad.add j) = some u := fun ad he j u hu => by
  injection he with he
  subst he
  rw [Addr.add_lit, Nat.zero_add]
  exact h.cell hu

theorem boxB {W0 w : World} {G b7 ql n a b : Nat} {row : List Int} {u : Value} {A8 : Option Addr} {c8 : Nat} (h : Own W0 b7 36 [.int .i64 (a : Nat), .int .i64 (b : Nat)]) (hb : b7 < W0.heap.size) (hn : n ≤ 2) (h1 : n ≤ 1 → Below W0.heap.size W0 w) (h2 : n = 2 → AppB W0 G b7 ql row u a b A8 c8 w) : w.cell? ⟨b7, 0, none⟩ = some (.int .i64 (a : Nat)) := by
  rcases Nat.lt_or_ge n 2 with h3 | h3
  · exact (h.below (h1 (by omega)) hb).cell (j := 0) rfl
  · obtain ⟨_, _, _, _, _, _, h4⟩ := h2 (by omega)
    exact h4.cell (j := 0) rfl

set_option maxHeartbeats 8000000 in
theorem behinds_any (n : Nat) (A : Option Addr) (len cap : Nat) (ps : List (Nat × Nat)) (w : World) (hx : RdM w w.heap.size A (mvI ps)) (hl : ps.length = len) (hm : len ≤ 28) (hn1 : 1 ≤ n) (hn8 : n ≤ 8) (hin : ∀ p ∈ ps, p.1 < n ∧ p.2 < n) :
    Calls Try.prog 13 #[.int .i64 n, .slice A len cap] w fun e w' => ∃ cs, e = .returned (.slice (some ⟨w.heap.size, 0, none⟩) n n) ∧ RowsO w' w.heap.size (bhG n ps) cs ∧ Below w.heap.size w w' := by
  have HL := Lib.hid hl
  have HIN := Lib.hid hin
  have hmk := make_nils (P := Try.prog) 29 23 Try.underlying29 (by kernel_rfl) n (by omega)
  clear hl hin
  go_enter Try.func13, Try.ntmps13
  go_wp2
  have hown0 := Own.new w 23 (nils n)
  have hR0 := RowsO.nil hown0
  rw [← bhG_nil] at hR0
  have HR0 := Lib.hid hR0
  clear hmk hown0 hR0
  go_loopw [12] (fun z wr => ∃ (k : Nat) (cs : List Value), k ≤ len ∧ z = .int .i64 k ∧ Hid (RowsO wr w.heap.size (bhG n (ps.take k)) cs) ∧ Below w.heap.size w wr) (fun z _ => len - (intOf z).toNat)
  case atStart => exact ⟨0, _, Nat.zero_le _, rfl, Lib.hid (by rw [List.take_zero]; exact HR0.out), by go_grown⟩
  case round =>
    obtain ⟨k, cs, hk, rfl, HRS, hb⟩ := hrel
    have hsz := hb.size
    clear HR0
    by_cases hlt : k < len
    · obtain ⟨ad, a, b, rfl, hbl, hd, hc0, hc1⟩ := RdN.at_ (hx.below hb (Nat.le_refl _)) (k := k) (by rw [HL.out]; exact hlt)
      obtain ⟨han, hbn⟩ := HIN.out _ (List.mem_of_getElem? hd)
      have han : a < n := han
      have HSTEP := Lib.hid (bhG_step hd han)
      have hrow := bhG_at (ps.take k) han
      have hql : (bhL (ps.take k) a).length ≤ k := by have := bhL_len (ps.take k) a; rw [List.length_take] at this; omega
      obtain ⟨row, hrw⟩ : ∃ r, ni (bhL (ps.take k) a) = r := ⟨_, rfl⟩
      have hrl : row.length ≤ k := by rw [← hrw]; simpa [ni] using hql
      rw [hrw] at hrow HSTEP
      have HROW := Lib.hid hrow
      have hgl := HRS.out.own.lt
      -- the world in which the pair has a box
      obtain ⟨W0, hW0⟩ : ∃ W0 : World, wr.alloc (.cells #[.int .i64 (a : Nat), .int .i64 (b : Nat)] 36) = W0 := ⟨_, rfl⟩
      have hbW : Below wr.heap.size wr W0 := by rw [← hW0]; go_grown
      have hW0s : W0.heap.size = wr.heap.size + 1 := by rw [← hW0]; simp
      have HB7 : Hid (Own W0 wr.heap.size 36 [.int .i64 (a : Nat), .int .i64 (b : Nat)]) := Lib.hid (by rw [← hW0]; exact Own.new wr _ _)
      have HR := Lib.hid (HRS.out.quiet hbW)
      obtain ⟨A1, c1, hcs, hown1⟩ := HR.out.rows a row hrow
      have HCS := Lib.hid hcs
      obtain ⟨ql, hqe⟩ : ∃ ql, row.length = ql := ⟨_, rfl⟩
      have HQL := Lib.hid hqe
      rw [hqe] at hown1 hrl
      have HCS2 : Hid (cs[a]? = some (.slice A1 ql c1)) := Lib.hid (by rw [HCS.out, HQL.out])
      have HOWN1 := Lib.hid hown1
      have hb7g : wr.heap.size ≠ w.heap.size := by omega
      have HUB : Hid (∀ q, (Value.slice A1 ql c1).ownBlock = some q → q < wr.heap.size) := Lib.hid fun q hq => by
        obtain ⟨A2, c2, f1, f2⟩ := HRS.out.rows a row HROW.out
        rw [HCS.out] at f1
        injection f1 with f1
        rw [← f1, HQL.out] at f2
        exact (f2.lt q hq).2
      have h63 : ql + 1 ≤ maxLen := by unfold maxLen; omega
      have hbig : (ql + 1) * 8 ≤ 140737488355328 := by omega
      have hGB : w.heap.size + 1 ≤ W0.heap.size := by omega
      have hG0 : w.heap.size < W0.heap.size := by omega
      have hB0 : wr.heap.size < W0.heap.size := by omega
      clear hd hrw hrow hql hcs hown1 hqe
      obtain ⟨G, hGe⟩ : ∃ G, w.heap.size = G := ⟨_, rfl⟩
      obtain ⟨b7, hb7⟩ : ∃ b7, wr.heap.size = b7 := ⟨_, rfl⟩
      have HGE := Lib.hid hGe
      have HB7E := Lib.hid hb7
      go_wp2
      rw [hGe] at HR hGB hG0 hb7g
      rw [hb7] at HB7 HUB hB0 hb7g
      rw [hGe] at HOWN1
      clear hW0 hGe hb7
      refine wp_region_steps (X := Nat × (Nat × Option Addr × Nat)) (fun x w' => (x.1 ≤ 1 → Below W0.heap.size W0 w') ∧ (x.1 = 1 → Own w' x.2.1 3 [.int .i64 (b : Nat)]) ∧ (x.1 = 2 → AppB W0 G b7 ql row (.slice A1 ql c1) a b x.2.2.1 x.2.2.2 w') ∧ (3 ≤ x.1 → ∃ w8, AppB W0 G b7 ql row (.slice A1 ql c1) a b x.2.2.1 x.2.2.2 w8 ∧ w' = w8.setCell ⟨G, a, none⟩ (.slice x.2.2.1 (ql + 1) x.2.2.2))) (fun x j => doneL [0, 0, 0, 0, 0, 0, 0, 0, 0, 0, 1, 2, 0, 3] x.1 j) (effL [0, 0, 0, 0, 0, 0, 0, 0, 0, 0, 1, 2, 0, 3]) (0, (0, none, 0)) (fun x => [.slice (some ⟨G, 0, none⟩) n n, .pointer (some ⟨b7, 0, none⟩), .int .i64 (a : Nat), .slice (some ⟨G, 0, none⟩) n n, .pointer (some ⟨b7, 0, none⟩), .int .i64 (a : Nat), .pointer (some ⟨G, a, none⟩), .slice A1 ql c1, .pointer (some ⟨b7, 1, none⟩), .int .i64 (b : Nat), .slice (some ⟨x.2.1, 0, none⟩) 1 1, .slice x.2.2.1 (ql + 1) x.2.2.2, .pointer (some ⟨G, a, none⟩), undef]) _ (by kernel_rfl) (by kernel_rfl) (by kernel_rfl) (fun x => by simp only [putsD, Act.put, List.setIfInBounds_toArray, List.set_cons_zero, List.set_cons_succ]; exact rfl) h0L ⟨fun _ => Below.drew (Below.refl _ _), fun h => absurd h (by decide), fun h => absurd h (by decide), fun h => absurd h (by decide)⟩ (fun x => ?_) (fun x wz hDz hSz => ?_)
      · refine AllS.val (by rfl) (by rfl) (fun w hSw hPw => by go_simp) ?_
        refine AllS.val (by rfl) (by rfl) (fun w hSw hPw => by go_simp) ?_
        refine AllS.val (by rfl) (by rfl) (fun w hSw hPw => ?_) ?_
        · (try dsimp only at hSw)
          have hn := leL (hPw.not (j := 13) rfl (by kernel_rfl))
          have hc := boxB HB7.out hB0 hn hSw.1 hSw.2.2.1
          go_simp
        refine AllS.val (by rfl) (by rfl) (fun w hSw hPw => by go_simp) ?_
        refine AllS.val (by rfl) (by rfl) (fun w hSw hPw => by go_simp) ?_
        refine AllS.val (by rfl) (by rfl) (fun w hSw hPw => ?_) ?_
        · (try dsimp only at hSw)
          have hn := leL (hPw.not (j := 13) rfl (by kernel_rfl))
          have hc := boxB HB7.out hB0 hn hSw.1 hSw.2.2.1
          go_simp
        refine AllS.val (by rfl) (by rfl) (fun w hSw hPw => by go_simp) ?_
        refine AllS.val (by rfl) (by rfl) (fun w hSw hPw => ?_) ?_
        · (try dsimp only at hSw)
          have hb := hSw.1 (leL (hPw.not (j := 11) rfl (by kernel_rfl)))
          have hc := (HR.out.own.below hb hG0).cell HCS2.out
          go_simp
        refine AllS.val (by rfl) (by rfl) (fun w hSw hPw => by go_simp) ?_
        refine AllS.val (by rfl) (by rfl) (fun w hSw hPw => ?_) ?_
        · (try dsimp only at hSw)
          have hb := hSw.1 (Nat.le_trans (leL (hPw.not (j := 10) rfl (by kernel_rfl))) (by decide))
          have hc := (HB7.out.below hb hB0).cell (j := 1) rfl
          go_simp
        refine AllS.turn (fun _ _ => rfl) (by rfl) (fun w hSw hPw K hK => ?_) ?_
        · (try dsimp only at hSw)
          have h0 := leL (hPw.me rfl)
          have hb := hSw.1 (Nat.le_trans h0 (by decide))
          go_simp
          have hx0 : x.1 = 0 := Nat.le_zero.1 h0
          obtain ⟨p, y⟩ := x
          (try dsimp only at hx0)
          subst hx0
          exact hK (1, w.heap.size, y.2) _ (nxtL rfl (by decide)) ⟨fun _ => below_via hb (by go_grown), fun _ => Own.new w _ _, fun h => absurd h (by simp), fun h => absurd h (by simp)⟩
        refine AllS.turn (fun _ _ => rfl) (by rfl) (fun w hSw hPw K hK => ?_) ?_
        · (try dsimp only at hSw)
          have h0 := leL (hPw.me rfl)
          have h1 := geL (hPw.need (k := 10) rfl (by kernel_rfl))
          have hb := hSw.1 h0
          have hx0 : x.1 = 1 := Nat.le_antisymm h0 h1
          have hnw := hSw.2.1 hx0
          obtain ⟨p, y1, y2, y3⟩ := x
          (try dsimp only at hx0)
          subst hx0
          refine oper_app2 (.tmp 23) (.tmp 26) 23 rfl (G + 1) 3 1 8 int_app (iv row) rfl (own_below HOWN1.out hb) [.int .i64 (b : Nat)] rfl rfl (fun h => by cases h) (own_news hnw) (one_cell _) h63 hbig (Nat.le_trans hGB hb.size) ?_
          intro A8 c8 w8 hown8 hg8 hb8 hk8
          exact hK (2, y1, A8, c8) _ (nxtL rfl (by decide)) ⟨fun h => absurd h (by simp), fun h => absurd h (by simp), fun _ => ⟨w, hb, hown8, hg8, hk8, hb8, (hg8.block b7 (HB7.out.below hb hB0).lt (fun e => Nat.lt_irrefl _ (HUB.out b7 e.symm))).trans (HB7.out.below hb hB0)⟩, fun h => absurd h (by simp)⟩
        refine AllS.val (by rfl) (by rfl) (fun w hSw hPw => by go_simp) ?_
        refine AllS.turn (fun _ _ => rfl) (by rfl) (fun w hSw hPw K hK => ?_) ?_
        · (try dsimp only at hSw)
          have h0 := leL (hPw.me rfl)
          have h1 := geL (hPw.need (k := 11) rfl (by kernel_rfl))
          have hx0 : x.1 = 2 := Nat.le_antisymm h0 h1
          have hst8 := hSw.2.2.1 hx0
          obtain ⟨p, y1, y2, y3⟩ := x
          (try dsimp only at hx0)
          subst hx0
          have hst9 := hst8
          obtain ⟨X, f1, f2, f3, f4, f5, f6⟩ := hst9
          have hoG := (HR.out.own.below f1 hG0).below f5 (Nat.lt_succ_self G)
          have k0 := hoG.cell HCS2.out
          have k1 := hoG.frozen a
          go_simp
          exact hK (3, y1, y2, y3) _ (nxtL rfl (by decide)) ⟨fun h => absurd h (by simp), fun h => absurd h (by simp), fun h => absurd h (by simp), fun _ => ⟨w, hst8, rfl⟩⟩
        exact AllS.nil
      obtain ⟨w8, hst8, rfl⟩ := hSz.2.2.2 (geL (hDz 13 (by decide) (by decide)))
      obtain ⟨p, y1, A8, c8⟩ := x
      (try dsimp only at hst8)
      obtain ⟨X, f1, f2, f3, f4, f5, f6⟩ := hst8
      have heG := HGE.out
      have heb := HB7E.out
      subst heG heb
      have hap := RowsO.app (x := (b : Int)) (A' := A8) (c' := c8) (w' := w8) (X := X) HR.out f1 HROW.out HCS.out (by rw [HQL.out]; exact f2) (by rw [HQL.out]; exact f3) (by rw [HQL.out]; exact f4)
      rw [HQL.out, ← HSTEP.out] at hap
      have HAP := Lib.hid hap
      have hbX : Below w.heap.size wr X := (hbW.trans (f1.mono hbW.size)).mono hsz
      have hbf : Below w.heap.size wr (w8.setCell ⟨w.heap.size, a, none⟩ (.slice A8 (ql + 1) c8)) := (hbX.trans (f5.mono (Nat.le_succ _))).setCell (Nat.le_refl _) _
      clear hap f1 f2 f3 f4 f5 f6 hSz hDz
      go_wp2
      go_round
      case rel => exact ⟨k + 1, _, by omega, by go_num, HAP, hb.trans hbf⟩
      case measure => (simp [intOf]; omega)
    · have hkl : k = len := by omega
      subst hkl
      have HRF : Hid (RowsO wr w.heap.size (bhG n ps) cs) := Lib.hid (by have := HRS.out; rwa [List.take_of_length_le (by rw [HL.out]; exact Nat.le_refl _)] at this)
      go_wp2
      go_ret
      exact ⟨cs, rfl, HRF.out, hb⟩

end Go.Proofs.Ythmcigdoaededaa
