/-
  color.extend, color.Least (O1).
-/
import Derived.Test.YthmcigdoaededaaDoorColorU
import Derived.Lib.SliceRun
import Derived.Maps.Range
import Derived.Deep.AppendLies
namespace Go.Proofs.YthmcigdoaededaaDoor
open Go.RowKit
set_option linter.unusedSimpArgs false
set_option linter.unusedVariables false
set_option maxRecDepth 100000

section
variable {P : Program} {w : World}

/-- append to a slice of the call's own; whatever is then done to the new one, the old one still owns what it owned -/
theorem run_app_back (base : Nat) (t ty e : TypeId) (bytes : Nat) (hT : AppTy P t e 1 bytes) (A : Option Addr) (n c : Nat) (xs : List Value) (hown : w.ownsRow base e 1 (.slice A n c) n xs)
    (ad : Addr) (c2 : Nat) (x : Value) (hx : w.cell? (ad.add 0) = some x) (h1 : x.oneCell' = true)
    (hb1 : n + 1 ≤ maxLen) (hb2 : (n + 1) * bytes ≤ 140737488355328) (hbase : base ≤ w.heap.size) :
    ∃ A' c' w', (Builtin.append_ #[t, t] ty #[.slice A n c, .slice (some ad) 1 c2]).run P w = .ok (.slice A' (n + 1) c') w' ∧ w'.ownsRow base e 1 (.slice A' (n + 1) c') (n + 1) (xs ++ [x]) ∧ w.grownBy w' (Value.slice A n c).ownBlock ∧
      ((Value.slice A' (n + 1) c').ownBlock = (Value.slice A n c).ownBlock ∨ (Value.slice A' (n + 1) c').ownBlock = some w.heap.size) ∧
      (∀ w2 : World, w'.grownBy w2 (Value.slice A' (n + 1) c').ownBlock → w2.ownsRow base e 1 (.slice A' (n + 1) c') (n + 1) (xs ++ [x]) → w2.ownsRow base e 1 (.slice A n c) n xs) := by
  obtain ⟨ht, hsz, i, z, hi, hz, hs, hby, hzs⟩ := hT
  have hnews : ∀ j u, [x][j]? = some u → w.cell? (ad.add j) = some u := fun j u hj => by
    rcases j with _ | j
    · simp at hj
      subst hj
      exact hx
    · simp at hj
  have hone : ∀ u ∈ [x], u.oneCell' = true := fun u hu => by
    simp at hu
    subst hu
    exact h1
  obtain ⟨v', w', hrun, h2, h3, _, h5⟩ := run_append_own_at (P := P) w base t ty e i z 1 bytes ht hi hz hs hby hzs hsz (.slice A n c) n xs hown ad 1 c2 [x] (by simp) hnews hone hb1 hb2 hbase
  obtain ⟨A', c', rfl⟩ := own_shape h2
  refine ⟨A', c', w', hrun, h2, h3, h5, ?_⟩
  intro w2 hg hw2
  rcases hown.2 with ⟨hv, hn0⟩ | ⟨g, cap, cur, hv, hbg, hg0, hnc, hcm, hcs, htake⟩
  · refine ⟨hown.1, .inl ⟨hv, hn0⟩⟩
  · injection hv with hA hn hc
    subst hA hc
    by_cases hroom : n + 1 ≤ c
    · have hfit : n * i.size + [x].length ≤ cur.size := by rw [hs, hcs]; simp; omega
      have hr := run_append_room (P := P) w t ty e i ht hi g n c cur hg0 ad 1 c2 [x] (by simp [hs]) hnews hone hroom hfit
      rw [hr] at hrun
      injection hrun with hr1 hr2
      injection hr1 with ha hb hc
      subst ha hc
      rcases hw2.2 with ⟨hv2, _⟩ | ⟨g2, cap2, cur2, hv2, _, hg2, hnc2, hcm2, hcs2, htake2⟩
      · cases hv2
      · injection hv2 with ha2 hb2' hc2
        injection ha2 with ha2
        injection ha2 with ha2
        subst ha2 hc2
        refine ⟨hown.1, .inr ⟨g, c, cur2, rfl, hbg, hg2, hnc, hcm, hcs2, ?_⟩⟩
        have h7 : cur2.toList.take (n * 1) = (cur2.toList.take ((n + 1) * 1)).take (n * 1) := by rw [List.take_take]; congr 1; omega
        rw [h7, htake2, List.take_left' hown.1]
    · have holds : ∀ j u, xs[j]? = some u → w.cell? ((⟨g, 0, none⟩ : Addr).add j) = some u := hown.cells (g := g) rfl
      have hr := run_append_grow (P := P) w t ty e i z ht hi hz ⟨g, 0, none⟩ n c xs (by rw [hs]; exact hown.1) holds ad 1 c2 [x] (by simp [hs]) hnews (by omega) (by unfold maxLen at hb1; omega) (growslice_fits (by omega) (by rw [hby]; exact hb2))
      rw [hr] at hrun
      injection hrun with hr1 hr2
      injection hr1 with ha hb hc
      subst ha
      have hgl : g < w.heap.size := by
        rcases Nat.lt_or_ge g w.heap.size with hl | hl
        · exact hl
        · rw [Array.getElem?_eq_none hl] at hg0; cases hg0
      have h8 : w'.heap[g]? = w.heap[g]? := by rw [← hr2]; exact Below.heap_alloc w.drew _ g hgl
      have h9 : w2.heap[g]? = w'.heap[g]? := hg.block g (Nat.lt_of_lt_of_le hgl h3.size) (by simp [Value.ownBlock]; omega)
      exact ⟨hown.1, .inr ⟨g, c, cur, rfl, hbg, h9.trans (h8.trans hg0), hnc, hcm, hcs, htake⟩⟩

theorem wpList_app_back {ops : Array Oper} {rest : List Oper} {o : Oper} {a : Act} {Q : Exit → Act → World → Prop} (hgd : o.guard = none) (s x : Operand) (t : TypeId)
    (ho : o.op = .call { callee := .builtin .append, args := #[s, x], argTypes := #[t, t] }) (base : Nat) (e : TypeId) (bytes : Nat) (hT : AppTy P t e 1 bytes)
    {A : Option Addr} {n c : Nat} (xs : List Value) (hs : a.eval s = .slice A n c) (hown : w.ownsRow base e 1 (.slice A n c) n xs)
    {ad : Addr} {c2 : Nat} (u : Value) (hx : a.eval x = .slice (some ad) 1 c2) (hc : w.cell? (ad.add 0) = some u) (h1 : u.oneCell' = true)
    (hb1 : n + 1 ≤ maxLen) (hb2 : (n + 1) * bytes ≤ 140737488355328) (hbase : base ≤ w.heap.size)
    (h : ∀ A' c' w', w'.ownsRow base e 1 (.slice A' (n + 1) c') (n + 1) (xs ++ [u]) → w.grownBy w' (Value.slice A n c).ownBlock →
      ((Value.slice A' (n + 1) c').ownBlock = (Value.slice A n c).ownBlock ∨ (Value.slice A' (n + 1) c').ownBlock = some w.heap.size) →
      (∀ w2 : World, w'.grownBy w2 (Value.slice A' (n + 1) c').ownBlock → w2.ownsRow base e 1 (.slice A' (n + 1) c') (n + 1) (xs ++ [u]) → w2.ownsRow base e 1 (.slice A n c) n xs) → wpList P ops Q rest (a.put o.dst (.slice A' (n + 1) c')) w') : wpList P ops Q (o :: rest) a w := by
  refine wpList_plain hgd fun K hK => ?_
  obtain ⟨A', c', w', hrun, h2, h3, h5, h6⟩ := run_app_back (P := P) (w := w) base t o.type e bytes hT A n c xs hown ad c2 u hc h1 hb1 hb2 hbase
  unfold Oper.wp execOp
  simp only [ho, resolve, invoke, builtin, Sem.run_bind, Sem.run_pure, Result.andThen_ok, List.map_toArray, List.map_cons, List.map_nil, hs, hx, hrun]
  exact hK _ _ (h A' c' w' h2 h3 h5 h6)

end

/-- what extend tells -/
def ExtP (base n : Nat) (v : Value) (ll : Nat) (l : List Nat) (r : Option (List Nat)) (w : World) (e : Ending) (w' : World) : Prop :=
  w.grownBy w' v.ownBlock ∧ w'.ownsRow base 3 1 v ll (iv (ni l)) ∧
    match r with
    | none => e = .returned (.slice none 0 0)
    | some r => ∃ g c', e = .returned (.slice (some ⟨g, 0, none⟩) n c') ∧ w'.ownsRow base 3 1 (.slice (some ⟨g, 0, none⟩) n c') n (iv (ni r))

theorem run_neq_slice_nil {P : Program} (w : World) (t e : TypeId) (a : Option Addr) (n c n' c' : Nat) (h : P.underlying t = some (.slice e)) :
    (binOp .neq t (.slice a n c) (.slice none n' c')).run P w = .ok (.bool (!a.isNone)) w := by
  simp only [binOp]
  simp [Op.equal, Op.maxDepth, Lib.run_equalIn_slice_nil w 9999 t e a n c n' c' h]

/-- the next color tried -/
def colT (ad : Nat → Nat → Bool) (k m : Nat) (l : List Nat) (c : Nat) : Option (List Nat) := if okC ad l c then colG ad k m (l ++ [c]) else none

theorem colT_step {ad : Nat → Nat → Bool} {k m c : Nat} {l : List Nat} (h : c < k) : tryC (colT ad k m l) (k - c) c = match colT ad k m l c with
    | some r => some r
    | none => tryC (colT ad k m l) (k - (c + 1)) (c + 1) := by
  obtain ⟨j, hj⟩ : ∃ j, k - c = j + 1 := ⟨k - c - 1, by omega⟩
  rw [hj, show k - (c + 1) = j by omega]
  rfl

set_option maxHeartbeats 8000000 in
theorem extend_any (n k : Nat) (ad : Nat → Nat → Bool) (ws : List Nat) (hg : Gr ad) (hws : AdW n ad ws) (hn : n ≤ 8) (hn1 : 1 ≤ n) (hk : k ≤ 8) (A : Option Addr) (cap base : Nat) : ∀ (m : Nat) (l : List Nat) (ll : Nat) (Ac : Option Addr) (cc : Nat) (w : World), l.length = ll → ll + m = n → (∀ x ∈ l, x < k) → w.ownsRow base 3 1 (.slice Ac ll cc) ll (iv (ni l)) → RdU w base A ws → base ≤ w.heap.size →
    Calls Tryd.prog 24 #[.slice A n cap, .slice Ac ll cc, .int .i64 k] w fun e w' => ExtP base n (.slice Ac ll cc) ll l (colG ad k m l) w e w'
  | 0, l, ll, Ac, cc, w, hll, hlm, hlt, hown, hx, hbase => by
    have hll2 : ll = n := by omega
    subst hll2
    obtain ⟨g, cap2, hv, _, _⟩ := hown.form (by omega)
    injection hv with hA _ hc
    subst hA hc
    have HO := Lib.hid hown
    clear hown hx
    go_enter Tryd.func24, Tryd.ntmps24
    go_wp2
    go_ret
    exact ⟨World.grownBy.refl _ _, HO.out, g, _, rfl, HO.out⟩
  | m + 1, l, ll, Ac, cc, w, hll, hlm, hlt, hown, hx, hbase => by
    have HIH := Lib.hid (extend_any n k ad ws hg hws hn hn1 hk A cap base m)
    have hqT : ∀ (w : World) (a : Option Addr) (n c n' c' : Nat), (binOp .neq 23 (.slice a n c) (.slice none n' c')).run Tryd.prog w = .ok (.bool (!a.isNone)) w := fun w a n c n' c' => run_neq_slice_nil w _ _ a n c n' c' Tryd.underlying23
    have HLL := Lib.hid hll
    have HLT := Lib.hid hlt
    have HX := Lib.hid hx
    obtain ⟨ad0, W, rfl, hbl, hd, hcW⟩ := hx.at_ (k := ll) (by rw [hws.len]; omega)
    have hW8 := lt_256 hn (hws.lt _ _ hd)
    have HBIT := Lib.hid (fun s (h : TakN W (ni l) ll s) => TakN.ok (l := l) (s := s) hg (fun j => by rw [hll]; exact hws.bit _ _ hd j) (by rw [hll]; exact h))
    have HCO := Lib.hid (colorsOf_any W (ni l) Ac ll cc w.heap.size w (own_rdI hown (by simp [ni, hll])) (by simp [ni, hll]) (by omega) hW8 (fun x hx => by
      obtain ⟨y, hy, rfl⟩ := List.mem_map.1 hx
      have := hlt y hy
      exact .inr ⟨by omega, by omega⟩))
    have hlln : ll < n := by omega
    have hne1 : ((ll : Int) == (n : Int)) = false := by simp; omega
    have hne2 : (ll == n) = false := by simp; omega
    have hblw : (ad0.add ll).block < w.heap.size := by omega
    have HG : Hid (colG ad k (m + 1) l = tryC (colT ad k m l) (k - 0) 0) := Lib.hid rfl
    obtain ⟨G, hG⟩ : ∃ G, colG ad k (m + 1) l = G := ⟨_, rfl⟩
    rw [hG] at HG ⊢
    have HO := Lib.hid hown
    clear hG hd hx hll hlt hown
    go_enter Tryd.func24, Tryd.ntmps24
    go_wp2_with (go_at_call 21; (with_reducible refine HCO.out.mono ?_); rintro e w1 ⟨⟨s, rfl, hs⟩, rfl⟩)
    have hs8 := hs.lt
    have HS := Lib.hid (HBIT.out s hs)
    clear hs
    go_loopw [25] (fun i wr => ∃ c : Nat, c ≤ k ∧ i = .int .i64 c ∧ Hid (G = tryC (colT ad k m l) (k - c) c) ∧ wr.ownsRow base 3 1 (.slice Ac ll cc) ll (iv (ni l)) ∧ Hid (w.grownBy wr (Value.slice Ac ll cc).ownBlock)) (fun i _ => k - (intOf i).toNat)
    case atStart => exact ⟨0, Nat.zero_le _, rfl, HG, HO.out, Lib.hid (World.grownBy.refl _ _)⟩
    case round =>
      obtain ⟨c, hc, rfl, HT, hown, HGR⟩ := hrel
      by_cases hck : c < k
      · have hc8 : c < 8 := by omega
        have HB := Lib.hid (cHas_any s c wr hs8 hc8)
        rw [HS.out c] at HB
        have HST := Lib.hid (colT_step (ad := ad) (m := m) (l := l) hck)
        cases ho : okC ad l c with
        | false =>
          rw [ho] at HB
          have HT2 : Hid (G = tryC (colT ad k m l) (k - (c + 1)) (c + 1)) := Lib.hid (by rw [HT.out, HST.out]; unfold colT; rw [ho]; rfl)
          clear ho
          go_wp2_with (go_at_call 33; (with_reducible refine HB.out.mono ?_); rintro e w2 ⟨rfl, rfl⟩)
          go_round
          case rel => exact ⟨c + 1, by omega, by go_num, HT2, hown, HGR⟩
          case measure => (simp [intOf]; omega)
        | true =>
          rw [ho] at HB
          have HCT : Hid (colT ad k m l c = colG ad k m (l ++ [c])) := Lib.hid (by unfold colT; rw [if_pos ho])
          have h63 : ll + 1 ≤ maxLen := by unfold maxLen; omega
          have hbig : (ll + 1) * 8 ≤ 140737488355328 := by omega
          have hbw : Below base w wr := own_base HO.out HGR.out hbase
          have hsz := HGR.out.size
          have HX2 := Lib.hid (HX.out.below hbw (Nat.le_refl _))
          clear ho
          go_wp2_with (first
            | (go_at_call 33; (with_reducible refine HB.out.mono ?_); rintro e w2 ⟨rfl, rfl⟩)
            | (at_builtin; refine wpList_app_back rfl (.tmp 32) (.tmp 34) 23 rfl base 3 8 int_app (iv (ni l)) rfl (own_below hown (by go_grown)) (.int .i64 c) rfl (cells_at (by simp) [.int .i64 (c : Int)] _ _ rfl 0 _ rfl) rfl h63 hbig (by simp; omega) ?_; intro A5 c5 w5 hown5 hg5 hk5 hback5))
          have hgw : w.grownBy w5 (Value.slice Ac ll cc).ownBlock := (HGR.out.andThen (grown_alloc wr _ _) fun j hj => .inr hj).andThen hg5 fun j hj => .inr hj
          have hpr : ∀ j, (Value.slice A5 (ll + 1) c5).ownBlock = some j → w.heap.size ≤ j ∨ (Value.slice Ac ll cc).ownBlock = some j := fun j hj => by
            rcases hk5 with hk5 | hk5
            · exact .inr (by rw [← hk5]; exact hj)
            · rw [hk5] at hj
              injection hj with hj
              exact .inl (by simp at hj; omega)
          have hbw5 : Below base w w5 := own_base HO.out hgw hbase
          have hs5 := hbw5.size
          have hown5' : w5.ownsRow base 3 1 (.slice A5 (ll + 1) c5) (ll + 1) (iv (ni (l ++ [c]))) := by rw [show iv (ni (l ++ [c])) = iv (ni l) ++ [.int .i64 (c : Int)] by simp [iv, ni]]; exact hown5
          refine (HIH.out (l ++ [c]) (ll + 1) A5 c5 w5 (by simp [HLL.out]) (by omega) (fun x hx => by
            rcases List.mem_append.1 hx with h | h
            · exact HLT.out x h
            · simp at h; omega) hown5' (HX.out.below hbw5 (Nat.le_refl _)) (by omega)).mono ?_
          rintro e w6 ⟨hg6, hown6, hres⟩
          rw [show iv (ni (l ++ [c])) = iv (ni l) ++ [.int .i64 (c : Int)] by simp [iv, ni]] at hown6
          have hown7 := hback5 w6 hg6 hown6
          have HG7 := Lib.hid (hgw.andThen hg6 hpr)
          have HBK := Lib.hid hown7
          clear hback5 hgw hpr hg6 hown5 hown5' hown6 hk5 hg5 hown7
          obtain ⟨R, hR⟩ : ∃ R, colG ad k m (l ++ [c]) = R := ⟨_, rfl⟩
          rw [hR] at hres
          rw [hR] at HCT
          rw [HCT.out] at HST
          clear hR HCT
          cases R with
          | none =>
            dsimp only at hres
            subst hres
            have HT2 : Hid (G = tryC (colT ad k m l) (k - (c + 1)) (c + 1)) := Lib.hid (by rw [HT.out, HST.out])
            go_wp2
            go_round
            case rel => exact ⟨c + 1, by omega, by go_num, HT2, HBK.out, HG7⟩
            case measure => (simp [intOf]; omega)
          | some r =>
            obtain ⟨g8, c8, rfl, hown8⟩ := hres
            have HT2 : Hid (G = some r) := Lib.hid (by rw [HT.out, HST.out])
            have HO8 := Lib.hid hown8
            clear hown8
            go_wp2
            go_ret
            exact ⟨HG7.out, HBK.out, by rw [HT2.out]; exact ⟨g8, c8, rfl, HO8.out⟩⟩
      · have hck2 : c = k := by omega
        subst hck2
        have HT2 : Hid (G = none) := Lib.hid (by rw [HT.out, Nat.sub_self]; rfl)
        have HO2 := Lib.hid hown
        clear hown
        go_wp2
        go_ret
        exact ⟨HGR.out, HO2.out, by rw [HT2.out]; rfl⟩

set_option maxHeartbeats 4000000 in
theorem least_ok (n : Nat) (A : Option Addr) (len cap : Nat) (ps : List (Nat × Nat)) (w : World) (hx : RdM w w.heap.size A (mvI ps)) (hl : ps.length = len) (hk : ClOk n ps) :
    Calls Tryd.prog 11 #[.int .i64 n, .slice A len cap] w fun e w' => (∃ k l, LeastC n (clP ps) k l ∧ Tells w' n l e) ∧ Below w.heap.size w w' := by
  have HF := Lib.hid (conflicts_ok n A len cap ps w hx hl hk)
  have HG := Lib.hid hk.gr
  have hn := hk.small
  have hn1 := hk.pos
  have hqT : ∀ (w : World) (a : Option Addr) (n c n' c' : Nat), (binOp .neq 23 (.slice a n c) (.slice none n' c')).run Tryd.prog w = .ok (.bool (!a.isNone)) w := fun w a n c n' c' => run_neq_slice_nil w _ _ a n c n' c' Tryd.underlying23
  clear hk hl hx
  go_enter Tryd.func11, Tryd.ntmps11
  go_wp2_with fail
  refine HF.out.mono ?_
  rintro e w1 ⟨A2, c2, ws, rfl, hrd, hws, hb1⟩
  have HEX := Lib.hid (fun k (hk8 : k ≤ 8) (wr : World) (hb : Below w1.heap.size w1 wr) => extend_any n k (clP ps) ws HG.out hws hn hn1 hk8 A2 c2 w1.heap.size n [] 0 none 0 wr rfl (by omega) (fun x hx => absurd hx (by simp)) (World.ownsRow_nil _ _ _ _) (hrd.below hb (Nat.le_refl _)) hb.size)
  have hs1 := hb1.size
  clear hws hrd
  go_wp2_with fail
  go_loopw [8] (fun i wr => ∃ k : Nat, 1 ≤ k ∧ k ≤ n ∧ i = .int .i64 k ∧ Hid (∀ k', k' < k → colG (clP ps) k' n [] = none) ∧ Below w1.heap.size w1 wr) (fun i _ => n - (intOf i).toNat)
  case atStart => exact ⟨1, Nat.le_refl _, hn1, rfl, Lib.hid fun k' h => by
    have : k' = 0 := by omega
    subst this
    exact colG_none0 hn1, Below.refl _ _⟩
  case round =>
    obtain ⟨k, hk1, hkn, rfl, HN, hb⟩ := hrel
    have hk8 : k ≤ 8 := by omega
    have HE := Lib.hid (HEX.out k hk8 wr hb)
    have HSELF := Lib.hid (fun h => colG_self (n := n) (k := k) HG.out h)
    have HLE := Lib.hid (fun l h => colG_least (n := n) (k := k) (l := l) HG.out h HN.out)
    have HLN := Lib.hid (fun r h => colG_len (ad := clP ps) (k := k) (m := n) (l := []) (r := r) h)
    obtain ⟨G, hG⟩ : ∃ G, colG (clP ps) k n [] = G := ⟨_, rfl⟩
    have HGE := Lib.hid hG
    rw [hG] at HE HSELF HLE HLN
    clear hG
    go_wp2_with fail
    refine HE.out.mono ?_
    rintro e w2 ⟨hg2, _, hres⟩
    have hb2 : Below w1.heap.size w1 w2 := hb.grown hg2 hb.size (fun k h => by cases h)
    cases G with
    | none =>
      dsimp only at hres
      subst hres
      have hlt := HSELF.out rfl
      have HN2 : Hid (∀ k', k' < k + 1 → colG (clP ps) k' n [] = none) := Lib.hid fun k' h => by
        rcases Nat.lt_or_ge k' k with h1 | h1
        · exact HN.out k' h1
        · have : k' = k := by omega
          subst this
          exact HGE.out
      go_wp2
      go_round
      case rel => exact ⟨k + 1, by omega, by omega, by go_num, HN2, hb2⟩
      case measure => (simp [intOf]; omega)
    | some r =>
      obtain ⟨g8, c8, rfl, hown8⟩ := hres
      have HR := Lib.hid (HLE.out r rfl)
      have HRL : Hid (r.length = n) := Lib.hid (by have := HLN.out r rfl; simpa using this)
      have HO8 := Lib.hid hown8
      clear hown8
      go_wp2
      go_ret2
      exact ⟨⟨k, r, HR.out, _, _, rfl, own_rdI HO8.out (by simp [ni, HRL.out])⟩, hb1.trans (hb2.mono hs1)⟩

set_option maxHeartbeats 1000000 in
theorem least_bad (n : Int) (A : Option Addr) (len cap : Nat) (l : List (Int × Int)) (w : World) (hx : RdM w w.heap.size A l) (hl : l.length = len) (hm : len ≤ maxLen) (hc : ckCl n l ≠ 0) :
    Calls Tryd.prog 11 #[.int .i64 n, .slice A len cap] w fun e w' => e = .returned (.tuple #[.slice none 0 0, .int .i64 (ckCl n l)]) ∧ Below w.heap.size w w' := by
  have HF := Lib.hid (conflicts_bad n A len cap l w hx hl hm hc)
  obtain ⟨x, hx0⟩ : ∃ x, ckCl n l = x := ⟨_, rfl⟩
  rw [hx0] at HF hc ⊢
  have hb0 : (x != 0) = true := by simpa using hc
  clear hx hl hm hx0 hc
  go_enter Tryd.func11, Tryd.ntmps11
  go_wp2_with fail
  refine HF.out.mono ?_
  rintro e w1 ⟨rfl, hb1⟩
  go_wp2
  go_ret2
  exact ⟨rfl, hb1⟩

theorem leastIs : LeastIs := ⟨least_ok, least_bad⟩

end Go.Proofs.YthmcigdoaededaaDoor
