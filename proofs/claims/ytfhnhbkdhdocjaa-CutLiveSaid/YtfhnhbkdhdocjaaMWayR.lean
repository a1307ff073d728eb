/-
  Several texts in one: ReachRef, WalkRef, BackRef, WaySets, Turned, WayIs.
-/
import Derived.Test.YtfhnhbkdhdocjaaMBase
import Derived.Test.YtfhnhbkdhdocjaaMPure
import Derived.Test.YtfhnhbkdhdocjaaWords
import Derived.BigRegion
import Derived.ChangeKeysEq

/-
  codemasonref.Reach (E1): all to which one comes from a node, without another one.
-/

namespace Go.Proofs.Ytfhnhbkdhdocjaa
open Go.RowKit
set_option linter.unusedSimpArgs false
set_option linter.unusedVariables false
set_option maxRecDepth 100000

set_option maxHeartbeats 4000000 in
theorem refReach_any (A : Option Addr) (len cap : Nat) (nx : List (List Int)) (i : Nat) (wo : Int) (w : World) (hx : RdG w w.heap.size A nx) (hl : nx.length = len) (hc : ckWay nx = 0) (hi : i < len) :
    Calls Try.prog 98 #[.slice A len cap, .int .i64 i, .int .i64 wo] w fun e w' => ∃ hs A' c', Rch nx wo i hs ∧ e = .returned (.slice A' hs.length c') ∧ RdI w' w'.heap.size A' (ni hs) ∧ Below w.heap.size w w' := by
  obtain ⟨b1, b2, b3⟩ := ckWay_bd hc
  have HL := Lib.hid hl
  have HC := Lib.hid hc
  rw [hl] at b1 b2
  by_cases hw : (i : Int) = wo
  · subst hw
    have HN := Lib.hid (Rch.none (nx := nx) (i := i) rfl)
    clear hl hc b3
    go_enter Try.func98, Try.ntmps98
    go_wp2
    go_ret
    exact ⟨[], none, 0, HN.out, rfl, fun h => by simp [ni] at h, Below.refl _ _⟩
  · have hst := RIn.start (nx := nx) (by rw [hl]; exact hi) hw
    have HST := Lib.hid hst
    have e0 : ((i : Int) == wo) = false := by simp; exact hw
    clear hl hc b3 hst hw
    go_enter Try.func98, Try.ntmps98
    go_wp2
    go_loopw [7, 8] (fun s z wr => ∃ (hs : List Nat) (k : Nat) (A2 : Option Addr) (c2 : Nat), k ≤ hs.length ∧ z = .int .i64 k ∧ s = .slice A2 hs.length c2 ∧ wr.ownsRow w.heap.size 3 1 (.slice A2 hs.length c2) hs.length (iv (ni hs)) ∧ Below w.heap.size w wr ∧ RIn nx wo i hs ∧ RDone nx wo hs k)
      (fun s z _ => 2 * (len - lenOf s) + (lenOf s - (intOf z).toNat))
    case atStart =>
      exact ⟨[i], 0, _, _, by simp, rfl, rfl, ⟨rfl, .inr ⟨w.heap.size, 1, #[.int .i64 i], rfl, Nat.le_refl _, heap_alloc_new _ _, Nat.le_refl _, by simp [maxLen], rfl, rfl⟩⟩, by go_grown, HST.out, fun p j hp => by omega⟩
    case round =>
      obtain ⟨hs, k, A2, c2, hk, rfl, rfl, hown, hb, hci, hcd⟩ := hrel
      have hhl := hci.len
      rw [HL.out] at hhl
      have HCI := Lib.hid hci
      have HCD := Lib.hid hcd
      have hsz := hb.size
      clear hci hcd
      by_cases hlt : k < hs.length
      · obtain ⟨j, hj⟩ : ∃ j, hs[k]? = some j := ⟨_, List.getElem?_eq_getElem hlt⟩
        have hjm : j ∈ hs := List.mem_of_getElem? hj
        have hjl := HCI.out.lt j hjm
        rw [HL.out] at hjl
        obtain ⟨ad2, z, rfl, hbl2, hz, hcz⟩ := (own_rdI hown (by simp [ni])).at_ (k := k) (by simpa [ni] using hlt)
        obtain rfl : z = (j : Int) := by rw [ni_at hj] at hz; injection hz with hz; exact hz.symm
        obtain ⟨ad, row, Ar, cr, rfl, hbl, hd, hcell, hrow⟩ := ((hx.below hb (Nat.le_refl _))).at_ (k := j) (by rw [HL.out]; exact hjl)
        have hrs := row_sc HC.out hd
        have hst := HCD.out.step hj
        have hsl := sc_len HC.out j
        subst hrs
        have HSL : Hid ((ni (sc nx j)).length = (sc nx j).length) := Lib.hid (by simp [ni])
        rw [HSL.out] at hcell
        have hscm : ∀ x ∈ sc nx j, x ∈ sc nx j := fun _ h => h
        have hfold := fun xs (hxs : ∀ x ∈ xs, x ∈ sc nx j) => RIn.fold HC.out xs hs hxs hjm HCI.out
        obtain ⟨ss, hss⟩ : ∃ ss, sc nx j = ss := ⟨_, rfl⟩
        rw [hss] at hst hsl hrow hcell hfold
        obtain ⟨sl, hsl2⟩ : ∃ sl, ss.length = sl := ⟨_, rfl⟩
        rw [hsl2] at hcell hsl
        have HSS := Lib.hid hsl2
        have HST2 := Lib.hid hst
        have HF := Lib.hid hfold
        clear hst hd hjm hz hj hsl2 hscm hfold hss HSL
        obtain ⟨wo', rfl⟩ : ∃ wo' : World, wo' = wr := ⟨_, rfl⟩
        have hrowb : RdI wo' w.heap.size Ar (ni ss) := hrow
        go_wp2
        go_loopw [7, 30] (fun s z wi => ∃ (c : Nat) (A3 : Option Addr) (c3 : Nat), c ≤ sl ∧ z = .int .i64 c ∧ s = .slice A3 ((ss.take c).foldl (addW wo) hs).length c3 ∧
            wi.ownsRow w.heap.size 3 1 (.slice A3 ((ss.take c).foldl (addW wo) hs).length c3) ((ss.take c).foldl (addW wo) hs).length (iv (ni ((ss.take c).foldl (addW wo) hs))) ∧ Below w.heap.size w wi)
          (fun _ z _ => sl - (intOf z).toNat)
        case atStart => exact ⟨0, some ad2, c2, by omega, rfl, rfl, hown, hb⟩
        case round =>
          obtain ⟨c, A3, c3, hc2, rfl, rfl, howni, hbi⟩ := hrel
          have hszi := hbi.size
          have hcic := HF.out (ss.take c) (fun x hx => List.mem_of_mem_take hx)
          have hcl := hcic.len
          have hge := foldW_len (wo := wo) (ss.take c) hs
          rw [HL.out] at hcl
          by_cases hclt : c < sl
          · obtain ⟨x, hxc⟩ : ∃ x, ss[c]? = some x := ⟨_, List.getElem?_eq_getElem (by rw [HSS.out]; exact hclt)⟩
            have hnx := foldW_next (wo := wo) (hs := hs) hxc
            have hrowi : RdI wr w.heap.size Ar (ni ss) := Rd.keep hrowb fun p hp => ((hbi.cell hp).trans (hb.cell hp).symm)
            obtain ⟨ar, x', hAr, hbr, hxr, hcx⟩ := hrowi.at_ (k := c) (by simp [ni]; rw [HSS.out]; exact hclt)
            rw [ni_at hxc] at hxr
            injection hxr with hxr
            subst hxr
            subst hAr
            generalize List.foldl (addW wo) hs (List.take c ss) = cur at *
            have h63 : cur.length + 1 ≤ maxLen := by unfold maxLen; omega
            have h63' : cur.length ≤ maxLen := by unfold maxLen; omega
            have hbig : (cur.length + 1) * 8 ≤ 140737488355328 := by omega
            have hrd := own_rdI howni (by simp [ni])
            have hbs : w.heap.size ≤ (wr.alloc (.cells #[.int .i64 (x : Int)] 3)).heap.size := by simp; omega
            have HXC := Lib.hid hxc
            clear hxc hcic
            have stay : addW wo cur x = cur → List.foldl (addW wo) hs (List.take (c + 1) ss) = cur := fun h => by rw [hnx, h]
            by_cases hwx : (x : Int) = wo
            · have hn : addW wo cur x = cur := by unfold addW; rw [if_neg (fun h => h.1 hwx)]
              have HNX := Lib.hid (stay hn)
              have ew : ((x : Int) != wo) = false := by simp; exact hwx
              clear hnx stay hn hwx
              go_wp2
              go_round
              case rel => exact ⟨c + 1, A3, c3, by omega, by go_num, by rw [HNX.out], by rw [HNX.out]; exact howni, hbi⟩
              case measure => (simp [intOf]; omega)
            · have ew : ((x : Int) != wo) = true := by simp; exact hwx
              by_cases hin : x ∈ cur
              · have hb1 : hasB (ni cur) (x : Int) = true := hasB_iff.2 (ni_mem.2 hin)
                have hn : addW wo cur x = cur := by unfold addW; rw [if_neg (fun h => h.2 hin)]
                have HNX := Lib.hid (stay hn)
                clear hnx stay hn hwx hin
                go_wp2_with (go_at_call 118; (with_reducible refine (has_any _ _ _ _ (ni cur) _ _ hrd ?_ h63').mono ?_); (· (simp [ni]; done)); rintro e w5 ⟨rfl, rfl⟩)
                go_round
                case rel => exact ⟨c + 1, A3, c3, by omega, by go_num, by rw [HNX.out], by rw [HNX.out]; exact howni, hbi⟩
                case measure => (simp [intOf]; omega)
              · have hb1 : hasB (ni cur) (x : Int) = false := by
                  cases h : hasB (ni cur) (x : Int) with
                  | false => rfl
                  | true => exact absurd (ni_mem.1 (hasB_iff.1 h)) hin
                have hn : addW wo cur x = cur ++ [x] := by unfold addW; rw [if_pos ⟨hwx, hin⟩]
                rw [hn] at hnx
                have HNX := Lib.hid hnx
                clear hnx stay hn hwx hin
                go_wp2_with (first
                  | (go_at_call 118; (with_reducible refine (has_any _ _ _ _ (ni cur) _ _ hrd ?_ h63').mono ?_); (· (simp [ni]; done)); rintro e w5 ⟨rfl, rfl⟩)
                  | (at_builtin; refine wpList_app rfl (.tmp 43) (.tmp 45) 39 rfl w.heap.size 3 1 8 int_app _ rfl (howni.alloc _) [.int .i64 (x : Int)] rfl rfl (fun h => by cases h) (cells_at rfl _ _) (one_cell _) h63 hbig hbs ?_; intro A4 c4 w4 hown4 hg4 hb4))
                go_round
                case rel =>
                  have hlx : (List.foldl (addW wo) hs (List.take (c + 1) ss)).length = cur.length + 1 := by rw [HNX.out]; simp
                  exact ⟨c + 1, A4, c4, by omega, by go_num, by rw [hlx], by rw [hlx, HNX.out, ni_append, iv_append]; exact hown4, (hbi.alloc hszi _).trans hb4⟩
                case measure => (simp [intOf]; omega)
          · have hc2' : c = sl := by omega
            subst hc2'
            rw [← HSS.out, List.take_length] at howni hge hcl hcic ⊢
            have HC2 := Lib.hid hcic
            clear hcic
            generalize List.foldl (addW wo) hs ss = cur at *
            show Code.wp _ _ _ _ _
            go_wp2
            go_round
            case rel => exact ⟨cur, k + 1, A3, c3, by omega, by go_num, rfl, howni, hbi, HC2.out, HST2.out⟩
            case measure => simp [intOf, lenOf]; omega
      · have hkn : k = hs.length := by omega
        subst hkn
        have hrd0 := own_rdI hown (by simp [ni])
        have HRC := Lib.hid (Rch.of HCI.out HCD.out)
        go_wp2
        go_ret
        exact ⟨hs, A2, c2, HRC.out, rfl, hrd0, hb⟩

end Go.Proofs.Ytfhnhbkdhdocjaa

/-
  codemasonref.Walk (E2): the search in depth, what was seen and what was left.
-/

namespace Go.Proofs.Ytfhnhbkdhdocjaa
open Go.RowKit
set_option linter.unusedSimpArgs false
set_option linter.unusedVariables false
set_option maxRecDepth 100000

structure Wl (w : World) (B : Nat) (s : Sn) (A1 : Option Addr) (c1 : Nat) (A2 : Option Addr) (c2 : Nat) : Prop where
  r1 : w.ownsRow B 3 1 (.slice A1 s.1.length c1) s.1.length (iv (ni s.1))
  r2 : w.ownsRow B 3 1 (.slice A2 s.2.length c2) s.2.length (iv (ni s.2))
  ap : ∀ g, (Value.slice A1 s.1.length c1).ownBlock = some g → (Value.slice A2 s.2.length c2).ownBlock ≠ some g
  sz : B ≤ w.heap.size

section
variable {X Y : World} {B : Nat} {s : Sn} {A1 A2 : Option Addr} {c1 c2 : Nat}

theorem Wl.nil {w : World} {B : Nat} (h : B ≤ w.heap.size) : Wl w B ([], []) none 0 none 0 := ⟨World.ownsRow_nil _ _ _ _, World.ownsRow_nil _ _ _ _, (fun g h => by simp [Value.ownBlock] at h), h⟩

theorem Wl.quiet (h : Wl X B s A1 c1 A2 c2) (hb : Below X.heap.size X Y) : Wl Y B s A1 c1 A2 c2 := ⟨own_below h.r1 hb, own_below h.r2 hb, h.ap, Nat.le_trans h.sz hb.size⟩

theorem ownBlock_len {A : Option Addr} {n m c d : Nat} : (Value.slice A n c).ownBlock = (Value.slice A m d).ownBlock := by
  cases A <;> rfl

theorem Wl.seen (h : Wl X B s A1 c1 A2 c2) {x : Nat} {A' : Option Addr} {c' : Nat} (ho : Y.ownsRow B 3 1 (.slice A' (s.1.length + 1) c') (s.1.length + 1) (iv (ni s.1) ++ [.int .i64 (x : Int)]))
    (hg : X.grownBy Y (Value.slice A1 s.1.length c1).ownBlock) (hp : (Value.slice A' (s.1.length + 1) c').ownBlock = (Value.slice A1 s.1.length c1).ownBlock ∨ (Value.slice A' (s.1.length + 1) c').ownBlock = some X.heap.size) :
    Wl Y B (s.1 ++ [x], s.2) A' c' A2 c2 := by
  have e : (s.1 ++ [x]).length = s.1.length + 1 := by simp
  refine ⟨?_, h.r2.kept hg ?_, fun g hg1 hg2 => ?_, Nat.le_trans h.sz hg.size⟩
  · simp only [e, ni_append, iv_append]
    exact ho
  · cases he : (Value.slice A2 s.2.length c2).ownBlock with
    | none => exact .inl rfl
    | some g => exact .inr fun e => h.ap g e.symm he
  · simp only [e] at hg1
    rcases hp with hp | hp
    · exact h.ap g (by rw [← hp]; exact hg1) hg2
    · rw [hp] at hg1
      injection hg1 with hg1
      have := (h.r2.lt g hg2).2
      omega

theorem Wl.left (h : Wl X B s A1 c1 A2 c2) {x : Nat} {A' : Option Addr} {c' : Nat} (ho : Y.ownsRow B 3 1 (.slice A' (s.2.length + 1) c') (s.2.length + 1) (iv (ni s.2) ++ [.int .i64 (x : Int)]))
    (hg : X.grownBy Y (Value.slice A2 s.2.length c2).ownBlock) (hp : (Value.slice A' (s.2.length + 1) c').ownBlock = (Value.slice A2 s.2.length c2).ownBlock ∨ (Value.slice A' (s.2.length + 1) c').ownBlock = some X.heap.size) :
    Wl Y B (s.1, s.2 ++ [x]) A1 c1 A' c' := by
  have e : (s.2 ++ [x]).length = s.2.length + 1 := by simp
  refine ⟨h.r1.kept hg ?_, ?_, fun g hg1 hg2 => ?_, Nat.le_trans h.sz hg.size⟩
  · cases he : (Value.slice A1 s.1.length c1).ownBlock with
    | none => exact .inl rfl
    | some g => exact .inr fun e => h.ap g he e.symm
  · simp only [e, ni_append, iv_append]
    exact ho
  · simp only [e] at hg2
    rcases hp with hp | hp
    · exact h.ap g hg1 (by rw [← hp]; exact hg2)
    · rw [hp] at hg2
      injection hg2 with hg2
      have := (h.r1.lt g hg1).2
      omega

theorem Wl.below1 (h : Wl X B s A1 c1 A2 c2) (hg : X.grownBy Y (Value.slice A1 s.1.length c1).ownBlock) : Below B X Y := (Below.refl _ X).grown hg h.sz fun g hg => (h.r1.lt g hg).1

theorem Wl.below2 (h : Wl X B s A1 c1 A2 c2) (hg : X.grownBy Y (Value.slice A2 s.2.length c2).ownBlock) : Below B X Y := (Below.refl _ X).grown hg h.sz fun g hg => (h.r2.lt g hg).1

end

/-- where the search is behind k of i's edges -/
def wkK (nx : List (List Int)) (f i : Nat) (s : Sn) (k : Nat) : Sn := ((sc nx i).take k).foldl (wkJ nx f) (s.1 ++ [i], s.2)

theorem wkK_next {nx : List (List Int)} {f i k x : Nat} {s : Sn} (h : (sc nx i)[k]? = some x) : wkK nx f i s (k + 1) = wkJ nx f (wkK nx f i s k) x := by
  unfold wkK
  rw [List.take_add_one, h, Option.toList_some, List.foldl_append]
  rfl

theorem wkK_all {nx : List (List Int)} {f i : Nat} {s : Sn} : wkF nx (f + 1) i s = ((wkK nx f i s (sc nx i).length).1, (wkK nx f i s (sc nx i).length).2 ++ [i]) := by
  rw [wkF_succ]
  unfold wkK
  rw [List.take_length]

theorem wa_step {nx : List (List Int)} {f i : Nat} {s : Sn} (ha : Wa nx (f + 1) s) (hi : i < nx.length) (hin : i ∉ s.1) : Wa nx f (s.1 ++ [i], s.2) := by
  refine ⟨?_, fun x hx => ?_, ?_⟩
  · rw [List.nodup_append]
    exact ⟨ha.nd, by simp, fun a ha' b hb e => by simp at hb; subst hb e; exact hin ha'⟩
  · rcases List.mem_append.1 hx with hx | hx
    · exact ha.lt x hx
    · simp at hx; subst hx; exact hi
  · have := ha.fu
    simp only [List.length_append, List.length_singleton]
    omega

/-- what holds of the search behind k edges -/
theorem wkK_ok {nx : List (List Int)} (hc : ckWay nx = 0) {f i : Nat} {s : Sn} (ha : Wa nx (f + 1) s) (hi : i < nx.length) (hin : i ∉ s.1) (hl : s.2.length ≤ s.1.length) (k : Nat) :
    Wa nx f (wkK nx f i s k) ∧ (wkK nx f i s k).2.length ≤ (wkK nx f i s k).1.length ∧ (wkK nx f i s k).1.length ≤ nx.length := by
  obtain ⟨new, newl, h, _⟩ := wkL_spec hc (i := i) (fun j s ha hj hjs => wk_spec hc f j s ha hj hjs) ((sc nx i).take k) (s.1 ++ [i], s.2) (fun x hx => List.mem_of_mem_take hx) (by simp) (wa_step ha hi hin)
  have e1 := h.e1
  have e2 := h.e2
  have hn := nodup_len h.nd h.lt
  have hfu := (wa_step ha hi hin).fu
  have hln := h.ln
  change (wkK nx f i s k).1 = _ at e1
  change (wkK nx f i s k).2 = _ at e2
  change (wkK nx f i s k).1.length ≤ _ at hn
  refine ⟨⟨h.nd, h.lt, ?_⟩, ?_, hn⟩
  · change nx.length ≤ (wkK nx f i s k).1.length + f
    rw [e1, List.length_append]
    omega
  · rw [e1, e2]
    simp only [List.length_append, List.length_singleton]
    omega

theorem wa_zero {nx : List (List Int)} {i : Nat} {s : Sn} (ha : Wa nx 0 s) (hi : i < nx.length) (hin : i ∉ s.1) : False := by
  have h1 : (i :: s.1).length ≤ nx.length := nodup_len (List.nodup_cons.2 ⟨hin, ha.nd⟩) fun x hx => by
    rcases List.mem_cons.1 hx with rfl | hx
    · exact hi
    · exact ha.lt x hx
  have := ha.fu
  simp at h1
  omega

end Go.Proofs.Ytfhnhbkdhdocjaa

/-
  codemasonref.BackPairs and Twos (E2): the pairs that go back.
-/

namespace Go.Proofs.Ytfhnhbkdhdocjaa
open Go.RowKit
set_option linter.unusedSimpArgs false
set_option linter.unusedVariables false
set_option maxRecDepth 100000

/-- a pair as cells -/
def pv (p : Nat × Nat) : List Value := [.int .i64 (p.1 : Int), .int .i64 (p.2 : Int)]

theorem pv_len : ∀ p, (pv p).length = 2 := fun _ => rfl

theorem pv_one (a b : Nat) : ∀ u ∈ ([.int .i64 (a : Int), .int .i64 (b : Int)] : List Value), u.oneCell' = true := fun u hu => by
  simp at hu
  rcases hu with rfl | rfl <;> rfl

theorem posL_le {l : List Nat} {x k : Nat} (hd : l.Nodup) (h : l[k]? = some x) : posL l x = k := posL_at hd h

end Go.Proofs.Ytfhnhbkdhdocjaa

/-
  codemasonref.Twos, Words (equal lists are told equal), Size, Fits.
-/

namespace Go.Proofs.Ytfhnhbkdhdocjaa
open Go.RowKit
set_option linter.unusedSimpArgs false
set_option linter.unusedVariables false
set_option maxRecDepth 100000

theorem RdR.pair {w : World} {B : Nat} {A : Option Addr} {l : List (Nat × Nat)} {k : Nat} (h : RdR pv w B A 2 l) (hk : k < l.length) :
    ∃ (ad : Addr) (x y : Nat), A = some ad ∧ (ad.add (k * 2)).block < B ∧ l[k]? = some (x, y) ∧ w.cell? (ad.add (k * 2)) = some (.int .i64 (x : Int)) ∧ w.cell? ⟨(ad.add (k * 2)).block, (ad.add (k * 2)).off + 1, none⟩ = some (.int .i64 (y : Int)) := by
  obtain ⟨ad, p, e, hb, hd, hc⟩ := RdR.cell pv_len (by omega) h hk
  obtain ⟨x, y⟩ := p
  exact ⟨ad, x, y, e, hb, hd, hc 0 _ rfl, hc 1 _ rfl⟩

theorem bitB_nat {W j : Nat} (hW : W < 2 ^ 8) : bitB W (j : Int) = W.testBit j := by
  unfold bitB
  rw [Int.toNat_natCast]
  by_cases h : j < 32
  · rw [decide_eq_true (by omega), Bool.true_and]
  · rw [decide_eq_false (by omega), Bool.false_and]
    refine (Nat.testBit_lt_two_pow (Nat.lt_of_lt_of_le hW (Nat.pow_le_pow_right (by omega) (by omega)))).symm

theorem szW_le (s : Nat) : ∀ n, szW s n ≤ n
  | 0 => Nat.le_refl _
  | n + 1 => by
    have := szW_le s n
    unfold szW
    split <;> omega

end Go.Proofs.Ytfhnhbkdhdocjaa

/-
  codemasonref.Turned: a graph turned round.
-/

namespace Go.Proofs.Ytfhnhbkdhdocjaa
open Go.RowKit
set_option linter.unusedSimpArgs false
set_option linter.unusedVariables false
set_option maxRecDepth 100000

/-- from which of the nodes below n an edge leads to j -/
def trR (nx : List (List Int)) (j n : Nat) : List Nat := (List.range n).filter fun i => decide (j ∈ sc nx i)

/-- a graph turned round -/
def trG (nx : List (List Int)) : List (List Int) := (List.range nx.length).map fun j => ni (trR nx j nx.length)

theorem trR_succ (nx : List (List Int)) (j n : Nat) : trR nx j (n + 1) = if j ∈ sc nx n then trR nx j n ++ [n] else trR nx j n := by
  unfold trR
  rw [List.range_succ, List.filter_append]
  by_cases h : j ∈ sc nx n
  · rw [if_pos h]; simp [h]
  · rw [if_neg h]; simp [h]

theorem trR_mem {nx : List (List Int)} {i j n : Nat} : i ∈ trR nx j n ↔ i < n ∧ j ∈ sc nx i := by
  unfold trR
  rw [List.mem_filter, List.mem_range, decide_eq_true_eq]

theorem trR_len (nx : List (List Int)) (j n : Nat) : (trR nx j n).length ≤ n := by
  unfold trR
  have := List.length_filter_le (fun i => decide (j ∈ sc nx i)) (List.range n)
  simpa using this

theorem trG_len (nx : List (List Int)) : (trG nx).length = nx.length := by unfold trG; simp

theorem trG_at {nx : List (List Int)} {j : Nat} (h : j < nx.length) : (trG nx)[j]? = some (ni (trR nx j nx.length)) := by
  unfold trG
  rw [List.getElem?_map, List.getElem?_range h]
  rfl

theorem sc_tr {nx : List (List Int)} (hc : ckWay nx = 0) {i j : Nat} : i ∈ sc (trG nx) j ↔ j ∈ sc nx i := by
  rcases Nat.lt_or_ge j nx.length with hj | hj
  · rw [sc_at (trG_at hj)]
    unfold ni
    rw [List.map_map]
    have e : (Int.toNat ∘ fun n : Nat => (n : Int)) = id := by funext n; simp
    rw [e, List.map_id, trR_mem]
    constructor
    · exact fun h => h.2
    · intro h
      refine ⟨?_, h⟩
      rcases Nat.lt_or_ge i nx.length with hi | hi
      · exact hi
      · rw [sc_out hi] at h; cases h
  · rw [sc_out (by rw [trG_len]; exact hj)]
    constructor
    · intro h; cases h
    · intro h; have := sc_lt hc h; omega

theorem Rea.turn {nx : List (List Int)} (hc : ckWay nx = 0) {i j : Nat} (h : Rea nx (-1) i j) : Rea (trG nx) (-1) j i := by
  induction h with
  | here => exact Rea.me _ _
  | @step j k h hk _ ih => exact (Rea.edge (nat_ne k) ((sc_tr hc).2 hk) (nat_ne j)).trans ih

theorem Rea.turned {nx : List (List Int)} (hc : ckWay nx = 0) {i j : Nat} (h : Rea (trG nx) (-1) i j) : Rea nx (-1) j i := by
  induction h with
  | here => exact Rea.me _ _
  | @step j k h hk _ ih => exact (Rea.edge (nat_ne k) ((sc_tr hc).1 hk) (nat_ne j)).trans ih

/-- all rows nil -/
def nils (n : Nat) : List Value := List.replicate n (.slice none 0 0)

theorem make_nils {P : Program} (t e : TypeId) (ht : P.underlying t = some (.slice e)) (hi : (P.info? e).map (fun i => (i.zero, i.size, i.bytes)) = some (some (.slice none 0 0), 1, 24)) (n : Nat) (hn : n ≤ 65536) (w : World) :
    (Instr.makeSlice t (.int .i64 (n : Int)) (.int .i64 (n : Int))).run P w = .ok (.slice (some ⟨w.heap.size, 0, none⟩) n n) (w.alloc (.cells (nils n).toArray e)) := by
  obtain ⟨i0, hi0, hz, hs, hb⟩ := info_parts hi
  have h := run_make (P := P) w t e i0 _ ht hi0 hz .i64 .i64 (n : Int) (n : Int) (by omega) (by omega) (by rw [hb]; omega) (by omega)
  simp only [Int.toNat_natCast, hs, Nat.mul_one] at h
  rw [h]
  have hm : madeCells (Value.slice none 0 0).cells n = (nils n).toArray := by
    apply Array.ext
    · simp [madeCells, nils]
    · intro j h1 h2
      simp [madeCells, nils, Value.cells, Nat.mod_one]
  rw [hm]

/-- rows that are done: below m each is a row of its own, not in block G -/
def RowsAt (w : World) (G : Nat) (nx : List (List Int)) (m : Nat) (cs : List Value) : Prop :=
  ∀ r, r < m → ∃ Ar cr, cs[r]? = some (.slice Ar (trR nx r nx.length).length cr) ∧ RdI w w.heap.size Ar (ni (trR nx r nx.length)) ∧ ∀ ad, Ar = some ad → G < ad.block

theorem RdI.but {w w' : World} {B G : Nat} {A : Option Addr} {xs : List Int} (h : RdI w B A xs) (hg : ∀ ad, A = some ad → ad.block ≠ G) (hk : ∀ p : Addr, p.block < B → p.block ≠ G → w'.cell? p = w.cell? p) : RdI w' B A xs := fun hm => by
  obtain ⟨ad, e, hb, hc⟩ := h hm
  exact ⟨ad, e, hb, fun j hj => (hk _ (by rw [addr_add_block]; exact hb) (by rw [addr_add_block]; exact hg ad e)).trans (hc j hj)⟩

theorem RowsAt.wrote {w w' : World} {G m : Nat} {nx : List (List Int)} {cs cs' : List Value} (h : RowsAt w G nx m cs) (hw : Wrote G w w') (hcs : ∀ r, r < m → cs'[r]? = cs[r]?) : RowsAt w' G nx m cs' := fun r hr => by
  obtain ⟨Ar, cr, h1, h2, h3⟩ := h r hr
  exact ⟨Ar, cr, by rw [hcs r hr]; exact h1, (h2.but (fun ad hA => by have := h3 ad hA; omega) fun p hp hne => hw.cell hp hne).more hw.size, h3⟩

theorem own_slice_block {w : World} {base : Nat} {e : TypeId} {A : Option Addr} {n c : Nat} {xs : List Value} (h : w.ownsRow base e 1 (.slice A n c) n xs) : ∀ ad, A = some ad → base ≤ ad.block := fun ad hA => by
  subst hA
  rcases h.2 with ⟨hv, _⟩ | ⟨g, cap, cur, hv, h1, _⟩
  · cases hv
  · injection hv with hv; injection hv with hv; rw [hv]; exact h1

/-- all blocks of a graph are new: none below base -/
def NewG (w : World) (base : Nat) (A : Option Addr) (nx : List (List Int)) : Prop :=
  ∀ ad, A = some ad → base ≤ ad.block ∧ ∀ r, r < nx.length → ∀ Ar n cr, w.cell? (ad.add r) = some (.slice Ar n cr) → ∀ a, Ar = some a → base ≤ a.block

theorem RowsAt.done {w : World} {G : Nat} {nx : List (List Int)} {cs : List Value} (hl : cs.length = nx.length) (ho : Own w G 39 cs) (h : RowsAt w G nx nx.length cs) : RdG w w.heap.size (some ⟨G, 0, none⟩) (trG nx) := fun hm => by
  refine ⟨_, rfl, ho.lt, fun r row hr => ?_⟩
  have hrl := (List.getElem?_eq_some_iff.1 hr).1
  rw [trG_len] at hrl
  rw [trG_at hrl] at hr
  injection hr with hr
  subst hr
  obtain ⟨Ar, cr, h1, h2, _⟩ := h r hrl
  refine ⟨Ar, cr, ?_, h2⟩
  have ha : (⟨G, 0, none⟩ : Addr).add r = ⟨G, r, none⟩ := by unfold Addr.add; split <;> simp_all
  rw [ha, ho.cell h1]
  simp [ni]

theorem RowsAt.new {w : World} {G : Nat} {nx : List (List Int)} {cs : List Value} (ho : Own w G 39 cs) (h : RowsAt w G nx nx.length cs) : NewG w G (some ⟨G, 0, none⟩) (trG nx) := fun ad hA => by
  injection hA with hA
  subst hA
  refine ⟨Nat.le_refl _, fun r hr Ar' n cr' hcell a ha => ?_⟩
  rw [trG_len] at hr
  obtain ⟨Ar, cr, h1, _, h3⟩ := h r hr
  have ha2 : (⟨G, 0, none⟩ : Addr).add r = ⟨G, r, none⟩ := by unfold Addr.add; split <;> simp_all
  rw [ha2, ho.cell h1] at hcell
  injection hcell with hcell
  injection hcell with e1 e2 e3
  have := h3 a (e1.trans ha)
  omega

end Go.Proofs.Ytfhnhbkdhdocjaa

/-
  What package way's functions do (E1, E2): their contracts in one word.
-/

namespace Go.Proofs.Ytfhnhbkdhdocjaa
open Go.RowKit
set_option linter.unusedSimpArgs false
set_option linter.unusedVariables false
set_option maxRecDepth 100000

/-- E1: the word of all to which one comes -/
def reachW (nx : List (List Int)) : Nat := if ckWay nx = 0 then setW (finL nx) else 0

/-- E2: the parts -/
structure Pts (nx : List (List Int)) (ws : List Nat) : Prop where
  len : ws.length = nx.length
  lt : ∀ (i W : Nat), ws[i]? = some W → W < 2 ^ nx.length
  mem : ∀ (i W : Nat), ws[i]? = some W → ∀ j, W.testBit j = true ↔ Both nx i j

theorem fin_lt8 {nx : List (List Int)} (hc : ckWay nx = 0) : ∀ x ∈ finL nx, x < 8 := fun x hx => by
  have := ckWay_bd hc
  have := fin_lt hc hx
  omega

theorem setW_fin {nx : List (List Int)} (hc : ckWay nx = 0) {hs : List Nat} (h : Rch nx (-1) 0 hs) : setW hs = setW (finL nx) := word_ext fun j => by rw [setW_bit, setW_bit, h.mem, fin_mem hc]

theorem reachW_lt (nx : List (List Int)) : reachW nx < 256 := by
  unfold reachW
  split
  · rename_i hc
    exact setW_lt (n := 8) (fin_lt8 hc)
  · omega

theorem Pts.one {nx : List (List Int)} {ws ws' : List Nat} (h : Pts nx ws) (h' : Pts nx ws') : ws = ws' := by
  apply List.ext_getElem?
  intro i
  rcases Nat.lt_or_ge i nx.length with hi | hi
  · have h1 := List.getElem?_eq_getElem (show i < ws.length by rw [h.len]; exact hi)
    have h2 := List.getElem?_eq_getElem (show i < ws'.length by rw [h'.len]; exact hi)
    rw [h1, h2]
    congr 1
    exact word_ext fun j => by rw [h.mem i _ h1, h'.mem i _ h2]
  · rw [List.getElem?_eq_none (by rw [h.len]; exact hi), List.getElem?_eq_none (by rw [h'.len]; exact hi)]

theorem Both.turn {nx : List (List Int)} (hc : ckWay nx = 0) {i j : Nat} : Both (trG nx) i j ↔ Both nx i j :=
  ⟨fun h => ⟨h.2.turned hc, h.1.turned hc⟩, fun h => ⟨h.2.turn hc, h.1.turn hc⟩⟩

theorem Pts.turn {nx : List (List Int)} (hc : ckWay nx = 0) {ws : List Nat} (h : Pts (trG nx) ws) : Pts nx ws :=
  ⟨by rw [h.len, trG_len], fun i W hW => by have := h.lt i W hW; rwa [trG_len] at this, fun i W hW j => by rw [h.mem i W hW, Both.turn hc]⟩

theorem Pts.me {nx : List (List Int)} {ws : List Nat} (h : Pts nx ws) {i W : Nat} (hW : ws[i]? = some W) : W.testBit i = true := (h.mem i W hW i).2 ⟨Rea.me nx i, Rea.me nx i⟩

theorem Pts.same {nx : List (List Int)} {ws : List Nat} (h : Pts nx ws) {i j W V : Nat} (hW : ws[i]? = some W) (hV : ws[j]? = some V) (hb : W.testBit j = true) : W = V := by
  have hij := (h.mem i W hW j).1 hb
  exact word_ext fun k => by
    rw [h.mem i W hW, h.mem j V hV]
    exact ⟨fun hk => ⟨hij.2.trans hk.1, hk.2.trans hij.1⟩, fun hk => ⟨hij.1.trans hk.1, hk.2.trans hij.2⟩⟩

end Go.Proofs.Ytfhnhbkdhdocjaa
