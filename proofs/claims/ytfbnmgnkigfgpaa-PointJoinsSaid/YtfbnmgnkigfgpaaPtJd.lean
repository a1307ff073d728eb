/-
  point.Joined returns what it says (V2).
-/
import Derived.Test.YtfbnmgnkigfgpaaPtSets
import Derived.Test.YtfbnmgnkigfgpaaPtSame
namespace Go.Proofs.Ytfbnmgnkigfgpaa
open Go.RowKit
set_option linter.unusedSimpArgs false
set_option linter.unusedVariables false
set_option maxRecDepth 100000

/-- does a cell hold this int? -/
def isAt (w : World) (g v : Nat) (x : Int) : Bool := match w.cell? ⟨g, v, none⟩ with
  | some (.int _ y) => y == x
  | _ => false

/-- how many classes there are, and how many point to none -/
def muW (w : World) (g h n : Nat) : Nat := ((List.range n).filter fun v => isAt w g v (v : Int)).length + ((List.range n).filter fun v => isAt w h v (-1)).length

theorem nonN_range : ∀ (tg : List Int), nonN tg = ((List.range tg.length).filter fun v => tg.getD v (-1) == -1).length
  | [] => rfl
  | a :: tg => by
    have ih := nonN_range tg
    unfold nonN at ih ⊢
    rw [List.length_cons, List.range_succ_eq_map, List.filter_cons, List.filter_cons, List.filter_map, List.getD_cons_zero]
    have e : ((fun v => (a :: tg).getD v (-1) == (-1 : Int)) ∘ Nat.succ) = fun v => tg.getD v (-1) == (-1 : Int) := by
      funext v
      simp
    rw [e]
    split <;> simp [ih]

theorem Cm.mu {w : World} {g h n : Nat} {hd : List Nat} {tg : List Int} (c : Cm w g h n hd tg) : muW w g h n = clsN hd + nonN tg := by
  unfold muW clsN
  rw [nonN_range, c.hl, c.tl]
  congr 1
  · congr 1
    refine List.filter_congr fun v hv => ?_
    have hv := List.mem_range.1 hv
    unfold isAt
    rw [c.hc hv]
    simp only
    rw [Bool.eq_iff_iff, beq_iff_eq, beq_iff_eq]
    omega
  · congr 1
    refine List.filter_congr fun v hv => ?_
    have hv := List.mem_range.1 hv
    unfold isAt
    rw [c.tc hv]

set_option maxHeartbeats 16000000 in
theorem joined_any (n : Nat) (A : Option Addr) (len cap : Nat) (q : List Qt) (w : World) (hx : RdPz w w.heap.size A (qI q)) (hl : q.length = len) (hq : QOk n q) (h1 : 1 ≤ n) (h8 : n ≤ 8) (hl12 : len ≤ 12) :
    Calls Try.prog 13 #[.int .i64 n, .slice A len cap] w fun e w' => ∃ S A' c', Tel n (Sg q n true) S ∧ e = .returned (.tuple #[.slice A' n c', .int .i64 0]) ∧ RdU w' w'.heap.size A' S ∧ Below w.heap.size w w' := by
  have HCK := Lib.hid ((pzCheck_any n A len cap (qI q) w hx (by rw [qI_len]; exact hl) (by unfold maxLen; omega)))
  rw [ckPz_of h1 h8 (by omega) hq] at HCK
  have HL := Lib.hid hl
  have HQ := Lib.hid hq
  have HSI := Lib.hid (fun Z => singles_any n Z h1 h8)
  clear hl hq
  go_enter Try.func13, Try.ntmps13
  go_wp2_with (first
    | (go_at_call 20; (with_reducible refine HCK.out.mono ?_); rintro e w0 ⟨rfl, hb0⟩)
    | (go_at_call 26; (with_reducible refine (HSI.out _).mono ?_); rintro e w1 ⟨g, h, cg, rfl, hc1, hg1, hh1, hb1⟩))
  have hsz0 := hb0.size
  have hbw : Below w.heap.size w w1 := hb0.trans (hb1.mono hsz0)
  have hq7 := Own.new w1 52 [.slice (some ⟨g, 0, none⟩) n cg, .slice (some ⟨h, 0, none⟩) n n]
  have hbn := hbw.alloc hbw.size (.cells #[.slice (some ⟨g, 0, none⟩) n cg, .slice (some ⟨h, 0, none⟩) n n] 52)
  have hcn := hc1.alloc (.cells #[.slice (some ⟨g, 0, none⟩) n cg, .slice (some ⟨h, 0, none⟩) n n] 52)
  have hgw : w.heap.size ≤ g ∧ w.heap.size ≤ h := by omega
  have hg7 := hc1.gl
  have hh7 := hc1.hlt
  obtain ⟨wn, hwn⟩ : ∃ wn, wn = w1.alloc (.cells #[.slice (some ⟨g, 0, none⟩) n cg, .slice (some ⟨h, 0, none⟩) n n] 52) := ⟨_, rfl⟩
  rw [← hwn] at hq7 hbn hcn ⊢
  clear hwn hb0 hb1 hbw hc1 hg1 hh1 HCK HSI hsz0
  obtain ⟨b7, hb7⟩ : ∃ b, w1.heap.size = b := ⟨_, rfl⟩
  rw [hb7] at hq7 hg7 hh7 ⊢
  clear hb7
  go_loopw [] (fun wr => ∃ (hd : List Nat) (tg : List Int), Cm wr g h n hd tg ∧ Own wr b7 52 [.slice (some ⟨g, 0, none⟩) n cg, .slice (some ⟨h, 0, none⟩) n n] ∧ Hid (ClI q n hd tg) ∧ Below w.heap.size w wr) (fun wr => muW wr g h n)
  case atStart => exact ⟨_, _, hcn, hq7, Lib.hid (ClI.start q n), hbn⟩
  case round =>
    obtain ⟨hd, tg, hc, hq7, HI, hb⟩ := hrel
    have HMU := Lib.hid hc.mu
    have k0 := hq7.cell (j := 0) rfl
    have k1 := hq7.cell (j := 1) rfl
    have h7l := hq7.lt
    have hgl := hc.gl
    have hhl := hc.hlt
    have hsz := hb.size
    have HCL := Lib.hid (clone_anyC g h n cg hd tg wr hc h1 h8)
    have HC := Lib.hid hc
    have HB := Lib.hid hb
    have HQ7 := Lib.hid hq7
    have HLH : Hid ((ni hd).length = n) := Lib.hid (by rw [pn_len]; exact hc.hl)
    have HLT : Hid (tg.length = n) := Lib.hid hc.tl
    clear hc hb hq7
    obtain ⟨wo, rfl⟩ : ∃ wo : World, wo = wr := ⟨_, rfl⟩
    go_wp2_with (go_at_call 27; (with_reducible refine HCL.out.mono ?_); rintro e w5 ⟨g2, h2, c1, c2, rfl, r1, r2, l1, l2, hb5⟩)
    have hq8 := Own.new w5 52 [.slice (some ⟨g2, 0, none⟩) n c1, .slice (some ⟨h2, 0, none⟩) n c2]
    have hb5a := hb5.alloc hb5.size (.cells #[.slice (some ⟨g2, 0, none⟩) n c1, .slice (some ⟨h2, 0, none⟩) n c2] 52)
    have hs5 := hb5.size
    have r1a := (r1.below ((Below.refl _ _).alloc (Nat.le_refl _) (.cells #[.slice (some ⟨g2, 0, none⟩) n c1, .slice (some ⟨h2, 0, none⟩) n c2] 52)) (Nat.le_refl _)).more (by simp : w5.heap.size ≤ (w5.alloc (.cells #[.slice (some ⟨g2, 0, none⟩) n c1, .slice (some ⟨h2, 0, none⟩) n c2] 52)).heap.size)
    have r2a := (r2.below ((Below.refl _ _).alloc (Nat.le_refl _) (.cells #[.slice (some ⟨g2, 0, none⟩) n c1, .slice (some ⟨h2, 0, none⟩) n c2] 52)) (Nat.le_refl _)).more (by simp : w5.heap.size ≤ (w5.alloc (.cells #[.slice (some ⟨g2, 0, none⟩) n c1, .slice (some ⟨h2, 0, none⟩) n c2] 52)).heap.size)
    obtain ⟨wL, hwL⟩ : ∃ x, x = w5.alloc (.cells #[.slice (some ⟨g2, 0, none⟩) n c1, .slice (some ⟨h2, 0, none⟩) n c2] 52) := ⟨_, rfl⟩
    rw [← hwL] at hq8 hb5a r1a r2a ⊢
    clear hwL r1 r2 hb5 HCL k0 k1
    obtain ⟨b8, hb8⟩ : ∃ b, w5.heap.size = b := ⟨_, rfl⟩
    rw [hb8] at hq8 hs5 ⊢
    clear hb8
    have hcL := HC.out.quiet hb5a
    have hq7L := HQ7.out.below hb5a h7l
    have hbL : Below w.heap.size w wL := HB.out.trans (hb5a.mono hsz)
    have hszL := hbL.size
    clear hb5a
    go_loopw [23] (fun i wr => ∃ (k : Nat) (hd1 : List Nat) (tg1 : List Int), k ≤ len ∧ i = .int .i64 k ∧ Cm wr g h n hd1 tg1 ∧ Hid (StpC q n hd tg hd1 tg1) ∧ Hid (∀ (j : Nat) (p : Qt), j < k → q[j]? = some p → DnC n p hd tg hd1 tg1) ∧ Wrote2 g h wL wr) (fun i _ => len - (intOf i).toNat)
    case atStart => exact ⟨0, hd, tg, Nat.zero_le _, rfl, hcL, Lib.hid (StpC.refl HI.out), Lib.hid (fun j p hj => absurd hj (by omega)), Wrote2.refl _⟩
    case round =>
      obtain ⟨k, hd1, tg1, hk, rfl, hc1, HS1, HD1, hw1⟩ := hrel
      have hbr : Below w.heap.size w wr := hbL.trans (hw1.below hgw.1 hgw.2 hszL)
      have hszr := hw1.size
      have hq7r := hw1.own hq7L (by omega) (by omega)
      have hq8r := hw1.own hq8 (by omega) (by omega)
      have k0 := hq7r.cell (j := 0) rfl
      have k1 := hq7r.cell (j := 1) rfl
      have j0 := hq8r.cell (j := 0) rfl
      have j1 := hq8r.cell (j := 1) rfl
      have h7r := hq7r.lt
      have h8r := hq8r.lt
      have HCR := Lib.hid hc1
      by_cases hlt : k < len
      · obtain ⟨ad, a, t, f, rfl, hbl, hdq, hc0, hc1', hc2⟩ := RdQ.at_ (hx.below hbr (Nat.le_refl _)) (k := k) (by rw [HL.out]; exact hlt)
        have HDQ := Lib.hid hdq
        have HP := Lib.hid (process_any (cg := cg) h8 (hc1.alloc (.cells #[.int .i64 (a : Int), .int .i64 (t : Int), .int .i64 (f : Int)] 41)) HS1.out.inv HQ.out (List.mem_of_getElem? hdq))
        clear hdq hc1
        go_wp2_with (go_at_call 28; (with_reducible refine HP.out.mono ?_); rintro e w6 ⟨rfl, hd2, tg2, hp2, hcm2, hw2⟩)
        have HS2 := Lib.hid (HS1.out.trans hp2.stp)
        have HDN : Hid (∀ (j : Nat) (p : Qt), j < k + 1 → q[j]? = some p → DnC n p hd tg hd2 tg2) := Lib.hid fun j p hj hp => by
          have hpr := HQ.out p (List.mem_of_getElem? hp)
          by_cases e : j = k
          · subst e
            rw [HDQ.out] at hp
            injection hp with hp
            subst hp
            exact hp2.done.grow ⟨hpr.2.2.1, hpr.2.2.2⟩ HS1.out (StpC.refl hp2.stp.inv)
          · exact (HD1.out j p (by omega) hp).grow ⟨hpr.2.2.1, hpr.2.2.2⟩ (StpC.refl HI.out) hp2.stp
        have hw3 : Wrote2 g h wL w6 := (hw1.trans (Wrote2.of_below ((Below.refl _ _).alloc (Nat.le_refl _) _))).trans hw2
        clear hp2 hw2 HP
        go_round
        case rel => exact ⟨k + 1, hd2, tg2, by omega, by go_num, hcm2, HS2, HDN, hw3⟩
        case measure => (simp [intOf]; omega)
      · have r1r := (r1a.wrote2 hw1 (by omega) (by omega) (Nat.le_refl _)).more hszr
        have r2r := (r2a.wrote2 hw1 (by omega) (by omega) (Nat.le_refl _)).more hszr
        have HEQ := Lib.hid (equal_anyC g h n cg g2 h2 c1 c2 hd1 tg1 (ni hd) tg wr hc1 r1r r2r HLH.out HLT.out h8)
        by_cases hss : ni hd1 = ni hd ∧ tg1 = tg
        · have hdd : (decide (ni hd1 = ni hd) && decide (tg1 = tg)) = true := by rw [decide_eq_true hss.1, decide_eq_true hss.2]; rfl
          rw [hdd] at HEQ
          obtain ⟨e1, e2⟩ := hss
          have e1 := ni_inj e1
          subst e1 e2
          have HST := Lib.hid (fun (Z : World) (cz : Cm Z g h n hd1 tg1) => sets_anyC q g h n cg hd1 tg1 Z cz HI.out h1 h8)
          have HDA : Hid (∀ p ∈ q, DnC n p hd1 tg1 hd1 tg1) := Lib.hid fun p hp => by
            obtain ⟨j, hj, rfl⟩ := List.getElem_of_mem hp
            exact HD1.out j q[j] (by rw [HL.out] at hj; omega) (List.getElem?_eq_getElem hj)
          have HQ7R := Lib.hid hq7r
          clear hdd hc1 hq7r
          go_wp2_with (first
            | (go_at_call 29; (with_reducible refine HEQ.out.mono ?_); rintro e w7 ⟨rfl, hb7⟩; have q7 := HQ7R.out.below hb7 h7r; have m0 := q7.cell (j := 0) rfl; have m1 := q7.cell (j := 1) rfl)
            | (go_at_call 30; (with_reducible refine (HST.out _ (HCR.out.quiet hb7)).mono ?_); rintro e w9 ⟨S, A', c', hT, rfl, hrS, hb9⟩))
          have HT : Hid (Tel n (Sg q n true) S) := Lib.hid ⟨hT.len, hT.lt, fun i x hi => by
            rw [hT.bit i x hi]
            constructor
            · rintro ⟨hx, ht⟩
              exact ht.snd HI.out hi hx
            · intro hs
              exact ⟨(hs.lt HQ.out).2, by simpa using Sg.told HQ.out HI.out HDA.out hs⟩⟩
          clear hT
          go_ret2
          exact ⟨S, A', c', HT.out, rfl, hrS, hbr.trans ((below_via2 hb7 hb9).mono hbr.size)⟩
        · have hdd : (decide (ni hd1 = ni hd) && decide (tg1 = tg)) = false := by
            rw [Bool.and_eq_false_iff, decide_eq_false_iff_not, decide_eq_false_iff_not]
            by_cases e : ni hd1 = ni hd
            · exact .inr fun e2 => hss ⟨e, e2⟩
            · exact .inl e
          rw [hdd] at HEQ
          have HM : Hid (clsN hd1 + nonN tg1 < clsN hd + nonN tg) := Lib.hid (HS1.out.mu.elim (fun e => absurd ⟨by rw [e.1], e.2⟩ hss) id)
          have HQ7R := Lib.hid hq7r
          clear hss hdd hc1 hq7r
          go_wp2_with (go_at_call 29; (with_reducible refine HEQ.out.mono ?_); rintro e w7 ⟨rfl, hb7⟩)
          have hc7 := HCR.out.quiet hb7
          have HC7 := Lib.hid hc7
          clear hc7
          go_round
          case rel => exact ⟨hd1, tg1, HC7.out, HQ7R.out.below hb7 h7r, Lib.hid HS1.out.inv, hbr.trans (hb7.mono hbr.size)⟩
          case measure =>
            have e1 := HC7.out.mu
            have e2 := HMU.out
            have e3 := HM.out
            rw [e1, e2]
            exact e3

set_option maxHeartbeats 1000000 in
theorem joined_bad (n : Int) (A : Option Addr) (len cap : Nat) (l : List Pz) (w : World) (hx : RdPz w w.heap.size A l) (hl : l.length = len) (hm : len ≤ maxLen) (hck : ckPz n l ≠ 0) :
    Calls Try.prog 13 #[.int .i64 n, .slice A len cap] w fun e w' => e = .returned (.tuple #[.slice none 0 0, .int .i64 (ckPz n l)]) ∧ Below w.heap.size w w' := by
  have HCK := Lib.hid (pzCheck_any n A len cap l w hx hl hm)
  have hne : (ckPz n l != 0) = true := by simp [hck]
  obtain ⟨c, hc⟩ : ∃ c, ckPz n l = c := ⟨_, rfl⟩
  rw [hc] at HCK hne ⊢
  clear hc hck hx hl
  go_enter Try.func13, Try.ntmps13
  go_wp2_with (go_at_call 20; (with_reducible refine HCK.out.mono ?_); rintro e w0 ⟨rfl, hb0⟩)
  go_ret2
  exact ⟨rfl, hb0⟩

end Go.Proofs.Ytfbnmgnkigfgpaa
