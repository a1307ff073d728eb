/-
  jump.Lay returns the addresses and the sizes with the smallest set of long jumps (X1).
-/
import Derived.Test.YthckglpleiojkaaJpLong
namespace Go.Proofs.Ythckglpleiojkaa
open Go.RowKit
set_option linter.unusedSimpArgs false
set_option linter.unusedVariables false
set_option maxRecDepth 100000

/-- what a block's numbers add up to -/
def cellJ (w : World) (g : Nat) : Nat :=
  match w.heap[g]? with
  | some (.cells a _ _) => (a.toList.map fun v => match v with | .int _ x => x.toNat | _ => 0).sum
  | _ => 0

theorem sum_toNat : ∀ {xs : List Int}, (∀ x ∈ xs, 0 ≤ x) → (xs.map Int.toNat).sum = xs.sum.toNat ∧ 0 ≤ xs.sum
  | [], _ => ⟨rfl, Int.le_refl _⟩
  | x :: r, h => by
    obtain ⟨h1, h2⟩ := sum_toNat (xs := r) fun y hy => h y (List.mem_cons_of_mem _ hy)
    have h3 := h x (List.mem_cons_self ..)
    rw [List.map_cons, List.sum_cons, List.sum_cons, h1]
    omega

theorem cellJ_own {w : World} {g W : Nat} {l : List Pc} {t : TypeId} (hk : PcOk l) (h : Own w g t (iv (szl l W))) : cellJ w g = (atP l W l.length).toNat := by
  unfold Own at h
  unfold cellJ
  rw [h]
  have h1 := (sum_toNat (xs := szl l W) fun x hx => by
    unfold szl at hx
    obtain ⟨i, _, rfl⟩ := List.mem_map.1 hx
    exact (szP_bd hk W i).1).1
  have h2 := szl_sum (l := l) W l.length (Nat.le_refl _)
  rw [List.take_of_length_le (by rw [szl_len]; exact Nat.le_refl _)] at h2
  rw [← h2, ← h1]
  simp only [iv, List.map_map]
  rfl

theorem lay_less {l : List Pc} (hk : PcOk l) {W : Nat} (h : lgA l W l.length = true) : 2200 - (atP l (lgW l W l.length) l.length).toNat < 2200 - (atP l W l.length).toNat := by
  have h1 := lg_end hk h
  have h2 := at_bd hk W l.length
  have h3 := at_bd hk (lgW l W l.length) l.length
  have h4 := hk.len
  omega

set_option maxHeartbeats 8000000 in
theorem lay_ok (A : Option Addr) (len cap : Nat) (l : List Pc) (w : World) (hx : RdPc w w.heap.size A l) (hl : l.length = len) (hc : ckPc l = 0) :
    Calls Try.prog 5 #[.slice A len cap] w fun e w' => (∃ (W ga gs : Nat), e = .returned (.tuple #[.slice (some ⟨ga, 0, none⟩) (len + 1) (len + 1), .slice (some ⟨gs, 0, none⟩) len len, .int .i64 0]) ∧ FinW l W ∧ Own w' ga 3 (iv (atl l W)) ∧ Own w' gs 3 (iv (szl l W)) ∧ w.heap.size ≤ ga ∧ w.heap.size ≤ gs) ∧ Below w.heap.size w w' := by
  have HL := Lib.hid hl
  have HC := Lib.hid hc
  have hk := ckPc_ok hc
  have HK := Lib.hid hk
  have HX := Lib.hid hx
  obtain ⟨n1, hn1⟩ : ∃ n1, n1 = len + 1 := ⟨_, rfl⟩
  have HN1 := Lib.hid hn1
  rw [← hn1]
  have HCK := Lib.hid (pcCheck_any A len cap l w hx hl)
  clear hx hl hc hk hn1
  go_enter Try.func5, Try.ntmps5
  go_wp2_with fail
  refine HCK.out.mono ?_
  rintro e w1 ⟨rfl, hb1⟩
  rw [HC.out]
  have HX1 := Lib.hid ((HX.out.below hb1 (Nat.le_refl _)).more hb1.size)
  have hs1 := hb1.size
  go_wp2_with fail
  refine (smallest_any A len cap l w1 HX1.out HL.out HK.out).mono ?_
  rintro e w2 ⟨rfl, hO2, hb2⟩
  obtain ⟨gs, hgs⟩ : ∃ g, w1.heap.size = g := ⟨_, rfl⟩
  have hs2 := hb2.size
  have hgl2 := hO2.lt
  have HAD := addresses_any (some ⟨w1.heap.size, 0, none⟩) len len l 0 w2 ((OwnI.rd hO2).more hgl2) HL.out HK.out
  rw [hgs] at HAD hO2 hgl2
  rw [← HN1.out] at HAD
  simp only [hgs]
  have HADD := Lib.hid HAD
  have HGS := Lib.hid hgs
  clear HAD hgs
  go_wp2_with fail
  refine HADD.out.mono ?_
  rintro e w3 ⟨rfl, hO3, hb3⟩
  have hs3 := hb3.size
  have hbw : Below w.heap.size w w3 := hb1.trans ((hb2.mono hs1).trans (hb3.mono (by omega)))
  have hO2b := hO2.below hb3 hgl2
  have hgs1 : w.heap.size ≤ gs := by rw [← HGS.out]; exact hs1
  have hne3 : w2.heap.size ≠ gs := by omega
  have HNE3 := Lib.hid hne3
  have hga3 : w.heap.size ≤ w2.heap.size := by omega
  clear hO2 hgl2 hb2 hb3 hs1 hs2 hne3
  go_wp2
  go_loopw [7] (fun a wr => ∃ W ga : Nat, a = .slice (some ⟨ga, 0, none⟩) n1 n1 ∧ Hid (GoI l W ∧ ga ≠ gs ∧ w.heap.size ≤ ga ∧ Own wr ga 3 (iv (atl l W)) ∧ Own wr gs 3 (iv (szl l W)) ∧ Below w.heap.size w wr)) (fun _ wr => 2200 - cellJ wr gs)
  case atStart => exact ⟨0, _, rfl, Lib.hid ⟨GoI.zero l, HNE3.out, hga3, hO3, hO2b, hbw⟩⟩
  case round =>
    obtain ⟨W, ga, rfl, HR⟩ := hrel
    have HLO : Hid (Calls Try.prog 13 #[.slice A len cap, .slice (some ⟨ga, 0, none⟩) n1 n1, .slice (some ⟨gs, 0, none⟩) len len] wr fun e w' => e = .returned (.bool (lgA l W len)) ∧ Own w' gs 3 (iv (szl l (lgW l W len))) ∧ Wrote gs wr w') :=
      Lib.hid (lengthen_any A len n1 cap ga gs w.heap.size HN1.out l W wr (HX.out.below HR.out.2.2.2.2.2 (Nat.le_refl _)) HL.out HK.out hgs1 HR.out.2.1 HR.out.2.2.2.1 HR.out.2.2.2.2.1)
    cases hf : lgA l W len with
    | true =>
      have HF := Lib.hid hf
      rw [hf] at HLO
      clear hf
      go_wp2_with fail
      refine HLO.out.mono ?_
      rintro e w4 ⟨rfl, hO4, hw4⟩
      have hbw4 : Below w.heap.size w w4 := HR.out.2.2.2.2.2.trans (hw4.below hgs1 HR.out.2.2.2.2.2.size)
      have hgl4 := hO4.lt
      have HAD := addresses_any (some ⟨gs, 0, none⟩) len len l (lgW l W len) w4 ((OwnI.rd hO4).more hgl4) HL.out HK.out
      rw [← HN1.out] at HAD
      have HADD4 := Lib.hid HAD
      have HO4 := Lib.hid hO4
      have HB4 := Lib.hid hbw4
      have HS4 := Lib.hid hbw4.size
      clear HAD hO4 hw4 hbw4
      go_wp2_with fail
      refine HADD4.out.mono ?_
      rintro e w5 ⟨rfl, hO5, hb5⟩
      have HO5 := Lib.hid hO5
      have HB5 := Lib.hid hb5
      clear hO5 hb5
      go_wp2
      go_round
      case rel => exact ⟨lgW l W len, _, rfl, Lib.hid ⟨by have := GoI.next HK.out HR.out.1 len; exact this, by omega, by have := HS4.out; omega, HO5.out, HO4.out.below HB5.out hgl4, HB4.out.trans (HB5.out.mono HS4.out)⟩⟩
      case measure =>
        have h1 := cellJ_own HK.out (HO4.out.below HB5.out hgl4)
        have h2 := cellJ_own HK.out HR.out.2.2.2.2.1
        have h3 := HF.out
        rw [← HL.out] at h3 h1
        have h4 := lay_less HK.out h3
        rw [h1, h2]
        exact h4
    | false =>
      have hfin : FinW l W := HR.out.1.fin HK.out (by rw [HL.out]; exact hf)
      have hsame : lgW l W len = W := lgW_same hf
      rw [hf, hsame] at HLO
      have HFIN := Lib.hid hfin
      clear hf hfin hsame
      go_wp2_with fail
      refine HLO.out.mono ?_
      rintro e w4 ⟨rfl, hO4, hw4⟩
      have hbw4 : Below w.heap.size w w4 := HR.out.2.2.2.2.2.trans (hw4.below hgs1 HR.out.2.2.2.2.2.size)
      have hO6 : Own w4 ga 3 (iv (atl l W)) := (hw4.block ga HR.out.2.2.2.1.lt HR.out.2.1).trans HR.out.2.2.2.1
      have HALL := Lib.hid (And.intro hO4 (And.intro hO6 hbw4))
      clear hO4 hw4 hbw4 hO6
      go_wp2
      go_returns
      exact ⟨⟨W, ga, gs, rfl, HFIN.out, HALL.out.2.1, HALL.out.1, HR.out.2.2.1, hgs1⟩, HALL.out.2.2⟩

set_option maxHeartbeats 4000000 in
theorem lay_no (A : Option Addr) (len cap : Nat) (l : List Pc) (w : World) (hx : RdPc w w.heap.size A l) (hl : l.length = len) (hc : ckPc l ≠ 0) :
    Calls Try.prog 5 #[.slice A len cap] w fun e w' => e = .returned (.tuple #[.slice none 0 0, .slice none 0 0, .int .i64 (ckPc l)]) ∧ Below w.heap.size w w' := by
  have HCK := Lib.hid (pcCheck_any A len cap l w hx hl)
  have hne : (ckPc l != 0) = true := by simp [hc]
  clear hx hl hc
  go_enter Try.func5, Try.ntmps5
  go_wp2_with fail
  refine HCK.out.mono ?_
  rintro e w1 ⟨rfl, hb1⟩
  go_wp2
  go_returns
  exact ⟨rfl, hb1⟩

end Go.Proofs.Ythckglpleiojkaa
