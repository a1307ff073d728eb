/-
  way.Back (E2): the pairs that go back.
-/
import Derived.Test.YtpbajalecfaibaaWayOrd
namespace Go.Proofs.Ytpbajalecfaibaa
open Go.RowKit
set_option linter.unusedSimpArgs false
set_option linter.unusedVariables false
set_option maxRecDepth 100000

theorem idxL_in {L : List Nat} {x : Nat} (h : x ∈ L) : idxL L x = ((posL L x : Nat) : Int) := by unfold idxL; rw [if_pos h]

theorem idxL_out {L : List Nat} {x : Nat} (h : x ∉ L) : idxL L x = -1 := by unfold idxL; rw [if_neg h]

set_option maxHeartbeats 4000000 in
theorem wayBack_any (A : Option Addr) (len cap : Nat) (nx : List (List Int)) (w : World) (hx : RdG w w.heap.size A nx) (hl : nx.length = len) (hc : ckWay nx = 0) :
    Calls Try.prog 48 #[.slice A len cap] w fun e w' => ∃ A' c', e = .returned (.tuple #[.slice A' (bkL nx).length c', .int .i64 0]) ∧ RdR pv w' w'.heap.size A' 2 (bkL nx) ∧ Below w.heap.size w w' := by
  obtain ⟨b1, b2, b3⟩ := ckWay_bd hc
  have HC := Lib.hid hc
  have HL := Lib.hid hl
  have HFL := Lib.hid (fin_len hc)
  rw [hl] at b1 b2
  have hmm : len ≤ maxLen := by unfold maxLen; omega
  clear hl hc b3
  go_enter Try.func48, Try.ntmps48
  go_wp2_with fail
  refine (wayCheck_any A len cap nx _ hx HL.out hmm).mono ?_
  rintro e w1 ⟨rfl, hb1⟩
  rw [HC.out]
  have hx1 := (hx.below hb1 (Nat.le_refl _)).more hb1.size
  go_wp2_with fail
  refine (wayFin_any A len cap nx 0 _ hx1 HL.out HC.out (by omega)).mono ?_
  rintro e wo ⟨A2, c2, rfl, hr2, hb2⟩
  rw [fiL_zero] at hr2 ⊢
  have hrd0 := own_rdI hr2 (by simp [ni])
  have hfl := HFL.out
  rw [HL.out] at hfl
  obtain ⟨fn, hfn⟩ : ∃ fn, (finL nx).length = fn := ⟨_, rfl⟩
  rw [hfn] at hfl ⊢
  have HFN := Lib.hid hfn
  have hbw : Below w.heap.size w wo := hb1.trans (hb2.mono hb1.size)
  have hxo := (hx.below hbw (Nat.le_refl _)).more hbw.size
  have hfm : fn ≤ 65536 := by omega
  clear hfn hr2 hb1 hb2
  go_wp2_with fail
  go_loopw [6, 21] (fun s z wr => ∃ (i : Nat) (A3 : Option Addr) (c3 : Nat), i ≤ len ∧ z = .int .i64 i ∧ s = .slice A3 (bkM nx i).length c3 ∧ wr.ownsRow wo.heap.size 57 2 (.slice A3 (bkM nx i).length c3) (bkM nx i).length (rv pv (bkM nx i)) ∧ Below wo.heap.size wo wr) (fun _ z _ => len - (intOf z).toNat)
  case atStart => exact ⟨0, none, 0, Nat.zero_le _, rfl, rfl, World.ownsRow_nil _ _ _ _, Below.refl _ _⟩
  case round =>
    obtain ⟨i, A3, c3, hi, rfl, rfl, hown, hb⟩ := hrel
    have hsz := hb.size
    by_cases hlt : i < len
    · have hml := bkM_len nx i
      have hml' : (bkM nx i).length ≤ 64 := by
        rw [HL.out] at hml
        have : i * len ≤ 8 * 8 := Nat.mul_le_mul (by omega) b2
        omega
      have HM1 : Hid (bkM nx (i + 1) = bkM nx i ++ bkR nx i len) := Lib.hid (by rw [bkM, HL.out])
      generalize hgm : bkM nx i = pm at *
      obtain ⟨ad, row, Ar, cr, rfl, hbl, hd, hcell, hrow⟩ := hxo.at_ (k := i) (by rw [HL.out]; exact hlt)
      have hrs := row_sc HC.out hd
      subst hrs
      obtain ⟨sl, hsl2⟩ : ∃ sl, (ni (sc nx i)).length = sl := ⟨_, rfl⟩
      have hsl3 : sl ≤ 3 := by have := sc_len HC.out i; rw [← hsl2]; simpa [ni] using this
      rw [hsl2] at hcell
      have HSL : Hid ((sc nx i).length = sl) := Lib.hid (by rw [← hsl2]; simp [ni])
      have hslm : sl ≤ 65536 := by omega
      have HSC := Lib.hid (fun x (hx : x ∈ sc nx i) => sc_lt HC.out hx)
      have HSC32 : Hid (∀ x ∈ sc nx i, x < 32) := Lib.hid fun x hx => by have := HSC.out x hx; rw [HL.out] at this; omega
      have hsw : setW (sc nx i) < 4294967296 := by
        have := setW_lt (n := 32) HSC32.out
        simpa using this
      have hcellr := (hb.cell (p := ad.add i) hbl).trans hcell
      have hrowr := hrow.below hb (Nat.le_refl _)
      have hrdr := hrd0.below hb (Nat.le_refl _)
      have HBIT := Lib.hid (fun x => setW_bits (hs := sc nx i) (x := x))
      obtain ⟨sw, hswe⟩ : ∃ sw, setW (sc nx i) = sw := ⟨_, rfl⟩
      have HSW := Lib.hid hswe
      rw [hswe] at hsw
      clear hgm hsl2 hd hml hswe
      obtain ⟨wv, rfl⟩ : ∃ wv : World, wv = wr := ⟨_, rfl⟩
      obtain ⟨v, hv⟩ : ∃ v, idxL (finL nx) i = v := ⟨_, rfl⟩
      have HV := Lib.hid hv
      clear hv
      go_wp2_with (first
        | (go_at_call 54; (with_reducible refine (index_any A2 fn c2 (finL nx) i _ _ hrdr HFN.out hfm).mono ?_); rw [HV.out]; rintro e w5 ⟨rfl, rfl⟩)
        | (go_at_call 46; (with_reducible refine (waySetOf_any Ar sl cr (sc nx i) _ _ hrowr HSL.out HSC32.out hslm).mono ?_); rw [HSW.out]; rintro e w5 ⟨rfl, rfl⟩))
      go_loopw [6, 33] (fun s z wr => ∃ (j : Nat) (A4 : Option Addr) (c4 : Nat), j ≤ len ∧ z = .int .i64 j ∧ s = .slice A4 (pm ++ bkR nx i j).length c4 ∧ wr.ownsRow wo.heap.size 57 2 (.slice A4 (pm ++ bkR nx i j).length c4) (pm ++ bkR nx i j).length (rv pv (pm ++ bkR nx i j)) ∧ Below wo.heap.size wo wr) (fun _ z _ => len - (intOf z).toNat)
      case atStart => exact ⟨0, A3, c3, Nat.zero_le _, rfl, by simp [bkR], by simp only [bkR, List.range_zero, List.filter_nil, List.map_nil, List.append_nil]; exact hown, hb⟩
      case round =>
        obtain ⟨j, A4, c4, hj, rfl, rfl, hown4, hb4⟩ := hrel
        have hsz4 := hb4.size
        by_cases hjt : j < len
        · have hrl := bkR_len nx i j
          have hql : (pm ++ bkR nx i j).length ≤ 72 := by rw [List.length_append]; omega
          have hnx := bkR_succ nx i j
          have hbk : bkB nx i j = decide (i ∈ finL nx ∧ j ∈ sc nx i ∧ posL (finL nx) i ≤ posL (finL nx) j) := rfl
          have hrdi := hrd0.below hb4 (Nat.le_refl _)
          have hstay : bkB nx i j = false → pm ++ bkR nx i (j + 1) = pm ++ bkR nx i j := fun h => by rw [hnx, if_neg (by rw [h]; simp)]
          have hgo : bkB nx i j = true → pm ++ bkR nx i (j + 1) = (pm ++ bkR nx i j) ++ [(i, j)] := fun h => by rw [hnx, if_pos h, List.append_assoc]
          have hj32 : j < 32 := by omega
          have hbit := HBIT.out j
          rw [HSW.out] at hbit
          clear hnx hrl
          generalize pm ++ bkR nx i j = q at *
          have hvv := HV.out
          by_cases h1 : i ∈ finL nx
          · rw [idxL_in h1] at hvv
            by_cases h2 : j ∈ sc nx i
            · rw [decide_eq_true h2] at hbit
              have h3 : j ∈ finL nx := fin_sc HC.out h1 h2
              have HI := Lib.hid (idxL_in h3)
              by_cases h4 : posL (finL nx) i ≤ posL (finL nx) j
              · have HGO := Lib.hid (hgo (by rw [hbk]; exact decide_eq_true ⟨h1, h2, h4⟩))
                have h63 : q.length + 1 ≤ maxLen := by unfold maxLen; omega
                have hbig : (q.length + 1) * 16 ≤ 140737488355328 := by omega
                generalize posL (finL nx) i = pi at *
                generalize posL (finL nx) j = pj at *
                have hv0 : 0 ≤ v := by omega
                have hv1 : v ≤ (pj : Int) := by omega
                clear hgo hstay hbk h1 h2 h3 hvv h4
                go_wp2_with (first
                  | (go_at_call 40; (with_reducible refine (wayHas_any sw j _ hsw hj32).mono ?_); rw [hbit]; rintro e w5 ⟨rfl, rfl⟩)
                  | (go_at_call 54; (with_reducible refine (index_any A2 fn c2 (finL nx) j _ _ hrdi HFN.out hfm).mono ?_); rw [HI.out]; rintro e w5 ⟨rfl, rfl⟩)
                  | (at_builtin; refine wpList_app rfl (.tmp 50) (.tmp 54) 53 rfl wo.heap.size 57 2 16 pair_app _ rfl (hown4.alloc _) [.int .i64 (i : Int), .int .i64 (j : Int)] rfl rfl (fun h => by cases h) (cells_at rfl _ _) (pv_one _ _) h63 hbig (by simp; omega) ?_; intro A5 c5 w5 hown5 hg5 hb5))
                go_round
                case rel =>
                  have hlx : (pm ++ bkR nx i (j + 1)).length = q.length + 1 := by rw [HGO.out]; simp
                  exact ⟨j + 1, A5, c5, by omega, by go_num, by rw [hlx], by rw [hlx, HGO.out, rv_append]; exact hown5, (hb4.alloc hsz4 _).trans hb5⟩
                case measure => (simp [intOf]; omega)
              · have HST := Lib.hid (hstay (by rw [hbk]; exact decide_eq_false (fun h => h4 h.2.2)))
                generalize posL (finL nx) i = pi at *
                generalize posL (finL nx) j = pj at *
                have hv0 : 0 ≤ v := by omega
                have hv1 : ¬ v ≤ (pj : Int) := by omega
                clear hgo hstay hbk h1 h2 h3 hvv h4
                go_wp2_with (first
                  | (go_at_call 40; (with_reducible refine (wayHas_any sw j _ hsw hj32).mono ?_); rw [hbit]; rintro e w5 ⟨rfl, rfl⟩)
                  | (go_at_call 54; (with_reducible refine (index_any A2 fn c2 (finL nx) j _ _ hrdi HFN.out hfm).mono ?_); rw [HI.out]; rintro e w5 ⟨rfl, rfl⟩))
                go_round
                case rel => exact ⟨j + 1, A4, c4, by omega, by go_num, by rw [HST.out], by rw [HST.out]; exact hown4, hb4⟩
                case measure => (simp [intOf]; omega)
            · rw [decide_eq_false h2] at hbit
              have HST := Lib.hid (hstay (by rw [hbk]; exact decide_eq_false (fun h => h2 h.2.1)))
              have hv0 : 0 ≤ v := by omega
              clear hgo hstay hbk h1 h2 hvv
              go_wp2_with (go_at_call 40; (with_reducible refine (wayHas_any sw j _ hsw hj32).mono ?_); rw [hbit]; rintro e w5 ⟨rfl, rfl⟩)
              go_round
              case rel => exact ⟨j + 1, A4, c4, by omega, by go_num, by rw [HST.out], by rw [HST.out]; exact hown4, hb4⟩
              case measure => (simp [intOf]; omega)
          · rw [idxL_out h1] at hvv
            have HST := Lib.hid (hstay (by rw [hbk]; exact decide_eq_false (fun h => h1 h.1)))
            have hv0 : ¬ 0 ≤ v := by omega
            clear hgo hstay hbk h1 hvv
            go_wp2_with fail
            go_round
            case rel => exact ⟨j + 1, A4, c4, by omega, by go_num, by rw [HST.out], by rw [HST.out]; exact hown4, hb4⟩
            case measure => (simp [intOf]; omega)
        · have hjl : j = len := by omega
          subst hjl
          rw [← HM1.out] at hown4
          obtain ⟨ql, hq⟩ : ∃ ql, (bkM nx (i + 1)).length = ql := ⟨_, rfl⟩
          rw [hq] at hown4
          have HQ := Lib.hid hq
          have HMQ : Hid ((pm ++ bkR nx i j).length = ql) := Lib.hid (by rw [← HM1.out]; exact hq)
          rw [HMQ.out]
          clear hq
          show Code.wp _ _ _ _ _
          go_wp2
          go_round
          case rel => exact ⟨i + 1, A4, c4, by omega, by go_num, by rw [HQ.out], by rw [HQ.out]; exact hown4, hb4⟩
          case measure => (simp [intOf]; omega)
    · have hil : i = len := by omega
      subst hil
      have hbe : bkM nx i = bkL nx := by unfold bkL; rw [HL.out]
      rw [hbe] at hown
      have HBE := Lib.hid hbe
      have HOW := Lib.hid (own_rdR hown rfl)
      clear hbe
      go_wp2
      go_ret2
      exact ⟨A3, c3, by rw [HBE.out]; rfl, HOW.out, hbw.trans (hb.mono hbw.size)⟩

theorem wayBack_bad (A : Option Addr) (len cap : Nat) (nx : List (List Int)) (w : World) (hx : RdG w w.heap.size A nx) (hl : nx.length = len) (hm : len ≤ maxLen) (hc : ckWay nx ≠ 0) :
    Calls Try.prog 48 #[.slice A len cap] w fun e w' => ∃ A' c', e = .returned (.tuple #[.slice A' 0 c', .int .i64 (ckWay nx)]) ∧ Below w.heap.size w w' := by
  have hne : (ckWay nx != 0) = true := by simp [hc]
  clear hc
  go_enter Try.func48, Try.ntmps48
  go_wp2_with fail
  refine (wayCheck_any A len cap nx _ hx hl hm).mono ?_
  rintro e w1 ⟨rfl, hb1⟩
  go_wp2
  go_ret2
  exact ⟨none, 0, rfl, hb1⟩

end Go.Proofs.Ytpbajalecfaibaa
