/-
  codemasonref.BackPairs and Twos (E2): the pairs that go back.
-/
import Derived.Test.YtpbajalecfaibaaWalkRef
import Derived.Test.YtpbajalecfaibaaRec
namespace Go.Proofs.Ytpbajalecfaibaa
open Go.RowKit
set_option linter.unusedSimpArgs false
set_option linter.unusedVariables false
set_option maxRecDepth 100000

/-- a pair as cells -/
def pv (p : Nat × Nat) : List Value := [.int .i64 (p.1 : Int), .int .i64 (p.2 : Int)]

theorem pv_len : ∀ p, (pv p).length = 2 := fun _ => rfl

theorem pv_one (a b : Nat) : ∀ u ∈ ([.int .i64 (a : Int), .int .i64 (b : Int)] : List Value), u.oneCell' = true := fun u hu => by
  simp at hu
  rcases hu with rfl | rfl <;> rfl

theorem pair_app : AppTy Try.prog 53 57 2 16 := appTy_of (z := .agg #[.int .i64 0, .int .i64 0]) Try.underlying53 (by kernel_rfl) rfl (by omega)

theorem posL_le {l : List Nat} {x k : Nat} (hd : l.Nodup) (h : l[k]? = some x) : posL l x = k := posL_at hd h

set_option maxHeartbeats 1000000 in
theorem refAt_any (x : Nat) (p : Addr) (A : Option Addr) (n c : Nat) (L : List Nat) (B : Nat) (w : World) (hp : w.cell? p = some (.slice A n c)) (hx : RdI w B A (ni L)) (hl : L.length = n) (hm : n ≤ 65536) (hd : L.Nodup) (hin : x ∈ L) :
    Calls Try.prog 50 #[.int .i64 x, .pointer (some p)] w fun e w' => e = .returned (.int .i64 (posL L x : Nat)) ∧ w = w' := by
  have hpos := posL_lt hin
  have HL := Lib.hid hl
  have HNL : Hid ((ni L).length = n) := Lib.hid (by simp [ni, hl])
  have HD := Lib.hid hd
  obtain ⟨hp1, hp2⟩ := hpos
  rw [hl] at hp1
  have HP2 := Lib.hid hp2
  clear hl hd hin hp2
  go_enter Try.func50, Try.ntmps50
  go_wp2
  go_loop [8] (fun i => ∃ k : Nat, k ≤ posL L x ∧ i = .int .i64 k) (fun i => n - (intOf i).toNat)
  case atStart => exact ⟨0, Nat.zero_le _, rfl⟩
  case round =>
    obtain ⟨k, hk, rfl⟩ := hrel
    have hlt : k < n := by omega
    obtain ⟨ad, y', rfl, hbl, hd, hcell⟩ := hx.at_ (k := k) (by rw [HNL.out]; exact hlt)
    obtain ⟨y, hy⟩ : ∃ y, L[k]? = some y := ⟨_, List.getElem?_eq_getElem (by rw [HL.out]; exact hlt)⟩
    rw [ni_at hy] at hd
    injection hd with hd
    subst hd
    by_cases hkx : k = posL L x
    · have hyx : y = x := by rw [hkx, HP2.out] at hy; injection hy with hy; exact hy.symm
      subst hyx
      have HK := Lib.hid hkx
      clear hy hkx
      go_wp2
      go_ret
      exact ⟨ret_int (by rw [← HK.out]), rfl⟩
    · have hyx : y ≠ x := fun e => hkx (by rw [← e]; exact (posL_at HD.out hy).symm)
      have hb : ((y : Int) == (x : Int)) = false := by simp; omega
      clear hy hyx
      go_wp2
      go_round
      case rel => exact ⟨k + 1, by omega, by go_num⟩
      case measure => (simp [intOf]; omega)

set_option maxHeartbeats 4000000 in
theorem refBack_any (A : Option Addr) (len cap : Nat) (nx : List (List Int)) (w : World) (hx : RdG w w.heap.size A nx) (hl : nx.length = len) (hc : ckWay nx = 0) :
    Calls Try.prog 38 #[.slice A len cap] w fun e w' => ∃ A' c', e = .returned (.slice A' (bkL nx).length c') ∧ RdR pv w' w'.heap.size A' 2 (bkL nx) ∧ Below w.heap.size w w' := by
  obtain ⟨b1, b2, b3⟩ := ckWay_bd hc
  have HC := Lib.hid hc
  have HL := Lib.hid hl
  have HFL := Lib.hid (fin_len hc)
  have HFD := Lib.hid (fin_nodup hc)
  have HW := Lib.hid (refWalk_any A len cap nx w.heap.size hl hc len 0 ([], []) none none 0 0 w hx ⟨by simp, by simp, by simp [hl]⟩ (by omega) (by simp) (by simp) (Wl.nil (Nat.le_refl _)))
  have hfe : (wkF nx len 0 ([], [])).2 = finL nx := by unfold finL; rw [hl]
  have HFE := Lib.hid hfe
  rw [hl] at b1 b2
  clear hl hc b3 hfe
  go_enter Try.func38, Try.ntmps38
  go_wp2_with fail
  refine HW.out.mono ?_
  rintro e w1 ⟨A1, c1, A2, c2, rfl, hW1, hb1⟩
  rw [HFE.out]
  have hr2 := hW1.r2
  rw [HFE.out] at hr2
  have hrd := own_rdI hr2 (by simp [ni])
  have hfl := HFL.out
  rw [HL.out] at hfl
  obtain ⟨fn, hfn⟩ : ∃ fn, (finL nx).length = fn := ⟨_, rfl⟩
  rw [hfn] at hfl ⊢
  have HFN := Lib.hid hfn
  have HNL : Hid ((ni (finL nx)).length = fn) := Lib.hid (by simp [ni, hfn])
  clear hW1 hr2 hfn
  have hfm : fn ≤ maxLen := by unfold maxLen; omega
  have hs1 := hb1.size
  go_wp2_with fail
  obtain ⟨wo, hwo⟩ : ∃ wo, wo = w1.alloc (.cells #[.slice A2 fn c2] 37) := ⟨_, rfl⟩
  have hbo : Below w1.heap.size w1 wo := by rw [hwo]; go_grown
  have hso : wo.heap.size = w1.heap.size + 1 := by rw [hwo]; simp
  have hbx : wo.cell? ⟨w1.heap.size, 0, none⟩ = some (.slice A2 fn c2) := by rw [hwo]; exact cell_new rfl rfl
  have hrd0 : RdI wo wo.heap.size A2 (ni (finL nx)) := (hrd.below hbo (Nat.le_refl _)).more (by omega)
  have hbw : Below w.heap.size w wo := hb1.trans (hbo.mono hs1)
  have hxo := (hx.below hbw (Nat.le_refl _)).more hbw.size
  rw [← hwo]
  have HSO := Lib.hid hso
  have hsl : w1.heap.size < wo.heap.size := by omega
  clear hwo hbo hso hrd hb1
  go_loopw [6, 7] (fun s z wr => ∃ (i : Nat) (A3 : Option Addr) (c3 : Nat), i ≤ len ∧ z = .int .i64 i ∧ s = .slice A3 (bkM nx i).length c3 ∧ wr.ownsRow wo.heap.size 57 2 (.slice A3 (bkM nx i).length c3) (bkM nx i).length (rv pv (bkM nx i)) ∧ Below wo.heap.size wo wr) (fun _ z _ => len - (intOf z).toNat)
  case atStart => exact ⟨0, none, 0, Nat.zero_le _, rfl, rfl, World.ownsRow_nil _ _ _ _, Below.refl _ _⟩
  case round =>
    obtain ⟨i, A3, c3, hi, rfl, rfl, hown, hb⟩ := hrel
    have hsz := hb.size
    by_cases hlt : i < len
    · have hml := bkM_len nx i
      have hml' : (bkM nx i).length ≤ 64 := by
        rw [HL.out] at hml
        have : i * len ≤ 8 * 8 := Nat.mul_le_mul (by omega) b2
        omega
      have HM1 : Hid (bkM nx (i + 1) = bkM nx i ++ bkR nx i len) := Lib.hid (by rw [bkM, HL.out])
      generalize hgm : bkM nx i = pm at *
      have HGM := Lib.hid hgm
      obtain ⟨ad, row, Ar, cr, rfl, hbl, hd, hcell, hrow⟩ := hxo.at_ (k := i) (by rw [HL.out]; exact hlt)
      have hrs := row_sc HC.out hd
      subst hrs
      obtain ⟨sl, hsl2⟩ : ∃ sl, (ni (sc nx i)).length = sl := ⟨_, rfl⟩
      have hsl3 : sl ≤ 3 := by have := sc_len HC.out i; rw [← hsl2]; simpa [ni] using this
      rw [hsl2] at hcell
      have HSL := Lib.hid hsl2
      have hslm : sl ≤ maxLen := by unfold maxLen; omega
      clear hgm hsl2 hd hml
      obtain ⟨wv, rfl⟩ : ∃ wv : World, wv = wr := ⟨_, rfl⟩
      go_wp2
      go_loopw [6, 8] (fun s z wr => ∃ (j : Nat) (A4 : Option Addr) (c4 : Nat), j ≤ len ∧ z = .int .i64 j ∧ s = .slice A4 (pm ++ bkR nx i j).length c4 ∧ wr.ownsRow wo.heap.size 57 2 (.slice A4 (pm ++ bkR nx i j).length c4) (pm ++ bkR nx i j).length (rv pv (pm ++ bkR nx i j)) ∧ Below wo.heap.size wo wr) (fun _ z _ => len - (intOf z).toNat)
      case atStart => exact ⟨0, A3, c3, Nat.zero_le _, rfl, by simp [bkR], by simp only [bkR, List.range_zero, List.filter_nil, List.map_nil, List.append_nil]; exact hown, hb⟩
      case round =>
        obtain ⟨j, A4, c4, hj, rfl, rfl, hown4, hb4⟩ := hrel
        have hsz4 := hb4.size
        by_cases hjt : j < len
        · have hrl := bkR_len nx i j
          have hql : (pm ++ bkR nx i j).length ≤ 72 := by rw [List.length_append]; omega
          have hnx := bkR_succ nx i j
          have hbk : bkB nx i j = decide (i ∈ finL nx ∧ j ∈ sc nx i ∧ posL (finL nx) i ≤ posL (finL nx) j) := rfl
          have hrdi := hrd0.below hb4 (Nat.le_refl _)
          have hrowi := hrow.below hb4 (Nat.le_refl _)
          have hbx4 := (hb4.cell (p := ⟨w1.heap.size, 0, none⟩) hsl).trans hbx
          have hcell4 := (hb4.cell (p := ad.add i) hbl).trans hcell
          have hstay : bkB nx i j = false → pm ++ bkR nx i (j + 1) = pm ++ bkR nx i j := fun h => by rw [hnx, if_neg (by rw [h]; simp)]
          have hgo : bkB nx i j = true → pm ++ bkR nx i (j + 1) = (pm ++ bkR nx i j) ++ [(i, j)] := fun h => by rw [hnx, if_pos h, List.append_assoc]
          clear hnx hrl
          generalize pm ++ bkR nx i j = q at *
          by_cases h1 : i ∈ finL nx
          · have e1 : hasB (ni (finL nx)) (i : Int) = true := hasB_iff.2 (ni_mem.2 h1)
            by_cases h2 : j ∈ sc nx i
            · have e2 : hasB (ni (sc nx i)) (j : Int) = true := hasB_iff.2 (ni_mem.2 h2)
              have h3 : j ∈ finL nx := fin_sc HC.out h1 h2
              have HA1 := Lib.hid (refAt_any i ⟨w1.heap.size, 0, none⟩ A2 fn c2 (finL nx) _ wr hbx4 hrdi HFN.out (by omega) HFD.out h1)
              have HA2 := Lib.hid (refAt_any j ⟨w1.heap.size, 0, none⟩ A2 fn c2 (finL nx) _ wr hbx4 hrdi HFN.out (by omega) HFD.out h3)
              by_cases h4 : posL (finL nx) i ≤ posL (finL nx) j
              · have HGO := Lib.hid (hgo (by rw [hbk]; exact decide_eq_true ⟨h1, h2, h4⟩))
                have h63 : q.length + 1 ≤ maxLen := by unfold maxLen; omega
                have hbig : (q.length + 1) * 16 ≤ 140737488355328 := by omega
                generalize posL (finL nx) i = pi at *
                generalize posL (finL nx) j = pj at *
                clear hgo hstay hbk h1 h2 h3
                go_wp2_with (first
                  | (go_at_call 30; (with_reducible refine (has_any _ A2 fn c2 (ni (finL nx)) _ _ hrdi HNL.out hfm).mono ?_); rw [e1]; rintro e w5 ⟨rfl, rfl⟩)
                  | (go_at_call 30; (with_reducible refine (has_any _ Ar sl cr (ni (sc nx i)) _ _ hrowi HSL.out hslm).mono ?_); rw [e2]; rintro e w5 ⟨rfl, rfl⟩)
                  | (go_at_call 50; (with_reducible refine HA1.out.mono ?_); rintro e w5 ⟨rfl, rfl⟩)
                  | (go_at_call 50; (with_reducible refine HA2.out.mono ?_); rintro e w5 ⟨rfl, rfl⟩)
                  | (at_builtin; refine wpList_app rfl (.tmp 47) (.tmp 51) 53 rfl wo.heap.size 57 2 16 pair_app _ rfl (hown4.alloc _) [.int .i64 (i : Int), .int .i64 (j : Int)] rfl rfl (fun h => by cases h) (cells_at rfl _ _) (pv_one _ _) h63 hbig (by simp; omega) ?_; intro A5 c5 w5 hown5 hg5 hb5))
                go_round
                case rel =>
                  have hlx : (pm ++ bkR nx i (j + 1)).length = q.length + 1 := by rw [HGO.out]; simp
                  exact ⟨j + 1, A5, c5, by omega, by go_num, by rw [hlx], by rw [hlx, HGO.out, rv_append]; exact hown5, (hb4.alloc hsz4 _).trans hb5⟩
                case measure => (simp [intOf]; omega)
              · have HST := Lib.hid (hstay (by rw [hbk]; exact decide_eq_false (fun h => h4 h.2.2)))
                generalize posL (finL nx) i = pi at *
                generalize posL (finL nx) j = pj at *
                clear hgo hstay hbk h1 h2 h3
                go_wp2_with (first
                  | (go_at_call 30; (with_reducible refine (has_any _ A2 fn c2 (ni (finL nx)) _ _ hrdi HNL.out hfm).mono ?_); rw [e1]; rintro e w5 ⟨rfl, rfl⟩)
                  | (go_at_call 30; (with_reducible refine (has_any _ Ar sl cr (ni (sc nx i)) _ _ hrowi HSL.out hslm).mono ?_); rw [e2]; rintro e w5 ⟨rfl, rfl⟩)
                  | (go_at_call 50; (with_reducible refine HA1.out.mono ?_); rintro e w5 ⟨rfl, rfl⟩)
                  | (go_at_call 50; (with_reducible refine HA2.out.mono ?_); rintro e w5 ⟨rfl, rfl⟩))
                go_round
                case rel => exact ⟨j + 1, A4, c4, by omega, by go_num, by rw [HST.out], by rw [HST.out]; exact hown4, hb4⟩
                case measure => (simp [intOf]; omega)
            · have e2 : hasB (ni (sc nx i)) (j : Int) = false := by
                cases h : hasB (ni (sc nx i)) (j : Int) with
                | false => rfl
                | true => exact absurd (ni_mem.1 (hasB_iff.1 h)) h2
              have HST := Lib.hid (hstay (by rw [hbk]; exact decide_eq_false (fun h => h2 h.2.1)))
              clear hgo hstay hbk h1 h2
              go_wp2_with (first
                | (go_at_call 30; (with_reducible refine (has_any _ A2 fn c2 (ni (finL nx)) _ _ hrdi HNL.out hfm).mono ?_); rw [e1]; rintro e w5 ⟨rfl, rfl⟩)
                | (go_at_call 30; (with_reducible refine (has_any _ Ar sl cr (ni (sc nx i)) _ _ hrowi HSL.out hslm).mono ?_); rw [e2]; rintro e w5 ⟨rfl, rfl⟩))
              go_round
              case rel => exact ⟨j + 1, A4, c4, by omega, by go_num, by rw [HST.out], by rw [HST.out]; exact hown4, hb4⟩
              case measure => (simp [intOf]; omega)
          · have e1 : hasB (ni (finL nx)) (i : Int) = false := by
              cases h : hasB (ni (finL nx)) (i : Int) with
              | false => rfl
              | true => exact absurd (ni_mem.1 (hasB_iff.1 h)) h1
            have HST := Lib.hid (hstay (by rw [hbk]; exact decide_eq_false (fun h => h1 h.1)))
            clear hgo hstay hbk h1
            go_wp2_with (go_at_call 30; (with_reducible refine (has_any _ A2 fn c2 (ni (finL nx)) _ _ hrdi HNL.out hfm).mono ?_); rw [e1]; rintro e w5 ⟨rfl, rfl⟩)
            go_round
            case rel => exact ⟨j + 1, A4, c4, by omega, by go_num, by rw [HST.out], by rw [HST.out]; exact hown4, hb4⟩
            case measure => (simp [intOf]; omega)
        · have hjl : j = len := by omega
          subst hjl
          rw [← HM1.out] at hown4 ⊢
          generalize hq : (bkM nx (i + 1)).length = ql at *
          have HQ := Lib.hid hq
          clear hq
          show Code.wp _ _ _ _ _
          go_wp2
          go_round
          case rel => exact ⟨i + 1, A4, c4, by omega, by go_num, by rw [HQ.out], by rw [HQ.out]; exact hown4, hb4⟩
          case measure => (simp [intOf]; omega)
    · have hil : i = len := by omega
      subst hil
      have hbe : bkM nx i = bkL nx := by unfold bkL; rw [HL.out]
      rw [hbe] at hown ⊢
      generalize hq : (bkL nx).length = ql at *
      have HQ := Lib.hid hq
      have HOW := Lib.hid (own_rdR hown hq)
      clear hq hbe
      go_wp2
      go_ret
      exact ⟨A3, c3, by rw [HQ.out]; rfl, HOW.out, hbw.trans (hb.mono hbw.size)⟩

end Go.Proofs.Ytpbajalecfaibaa
