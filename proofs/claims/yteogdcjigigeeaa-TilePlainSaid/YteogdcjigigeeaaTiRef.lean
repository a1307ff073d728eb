/-
  codemasonref.TileCost, codemasonlaw.tileCode return what they say (W2).
-/
import Derived.Test.YteogdcjigigeeaaTiLies
import Derived.Test.YteogdcjigigeeaaTile
namespace Go.Proofs.Yteogdcjigigeeaa
open Go.RowKit
set_option linter.unusedSimpArgs false
set_option linter.unusedVariables false
set_option maxRecDepth 100000

/-- what a way costs, -1 where there is none -/
def rcV : Cho → Int
  | none => -1
  | some (_, c) => (c : Nat)

/-- what TileCost returns, wherever the lists lie -/
def RefC (A : Option Addr) (len cap : Nat) (l : List Tm) (E : Option Addr) (tn te : Nat) (ts : List Ti) (i : Nat) : Prop :=
  ∀ W : World, RdT W W.heap.size A l → RdTi W W.heap.size E ts → Calls Try.prog 9 #[.slice A len cap, .slice E tn te, .int .i64 (i : Nat)] W fun e w' => e = .returned (.int .i64 (rcV (cho l ts i))) ∧ Below W.heap.size W w'

theorem ni_inv {vs : List Nat} {k : Nat} {x : Int} (h : (ni vs)[k]? = some x) : ∃ v : Nat, x = (v : Int) ∧ vs[k]? = some v := by
  unfold ni at h
  rw [List.getElem?_map] at h
  cases hv : vs[k]? with
  | none => rw [hv] at h; cases h
  | some v => rw [hv] at h; injection h with h; exact ⟨v, h.symm, rfl⟩

set_option maxHeartbeats 16000000 in
theorem refCost_step {vars : Int} (A : Option Addr) (len cap : Nat) (l : List Tm) (hl : l.length = len) (hc : ckTerms vars l = 0) (E : Option Addr) (tn te : Nat) (ts : List Ti) (htl : ts.length = tn) (hts : ∀ t ∈ ts, TiOk t) (htn : tn ≤ 10) (i : Nat) (hi : i < len) (IH : ∀ j, j < i → RefC A len cap l E tn te ts j) : RefC A len cap l E tn te ts i := by
  intro w hx ht
  obtain ⟨o, a, b, v, hd⟩ : ∃ o a b v, l[i]? = some ⟨o, a, b, v⟩ := ⟨_, _, _, _, List.getElem?_eq_getElem (by omega)⟩
  have hti := tmA_at hd
  have HTL := Lib.hid htl
  have HTS := Lib.hid hts
  have HCE : Hid (cho l ts i = pkF l ⟨o, a, b, v⟩ (cho l ts) 0 ts none) := Lib.hid (by rw [cho_eq hc, hti])
  have HBG : Hid (∀ j n x, cho l ts j = some (n, x) → x ≤ bigC) := Lib.hid fun j n x h => cho_big hc hts h
  have HLS : Hid (∀ ti, ∀ j ∈ liR l ⟨o, a, b, v⟩ ti, j < i) := Lib.hid fun ti j hj => by
    unfold liR at hj
    split at hj
    · rw [← hti] at hj
      exact (lvs_less hc hj).1
    · cases hj
  have HLN : Hid (∀ ti, (liR l ⟨o, a, b, v⟩ ti).length ≤ 4) := Lib.hid fun ti => by
    unfold liR
    split
    · exact lvs_len _ _ _
    · exact Nat.zero_le _
  have HWY : Hid (∀ ti, wayC l ⟨o, a, b, v⟩ (cho l ts) ti = if mtc l ⟨o, a, b, v⟩ ti = true then csW (cho l ts) (liR l ⟨o, a, b, v⟩ ti) ti.c.toNat else none) := Lib.hid fun ti => by
    unfold wayC liR
    split
    · rfl
    · rfl
  have HLI : Hid (∀ (W : World) (to tl tr tc : Int), Below w.heap.size w W → TiOk ⟨to, tl, tr, tc⟩ → Calls Try.prog 12 #[.slice A len cap, .int .i64 (i : Nat), .agg #[.int .i64 to, .int .i64 tl, .int .i64 tr, .int .i64 tc]] W fun e w' => ∃ A' c', e = .returned (.tuple #[.slice A' (liR l ⟨o, a, b, v⟩ ⟨to, tl, tr, tc⟩).length c', .bool (mtc l ⟨o, a, b, v⟩ ⟨to, tl, tr, tc⟩)]) ∧ LvOwn w' W.heap.size A' c' (liR l ⟨o, a, b, v⟩ ⟨to, tl, tr, tc⟩) ∧ Below W.heap.size W w') :=
    Lib.hid fun W to tl tr tc hW hk => lies_any A len cap l W ((hx.below hW (Nat.le_refl _)).more hW.size) hl hc i o a b v hd to tl tr tc hk
  have HIH : Hid (∀ (W : World) (j : Nat), Below w.heap.size w W → j < i → Calls Try.prog 9 #[.slice A len cap, .slice E tn te, .int .i64 (j : Nat)] W fun e w' => e = .returned (.int .i64 (rcV (cho l ts j))) ∧ Below W.heap.size W w') :=
    Lib.hid fun W j hW hj => IH j hj W ((hx.below hW (Nat.le_refl _)).more hW.size) ((ht.below hW (Nat.le_refl _)).more hW.size)
  have HTR : Hid (∀ W : World, Below w.heap.size w W → RdTi W W.heap.size E ts) := Lib.hid fun W hW => (ht.below hW (Nat.le_refl _)).more hW.size
  have HBC : Hid (bigC = 3051757812500) := Lib.hid rfl
  clear hx ht hl hc htl hts IH hd hti
  go_enter Try.func9, Try.ntmps9
  go_wp2
  go_loopw [7, 18] (fun s z wr => ∃ (k : Nat) (q : Cho), k ≤ tn ∧ z = .int .i64 k ∧ s = .int .i64 (rcV q) ∧ pkF l ⟨o, a, b, v⟩ (cho l ts) 0 ts none = pkF l ⟨o, a, b, v⟩ (cho l ts) k (ts.drop k) q ∧ (∀ n x, q = some (n, x) → x ≤ 99 + 4 * bigC) ∧ Below w.heap.size w wr) (fun _ z _ => tn - (intOf z).toNat)
  case atStart => exact ⟨0, none, Nat.zero_le _, rfl, rfl, rfl, (fun n x h => by cases h), Below.refl _ _⟩
  case round =>
    obtain ⟨k, q, hk, rfl, rfl, hr, hqb, hbr⟩ := hrel
    have HR := Lib.hid hr
    have HQB := Lib.hid hqb
    obtain ⟨bst, hbst⟩ : ∃ x, rcV q = x := ⟨_, rfl⟩
    simp only [hbst]
    have HBST := Lib.hid hbst
    clear hr hqb hbst
    by_cases hlt : k < tn
    · obtain ⟨ad, to, tl, tr, tc, rfl, hbl, hdt, hc0, hc1, hc2, hc3⟩ := RdTi.at_ (HTR.out wr hbr) (k := k) (by rw [HTL.out]; exact hlt)
      have hok := HTS.out _ (List.mem_of_getElem? hdt)
      have hc0' := hok.c0
      have hc99 := hok.c99
      obtain ⟨tcn, rfl⟩ := Int.eq_ofNat_of_zero_le (show 0 ≤ tc from hc0')
      have h99 : tcn ≤ 99 := by have : ((tcn : Nat) : Int) ≤ 99 := hc99; omega
      have HS := Lib.hid (pkF_at (l := l) (t := ⟨o, a, b, v⟩) (h := cho l ts) (o := q) hdt)
      have HW := Lib.hid (HWY.out ⟨to, tl, tr, (tcn : Nat)⟩)
      have HLI2 := Lib.hid (fun (W : World) hW => HLI.out W to tl tr (tcn : Nat) hW hok)
      have HLS2 := Lib.hid (HLS.out ⟨to, tl, tr, (tcn : Nat)⟩)
      have hln := HLN.out ⟨to, tl, tr, (tcn : Nat)⟩
      obtain ⟨L, hL⟩ : ∃ L, liR l ⟨o, a, b, v⟩ ⟨to, tl, tr, (tcn : Nat)⟩ = L := ⟨_, rfl⟩
      obtain ⟨bm, hbm⟩ : ∃ x, mtc l ⟨o, a, b, v⟩ ⟨to, tl, tr, (tcn : Nat)⟩ = x := ⟨_, rfl⟩
      simp only [hL, hbm] at HW HLI2 HLS2 hln
      have HW2 : Hid (wayC l ⟨o, a, b, v⟩ (cho l ts) ⟨to, tl, tr, (tcn : Nat)⟩ = if bm = true then csW (cho l ts) L tcn else none) := Lib.hid HW.out
      clear hdt hok hc0' hc99 hL hbm HW
      go_upto_region 5 with fail
      obtain ⟨X, hX⟩ : ∃ X, X = wr.alloc (.cells #[.int .i64 to, .int .i64 tl, .int .i64 tr, .int .i64 (tcn : Nat)] 37) := ⟨_, rfl⟩
      have HXT : Own X wr.heap.size 37 [.int .i64 to, .int .i64 tl, .int .i64 tr, .int .i64 (tcn : Nat)] := by rw [hX]; exact own_endT rfl _ [_, _, _, _]
      have HXB : Below wr.heap.size wr X := by rw [hX]; go_grown
      rw [← hX]
      clear hX hc0 hc1 hc2 hc3
      have d0 := HXT.cell (j := 0) rfl
      have d1 := HXT.cell (j := 1) rfl
      have d2 := HXT.cell (j := 2) rfl
      have d3 := HXT.cell (j := 3) rfl
      have hsx := HXT.lt
      have hbX : Below w.heap.size w X := hbr.trans (HXB.mono hbr.size)
      go_wp2_with fail
      refine (HLI2.out X hbX).mono ?_
      rintro e W1 ⟨A', c', rfl, hown, hb1⟩
      have HT1 := HXT.below hb1 HXT.lt
      have e3 := HT1.cell (j := 3) rfl
      have hs1 := HT1.lt
      have hbW1 : Below w.heap.size w W1 := hbX.trans (hb1.mono hbX.size)
      have HOW := Lib.hid hown.rd
      clear d0 d1 d2 d3 HXB hbX hb1 HT1 hown HXT
      obtain ⟨wo, rfl⟩ : ∃ z : World, z = wr := ⟨_, rfl⟩
      go_wp2
      go_loopw [11, 12, 33] (fun sb ss z wr => ∃ (m : Nat) (bb : Bool) (sm : Int), m ≤ L.length ∧ z = .int .i64 m ∧ sb = .bool bb ∧ ss = .int .i64 sm ∧ wayC l ⟨o, a, b, v⟩ (cho l ts) ⟨to, tl, tr, (tcn : Nat)⟩ = (if bb = true then csW (cho l ts) (L.drop m) sm.toNat else none) ∧ (bb = true → 0 ≤ sm) ∧ -(m : Int) ≤ sm ∧ sm ≤ 99 + m * 3051757812500 ∧ Below W1.heap.size W1 wr) (fun _ _ z _ => L.length - (intOf z).toNat)
      case atStart => exact ⟨0, bm, (tcn : Nat), Nat.zero_le _, rfl, rfl, rfl, HW2.out, (fun _ => by omega), by omega, by omega, Below.refl _ _⟩
      case round =>
        obtain ⟨m, bb, sm, hm, rfl, rfl, rfl, hwy, hb0, hlo, hhi, hbi⟩ := hrel
        have HWI := Lib.hid hwy
        have HB0 := Lib.hid hb0
        clear hwy hb0
        have hsi := hbi.size
        by_cases hltm : m < L.length
        · obtain ⟨adl, xj, rfl, hblj, hdj, hcj⟩ := (HOW.out.below hbi (Nat.le_refl _)).at_ (k := m) (by simpa [ni] using hltm)
          obtain ⟨j, rfl, hj⟩ := ni_inv hdj
          have hji := HLS2.out j (List.mem_of_getElem? hj)
          have HCS := Lib.hid (fun c => csW_at (h := cho l ts) (c := c) hj)
          have hbwi : Below w.heap.size w wr := hbW1.trans (hbi.mono hbW1.size)
          have HCT := Lib.hid (HIH.out wr j hbwi hji)
          have HBJ := Lib.hid (HBG.out j)
          clear hdj hj
          cases hcj2 : cho l ts j with
          | none =>
            rw [hcj2] at HCT
            have HWN : Hid (wayC l ⟨o, a, b, v⟩ (cho l ts) ⟨to, tl, tr, (tcn : Nat)⟩ = none) := Lib.hid (by
              rw [HWI.out]
              cases bb with
              | false => rfl
              | true => rw [if_pos rfl, HCS.out, hcj2])
            clear hcj2
            have hw1 : IntKind.i64.wrap (sm + (-1)) = sm + (-1) := by rw [IntKind.wrap_i64]; omega
            go_wp2_with fail
            refine HCT.out.mono ?_
            rintro e w5 ⟨rfl, hb5⟩
            simp only [rcV]
            cases bb
            all_goals
              go_wp2
              go_round
              case rel => exact ⟨m + 1, false, sm + (-1), by omega, by go_num, rfl, by first | rfl | go_num, by rw [HWN.out]; rfl, (fun h => absurd h (by simp)), by omega, by omega, below_via hbi hb5⟩
              case measure => (simp [intOf]; omega)
          | some p =>
            obtain ⟨n7, x7⟩ := p
            rw [hcj2] at HCT
            have hx7 := HBJ.out n7 x7 hcj2
            rw [HBC.out] at hx7
            have HCS2 := Lib.hid (fun c => (HCS.out c).trans (show (match cho l ts j with | none => none | some (_, d) => csW (cho l ts) (L.drop (m + 1)) (c + d)) = csW (cho l ts) (L.drop (m + 1)) (c + x7) by rw [hcj2]))
            clear hcj2
            have hw1 : IntKind.i64.wrap (sm + (x7 : Nat)) = sm + (x7 : Nat) := by rw [IntKind.wrap_i64]; omega
            go_wp2_with fail
            refine HCT.out.mono ?_
            rintro e w5 ⟨rfl, hb5⟩
            simp only [rcV]
            cases bb with
            | false =>
              have HWN := Lib.hid (HWI.out.trans (if_neg (by simp)))
              go_wp2
              go_round
              case rel => exact ⟨m + 1, false, sm + (x7 : Nat), by omega, by go_num, rfl, by first | rfl | go_num, by rw [HWN.out]; rfl, (fun h => absurd h (by simp)), by omega, by omega, below_via hbi hb5⟩
              case measure => (simp [intOf]; omega)
            | true =>
              have hs0 := HB0.out rfl
              have HWN : Hid (wayC l ⟨o, a, b, v⟩ (cho l ts) ⟨to, tl, tr, (tcn : Nat)⟩ = csW (cho l ts) (L.drop (m + 1)) (sm + (x7 : Nat)).toNat) := Lib.hid (by rw [HWI.out, if_pos rfl, HCS2.out, show sm.toNat + x7 = (sm + (x7 : Nat)).toNat by omega])
              go_wp2
              go_round
              case rel => exact ⟨m + 1, true, sm + (x7 : Nat), by omega, by go_num, rfl, by first | rfl | go_num, by rw [HWN.out, if_pos rfl], (fun _ => by omega), by omega, by omega, below_via hbi hb5⟩
              case measure => (simp [intOf]; omega)
        · have hml : m = L.length := by omega
          have HWF : Hid (wayC l ⟨o, a, b, v⟩ (cho l ts) ⟨to, tl, tr, (tcn : Nat)⟩ = if bb = true then some sm.toNat else none) := Lib.hid (by rw [HWI.out, hml, List.drop_length]; rfl)
          have hbf : Below w.heap.size w wr := hbW1.trans (hbi.mono hbW1.size)
          have HBF := Lib.hid hbf
          have hm4 : m ≤ 4 := by omega
          cases bb with
          | false =>
            have HN : Hid (pkF l ⟨o, a, b, v⟩ (cho l ts) 0 ts none = pkF l ⟨o, a, b, v⟩ (cho l ts) (k + 1) (ts.drop (k + 1)) q) := Lib.hid (by rw [HR.out, HS.out, HWF.out, if_neg (by simp), pk1_none])
            go_wp2
            go_round
            case rel => exact ⟨k + 1, q, by omega, by go_num, by rw [HBST.out], HN.out, HQB.out, HBF.out⟩
            case measure => (simp [intOf]; omega)
          | true =>
            obtain ⟨sn, rfl⟩ := Int.eq_ofNat_of_zero_le (HB0.out rfl)
            have HN : Hid (pkF l ⟨o, a, b, v⟩ (cho l ts) 0 ts none = pkF l ⟨o, a, b, v⟩ (cho l ts) (k + 1) (ts.drop (k + 1)) (pk1 q k (some sn))) := Lib.hid (by rw [HR.out, HS.out, HWF.out, if_pos rfl, Int.toNat_natCast])
            have HSB : Hid (∀ n x, some (k, sn) = some (n, x) → x ≤ 99 + 4 * bigC) := Lib.hid fun n x h => by
              injection h with h
              injection h with _ h
              rw [HBC.out]
              omega
            cases q with
            | none =>
              have hbs := HBST.out
              simp only [rcV] at hbs
              subst hbs
              go_wp2
              go_round
              case rel => exact ⟨k + 1, some (k, sn), by omega, by go_num, rfl, HN.out, HSB.out, HBF.out⟩
              case measure => (simp [intOf]; omega)
            | some p2 =>
              obtain ⟨m2, d2⟩ := p2
              have hbs := HBST.out
              simp only [rcV] at hbs
              subst hbs
              by_cases hcd : sn < d2
              · have HN2 := Lib.hid (show pk1 (some (m2, d2)) k (some sn) = some (k, sn) by simp only [pk1]; rw [if_pos hcd])
                go_wp2
                go_round
                case rel => exact ⟨k + 1, some (k, sn), by omega, by go_num, rfl, by rw [HN.out, HN2.out], HSB.out, HBF.out⟩
                case measure => (simp [intOf]; omega)
              · have HN2 := Lib.hid (show pk1 (some (m2, d2)) k (some sn) = some (m2, d2) by simp only [pk1]; rw [if_neg hcd])
                go_wp2
                go_round
                case rel => exact ⟨k + 1, some (m2, d2), by omega, by go_num, rfl, by rw [HN.out, HN2.out], HQB.out, HBF.out⟩
                case measure => (simp [intOf]; omega)
    · have hkn : k = ts.length := by rw [HTL.out]; omega
      have HE : Hid (cho l ts i = q) := Lib.hid (by rw [HCE.out, HR.out, hkn, List.drop_length]; rfl)
      go_wp2
      go_ret
      exact ⟨ret_int (by rw [HE.out, HBST.out]), hbr⟩

theorem refCost_any {vars : Int} (A : Option Addr) (len cap : Nat) (l : List Tm) (hl : l.length = len) (hc : ckTerms vars l = 0) (E : Option Addr) (tn te : Nat) (ts : List Ti) (htl : ts.length = tn) (hts : ∀ t ∈ ts, TiOk t) (htn : tn ≤ 10) : ∀ i, i < len → RefC A len cap l E tn te ts i := by
  intro i
  induction i using Nat.strongRecOn with
  | ind i ih => exact fun hi => refCost_step A len cap l hl hc E tn te ts htl hts htn i hi fun j hj => ih j hj (by omega)

end Go.Proofs.Yteogdcjigigeeaa
