/-
  fact.Along returns the facts along a path of I1, or the first error, for all arguments: codemasonlaw.FactAlongs returns true and leaves its arguments alone. No condition.
-/
import Derived.Test.YtmbabbdcijgnoaaLawFact
import Derived.Test.YtmbabbdcijgnoaaFactPath
import Derived.Test.YtmbabbdcijgnoaaFactAlong
import Derived.Deep.QuietTactic
import Derived.BigQuiet
import Derived.BigRegion
import Derived.IntWalk
namespace Go.Proofs.Ytmbabbdcijgnoaa
open Go.RowKit Go.ChangeShapes Go.WideShapes Go.ChangeAt Go.Deep
set_option linter.unusedSimpArgs false
set_option linter.unusedVariables false
set_option maxRecDepth 100000

theorem rdI_drewN {w : World} {B : Nat} {A : Option Addr} {xs : List Int} (h : RdI w B A xs) (n : Nat) : RdI (w.drewN n) B A xs := h

theorem has_told {x : Int} {A : Option Addr} {len cap : Nat} {xs : List Int} {B : Nat} {b : Bool} (h : hasB xs x = b) (w : World) (hx : RdI w B A xs) (hl : xs.length = len) (hm : len ≤ maxLen) :
    Calls Try.prog 14 #[.slice A len cap, .int .i64 x] w fun e w' => e = .returned (.bool b) ∧ w' = w :=
  (has_any x A len cap xs B w hx hl hm).mono fun e w' ⟨h1, h2⟩ => ⟨by rw [h1, h], h2.symm⟩

set_option maxHeartbeats 8000000 in
theorem lawFactAlongs_any (K : AlongIs) (A : Option Addr) (cap : Nat) (nx : List (List Int)) (A1 : Option Addr) (c1 : Nat) (A2 : Option Addr) (c2 : Nat) (lw : Lw) (Ap : Option Addr) (cp : Nat) (ps : List Int) (w : World) (hx : RdG w w.heap.size A nx) (hm : nx.length ≤ maxLen) (hr : RdL w w.heap.size A1 A2 lw) (hu : U32L lw) (hp : RdI w w.heap.size Ap ps) (hpm : ps.length ≤ maxLen) (hcp : ps.length ≤ cp) :
    Calls Try.prog 4 #[.slice A nx.length cap, .agg #[.bool lw.bw, .bool lw.al, .slice A1 lw.ma.length c1, .slice A2 lw.en.length c2, .int .u32 (lw.st : Nat)], .slice Ap ps.length cp] w fun e w' => e = .returned (.bool true) ∧ Below w.heap.size w w' := by
  have HM := Lib.hid hm
  have HPM := Lib.hid hpm
  unfold maxLen at hm hpm
  have hown := Own.new w 26 [.bool lw.bw, .bool lw.al, .slice A1 lw.ma.length c1, .slice A2 lw.en.length c2, .int .u32 (lw.st : Nat)]
  have hb0 : Below w.heap.size w (w.alloc (.cells #[.bool lw.bw, .bool lw.al, .slice A1 lw.ma.length c1, .slice A2 lw.en.length c2, .int .u32 (lw.st : Nat)] 26)) := by go_grown
  have hx0 := (hx.below hb0 (Nat.le_refl _)).more hb0.size
  have hr0 := (hr.below hb0 (Nat.le_refl _)).more hb0.size
  have hp0 := (hp.below hb0 (Nat.le_refl _)).more hb0.size
  by_cases hc : ckLaw nx lw = 0
  · have HOK := Lib.hid (ckLaw_ok hc)
    have HC := Lib.hid hc
    by_cases hz : ps = []
    · have hca := ckAlong_bad (ps := ps) hc (.inl hz)
      have HAB := Lib.hid (fun (w2 : World) h1 h2 h3 => K.alongBad A nx.length cap nx A1 c1 A2 c2 lw Ap ps.length cp ps w2 h1 rfl HM.out h2 hu h3 rfl HPM.out (by rw [hca]; omega))
      rw [hca] at HAB
      have hz0 : ps.length = 0 := by rw [hz]; rfl
      rw [hz0] at HAB ⊢
      clear hc hca hz hz0
      go_enter Try.func4, Try.ntmps4
      go_wp2_with fail
      refine (HAB.out _ hx0 hr0 hp0).mono ?_
      rintro e w1 ⟨rfl, hb1⟩
      have hx1 := (hx0.below hb1 (Nat.le_refl _)).more hb1.size
      have hr1 := (hr0.below hb1 (Nat.le_refl _)).more hb1.size
      have hp1 := (hp0.below hb1 (Nat.le_refl _)).more hb1.size
      have hown1 := hown.below hb1 hown.lt
      have hl1 := hown1.lt
      have d0 := hown1.cell (j := 0) rfl
      have d1 := hown1.cell (j := 1) rfl
      have d2 := hown1.cell (j := 2) rfl
      have d3 := hown1.cell (j := 3) rfl
      have d4 := hown1.cell (j := 4) rfl
      go_wp2_with fail
      refine (refLawCheck_any A _ cap nx A1 c1 A2 c2 lw _ hx1 rfl hr1 hu).mono ?_
      rintro e w2 ⟨rfl, hb2⟩
      have hbw2 := (hb0.trans (hb1.mono hb0.size)).trans (hb2.mono (by have := hb0.size; have := hb1.size; omega))
      rw [HC.out]
      go_wp2
      go_loop [9, 10] (fun s z => z = .int .i64 1 ∧ s = .int .i64 5) (fun _ z => 1 - (intOf z).toNat)
      case atStart => exact ⟨rfl, rfl⟩
      case round =>
        obtain ⟨rfl, rfl⟩ := hrel
        go_wp2
        go_ret
        exact ⟨ret_bool (by simp), hbw2⟩
    · by_cases hrk : rowOk nx.length ps = true
      · by_cases hpt : pthB nx lw.bw ps = true
        · have hca := ckAlong_good hc hz hrk hpt
          have HAB := Lib.hid (fun (w2 : World) h1 h2 h3 => K.along A nx.length cap nx A1 c1 A2 c2 lw Ap ps.length cp ps w2 h1 rfl HM.out h2 hu h3 rfl HPM.out hcp hca)
          have HPT := Lib.hid hpt
          clear hca hpt
          have hnz : ps.length ≠ 0 := fun h => hz (List.eq_nil_of_length_eq_zero h)
          obtain ⟨np, hnp⟩ : ∃ np, ps.length = np := ⟨_, rfl⟩
          obtain ⟨len, hlen⟩ : ∃ len, nx.length = len := ⟨_, rfl⟩
          obtain ⟨n1, hn1⟩ : ∃ n, lw.ma.length = n := ⟨_, rfl⟩
          obtain ⟨n2, hn2⟩ : ∃ n, lw.en.length = n := ⟨_, rfl⟩
          have HLC := Lib.hid (fun (w2 : World) h1 h2 => refLawCheck_any A len cap nx A1 c1 A2 c2 lw w2 h1 hlen h2 hu)
          have hl8 : len ≤ 8 := by have := ckWay_bd (ckLaw_ok hc).1; omega
          rw [hn1, hn2] at HLC HAB hown hb0 hx0 hr0 hp0
          rw [hlen] at HAB
          rw [hnp] at HAB hpm hnz HPM
          have HN1 : Hid (n1 = len) := Lib.hid (by have := (ckLaw_ok hc).2.1; omega)
          have HN2 : Hid (n2 = len) := Lib.hid (by have := (ckLaw_ok hc).2.2.1; omega)
          rw [hn1, hn2, hlen, hnp]
          have HNP := Lib.hid hnp
          have HNL := Lib.hid hlen
          have HM1 := Lib.hid hn1
          have HM2 := Lib.hid hn2
          have HRK := Lib.hid hrk
          have HIN : Hid (insideB len ps = true) := Lib.hid (by rw [← hlen]; exact (insideB_row ps).trans hrk)
          have e0 : ((np : Int) == 0) = false := by simp; omega
          have HSC := Lib.hid (fun (i : Nat) (row : List Int) (h : nx[i]? = some row) => (show row.length ≤ 3 from ((ckWay_bd (ckLaw_ok hc).1).2.2 row (List.mem_of_getElem? h)).1))
          clear hz hc hnp hlen hn1 hn2 hrk
          go_enter Try.func4, Try.ntmps4
          go_wp2_with fail
          refine (HAB.out _ hx0 hr0 hp0).mono ?_
          rintro e w1 ⟨rfl, hb1⟩
          have hx1 := (hx0.below hb1 (Nat.le_refl _)).more hb1.size
          have hr1 := (hr0.below hb1 (Nat.le_refl _)).more hb1.size
          have hp1 := (hp0.below hb1 (Nat.le_refl _)).more hb1.size
          have hown1 := hown.below hb1 hown.lt
          have hl1 := hown1.lt
          have d0 := hown1.cell (j := 0) rfl
          have d1 := hown1.cell (j := 1) rfl
          have d2 := hown1.cell (j := 2) rfl
          have d3 := hown1.cell (j := 3) rfl
          have d4 := hown1.cell (j := 4) rfl
          go_wp2_with fail
          refine (HLC.out _ hx1 hr1).mono ?_
          rintro e w2 ⟨rfl, hb2⟩
          have hbw2 := (hb0.trans (hb1.mono hb0.size)).trans (hb2.mono (by have := hb0.size; have := hb1.size; omega))
          rw [HC.out]
          have hp2 := (hp1.below hb2 (Nat.le_refl _)).more hb2.size
          have hx2 := (hx1.below hb2 (Nat.le_refl _)).more hb2.size
          have hr2 := (hr1.below hb2 (Nat.le_refl _)).more hb2.size
          have hown2 := hown1.below hb2 hl1
          have hl2 := hown2.lt
          clear d0 d1 d2 d3 d4 hx1 hr1 hp1 hx0 hr0 hp0 hown1
          go_wp2_with (go_at_call 13; (with_reducible refine (inside_long _ Ap np cp ps _ _ hp2 HNP.out HPM.out).mono ?_); rw [HIN.out]; rintro e w5 ⟨rfl, rfl⟩)
          go_loopw [9, 10] (fun s z wr => ∃ q : Nat, q + 1 ≤ np ∧ z = .int .i64 ((q : Int) + 1) ∧ ((s = .int .i64 0 ∧ pthB nx lw.bw ps = pthB nx lw.bw (ps.drop q)) ∨ (s = .int .i64 5 ∧ pthB nx lw.bw ps = false)) ∧ Below w2.heap.size w2 wr) (fun _ z _ => np - (intOf z).toNat)
          case atStart => exact ⟨0, by omega, rfl, .inl ⟨rfl, rfl⟩, Below.refl _ _⟩
          case round =>
            obtain ⟨q, hq, rfl, hs, hbr⟩ := hrel
            have hszr := hbr.size
            rcases hs with ⟨rfl, hpe⟩ | ⟨rfl, hpf⟩
            · have HPE := Lib.hid hpe
              clear hpe
              by_cases hqt : q + 1 < np
              · obtain ⟨ap, a, rfl, hbp1, hpa, hca⟩ := (hp2.below hbr (Nat.le_refl _)).at_ (k := q) (by rw [HNP.out]; omega)
                obtain ⟨ap', b, hap, hbp2, hpb, hcb⟩ := (hp2.below hbr (Nat.le_refl _)).at_ (k := q + 1) (by rw [HNP.out]; exact hqt)
                injection hap with hap
                subst hap
                have HPA := Lib.hid (pthB_at (nx := nx) (bw := lw.bw) hpa hpb)
                obtain ⟨ha0, ha1⟩ := rowOk_in HRK.out hpa
                obtain ⟨hb0', hb1'⟩ := rowOk_in HRK.out hpb
                rw [HNL.out] at ha1 hb1'
                obtain ⟨an, rfl⟩ := Int.eq_ofNat_of_zero_le ha0
                obtain ⟨bn, rfl⟩ := Int.eq_ofNat_of_zero_le hb0'
                have hal : an < len := by omega
                have hbl : bn < len := by omega
                obtain ⟨ad, rowa, Ara, cra, rfl, hbla, hda, hcella, hrowa⟩ := (hx2.below hbr (Nat.le_refl _)).at_ (k := an) (by rw [HNL.out]; exact hal)
                obtain ⟨ad', rowb, Arb, crb, had, hblb, hdb, hcellb, hrowb⟩ := (hx2.below hbr (Nat.le_refl _)).at_ (k := bn) (by rw [HNL.out]; exact hbl)
                injection had with had
                subst had
                have hla3 := HSC.out an rowa hda
                have hlb3 := HSC.out bn rowb hdb
                have hga : nx.getD an [] = rowa := by rw [List.getD_eq_getElem?_getD, hda]; rfl
                have hgb : nx.getD bn [] = rowb := by rw [List.getD_eq_getElem?_getD, hdb]; rfl
                obtain ⟨ok1, ho1⟩ : ∃ t, hasB rowa (bn : Int) = t := ⟨_, rfl⟩
                obtain ⟨ok2, ho2⟩ : ∃ t, hasB rowb (an : Int) = t := ⟨_, rfl⟩
                obtain ⟨bw, hbw⟩ : ∃ t, lw.bw = t := ⟨_, rfl⟩
                have hst0 : stB nx bw (an : Int) (bn : Int) = if bw = true then ok2 else ok1 := by
                  unfold stB
                  rw [Int.toNat_natCast, Int.toNat_natCast, hga, hgb, ho1, ho2]
                have hg0 := (hbr.cell (p := ⟨w.heap.size, 0, none⟩) hl2).trans (hown2.cell (j := 0) rfl)
                have HG0 : Hid (wr.cell? ⟨w.heap.size, 0, none⟩ = some (.bool bw)) := Lib.hid (by rw [← hbw]; exact hg0)
                have HBW := Lib.hid hbw
                have HST := Lib.hid hst0
                obtain ⟨la, hla⟩ : ∃ n, rowa.length = n := ⟨_, rfl⟩
                obtain ⟨lb, hlb⟩ : ∃ n, rowb.length = n := ⟨_, rfl⟩
                rw [hla] at hcella hla3
                rw [hlb] at hcellb hlb3
                have HO1 := Lib.hid ho1
                have HO2 := Lib.hid ho2
                have HLA := Lib.hid hla
                have HLB := Lib.hid hlb
                have hgd := HG0.out
                have HNX : Hid (∀ t : Bool, t = (if bw = true then ok2 else ok1) → pthB nx lw.bw ps = (t && pthB nx lw.bw (ps.drop (q + 1)))) := Lib.hid fun t ht => by
                  rw [HPE.out, HPA.out, ht, ← HST.out, HBW.out]
                clear hpa hpb hda hdb hga hgb ho1 ho2 hbw hst0 hg0 hla hlb
                have k1 : IntKind.i64.wrap ((q : Int) + 1 - 1) = (q : Int) := by rw [IntWalk.i64_in _ ⟨by omega, by omega⟩]; omega
                have k2 : IntKind.i64.wrap (q : Int) = (q : Int) := IntWalk.i64_in _ ⟨by omega, by omega⟩
                have k3 : (q : Int) < (np : Int) := by omega
                have k4 : (q : Int) + 1 < (np : Int) := by omega
                have k5 : (0 : Int) ≤ (q : Int) + 1 := by omega
                have k6 : ((q : Int) + 1).toNat = q + 1 := by omega
                have hcb2 : wr.cell? ⟨ap.block, ap.off + (q + 1), none⟩ = some (.int .i64 (bn : Int)) := by simpa [Addr.add] using hcb
                cases bw with
                | false =>
                  have HNX2 := Lib.hid (HNX.out ok1 rfl)
                  cases ok1 with
                  | true =>
                    go_wp2
                    go_quiet ((go_at_call 14; exact Calls.quiet_of_same (has_told HO1.out _ hrowa HLA.out (by unfold maxLen; omega))))
                    go_wp2
                    go_round
                    case rel => exact ⟨q + 1, by omega, by go_num, .inl ⟨rfl, by rw [HNX2.out]; rfl⟩, ⟨hbr.os, hbr.tape, hbr.output, hbr.size, hbr.block⟩⟩
                    case measure => (simp [intOf]; omega)
                  | false =>
                    go_wp2
                    go_quiet ((go_at_call 14; exact Calls.quiet_of_same (has_told HO1.out _ hrowa HLA.out (by unfold maxLen; omega))))
                    go_wp2
                    go_round
                    case rel => exact ⟨q + 1, by omega, by go_num, .inr ⟨rfl, by rw [HNX2.out]; rfl⟩, ⟨hbr.os, hbr.tape, hbr.output, hbr.size, hbr.block⟩⟩
                    case measure => (simp [intOf]; omega)
                | true =>
                  have HNX2 := Lib.hid (HNX.out ok2 rfl)
                  cases ok2 with
                  | true =>
                    go_wp2
                    go_quiet ((go_at_call 14; exact Calls.quiet_of_same (has_told HO1.out _ hrowa HLA.out (by unfold maxLen; omega))))
                    have g1 : (wr.drewN nq).cell? (ap.add q) = some (.int .i64 (an : Int)) := hca
                    have g2 : (wr.drewN nq).cell? ⟨ap.block, ap.off + (q + 1), none⟩ = some (.int .i64 (bn : Int)) := hcb2
                    have g3 : (wr.drewN nq).cell? (ad.add bn) = some (.slice Arb lb crb) := hcellb
                    have g4 : (wr.drewN nq).cell? ⟨w.heap.size, 0, none⟩ = some (.bool true) := hgd
                    have g5 : RdI (wr.drewN nq) w2.heap.size Arb rowb := hrowb
                    have gB : Below w2.heap.size w2 (wr.drewN nq) := ⟨hbr.os, hbr.tape, hbr.output, hbr.size, hbr.block⟩
                    generalize wr.drewN nq = w6 at *
                    go_wp2
                    go_quiet ((go_at_call 14; exact Calls.quiet_of_same (has_told HO2.out _ g5 HLB.out (by unfold maxLen; omega))))
                    go_wp2
                    go_round
                    case rel => exact ⟨q + 1, by omega, by go_num, .inl ⟨rfl, by rw [HNX2.out]; rfl⟩, ⟨gB.os, gB.tape, gB.output, gB.size, gB.block⟩⟩
                    case measure => (simp [intOf]; omega)
                  | false =>
                    go_wp2
                    go_quiet ((go_at_call 14; exact Calls.quiet_of_same (has_told HO1.out _ hrowa HLA.out (by unfold maxLen; omega))))
                    have g1 : (wr.drewN nq).cell? (ap.add q) = some (.int .i64 (an : Int)) := hca
                    have g2 : (wr.drewN nq).cell? ⟨ap.block, ap.off + (q + 1), none⟩ = some (.int .i64 (bn : Int)) := hcb2
                    have g3 : (wr.drewN nq).cell? (ad.add bn) = some (.slice Arb lb crb) := hcellb
                    have g4 : (wr.drewN nq).cell? ⟨w.heap.size, 0, none⟩ = some (.bool true) := hgd
                    have g5 : RdI (wr.drewN nq) w2.heap.size Arb rowb := hrowb
                    have gB : Below w2.heap.size w2 (wr.drewN nq) := ⟨hbr.os, hbr.tape, hbr.output, hbr.size, hbr.block⟩
                    generalize wr.drewN nq = w6 at *
                    go_wp2
                    go_quiet ((go_at_call 14; exact Calls.quiet_of_same (has_told HO2.out _ g5 HLB.out (by unfold maxLen; omega))))
                    go_wp2
                    go_round
                    case rel => exact ⟨q + 1, by omega, by go_num, .inr ⟨rfl, by rw [HNX2.out]; rfl⟩, ⟨gB.os, gB.tape, gB.output, gB.size, gB.block⟩⟩
                    case measure => (simp [intOf]; omega)
              · have hpt : pthB nx lw.bw ps = true := by rw [HPE.out]; exact pthB_end (by rw [HNP.out]; omega)
                have hst8 := HOK.out.2.2.2.2.2
                have HMA := Lib.hid HOK.out.2.2.2.1
                have HEN := Lib.hid HOK.out.2.2.2.2.1
                have f4 := (hbr.cell (p := ⟨w.heap.size, 4, none⟩) hl2).trans (hown2.cell (j := 4) rfl)
                obtain ⟨wo, rfl⟩ : ∃ wo : World, wo = wr := ⟨_, rfl⟩
                have HAE : Hid (alW lw ps lw.st = alW lw (ps.drop 0) lw.st) := Lib.hid rfl
                obtain ⟨st, hst⟩ : ∃ st, lw.st = st := ⟨_, rfl⟩
                have hst32 : lw.st < 4294967296 := by omega
                clear hst hpt
                go_wp2
                go_loopw [12, 13] (fun s z wr => ∃ q W : Nat, q + 1 ≤ np ∧ z = .int .i64 ((q : Int) + 1) ∧ s = .int .u32 (W : Nat) ∧ W < 256 ∧ Hid (alW lw ps lw.st = alW lw (ps.drop q) W) ∧ Below w2.heap.size w2 wr) (fun _ z _ => np - (intOf z).toNat)
                case atStart => exact ⟨0, lw.st, by omega, rfl, rfl, hst8, HAE, hbr⟩
                case round =>
                  obtain ⟨q, W, hq, rfl, rfl, hW, HAW, hbr⟩ := hrel
                  have hszr := hbr.size
                  by_cases hqt : q + 1 < np
                  · obtain ⟨ap, a, rfl, hbp1, hpa, hca⟩ := (hp2.below hbr (Nat.le_refl _)).at_ (k := q) (by rw [HNP.out]; omega)
                    obtain ⟨ap', b, hap, hbp2, hpb, hcb⟩ := (hp2.below hbr (Nat.le_refl _)).at_ (k := q + 1) (by rw [HNP.out]; exact hqt)
                    have HAT := Lib.hid (alW_at (lw := lw) W hpa hpb)
                    obtain ⟨ha0, ha1⟩ := rowOk_in HRK.out hpa
                    rw [HNL.out] at ha1
                    obtain ⟨an, rfl⟩ := Int.eq_ofNat_of_zero_le ha0
                    have hal : an < len := by omega
                    obtain ⟨aE, E, rfl, hbE, hdE, hcE⟩ := (hr2.en.below hbr (Nat.le_refl _)).at_ (k := an) (by rw [HM2.out, HN2.out]; exact hal)
                    obtain ⟨aM, M, rfl, hbM, hdM, hcM⟩ := (hr2.ma.below hbr (Nat.le_refl _)).at_ (k := an) (by rw [HM1.out, HN1.out]; exact hal)
                    have hE8 := HEN.out E (List.mem_of_getElem? hdE)
                    have hM8 := HMA.out M (List.mem_of_getElem? hdM)
                    have hbe : behW lw (an : Int) W = (W &&& (4294967295 - E)) ||| M := by
                      unfold behW
                      rw [Int.toNat_natCast, List.getD_eq_getElem?_getD, hdE, List.getD_eq_getElem?_getD, hdM]
                      rfl
                    have HLT := Lib.hid (behW_lt HEN.out HMA.out hW (an : Int))
                    have hand : bits .andNot .u32 (W : Int) (E : Int) = ((W &&& (4294967295 - E) : Nat) : Int) := u32_andNot_nat _ _ (by omega) (by omega)
                    have hal2 : W &&& (4294967295 - E) < 256 := Nat.lt_of_le_of_lt Nat.and_le_left hW
                    have hor : bits .or .u32 ((W &&& (4294967295 - E) : Nat) : Int) (M : Int) = (((W &&& (4294967295 - E)) ||| M : Nat) : Int) := u32_or_nat _ _ (by omega) (by omega)
                    have HBE := Lib.hid hbe
                    have HVAL : Hid (bits .or .u32 (bits .andNot .u32 (W : Int) (E : Int)) (M : Int) = ((behW lw (an : Int) W : Nat) : Int)) := Lib.hid (by rw [hand, hor, hbe])
                    have f2 := (hbr.cell (p := ⟨w.heap.size, 2, none⟩) hl2).trans (hown2.cell (j := 2) rfl)
                    have f3 := (hbr.cell (p := ⟨w.heap.size, 3, none⟩) hl2).trans (hown2.cell (j := 3) rfl)
                    have k1 : IntKind.i64.wrap ((q : Int) + 1 - 1) = (q : Int) := by rw [IntWalk.i64_in _ ⟨by omega, by omega⟩]; omega
                    have k2 : IntKind.i64.wrap (q : Int) = (q : Int) := IntWalk.i64_in _ ⟨by omega, by omega⟩
                    have k3 : (q : Int) < (np : Int) := by omega
                    have e1' : (n1 : Int) = (len : Int) := by have := HN1.out; omega
                    have e2' : (n2 : Int) = (len : Int) := by have := HN2.out; omega
                    have hal1 : an < n1 := by have := HN1.out; omega
                    have hal2' : an < n2 := by have := HN2.out; omega
                    clear hpa hpb hdE hdM hbe hand hor e1' e2' hap
                    go_wp2
                    go_region
                    go_wp2
                    go_round
                    case rel => exact ⟨q + 1, behW lw (an : Int) W, by omega, by go_num, by rw [HVAL.out], HLT.out, Lib.hid (by rw [HAW.out, HAT.out]), hbr.drew⟩
                    case measure => (simp [intOf]; omega)
                  · have HFIN : Hid (alW lw ps lw.st = W) := Lib.hid (by rw [HAW.out]; exact alW_end W (by rw [HNP.out]; omega))
                    rw [HFIN.out]
                    go_wp2
                    go_ret
                    exact ⟨ret_bool (by simp), hbw2.trans (hbr.mono hbw2.size)⟩
            · rw [HPT.out] at hpf
              cases hpf
        · have hpt' : pthB nx lw.bw ps = false := by simpa using hpt
          have hca := ckAlong_bad (ps := ps) hc (.inr (.inr hpt'))
          have HAB := Lib.hid (fun (w2 : World) h1 h2 h3 => K.alongBad A nx.length cap nx A1 c1 A2 c2 lw Ap ps.length cp ps w2 h1 rfl HM.out h2 hu h3 rfl HPM.out (by rw [hca]; omega))
          rw [hca] at HAB
          have HPT := Lib.hid hpt'
          clear hca hpt hpt'
          have hnz : ps.length ≠ 0 := fun h => hz (List.eq_nil_of_length_eq_zero h)
          obtain ⟨np, hnp⟩ : ∃ np, ps.length = np := ⟨_, rfl⟩
          obtain ⟨len, hlen⟩ : ∃ len, nx.length = len := ⟨_, rfl⟩
          obtain ⟨n1, hn1⟩ : ∃ n, lw.ma.length = n := ⟨_, rfl⟩
          obtain ⟨n2, hn2⟩ : ∃ n, lw.en.length = n := ⟨_, rfl⟩
          have HLC := Lib.hid (fun (w2 : World) h1 h2 => refLawCheck_any A len cap nx A1 c1 A2 c2 lw w2 h1 hlen h2 hu)
          have hl8 : len ≤ 8 := by have := ckWay_bd (ckLaw_ok hc).1; omega
          rw [hn1, hn2] at HLC HAB hown hb0 hx0 hr0 hp0
          rw [hlen] at HAB
          rw [hnp] at HAB hpm hnz HPM
          have HN1 : Hid (n1 = len) := Lib.hid (by have := (ckLaw_ok hc).2.1; omega)
          have HN2 : Hid (n2 = len) := Lib.hid (by have := (ckLaw_ok hc).2.2.1; omega)
          rw [hn1, hn2, hlen, hnp]
          have HNP := Lib.hid hnp
          have HNL := Lib.hid hlen
          have HM1 := Lib.hid hn1
          have HM2 := Lib.hid hn2
          have HRK := Lib.hid hrk
          have HIN : Hid (insideB len ps = true) := Lib.hid (by rw [← hlen]; exact (insideB_row ps).trans hrk)
          have e0 : ((np : Int) == 0) = false := by simp; omega
          have HSC := Lib.hid (fun (i : Nat) (row : List Int) (h : nx[i]? = some row) => (show row.length ≤ 3 from ((ckWay_bd (ckLaw_ok hc).1).2.2 row (List.mem_of_getElem? h)).1))
          clear hz hc hnp hlen hn1 hn2 hrk
          go_enter Try.func4, Try.ntmps4
          go_wp2_with fail
          refine (HAB.out _ hx0 hr0 hp0).mono ?_
          rintro e w1 ⟨rfl, hb1⟩
          have hx1 := (hx0.below hb1 (Nat.le_refl _)).more hb1.size
          have hr1 := (hr0.below hb1 (Nat.le_refl _)).more hb1.size
          have hp1 := (hp0.below hb1 (Nat.le_refl _)).more hb1.size
          have hown1 := hown.below hb1 hown.lt
          have hl1 := hown1.lt
          have d0 := hown1.cell (j := 0) rfl
          have d1 := hown1.cell (j := 1) rfl
          have d2 := hown1.cell (j := 2) rfl
          have d3 := hown1.cell (j := 3) rfl
          have d4 := hown1.cell (j := 4) rfl
          go_wp2_with fail
          refine (HLC.out _ hx1 hr1).mono ?_
          rintro e w2 ⟨rfl, hb2⟩
          have hbw2 := (hb0.trans (hb1.mono hb0.size)).trans (hb2.mono (by have := hb0.size; have := hb1.size; omega))
          rw [HC.out]
          have hp2 := (hp1.below hb2 (Nat.le_refl _)).more hb2.size
          have hx2 := (hx1.below hb2 (Nat.le_refl _)).more hb2.size
          have hr2 := (hr1.below hb2 (Nat.le_refl _)).more hb2.size
          have hown2 := hown1.below hb2 hl1
          have hl2 := hown2.lt
          clear d0 d1 d2 d3 d4 hx1 hr1 hp1 hx0 hr0 hp0 hown1
          go_wp2_with (go_at_call 13; (with_reducible refine (inside_long _ Ap np cp ps _ _ hp2 HNP.out HPM.out).mono ?_); rw [HIN.out]; rintro e w5 ⟨rfl, rfl⟩)
          go_loopw [9, 10] (fun s z wr => ∃ q : Nat, q + 1 ≤ np ∧ z = .int .i64 ((q : Int) + 1) ∧ ((s = .int .i64 0 ∧ pthB nx lw.bw ps = pthB nx lw.bw (ps.drop q)) ∨ (s = .int .i64 5 ∧ pthB nx lw.bw ps = false)) ∧ Below w2.heap.size w2 wr) (fun _ z _ => np - (intOf z).toNat)
          case atStart => exact ⟨0, by omega, rfl, .inl ⟨rfl, rfl⟩, Below.refl _ _⟩
          case round =>
            obtain ⟨q, hq, rfl, hs, hbr⟩ := hrel
            have hszr := hbr.size
            rcases hs with ⟨rfl, hpe⟩ | ⟨rfl, hpf⟩
            · have HPE := Lib.hid hpe
              clear hpe
              by_cases hqt : q + 1 < np
              · obtain ⟨ap, a, rfl, hbp1, hpa, hca⟩ := (hp2.below hbr (Nat.le_refl _)).at_ (k := q) (by rw [HNP.out]; omega)
                obtain ⟨ap', b, hap, hbp2, hpb, hcb⟩ := (hp2.below hbr (Nat.le_refl _)).at_ (k := q + 1) (by rw [HNP.out]; exact hqt)
                injection hap with hap
                subst hap
                have HPA := Lib.hid (pthB_at (nx := nx) (bw := lw.bw) hpa hpb)
                obtain ⟨ha0, ha1⟩ := rowOk_in HRK.out hpa
                obtain ⟨hb0', hb1'⟩ := rowOk_in HRK.out hpb
                rw [HNL.out] at ha1 hb1'
                obtain ⟨an, rfl⟩ := Int.eq_ofNat_of_zero_le ha0
                obtain ⟨bn, rfl⟩ := Int.eq_ofNat_of_zero_le hb0'
                have hal : an < len := by omega
                have hbl : bn < len := by omega
                obtain ⟨ad, rowa, Ara, cra, rfl, hbla, hda, hcella, hrowa⟩ := (hx2.below hbr (Nat.le_refl _)).at_ (k := an) (by rw [HNL.out]; exact hal)
                obtain ⟨ad', rowb, Arb, crb, had, hblb, hdb, hcellb, hrowb⟩ := (hx2.below hbr (Nat.le_refl _)).at_ (k := bn) (by rw [HNL.out]; exact hbl)
                injection had with had
                subst had
                have hla3 := HSC.out an rowa hda
                have hlb3 := HSC.out bn rowb hdb
                have hga : nx.getD an [] = rowa := by rw [List.getD_eq_getElem?_getD, hda]; rfl
                have hgb : nx.getD bn [] = rowb := by rw [List.getD_eq_getElem?_getD, hdb]; rfl
                obtain ⟨ok1, ho1⟩ : ∃ t, hasB rowa (bn : Int) = t := ⟨_, rfl⟩
                obtain ⟨ok2, ho2⟩ : ∃ t, hasB rowb (an : Int) = t := ⟨_, rfl⟩
                obtain ⟨bw, hbw⟩ : ∃ t, lw.bw = t := ⟨_, rfl⟩
                have hst0 : stB nx bw (an : Int) (bn : Int) = if bw = true then ok2 else ok1 := by
                  unfold stB
                  rw [Int.toNat_natCast, Int.toNat_natCast, hga, hgb, ho1, ho2]
                have hg0 := (hbr.cell (p := ⟨w.heap.size, 0, none⟩) hl2).trans (hown2.cell (j := 0) rfl)
                have HG0 : Hid (wr.cell? ⟨w.heap.size, 0, none⟩ = some (.bool bw)) := Lib.hid (by rw [← hbw]; exact hg0)
                have HBW := Lib.hid hbw
                have HST := Lib.hid hst0
                obtain ⟨la, hla⟩ : ∃ n, rowa.length = n := ⟨_, rfl⟩
                obtain ⟨lb, hlb⟩ : ∃ n, rowb.length = n := ⟨_, rfl⟩
                rw [hla] at hcella hla3
                rw [hlb] at hcellb hlb3
                have HO1 := Lib.hid ho1
                have HO2 := Lib.hid ho2
                have HLA := Lib.hid hla
                have HLB := Lib.hid hlb
                have hgd := HG0.out
                have HNX : Hid (∀ t : Bool, t = (if bw = true then ok2 else ok1) → pthB nx lw.bw ps = (t && pthB nx lw.bw (ps.drop (q + 1)))) := Lib.hid fun t ht => by
                  rw [HPE.out, HPA.out, ht, ← HST.out, HBW.out]
                clear hpa hpb hda hdb hga hgb ho1 ho2 hbw hst0 hg0 hla hlb
                have k1 : IntKind.i64.wrap ((q : Int) + 1 - 1) = (q : Int) := by rw [IntWalk.i64_in _ ⟨by omega, by omega⟩]; omega
                have k2 : IntKind.i64.wrap (q : Int) = (q : Int) := IntWalk.i64_in _ ⟨by omega, by omega⟩
                have k3 : (q : Int) < (np : Int) := by omega
                have k4 : (q : Int) + 1 < (np : Int) := by omega
                have k5 : (0 : Int) ≤ (q : Int) + 1 := by omega
                have k6 : ((q : Int) + 1).toNat = q + 1 := by omega
                have hcb2 : wr.cell? ⟨ap.block, ap.off + (q + 1), none⟩ = some (.int .i64 (bn : Int)) := by simpa [Addr.add] using hcb
                cases bw with
                | false =>
                  have HNX2 := Lib.hid (HNX.out ok1 rfl)
                  cases ok1 with
                  | true =>
                    go_wp2
                    go_quiet ((go_at_call 14; exact Calls.quiet_of_same (has_told HO1.out _ hrowa HLA.out (by unfold maxLen; omega))))
                    go_wp2
                    go_round
                    case rel => exact ⟨q + 1, by omega, by go_num, .inl ⟨rfl, by rw [HNX2.out]; rfl⟩, ⟨hbr.os, hbr.tape, hbr.output, hbr.size, hbr.block⟩⟩
                    case measure => (simp [intOf]; omega)
                  | false =>
                    go_wp2
                    go_quiet ((go_at_call 14; exact Calls.quiet_of_same (has_told HO1.out _ hrowa HLA.out (by unfold maxLen; omega))))
                    go_wp2
                    go_round
                    case rel => exact ⟨q + 1, by omega, by go_num, .inr ⟨rfl, by rw [HNX2.out]; rfl⟩, ⟨hbr.os, hbr.tape, hbr.output, hbr.size, hbr.block⟩⟩
                    case measure => (simp [intOf]; omega)
                | true =>
                  have HNX2 := Lib.hid (HNX.out ok2 rfl)
                  cases ok2 with
                  | true =>
                    go_wp2
                    go_quiet ((go_at_call 14; exact Calls.quiet_of_same (has_told HO1.out _ hrowa HLA.out (by unfold maxLen; omega))))
                    have g1 : (wr.drewN nq).cell? (ap.add q) = some (.int .i64 (an : Int)) := hca
                    have g2 : (wr.drewN nq).cell? ⟨ap.block, ap.off + (q + 1), none⟩ = some (.int .i64 (bn : Int)) := hcb2
                    have g3 : (wr.drewN nq).cell? (ad.add bn) = some (.slice Arb lb crb) := hcellb
                    have g4 : (wr.drewN nq).cell? ⟨w.heap.size, 0, none⟩ = some (.bool true) := hgd
                    have g5 : RdI (wr.drewN nq) w2.heap.size Arb rowb := hrowb
                    have gB : Below w2.heap.size w2 (wr.drewN nq) := ⟨hbr.os, hbr.tape, hbr.output, hbr.size, hbr.block⟩
                    generalize wr.drewN nq = w6 at *
                    go_wp2
                    go_quiet ((go_at_call 14; exact Calls.quiet_of_same (has_told HO2.out _ g5 HLB.out (by unfold maxLen; omega))))
                    go_wp2
                    go_round
                    case rel => exact ⟨q + 1, by omega, by go_num, .inl ⟨rfl, by rw [HNX2.out]; rfl⟩, ⟨gB.os, gB.tape, gB.output, gB.size, gB.block⟩⟩
                    case measure => (simp [intOf]; omega)
                  | false =>
                    go_wp2
                    go_quiet ((go_at_call 14; exact Calls.quiet_of_same (has_told HO1.out _ hrowa HLA.out (by unfold maxLen; omega))))
                    have g1 : (wr.drewN nq).cell? (ap.add q) = some (.int .i64 (an : Int)) := hca
                    have g2 : (wr.drewN nq).cell? ⟨ap.block, ap.off + (q + 1), none⟩ = some (.int .i64 (bn : Int)) := hcb2
                    have g3 : (wr.drewN nq).cell? (ad.add bn) = some (.slice Arb lb crb) := hcellb
                    have g4 : (wr.drewN nq).cell? ⟨w.heap.size, 0, none⟩ = some (.bool true) := hgd
                    have g5 : RdI (wr.drewN nq) w2.heap.size Arb rowb := hrowb
                    have gB : Below w2.heap.size w2 (wr.drewN nq) := ⟨hbr.os, hbr.tape, hbr.output, hbr.size, hbr.block⟩
                    generalize wr.drewN nq = w6 at *
                    go_wp2
                    go_quiet ((go_at_call 14; exact Calls.quiet_of_same (has_told HO2.out _ g5 HLB.out (by unfold maxLen; omega))))
                    go_wp2
                    go_round
                    case rel => exact ⟨q + 1, by omega, by go_num, .inr ⟨rfl, by rw [HNX2.out]; rfl⟩, ⟨gB.os, gB.tape, gB.output, gB.size, gB.block⟩⟩
                    case measure => (simp [intOf]; omega)
              · have hpt : pthB nx lw.bw ps = true := by rw [HPE.out]; exact pthB_end (by rw [HNP.out]; omega)
                rw [HPT.out] at hpt
                cases hpt
            · clear hpf
              by_cases hqt : q + 1 < np
              · go_wp2
                go_ret
                exact ⟨ret_bool (by simp), hbw2.trans (hbr.mono hbw2.size)⟩
              · go_wp2
                go_ret
                exact ⟨ret_bool (by simp), hbw2.trans (hbr.mono hbw2.size)⟩
      · have hrk' : rowOk nx.length ps = false := by simpa using hrk
        have hca := ckAlong_bad (ps := ps) hc (.inr (.inl hrk'))
        have HAB := Lib.hid (fun (w2 : World) h1 h2 h3 => K.alongBad A nx.length cap nx A1 c1 A2 c2 lw Ap ps.length cp ps w2 h1 rfl HM.out h2 hu h3 rfl HPM.out (by rw [hca]; omega))
        rw [hca] at HAB
        have hz0 : ps.length ≠ 0 := fun h => hz (List.eq_nil_of_length_eq_zero h)
        have HIN : Hid (insideB nx.length ps = false) := Lib.hid ((insideB_row ps).trans hrk')
        obtain ⟨np, hnp⟩ : ∃ np, ps.length = np := ⟨_, rfl⟩
        rw [hnp] at HAB hpm hz0 HPM ⊢
        have HNP := Lib.hid hnp
        have e0 : ((np : Int) == 0) = false := by simp; omega
        clear hc hca hz hz0 hnp hrk hrk'
        go_enter Try.func4, Try.ntmps4
        go_wp2_with fail
        refine (HAB.out _ hx0 hr0 hp0).mono ?_
        rintro e w1 ⟨rfl, hb1⟩
        have hx1 := (hx0.below hb1 (Nat.le_refl _)).more hb1.size
        have hr1 := (hr0.below hb1 (Nat.le_refl _)).more hb1.size
        have hp1 := (hp0.below hb1 (Nat.le_refl _)).more hb1.size
        have hown1 := hown.below hb1 hown.lt
        have hl1 := hown1.lt
        have d0 := hown1.cell (j := 0) rfl
        have d1 := hown1.cell (j := 1) rfl
        have d2 := hown1.cell (j := 2) rfl
        have d3 := hown1.cell (j := 3) rfl
        have d4 := hown1.cell (j := 4) rfl
        go_wp2_with fail
        refine (refLawCheck_any A _ cap nx A1 c1 A2 c2 lw _ hx1 rfl hr1 hu).mono ?_
        rintro e w2 ⟨rfl, hb2⟩
        have hbw2 := (hb0.trans (hb1.mono hb0.size)).trans (hb2.mono (by have := hb0.size; have := hb1.size; omega))
        rw [HC.out]
        have hp2 := (hp1.below hb2 (Nat.le_refl _)).more hb2.size
        go_wp2_with (go_at_call 13; (with_reducible refine (inside_long _ Ap np cp ps _ _ hp2 HNP.out HPM.out).mono ?_); rw [HIN.out]; rintro e w5 ⟨rfl, rfl⟩)
        go_loop [9, 10] (fun s z => z = .int .i64 1 ∧ s = .int .i64 5) (fun _ z => 1 - (intOf z).toNat)
        case atStart => exact ⟨rfl, rfl⟩
        case round =>
          obtain ⟨rfl, rfl⟩ := hrel
          by_cases h1 : 1 < np
          · go_wp2
            go_ret
            exact ⟨ret_bool (by simp), hbw2⟩
          · go_wp2
            go_ret
            exact ⟨ret_bool (by simp), hbw2⟩
  · have hne : (ckLaw nx lw == 0) = false := by simp [hc]
    have hne2 : (ckLaw nx lw != 0) = true := by simp [hc]
    have hca := ckAlong_law (ps := ps) hc
    have HC := Lib.hid hc
    have HAB := Lib.hid (fun (w2 : World) h1 h2 h3 => K.alongBad A nx.length cap nx A1 c1 A2 c2 lw Ap ps.length cp ps w2 h1 rfl HM.out h2 hu h3 rfl HPM.out (by rw [hca]; exact hc))
    rw [hca] at HAB
    obtain ⟨np, hnp⟩ : ∃ np, ps.length = np := ⟨_, rfl⟩
    rw [hnp] at HAB hpm ⊢
    clear hc hca hnp
    go_enter Try.func4, Try.ntmps4
    go_wp2_with fail
    refine (HAB.out _ hx0 hr0 hp0).mono ?_
    rintro e w1 ⟨rfl, hb1⟩
    have hx1 := (hx0.below hb1 (Nat.le_refl _)).more hb1.size
    have hr1 := (hr0.below hb1 (Nat.le_refl _)).more hb1.size
    have hp1 := (hp0.below hb1 (Nat.le_refl _)).more hb1.size
    have hown1 := hown.below hb1 hown.lt
    have hl1 := hown1.lt
    have d0 := hown1.cell (j := 0) rfl
    have d1 := hown1.cell (j := 1) rfl
    have d2 := hown1.cell (j := 2) rfl
    have d3 := hown1.cell (j := 3) rfl
    have d4 := hown1.cell (j := 4) rfl
    go_wp2_with fail
    refine (refLawCheck_any A _ cap nx A1 c1 A2 c2 lw _ hx1 rfl hr1 hu).mono ?_
    rintro e w2 ⟨rfl, hb2⟩
    have hbw2 := (hb0.trans (hb1.mono hb0.size)).trans (hb2.mono (by have := hb0.size; have := hb1.size; omega))
    go_wp2
    go_loop [9, 10] (fun s z => z = .int .i64 1 ∧ s = .int .i64 (ckLaw nx lw)) (fun _ z => 1 - (intOf z).toNat)
    case atStart => exact ⟨rfl, rfl⟩
    case round =>
      obtain ⟨rfl, rfl⟩ := hrel
      by_cases h1 : 1 < np
      · go_wp2
        go_ret
        exact ⟨ret_bool (by simp), hbw2⟩
      · go_wp2
        go_ret
        exact ⟨ret_bool (by simp), hbw2⟩

set_option maxRecDepth 100000 in
theorem lawFactAlongs_lifted (os : Os) (started : os.Started) (H : Type) (enc : TypeId × Value → H) :
    ReturnsInHanded {} Try.checked os 4 .any (Rows.factAlongsSpec.pre6 enc Try.prog Try.f4 Rows.factAlongsRow.domain false) (Rows.factAlongsSpec.post enc Try.prog Try.f4 false true false false) := by
  refine returnsInHanded_of_change_sized (C := Try.checked) Try.own started (by kernel_rfl) Try.func4
    (ChangeSpec.witness6 (enc := enc) (C := Try.checked) false ⟨#[], #[.slice none 0 0, .agg #[.bool false, .bool false, .slice none 0 0, .slice none 0 0, .int .u32 0], .slice none 0 0], []⟩ 8 (by kernel_rfl) (by kernel_rfl) (by kernel_rfl) (by kernel_rfl)) ?_
  intro W base args ds gs before hval0 hW hcnd hsz _
  have hval : ∀ (j : Nat) t v, Try.f4.params[j]? = some t → args[j]? = some v → Value.okWide Try.prog W .any base t v := hval0
  have hW' := hW
  obtain ⟨p, q, hA0, hV, rfl, hfz, hnd⟩ := hW
  have hA : DataW.TrodAll enc Try.prog W 0 (fun _ => true) true Try.f4.params.toList args.toList ds p := hA0
  obtain ⟨hgs, _⟩ := trodVars_none hV
  rw [Try.params4] at hA hval
  obtain ⟨v0, vs0, d0, ds0, p0, q0, hargs, rfl, rfl, h0, r0⟩ := trodAll_cons hA
  obtain ⟨v1, vs1, d1, ds1, p1, q1, rfl, rfl, rfl, h1, r1⟩ := trodAll_cons r0
  obtain ⟨v2, vs2, d2, ds2, p2, q2, rfl, rfl, rfl, h2, r2⟩ := trodAll_cons r1
  obtain ⟨rfl, rfl, rfl⟩ := trodAll_nil r2
  have hargs2 : args = #[v0, v1, v2] := Array.toList_inj.1 hargs
  subst hargs2
  obtain ⟨A0, c0, l0, rfl, lc0, cm0, x0, r0⟩ := open_graphA (hval 0 22 v0 rfl rfl) h0
  have b0 := len_reach Try.underlying22 (hval 0 22 _ rfl rfl) h0 hsz (j := 0) (by rw [Try.params4]; rfl) rfl
  rw [show Try.prog.bytesOf (Try.prog.elem 22) = 24 from by kernel_rfl] at b0
  obtain ⟨w1, A1, c1, B1, e1, rfl, x1, u1⟩ := open_lawA (hval 1 26 v1 rfl rfl) h1
  obtain ⟨A2, c2, l2, rfl, lc2, cm2, x2, r2⟩ := open_intsA (hval 2 34 v2 rfl rfl) h2
  have b2 := len_reach Try.underlying34 (hval 2 34 _ rfl rfl) h2 hsz (j := 2) (by rw [Try.params4]; rfl) rfl
  rw [show Try.prog.bytesOf (Try.prog.elem 34) = 8 from by kernel_rfl] at b2
  refine (lawFactAlongs_any alongIs A0 c0 l0 A1 c1 B1 e1 w1 A2 c2 l2 _ x0 (by omega) x1 u1 x2 (by omega) (by omega)).mono fun e W' ⟨he, hb⟩ => ?_
  subst he
  exact ⟨_, rfl, law_post Try.laidOut rfl (by kernel_rfl) Try.underlying4 ⟨rfl, rfl, rfl⟩ (by kernel_rfl) hW' hb⟩

theorem factAlongs_holds : Rows.FactAlongsSaid :=
  OpenClaim.holds_of_wide 4 Try.f4 rfl rfl rfl rfl rfl rfl rfl ⟨rfl, rfl, rfl, rfl, rfl⟩ rfl rfl rfl rfl rfl (by kernel_rfl) Try.func4 (show joinedFacts Try.prog 4 Try.f4 Rows.factAlongsSpec Rows.factAlongsRow = true from (by unfold joinedFacts; (repeat' (with_reducible refine and_both ?_ ?_)) <;> first | (with_reducible exact may_enter) | ((with_reducible refine make_ok ?_); rfl) | ((with_reducible refine lifts_ok ?_); rfl) | kernel_rfl))
    (of_decide_eq_true (by kernel_rfl)) (by unfold Func.isWrapper; rw [if_neg (of_decide_eq_false (by kernel_rfl))]; exact ⟨rfl, rfl⟩)
    (fun os started H enc _ => lawFactAlongs_lifted os started H enc)

end Go.Proofs.Ytmbabbdcijgnoaa
