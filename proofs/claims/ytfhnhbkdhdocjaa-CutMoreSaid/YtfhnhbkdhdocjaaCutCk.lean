/-
  cut.check, cut.required, cut.Needs (T1).
-/
import Derived.Test.YtfhnhbkdhdocjaaCutReq
import Derived.Test.YtfhnhbkdhdocjaaCutIs
import Derived.Test.YtfhnhbkdhdocjaaLiveTrimC
import Derived.Test.YtfhnhbkdhdocjaaHang
import Derived.Test.YtfhnhbkdhdocjaaMWay
import Derived.Test.YtfhnhbkdhdocjaaMBlock
namespace Go.Proofs.Ytfhnhbkdhdocjaa
open Go.RowKit
set_option linter.unusedSimpArgs false
set_option linter.unusedVariables false
set_option maxRecDepth 100000

/-- what check tells -/
def CkT (p : List Bk) (len : Nat) (T : Bool) (e : Ending) (w' : World) : Prop :=
  (T = true ∧ ∃ (NA LA : Option Addr) (nc lc : Nat) (ws : List Nat), e = .returned (.tuple #[.slice NA len nc, .slice LA len lc, .int .i64 0]) ∧ Lst (nxP p) ws ∧ RdG w' w'.heap.size NA (nxP p) ∧ RdU w' w'.heap.size LA ws) ∨
  (T = false ∧ e = .returned (.tuple #[.slice none 0 0, .slice none 0 0, .int .i64 5]))

set_option maxHeartbeats 8000000 in
theorem cutCheck_any (n want : Nat) (A : Option Addr) (len cap : Nat) (p : List Bk) (T : Bool) (w : World) (hx : RdP w w.heap.size A p) (hl : p.length = len) (hc : ckProg n p = 0) (hw : want < 2 ^ n) (hT : T = true ↔ StopsP (nxP p)) :
    Calls Try.prog 70 #[.int .i64 n, .slice A len cap, .int .u32 (want : Nat)] w fun e w' => CkT p len T e w' ∧ Below w.heap.size w w' := by
  obtain ⟨_, _, b3, b4, _⟩ := ckProg_bd hc
  rw [hl] at b3 b4
  have hway := nxP_way hc
  have hnl : (nxP p).length = len := by unfold nxP; rw [List.length_map]; exact hl
  have HIN := Lib.hid (liveIs.in_ n want A len cap p w hx hl hc hw)
  have HBW := Lib.hid (fun (Z : World) (hZ : Below w.heap.size w Z) => blockIs.way n A len cap p Z ((hx.below hZ (Nat.le_refl _)).more hZ.size) hl hc)
  have HRE := Lib.hid (fun (NA : Option Addr) (nc : Nat) (Z : World) (hg : RdG Z Z.heap.size NA (nxP p)) => wayReach_any NA len nc (nxP p) Z hg hnl (by unfold maxLen; omega))
  have HLA := Lib.hid (fun (NA : Option Addr) (nc : Nat) (Z : World) (hg : RdG Z Z.heap.size NA (nxP p)) => hangLast_any NA len nc (nxP p) Z hg hnl hway)
  obtain ⟨RW, hRW⟩ : ∃ RW, reachW (nxP p) = RW := ⟨_, rfl⟩
  rw [hway, hRW] at HRE
  have HRB : Hid (∀ i, RW.testBit i = true ↔ Rea (nxP p) (-1) 0 i) := Lib.hid fun i => by
    rw [← hRW]
    unfold reachW
    rw [if_pos hway, setW_bit]
    exact fin_mem hway
  have hR8 : RW < 4294967296 := by have := reachW_lt (nxP p); omega
  have HTT := Lib.hid hT
  have HWAY := Lib.hid hway
  have HNL := Lib.hid hnl
  clear hx hl hc hT hRW hway hnl
  go_enter Try.func70, Try.ntmps70
  go_wp2_with (first
    | (go_at_call 17; (with_reducible refine HIN.out.mono ?_); rintro e w1 ⟨A1, c1, L1, rfl, _, _, hb1⟩)
    | (go_at_call 79; (with_reducible refine (HBW.out _ hb1).mono ?_); rintro e w2 ⟨NA, nc, rfl, hg2, hb2⟩)
    | (go_at_call 93; (with_reducible refine (HRE.out NA nc _ hg2).mono ?_); rintro e w3 ⟨rfl, hb3⟩; have hg3 := (RdG.below hg2 hb3 (Nat.le_refl _)).more hb3.size)
    | (go_at_call 94; (with_reducible refine (HLA.out NA nc _ hg3).mono ?_); rintro e w4 ⟨ws, LA, lc, hlst, rfl, hu4, hb4⟩; have hg4 := (RdG.below hg3 hb4 (Nat.le_refl _)).more hb4.size))
  have HLS := Lib.hid hlst
  have HB4 := Lib.hid (below_via (below_via (below_via hb1 hb2) hb3) hb4)
  have HG4 := Lib.hid hg4
  have hwl : ws.length = len := by rw [hlst.len]; exact HNL.out
  have HWL := Lib.hid hwl
  clear hlst hg2 hg3 hg4 hb1 hb2 hb3 hb4 hwl
  go_loop [47] (fun z => ∃ k : Nat, k ≤ len ∧ z = .int .i64 k ∧ Hid (∀ j W, j < k → ws[j]? = some W → W = 0 → RW.testBit j = false)) (fun z => len - (intOf z).toNat)
  case atStart => exact ⟨0, Nat.zero_le _, rfl, Lib.hid fun j W h => by omega⟩
  case round =>
    obtain ⟨k, hk, rfl, HA⟩ := hrel
    by_cases hlt : k < len
    · obtain ⟨ad, W, rfl, hbl, hdW, hcW⟩ := hu4.at_ (k := k) (by rw [HWL.out]; exact hlt)
      have HDW := Lib.hid hdW
      clear hdW
      have HNX : Hid ((W = 0 → RW.testBit k = false) → ∀ j V, j < k + 1 → ws[j]? = some V → V = 0 → RW.testBit j = false) := Lib.hid fun h j V hj hV hz => by
        by_cases e : j = k
        · subst e
          rw [HDW.out] at hV
          injection hV with hV
          exact h (hV.trans hz)
        · exact HA.out j V (by omega) hV hz
      by_cases h0 : W = 0
      · subst h0
        have hk32 : k < 32 := by omega
        obtain ⟨bt, hbt⟩ : ∃ bt, RW.testBit k = bt := ⟨_, rfl⟩
        have HB := Lib.hid hbt
        clear hbt
        cases bt with
        | false =>
          go_wp2_with (go_at_call 76; (with_reducible refine (hasBit_any RW k _ hR8 hk32).mono ?_); rw [HB.out]; rintro e w5 ⟨rfl, rfl⟩)
          go_round
          case rel => exact ⟨k + 1, by omega, by go_num, Lib.hid (HNX.out fun _ => HB.out)⟩
          case measure => (simp [intOf]; omega)
        | true =>
          have HTF : Hid (T = false) := Lib.hid (by
            cases T with
            | false => rfl
            | true =>
              have h1 := HTT.out.1 rfl k ((HRB.out k).1 HB.out)
              have h2 : (0 : Nat).testBit k = true := (HLS.out.mem k 0 HDW.out k).2 ⟨h1, .inl rfl⟩
              simp at h2)
          go_wp2_with (go_at_call 76; (with_reducible refine (hasBit_any RW k _ hR8 hk32).mono ?_); rw [HB.out]; rintro e w5 ⟨rfl, rfl⟩)
          go_returns
          exact ⟨.inr ⟨HTF.out, rfl⟩, HB4.out⟩
      · have hne : (((W : Nat) : Int) == 0) = false := by simp; omega
        have HW0 := Lib.hid h0
        clear h0
        go_wp2
        go_round
        case rel => exact ⟨k + 1, by omega, by go_num, Lib.hid (HNX.out fun h => absurd h HW0.out)⟩
        case measure => (simp [intOf]; omega)
    · have HTR : Hid (T = true) := Lib.hid (HTT.out.2 fun c hr0 => by
        have hcl := hr0.lt HWAY.out (by rw [HNL.out]; omega)
        rw [HNL.out] at hcl
        obtain ⟨V, hV⟩ : ∃ V, ws[c]? = some V := ⟨_, List.getElem?_eq_getElem (by rw [HWL.out]; exact hcl)⟩
        by_cases hz : V = 0
        · have := HA.out c V (by omega) hV hz
          rw [(HRB.out c).2 hr0] at this
          cases this
        · obtain ⟨j, hj⟩ := Nat.exists_testBit_of_ne_zero hz
          exact ((HLS.out.mem c V hV j).1 hj).1)
      go_wp2
      go_returns
      exact ⟨.inl ⟨HTR.out, NA, LA, nc, lc, ws, rfl, HLS.out, HG4.out, hu4⟩, HB4.out⟩

set_option maxHeartbeats 4000000 in
theorem cutCheck_bad (vars : Int) (want : Nat) (A : Option Addr) (len cap : Nat) (p : List Bk) (w : World) (hx : RdP w w.heap.size A p) (hl : p.length = len) (hm : len ≤ maxLen) (hin : ∀ b ∈ p, InBk b) (hw : want < 4294967296) (hc : ckWant vars p want ≠ 0) :
    Calls Try.prog 70 #[.int .i64 vars, .slice A len cap, .int .u32 (want : Nat)] w fun e w' => e = .returned (.tuple #[.slice none 0 0, .slice none 0 0, .int .i64 (ckWant vars p want)]) ∧ Below w.heap.size w w' := by
  have HIN := Lib.hid (liveIs.inBad vars want A len cap p w hx hl hm hin hw hc)
  obtain ⟨c, hce⟩ : ∃ c, ckWant vars p want = c := ⟨_, rfl⟩
  rw [hce] at HIN hc ⊢
  have hne : (c != 0) = true := by simp [hc]
  clear hx hl hin hc hce
  go_enter Try.func70, Try.ntmps70
  go_wp2_with (go_at_call 17; (with_reducible refine HIN.out.mono ?_); rintro e w1 ⟨A1, c1, rfl, hb1⟩)
  go_returns
  exact ⟨rfl, hb1⟩

set_option maxHeartbeats 8000000 in
theorem required_any (n want : Nat) (A AN : Option Addr) (len cap capN : Nat) (p : List Bk) (w : World) (hx : RdP w w.heap.size A p) (hN : RdG w w.heap.size AN (nxP p)) (hl : p.length = len) (hc : ckProg n p = 0) (hw : want < 2 ^ n) :
    Calls Try.prog 71 #[.slice A len cap, .slice AN len capN, .int .u32 (want : Nat)] w fun e w' => ∃ (MA : Option Addr) (t : Nat) (ms : List (List Bool)), e = .returned (.tuple #[.slice MA len len, .int .u32 (t : Nat)]) ∧ NdW p want ms t ∧ RdM2 w' w'.heap.size MA ms ∧ Below w.heap.size w w' := by
  obtain ⟨_, _, b3, b4, b5, _⟩ := ckProg_bd hc
  have hway := nxP_way hc
  have hnl : (nxP p).length = len := by unfold nxP; rw [List.length_map]; exact hl
  have HON := Lib.hid (hangOn_any AN len capN (nxP p) w hN hnl hway)
  have HRS := Lib.hid (fun (T : Nat) (Z : World) (hZ : Below w.heap.size w Z) (hT : TsOk p T) (hT8 : T < 256) => requiredSteps_any n want T A AN len cap capN p Z ((hx.below hZ (Nat.le_refl _)).more hZ.size) ((hN.below hZ (Nat.le_refl _)).more hZ.size) hl hc hw hT hT8)
  have HL := Lib.hid hl
  have HC := Lib.hid hc
  have HWAY := Lib.hid hway
  have HNL := Lib.hid hnl
  rw [hl] at b3 b4
  clear hx hN hl hc hway hnl
  go_enter Try.func71, Try.ntmps71
  go_wp2_with (go_at_call 95; (with_reducible refine HON.out.mono ?_); rintro e w1 ⟨ws, OA, oc, hhg, rfl, hu1, hb1⟩)
  have HHG := Lib.hid hhg
  have HB1 := Lib.hid hb1
  have HU1 := Lib.hid hu1
  clear hhg hb1 hu1
  go_loopw [10] (fun s wr => ∃ T : Nat, s = .int .u32 (T : Nat) ∧ Hid (TsI p want T) ∧ Hid (Below w1.heap.size w1 wr)) (fun s _ => 256 - (intOf s).toNat)
  case atStart => exact ⟨0, rfl, Lib.hid (TsI.start p want), Lib.hid (Below.refl _ _)⟩
  case round =>
    obtain ⟨T, rfl, HTI, HB⟩ := hrel
    have hT8 := HTI.out.t8 (by rw [HL.out]; omega)
    have HR := Lib.hid (HRS.out T wr (below_via HB1.out HB.out) HTI.out.ok hT8)
    go_wp2_with fail
    refine HR.out.mono ?_
    rintro e w2 ⟨MA, ms, rfl, hrq, hrm, hb2⟩
    have HRQ := Lib.hid hrq
    have HB2 := Lib.hid hb2
    have HRT := Lib.hid (requiredTests_any OA MA len oc len T (nxP p) ws ms w2 ((HU1.out.below (below_via HB.out hb2) (Nat.le_refl _)).more (below_via HB.out hb2).size) hrm HNL.out (by rw [hrq.sl, HL.out]) (fun r hr => by
      obtain ⟨i, hi, rfl⟩ := List.getElem_of_mem hr
      have hip : i < p.length := by rw [← hrq.sl]; exact hi
      have := hrq.rl i _ _ (List.getElem?_eq_getElem hip) (List.getElem?_eq_getElem hi)
      have := manyS_le (List.getElem?_eq_getElem hip)
      omega) HWAY.out HHG.out hT8)
    have HRM := Lib.hid hrm
    clear hrq hb2 hrm
    go_wp2_with fail
    refine HRT.out.mono ?_
    rintro e w3 ⟨⟨T', rfl, hT'8, hT'⟩, rfl⟩
    have HT' := Lib.hid hT'
    clear hT'
    by_cases heq : T' = T
    · subst heq
      have HND := Lib.hid (HTI.out.done HRQ.out HT'.out)
      go_wp2
      go_ret2
      exact ⟨MA, T', ms, rfl, ⟨HRQ.out.sl, HRQ.out.rl, by omega, HND.out⟩, HRM.out, below_via HB1.out (below_via HB.out HB2.out)⟩
    · have hlt : T < T' := by
        have h1 : T ≤ T' := le_bitsF fun v hv => (HT'.out v).2 (.inl hv)
        omega
      have hne : (((T' : Nat) : Int) == ((T : Nat) : Int)) = false := by simp; omega
      have HTN := Lib.hid (HTI.out.go HC.out HRQ.out HT'.out)
      clear heq
      go_wp2
      go_round
      case rel => exact ⟨T', rfl, HTN, Lib.hid (below_via HB.out HB2.out)⟩
      case measure => simp [intOf]; omega

set_option maxHeartbeats 4000000 in
theorem cutNeeds_any (n want : Nat) (A : Option Addr) (len cap : Nat) (p : List Bk) (w : World) (hx : RdP w w.heap.size A p) (hl : p.length = len) (hc : ckProg n p = 0) (hw : want < 2 ^ n) (hst : StopsP (nxP p)) :
    Calls Try.prog 40 #[.int .i64 n, .slice A len cap, .int .u32 (want : Nat)] w fun e w' => ∃ (A' : Option Addr) (c' t : Nat) (ms : List (List Bool)), e = .returned (.tuple #[.slice A' len c', .int .u32 (t : Nat), .int .i64 0]) ∧ NdW p want ms t ∧ RdM2 w' w'.heap.size A' ms ∧ Below w.heap.size w w' := by
  have HCK := Lib.hid (cutCheck_any n want A len cap p true w hx hl hc hw ⟨fun _ => hst, fun _ => rfl⟩)
  have HRQ := Lib.hid (fun (NA : Option Addr) (nc : Nat) (Z : World) (hZ : Below w.heap.size w Z) (hg : RdG Z Z.heap.size NA (nxP p)) => required_any n want A NA len cap nc p Z ((hx.below hZ (Nat.le_refl _)).more hZ.size) hg hl hc hw)
  clear hx hl hc hst
  go_enter Try.func40, Try.ntmps40
  go_wp2_with fail
  refine HCK.out.mono ?_
  rintro e w1 ⟨(⟨_, NA, LA, nc, lc, ws, rfl, hlst, hg1, hu1⟩ | ⟨h, _⟩), hb1⟩
  · have HR1 := Lib.hid (HRQ.out NA nc w1 hb1 hg1)
    clear hlst hg1 hu1
    go_wp2_with (go_at_call 71; (with_reducible refine HR1.out.mono ?_); rintro e w2 ⟨MA, t, ms, rfl, hnd, hrm, hb2⟩)
    have HND := Lib.hid hnd
    have HRM := Lib.hid hrm
    clear hnd hrm
    go_returns
    exact ⟨MA, len, t, ms, rfl, HND.out, HRM.out, below_via hb1 hb2⟩
  · cases h

theorem cutCheck_not (vars : Int) (want : Nat) (A : Option Addr) (len cap : Nat) (p : List Bk) (T : Bool) (w : World) (hx : RdP w w.heap.size A p) (hl : p.length = len) (hm : len ≤ maxLen) (hin : ∀ b ∈ p, InBk b) (hw : want < 4294967296) (hT : T = true ↔ StopsP (nxP p)) (hc : ckCut vars p want T ≠ 0) :
    Calls Try.prog 70 #[.int .i64 vars, .slice A len cap, .int .u32 (want : Nat)] w fun e w' => e = .returned (.tuple #[.slice none 0 0, .slice none 0 0, .int .i64 (ckCut vars p want T)]) ∧ Below w.heap.size w w' := by
  by_cases h0 : ckWant vars p want = 0
  · obtain ⟨n, rfl, _, _, hc1, hc2⟩ := ckWant_ok h0
    have hTf : T = false := by
      cases T with
      | false => rfl
      | true => exact absurd (by unfold ckCut; rw [if_pos h0, if_pos rfl]) hc
    have hce : ckCut n p want T = 5 := by unfold ckCut; rw [if_pos h0, if_neg (by rw [hTf]; simp)]
    rw [hce]
    refine (cutCheck_any n want A len cap p T w hx hl hc1 hc2 hT).mono ?_
    rintro e w1 ⟨(⟨h, _⟩ | ⟨_, rfl⟩), hb1⟩
    · rw [hTf] at h; cases h
    · exact ⟨rfl, hb1⟩
  · have hce : ckCut vars p want T = ckWant vars p want := by unfold ckCut; rw [if_neg h0]
    rw [hce]
    exact cutCheck_bad vars want A len cap p w hx hl hm hin hw h0

set_option maxHeartbeats 4000000 in
theorem cutNeeds_bad (vars : Int) (want : Nat) (A : Option Addr) (len cap : Nat) (p : List Bk) (T : Bool) (w : World) (hx : RdP w w.heap.size A p) (hl : p.length = len) (hm : len ≤ maxLen) (hin : ∀ b ∈ p, InBk b) (hw : want < 4294967296) (hT : T = true ↔ StopsP (nxP p)) (hc : ckCut vars p want T ≠ 0) :
    Calls Try.prog 40 #[.int .i64 vars, .slice A len cap, .int .u32 (want : Nat)] w fun e w' => ∃ A' c', e = .returned (.tuple #[.slice A' 0 c', .int .u32 0, .int .i64 (ckCut vars p want T)]) ∧ Below w.heap.size w w' := by
  have HCK := Lib.hid (cutCheck_not vars want A len cap p T w hx hl hm hin hw hT hc)
  obtain ⟨c, hce⟩ : ∃ c, ckCut vars p want T = c := ⟨_, rfl⟩
  rw [hce] at HCK hc ⊢
  have hne : (c != 0) = true := by simp [hc]
  clear hx hl hin hc hce hT
  go_enter Try.func40, Try.ntmps40
  go_wp2_with (go_at_call 70; (with_reducible refine HCK.out.mono ?_); rintro e w1 ⟨rfl, hb1⟩)
  go_returns
  exact ⟨_, _, rfl, hb1⟩

end Go.Proofs.Ytfhnhbkdhdocjaa
