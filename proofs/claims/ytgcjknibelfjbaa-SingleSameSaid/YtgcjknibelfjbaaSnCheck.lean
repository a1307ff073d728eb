/-
  single.check, Check (M2).
-/
import Derived.Test.YtgcjknibelfjbaaSnGraph
import Derived.Test.YtgcjknibelfjbaaSnBlock
import Derived.Test.YtgcjknibelfjbaaMBlock
namespace Go.Proofs.Ytgcjknibelfjbaa
open Go.RowKit
set_option linter.unusedSimpArgs false
set_option linter.unusedVariables false
set_option maxRecDepth 100000

set_option maxHeartbeats 1000000 in
theorem isLast_any (p : Addr) (vars : Int) (Aj Ac Al : Option Addr) (n2 cj n1 cc n3 cl : Nat) (te th el : Int) (w : World) (hp : w.cell? p = some (.int .i64 vars)) :
    Calls Try.prog 56 #[.agg #[.slice Aj n2 cj, .slice Ac n1 cc, .int .i64 te, .int .i64 th, .int .i64 el, .slice Al n3 cl], .pointer (some p)] w fun e w' => e = .returned (.bool ((n3 : Int) != vars)) ∧ Below w.heap.size w w' := by
  have hpl := block_lt hp
  go_enter Try.func56, Try.ntmps56
  go_wp2
  go_ret
  exact ⟨rfl, by go_grown⟩

/-- is Last as long as it must be, in each block? -/
def lastOk (vars : Int) (l : List Sg) : Bool := l.all fun s => decide ((s.last.length : Int) = vars)

theorem lastOk_iff {vars : Int} {l : List Sg} : lastOk vars l = true ↔ ∀ s ∈ l, (s.last.length : Int) = vars := by simp [lastOk]

set_option maxHeartbeats 4000000 in
theorem indexLast_any (p : Addr) (vars : Int) (A : Option Addr) (n c : Nat) (l : List Sg) (w : World) (hx : RdN w w.heap.size A l) (hl : l.length = n) (hn : n ≤ maxLen) (hp : w.cell? p = some (.int .i64 vars)) :
    Calls Try.prog 78 #[.slice A n c, .func (.func 56) #[] #[.pointer (some p)]] w fun e w' => ∃ r : Int, e = .returned (.int .i64 r) ∧ decide (0 ≤ r) = !lastOk vars l ∧ Below w.heap.size w w' := by
  unfold maxLen at hn
  have HL := Lib.hid hl
  have hpl := block_lt hp
  clear hl
  go_enter Try.func78, Try.ntmps78
  go_wp2
  go_loopw [8] (fun z wr => ∃ k : Nat, k ≤ n ∧ z = .int .i64 k ∧ lastOk vars (l.take k) = true ∧ Below w.heap.size w wr) (fun z _ => n - (intOf z).toNat)
  case atStart => exact ⟨0, Nat.zero_le _, rfl, rfl, Below.refl _ _⟩
  case round =>
    obtain ⟨k, hk, rfl, hok, hb⟩ := hrel
    have HO := Lib.hid hok
    have hsz := hb.size
    clear hok
    by_cases hlt : k < n
    · obtain ⟨ad, ⟨js, co, te, th, el, la⟩, Aj, cj, Ac, cc, Al, cl, rfl, hbl, hd, _, _, _, e0, e1, e2, e3, e4, e5⟩ := (hx.below hb (Nat.le_refl _)).at_ (k := k) (by rw [HL.out]; exact hlt)
      have HD := Lib.hid hd
      simp only [] at e0 e1 e2 e3 e4 e5
      obtain ⟨n1, hn1⟩ : ∃ n, co.length = n := ⟨_, rfl⟩
      obtain ⟨n2, hn2⟩ : ∃ n, js.length = n := ⟨_, rfl⟩
      obtain ⟨n3, hn3⟩ : ∃ n, la.length = n := ⟨_, rfl⟩
      rw [hn1] at e1
      rw [hn2] at e0
      rw [hn3] at e5
      have HN3 := Lib.hid hn3
      have hpr := (hb.cell hpl).trans hp
      have HCL := Lib.hid (isLast_any p vars Aj Ac Al n2 cj n1 cc n3 cl te th el wr hpr)
      clear hd hn1 hn2 hn3 hpr
      by_cases h1 : (n3 : Int) = vars
      · have f1 : ((n3 : Int) != vars) = false := by simp [h1]
        rw [f1] at HCL
        have HNX : Hid (lastOk vars (l.take (k + 1)) = true) := Lib.hid (by
          have := HO.out
          unfold lastOk at this ⊢
          rw [List.take_add_one, HD.out, Option.toList_some, List.all_append, this]
          simp [HN3.out, h1])
        clear h1 f1
        go_wp2_with (go_at_call 56; (with_reducible refine HCL.out.mono ?_); rintro e w5 ⟨rfl, hb5⟩)
        go_round
        case rel => exact ⟨k + 1, by omega, by go_num, HNX.out, hb.trans (hb5.mono hsz)⟩
        case measure => (simp [intOf]; omega)
      · have f1 : ((n3 : Int) != vars) = true := by simp [h1]
        rw [f1] at HCL
        have HNO : Hid (lastOk vars l = false) := Lib.hid (by
          cases e : lastOk vars l with
          | false => rfl
          | true =>
            have := lastOk_iff.1 e _ (List.mem_of_getElem? HD.out)
            simp only [HN3.out] at this
            exact absurd this h1)
        clear h1 f1
        go_wp2_with (go_at_call 56; (with_reducible refine HCL.out.mono ?_); rintro e w5 ⟨rfl, hb5⟩)
        go_ret
        exact ⟨_, rfl, by rw [HNO.out]; simp, hb.trans (hb5.mono hsz)⟩
    · have HYES : Hid (lastOk vars l = true) := Lib.hid (by
        have := HO.out
        rwa [List.take_of_length_le (by rw [HL.out]; omega)] at this)
      go_wp2
      go_ret
      exact ⟨_, rfl, by rw [HYES.out]; rfl, hb⟩

set_option maxHeartbeats 1000000 in
theorem containsLast_any (p : Addr) (vars : Int) (A : Option Addr) (n c : Nat) (l : List Sg) (w : World) (hx : RdN w w.heap.size A l) (hl : l.length = n) (hn : n ≤ maxLen) (hp : w.cell? p = some (.int .i64 vars)) :
    Calls Try.prog 57 #[.slice A n c, .func (.func 56) #[] #[.pointer (some p)]] w fun e w' => e = .returned (.bool (!lastOk vars l)) ∧ Below w.heap.size w w' := by
  have HC := Lib.hid (indexLast_any p vars A n c l w hx hl hn hp)
  clear hx hl hp
  go_enter Try.func57, Try.ntmps57
  go_wp2_with fail
  refine HC.out.mono ?_
  rintro e w5 ⟨r, rfl, hr, hb⟩
  have HR := Lib.hid hr
  clear hr
  go_wp2
  go_ret
  exact ⟨ret_bool (by rw [← HR.out]), hb⟩

theorem ckSgs_nil (fs : List (List Int)) : ckSgs fs [] = 0 := by cases fs <;> rfl

/-- what single.check returns: the graph if there is no error -/
def ChkS (w w' : World) (vars : Int) (len : Nat) (l : List Sg) (e : Ending) : Prop :=
  ∃ A n c, e = .returned (.tuple #[.slice A n c, .int .i64 (ckSingle vars l)]) ∧ (ckSingle vars l = 0 → n = len ∧ RdG w' w'.heap.size A (nxP (bareP l))) ∧ Below w.heap.size w w'

set_option maxHeartbeats 16000000 in
theorem singleChk_any (vars : Int) (A : Option Addr) (len cap : Nat) (l : List Sg) (w : World) (hx : RdN w w.heap.size A l) (hl : l.length = len) (hm : len ≤ maxLen) (hin : ∀ s ∈ l, InSg s) :
    Calls Try.prog 20 #[.int .i64 vars, .slice A len cap] w fun e w' => ChkS w w' vars len l e := by
  unfold maxLen at hm
  unfold ChkS
  obtain ⟨R, hR⟩ : ∃ R, ckSingle vars l = R := ⟨_, rfl⟩
  have HR := Lib.hid hR
  rw [hR]
  clear hR
  by_cases hbad : vars < 1 ∨ 6 < vars ∨ len < 1 ∨ 8 < len
  · have hck : R = 1 := by rw [← HR.out]; unfold ckSingle; rw [hl, if_pos (by omega)]
    subst hck
    clear hl hin hx HR
    go_enter Try.func20, Try.ntmps20
    go_wp2_with fail
    all_goals first
      | (go_ret2; exact ⟨_, _, _, rfl, fun h => absurd h (by decide), by go_grown⟩)
      | (go_ret2; exact ⟨⟨_, _, _, rfl⟩, by go_grown⟩)
      | (exfalso; simp_all; omega)
  · have v1 : 1 ≤ vars := by omega
    have v2 : vars ≤ 6 := by omega
    have v3 : 1 ≤ len := by omega
    have v4 : len ≤ 8 := by omega
    have f1 : decide (vars < 1) = false := by simp; omega
    have f2 : decide (6 < vars) = false := by simp; omega
    have f3 : ((len : Int) == 0) = false := by simp; omega
    have f4 : decide (8 < (len : Int)) = false := by simp; omega
    have HL := Lib.hid hl
    have HIN := Lib.hid hin
    have HLNG : Hid (∀ Z : World, Below w.heap.size w Z → Calls Try.prog 54 #[.slice A len cap] Z fun e w' => e = .returned (.bool (decide (20 < manyC l ∨ 64 < manyJ l))) ∧ Below Z.heap.size Z w') := Lib.hid fun Z hZ => isLong_any A len cap l Z ((hx.below hZ (Nat.le_refl _)).more hZ.size) hl v4 hin
    have HCK : Hid (R = if 20 < manyC l ∨ 64 < manyJ l then 1 else if ckForms vars len l ≠ 0 then 3 else ckSgs (frP l) l) := Lib.hid (by
      rw [← HR.out]
      unfold ckSingle
      rw [hl]
      by_cases h : 20 < manyC l ∨ 64 < manyJ l
      · rw [if_pos (by omega), if_pos h]
      · rw [if_neg (by omega), if_neg h])
    clear hbad hl hin
    by_cases hlong : 20 < manyC l ∨ 64 < manyJ l
    · have hck := HCK.out
      rw [if_pos hlong] at hck
      subst hck
      rw [decide_eq_true hlong] at HLNG
      clear HCK hlong HR
      go_enter Try.func20, Try.ntmps20
      go_wp2_with (go_at_call 54; (with_reducible refine (HLNG.out _ (by go_grown)).mono ?_); rintro e w1 ⟨rfl, hb1⟩)
      go_ret2
      exact ⟨_, _, _, rfl, fun h => absurd h (by decide), (by go_grown : Below w.heap.size w _).trans (hb1.mono (by go_size))⟩
    · have hck := HCK.out
      rw [if_neg hlong] at hck
      rw [decide_eq_false hlong] at HLNG
      have HMC : Hid (manyC l ≤ 20) := Lib.hid (by omega)
      have HMJ : Hid (manyJ l ≤ 64) := Lib.hid (by omega)
      have HCK1 := Lib.hid hck
      clear HCK hlong hck
      have hml : (minP l).length = len := by rw [← HL.out]; simp [minP]
      by_cases hend : ∀ s ∈ l, ¬ endBad l.length s
      · have HGR : Hid (∀ Z : World, Below w.heap.size w Z → Calls Try.prog 55 #[.slice A len cap] Z fun e w' => ∃ A' c', e = .returned (.tuple #[.slice A' len c', .int .i64 0]) ∧ RdG w' w'.heap.size A' (nxP (bareP l)) ∧ Below Z.heap.size Z w') := Lib.hid fun Z hZ => graph_ok A len cap l Z ((hx.below hZ (Nat.le_refl _)).more hZ.size) HL.out v3 v4 hend
        have HFI : Hid (ckForms vars len l = 0 ↔ lastOk vars l = true) := Lib.hid (by
          rw [← HL.out, forms_iff, lastOk_iff]
          exact ⟨fun h => h.2, fun h => ⟨hend, h⟩⟩)
        clear hend hml
        go_enter Try.func20, Try.ntmps20
        go_wp2_with fail
        (with_reducible refine (HLNG.out _ (by go_grown)).mono ?_)
        rintro e w1 ⟨rfl, hb1⟩
        have c1 : w1.cell? ⟨w.heap.size, 0, none⟩ = some (.int .i64 vars) := (hb1.cell (p := ⟨w.heap.size, 0, none⟩) (by simp)).trans (by simp)
        have hbw1 : Below w.heap.size w w1 := (by go_grown : Below w.heap.size w _).trans (hb1.mono (by simp))
        have hs1 : w.heap.size < w1.heap.size := by have := hb1.size; simp at this; omega
        clear hb1
        go_wp2_with fail
        refine (HGR.out _ hbw1).mono ?_
        rintro e w2 ⟨A2, c2, rfl, hg2, hb2⟩
        have c2' := (hb2.cell (p := ⟨w.heap.size, 0, none⟩) hs1).trans c1
        have hbw2 := hbw1.trans (hb2.mono (by omega))
        have hs2 : w.heap.size < w2.heap.size := by have := hb2.size; omega
        have HG2 := Lib.hid hg2
        clear hg2 hb2 c1
        go_wp2_with fail
        refine (containsLast_any _ vars A len cap l _ ((hx.below hbw2 (Nat.le_refl _)).more (by omega)) HL.out (by unfold maxLen; omega) c2').mono ?_
        rintro e w3 ⟨rfl, hb3⟩
        have hbw3 := hbw2.trans (hb3.mono (by omega))
        have hs3 : w.heap.size < w3.heap.size := by have := hb3.size; omega
        have HG3 := Lib.hid ((HG2.out.below hb3 (Nat.le_refl _)).more hb3.size)
        clear HG2 hb3 c2'
        cases hlo : lastOk vars l
        · have HE : Hid (R = 3) := Lib.hid (by rw [HCK1.out, if_pos (fun h => by rw [HFI.out.1 h] at hlo; cases hlo)])
          clear hlo
          go_wp2
          go_ret2
          exact ⟨none, 0, 0, (by rw [HE.out]; rfl), fun h => absurd (HE.out.symm.trans h) (by decide), hbw3⟩
        · have hz := HFI.out.2 hlo
          have HZ := Lib.hid hz
          have HE : Hid (R = ckSgs (frP l) l) := Lib.hid (by rw [HCK1.out, if_neg (fun h => h hz)])
          have HWAY : Hid (ckWay (nxP (bareP l)) = 0) := Lib.hid (bareP_way (vars := vars) (by rw [HL.out]; exact v3) (by rw [HL.out]; exact v4) (by rw [HL.out]; exact hz))
          have HNL : Hid ((nxP (bareP l)).length = len) := Lib.hid (by rw [← HL.out]; simp [bareP, nxP])
          clear hlo hz
          go_wp2_with fail
          refine (sources_any A2 len c2 (nxP (bareP l)) w3 HG3.out HNL.out HWAY.out (nxP_nodup HWAY.out)).mono ?_
          rintro e w5 ⟨A5, c5, rfl, hg5, hb5⟩
          have hg5' : RdG w5 w5.heap.size A5 (frP l) := hg5
          have HG5 := Lib.hid hg5'
          have HG35 := Lib.hid ((HG3.out.below hb5 (Nat.le_refl _)).more hb5.size)
          have HFL : Hid ((frP l).length = len) := Lib.hid (by rw [frP_len, HL.out])
          have hbw5 := hbw3.trans (hb5.mono (by omega))
          have hsz5 := hbw5.size
          clear hg5 hg5' hb5 hs1 hs2 hs3 hbw1 hbw2 hbw3
          go_wp2
          go_loopw [46] (fun z wr => ∃ k : Nat, k ≤ len ∧ z = .int .i64 k ∧ ckSgs (frP l) l = ckSgs ((frP l).drop k) (l.drop k) ∧ Below w5.heap.size w5 wr) (fun z _ => len - (intOf z).toNat)
          case atStart => exact ⟨0, Nat.zero_le _, rfl, rfl, Below.refl _ _⟩
          case round =>
            obtain ⟨k, hk, rfl, hr, hb6⟩ := hrel
            have HR3 := Lib.hid hr
            have hsz6 := hb6.size
            have hbw6 := hbw5.trans (hb6.mono hsz5)
            clear hr
            by_cases hlt : k < len
            · obtain ⟨ad, ⟨js, co, te, th, el, la⟩, Aj, cj, Ac, cc, Al, cl, rfl, hbl, hd, hrj, hrc, hrl, e0, e1, e2, e3, e4, e5⟩ := (hx.below hbw6 (Nat.le_refl _)).at_ (k := k) (by rw [HL.out]; exact hlt)
              obtain ⟨af, row, Ar, cr, rfl, hblf, hdf, hcf, _⟩ := (HG5.out.below hb6 (Nat.le_refl _)).at_ (k := k) (by rw [HFL.out]; exact hlt)
              have HD := Lib.hid (ckSgs_drop hdf hd)
              have hnf := ckForms_at HZ.out hd
              simp only [] at e0 e1 e2 e3 e4 e5 hrj hrc hrl
              obtain ⟨n1, hn1⟩ : ∃ n, co.length = n := ⟨_, rfl⟩
              obtain ⟨n2, hn2⟩ : ∃ n, js.length = n := ⟨_, rfl⟩
              obtain ⟨n3, hn3⟩ : ∃ n, la.length = n := ⟨_, rfl⟩
              obtain ⟨nf, hnfe⟩ : ∃ n, row.length = n := ⟨_, rfl⟩
              have hn36 : n3 ≤ 6 ∧ -1 ≤ te := by
                unfold frmBad at hnf
                simp only [hn3] at hnf
                omega
              have hm1 := manyC_le hd
              have hm2 := manyJ_le hd
              have hmc := HMC.out
              have hmj := HMJ.out
              simp only [] at hm1 hm2
              rw [hn1] at hm1 e1
              rw [hn2] at hm2 e0
              rw [hn3] at e5
              rw [hnfe] at HD hcf
              have hnf9' : nf ≤ 9 := by rw [← hnfe]; have := frP_row hdf; have := HL.out; omega
              have HCB := Lib.hid (snBlock_any Aj Ac Al n2 cj n1 cc n3 cl nf js co te th el la wr (hrj.more (by omega)) (RdS.more hrc (by omega)) (hrl.more (by omega)) hn2 hn1 hn3 (by omega) (by omega) (by omega) (by omega) hn36.2)
              obtain ⟨x, hx2⟩ : ∃ x, ckSg1 nf ⟨js, co, te, th, el, la⟩ = x := ⟨_, rfl⟩
              rw [hx2] at HCB HD
              clear hd hdf hn1 hn2 hn3 hnfe hnf hrj hrc hrl hm1 hm2 hx2
              by_cases hop : x = 0
              · subst hop
                go_wp2_with (go_at_call 58; (with_reducible refine HCB.out.mono ?_); rintro e w7 ⟨rfl, hb7⟩)
                go_round
                case rel => exact ⟨k + 1, by omega, by go_num, by rw [HR3.out, HD.out]; rfl, hb6.trans (hb7.mono hsz6)⟩
                case measure => (simp [intOf]; omega)
              · have e9 : (x != 0) = true := by simp [hop]
                have HX : Hid (R = x) := Lib.hid (by rw [HE.out, HR3.out, HD.out, if_neg hop])
                have HOP := Lib.hid hop
                clear hop
                go_wp2_with (go_at_call 58; (with_reducible refine HCB.out.mono ?_); rintro e w7 ⟨rfl, hb7⟩)
                go_ret2
                exact ⟨none, 0, 0, (by rw [HX.out]; rfl), fun h => absurd (HX.out.symm.trans h) HOP.out, hbw6.trans (hb7.mono (by omega))⟩
            · have hkl : k = len := by omega
              have HX : Hid (R = 0) := Lib.hid (by
                rw [HE.out, HR3.out, hkl, List.drop_of_length_le (l := l) (by rw [HL.out]; exact Nat.le_refl _)]
                exact ckSgs_nil _)
              have HGW := Lib.hid ((HG35.out.below hb6 (Nat.le_refl _)).more hb6.size)
              clear hkl
              go_wp2
              go_ret2
              exact ⟨A2, len, c2, (by rw [HX.out]; rfl), fun _ => ⟨rfl, HGW.out⟩, hbw6⟩
      · have hbadx : ∃ s ∈ l, endBad l.length s := Classical.byContradiction fun h => hend fun s hs h2 => h ⟨s, hs, h2⟩
        obtain ⟨s, hs, hsb⟩ := hbadx
        have hcn := minP_bad (l := l) (by rw [HL.out]; exact v3) (by rw [HL.out]; exact v4) hs hsb
        have hinm : ∀ b ∈ minP l, InBk b := fun b hb => by
          obtain ⟨s, hs, rfl⟩ := List.mem_map.1 hb
          obtain ⟨_, _, _, i1, i2, i3, _⟩ := HIN.out s hs
          refine ⟨by simp [minS], ?_, i2, i3⟩
          unfold inI at i1 ⊢
          simp only [minS]
          omega
        have HE : Hid (R = 3) := Lib.hid (by
          rw [HCK1.out, if_pos (fun h => ?_)]
          rw [← HL.out] at h
          exact (forms_iff.1 h).1 s hs hsb)
        have HGR : Hid (∀ Z : World, Below w.heap.size w Z → Calls Try.prog 55 #[.slice A len cap] Z fun e w' => ∃ A2 n2 c2 e2, e = .returned (.tuple #[.slice A2 n2 c2, .int .i64 e2]) ∧ e2 ≠ 0 ∧ Below Z.heap.size Z w') := Lib.hid fun Z hZ => by
          refine graph_fill A len cap l Z ((hx.below hZ (Nat.le_refl _)).more hZ.size) HL.out v3 v4 _ fun A' c' X hP hX => ?_
          refine (blockWay_bad 1 A' len c' (minP l) X hP hml (by unfold maxLen; omega) hinm hcn).mono ?_
          rintro e w' ⟨A2, c2, rfl, hb⟩
          exact ⟨A2, 0, c2, _, rfl, A2, 0, c2, _, rfl, hcn, hX.trans (hb.mono hX.size)⟩
        clear hend hs hsb hcn hinm hml
        go_enter Try.func20, Try.ntmps20
        go_wp2_with fail
        (with_reducible refine (HLNG.out _ (by go_grown)).mono ?_)
        rintro e w1 ⟨rfl, hb1⟩
        have hbw1 : Below w.heap.size w w1 := (by go_grown : Below w.heap.size w _).trans (hb1.mono (by simp))
        clear hb1
        go_wp2_with fail
        refine (HGR.out _ hbw1).mono ?_
        rintro e w2 ⟨A2, n2, c2, e2, rfl, he2, hb2⟩
        have hbw2 := hbw1.trans (hb2.mono hbw1.size)
        have e3 : (e2 != 0) = true := by simp [he2]
        clear he2 hb2
        go_wp2
        go_ret2
        exact ⟨none, 0, 0, (by rw [HE.out]; rfl), fun h => absurd (HE.out.symm.trans h) (by decide), hbw2⟩

set_option maxHeartbeats 1000000 in
theorem snCheck_any (vars : Int) (A : Option Addr) (len cap : Nat) (l : List Sg) (w : World) (hx : RdN w w.heap.size A l) (hl : l.length = len) (hm : len ≤ maxLen) (hin : ∀ s ∈ l, InSg s) :
    Calls Try.prog 8 #[.int .i64 vars, .slice A len cap] w fun e w' => e = .returned (.int .i64 (ckSingle vars l)) ∧ Below w.heap.size w w' := by
  have HC := Lib.hid (singleChk_any vars A len cap l w hx hl hm hin)
  clear hx hl hin
  go_enter Try.func8, Try.ntmps8
  go_wp2_with fail
  refine HC.out.mono ?_
  rintro e w1 ⟨A1, n1, c1, rfl, _, hb1⟩
  go_wp2
  go_ret
  exact ⟨rfl, hb1⟩

end Go.Proofs.Ytgcjknibelfjbaa
