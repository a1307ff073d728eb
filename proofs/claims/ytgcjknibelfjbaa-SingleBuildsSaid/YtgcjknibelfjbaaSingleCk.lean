/-
  codemasonref.SingleCheck (M2).
-/
import Derived.Test.YtgcjknibelfjbaaSingleFrom
import Derived.Test.YtgcjknibelfjbaaBlockRef
import Derived.BigQuiet
namespace Go.Proofs.Ytgcjknibelfjbaa
open Go.RowKit
set_option linter.unusedSimpArgs false
set_option linter.unusedVariables false
set_option maxRecDepth 100000

theorem insideB_nms : ∀ xs : List Int, insideB 128 xs = nmsOk xs
  | [] => rfl
  | x :: r => by
    have ih := insideB_nms r
    unfold insideB
    show _ = (isNm x && nmsOk r)
    by_cases h : x < 0 ∨ 128 ≤ x
    · rw [if_pos h]
      have : isNm x = false := by unfold isNm; rw [decide_eq_false_iff_not]; omega
      rw [this]
      rfl
    · rw [if_neg h, ih]
      have : isNm x = true := isNm_iff.2 (by omega)
      rw [this]
      rfl

/-- names are names -/
theorem insideN_any (A : Option Addr) (len cap : Nat) (xs : List Int) (B : Nat) (w : World) (hx : RdI w B A xs) (hl : xs.length = len) (hm : len ≤ 65536) :
    Calls Try.prog 21 #[.int .i64 128, .slice A len cap] w fun e w' => e = .returned (.bool (nmsOk xs)) ∧ w = w' := by
  rw [← insideB_nms]
  exact inside_any 128 A len cap xs B w hx hl hm

theorem manyC_small : ∀ {p : List Sg}, (∀ b ∈ p, InSg b) → manyC p * 40 ≤ p.length * 140737488351232 ∧ manyJ p * 32 ≤ p.length * 140737488351232
  | [], _ => by simp [manyC, manyJ]
  | b :: p, h => by
    have h1 := (h b (List.mem_cons_self ..)).code
    have h3 := (h b (List.mem_cons_self ..)).joins
    have h2 := manyC_small (p := p) fun x hx => h x (List.mem_cons_of_mem _ hx)
    simp only [manyC, manyJ, List.length_cons]
    omega

theorem below_drewNC {B : Nat} {X Y : World} (h : Below B X Y) (q : Nat) : Below B X (Y.drewN q) := ⟨h.os, h.tape, h.output, h.size, h.block⟩

theorem frP_row {l : List Sg} {k : Nat} {row : List Int} (h : (frP l)[k]? = some row) : row.length ≤ l.length + 1 := by
  have hk := (List.getElem?_eq_some_iff.1 h).1
  have hn : (nxP (bareP l)).length = l.length := by simp [nxP, bareP]
  rw [frP_len] at hk
  unfold frP at h
  rw [frG_at (by rw [hn]; exact hk)] at h
  injection h with h
  have h1 := trR_len (nxP (bareP l)) k (nxP (bareP l)).length
  have h2 := trR_len (nxP (bareP l)) 0 (nxP (bareP l)).length
  rw [← h]
  split
  · simp only [List.length_cons, ni, List.length_map]; omega
  · simp only [ni, List.length_map]; omega

/-- what follows the second errors -/
theorem bareP_way {vars : Int} {l : List Sg} (h1 : 1 ≤ l.length) (h2 : l.length ≤ 8) (h : ckForms vars l.length l = 0) : ckWay (nxP (bareP l)) = 0 := by
  have hl : (bareP l).length = l.length := by simp [bareP]
  refine nxP_wayS (by omega) (by omega) fun b hb => ?_
  obtain ⟨s, hs, rfl⟩ := List.mem_map.1 hb
  obtain ⟨k, hk, rfl⟩ := List.getElem_of_mem hs
  have := ckForms_at h (List.getElem?_eq_getElem hk)
  unfold frmBad at this
  rw [hl]
  unfold bareS
  simp only []
  omega

set_option maxHeartbeats 16000000 in
theorem singleCheck_any (vars : Int) (A : Option Addr) (len cap : Nat) (l : List Sg) (w : World) (hx : RdN w w.heap.size A l) (hl : l.length = len) (hm : len ≤ maxLen) (hin : ∀ s ∈ l, InSg s) :
    Calls Try.prog 9 #[.int .i64 vars, .slice A len cap] w fun e w' => e = .returned (.int .i64 (ckSingle vars l)) ∧ Below w.heap.size w w' := by
  unfold maxLen at hm
  have HL := Lib.hid hl
  by_cases h8 : len ≤ 8
  · have hsm : Hid (∀ k, k ≤ 8 → manyC (l.take k) ≤ 28147497670247 ∧ manyJ (l.take k) ≤ 35184372087808) := Lib.hid fun k hk => by
      have h1 := manyC_small (p := l.take k) fun b hb => hin b (List.mem_of_mem_take hb)
      have h2 : (l.take k).length ≤ 8 := by rw [List.length_take]; omega
      omega
    have HIN := Lib.hid hin
    have HMT := Lib.hid (fun (k : Nat) (b : Sg) (h : l[k]? = some b) => And.intro (manyC_take h) (manyJ_take h))
    have HFULL : Hid (l.take len = l) := Lib.hid (by rw [← hl, List.take_length])
    have HCK : Hid (ckSingle vars l = if vars < 1 ∨ 6 < vars ∨ len < 1 ∨ 8 < len ∨ 20 < manyC l ∨ 64 < manyJ l then 1 else if ckForms vars len l ≠ 0 then 3 else ckSgs (frP l) l) := Lib.hid (by unfold ckSingle; rw [hl])
    clear hl hin
    go_enter Try.func9, Try.ntmps9
    go_wp2
    go_loopw [5, 6, 20] (fun z5 z6 z wr => ∃ k : Nat, k ≤ len ∧ z = .int .i64 k ∧ z5 = .int .i64 (manyC (l.take k) : Nat) ∧ z6 = .int .i64 (manyJ (l.take k) : Nat) ∧ Below w.heap.size w wr) (fun _ _ z _ => len - (intOf z).toNat)
    case atStart => exact ⟨0, Nat.zero_le _, rfl, by simp [manyC], by simp [manyJ], Below.refl _ _⟩
    case round =>
      obtain ⟨k, hk, rfl, rfl, rfl, hb⟩ := hrel
      have hsz := hb.size
      by_cases hlt : k < len
      · obtain ⟨ad, s, Aj, cj, Ac, cc, Al, cl, rfl, hbl, hd, _, _, _, e0, e1, e2, e3, e4, e5⟩ := (hx.below hb (Nat.le_refl _)).at_ (k := k) (by rw [HL.out]; exact hlt)
        obtain ⟨hmt, hmj⟩ := HMT.out k s hd
        have hs1 := hsm.out k (by omega)
        have hs2 := hsm.out (k + 1) (by omega)
        rw [hmt, hmj] at hs2
        have HT := Lib.hid hmt
        have HT2 := Lib.hid hmj
        obtain ⟨m, hme⟩ : ∃ m, manyC (l.take k) = m := ⟨_, rfl⟩
        obtain ⟨m2, hme2⟩ : ∃ m, manyJ (l.take k) = m := ⟨_, rfl⟩
        obtain ⟨n1, hn1⟩ : ∃ n, s.code.length = n := ⟨_, rfl⟩
        obtain ⟨n2, hn2⟩ : ∃ n, s.joins.length = n := ⟨_, rfl⟩
        obtain ⟨n3, hn3⟩ : ∃ n, s.last.length = n := ⟨_, rfl⟩
        rw [hme, hn1] at HT
        rw [hme2, hn2] at HT2
        rw [hme, hme2] at hs1 ⊢
        rw [hme, hme2, hn1, hn2] at hs2
        rw [hn1] at e1
        rw [hn2] at e0
        rw [hn3] at e5
        obtain ⟨g1, g2⟩ := hs1
        obtain ⟨g3, g4⟩ := hs2
        clear hd hmt hmj hme hme2 hn1 hn2 hn3
        go_wp2
        go_round
        case rel => exact ⟨k + 1, by omega, by go_num, by rw [HT.out]; go_num, by rw [HT2.out]; go_num, by go_grown⟩
        case measure => (simp [intOf]; omega)
      · have hkl : k = len := by omega
        have hmp : manyC (l.take k) = manyC l := by rw [hkl, HFULL.out]
        have hmq : manyJ (l.take k) = manyJ l := by rw [hkl, HFULL.out]
        rw [hmp, hmq]
        have hsp := hsm.out k (by omega)
        rw [hmp, hmq] at hsp
        obtain ⟨g1, g2⟩ := hsp
        obtain ⟨m, hme⟩ : ∃ m, manyC l = m := ⟨_, rfl⟩
        obtain ⟨m2, hme2⟩ : ∃ m, manyJ l = m := ⟨_, rfl⟩
        rw [hme, hme2] at HCK ⊢
        rw [hme] at g1
        rw [hme2] at g2
        have HME := Lib.hid hme
        have HME2 := Lib.hid hme2
        obtain ⟨wv, rfl⟩ : ∃ wv : World, wv = wr := ⟨_, rfl⟩
        clear hmp hmq hme hme2 hkl
        by_cases hbad : vars < 1 ∨ 6 < vars ∨ len < 1 ∨ 8 < len ∨ 20 < m ∨ 64 < m2
        · have hck := HCK.out
          rw [if_pos hbad] at hck
          have HC1 := Lib.hid hck
          clear hck
          go_wp2
          all_goals first
            | (go_ret; exact ⟨ret_int HC1.out.symm, hb⟩)
            | (exfalso; simp_all; omega)
        · have hck := HCK.out
          rw [if_neg hbad] at hck
          have HC1 := Lib.hid hck
          have v1 : 1 ≤ vars := by omega
          have v2 : vars ≤ 6 := by omega
          have v3 : 1 ≤ len := by omega
          have v5 : m ≤ 20 := by omega
          have v6 : m2 ≤ 64 := by omega
          clear hck hbad
          go_wp2
          go_loopw [61] (fun z wr => ∃ k : Nat, k ≤ len ∧ z = .int .i64 k ∧ ckForms vars len l = ckForms vars len (l.drop k) ∧ Below w.heap.size w wr) (fun z _ => len - (intOf z).toNat)
          case atStart => exact ⟨0, Nat.zero_le _, rfl, rfl, hb⟩
          case round =>
            obtain ⟨k, hk, rfl, hr, hb2⟩ := hrel
            have HR := Lib.hid hr
            have hsz2 := hb2.size
            clear hr
            by_cases hlt : k < len
            · obtain ⟨ad, ⟨js, co, te, th, el, la⟩, Aj, cj, Ac, cc, Al, cl, rfl, hbl, hd, _, _, _, e0, e1, e2, e3, e4, e5⟩ := (hx.below hb2 (Nat.le_refl _)).at_ (k := k) (by rw [HL.out]; exact hlt)
              have HD := Lib.hid (ckForms_drop (vars := vars) (n := (len : Int)) hd)
              simp only [] at e0 e1 e2 e3 e4 e5
              obtain ⟨n1, hn1⟩ : ∃ n, co.length = n := ⟨_, rfl⟩
              obtain ⟨n2, hn2⟩ : ∃ n, js.length = n := ⟨_, rfl⟩
              obtain ⟨n3, hn3⟩ : ∃ n, la.length = n := ⟨_, rfl⟩
              rw [hn1] at e1
              rw [hn2] at e0
              rw [hn3] at e5
              have HN3 := Lib.hid hn3
              clear hd hn1 hn2 hn3
              go_wp2_with (first
                | (go_at_call 21; (with_reducible refine (inside1_any _ th _ _ _ ?_).mono ?_); (· (exact cell_new (by simp) rfl)); rintro e w1 ⟨rfl, rfl⟩)
                | (go_at_call 21; (with_reducible refine (inside2_any _ th el _ _ _ ?_ ?_).mono ?_); (· (exact cell_new (by simp) rfl)); (· (exact cell_new (by simp) rfl)); rintro e w1 ⟨rfl, rfl⟩))
              all_goals first
                | (go_round
                   case rel =>
                     have e : ¬ frmBad vars len ⟨js, co, te, th, el, la⟩ := by
                       (go_light; (try simp only [Bool.not_eq_true', Bool.not_eq_false', decide_eq_true_eq, decide_eq_false_iff_not, beq_iff_eq, beq_eq_false_iff_ne, bne_iff_ne, bne_eq_false_iff_eq, ne_eq, Bool.and_eq_true, Bool.or_eq_true, Bool.and_eq_false_iff, Bool.or_eq_false_iff, Decidable.not_not] at *))
                       unfold frmBad
                       simp only [HN3.out]
                       omega
                     exact ⟨k + 1, by omega, by go_num, by rw [HR.out, HD.out, if_neg e], by go_grown⟩
                   case measure => (simp [intOf]; omega))
                | (go_ret
                   refine ⟨ret_int ?_, by go_grown⟩
                   have e : frmBad vars len ⟨js, co, te, th, el, la⟩ := by
                     (go_light; (try simp only [Bool.not_eq_true', Bool.not_eq_false', decide_eq_true_eq, decide_eq_false_iff_not, beq_iff_eq, beq_eq_false_iff_ne, bne_iff_ne, bne_eq_false_iff_eq, ne_eq, Bool.and_eq_true, Bool.or_eq_true, Bool.and_eq_false_iff, Bool.or_eq_false_iff, Decidable.not_not] at *))
                     unfold frmBad
                     simp only [HN3.out]
                     omega
                   rw [HC1.out, if_pos (by rw [HR.out, HD.out, if_pos e]; decide)])
            · have hkl : len ≤ k := by omega
              have hd0 : l.drop k = [] := List.drop_of_length_le (by rw [HL.out]; exact hkl)
              have hz : ckForms vars len l = 0 := by rw [HR.out, hd0]; rfl
              have hc2 : ckSingle vars l = ckSgs (frP l) l := by rw [HC1.out, if_neg (fun h => h hz)]
              have HZ := Lib.hid hz
              have HC2 := Lib.hid hc2
              have HWAY : Hid (ckWay (nxP (bareP l)) = 0) := Lib.hid (bareP_way (vars := vars) (by rw [HL.out]; exact v3) (by rw [HL.out]; exact h8) (by rw [HL.out]; exact hz))
              have HBL : Hid ((bareP l).length = len) := Lib.hid (by rw [← HL.out]; simp [bareP])
              have HNL : Hid ((nxP (bareP l)).length = len) := Lib.hid (by rw [← HL.out]; simp [bareP, nxP])
              have hxr := (hx.below hb2 (Nat.le_refl _)).more hsz2
              have HXR := Lib.hid hxr
              clear hkl hd0 hz hc2 hxr
              go_wp2_with fail
              refine (bare_any A len cap l _ HXR.out HL.out h8).mono ?_
              rintro e w3 ⟨A3, c3, rfl, hp3, hb3⟩
              go_wp2_with fail
              refine (refNexts_any A3 len c3 (bareP l) w3 hp3 HBL.out h8).mono ?_
              rintro e w4 ⟨A4, c4, rfl, hg4, hb4⟩
              go_wp2_with fail
              refine (froms_any A4 len c4 (nxP (bareP l)) w4 hg4 HNL.out HWAY.out v3 h8).mono ?_
              rintro e w5 ⟨A5, c5, rfl, hg5, hb5⟩
              have hg5' : RdG w5 w5.heap.size A5 (frP l) := hg5
              have hb25 : Below wr.heap.size wr w5 := hb3.trans ((hb4.trans (hb5.mono hb4.size)).mono hb3.size)
              have hbw5 : Below w.heap.size w w5 := hb2.trans (hb25.mono hsz2)
              have HG5 := Lib.hid hg5'
              have HFL : Hid ((frP l).length = len) := Lib.hid (by rw [frP_len, HL.out])
              have hsz5 := hbw5.size
              clear hg5 hg5' hg4 hp3 hb3 hb4 hb5 hb25 hb2 hb hsz2 hsz
              go_wp2
              go_loopw [117] (fun z wr => ∃ k : Nat, k ≤ len ∧ z = .int .i64 k ∧ ckSgs (frP l) l = ckSgs ((frP l).drop k) (l.drop k) ∧ Below w5.heap.size w5 wr) (fun z _ => len - (intOf z).toNat)
              case atStart => exact ⟨0, Nat.zero_le _, rfl, rfl, Below.refl _ _⟩
              case round =>
                obtain ⟨k, hk, rfl, hr, hb6⟩ := hrel
                have HR3 := Lib.hid hr
                have hsz6 := hb6.size
                have hbw6 := hbw5.trans (hb6.mono hsz5)
                clear hr
                by_cases hlt : k < len
                · obtain ⟨ad, ⟨js, co, te, th, el, la⟩, Aj, cj, Ac, cc, Al, cl, rfl, hbl, hd, hrj, hrc, hrl, e0, e1, e2, e3, e4, e5⟩ := (hx.below hbw6 (Nat.le_refl _)).at_ (k := k) (by rw [HL.out]; exact hlt)
                  obtain ⟨af, row, Ar, cr, rfl, hblf, hdf, hcf, _⟩ := (HG5.out.below hb6 (Nat.le_refl _)).at_ (k := k) (by rw [HFL.out]; exact hlt)
                  have HD := Lib.hid (ckSgs_drop hdf hd)
                  have hnf := ckForms_at HZ.out hd
                  simp only [] at e0 e1 e2 e3 e4 e5 hrj hrc hrl
                  obtain ⟨n1, hn1⟩ : ∃ n, co.length = n := ⟨_, rfl⟩
                  obtain ⟨n2, hn2⟩ : ∃ n, js.length = n := ⟨_, rfl⟩
                  obtain ⟨n3, hn3⟩ : ∃ n, la.length = n := ⟨_, rfl⟩
                  obtain ⟨nf, hnfe⟩ : ∃ n, row.length = n := ⟨_, rfl⟩
                  have hn36 : n3 ≤ 6 := by
                    unfold frmBad at hnf
                    simp only [hn3] at hnf
                    omega
                  have hm1 := manyC_le hd
                  have hm2 := manyJ_le hd
                  simp only [] at hm1 hm2
                  rw [HME.out, hn1] at hm1
                  rw [HME2.out, hn2] at hm2
                  rw [hn1] at e1
                  rw [hn2] at e0
                  rw [hn3] at e5
                  rw [hnfe] at HD hcf
                  have hnf9' : nf ≤ 9 := by rw [← hnfe]; have := frP_row hdf; have := HL.out; omega
                  have HN1 := Lib.hid hn1
                  have HN2 := Lib.hid hn2
                  have HN3 := Lib.hid hn3
                  have HRJ := Lib.hid hrj
                  have HRC := Lib.hid hrc
                  have HRL := Lib.hid hrl
                  obtain ⟨wo, rfl⟩ : ∃ wo : World, wo = wr := ⟨_, rfl⟩
                  have hown0 := Own.new wo 43 [.slice Aj n2 cj, .slice Ac n1 cc, .int .i64 te, .int .i64 th, .int .i64 el, .slice Al n3 cl]
                  have hbo0 : Below wo.heap.size wo (wo.alloc (.cells #[.slice Aj n2 cj, .slice Ac n1 cc, .int .i64 te, .int .i64 th, .int .i64 el, .slice Al n3 cl] 43)) := by go_grown
                  have HFJ : Hid (js.drop n2 = []) := Lib.hid (List.drop_of_length_le (by rw [hn2]; exact Nat.le_refl _))
                  have HFC : Hid (co.drop n1 = []) := Lib.hid (List.drop_of_length_le (by rw [hn1]; exact Nat.le_refl _))
                  have hblf5 : (af.add k).block < wo.heap.size := by omega
                  have HSG : Hid (∀ v, v ≠ 0 → ckSg1 nf ⟨js, co, te, th, el, la⟩ = v → ckSingle vars l = v) := Lib.hid fun v h0 he => by rw [HC2.out, HR3.out, HD.out, he, if_neg h0]
                  clear hd hdf hn1 hn2 hn3 hnfe hnf hrj hrc hrl
                  go_wp2
                  go_loopw [125] (fun z wr => ∃ c : Nat, c ≤ n2 ∧ z = .int .i64 c ∧ ckJns nf js = ckJns nf (js.drop c) ∧ Own wr wo.heap.size 43 [.slice Aj n2 cj, .slice Ac n1 cc, .int .i64 te, .int .i64 th, .int .i64 el, .slice Al n3 cl] ∧ Below wo.heap.size wo wr) (fun z _ => n2 - (intOf z).toNat)
                  case atStart => exact ⟨0, Nat.zero_le _, rfl, rfl, hown0, hbo0⟩
                  case round =>
                    obtain ⟨c, hc, rfl, hr, hown, hb7⟩ := hrel
                    have HR4 := Lib.hid hr
                    have hsz7 := hb7.size
                    have hlt7 := hown.lt
                    have HOWN := Lib.hid hown
                    have hbw7 := hbw6.trans (hb7.mono (by omega))
                    clear hr
                    by_cases hct : c < n2
                    · obtain ⟨ad2, ⟨to, fr⟩, Af, cf, rfl, hbl2, hd2, hrf, c0, c1, _⟩ := (HRJ.out.below hb7 (by omega)).at_ (k := c) (by rw [HN2.out]; exact hct)
                      have HD4 := Lib.hid (ckJns_drop (k := nf) hd2)
                      simp only [] at c0 c1 hrf
                      obtain ⟨nr, hnr⟩ : ∃ n, fr.length = n := ⟨_, rfl⟩
                      have HNR := Lib.hid hnr
                      rw [hnr] at c1
                      have hcf7 := (hb7.cell hblf5).trans hcf
                      have HRF := Lib.hid hrf
                      have hbl2r : (ad2.add (c * 2)).block < wr.heap.size := by omega
                      have hblf7 : (af.add k).block < wr.heap.size := by omega
                      clear hd2 hnr hrf hcf hown
                      by_cases hne : nr = nf
                      · have f1 : ((nr : Int) != (nf : Int)) = false := by simp [hne]
                        have HJ : Hid (ckJn nf ⟨to, fr⟩ = if isNm to = true ∧ nmsOk fr = true then 0 else 2) := Lib.hid (by unfold ckJn; rw [if_neg (by simp [HNR.out, hne])])
                        have hnf9 : nr ≤ 9 := by omega
                        clear hne
                        obtain ⟨b1, hb1⟩ : ∃ b, isNm to = b := ⟨_, rfl⟩
                        obtain ⟨b2, hb2⟩ : ∃ b, nmsOk fr = b := ⟨_, rfl⟩
                        have HB1 : Hid (decide (0 ≤ to ∧ to < 128) = b1) := Lib.hid hb1
                        have HB2 := Lib.hid hb2
                        rw [hb1, hb2] at HJ
                        have HE2 : Hid (ckJn nf ⟨to, fr⟩ = 2 → ckSingle vars l = 2) := Lib.hid fun hj => HSG.out 2 (by decide) (by
                          have : ckJns nf js = 2 := by rw [HR4.out, HD4.out, hj]; rfl
                          unfold ckSg1
                          rw [if_pos (by simp only [this]; decide)]
                          exact this)
                        clear hb1 hb2
                        go_wp2
                        go_quiet (fail)
                        have hbq : Below wr.heap.size wr ((wr.alloc (.cells #[.int .i64 to, .slice Af nr cf] 59)).drewN nq) := below_drewNC (by go_grown) _
                        have ho15 : Own ((wr.alloc (.cells #[.int .i64 to, .slice Af nr cf] 59)).drewN nq) wr.heap.size 59 [.int .i64 to, .slice Af nr cf] := Own.below (Own.new wr _ [_, _]) (below_drewNC (Below.refl (wr.heap.size + 1) _) _) (Nat.lt_succ_self _)
                        generalize (wr.alloc (.cells #[.int .i64 to, .slice Af nr cf] 59)).drewN nq = wq at *
                        have t0 := ho15.cell (j := 0) rfl
                        have t1 := ho15.cell (j := 1) rfl
                        have hlq := ho15.lt
                        have hownq := HOWN.out.below hbq hlt7
                        have HOWNQ := Lib.hid hownq
                        have hbwq := hbw7.trans (hbq.mono (by have := hbw7.size; omega))
                        have hboq := hb7.trans (hbq.mono hsz7)
                        have HRFQ := Lib.hid ((HRF.out.below hbq (by omega)).more (B' := wq.heap.size) (by omega))
                        clear ho15 hownq c0 c1 hcf7
                        cases b1 <;> cases b2
                        all_goals
                          go_wp2_with (first
                            | (go_at_call 21; (with_reducible refine (inside1_any _ to _ _ _ ?_).mono ?_); (· (exact cell_new (by simp) rfl)); rw [HB1.out]; rintro e w1 ⟨rfl, rfl⟩)
                            | (go_at_call 21; (with_reducible refine (insideN_any Af nr cf fr _ _ (HRFQ.out.below (by go_grown) (Nat.le_refl _)) HNR.out (by omega)).mono ?_); rw [HB2.out]; rintro e w1 ⟨rfl, rfl⟩))
                          first
                            | (go_ret
                               exact ⟨ret_int (HE2.out (by rw [HJ.out]; rfl)).symm, by go_grown⟩)
                            | (go_round
                               case rel => exact ⟨c + 1, by omega, by go_num, by rw [HR4.out, HD4.out, HJ.out]; rfl, (HOWNQ.out.alloc _), by go_grown⟩
                               case measure => (simp [intOf]; omega))
                      · have f1 : ((nr : Int) != (nf : Int)) = true := by simp; omega
                        have HJ : Hid (ckJn nf ⟨to, fr⟩ = 3) := Lib.hid (by unfold ckJn; rw [if_pos (by simp [HNR.out, hne])])
                        have HE : Hid (ckSingle vars l = 3) := Lib.hid (HSG.out 3 (by decide) (by
                          have : ckJns nf js = 3 := by rw [HR4.out, HD4.out, HJ.out]; rfl
                          unfold ckSg1
                          rw [if_pos (by simp only [this]; decide)]
                          exact this))
                        clear hne
                        go_wp2
                        go_quiet (fail)
                        go_wp2
                        go_ret
                        exact ⟨ret_int HE.out.symm, below_drewNC (by go_grown) _⟩
                    · have hjz : ckJns nf js = 0 := by rw [HR4.out, show c = n2 by omega, HFJ.out]; rfl
                      have HJZ := Lib.hid hjz
                      have HSC : Hid (∀ v, v ≠ 0 → ckStNs co = v → ckSingle vars l = v) := Lib.hid fun v h0 he => HSG.out v h0 (by
                        unfold ckSg1
                        simp only []
                        rw [if_neg (fun h => h HJZ.out), if_pos (by rw [he]; exact h0)]
                        exact he)
                      have d1 := hown.cell (j := 1) rfl
                      obtain ⟨wp, rfl⟩ : ∃ wp : World, wp = wr := ⟨_, rfl⟩
                      clear hjz
                      go_wp2
                      go_loopw [153] (fun z wr => ∃ c : Nat, c ≤ n1 ∧ z = .int .i64 c ∧ ckStNs co = ckStNs (co.drop c) ∧ Own wr wo.heap.size 43 [.slice Aj n2 cj, .slice Ac n1 cc, .int .i64 te, .int .i64 th, .int .i64 el, .slice Al n3 cl] ∧ Below wo.heap.size wo wr) (fun z _ => n1 - (intOf z).toNat)
                      case atStart => exact ⟨0, Nat.zero_le _, rfl, rfl, HOWN.out, hb7⟩
                      case round =>
                        obtain ⟨c2, hc2, rfl, hr, hown2, hb8⟩ := hrel
                        have HR5 := Lib.hid hr
                        have hsz8 := hb8.size
                        have hlt8 := hown2.lt
                        have HOWN2 := Lib.hid hown2
                        have hbw8 := hbw6.trans (hb8.mono (by omega))
                        clear hr
                        by_cases hct : c2 < n1
                        · obtain ⟨ad2, o, t, a, b, v, rfl, hbl2, hd2, c0, c1, c2', c3, c4⟩ := (RdS.below HRC.out hb8 (by omega)).at_ (k := c2) (by rw [HN1.out]; exact hct)
                          have HD5 := Lib.hid (ckStNs_drop hd2)
                          have hbl2r : (ad2.add (c2 * 5)).block < wr.heap.size := by omega
                          clear hd2 hown2 d1 hown
                          go_wp2_with (first
                            | (go_at_call 25; (with_reducible refine (refValue_any v _).mono ?_); rintro e w1 ⟨rfl, rfl⟩)
                            | (go_at_call 21; (with_reducible refine (inside1_any _ t _ _ _ ?_).mono ?_); (· (exact cell_new (by simp) rfl)); rintro e w1 ⟨rfl, rfl⟩)
                            | (go_at_call 21; (with_reducible refine (inside1_any _ v _ _ _ ?_).mono ?_); (· (exact cell_new (by simp) rfl)); rintro e w1 ⟨rfl, rfl⟩)
                            | (go_at_call 21; (with_reducible refine (inside2_any _ a b _ _ _ ?_ ?_).mono ?_); (· (exact cell_new (by simp) rfl)); (· (exact cell_new (by simp) rfl)); rintro e w1 ⟨rfl, rfl⟩))
                          all_goals first
                            | (go_round
                               case rel =>
                                 have e : ckStN ⟨o, t, a, b, v⟩ = 0 := by
                                   (go_light; (try simp only [Bool.not_eq_true', Bool.not_eq_false', decide_eq_true_eq, decide_eq_false_iff_not, beq_iff_eq, beq_eq_false_iff_ne, bne_iff_ne, bne_eq_false_iff_eq, ne_eq, Bool.and_eq_true, Bool.or_eq_true, Bool.and_eq_false_iff, Bool.or_eq_false_iff, Decidable.not_not] at *))
                                   unfold ckStN
                                   simp only []
                                   (repeat' split) <;> omega
                                 exact ⟨c2 + 1, by omega, by go_num, by rw [HR5.out, HD5.out, if_pos e], HOWN2.out.below (by go_grown : Below wr.heap.size wr _) hlt8, by go_grown⟩
                               case measure => (simp [intOf]; omega))
                            | (go_ret
                               refine ⟨ret_int ?_, by go_grown⟩
                               first
                                 | (have e : ckStN ⟨o, t, a, b, v⟩ = 6 := by
                                      (go_light; (try simp only [Bool.not_eq_true', Bool.not_eq_false', decide_eq_true_eq, decide_eq_false_iff_not, beq_iff_eq, beq_eq_false_iff_ne, bne_iff_ne, bne_eq_false_iff_eq, ne_eq, Bool.and_eq_true, Bool.or_eq_true, Bool.and_eq_false_iff, Bool.or_eq_false_iff, Decidable.not_not] at *))
                                      unfold ckStN
                                      simp only []
                                      (repeat' split) <;> omega
                                    exact (HSC.out 6 (by decide) (by rw [HR5.out, HD5.out, e]; rfl)).symm)
                                 | (have e : ckStN ⟨o, t, a, b, v⟩ = 4 := by
                                      (go_light; (try simp only [Bool.not_eq_true', Bool.not_eq_false', decide_eq_true_eq, decide_eq_false_iff_not, beq_iff_eq, beq_eq_false_iff_ne, bne_iff_ne, bne_eq_false_iff_eq, ne_eq, Bool.and_eq_true, Bool.or_eq_true, Bool.and_eq_false_iff, Bool.or_eq_false_iff, Decidable.not_not] at *))
                                      unfold ckStN
                                      simp only []
                                      (repeat' split) <;> omega
                                    exact (HSC.out 4 (by decide) (by rw [HR5.out, HD5.out, e]; rfl)).symm)
                                 | (have e : ckStN ⟨o, t, a, b, v⟩ = 2 := by
                                      (go_light; (try simp only [Bool.not_eq_true', Bool.not_eq_false', decide_eq_true_eq, decide_eq_false_iff_not, beq_iff_eq, beq_eq_false_iff_ne, bne_iff_ne, bne_eq_false_iff_eq, ne_eq, Bool.and_eq_true, Bool.or_eq_true, Bool.and_eq_false_iff, Bool.or_eq_false_iff, Decidable.not_not] at *))
                                      unfold ckStN
                                      simp only []
                                      (repeat' split) <;> omega
                                    exact (HSC.out 2 (by decide) (by rw [HR5.out, HD5.out, e]; rfl)).symm))
                        · have hcz : ckStNs co = 0 := by rw [HR5.out, show c2 = n1 by omega, HFC.out]; rfl
                          have HE3 : Hid (ckSg1 nf ⟨js, co, te, th, el, la⟩ = if te < 128 ∧ nmsOk la = true then 0 else 2) := Lib.hid (by
                            unfold ckSg1
                            simp only []
                            rw [if_neg (fun h => h HJZ.out), if_neg (fun h => h hcz)])
                          have d2 := hown2.cell (j := 2) rfl
                          have d5 := hown2.cell (j := 5) rfl
                          clear hcz d1 hown hown2
                          by_cases hte : 128 ≤ te
                          · have f1 : decide (128 ≤ te) = true := by simp [hte]
                            have HE : Hid (ckSingle vars l = 2) := Lib.hid (HSG.out 2 (by decide) (by rw [HE3.out, if_neg (by omega)]))
                            clear hte
                            go_wp2
                            go_ret
                            exact ⟨ret_int HE.out.symm, hbw8⟩
                          · have f1 : decide (128 ≤ te) = false := by simp; omega
                            obtain ⟨b3, hb3⟩ : ∃ b, nmsOk la = b := ⟨_, rfl⟩
                            have HB3 := Lib.hid hb3
                            rw [hb3] at HE3
                            have HRL8 := Lib.hid ((HRL.out.below hb8 (by omega)).more (B' := wr.heap.size) (by omega))
                            clear hb3
                            cases b3
                            · have HE : Hid (ckSingle vars l = 2) := Lib.hid (HSG.out 2 (by decide) (by rw [HE3.out, if_neg (fun h => by cases h.2)]))
                              clear hte
                              go_wp2_with (go_at_call 21; (with_reducible refine (insideN_any Al n3 cl la _ _ HRL8.out HN3.out (by omega)).mono ?_); rw [HB3.out]; rintro e w1 ⟨rfl, rfl⟩)
                              go_ret
                              exact ⟨ret_int HE.out.symm, hbw8⟩
                            · have HE0 : Hid (ckSg1 nf ⟨js, co, te, th, el, la⟩ = 0) := Lib.hid (by rw [HE3.out, if_pos ⟨by omega, rfl⟩])
                              clear hte
                              go_wp2_with (go_at_call 21; (with_reducible refine (insideN_any Al n3 cl la _ _ HRL8.out HN3.out (by omega)).mono ?_); rw [HB3.out]; rintro e w1 ⟨rfl, rfl⟩)
                              go_round
                              case rel => exact ⟨k + 1, by omega, by go_num, by rw [HR3.out, HD.out, if_pos HE0.out], hb6.trans (hb8.mono hsz6)⟩
                              case measure => (simp [intOf]; omega)
                · have hkl : k = len := by omega
                  have HE : Hid (ckSingle vars l = 0) := Lib.hid (by
                    rw [HC2.out, HR3.out, hkl, List.drop_of_length_le (by rw [HFL.out]; exact Nat.le_refl _)]
                    unfold ckSgs
                    rfl)
                  clear hkl
                  go_wp2
                  go_ret
                  exact ⟨ret_int HE.out.symm, hbw6⟩
  · have hck : ckSingle vars l = 1 := by unfold ckSingle; rw [hl, if_pos (by omega)]
    rw [hck]
    clear hck hl hin
    go_enter Try.func9, Try.ntmps9
    go_wp2
    go_loopw [5, 6, 20] (fun z5 z6 z wr => ∃ (k : Nat) (m m2 : Int), k ≤ len ∧ z = .int .i64 k ∧ z5 = .int .i64 m ∧ z6 = .int .i64 m2 ∧ Below w.heap.size w wr) (fun _ _ z _ => len - (intOf z).toNat)
    case atStart => exact ⟨0, 0, 0, Nat.zero_le _, rfl, rfl, rfl, Below.refl _ _⟩
    case round =>
      obtain ⟨k, m, m2, hk, rfl, rfl, rfl, hb⟩ := hrel
      have hsz := hb.size
      by_cases hlt : k < len
      · obtain ⟨ad, s, Aj, cj, Ac, cc, Al, cl, rfl, hbl, hd, _, _, _, e0, e1, e2, e3, e4, e5⟩ := (hx.below hb (Nat.le_refl _)).at_ (k := k) (by rw [HL.out]; exact hlt)
        obtain ⟨n1, hn1⟩ : ∃ n, s.code.length = n := ⟨_, rfl⟩
        obtain ⟨n2, hn2⟩ : ∃ n, s.joins.length = n := ⟨_, rfl⟩
        obtain ⟨n3, hn3⟩ : ∃ n, s.last.length = n := ⟨_, rfl⟩
        rw [hn1] at e1
        rw [hn2] at e0
        rw [hn3] at e5
        clear hd hn1 hn2 hn3
        go_wp2
        go_round
        case rel => exact ⟨k + 1, _, _, by omega, by go_num, rfl, rfl, by go_grown⟩
        case measure => (simp [intOf]; omega)
      · go_wp2
        all_goals first
          | (go_ret; exact ⟨rfl, hb⟩)
          | (exfalso; simp_all; omega)

end Go.Proofs.Ytgcjknibelfjbaa
