/-
  single.checkBlock (M2).
-/
import Derived.Test.YtgcjknibelfjbaaSnCk
import Derived.Test.YtgcjknibelfjbaaMBase
import Derived.BigQuiet
namespace Go.Proofs.Ytgcjknibelfjbaa
open Go.RowKit
set_option linter.unusedSimpArgs false
set_option linter.unusedVariables false
set_option maxRecDepth 100000

theorem ckSg1_of {k : Nat} {s : Sg} {x : Int} (h : ckJns k s.joins = x) (hx : x ≠ 0) : ckSg1 k s = x := by
  unfold ckSg1
  rw [if_pos (by rw [h]; exact hx), h]

theorem ckSg1_of2 {k : Nat} {s : Sg} {x : Int} (h0 : ckJns k s.joins = 0) (h : ckStNs s.code = x) (hx : x ≠ 0) : ckSg1 k s = x := by
  unfold ckSg1
  rw [if_neg (fun h => h h0), if_pos (by rw [h]; exact hx), h]

theorem ckSg1_of3 {k : Nat} {s : Sg} (h0 : ckJns k s.joins = 0) (h : ckStNs s.code = 0) : ckSg1 k s = if s.test < 128 ∧ nmsOk s.last = true then 0 else 2 := by
  unfold ckSg1
  rw [if_neg (fun h => h h0), if_neg (fun h' => h' h)]

set_option maxHeartbeats 16000000 in
theorem snBlock_any (Aj Ac Al : Option Addr) (n2 cj n1 cc n3 cl nf : Nat) (js : List Jn) (co : List St) (te th el : Int) (la : List Int) (w0 : World)
    (hj : RdJ w0 w0.heap.size Aj js) (hc : RdS w0 w0.heap.size Ac co) (hl : RdI w0 w0.heap.size Al la) (hjl : js.length = n2) (hcl : co.length = n1) (hll : la.length = n3) (b2 : n2 ≤ 64) (b1 : n1 ≤ 20) (b3 : n3 ≤ 6) (bf : nf ≤ 9) (ht : -1 ≤ te) :
    Calls Try.prog 58 #[.agg #[.slice Aj n2 cj, .slice Ac n1 cc, .int .i64 te, .int .i64 th, .int .i64 el, .slice Al n3 cl], .int .i64 nf] w0 fun e w' => e = .returned (.int .i64 (ckSg1 nf ⟨js, co, te, th, el, la⟩)) ∧ Below w0.heap.size w0 w' := by
  have HN1 := Lib.hid hcl
  have HN2 := Lib.hid hjl
  have HN3 := Lib.hid hll
  have HRJ := Lib.hid hj
  have HRC := Lib.hid hc
  have HRL := Lib.hid hl
  have hown0 := Own.new w0 43 [.slice Aj n2 cj, .slice Ac n1 cc, .int .i64 te, .int .i64 th, .int .i64 el, .slice Al n3 cl]
  have hbo0 : Below w0.heap.size w0 (w0.alloc (.cells #[.slice Aj n2 cj, .slice Ac n1 cc, .int .i64 te, .int .i64 th, .int .i64 el, .slice Al n3 cl] 43)) := by go_grown
  have HFJ : Hid (js.drop n2 = []) := Lib.hid (List.drop_of_length_le (by rw [hjl]; exact Nat.le_refl _))
  have HFC : Hid (co.drop n1 = []) := Lib.hid (List.drop_of_length_le (by rw [hcl]; exact Nat.le_refl _))
  obtain ⟨R, hR⟩ : ∃ R, ckSg1 nf ⟨js, co, te, th, el, la⟩ = R := ⟨_, rfl⟩
  have HSG : Hid (∀ x, x ≠ 0 → ckJns nf js = x → R = x) := Lib.hid fun x h0 he => by rw [← hR]; exact ckSg1_of he h0
  have HSG2 : Hid (ckJns nf js = 0 → ∀ x, x ≠ 0 → ckStNs co = x → R = x) := Lib.hid fun h x h0 he => by rw [← hR]; exact ckSg1_of2 h he h0
  have HSG3 : Hid (ckJns nf js = 0 → ckStNs co = 0 → R = if te < 128 ∧ nmsOk la = true then 0 else 2) := Lib.hid fun h he => by rw [← hR]; exact ckSg1_of3 h he
  rw [hR]
  clear hR hj hc hl hjl hcl hll
  go_enter Try.func58, Try.ntmps58
  go_wp2
  go_loopw [13] (fun z wr => ∃ c : Nat, c ≤ n2 ∧ z = .int .i64 c ∧ ckJns nf js = ckJns nf (js.drop c) ∧ Own wr w0.heap.size 43 [.slice Aj n2 cj, .slice Ac n1 cc, .int .i64 te, .int .i64 th, .int .i64 el, .slice Al n3 cl] ∧ Below w0.heap.size w0 wr) (fun z _ => n2 - (intOf z).toNat)
  case atStart => exact ⟨0, Nat.zero_le _, rfl, rfl, hown0, hbo0⟩
  case round =>
    obtain ⟨c, hc, rfl, hr, hown, hb7⟩ := hrel
    have HR4 := Lib.hid hr
    have hsz7 := hb7.size
    have hlt7 := hown.lt
    have HOWN := Lib.hid hown
    clear hr hown0 hbo0
    by_cases hct : c < n2
    · obtain ⟨ad2, ⟨to, fr⟩, Af, cf, rfl, hbl2, hd2, hrf, c0, c1, _⟩ := (HRJ.out.below hb7 (by omega)).at_ (k := c) (by rw [HN2.out]; exact hct)
      have HD4 := Lib.hid (ckJns_drop (k := nf) hd2)
      simp only [] at c0 c1 hrf
      obtain ⟨nr, hnr⟩ : ∃ n, fr.length = n := ⟨_, rfl⟩
      have HNR := Lib.hid hnr
      rw [hnr] at c1
      have HRF := Lib.hid hrf
      have hbl2r : (ad2.add (c * 2)).block < wr.heap.size := by omega
      clear hd2 hnr hrf hown
      by_cases hne : nr = nf
      · have f1 : ((nr : Int) != (nf : Int)) = false := by simp [hne]
        have HJ : Hid (ckJn nf ⟨to, fr⟩ = if isNm to = true ∧ nmsOk fr = true then 0 else 2) := Lib.hid (by unfold ckJn; rw [if_neg (by simp [HNR.out, hne])])
        have hnf9 : nr ≤ 9 := by omega
        clear hne
        obtain ⟨b1, hb1⟩ : ∃ b, isNm to = b := ⟨_, rfl⟩
        obtain ⟨b2, hb2⟩ : ∃ b, nmsOk fr = b := ⟨_, rfl⟩
        have HN1a : Hid (∀ (p : Addr) (c : Nat) (X : World), X.cell? p = some (.int .i64 to) → Calls Try.prog 79 #[.slice (some p) 1 c] X fun e w' => e = .returned (.bool b1) ∧ X = w') := Lib.hid fun p c X h => by rw [← hb1]; exact name1_any to p c X h
        have HN2a : Hid (∀ (X : World), Below wr.heap.size wr X → Calls Try.prog 79 #[.slice Af nr cf] X fun e w' => e = .returned (.bool b2) ∧ X = w') := Lib.hid fun X h => by rw [← hb2]; exact areNames_any Af nr cf fr _ X ((HRF.out.more (B' := wr.heap.size) (by omega)).below h (Nat.le_refl _)) HNR.out (by unfold maxLen; omega)
        rw [hb1, hb2] at HJ
        have HE2 : Hid (ckJn nf ⟨to, fr⟩ = 2 → R = 2) := Lib.hid fun hj => HSG.out 2 (by decide) (by rw [HR4.out, HD4.out, hj]; rfl)
        clear hb1 hb2
        cases b1 <;> cases b2
        all_goals
          go_wp2_with (first
            | (go_at_call 79; (with_reducible refine (HN1a.out _ _ _ ?_).mono ?_); (· (exact cell_new (by simp) rfl)); rintro e w1 ⟨rfl, rfl⟩)
            | (go_at_call 79; (with_reducible refine (HN2a.out _ (by go_grown)).mono ?_); rintro e w1 ⟨rfl, rfl⟩))
          first
            | (go_ret
               exact ⟨ret_int (HE2.out (by rw [HJ.out]; rfl)).symm, by go_grown⟩)
            | (go_round
               case rel => exact ⟨c + 1, by omega, by go_num, by rw [HR4.out, HD4.out, HJ.out]; rfl, HOWN.out.below (by go_grown : Below wr.heap.size wr _) hlt7, by go_grown⟩
               case measure => (simp [intOf]; omega))
      · have f1 : ((nr : Int) != (nf : Int)) = true := by simp; omega
        have HJ : Hid (ckJn nf ⟨to, fr⟩ = 3) := Lib.hid (by unfold ckJn; rw [if_pos (by simp [HNR.out, hne])])
        have HE : Hid (R = 3) := Lib.hid (HSG.out 3 (by decide) (by rw [HR4.out, HD4.out, HJ.out]; rfl))
        clear hne
        go_wp2
        go_ret
        exact ⟨ret_int HE.out.symm, by go_grown⟩
    · have hjz : ckJns nf js = 0 := by rw [HR4.out, show c = n2 by omega, HFJ.out]; rfl
      have HJZ := Lib.hid hjz
      have HSC := Lib.hid (HSG2.out hjz)
      have HSD := Lib.hid (HSG3.out hjz)
      have d1 := hown.cell (j := 1) rfl
      obtain ⟨wp, rfl⟩ : ∃ wp : World, wp = wr := ⟨_, rfl⟩
      clear hjz
      go_wp2
      go_loopw [37] (fun z wr => ∃ c : Nat, c ≤ n1 ∧ z = .int .i64 c ∧ ckStNs co = ckStNs (co.drop c) ∧ Own wr w0.heap.size 43 [.slice Aj n2 cj, .slice Ac n1 cc, .int .i64 te, .int .i64 th, .int .i64 el, .slice Al n3 cl] ∧ Below w0.heap.size w0 wr) (fun z _ => n1 - (intOf z).toNat)
      case atStart => exact ⟨0, Nat.zero_le _, rfl, rfl, HOWN.out, hb7⟩
      case round =>
        obtain ⟨c2, hc2, rfl, hr, hown2, hb8⟩ := hrel
        have HR5 := Lib.hid hr
        have hsz8 := hb8.size
        have hlt8 := hown2.lt
        have HOWN2 := Lib.hid hown2
        clear hr
        by_cases hct : c2 < n1
        · obtain ⟨ad2, o, t, a, b, v, rfl, hbl2, hd2, c0, c1, c2', c3, c4⟩ := (RdS.below HRC.out hb8 (by omega)).at_ (k := c2) (by rw [HN1.out]; exact hct)
          have HD5 := Lib.hid (ckStNs_drop hd2)
          have hbl2r : (ad2.add (c2 * 5)).block < wr.heap.size := by omega
          obtain ⟨x, hx⟩ : ∃ x, ckStN ⟨o, t, a, b, v⟩ = x := ⟨_, rfl⟩
          have HST : Hid (∀ Z : World, Calls Try.prog 80 #[.agg #[.int .i64 o, .int .i64 t, .int .i64 a, .int .i64 b, .int .i64 v]] Z fun e w' => e = .returned (.int .i64 x) ∧ Below Z.heap.size Z w') := Lib.hid fun Z => by rw [← hx]; exact snStep_any o t a b v Z
          rw [hx] at HD5
          clear hd2 hown2 d1 hown hx
          by_cases hop : x = 0
          · subst hop
            go_wp2_with (go_at_call 80; (with_reducible refine (HST.out _).mono ?_); rintro e w2 ⟨rfl, hb2⟩)
            have hb3 := (by go_grown : Below wr.heap.size wr _).trans (hb2.mono (by go_size))
            go_round
            case rel => exact ⟨c2 + 1, by omega, by go_num, by rw [HR5.out, HD5.out]; rfl, HOWN2.out.below hb3 hlt8, hb8.trans (hb3.mono hsz8)⟩
            case measure => (simp [intOf]; omega)
          · have e1 : (x != 0) = true := by simp [hop]
            have HE : Hid (R = x) := Lib.hid (HSC.out x hop (by rw [HR5.out, HD5.out, if_neg hop]))
            clear hop
            go_wp2_with (go_at_call 80; (with_reducible refine (HST.out _).mono ?_); rintro e w2 ⟨rfl, hb2⟩)
            have hb3 := (by go_grown : Below wr.heap.size wr _).trans (hb2.mono (by go_size))
            go_ret
            exact ⟨ret_int HE.out.symm, hb8.trans (hb3.mono hsz8)⟩
        · have hsz : ckStNs co = 0 := by rw [HR5.out, show c2 = n1 by omega, HFC.out]; rfl
          have HE := Lib.hid (HSD.out hsz)
          have d2 := hown2.cell (j := 2) rfl
          have d5 := hown2.cell (j := 5) rfl
          obtain ⟨b2, hb2⟩ : ∃ b, nmsOk la = b := ⟨_, rfl⟩
          rw [hb2] at HE
          have HN2a : Hid (∀ (X : World), Below wr.heap.size wr X → Calls Try.prog 79 #[.slice Al n3 cl] X fun e w' => e = .returned (.bool b2) ∧ X = w') := Lib.hid fun X h => by rw [← hb2]; exact areNames_any Al n3 cl la _ X (((HRL.out.below hb8 (Nat.le_refl _)).more (B' := wr.heap.size) (by omega)).below h (Nat.le_refl _)) HN3.out (by unfold maxLen; omega)
          clear hsz hb2 hown hown2 d1
          by_cases ht1 : te = -1
          · have f1 : (te != -1) = false := by simp [ht1]
            have HF : Hid (te < 128) := Lib.hid (by omega)
            clear ht1
            cases b2
            all_goals
              go_wp2_with (go_at_call 79; (with_reducible refine (HN2a.out _ (by go_grown)).mono ?_); rintro e w1 ⟨rfl, rfl⟩)
              go_ret
              exact ⟨ret_int (by rw [HE.out]; simp [HF.out]), by go_grown⟩
          · have f1 : (te != -1) = true := by simp [ht1]
            have hte : (isNm te = true) ↔ te < 128 := by rw [isNm_iff]; omega
            obtain ⟨b1, hb1⟩ : ∃ b, isNm te = b := ⟨_, rfl⟩
            have HN1a : Hid (∀ (p : Addr) (c : Nat) (X : World), X.cell? p = some (.int .i64 te) → Calls Try.prog 79 #[.slice (some p) 1 c] X fun e w' => e = .returned (.bool b1) ∧ X = w') := Lib.hid fun p c X h => by rw [← hb1]; exact name1_any te p c X h
            rw [hb1] at hte
            have HTE := Lib.hid hte
            clear hte hb1 ht1
            cases b1 <;> cases b2
            all_goals
              go_wp2_with (first
                | (go_at_call 79; (with_reducible refine (HN1a.out _ _ _ ?_).mono ?_); (· (exact cell_new (by simp) rfl)); rintro e w1 ⟨rfl, rfl⟩)
                | (go_at_call 79; (with_reducible refine (HN2a.out _ (by go_grown)).mono ?_); rintro e w1 ⟨rfl, rfl⟩))
              go_ret
              exact ⟨ret_int (by rw [HE.out]; simp [← HTE.out]), by go_grown⟩

end Go.Proofs.Ytgcjknibelfjbaa
