/-
  For any number of registers and any moves at once by which each register gets what another one has, or its own: swap.Order's moves, and those of the moves turned round behind them, leave all as it was, and they are as many (N1).
-/
import Derived.Test.YtlknmfabfmmggaaLawSwap
import Derived.Test.YtlknmfabfmmggaaSwap
import Derived.Test.YtlknmfabfmmggaaSwapMoved
namespace Go.Proofs.Ytlknmfabfmmggaa
open Go.RowKit Go.ChangeShapes Go.WideShapes Go.ChangeAt Go.Deep
set_option linter.unusedSimpArgs false
set_option linter.unusedVariables false
set_option maxRecDepth 100000

theorem flip_take {q : List (Nat × Nat)} {j a b : Nat} (h : q[j]? = some (a, b)) : flipM (q.take (j + 1)) = flipM (q.take j) ++ [(b, a)] := by
  unfold flipM
  rw [List.take_add_one, h, Option.toList_some, List.map_append]
  rfl

theorem flip_len (q : List (Nat × Nat)) : (flipM q).length = q.length := by simp [flipM]

theorem own_emptyM (X : World) (base g m : Nat) (e : TypeId) (hg : g = X.heap.size) (hb : base ≤ X.heap.size) : (X.alloc (.cells #[] e)).ownsRow base e m (.slice (some ⟨g, 0, none⟩) 0 0) 0 [] := by
  subst hg
  exact World.ownsRow_made X #[] 0 hb (Nat.zero_le _) (by simp)

theorem rv_join (o b : List (Nat × Nat)) : rv cMv (mvI (o ++ b)) = rv cMv (mvI o) ++ rv cMv (mvI b) := by rw [mvI_append, rv_append]

set_option maxHeartbeats 16000000 in
theorem lawSwapTwice_any (n : Int) (A : Option Addr) (cap : Nat) (l : List (Int × Int)) (w : World) (hx : RdM w w.heap.size A l) (hm : l.length ≤ maxLen) :
    Calls Try.prog 5 #[.int .i64 n, .slice A l.length cap] w fun e w' => e = .returned (.bool true) ∧ Below w.heap.size w w' := by
  have HM := Lib.hid hm
  clear hm
  by_cases hc : ckMv n l = 0
  · have HC := Lib.hid hc
    obtain ⟨k, q, rfl, rfl, hok⟩ := ckMv_ok hc
    obtain ⟨len, hlen⟩ : ∃ len, (mvI q).length = len := ⟨_, rfl⟩
    have HL : Hid (q.length = len) := Lib.hid (by rw [← hlen, mvI_len])
    have HLI := Lib.hid hlen
    rw [hlen] at HM ⊢
    have HOK := Lib.hid hok
    have hk8 := hok.small
    have hl8 : len ≤ 8 := by rw [← HL.out]; exact hok.short
    have HLF : Hid ((mvI (flipM q)).length = len) := Lib.hid (by rw [mvI_len, flip_len]; exact HL.out)
    clear hc hok hlen
    go_enter Try.func5, Try.ntmps5
    go_wp2_with fail
    refine (order_any k A len cap q _ hx HL.out HOK.out).mono ?_
    rintro e w1 ⟨A1, c1, o, rfl, hown, hord, hb1⟩
    have hx1 := (hx.below hb1 (Nat.le_refl _)).more hb1.size
    have hrd1 := own_rdM hown (mvI_len o)
    have HORD := Lib.hid hord
    have ho16 : o.length ≤ 16 := by
      have h1 := cntN_le (fun r => nvF q r != r) k
      have h2 := cntN_le (circB k (nvF q)) k
      have h3 := hord.len
      unfold nWait nCirc at h3
      omega
    obtain ⟨m, hmo⟩ : ∃ m, o.length = m := ⟨_, rfl⟩
    have HMO := Lib.hid hmo
    rw [hmo] at ho16 ⊢
    clear hown hord hmo
    go_wp2_with fail
    refine (movesCheck_any k A len cap (mvI q) _ hx1 HLI.out HM.out).mono ?_
    rintro e w2 ⟨rfl, hb2⟩
    rw [HC.out]
    have hb12 : Below w.heap.size w w2 := hb1.trans (hb2.mono hb1.size)
    have hrd2 := (hrd1.below hb2 (Nat.le_refl _)).more hb2.size
    have hx2 := (hx.below hb12 (Nat.le_refl _)).more hb12.size
    have hs2 := hb12.size
    clear hb1 hb2 hrd1 hx1
    go_wp2
    go_loopw [7, 33] (fun s i wr => ∃ (j : Nat) (A2 : Option Addr) (c2 : Nat), j ≤ len ∧ i = .int .i64 j ∧ s = .slice A2 j c2 ∧ wr.ownsRow w2.heap.size 32 2 (.slice A2 j c2) j (rv cMv (mvI (flipM (q.take j)))) ∧ Below w2.heap.size w2 wr) (fun _ i _ => len - (intOf i).toNat)
    case atStart => exact ⟨0, none, 0, Nat.zero_le _, rfl, rfl, World.ownsRow_nil _ _ _ _, Below.refl _ _⟩
    case round =>
      obtain ⟨j, A2, c2, hj, rfl, rfl, hown, hb3⟩ := hrel
      have hsz3 := hb3.size
      by_cases hlt : j < len
      · obtain ⟨ad, a, b, rfl, hbl, hd, hc0, hc1⟩ := RdN.at_ (hx2.below hb3 (Nat.le_refl _)) (k := j) (by rw [HL.out]; exact hlt)
        have HD : Hid (rv cMv (mvI (flipM (q.take (j + 1)))) = rv cMv (mvI (flipM (q.take j))) ++ [.int .i64 (b : Int), .int .i64 (a : Int)]) := Lib.hid (by rw [flip_take hd, rv_snoc])
        have ha_ : j + 1 ≤ maxLen := by unfold maxLen; omega
        have hb_ : (j + 1) * 16 ≤ 140737488355328 := by omega
        clear hd
        go_wp2_with (at_builtin; refine wpList_app rfl (.tmp 37) (.tmp 43) 22 rfl w2.heap.size 32 2 16 mv_app _ rfl (own_below hown (by go_grown)) [.int .i64 (b : Int), .int .i64 (a : Int)] rfl rfl (fun h => by cases h) (cells_at (by simp) _ _) (cMv_two _ _) ha_ hb_ (by simp; omega) ?_; intro A5 c5 w5 hown5 hg5 hb5)
        go_round
        case rel => exact ⟨j + 1, A5, c5, by omega, by go_num, rfl, by rw [HD.out]; exact hown5, (hb3.trans (by go_grown)).trans hb5⟩
        case measure => (simp [intOf]; omega)
      · have hjl : j = len := by omega
        subst hjl
        rw [List.take_of_length_le (by rw [HL.out]; exact Nat.le_refl _)] at hown
        have hrdb := own_rdM hown HLF.out
        have hb13 : Below w.heap.size w wr := hb12.trans (hb3.mono hs2)
        have hrd3 := (hrd2.below hb3 (Nat.le_refl _)).more hb3.size
        obtain ⟨w3, rfl⟩ : ∃ w3 : World, w3 = wr := ⟨_, rfl⟩
        clear hown hb3 hb12 hrd2 hx2 hsz3
        by_cases hcf : ckMv k (mvI (flipM q)) = 0
        · have HCF := Lib.hid hcf
          obtain ⟨k', q', hk', hq', hokf⟩ := ckMv_ok hcf
          have hkk : k' = k := by omega
          subst hkk
          have hqq : q' = flipM q := by
            have h1 : ∀ x y : List (Nat × Nat), mvI x = mvI y → x = y := fun x => by
              induction x with
              | nil => intro y h; cases y with
                | nil => rfl
                | cons b t => simp [mvI] at h
              | cons a s ih => intro y h; cases y with
                | nil => simp [mvI] at h
                | cons b t =>
                  simp only [mvI, List.map_cons, List.cons.injEq, Prod.mk.injEq] at h
                  rw [ih t h.2]
                  congr 1
                  exact Prod.ext (by omega) (by omega)
            exact (h1 _ _ hq').symm
          subst hqq
          have HOKF := Lib.hid hokf
          clear hcf hk' hq' hokf
          go_wp2_with fail
          refine (order_any k' A2 j c2 (flipM q) _ hrdb (by rw [flip_len]; exact HL.out) HOKF.out).mono ?_
          rintro e w4 ⟨A4, c4, b, rfl, hown, hord, hb4⟩
          have hrdb4 := (hrdb.below hb4 (Nat.le_refl _)).more hb4.size
          have hrd4 := (hrd3.below hb4 (Nat.le_refl _)).more hb4.size
          have hrdB4 := own_rdM hown (mvI_len b)
          have hb14 : Below w.heap.size w w4 := hb13.trans (hb4.mono hb13.size)
          have HORB := Lib.hid hord
          have hb16 : b.length ≤ 16 := by
            have h1 := cntN_le (fun r => nvF (flipM q) r != r) k'
            have h2 := cntN_le (circB k' (nvF (flipM q))) k'
            have h3 := hord.len
            unfold nWait nCirc at h3
            omega
          obtain ⟨mb, hmb⟩ : ∃ mb, b.length = mb := ⟨_, rfl⟩
          have HMB := Lib.hid hmb
          rw [hmb] at hb16 ⊢
          clear hown hord hmb hb4 hb13 hrd3 hrdb
          go_wp2_with fail
          refine (movesCheck_any k' A2 j c2 (mvI (flipM q)) _ hrdb4 HLF.out HM.out).mono ?_
          rintro e w5 ⟨rfl, hb5⟩
          rw [HCF.out]
          have hb15 : Below w.heap.size w w5 := hb14.trans (hb5.mono hb14.size)
          have hrdb5 := (hrdb4.below hb5 (Nat.le_refl _)).more hb5.size
          have hrd5 := (hrd4.below hb5 (Nat.le_refl _)).more hb5.size
          have hrdB5 := (hrdB4.below hb5 (Nat.le_refl _)).more hb5.size
          have hx5 := (hx.below hb15 (Nat.le_refl _)).more hb15.size
          have hs5 := hb15.size
          clear hb5 hb14 hrdb4 hrd4 hrdB4
          go_wp2
          go_loopw [12] (fun i wr => ∃ r : Nat, r ≤ k' ∧ i = .int .i64 r ∧ Hid (∀ i, i < r → nvF (flipM q) (nvF q i) = i) ∧ Below w5.heap.size w5 wr) (fun i _ => k' - (intOf i).toNat)
          case atStart => exact ⟨0, Nat.zero_le _, rfl, Lib.hid fun i h => by omega, Below.refl _ _⟩
          case round =>
            obtain ⟨r, hr, rfl, HT, hb6⟩ := hrel
            have hs6 := hb6.size
            by_cases hrk : r < k'
            · have HM1 := Lib.hid (moveFrom_any A j cap q r wr ((hx5.below hb6 (Nat.le_refl _)).more hb6.size) HL.out (by omega))
              obtain ⟨fr, hfr⟩ : ∃ fr, nvF q r = fr := ⟨_, rfl⟩
              have HFR := Lib.hid hfr
              rw [hfr] at HM1
              clear hfr
              go_wp2_with fail
              refine HM1.out.mono ?_
              rintro e w7 ⟨rfl, hb7⟩
              have hb57 : Below w5.heap.size w5 w7 := hb6.trans (hb7.mono hs6)
              have HM2 := Lib.hid (moveFrom_any A2 j c2 (flipM q) fr w7 ((hrdb5.below hb57 (Nat.le_refl _)).more hb57.size) (by rw [flip_len]; exact HL.out) (by omega))
              have hs7 := hb57.size
              obtain ⟨gr, hgr⟩ : ∃ gr, nvF (flipM q) fr = gr := ⟨_, rfl⟩
              have HGR := Lib.hid hgr
              rw [hgr] at HM2
              clear hgr HM1
              go_wp2_with fail
              refine HM2.out.mono ?_
              rintro e w8 ⟨rfl, hb8⟩
              clear HM2
              by_cases he : gr = r
              · have hbe : ((gr : Int) != (r : Int)) = false := by simp [he]
                have HE : Hid (∀ i, i < r + 1 → nvF (flipM q) (nvF q i) = i) := Lib.hid fun i hi => by
                  rcases Nat.lt_or_ge i r with h | h
                  · exact HT.out i h
                  · have : i = r := by omega
                    subst this
                    rw [HFR.out, HGR.out, he]
                clear he
                go_wp2
                go_round
                case rel => exact ⟨r + 1, by omega, by go_num, HE, hb57.trans (hb8.mono hs7)⟩
                case measure => (simp [intOf]; omega)
              · have hbe : ((gr : Int) != (r : Int)) = true := by simp; omega
                clear he
                go_wp2
                go_ret
                exact ⟨rfl, hb15.trans ((hb57.trans (hb8.mono hs7)).mono hs5)⟩
            · have HTURN : Hid (Turn k' (nvF q) (nvF (flipM q))) := Lib.hid (Turn.mk' (fun i hi => nvF_lt HOK.out.ins hi) fun i hi => HT.out i (by omega))
              have HRUN : Hid (∀ i, i < k' → rnM (o ++ b) id i = i) := Lib.hid fun i hi => by
                rw [rnM_append, HORB.out.run _ _ hi, HORD.out.run _ _ (HTURN.out.pG.lt i hi)]
                exact HTURN.out.fg i hi
              have HLE : Hid (m = mb) := Lib.hid (by
                rw [← HMO.out, ← HMB.out, HORD.out.len, HORB.out.len, HTURN.out.nCirc, nWait_nv HOK.out.ins HOK.out.nd, nWait_nv HOKF.out.ins HOKF.out.nd, flip_wait])
              have HINS : Hid (∀ x ∈ o ++ b, x.1 ≤ k' ∧ x.2 ≤ k') := Lib.hid fun x hx => by
                rcases List.mem_append.1 hx with h | h
                · exact HORD.out.ins x h
                · exact HORB.out.ins x h
              have HOL : Hid ((rv cMv (mvI o)).length = m * 2) := Lib.hid (by rw [rv_len cMv_len, mvI_len, HMO.out])
              have HBL : Hid ((rv cMv (mvI b)).length = mb * 2) := Lib.hid (by rw [rv_len cMv_len, mvI_len, HMB.out])
              have HJL : Hid ((o ++ b).length = m + mb) := Lib.hid (by rw [List.length_append, HMO.out, HMB.out])
              have hrd6 := (hrd5.below hb6 (Nat.le_refl _)).more hb6.size
              have hrdB6 := (hrdB5.below hb6 (Nat.le_refl _)).more hb6.size
              have hb16w : Below w.heap.size w wr := hb15.trans (hb6.mono hs5)
              have ha1 : 0 + m ≤ maxLen := by unfold maxLen; omega
              have hb1' : (0 + m) * 16 ≤ 140737488355328 := by omega
              have ha2 : m + mb ≤ maxLen := by unfold maxLen; omega
              have hb2' : (m + mb) * 16 ≤ 140737488355328 := by omega
              have hs6w := hb16w.size
              have hnO : A1 = none → m = 0 := fun h => by have := RdR.nil (by omega) hrd6 h; rw [mvI_len, HMO.out] at this; exact this
              have hnB : A4 = none → mb = 0 := fun h => by have := RdR.nil (by omega) hrdB6 h; rw [mvI_len, HMB.out] at this; exact this
              obtain ⟨w6, rfl⟩ : ∃ w6 : World, w6 = wr := ⟨_, rfl⟩
              clear hb6 hb15 hrd5 hrdb5 hrdB5 hx5 HT
              go_wp2_with (first
                | (at_builtin; refine wpList_app rfl (.tmp 72) (.tmp 73) 22 rfl w6.heap.size 32 2 16 mv_app [] rfl (own_emptyM _ _ _ _ _ (by simp) (by simp)) (rv cMv (mvI o)) rfl HOL.out hnO (RdR.news cMv_len (hrd6.below (by go_grown : Below w6.heap.size w6 _) (Nat.le_refl _))) (rv_all cMv_one _) ha1 hb1' (by simp) ?_; intro A6 c6 w7 hown7 hg7 hb7; rw [Nat.zero_add, List.nil_append] at hown7; have hb67 : Below w6.heap.size w6 w7 := (by go_grown : Below w6.heap.size w6 _).trans hb7; have hs67 := hb67.size)
                | (at_builtin; refine wpList_app rfl (.tmp 74) (.tmp 75) 22 rfl w6.heap.size 32 2 16 mv_app _ rfl hown7 (rv cMv (mvI b)) rfl HBL.out hnB (RdR.news cMv_len (hrdB6.below hb67 (Nat.le_refl _))) (rv_all cMv_one _) ha2 hb2' hs67 ?_; intro A7 c7 w8 hown8 hg8 hb8; have hb68 : Below w6.heap.size w6 w8 := hb67.trans hb8; have hs68 := hb68.size))
              rw [← rv_join] at hown8
              have hrd8 := own_rdM hown8 (by rw [mvI_len]; exact HJL.out)
              have hb18 : Below w.heap.size w w8 := hb16w.trans (hb68.mono hs6w)
              have hs8 := hb18.size
              have hm32 : m + mb ≤ 32 := by omega
              obtain ⟨mm, hmm⟩ : ∃ mm, m + mb = mm := ⟨_, rfl⟩
              rw [hmm] at HJL hm32 ⊢
              clear hown8 hown7 hg7 hg8 hb7 hb8
              go_loopw [78] (fun i wr => ∃ i' : Nat, i' ≤ mm ∧ i = .int .i64 i' ∧ Below w8.heap.size w8 wr) (fun i _ => mm - (intOf i).toNat)
              case atStart => exact ⟨0, Nat.zero_le _, rfl, Below.refl _ _⟩
              case round =>
                obtain ⟨i, hi, rfl, hb9⟩ := hrel
                have hsz9 := hb9.size
                by_cases hlt : i < mm
                · obtain ⟨ad, a, b', rfl, hbl, hd, hc0, hc1⟩ := RdN.at_ (hrd8.below hb9 (Nat.le_refl _)) (k := i) (by rw [HJL.out]; exact hlt)
                  obtain ⟨ha, hbn⟩ := HINS.out _ (List.mem_of_getElem? hd)
                  simp only at ha hbn
                  have hin : decide (0 ≤ (a : Int) ∧ (a : Int) < (k' : Int) + 1 ∧ 0 ≤ (b' : Int) ∧ (b' : Int) < (k' : Int) + 1) = true := by
                    rw [decide_eq_true_eq]
                    omega
                  have HIN := Lib.hid hin
                  have hwr : IntKind.i64.wrap ((k' : Int) + 1) = (k' : Int) + 1 := by rw [IntKind.wrap_i64]; omega
                  clear hd hin
                  go_wp2_with (go_at_call 10; (with_reducible refine (inside2_any ((k' : Int) + 1) a b' _ _ _ (by simp) (by simp)).mono ?_); rintro e w6 ⟨rfl, rfl⟩; rw [HIN.out])
                  go_round
                  case rel => exact ⟨i + 1, by omega, by go_num, hb9.trans (by go_grown)⟩
                  case measure => (simp [intOf]; omega)
                · have hb69 : Below w6.heap.size w6 wr := hb68.trans (hb9.mono hs68)
                  have hrd9 := (hrd6.below hb69 (Nat.le_refl _)).more hb69.size
                  have hrdB9 := (hrdB6.below hb69 (Nat.le_refl _)).more hb69.size
                  have hb19 : Below w.heap.size w wr := hb16w.trans (hb69.mono hs6w)
                  have hs9 := hb19.size
                  obtain ⟨w9, rfl⟩ : ∃ w9 : World, w9 = wr := ⟨_, rfl⟩
                  clear hb9 hrd8 hrd6 hrdB6 hb67 hb68 hs67 hs68 hb16w hb69 hb18
                  go_wp2_with (first
                    | (at_builtin; refine wpList_app rfl (.tmp 93) (.tmp 94) 22 rfl w9.heap.size 32 2 16 mv_app [] rfl (own_emptyM _ _ _ _ _ (by simp) (by simp)) (rv cMv (mvI o)) rfl HOL.out hnO (RdR.news cMv_len (hrd9.below (by go_grown : Below w9.heap.size w9 _) (Nat.le_refl _))) (rv_all cMv_one _) ha1 hb1' (by simp) ?_; intro A10 c10 w10 hown10 hg10 hb10; rw [Nat.zero_add, List.nil_append] at hown10; have hb910 : Below w9.heap.size w9 w10 := (by go_grown : Below w9.heap.size w9 _).trans hb10; have hs910 := hb910.size)
                    | (at_builtin; refine wpList_app rfl (.tmp 95) (.tmp 96) 22 rfl w9.heap.size 32 2 16 mv_app _ rfl hown10 (rv cMv (mvI b)) rfl HBL.out hnB (RdR.news cMv_len (hrdB9.below hb910 (Nat.le_refl _))) (rv_all cMv_one _) ha2 hb2' hs910 ?_; intro A11 c11 w11 hown11 hg11 hb11; rw [← rv_join, hmm] at hown11; rw [hmm]; have hb911 : Below w9.heap.size w9 w11 := hb910.trans hb11; have hrd11 := own_rdM hown11 (by rw [mvI_len]; exact HJL.out)))
                  have hb111 : Below w.heap.size w w11 := hb19.trans (hb911.mono hs9)
                  refine (moved_any k' A11 mm c11 (o ++ b) w11 hrd11 HJL.out (by omega) hk8 HINS.out).mono ?_
                  rintro e w12 ⟨g, rfl, hgw, hT, hb12⟩
                  have hb112 : Below w.heap.size w w12 := hb111.trans (hb12.mono hb111.size)
                  go_wp2
                  go_loopw [16] (fun i wr => ∃ r : Nat, r ≤ k' ∧ i = .int .i64 r ∧ wr = w12) (fun i _ => k' - (intOf i).toNat)
                  case atStart => exact ⟨0, Nat.zero_le _, rfl, rfl⟩
                  case round =>
                    obtain ⟨r, hr, rfl, rfl⟩ := hrel
                    by_cases hrk : r < k'
                    · have hc := hT.cell (iv_at (ni_tab_at (rnM (o ++ b) id) (show r < k' + 1 by omega)))
                      rw [HRUN.out r hrk] at hc
                      go_wp2
                      go_round
                      case rel => exact ⟨r + 1, by omega, by go_num, by first | rfl | trivial⟩
                      case measure => (simp [intOf]; omega)
                    · have hle : ((m : Int) == (mb : Int)) = true := by simp [HLE.out]
                      go_wp2
                      go_ret
                      exact ⟨ret_bool (by simp [HLE.out]), hb112⟩
        · have hne : (ckMv k (mvI (flipM q)) != 0) = true := by simp [hcf]
          have HCF := Lib.hid hcf
          clear hcf
          go_wp2_with fail
          refine (order_bad k A2 j c2 (mvI (flipM q)) _ hrdb HLF.out HM.out HCF.out).mono ?_
          rintro e w4 ⟨rfl, hb4⟩
          have hrdb4 := (hrdb.below hb4 (Nat.le_refl _)).more hb4.size
          have hb14 : Below w.heap.size w w4 := hb13.trans (hb4.mono hb13.size)
          go_wp2_with fail
          refine (movesCheck_any k A2 j c2 (mvI (flipM q)) _ hrdb4 HLF.out HM.out).mono ?_
          rintro e w5 ⟨rfl, hb5⟩
          go_wp2
          go_ret
          exact ⟨rfl, hb14.trans (hb5.mono hb14.size)⟩
  · have HC := Lib.hid hc
    obtain ⟨len, hlen⟩ : ∃ len, l.length = len := ⟨_, rfl⟩
    have HLI := Lib.hid hlen
    rw [hlen] at HM ⊢
    obtain ⟨x, hx0⟩ : ∃ x, ckMv n l = x := ⟨_, rfl⟩
    have HX := Lib.hid hx0
    have hne : (x != 0) = true := by rw [← hx0]; simp [hc]
    clear hc hlen hx0
    go_enter Try.func5, Try.ntmps5
    go_wp2_with fail
    refine (order_bad n A len cap l _ hx HLI.out HM.out HC.out).mono ?_
    rintro e w1 ⟨rfl, hb1⟩
    have hx1 := (hx.below hb1 (Nat.le_refl _)).more hb1.size
    rw [HX.out]
    go_wp2_with fail
    refine (movesCheck_any n A len cap l _ hx1 HLI.out HM.out).mono ?_
    rintro e w2 ⟨rfl, hb2⟩
    rw [HX.out]
    go_wp2
    go_ret
    exact ⟨rfl, hb1.trans (hb2.mono hb1.size)⟩

set_option maxRecDepth 100000 in
theorem lawSwapTwice_lifted (os : Os) (started : os.Started) (H : Type) (enc : TypeId × Value → H) :
    ReturnsInHanded {} Try.checked os 5 .any (Rows.swapTwiceSpec.pre6 enc Try.prog Try.f5 Rows.swapTwiceRow.domain false) (Rows.swapTwiceSpec.post enc Try.prog Try.f5 false true false false) := by
  refine returnsInHanded_of_change_sized (C := Try.checked) Try.own started (by kernel_rfl) Try.func5
    (ChangeSpec.witness6 (enc := enc) (C := Try.checked) false ⟨#[], #[.int .i64 0, .slice none 0 0], []⟩ 8 (by kernel_rfl) (by kernel_rfl) (by kernel_rfl) (by kernel_rfl)) ?_
  intro W base args ds gs before hval0 hW hcnd hsz _
  have hval : ∀ (j : Nat) t v, Try.f5.params[j]? = some t → args[j]? = some v → Value.okWide Try.prog W .any base t v := hval0
  have hW' := hW
  obtain ⟨p, q, hA0, hV, rfl, hfz, hnd⟩ := hW
  have hA : DataW.TrodAll enc Try.prog W 0 (fun _ => true) true Try.f5.params.toList args.toList ds p := hA0
  obtain ⟨hgs, _⟩ := trodVars_none hV
  rw [Try.params5] at hA hval
  obtain ⟨v0, vs0, d0, ds0, p0, q0, hargs, rfl, rfl, h0, r0⟩ := trodAll_cons hA
  obtain ⟨v1, vs1, d1, ds1, p1, q1, rfl, rfl, rfl, h1, r1⟩ := trodAll_cons r0
  obtain ⟨rfl, rfl, rfl⟩ := trodAll_nil r1
  have hargs2 : args = #[v0, v1] := Array.toList_inj.1 hargs
  subst hargs2
  obtain ⟨a0, rfl, _, _, w0⟩ := open_int Try.underlying3 (hval 0 3 v0 rfl rfl) h0
  obtain ⟨A1, c1, l1, rfl, lc1, cm1, x1, r1⟩ := open_movesA (hval 1 22 v1 rfl rfl) h1
  have b1 := len_reach Try.underlying22 (hval 1 22 _ rfl rfl) h1 hsz (j := 1) (by rw [Try.params5]; rfl) rfl
  rw [show Try.prog.bytesOf (Try.prog.elem 22) = 16 from by kernel_rfl] at b1
  refine (lawSwapTwice_any a0 A1 c1 l1 _ x1 (by omega)).mono fun e W' ⟨he, hb⟩ => ?_
  subst he
  exact ⟨_, rfl, law_post Try.laidOut rfl (by kernel_rfl) Try.underlying4 ⟨rfl, rfl, rfl⟩ (by kernel_rfl) hW' hb⟩

theorem swapTwice_holds : Rows.SwapTwiceSaid :=
  OpenClaim.holds_of_wide 5 Try.f5 rfl rfl rfl rfl rfl rfl rfl ⟨rfl, rfl, rfl, rfl, rfl⟩ rfl rfl rfl rfl rfl (by kernel_rfl) Try.func5 (show joinedFacts Try.prog 5 Try.f5 Rows.swapTwiceSpec Rows.swapTwiceRow = true from (by unfold joinedFacts; (repeat' (with_reducible refine and_both ?_ ?_)) <;> first | (with_reducible exact may_enter) | ((with_reducible refine make_ok ?_); rfl) | ((with_reducible refine lifts_ok ?_); rfl) | kernel_rfl))
    (of_decide_eq_true (by kernel_rfl)) (by unfold Func.isWrapper; rw [if_neg (of_decide_eq_false (by kernel_rfl))]; exact ⟨rfl, rfl⟩)
    (fun os started H enc _ => lawSwapTwice_lifted os started H enc)

end Go.Proofs.Ytlknmfabfmmggaa
