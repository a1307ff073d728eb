/-
  For any number of registers and any moves at once, swap.Order returns moves that do the same one by one, as few as can be, or the first error (N1).
-/
import Derived.Test.YtlknmfabfmmggaaLawSwap
import Derived.Test.YtlknmfabfmmggaaSwap
import Derived.Test.YtlknmfabfmmggaaSwapCirc
import Derived.Test.YtlknmfabfmmggaaSwapMoved
namespace Go.Proofs.Ytlknmfabfmmggaa
open Go.RowKit Go.ChangeShapes Go.WideShapes Go.ChangeAt Go.Deep
set_option linter.unusedSimpArgs false
set_option linter.unusedVariables false
set_option maxRecDepth 100000

/-- how many moves lead from one register to another -/
def farN (l : List (Nat × Nat)) : Nat := (l.filter fun m => m.1 != m.2).length

theorem farN_take {k a b : Nat} {l : List (Nat × Nat)} (h : l[k]? = some (a, b)) : farN (l.take (k + 1)) = farN (l.take k) + (if a != b then 1 else 0) := by
  unfold farN
  rw [List.take_add_one, h, Option.toList_some, List.filter_append, List.length_append]
  congr 1
  by_cases he : a = b
  · simp [he]
  · simp [he]

theorem farN_le (l : List (Nat × Nat)) : farN l ≤ l.length := List.length_filter_le _ _

set_option maxHeartbeats 16000000 in
theorem lawSwapOrders_any (n : Int) (A : Option Addr) (cap : Nat) (l : List (Int × Int)) (w : World) (hx : RdM w w.heap.size A l) (hm : l.length ≤ maxLen) :
    Calls Try.prog 4 #[.int .i64 n, .slice A l.length cap] w fun e w' => e = .returned (.bool true) ∧ Below w.heap.size w w' := by
  have HM := Lib.hid hm
  clear hm
  by_cases hc : ckMv n l = 0
  · have HC := Lib.hid hc
    obtain ⟨k, q, rfl, rfl, hok⟩ := ckMv_ok hc
    obtain ⟨len, hlen⟩ : ∃ len, (mvI q).length = len := ⟨_, rfl⟩
    have HL : Hid (q.length = len) := Lib.hid (by rw [← hlen, mvI_len])
    have HLI := Lib.hid hlen
    rw [hlen] at HM ⊢
    have HOK := Lib.hid hok
    have hk8 := hok.small
    have hl8 : len ≤ 8 := by rw [← HL.out]; exact hok.short
    have HFAR := Lib.hid (nWait_nv hok.ins hok.nd)
    have hcn : nCirc k (nvF q) ≤ k := cntN_le _ _
    have HMF : Hid (∀ (r : Nat) (w1 : World), Below w.heap.size w w1 → Calls Try.prog 12 #[.slice A len cap, .int .i64 (r : Int)] w1 fun e w' => e = .returned (.int .i64 (nvF q r : Nat)) ∧ Below w1.heap.size w1 w') := Lib.hid fun r w1 hb1 => moveFrom_any A len cap q r w1 ((hx.below hb1 (Nat.le_refl _)).more hb1.size) HL.out (by omega)
    clear hc hok hlen
    go_enter Try.func4, Try.ntmps4
    go_wp2_with fail
    refine (order_any k A len cap q _ hx HL.out HOK.out).mono ?_
    rintro e w1 ⟨A1, c1, o, rfl, hown, hord, hb1⟩
    have hx1 := (hx.below hb1 (Nat.le_refl _)).more hb1.size
    have hrd1 := own_rdM hown (mvI_len o)
    have HORD := Lib.hid hord
    obtain ⟨m, hmo⟩ : ∃ m, o.length = m := ⟨_, rfl⟩
    have HMO := Lib.hid hmo
    rw [hmo]
    clear hown hord hmo
    go_wp2_with fail
    refine (movesCheck_any k A len cap (mvI q) _ hx1 HLI.out HM.out).mono ?_
    rintro e w2 ⟨rfl, hb2⟩
    rw [HC.out]
    have hx2 := (hx1.below hb2 (Nat.le_refl _)).more hb2.size
    have hb12 : Below w.heap.size w w2 := hb1.trans (hb2.mono hb1.size)
    have hrd2 := (hrd1.below hb2 (Nat.le_refl _)).more hb2.size
    go_wp2_with fail
    refine (circles_any k A len cap q _ hx2 HL.out HOK.out).mono ?_
    rintro e w3 ⟨rfl, hb3⟩
    have hb13 : Below w.heap.size w w3 := hb12.trans (hb3.mono hb12.size)
    have hrd3 := (hrd2.below hb3 (Nat.le_refl _)).more hb3.size
    obtain ⟨nc, hnc⟩ : ∃ nc, nCirc k (nvF q) = nc := ⟨_, rfl⟩
    have HNC := Lib.hid hnc
    rw [hnc] at hcn ⊢
    clear hnc hb1 hb2 hb3 hb12 hx1 hx2 hrd1 hrd2
    have hs3 := hb13.size
    go_wp2
    go_loopw [8, 39] (fun s i wr => ∃ j : Nat, j ≤ len ∧ i = .int .i64 j ∧ s = .int .i64 ((nc + farN (q.take j) : Nat) : Int) ∧ Below w3.heap.size w3 wr) (fun _ i _ => len - (intOf i).toNat)
    case atStart => exact ⟨0, Nat.zero_le _, rfl, rfl, Below.refl _ _⟩
    case round =>
      obtain ⟨j, hj, rfl, rfl, hb4⟩ := hrel
      have hsz4 := hb4.size
      by_cases hlt : j < len
      · obtain ⟨ad, a, b, rfl, hbl, hd, hc0, hc1⟩ := RdN.at_ (hx.below (hb13.trans (hb4.mono hs3)) (Nat.le_refl _)) (k := j) (by rw [HL.out]; exact hlt)
        have HD := Lib.hid (farN_take hd)
        have hle : farN (q.take j) ≤ 8 := by
          have h1 := farN_le (q.take j)
          have h2 := List.length_take_le j q
          omega
        obtain ⟨u, hu⟩ : ∃ u, farN (q.take j) = u := ⟨_, rfl⟩
        rw [hu] at HD hle ⊢
        clear hd hu
        by_cases he : a = b
        · have hb : ((a : Int) != (b : Int)) = false := by simp [he]
          have HE : Hid (farN (q.take (j + 1)) = u) := Lib.hid (by rw [HD.out, he]; simp)
          clear he
          go_wp2
          go_round
          case rel => exact ⟨j + 1, by omega, by go_num, by rw [HE.out], hb4.trans (by go_grown)⟩
          case measure => (simp [intOf]; omega)
        · have hb : ((a : Int) != (b : Int)) = true := by simp; omega
          have HE : Hid (farN (q.take (j + 1)) = u + 1) := Lib.hid (by rw [HD.out, bne_yes he]; rfl)
          clear he
          go_wp2
          go_round
          case rel => exact ⟨j + 1, by omega, by go_num, by rw [HE.out]; go_num, hb4.trans (by go_grown)⟩
          case measure => (simp [intOf]; omega)
      · have hjl : j = len := by omega
        have HLE : Hid (nc + farN (q.take j) = m) := Lib.hid (by
          rw [List.take_of_length_le (by rw [HL.out]; omega)]
          have h1 := HORD.out.len
          have h2 := HFAR.out
          have h3 := HNC.out
          have h4 := HMO.out
          unfold farN
          omega)
        rw [HLE.out]
        have hm16 : m ≤ 16 := by
          have h1 := farN_le (q.take j)
          have h2 := List.length_take_le j q
          have h3 := HLE.out
          omega
        subst hjl
        have hb14 : Below w.heap.size w wr := hb13.trans (hb4.mono hs3)
        have hrd4 := (hrd3.below hb4 (Nat.le_refl _)).more hb4.size
        obtain ⟨w4, rfl⟩ : ∃ w4 : World, w4 = wr := ⟨_, rfl⟩
        clear hb4 hrd3 hb13
        have hs4 := hb14.size
        go_wp2
        go_loopw [53] (fun i wr => ∃ i' : Nat, i' ≤ m ∧ i = .int .i64 i' ∧ Below w4.heap.size w4 wr) (fun i _ => m - (intOf i).toNat)
        case atStart => exact ⟨0, Nat.zero_le _, rfl, Below.refl _ _⟩
        case round =>
          obtain ⟨i, hi, rfl, hb5⟩ := hrel
          have hsz5 := hb5.size
          by_cases hlt : i < m
          · obtain ⟨ad, a, b, rfl, hbl, hd, hc0, hc1⟩ := RdN.at_ (hrd4.below hb5 (Nat.le_refl _)) (k := i) (by rw [HMO.out]; exact hlt)
            obtain ⟨ha, hbn⟩ := HORD.out.ins _ (List.mem_of_getElem? hd)
            simp only at ha hbn
            have hin : decide (0 ≤ (a : Int) ∧ (a : Int) < (k : Int) + 1 ∧ 0 ≤ (b : Int) ∧ (b : Int) < (k : Int) + 1) = true := by
              rw [decide_eq_true_eq]
              omega
            have HIN := Lib.hid hin
            have hwr : IntKind.i64.wrap ((k : Int) + 1) = (k : Int) + 1 := by rw [IntKind.wrap_i64]; omega
            clear hd hin
            go_wp2_with (go_at_call 10; (with_reducible refine (inside2_any ((k : Int) + 1) a b _ _ _ (by simp) (by simp)).mono ?_); rintro e w6 ⟨rfl, rfl⟩; rw [HIN.out])
            go_round
            case rel => exact ⟨i + 1, by omega, by go_num, hb5.trans (by go_grown)⟩
            case measure => (simp [intOf]; omega)
          · have hb15 : Below w.heap.size w wr := hb14.trans (hb5.mono hs4)
            have hrd5 := (hrd4.below hb5 (Nat.le_refl _)).more hb5.size
            obtain ⟨w5, rfl⟩ : ∃ w5 : World, w5 = wr := ⟨_, rfl⟩
            clear hb5 hrd4 hb14
            have hs5 := hb15.size
            go_wp2_with fail
            refine (moved_any k A1 m c1 o w5 hrd5 HMO.out (by omega) hk8 HORD.out.ins).mono ?_
            rintro e w6 ⟨g, rfl, hgw, hT, hb6⟩
            have hb16 : Below w.heap.size w w6 := hb15.trans (hb6.mono hs5)
            have hg6 : g < w6.heap.size := Own.lt hT
            go_wp2
            go_loopw [14] (fun i wr => ∃ r : Nat, r ≤ k ∧ i = .int .i64 r ∧ Below w6.heap.size w6 wr) (fun i _ => k - (intOf i).toNat)
            case atStart => exact ⟨0, Nat.zero_le _, rfl, Below.refl _ _⟩
            case round =>
              obtain ⟨r, hr, rfl, hb7⟩ := hrel
              have hsz7 := hb7.size
              have hb17 : Below w.heap.size w wr := hb16.trans (hb7.mono hb16.size)
              by_cases hlt : r < k
              · have hT7 := Own.below hT hb7 hg6
                have hc := hT7.cell (iv_at (ni_tab_at (rnM o id) (show r < k + 1 by omega)))
                rw [HORD.out.run id r hlt] at hc
                simp only [id] at hc
                have HR := HMF.out r
                obtain ⟨f, hf⟩ : ∃ f, nvF q r = f := ⟨_, rfl⟩
                rw [hf] at hc HR
                have HR2 := Lib.hid HR
                clear HR hf
                go_wp2
                go_region_with ((go_at_call 12; (with_reducible refine (HR2.out _ hb17.drew).mono ?_); rintro e w8 ⟨rfl, hb8⟩; have hc8 := (hb8.cell (p := ⟨g, r, none⟩) (show g < wr.drew.heap.size from Nat.lt_of_lt_of_le hg6 hsz7)).trans hc; have hb8w : Below w6.heap.size w6 w8 := hb7.drew.trans (hb8.mono hsz7)))
                all_goals (
                  go_wp2
                  go_round
                  case rel => exact ⟨r + 1, by omega, by go_num, hb8w⟩
                  case measure => (simp [intOf]; omega))
              · go_wp2
                go_ret
                exact ⟨ret_bool (by simp), hb17⟩
  · have HC := Lib.hid hc
    obtain ⟨len, hlen⟩ : ∃ len, l.length = len := ⟨_, rfl⟩
    have HLI := Lib.hid hlen
    rw [hlen] at HM ⊢
    obtain ⟨x, hx0⟩ : ∃ x, ckMv n l = x := ⟨_, rfl⟩
    have HX := Lib.hid hx0
    have hne : (x != 0) = true := by rw [← hx0]; simp [hc]
    have hxx : (x == x) = true := by simp
    clear hc hlen hx0
    go_enter Try.func4, Try.ntmps4
    go_wp2_with fail
    refine (order_bad n A len cap l _ hx HLI.out HM.out HC.out).mono ?_
    rintro e w1 ⟨rfl, hb1⟩
    have hx1 := (hx.below hb1 (Nat.le_refl _)).more hb1.size
    go_wp2_with fail
    refine (movesCheck_any n A len cap l _ hx1 HLI.out HM.out).mono ?_
    rintro e w2 ⟨rfl, hb2⟩
    rw [HX.out]
    go_wp2
    go_ret
    exact ⟨ret_bool (by simp), hb1.trans (hb2.mono hb1.size)⟩

set_option maxRecDepth 100000 in
theorem lawSwapOrders_lifted (os : Os) (started : os.Started) (H : Type) (enc : TypeId × Value → H) :
    ReturnsInHanded {} Try.checked os 4 .any (Rows.swapOrdersSpec.pre6 enc Try.prog Try.f4 Rows.swapOrdersRow.domain false) (Rows.swapOrdersSpec.post enc Try.prog Try.f4 false true false false) := by
  refine returnsInHanded_of_change_sized (C := Try.checked) Try.own started (by kernel_rfl) Try.func4
    (ChangeSpec.witness6 (enc := enc) (C := Try.checked) false ⟨#[], #[.int .i64 0, .slice none 0 0], []⟩ 8 (by kernel_rfl) (by kernel_rfl) (by kernel_rfl) (by kernel_rfl)) ?_
  intro W base args ds gs before hval0 hW hcnd hsz _
  have hval : ∀ (j : Nat) t v, Try.f4.params[j]? = some t → args[j]? = some v → Value.okWide Try.prog W .any base t v := hval0
  have hW' := hW
  obtain ⟨p, q, hA0, hV, rfl, hfz, hnd⟩ := hW
  have hA : DataW.TrodAll enc Try.prog W 0 (fun _ => true) true Try.f4.params.toList args.toList ds p := hA0
  obtain ⟨hgs, _⟩ := trodVars_none hV
  rw [Try.params4] at hA hval
  obtain ⟨v0, vs0, d0, ds0, p0, q0, hargs, rfl, rfl, h0, r0⟩ := trodAll_cons hA
  obtain ⟨v1, vs1, d1, ds1, p1, q1, rfl, rfl, rfl, h1, r1⟩ := trodAll_cons r0
  obtain ⟨rfl, rfl, rfl⟩ := trodAll_nil r1
  have hargs2 : args = #[v0, v1] := Array.toList_inj.1 hargs
  subst hargs2
  obtain ⟨a0, rfl, _, _, w0⟩ := open_int Try.underlying3 (hval 0 3 v0 rfl rfl) h0
  obtain ⟨A1, c1, l1, rfl, lc1, cm1, x1, r1⟩ := open_movesA (hval 1 22 v1 rfl rfl) h1
  have b1 := len_reach Try.underlying22 (hval 1 22 _ rfl rfl) h1 hsz (j := 1) (by rw [Try.params4]; rfl) rfl
  rw [show Try.prog.bytesOf (Try.prog.elem 22) = 16 from by kernel_rfl] at b1
  refine (lawSwapOrders_any a0 A1 c1 l1 _ x1 (by omega)).mono fun e W' ⟨he, hb⟩ => ?_
  subst he
  exact ⟨_, rfl, law_post Try.laidOut rfl (by kernel_rfl) Try.underlying4 ⟨rfl, rfl, rfl⟩ (by kernel_rfl) hW' hb⟩

theorem swapOrders_holds : Rows.SwapOrdersSaid :=
  OpenClaim.holds_of_wide 4 Try.f4 rfl rfl rfl rfl rfl rfl rfl ⟨rfl, rfl, rfl, rfl, rfl⟩ rfl rfl rfl rfl rfl (by kernel_rfl) Try.func4 (show joinedFacts Try.prog 4 Try.f4 Rows.swapOrdersSpec Rows.swapOrdersRow = true from (by unfold joinedFacts; (repeat' (with_reducible refine and_both ?_ ?_)) <;> first | (with_reducible exact may_enter) | ((with_reducible refine make_ok ?_); rfl) | ((with_reducible refine lifts_ok ?_); rfl) | kernel_rfl))
    (of_decide_eq_true (by kernel_rfl)) (by unfold Func.isWrapper; rw [if_neg (of_decide_eq_false (by kernel_rfl))]; exact ⟨rfl, rfl⟩)
    (fun os started H enc _ => lawSwapOrders_lifted os started H enc)

end Go.Proofs.Ytlknmfabfmmggaa
