/-
  For any tasks, any hands and any list plan.List returns when each is done, or the first error (Q1).
-/
import Derived.Test.YthmcigdoaededaaLawPlan
import Derived.Test.YthmcigdoaededaaIntsSame
import Derived.Test.YthmcigdoaededaaPlanList
namespace Go.Proofs.Ythmcigdoaededaa
open Go.RowKit Go.ChangeShapes Go.WideShapes Go.ChangeAt Go.Deep
set_option linter.unusedSimpArgs false
set_option linter.unusedVariables false
set_option maxRecDepth 100000

/-- a row stays where its block lies under a bound -/
theorem own_underP {w w' : World} {base : Nat} {e : TypeId} {size : Nat} {v : Value} {n : Nat} {xs : List Value} {B : Nat} (h : w.ownsRow base e size v n xs) (hb : Below B w w') (hv : ∀ g, v.ownBlock = some g → g < B) : w'.ownsRow base e size v n xs := by
  refine ⟨h.1, ?_⟩
  rcases h.2 with h' | ⟨k, cap, cur, h1, h2, h3, h4⟩
  · exact .inl h'
  · exact .inr ⟨k, cap, cur, h1, h2, (hb.block k (hv k (by rw [h1]; rfl))).trans h3, h4⟩

/-- is it so for the first pairs? -/
def prB (ps : List (Nat × Nat)) (done : List Nat) (i : Nat) : Bool := ps.all fun p => decide (p.2 ≠ i ∨ p.1 ∈ done)

theorem prB_snoc (ps : List (Nat × Nat)) (done : List Nat) (i a b : Nat) : prB (ps ++ [(a, b)]) done i = (prB ps done i && decide (b ≠ i ∨ a ∈ done)) := by simp [prB]

theorem mayB_prB (ps : List (Nat × Nat)) (done : List Nat) (i : Nat) : mayB ps done i = (!decide (i ∈ done) && prB ps done i) := by
  unfold mayB prB
  simp

set_option maxHeartbeats 1000000 in
theorem lawPlanLists_bad (I : ListIs) (n : Int) (A : Option Addr) (len cap : Nat) (l : List (Int × Int)) (m : Int) (A2 : Option Addr) (len2 cap2 : Nat) (od : List Int) (z : Int) (w : World) (hx : RdM w w.heap.size A l) (hl : l.length = len) (hm : len ≤ maxLen) (hxo : RdI w w.heap.size A2 od) (hlo : od.length = len2) (hmo : len2 ≤ maxLen) (hz : HdCode n l m z) (h0 : z ≠ 0) :
    Calls Try.prog 4 #[.int .i64 n, .slice A len cap, .int .i64 m, .slice A2 len2 cap2] w fun e w' => e = .returned (.bool true) ∧ Below w.heap.size w w' := by
  have HHC := Lib.hid (fun w hx => handsCode_any n m A len cap l z w hx hl hm hz)
  have HL : Hid (Calls Try.prog 14 #[.int .i64 n, .slice A len cap, .int .i64 m, .slice A2 len2 cap2] w fun e w' => e = .returned (.tuple #[.slice none 0 0, .int .i64 z]) ∧ Below w.heap.size w w') := Lib.hid (by
    cases hz with
    | tasks _ h1 h2 => exact I.bad n A len cap l m A2 len2 cap2 od z w hx hl hm hxo hlo hmo h1 h2
    | range h1 h2 =>
      obtain ⟨k, ps, rfl, rfl, hok⟩ := h1.zero
      exact I.range k A len cap ps m A2 len2 cap2 od w hx (by rw [← hl, mvI_len]) hok hxo hlo hmo h2
    | ok => exact absurd rfl h0)
  have hne : (z == 0) = false := by simpa using h0
  have hne2 : (z != 0) = true := by simpa using h0
  clear hz h0 hxo hlo hmo hl hm
  go_enter Try.func4, Try.ntmps4
  go_wp2_with fail
  refine HL.out.mono ?_
  rintro e w1 ⟨rfl, hb1⟩
  have hx1 := (hx.below hb1 (Nat.le_refl _)).more hb1.size
  go_wp2_with fail
  refine (HHC.out _ hx1).mono ?_
  rintro e w2 ⟨rfl, hb2⟩
  go_wp2
  go_ret
  exact ⟨ret_bool (by simp), hb1.trans (hb2.mono hb1.size)⟩

set_option maxHeartbeats 1000000 in
theorem lawPlanLists_form (I : ListIs) (n : Nat) (A : Option Addr) (len cap : Nat) (ps : List (Nat × Nat)) (m : Nat) (A2 : Option Addr) (len2 cap2 : Nat) (od : List Int) (w : World) (hx : RdM w w.heap.size A (mvI ps)) (hl : ps.length = len) (hk : TkOk n ps) (hm1 : 1 ≤ m) (hm8 : m ≤ 8) (hxo : RdI w w.heap.size A2 od) (hlo : od.length = len2) (hmo : len2 ≤ maxLen) (hno : ¬ ∃ q, od = ni q ∧ AllOnce n q) :
    Calls Try.prog 4 #[.int .i64 n, .slice A len cap, .int .i64 m, .slice A2 len2 cap2] w fun e w' => e = .returned (.bool true) ∧ Below w.heap.size w w' := by
  have hl28 := hk.short
  have HHC := Lib.hid (fun w hx => handsCode_any n m A len cap (mvI ps) 0 w hx (by rw [mvI_len, hl]) (by unfold maxLen; omega) (.ok hk.code (by omega) (by omega)))
  have HL := Lib.hid (I.form n A len cap ps m A2 len2 cap2 od w hx hl hk hm1 hm8 hxo hlo hmo hno)
  have HON : Hid (onceB n od = false) := Lib.hid (onceB_no fun h => hno (once_natP h))
  have HLO := Lib.hid hlo
  clear hk hl hno hlo
  go_enter Try.func4, Try.ntmps4
  go_wp2_with fail
  refine HL.out.mono ?_
  rintro e w1 ⟨rfl, hb1⟩
  have hx1 := (hx.below hb1 (Nat.le_refl _)).more hb1.size
  have hxo1 := (hxo.below hb1 (Nat.le_refl _)).more hb1.size
  go_wp2_with fail
  refine (HHC.out _ hx1).mono ?_
  rintro e w2 ⟨rfl, hb2⟩
  have HONC := Lib.hid (refOnce_any n A2 len2 cap2 od w2.heap.size w2 ((hxo1.below hb2 (Nat.le_refl _)).more hb2.size) HLO.out hmo)
  rw [HON.out] at HONC
  go_wp2_with (go_at_call 16; (with_reducible refine HONC.out.mono ?_); rintro e w3 ⟨rfl, rfl⟩)
  go_ret
  exact ⟨ret_bool (by simp), hb1.trans (hb2.mono hb1.size)⟩

set_option maxHeartbeats 8000000 in
theorem lawPlanLists_ok (I : ListIs) (n : Nat) (A : Option Addr) (len cap : Nat) (ps : List (Nat × Nat)) (m : Nat) (A2 : Option Addr) (cap2 : Nat) (od : List Nat) (w : World) (hx : RdM w w.heap.size A (mvI ps)) (hl : ps.length = len) (hk : TkOk n ps) (hm1 : 1 ≤ m) (hm8 : m ≤ 8) (hxo : RdI w w.heap.size A2 (ni od)) (ho : AllOnce n od) :
    Calls Try.prog 4 #[.int .i64 n, .slice A len cap, .int .i64 m, .slice A2 n cap2] w fun e w' => e = .returned (.bool true) ∧ Below w.heap.size w w' := by
  obtain ⟨T, hT⟩ := trn_ex (ho.ord (m := m) hk hm1) n [] (DoneI.nil n ps) (by simp)
  have hl28 := hk.short
  rw [hl] at hl28
  have HHC := Lib.hid (fun w hx => handsCode_any n m A len cap (mvI ps) 0 w hx (by rw [mvI_len, hl]) (by unfold maxLen; omega) (.ok hk.code (by omega) (by omega)))
  have HL := Lib.hid (I.ok n A len cap ps m A2 cap2 od T w hx hl hk hm1 hm8 hxo ho hT)
  have h8 := hk.small
  have HIN := Lib.hid hk.ins
  have HORD := Lib.hid (ho.ord hk hm1)
  have HLEN := Lib.hid ho.len
  have HPL := Lib.hid hl
  have HON : Hid (onceB n (ni od) = true) := Lib.hid (onceB_iff.2 ho.once)
  have HMEM := Lib.hid ho.2
  have HTW0 := Lib.hid (TwI.start (n := n) hT)
  have hmk := make_ints (P := Try.prog) 23 3 Try.underlying23 (by kernel_rfl) n (by omega)
  rw [rep_zeroI] at hmk
  clear hl hk ho hT
  go_enter Try.func4, Try.ntmps4
  go_wp2_with fail
  refine HL.out.mono ?_
  rintro e w1 ⟨⟨Ar, cr, rfl, hrd⟩, hb1⟩
  have hx1 := (hx.below hb1 (Nat.le_refl _)).more hb1.size
  have hxo1 := (hxo.below hb1 (Nat.le_refl _)).more hb1.size
  go_wp2_with fail
  refine (HHC.out _ hx1).mono ?_
  rintro e w2 ⟨rfl, hb2⟩
  have hb02 : Below w.heap.size w w2 := hb1.trans (hb2.mono hb1.size)
  have hs02 := hb02.size
  have hx2 := (hx1.below hb2 (Nat.le_refl _)).more hb2.size
  have hxo2 := (hxo1.below hb2 (Nat.le_refl _)).more hb2.size
  have hrd2 := (hrd.below hb2 (Nat.le_refl _)).more hb2.size
  have HONC := Lib.hid (refOnce_any n A2 n cap2 (ni od) w2.heap.size w2 hxo2 (by simp [ni, HLEN.out]) (by unfold maxLen; omega))
  rw [HON.out] at HONC
  clear hx hx1 hxo hxo1 hrd hb1 hb2
  go_wp2_with (go_at_call 16; (with_reducible refine HONC.out.mono ?_); rintro e w3 ⟨rfl, rfl⟩)
  have hown1 := Own.new w2 3 (iv (ni (tabN n fun _ => 0)))
  go_loopw [13, 14] (fun x st wr => ∃ (s d : Nat) (A1 : Option Addr) (c1 : Nat) (done : List Nat) (T2 : List (List Nat)) (F : Nat → Nat), x = .slice A1 d c1 ∧ st = .int .i64 s ∧ s ≤ n ∧ d ≤ n ∧ Hid (done.length = d) ∧ Hid (TwI n m ps od T s done T2 F) ∧ Own wr w2.heap.size 3 (iv (ni (tabN n F))) ∧ wr.ownsRow (w2.heap.size + 1) 3 1 (.slice A1 d c1) d (iv (ni done)) ∧ Below w2.heap.size w2 wr) (fun _ st _ => T.length - (intOf st).toNat)
  case atStart => exact ⟨0, 0, none, 0, [], T, _, rfl, rfl, Nat.zero_le _, Nat.zero_le _, Lib.hid rfl, HTW0, hown1, World.ownsRow_nil _ _ _ _, by go_grown⟩
  case round =>
    obtain ⟨s, d, A1, c1, done, T2, F, rfl, rfl, hs, hd, HDL, HTW, hown, hrow, hb3⟩ := hrel
    have hs3 := hb3.size
    have hgl := hown.lt
    by_cases hdl : d < n
    · obtain ⟨wo, rfl⟩ : ∃ wo : World, wo = wr := ⟨_, rfl⟩
      have HBK : Hid (∀ g, (Value.slice A1 d c1).ownBlock = some g → g < wo.heap.size) := Lib.hid fun g hg => (hrow.lt g hg).2
      go_wp2
      go_loopw [15, 61] (fun x z wr => ∃ (k c : Nat) (A3 : Option Addr) (c3 : Nat), k ≤ n ∧ c ≤ k ∧ z = .int .i64 k ∧ x = .slice A3 c c3 ∧ Hid ((nowL m ps (od.take k) done).length = c) ∧ wr.ownsRow wo.heap.size 3 1 (.slice A3 c c3) c (iv (ni (nowL m ps (od.take k) done))) ∧ Own wr w2.heap.size 3 (iv (ni (tabN n (nwF F s (nowL m ps (od.take k) done))))) ∧ wr.ownsRow (w2.heap.size + 1) 3 1 (.slice A1 d c1) d (iv (ni done)) ∧ Below w2.heap.size w2 wr ∧ wo.heap.size ≤ wr.heap.size) (fun _ z _ => n - (intOf z).toNat)
      case atStart =>
        have e0 : nowL m ps (od.take 0) done = [] := by simp [nowL]
        have e1 : nwF F s [] = F := by funext i; simp [nwF]
        exact ⟨0, 0, none, 0, Nat.zero_le _, Nat.le_refl _, rfl, rfl, by rw [e0]; exact Lib.hid rfl, by rw [e0]; exact World.ownsRow_nil _ _ _ _, by rw [e0, e1]; exact hown, hrow, hb3, Nat.le_refl _⟩
      case round =>
        obtain ⟨k, c, A3, c3, hk, hck, rfl, rfl, HC, hnow, hown4, hrow4, hb4, hs4⟩ := hrel
        have hs24 := hb4.size
        by_cases hkn : k < n
        · obtain ⟨ad, v', rfl, hbl, hdv, hcell⟩ := (hxo2.below hb4 (Nat.le_refl _)).at_ (k := k) (by simp [ni, HLEN.out]; exact hkn)
          obtain ⟨v, hv⟩ : ∃ v, od[k]? = some v := ⟨_, List.getElem?_eq_getElem (by rw [HLEN.out]; exact hkn)⟩
          rw [ni_at hv] at hdv
          injection hdv with hdv
          subst hdv
          have hvn : v < n := (HMEM.out v).1 (List.mem_of_getElem? hv)
          have HST := Lib.hid (nowL_step (m := m) (ps := ps) (done := done) hv)
          have HDR := Lib.hid (own_rdI hrow4 (by simp [ni, HDL.out]))
          have HHA := Lib.hid (fun (x : Nat) (w' : World) (hb : Below wr.heap.size wr w') => refHas_any A1 d c1 (ni done) x wr.heap.size w' (HDR.out.below hb (Nat.le_refl _)) (by simp [ni, HDL.out]) (by unfold maxLen; omega))
          have hdec : ∀ x : Nat, decide ((x : Int) ∈ ni done) = decide (x ∈ done) := fun x => decide_eq_decide.2 ni_mem
          have HDEC := Lib.hid hdec
          have HHS := Lib.hid (HHA.out v wr (Below.refl _ _))
          rw [HDEC.out v] at HHS
          have hgo : w2.heap.size < wo.heap.size := hgl
          clear hv hdec
          obtain ⟨wm, rfl⟩ : ∃ wm : World, wm = wr := ⟨_, rfl⟩
          have hway : ∃ b1 b2 : Bool, decide (v ∈ done) = b1 ∧ decide (c < m) = b2 := ⟨_, _, rfl, rfl⟩
          obtain ⟨b1, b2, hw1, hw2⟩ := hway
          rw [hw1] at HHS
          have HOK : Hid (∀ r : Bool, ((!decide (v ∈ done) && decide (c < m)) && r) = ((!b1 && b2) && r)) := Lib.hid fun r => by rw [hw1, hw2]
          have hcm : (c < m ↔ b2 = true) := by rw [← hw2, decide_eq_true_eq]
          clear hw1 hw2
          cases b1
          case' false => cases b2
          case' false.false => have hcm2 : ¬ c < m := fun h => by simp [h] at hcm
          case' false.true => have hcm2 : c < m := hcm.2 rfl
          all_goals (
            clear hcm
            go_wp2_with (go_at_call 17; (with_reducible refine HHS.out.mono ?_); rintro e w5 ⟨rfl, rfl⟩)
            go_loopw [18, 77] (fun x z wr => ∃ (j : Nat) (b : Bool), j ≤ len ∧ z = .int .i64 j ∧ x = .bool b ∧ Hid (b = ((!decide (v ∈ done) && decide (c < m)) && prB (ps.take j) done v)) ∧ Below wm.heap.size wm wr) (fun _ z _ => len - (intOf z).toNat)
            case atStart => exact ⟨0, _, Nat.zero_le _, rfl, rfl, Lib.hid (by rw [HOK.out]; rfl), Below.refl _ _⟩
            case round =>
              obtain ⟨j, b, hj, rfl, rfl, HB, hb5⟩ := hrel
              have hs5 := hb5.size
              have hb25 : Below w2.heap.size w2 wr := hb4.trans (hb5.mono hs24)
              by_cases hjl : j < len
              · obtain ⟨ad2, x, y, rfl, hbl2, hd2, hc0, hc1⟩ := RdN.at_ (hx2.below hb25 (Nat.le_refl _)) (k := j) (by rw [HPL.out]; exact hjl)
                have HTK : Hid (ps.take (j + 1) = ps.take j ++ [(x, y)]) := Lib.hid (by rw [List.take_add_one, hd2]; rfl)
                have HSN := Lib.hid (prB_snoc (ps.take j) done v x y)
                clear hd2
                cases b with
                | false =>
                  have HB2 : Hid (false = ((!decide (v ∈ done) && decide (c < m)) && prB (ps.take (j + 1)) done v)) := Lib.hid (by rw [HTK.out, HSN.out, ← Bool.and_assoc, ← HB.out]; rfl)
                  go_wp2
                  go_round
                  case rel => exact ⟨j + 1, false, by omega, by go_num, rfl, HB2, hb5.trans (by go_grown)⟩
                  case measure => (simp [intOf]; omega)
                | true =>
                  have HBT : Hid (((!decide (v ∈ done) && decide (c < m)) && prB (ps.take (j + 1)) done v) = decide (y ≠ v ∨ x ∈ done)) := Lib.hid (by rw [HTK.out, HSN.out, ← Bool.and_assoc, ← HB.out]; rfl)
                  by_cases hyv : y = v
                  · subst hyv
                    have HHX := Lib.hid (fun w' hb => HHA.out x w' hb)
                    rw [HDEC.out x] at HHX
                    by_cases hxd : x ∈ done
                    · rw [decide_eq_true hxd] at HHX
                      have HB2 : Hid (true = ((!decide (y ∈ done) && decide (c < m)) && prB (ps.take (j + 1)) done y)) := Lib.hid (by rw [HBT.out, decide_eq_true (.inr hxd)])
                      clear hxd
                      go_wp2_with (go_at_call 17; (with_reducible refine (HHX.out _ (hb5.trans (by go_grown))).mono ?_); rintro e w6 ⟨rfl, rfl⟩)
                      go_round
                      case rel => exact ⟨j + 1, true, by omega, by go_num, rfl, HB2, hb5.trans (by go_grown)⟩
                      case measure => (simp [intOf]; omega)
                    · rw [decide_eq_false hxd] at HHX
                      have HB2 : Hid (false = ((!decide (y ∈ done) && decide (c < m)) && prB (ps.take (j + 1)) done y)) := Lib.hid (by rw [HBT.out, decide_eq_false]; simp [hxd])
                      clear hxd
                      go_wp2_with (go_at_call 17; (with_reducible refine (HHX.out _ (hb5.trans (by go_grown))).mono ?_); rintro e w6 ⟨rfl, rfl⟩)
                      go_round
                      case rel => exact ⟨j + 1, false, by omega, by go_num, rfl, HB2, hb5.trans (by go_grown)⟩
                      case measure => (simp [intOf]; omega)
                  · have hne : ((y : Int) != (v : Int)) = true := by simp only [bne_iff_ne, ne_eq]; omega
                    have hne2 : ((y : Int) == (v : Int)) = false := by simp only [beq_eq_false_iff_ne, ne_eq]; omega
                    have HB2 : Hid (true = ((!decide (v ∈ done) && decide (c < m)) && prB (ps.take (j + 1)) done v)) := Lib.hid (by rw [HBT.out, decide_eq_true (.inl hyv)])
                    clear hyv
                    go_wp2
                    go_round
                    case rel => exact ⟨j + 1, true, by omega, by go_num, rfl, HB2, hb5.trans (by go_grown)⟩
                    case measure => (simp [intOf]; omega)
              · have hjl2 : j = len := by omega
                subst hjl2
                rw [List.take_of_length_le (by rw [HPL.out]; exact Nat.le_refl _)] at HB
                have hnow5 := own_below hnow hb5
                have hrow5 := own_below hrow4 hb5
                have hown5 := hown4.below hb5 hown4.lt
                have hs45 : wo.heap.size ≤ wr.heap.size := Nat.le_trans hs4 hs5
                cases b with
                | false =>
                  have HN : Hid (nowL m ps (od.take (k + 1)) done = nowL m ps (od.take k) done) := Lib.hid (by
                    rw [HST.out, if_neg]
                    rintro ⟨h1, h2⟩
                    have h3 := HB.out
                    rw [mayB_prB, Bool.and_eq_true] at h1
                    rw [h1.1, h1.2, decide_eq_true (by rw [← HC.out]; exact h2)] at h3
                    cases h3)
                  rw [← HN.out] at HC hnow5 hown5
                  go_wp2
                  go_round
                  case rel => exact ⟨k + 1, c, A3, c3, by omega, by omega, by go_num, rfl, HC, hnow5, hown5, hrow5, hb25, hs45⟩
                  case measure => (simp [intOf]; omega)
                | true =>
                  have hbb : decide (v ∈ done) = false ∧ c < m ∧ prB ps done v = true := by
                    have h3 := HB.out.symm
                    rw [Bool.and_eq_true, Bool.and_eq_true, decide_eq_true_eq, Bool.not_eq_true'] at h3
                    exact ⟨h3.1.1, h3.1.2, h3.2⟩
                  have HN : Hid (nowL m ps (od.take (k + 1)) done = nowL m ps (od.take k) done ++ [v]) := Lib.hid (by
                    rw [HST.out, if_pos]
                    refine ⟨?_, by rw [HC.out]; exact hbb.2.1⟩
                    rw [mayB_prB, hbb.1, hbb.2.2]; rfl)
                  have hcz := hown5.cell (iv_at (ni_tab_at (nwF F s (nowL m ps (od.take k) done)) hvn))
                  obtain ⟨z0, hz0⟩ : ∃ z0, nwF F s (nowL m ps (od.take k) done) v = z0 := ⟨_, rfl⟩
                  have h63 : c + 1 ≤ maxLen := by unfold maxLen; omega
                  have hbg : (c + 1) * 8 ≤ 140737488355328 := by omega
                  clear hbb hcz hz0
                  go_wp2_with (at_builtin; refine wpList_app' rfl (.tmp 96) (.tmp 98) 23 rfl wo.heap.size 3 1 8 int_app (iv (ni (nowL m ps (od.take k) done))) rfl (own_below hnow5 (by go_grown)) [.int .i64 v] rfl rfl (fun h => by cases h) (cells_at (by simp) _ _) (one_cell _) h63 hbg (by simp; omega) ?_; intro A5 c5 w6 hown6 hg6 hb6 hk6; have hb56 : Below wo.heap.size wr w6 := (by go_grown : Below wo.heap.size wr _).trans hb6; have ho6 := hown5.below hb56 hgo; have hcz := ho6.cell (iv_at (ni_tab_at (nwF F s (nowL m ps (od.take k) done)) hvn)); have hfz := ho6.frozen v; have hl6 := ho6.lt)
                  go_round
                  case rel => exact ⟨k + 1, c + 1, A5, c5, by omega, by omega, by go_num, rfl, Lib.hid (by rw [HN.out, List.length_append, HC.out]; rfl), by rw [HN.out, show iv (ni (nowL m ps (od.take k) done ++ [v])) = iv (ni (nowL m ps (od.take k) done)) ++ [.int .i64 v] by simp [iv, ni]]; exact own_farW hown6 hgo _, by rw [HN.out, ← nwF_set]; exact OwnI.set ho6 v _, own_farW (own_underP hrow5 hb56 HBK.out) (Nat.lt_succ_self _) _, hb25.trans (Below.setCell (B := w2.heap.size) (hb56.mono (Nat.le_of_lt hgo)) (p := ⟨w2.heap.size, v, none⟩) (Nat.le_refl _) _), Nat.le_trans hs45 (Nat.le_trans hb56.size (by simp))⟩
                  case measure => (simp [intOf]; omega))
        · have hkn2 : k = n := by omega
          subst hkn2
          rw [List.take_of_length_le (by rw [HLEN.out]; exact Nat.le_refl _)] at HC hnow hown4
          obtain ⟨T3, htw, hsl⟩ := HTW.out.more HORD.out (by rw [HDL.out]; exact hdl) (G := nwF F s (nowL m ps od done)) fun i => rfl
          have hsn : s + 1 ≤ k := by
            have h1 := htw.many
            have h2 := htw.don.small
            omega
          have hdc : d + c ≤ k := by
            have h2 := htw.don.small
            rw [List.length_append, HDL.out, HC.out] at h2
            exact h2
          have HTW2 := Lib.hid htw
          have HNR := Lib.hid (own_rdI hnow (by simp [ni, HC.out]))
          have HNL : Hid ((ni (nowL m ps od done)).length = c) := Lib.hid (by simp [ni, HC.out])
          have h63 : d + c ≤ maxLen := by unfold maxLen; omega
          have hbg : (d + c) * 8 ≤ 140737488355328 := by omega
          have hgw : w2.heap.size + 1 ≤ wr.heap.size := hown4.lt
          clear htw
          go_wp2_with (at_builtin; refine wpList_app' rfl (.tmp 105) (.tmp 106) 23 rfl (w2.heap.size + 1) 3 1 8 int_app (iv (ni done)) rfl hrow4 (iv (ni (nowL m ps od done))) rfl (by simp [iv, HNL.out]) (fun h => by rw [← HNL.out]; exact HNR.out.nil h) HNR.out.news (iv_one _) h63 hbg hgw ?_; intro A5 c5 w6 hown6 hg6 hb6 hk6)
          go_round
          case rel => exact ⟨s + 1, d + c, A5, c5, _, T3, _, rfl, by go_num, hsn, hdc, Lib.hid (by rw [List.length_append, HDL.out, HC.out]), HTW2, hown4.below hb6 (Nat.lt_succ_self _), by rw [show iv (ni (done ++ nowL m ps od done)) = iv (ni done) ++ iv (ni (nowL m ps od done)) by simp [iv, ni]]; exact hown6, hb4.trans (hb6.mono (Nat.le_succ _))⟩
          case measure => (simp [intOf]; omega)
    · have hdn : d = n := by omega
      subst hdn
      have HD := Lib.hid (HTW.out.done (by rw [HDL.out]; exact Nat.le_refl _))
      rw [HD.out] at hown
      have HRW := Lib.hid ((OwnI.rd hown).more (by omega : w2.heap.size + 1 ≤ wr.heap.size))
      have HIS := Lib.hid (ints_same Ar (some ⟨w2.heap.size, 0, none⟩) d cr d (ni ((List.range d).map (turnOf T))) wr ((hrd2.below hb3 (Nat.le_refl _)).more hs3) HRW.out (by simp [ni]) (by unfold maxLen; omega))
      clear hown hrow
      go_wp2_with (go_at_call 18; (with_reducible refine HIS.out.mono ?_); rintro e w5 ⟨rfl, hb5⟩)
      go_ret
      exact ⟨ret_bool (by simp), hb02.trans ((hb3.trans (hb5.mono hs3)).mono hs02)⟩

theorem lawPlanLists_any (I : ListIs) (n : Int) (A : Option Addr) (cap : Nat) (l : List (Int × Int)) (m : Int) (A2 : Option Addr) (cap2 : Nat) (od : List Int) (w : World) (hx : RdM w w.heap.size A l) (hm : l.length ≤ maxLen) (hxo : RdI w w.heap.size A2 od) (hmo : od.length ≤ maxLen) :
    Calls Try.prog 4 #[.int .i64 n, .slice A l.length cap, .int .i64 m, .slice A2 od.length cap2] w fun e w' => e = .returned (.bool true) ∧ Below w.heap.size w w' := by
  obtain ⟨z, hz⟩ := hd_ex n l m
  by_cases h0 : z = 0
  · subst h0
    cases hz with
    | tasks _ _ h => exact absurd rfl h
    | ok h1 h2 h3 =>
      obtain ⟨k, ps, rfl, rfl, hok⟩ := h1.zero
      obtain ⟨q, rfl⟩ : ∃ q : Nat, m = q := ⟨m.toNat, by omega⟩
      by_cases hon : ∃ q, od = ni q ∧ AllOnce k q
      · obtain ⟨q', rfl, hao⟩ := hon
        have : (ni q').length = k := by simp [ni, hao.len]
        rw [this]
        exact lawPlanLists_ok I k A _ cap ps q A2 cap2 q' w hx (by rw [mvI_len]) hok (by omega) (by omega) hxo hao
      · exact lawPlanLists_form I k A _ cap ps q A2 _ cap2 od w hx (by rw [mvI_len]) hok (by omega) (by omega) hxo rfl hmo hon
  · exact lawPlanLists_bad I n A _ cap l m A2 _ cap2 od z w hx rfl hm hxo rfl hmo hz h0

set_option maxRecDepth 100000 in
theorem lawPlanLists_lifted (os : Os) (started : os.Started) (H : Type) (enc : TypeId × Value → H) :
    ReturnsInHanded {} Try.checked os 4 .any (Rows.planListsSpec.pre6 enc Try.prog Try.f4 Rows.planListsRow.domain false) (Rows.planListsSpec.post enc Try.prog Try.f4 false true false false) := by
  refine returnsInHanded_of_change_sized (C := Try.checked) Try.own started (by kernel_rfl) Try.func4
    (ChangeSpec.witness6 (enc := enc) (C := Try.checked) false ⟨#[], #[.int .i64 0, .slice none 0 0, .int .i64 0, .slice none 0 0], []⟩ 8 (by kernel_rfl) (by kernel_rfl) (by kernel_rfl) (by kernel_rfl)) ?_
  intro W base args ds gs before hval0 hW hcnd hsz _
  have hval : ∀ (j : Nat) t v, Try.f4.params[j]? = some t → args[j]? = some v → Value.okWide Try.prog W .any base t v := hval0
  have hW' := hW
  obtain ⟨p, q, hA0, hV, rfl, hfz, hnd⟩ := hW
  have hA : DataW.TrodAll enc Try.prog W 0 (fun _ => true) true Try.f4.params.toList args.toList ds p := hA0
  obtain ⟨hgs, _⟩ := trodVars_none hV
  rw [Try.params4] at hA hval
  obtain ⟨v0, vs0, d0, ds0, p0, q0, hargs, rfl, rfl, h0, r0⟩ := trodAll_cons hA
  obtain ⟨v1, vs1, d1, ds1, p1, q1, rfl, rfl, rfl, h1, r1⟩ := trodAll_cons r0
  obtain ⟨v2, vs2, d2, ds2, p2, q2, rfl, rfl, rfl, h2, r2⟩ := trodAll_cons r1
  obtain ⟨v3, vs3, d3, ds3, p3, q3, rfl, rfl, rfl, h3, r3⟩ := trodAll_cons r2
  obtain ⟨rfl, rfl, rfl⟩ := trodAll_nil r3
  have hargs2 : args = #[v0, v1, v2, v3] := Array.toList_inj.1 hargs
  subst hargs2
  obtain ⟨a0, rfl, _, _, w0⟩ := open_int Try.underlying3 (hval 0 3 v0 rfl rfl) h0
  obtain ⟨A1, c1, l1, rfl, lc1, cm1, x1, r1⟩ := open_pairsA (hval 1 22 v1 rfl rfl) h1
  have b1 := len_reach Try.underlying22 (hval 1 22 _ rfl rfl) h1 hsz (j := 1) (by rw [Try.params4]; rfl) rfl
  rw [show Try.prog.bytesOf (Try.prog.elem 22) = 16 from by kernel_rfl] at b1
  obtain ⟨a2, rfl, _, _, w2⟩ := open_int Try.underlying3 (hval 2 3 v2 rfl rfl) h2
  obtain ⟨A3, c3, l3, rfl, lc3, cm3, x3, r3⟩ := open_intsA (hval 3 23 v3 rfl rfl) h3
  have b3 := len_reach Try.underlying23 (hval 3 23 _ rfl rfl) h3 hsz (j := 3) (by rw [Try.params4]; rfl) rfl
  rw [show Try.prog.bytesOf (Try.prog.elem 23) = 8 from by kernel_rfl] at b3
  refine (lawPlanLists_any listIs a0 A1 c1 l1 a2 A3 c3 l3 _ x1 (by omega) x3 (by omega)).mono fun e W' ⟨he, hb⟩ => ?_
  subst he
  exact ⟨_, rfl, law_post Try.laidOut rfl (by kernel_rfl) Try.underlying4 ⟨rfl, rfl, rfl⟩ (by kernel_rfl) hW' hb⟩

theorem planLists_holds : Rows.PlanListsSaid :=
  OpenClaim.holds_of_wide 4 Try.f4 rfl rfl rfl rfl rfl rfl rfl ⟨rfl, rfl, rfl, rfl, rfl⟩ rfl rfl rfl rfl rfl (by kernel_rfl) Try.func4 (show joinedFacts Try.prog 4 Try.f4 Rows.planListsSpec Rows.planListsRow = true from (by unfold joinedFacts; (repeat' (with_reducible refine and_both ?_ ?_)) <;> first | (with_reducible exact may_enter) | ((with_reducible refine make_ok ?_); rfl) | ((with_reducible refine lifts_ok ?_); rfl) | kernel_rfl))
    (of_decide_eq_true (by kernel_rfl)) (by unfold Func.isWrapper; rw [if_neg (of_decide_eq_false (by kernel_rfl))]; exact ⟨rfl, rfl⟩)
    (fun os started H enc _ => lawPlanLists_lifted os started H enc)

end Go.Proofs.Ythmcigdoaededaa
