/-
  point.execute, point.Run and codemasonref.Pointed return what they say (V1).
-/
import Derived.Test.YtfbnmgnkigfgpaaPtCk
import Derived.Test.YtfbnmgnkigfgpaaMBase
import Derived.Test.YtfbnmgnkigfgpaaRepeat
import Derived.Deep.Cut
namespace Go.Proofs.Ytfbnmgnkigfgpaa
open Go.RowKit
set_option linter.unusedSimpArgs false
set_option linter.unusedVariables false
set_option maxRecDepth 100000

theorem PvI.at_ {n : Nat} {v : List Int} (h : PvI n v) {i : Nat} (hi : i < n) : ∃ x, v[i]? = some x ∧ v.getD i (-1) = x ∧ -1 ≤ x ∧ x < n := by
  have e : v[i]? = some (v[i]'(by rw [h.len]; exact hi)) := List.getElem?_eq_getElem _
  refine ⟨_, e, by rw [List.getD_eq_getElem?_getD, e]; rfl, (h.rng i _ e).1, (h.rng i _ e).2⟩

theorem wrote_set {w : World} {g j : Nat} {u : Value} (o : Obj) : Wrote g w ((w.setCell ⟨g, j, none⟩ u).alloc o) :=
  ((Wrote.of_below (Below.refl _ w)).set (p := ⟨g, j, none⟩) rfl u).andThen ((Below.refl _ _).alloc (by simp [World.setCell]) o)

theorem wrote_alloc {w : World} {g : Nat} (o : Obj) : Wrote g w (w.alloc o) := Wrote.of_below ((Below.refl _ _).alloc (Nat.le_refl _) o)

theorem Wrote.drew {g : Nat} {w w' : World} (h : Wrote g w w') : Wrote g w w'.drew := ⟨h.os, h.tape, h.output, h.size, h.block⟩

set_option maxHeartbeats 4000000 in
theorem execute_any (n g : Nat) (v : List Int) (k t f : Nat) (w : World) (hO : Own w g 3 (iv v)) (hv : PvI n v) (h1 : 1 ≤ k) (h4 : k ≤ 4) (ht : t < n) (hf : f < n) (hn : n ≤ 8) :
    Calls Try.prog 35 #[.slice (some ⟨g, 0, none⟩) n n, .agg #[.int .i64 (k : Int), .int .i64 (t : Int), .int .i64 (f : Int)]] w fun e w' => e = .returned (.tuple #[]) ∧ Own w' g 3 (iv (doP ⟨k, t, f⟩ v)) ∧ Wrote g w w' := by
  have hg := hO.lt
  obtain ⟨x, hx, hxd, hx1, hx2⟩ := hv.at_ ht
  obtain ⟨y, hy, hyd, hy1, hy2⟩ := hv.at_ hf
  have hct := hO.cell (iv_at hx)
  have hcf := hO.cell (iv_at hy)
  have hft := hO.frozen t
  have hk : k = 1 ∨ k = 2 ∨ k = 3 ∨ k = 4 := by omega
  clear h1 h4 hx hy
  rcases hk with rfl | rfl | rfl | rfl
  · have hD : Hid (doP ⟨1, t, f⟩ v = v.set t (f : Int)) := Lib.hid rfl
    have H := Lib.hid (OwnI.set hO t (f : Int))
    clear hO hv hxd hyd
    go_enter Try.func35, Try.ntmps35
    go_wp2
    go_end0
    exact ⟨rfl, by rw [hD.out]; exact H.out.alloc _, wrote_set _⟩
  · have hD : Hid (doP ⟨2, t, f⟩ v = v.set t y) := Lib.hid (by rw [← hyd]; rfl)
    have H := Lib.hid (OwnI.set hO t y)
    clear hO hv hxd hyd
    go_enter Try.func35, Try.ntmps35
    go_wp2
    go_region
    all_goals
      go_wp2
      go_end0
      exact ⟨rfl, by rw [hD.out]; exact H.out.alloc _, (wrote_set _).drew⟩
  · by_cases hy0 : y < 0
    · have hy3 : y = -1 := by omega
      subst hy3
      have hD : Hid (doP ⟨3, t, f⟩ v = v) := Lib.hid (by show (if v.getD f (-1) < 0 then v else _) = v; rw [hyd, if_pos hy0])
      have H := Lib.hid hO
      clear hO hv hxd hyd hy0
      go_enter Try.func35, Try.ntmps35
      go_wp2
      go_end0
      exact ⟨rfl, by rw [hD.out]; exact H.out.alloc _, wrote_alloc _⟩
    · obtain ⟨a, rfl⟩ := Int.eq_ofNat_of_zero_le (by omega : 0 ≤ y)
      have ha : a < n := by omega
      obtain ⟨z, hz, hzd, hz1, hz2⟩ := hv.at_ ha
      have hca := hO.cell (iv_at hz)
      have hD : Hid (doP ⟨3, t, f⟩ v = v.set t z) := Lib.hid (by show (if v.getD f (-1) < 0 then v else v.set t (v.getD (v.getD f (-1)).toNat (-1))) = _; rw [hyd, if_neg hy0, Int.toNat_natCast, hzd])
      have H := Lib.hid (OwnI.set hO t z)
      have hne : (((a : Nat) : Int) != -1) = true := by simp
      clear hO hv hxd hyd hy0 hzd hz
      go_enter Try.func35, Try.ntmps35
      go_wp2
      go_region
      all_goals
        go_wp2
        go_end0
        exact ⟨rfl, by rw [hD.out]; exact H.out.alloc _, (wrote_set _).drew⟩
  · by_cases hx0 : x < 0
    · have hx3 : x = -1 := by omega
      subst hx3
      have hD : Hid (doP ⟨4, t, f⟩ v = v) := Lib.hid (by show (if v.getD t (-1) < 0 then v else _) = v; rw [hxd, if_pos hx0])
      have H := Lib.hid hO
      clear hO hv hxd hyd hx0
      go_enter Try.func35, Try.ntmps35
      go_wp2
      go_end0
      exact ⟨rfl, by rw [hD.out]; exact H.out.alloc _, wrote_alloc _⟩
    · obtain ⟨a, rfl⟩ := Int.eq_ofNat_of_zero_le (by omega : 0 ≤ x)
      have ha : a < n := by omega
      obtain ⟨z, hz, hzd, hz1, hz2⟩ := hv.at_ ha
      have hca := hO.cell (iv_at hz)
      have hfa := hO.frozen a
      have hD : Hid (doP ⟨4, t, f⟩ v = v.set a y) := Lib.hid (by show (if v.getD t (-1) < 0 then v else v.set (v.getD t (-1)).toNat (v.getD f (-1))) = _; rw [hxd, if_neg hx0, Int.toNat_natCast, hyd])
      have H := Lib.hid (OwnI.set hO a y)
      have hne : (((a : Nat) : Int) != -1) = true := by simp
      clear hO hv hxd hyd hx0 hzd hz
      go_enter Try.func35, Try.ntmps35
      go_wp2
      go_end0
      exact ⟨rfl, by rw [hD.out]; exact H.out.alloc _, wrote_set _⟩

theorem insideB_at {m : Int} {s : List Int} {k : Nat} {x : Int} (h : s[k]? = some x) : insideB m (s.drop k) = if x < 0 ∨ m ≤ x then false else insideB m (s.drop (k + 1)) := by
  rw [drop_at h]
  rfl

set_option maxHeartbeats 4000000 in
theorem ptRun_ok (n : Nat) (A : Option Addr) (len cap : Nat) (q : List Qt) (A2 : Option Addr) (len2 cap2 : Nat) (ks : List Nat) (w : World) (hx : RdPz w w.heap.size A (qI q)) (hl : q.length = len) (hq : QOk n q) (h1 : 1 ≤ n) (h8 : n ≤ 8) (hl12 : len ≤ 12)
    (hy : RdI w w.heap.size A2 (ni ks)) (hl2 : ks.length = len2) (hs : len2 ≤ 200) (hks : ∀ x ∈ ks, x < len) :
    Calls Try.prog 15 #[.int .i64 n, .slice A len cap, .slice A2 len2 cap2] w fun e w' => ∃ A' c', e = .returned (.tuple #[.slice A' n c', .int .i64 0]) ∧ RdI w' w'.heap.size A' (goPt q ks (List.replicate n (-1))) ∧ Below w.heap.size w w' := by
  have g4 : ¬ (200 : Int) < (len2 : Int) := by omega
  have HCK := Lib.hid ((pzCheck_any n A len cap (qI q) w hx (by rw [qI_len]; exact hl) (by unfold maxLen; omega)))
  have hck : ckPz n (qI q) = 0 := ckPz_of h1 h8 (by omega) hq
  rw [hck] at HCK
  have HL := Lib.hid hl
  have HL2 := Lib.hid hl2
  have HKS := Lib.hid hks
  have HQ := Lib.hid hq
  have HREP := Lib.hid (repeat_any (-1) n h1 h8)
  clear hl hl2 hks hq hck
  go_enter Try.func15, Try.ntmps15
  go_wp2_with (first
    | (go_at_call 20; (with_reducible refine HCK.out.mono ?_); rintro e w0 ⟨rfl, hb0⟩)
    | (go_at_call 33; (with_reducible refine (below_any _ _).mono ?_); rintro e w1 ⟨rfl, hO, hb1⟩))
  have hb01 : Below w.heap.size w w1 := hb0.trans (hb1.mono hb0.size)
  have hc1 := hO.cell (j := 0) rfl
  have hg0 := hO.lt
  obtain ⟨g0, hg0e⟩ : ∃ g, w0.heap.size = g := ⟨_, rfl⟩
  rw [hg0e] at hc1 hg0 hO ⊢
  clear hb1 hO hg0e hb0 HCK
  go_loop [29] (fun i => ∃ k : Nat, k ≤ len2 ∧ i = .int .i64 k) (fun i => len2 - (intOf i).toNat)
  case atStart => exact ⟨0, Nat.zero_le _, rfl⟩
  case round =>
    obtain ⟨k, hk, rfl⟩ := hrel
    have hy1 := hy.below hb01 (Nat.le_refl _)
    by_cases hlt : k < len2
    · obtain ⟨ad, x, rfl, hbl, hd, hcx⟩ := hy1.at_ (k := k) (by rw [pn_len, HL2.out]; exact hlt)
      obtain ⟨xn, rfl, hxn⟩ := pn_inv hd
      have hxl := HKS.out xn (List.mem_of_getElem? hxn)
      have HT := Lib.hid (belowIn_told (decide_eq_true (⟨by omega, by omega⟩ : (0 : Int) ≤ (xn : Int) ∧ (xn : Int) < (len : Int))) g0 _ hc1)
      clear hd hxn
      go_wp2_with (go_at_call 43; (with_reducible refine HT.out.mono ?_); rintro e w5 ⟨rfl, rfl⟩)
      go_round
      case rel => exact ⟨k + 1, by omega, by go_num⟩
      case measure => (simp [intOf]; omega)
    · go_wp2_with (go_at_call 34; (with_reducible refine (HREP.out _ _ _ (by simp) (by simp)).mono ?_); rintro e w2 ⟨rfl, hO, hb2⟩)
      rw [show (w1.alloc (.cells #[.int .i64 (-1)] 3)).heap.size = w1.heap.size + 1 from by simp] at hO hb2
      have hsz01 := hb01.size
      have hb12 : Below w.heap.size w w2 := (hb01.trans (by go_grown : Below w.heap.size w1 _)).trans (hb2.mono (by have := hb01.size; omega))
      go_upto_region 14 with fail
      obtain ⟨g, hg⟩ : ∃ g, w1.heap.size + 1 = g := ⟨_, rfl⟩
      have hgw : w.heap.size ≤ g := by have := hb01.size; omega
      rw [hg] at hO ⊢
      clear hb2 hg HREP hb01 hc1 hg0
      go_loopw [43] (fun i wr => ∃ (k : Nat) (v : List Int), k ≤ len2 ∧ i = .int .i64 k ∧ Own wr g 3 (iv v) ∧ Hid (PvI n v ∧ goPt q ks (List.replicate n (-1)) = goPt q (ks.drop k) v) ∧ Below w.heap.size w wr) (fun i _ => len2 - (intOf i).toNat)
      case atStart => exact ⟨0, _, Nat.zero_le _, rfl, hO, Lib.hid ⟨PvI.start n, rfl⟩, hb12⟩
      case round =>
        obtain ⟨k, v, hk, rfl, hown, HV, hb3⟩ := hrel
        by_cases hlt : k < len2
        · obtain ⟨ad, x, rfl, hbl, hd, hcx⟩ := (hy.below hb3 (Nat.le_refl _)).at_ (k := k) (by rw [pn_len, HL2.out]; exact hlt)
          obtain ⟨xn, rfl, hxn⟩ := pn_inv hd
          have hxl := HKS.out xn (List.mem_of_getElem? hxn)
          obtain ⟨ad2, a, t, f, rfl, hbl2, hp, hc0, hc1, hc2⟩ := RdQ.at_ (hx.below hb3 (Nat.le_refl _)) (k := xn) (by rw [HL.out]; exact hxl)
          obtain ⟨p1, p2, p3, p4⟩ := HQ.out _ (List.mem_of_getElem? hp)
          have HN := Lib.hid (⟨PvI.doP HQ.out (List.mem_of_getElem? hp) HV.out.1, HV.out.2.trans (goPt_at hxn hp)⟩ : PvI n (doP ⟨a, t, f⟩ v) ∧ _)
          have HE := Lib.hid (execute_any n g v a t f wr hown HV.out.1 p1 p2 p3 p4 h8)
          clear hd hxn hp p1 p2 p3 p4
          go_wp2_with (go_at_call 35; (with_reducible refine HE.out.mono ?_); rintro e w5 ⟨rfl, hO5, hw5⟩)
          have hb5 := hb3.trans (hw5.below hgw hb3.size)
          go_round
          case rel => exact ⟨k + 1, _, by omega, by go_num, hO5, HN, hb5⟩
          case measure => (simp [intOf]; omega)
        · have hv : goPt q ks (List.replicate n (-1)) = v := by
            rw [HV.out.2, List.drop_of_length_le (by rw [HL2.out]; omega)]
            rfl
          have HVV := Lib.hid hv
          clear hv
          go_wp2
          go_ret2
          exact ⟨_, _, rfl, by rw [HVV.out]; exact (OwnI.rd hown).more hown.lt, hb3⟩

set_option maxHeartbeats 4000000 in
theorem ptRun_bad (n : Int) (A : Option Addr) (len cap : Nat) (l : List Pz) (A2 : Option Addr) (len2 cap2 : Nat) (s : List Int) (w : World) (hx : RdPz w w.heap.size A l) (hl : l.length = len) (hm : len ≤ maxLen)
    (hy : RdI w w.heap.size A2 s) (hl2 : s.length = len2) (hm2 : len2 ≤ maxLen) (hck : ckGo n l s ≠ 0) :
    Calls Try.prog 15 #[.int .i64 n, .slice A len cap, .slice A2 len2 cap2] w fun e w' => e = .returned (.tuple #[.slice none 0 0, .int .i64 (ckGo n l s)]) ∧ Below w.heap.size w w' := by
  have HCK := Lib.hid (pzCheck_any n A len cap l w hx hl hm)
  unfold maxLen at hm hm2
  have HL2 := Lib.hid hl2
  obtain ⟨c, hc⟩ : ∃ c, ckPz n l = c := ⟨_, rfl⟩
  obtain ⟨r, hr⟩ : ∃ r, ckGo n l s = r := ⟨_, rfl⟩
  have hrr := hr
  unfold ckGo at hr
  rw [hc, hl, hl2] at hr
  rw [hrr] at hck ⊢
  rw [hc] at HCK
  clear hc hrr hx hl hl2
  by_cases h2 : len2 ≤ 200
  · rw [if_pos h2] at hr
    have g4 : ¬ (200 : Int) < (len2 : Int) := by omega
    by_cases hc0 : c = 0
    · subst hc0
      rw [if_pos rfl] at hr
      have hin : insideB len s = false := by
        cases hb : insideB len s with
        | false => rfl
        | true => rw [hb, if_pos rfl] at hr; exact absurd hr.symm hck
      rw [hin, if_neg (by simp)] at hr
      subst hr
      have HIN := Lib.hid hin
      clear hin hck
      go_enter Try.func15, Try.ntmps15
      go_wp2_with (first
        | (go_at_call 20; (with_reducible refine HCK.out.mono ?_); rintro e w0 ⟨rfl, hb0⟩)
        | (go_at_call 33; (with_reducible refine (below_any _ _).mono ?_); rintro e w1 ⟨rfl, hO, hb1⟩))
      have hb01 : Below w.heap.size w w1 := hb0.trans (hb1.mono hb0.size)
      have hc1 := hO.cell (j := 0) rfl
      have hg0 := hO.lt
      obtain ⟨g0, hg0e⟩ : ∃ g, w0.heap.size = g := ⟨_, rfl⟩
      rw [hg0e] at hc1 hg0 hO ⊢
      clear hb1 hO hg0e hb0 HCK
      go_loop [29] (fun i => ∃ k : Nat, k ≤ len2 ∧ i = .int .i64 k ∧ insideB len s = insideB len (s.drop k)) (fun i => len2 - (intOf i).toNat)
      case atStart => exact ⟨0, Nat.zero_le _, rfl, rfl⟩
      case round =>
        obtain ⟨k, hk, rfl, hr⟩ := hrel
        have HR := Lib.hid hr
        clear hr
        have hy1 := hy.below hb01 (Nat.le_refl _)
        by_cases hlt : k < len2
        · obtain ⟨ad, x, rfl, hbl, hd, hcx⟩ := hy1.at_ (k := k) (by rw [HL2.out]; exact hlt)
          have HD := Lib.hid (insideB_at (m := len) hd)
          clear hd
          by_cases hin : 0 ≤ x ∧ x < (len : Int)
          · have HN : Hid (insideB len s = insideB len (s.drop (k + 1))) := Lib.hid (by rw [HR.out, HD.out, if_neg (by omega)])
            have HT := Lib.hid (belowIn_told (decide_eq_true hin) g0 _ hc1)
            clear hin
            go_wp2_with (go_at_call 43; (with_reducible refine HT.out.mono ?_); rintro e w5 ⟨rfl, rfl⟩)
            go_round
            case rel => exact ⟨k + 1, by omega, by go_num, HN.out⟩
            case measure => (simp [intOf]; omega)
          · have HT := Lib.hid (belowIn_told (decide_eq_false hin) g0 _ hc1)
            clear hin
            go_wp2_with (go_at_call 43; (with_reducible refine HT.out.mono ?_); rintro e w5 ⟨rfl, rfl⟩)
            go_ret2
            exact ⟨rfl, hb01⟩
        · have h := HIN.out
          rw [HR.out, List.drop_of_length_le (by rw [HL2.out]; omega)] at h
          cases h
    · rw [if_neg hc0] at hr
      subst hr
      have hne : (c != 0) = true := by simp [hc0]
      clear hc0 hck
      go_enter Try.func15, Try.ntmps15
      go_wp2_with (go_at_call 20; (with_reducible refine HCK.out.mono ?_); rintro e w0 ⟨rfl, hb0⟩)
      go_ret2
      exact ⟨rfl, hb0⟩
  · rw [if_neg h2] at hr
    subst hr
    have g4 : (200 : Int) < (len2 : Int) := by omega
    go_enter Try.func15, Try.ntmps15
    go_wp2
    go_ret2
    exact ⟨rfl, Below.refl _ _⟩

end Go.Proofs.Ytfbnmgnkigfgpaa
