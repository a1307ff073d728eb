/-
  codemasonref.Pointed returns what each variable points to (V1).
-/
import Derived.Test.YtfbnmgnkigfgpaaPtRun
namespace Go.Proofs.Ytfbnmgnkigfgpaa
open Go.RowKit
set_option linter.unusedSimpArgs false
set_option linter.unusedVariables false
set_option maxRecDepth 100000

theorem rep_none {n k : Nat} (h : k < n) : (List.replicate k (-1) ++ List.replicate (n - k) (0 : Int)).set k (-1) = List.replicate (k + 1) (-1) ++ List.replicate (n - (k + 1)) 0 := by
  have e : List.replicate (n - k) (0 : Int) = 0 :: List.replicate (n - (k + 1)) 0 := by
    have : n - k = (n - (k + 1)) + 1 := by omega
    rw [this, List.replicate_succ]
  rw [e, List.set_append_right _ _ (by simp), List.length_replicate, Nat.sub_self, List.set_cons_zero, List.replicate_succ' , List.append_assoc]
  rfl

theorem doP_addr (t f : Nat) (v : List Int) : doP ⟨1, t, f⟩ v = v.set t (f : Int) := rfl

theorem doP_copy {t f : Nat} {v : List Int} {y : Int} (h : v.getD f (-1) = y) : doP ⟨2, t, f⟩ v = v.set t y := by rw [← h]; rfl

theorem doP_load0 {t f : Nat} {v : List Int} {y : Int} (h : v.getD f (-1) = y) (h0 : y < 0) : doP ⟨3, t, f⟩ v = v := by
  show (if v.getD f (-1) < 0 then v else _) = v
  rw [h, if_pos h0]

theorem doP_load {t f a : Nat} {v : List Int} {z : Int} (h : v.getD f (-1) = (a : Int)) (hz : v.getD a (-1) = z) : doP ⟨3, t, f⟩ v = v.set t z := by
  show (if v.getD f (-1) < 0 then v else v.set t (v.getD (v.getD f (-1)).toNat (-1))) = _
  rw [h, if_neg (by omega), Int.toNat_natCast, hz]

theorem doP_store0 {t f : Nat} {v : List Int} {y : Int} (h : v.getD t (-1) = y) (h0 : y < 0) : doP ⟨4, t, f⟩ v = v := by
  show (if v.getD t (-1) < 0 then v else _) = v
  rw [h, if_pos h0]

theorem doP_store {t f a : Nat} {v : List Int} {z : Int} (h : v.getD t (-1) = (a : Int)) (hz : v.getD f (-1) = z) : doP ⟨4, t, f⟩ v = v.set a z := by
  show (if v.getD t (-1) < 0 then v else v.set (v.getD t (-1)).toNat (v.getD f (-1))) = _
  rw [h, if_neg (by omega), Int.toNat_natCast, hz]

set_option maxHeartbeats 8000000 in
theorem pointed_any (n : Nat) (A : Option Addr) (len cap : Nat) (q : List Qt) (A2 : Option Addr) (len2 cap2 : Nat) (ks : List Nat) (w : World) (hx : RdPz w w.heap.size A (qI q)) (hl : q.length = len) (hq : QOk n q) (h1 : 1 ≤ n) (h8 : n ≤ 8) (hl12 : len ≤ 12)
    (hy : RdI w w.heap.size A2 (ni ks)) (hl2 : ks.length = len2) (hs : len2 ≤ 200) (hks : ∀ x ∈ ks, x < len) :
    Calls Try.prog 17 #[.int .i64 n, .slice A len cap, .slice A2 len2 cap2] w fun e w' => ∃ A' c', e = .returned (.slice A' n c') ∧ RdI w' w'.heap.size A' (goPt q ks (List.replicate n (-1))) ∧ Below w.heap.size w w' := by
  have HL := Lib.hid hl
  have HL2 := Lib.hid hl2
  have HKS := Lib.hid hks
  have HQ := Lib.hid hq
  have HK := make_ints (P := Try.prog) 31 3 Try.underlying31 (by kernel_rfl) n (by omega)
  clear hl hl2 hks hq
  go_enter Try.func17, Try.ntmps17
  go_upto_region 2 with fail
  obtain ⟨wo, hwo⟩ : ∃ wo, wo = w.alloc (.cells (iv (List.replicate n 0)).toArray 3) := ⟨_, rfl⟩
  have hO : Own wo w.heap.size 3 (iv (List.replicate 0 (-1) ++ List.replicate (n - 0) 0)) := by rw [hwo]; exact Own.new w 3 (iv (List.replicate n 0))
  have hbo : Below w.heap.size w wo := by rw [hwo]; go_grown
  rw [← hwo]
  clear hwo HK
  obtain ⟨g, hg⟩ : ∃ g, w.heap.size = g := ⟨_, rfl⟩
  have HG : Hid (w.heap.size = g) := Lib.hid hg
  rw [hg] at hO hbo ⊢
  clear hg
  go_wp2
  go_loopw [8] (fun i wr => ∃ k : Nat, k ≤ n ∧ i = .int .i64 k ∧ Own wr g 3 (iv (List.replicate k (-1) ++ List.replicate (n - k) 0)) ∧ Below g w wr) (fun i _ => n - (intOf i).toNat)
  case atStart => exact ⟨0, Nat.zero_le _, rfl, hO, hbo⟩
  case round =>
    obtain ⟨k, hk, rfl, hown, hb⟩ := hrel
    by_cases hlt : k < n
    · have h3 := OwnI.set hown k (-1)
      rw [rep_none hlt] at h3
      have H3 := Lib.hid h3
      have hc := hown.cell (j := k) (v := .int .i64 0) (by
        refine iv_at ?_
        rw [List.getElem?_append_right (by simp), List.length_replicate, Nat.sub_self]
        have : n - k = (n - (k + 1)) + 1 := by omega
        rw [this, List.replicate_succ]
        rfl)
      have hf := hown.frozen k
      have hbs : Below g w (wr.setCell ⟨g, k, none⟩ (.int .i64 (-1))) := hb.setCell (Nat.le_refl _) _
      clear h3 hown
      go_wp2
      go_round
      case rel => exact ⟨k + 1, by omega, by go_num, H3.out, hbs⟩
      case measure => (simp [intOf]; omega)
    · have hk2 : k = n := by omega
      subst hk2
      have hown2 : Own wr g 3 (iv (List.replicate k (-1))) := by simpa using hown
      obtain ⟨w1, rfl⟩ : ∃ w1 : World, w1 = wr := ⟨_, rfl⟩
      clear hown
      go_wp2
      go_loopw [24] (fun i wr => ∃ (j : Nat) (v : List Int), j ≤ len2 ∧ i = .int .i64 j ∧ Own wr g 3 (iv v) ∧ Hid (PvI k v ∧ goPt q ks (List.replicate k (-1)) = goPt q (ks.drop j) v) ∧ Below g w wr) (fun i _ => len2 - (intOf i).toNat)
      case atStart => exact ⟨0, _, Nat.zero_le _, rfl, hown2, Lib.hid ⟨PvI.start k, rfl⟩, hb⟩
      case round =>
        obtain ⟨j, v, hj, rfl, hown, HV, hb3⟩ := hrel
        have hgs := hown.lt
        have hsz3 := hb3.size
        by_cases hlt : j < len2
        · obtain ⟨ad, x, rfl, hbl, hd, hcx⟩ := (hy.below (hb3.mono (Nat.le_of_eq HG.out)) (Nat.le_refl _)).at_ (k := j) (by rw [pn_len, HL2.out]; exact hlt)
          obtain ⟨xn, rfl, hxn⟩ := pn_inv hd
          have hxl := HKS.out xn (List.mem_of_getElem? hxn)
          obtain ⟨ad2, a, t, f, rfl, hbl2, hp, hc0, hc1, hc2⟩ := RdQ.at_ (hx.below (hb3.mono (Nat.le_of_eq HG.out)) (Nat.le_refl _)) (k := xn) (by rw [HL.out]; exact hxl)
          obtain ⟨p1, p2, p3, p4⟩ := HQ.out _ (List.mem_of_getElem? hp)
          have HN := Lib.hid (⟨PvI.doP HQ.out (List.mem_of_getElem? hp) HV.out.1, HV.out.2.trans (goPt_at hxn hp)⟩ : PvI k (doP ⟨a, t, f⟩ v) ∧ _)
          simp only at p1 p2 p3 p4
          obtain ⟨x, hx', hxd, hx1, hx2⟩ := HV.out.1.at_ p3
          obtain ⟨y, hy', hyd, hy1, hy2⟩ := HV.out.1.at_ p4
          have hct := hown.cell (iv_at hx')
          have hcf := hown.cell (iv_at hy')
          have hft := hown.frozen t
          have HXD := Lib.hid hxd
          have HYD := Lib.hid hyd
          have hka : a = 1 ∨ a = 2 ∨ a = 3 ∨ a = 4 := by omega
          have hbd : ∀ (i : Nat) (u : Value) (o : Obj), Below g w ((wr.setCell ⟨g, i, none⟩ u).alloc o) := fun i u o => hb3.trans ((wrote_set o).below (Nat.le_refl _) (Nat.le_of_lt hgs))
          have HBD := Lib.hid hbd
          clear hd hxn hp p1 p2 hx' hy' hxd hyd hbd
          rcases hka with rfl | rfl | rfl | rfl
          · have H := Lib.hid (OwnI.set hown t (f : Int))
            clear hown
            go_wp2
            go_round
            case rel => exact ⟨j + 1, _, by omega, by go_num, by rw [doP_addr]; exact H.out.alloc _, HN, HBD.out _ _ _⟩
            case measure => (simp [intOf]; omega)
          · have H := Lib.hid (OwnI.set hown t y)
            clear hown
            go_wp2
            go_region
            all_goals
              go_wp2
              go_round
              case rel => exact ⟨j + 1, _, by omega, by go_num, by rw [doP_copy HYD.out]; exact H.out.alloc _, HN, (HBD.out _ _ _).drew⟩
              case measure => (simp [intOf]; omega)
          · by_cases hy0 : y < 0
            · have H := Lib.hid hown
              have HY := Lib.hid (doP_load0 (t := t) HYD.out hy0)
              have hge : ¬ 0 ≤ y := by omega
              clear hown
              go_wp2
              go_round
              case rel => exact ⟨j + 1, _, by omega, by go_num, by rw [HY.out]; exact H.out.alloc _, HN, hb3.trans (by go_grown)⟩
              case measure => (simp [intOf]; omega)
            · obtain ⟨b, rfl⟩ := Int.eq_ofNat_of_zero_le (by omega : 0 ≤ y)
              have hb' : b < k := by omega
              obtain ⟨z, hz, hzd, hz1, hz2⟩ := HV.out.1.at_ hb'
              have hca := hown.cell (iv_at hz)
              have H := Lib.hid (OwnI.set hown t z)
              have HY := Lib.hid (doP_load (t := t) HYD.out hzd)
              have hge : (0 : Int) ≤ (b : Int) := by omega
              clear hown hz hzd hy0
              go_wp2
              go_region
              all_goals
                go_wp2
                go_round
                case rel => exact ⟨j + 1, _, by omega, by go_num, by rw [HY.out]; exact H.out.alloc _, HN, (HBD.out _ _ _).drew⟩
                case measure => (simp [intOf]; omega)
          · by_cases hy0 : x < 0
            · have H := Lib.hid hown
              have HY := Lib.hid (doP_store0 (f := f) HXD.out hy0)
              have hge : ¬ 0 ≤ x := by omega
              clear hown
              go_wp2
              go_round
              case rel => exact ⟨j + 1, _, by omega, by go_num, by rw [HY.out]; exact H.out.alloc _, HN, hb3.trans (by go_grown)⟩
              case measure => (simp [intOf]; omega)
            · obtain ⟨b, rfl⟩ := Int.eq_ofNat_of_zero_le (by omega : 0 ≤ x)
              have hb' : b < k := by omega
              obtain ⟨z, hz, hzd, hz1, hz2⟩ := HV.out.1.at_ hb'
              have hca := hown.cell (iv_at hz)
              have hfa := hown.frozen b
              have H := Lib.hid (OwnI.set hown b y)
              have HY := Lib.hid (doP_store HXD.out HYD.out)
              have hge : (0 : Int) ≤ (b : Int) := by omega
              clear hown hz hzd hy0
              go_wp2
              go_region
              all_goals
                go_wp2
                go_round
                case rel => exact ⟨j + 1, _, by omega, by go_num, by rw [HY.out]; exact H.out.alloc _, HN, (HBD.out _ _ _).drew⟩
                case measure => (simp [intOf]; omega)
        · have hv : goPt q ks (List.replicate k (-1)) = v := by
            rw [HV.out.2, List.drop_of_length_le (by rw [HL2.out]; omega)]
            rfl
          have HVV := Lib.hid hv
          clear hv
          go_wp2
          go_ret
          exact ⟨_, _, rfl, by rw [HVV.out]; exact (OwnI.rd hown).more hown.lt, by rw [HG.out]; exact hb3⟩

end Go.Proofs.Ytfbnmgnkigfgpaa
