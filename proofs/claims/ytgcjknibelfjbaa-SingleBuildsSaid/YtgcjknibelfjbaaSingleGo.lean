/-
  codemasonref.SingleRun (M1).
-/
import Derived.Test.YtgcjknibelfjbaaSingleFrom
import Derived.Test.YtgcjknibelfjbaaSingleCk
import Derived.Test.YtgcjknibelfjbaaBlockDo
import Derived.Test.YtgcjknibelfjbaaPureSnRun
import Derived.Deep.RegionWith
namespace Go.Proofs.Ytgcjknibelfjbaa
open Go.RowKit
set_option linter.unusedSimpArgs false
set_option linter.unusedVariables false
set_option maxRecDepth 100000

theorem jnsS_drop {v : List Int} {last : Int} {srcs : List Int} {js : List Jn} {k : Nat} {j : Jn} {w : List Int} (h : js[k]? = some j) : jnsS v last srcs (js.drop k) w = jnsS v last srcs (js.drop (k + 1)) (jnS v last j.to.toNat srcs j.fr w) := by
  rw [drop_at h]
  rfl

theorem jnS_drop {v : List Int} {last : Int} {to : Nat} {srcs fr : List Int} {k : Nat} {f x : Int} {w : List Int} (h : srcs[k]? = some f) (h2 : fr[k]? = some x) :
    jnS v last to (srcs.drop k) (fr.drop k) w = jnS v last to (srcs.drop (k + 1)) (fr.drop (k + 1)) (if f = last then w.set to (v.getD x.toNat 0) else w) := by
  rw [drop_at h, drop_at h2]
  rfl

theorem jnS_over {v : List Int} {last : Int} {to : Nat} {srcs fr : List Int} {k : Nat} {w : List Int} (h : srcs.length ≤ k) : jnS v last to (srcs.drop k) (fr.drop k) w = w := by
  rw [List.drop_of_length_le h]
  unfold jnS
  rfl

theorem jnsS_over {v : List Int} {last : Int} {srcs : List Int} {js : List Jn} {k : Nat} {w : List Int} (h : js.length ≤ k) : jnsS v last srcs (js.drop k) w = w := by
  rw [List.drop_of_length_le h]
  rfl

/-- what a run answers: M1 -/
def RunsR (r : Option (List Int)) (e : Ending) (w' : World) : Prop :=
  (r = none ∧ e = .returned (.tuple #[.slice none 0 0, .bool false])) ∨ ∃ (x : List Int) (A : Option Addr) (c : Nat), r = some x ∧ e = .returned (.tuple #[.slice A x.length c, .bool true]) ∧ RdI w' w'.heap.size A x

theorem vals_at {n : Nat} {v : List Int} (h : ValsOk n v) {k : Nat} {x : Int} (hk : v[k]? = some x) : v.getD k 0 = x ∧ 0 ≤ x ∧ x ≤ 255 := ⟨by rw [List.getD_eq_getElem?_getD, hk]; rfl, h.2 k x hk⟩

/-- the first names so far -/
def beginK (hv : List Int) (k : Nat) : List Int := hv.take k ++ List.replicate (128 - k) 0

theorem beginK_set {hv : List Int} {k : Nat} {x : Int} (h : hv[k]? = some x) (hk : k < 128) : beginK hv (k + 1) = (beginK hv k).set k x := by
  have hl := (List.getElem?_eq_some_iff.1 h).1
  unfold beginK
  rw [List.take_add_one, h, Option.toList_some, show 128 - k = (128 - (k + 1)) + 1 by omega, List.replicate_succ, List.set_append, if_neg (by rw [List.length_take]; omega)]
  simp [List.length_take, Nat.min_eq_left (Nat.le_of_lt hl)]

theorem beginK_len {hv : List Int} {k : Nat} (h : k ≤ hv.length) (hk : k ≤ 128) : (beginK hv k).length = 128 := by
  unfold beginK
  rw [List.length_append, List.length_take, List.length_replicate]
  omega

set_option maxHeartbeats 16000000 in
theorem singleRun_any (n : Nat) (A HA : Option Addr) (len cap hcap : Nat) (l : List Sg) (hv : List Int) (w0 : World) (hx0 : RdN w0 w0.heap.size A l) (hh0 : RdI w0 w0.heap.size HA hv) (hl : l.length = len) (hc : ckSingle n l = 0) (hok : ValsOk n hv) :
    Calls Try.prog 12 #[.int .i64 n, .slice A len cap, .slice HA n hcap] w0 fun e w' => RunsR (runN l 200 0 (-1) (beginS hv)) e w' ∧ Below w0.heap.size w0 w' := by
  obtain ⟨b1, b2, b3, b4, b5, b6, b7, b8⟩ := ckSingle_bd hc
  have HC := Lib.hid hc
  have HL := Lib.hid hl
  have HMC := Lib.hid b5
  have HMJ := Lib.hid b6
  have HWAY : Hid (ckWay (nxP (bareP l)) = 0) := Lib.hid (bareP_way (vars := n) b3 b4 b7)
  have HNL : Hid ((nxP (bareP l)).length = len) := Lib.hid (by rw [← hl]; simp [bareP, nxP])
  have HBL : Hid ((bareP l).length = len) := Lib.hid (by rw [← hl]; simp [bareP])
  rw [hl] at b3 b4
  have hn1 : 1 ≤ n := by omega
  have hn6 : n ≤ 6 := by omega
  have HHL : Hid (hv.length = n) := Lib.hid hok.1
  have HBO : Hid (ValsOk 128 (beginS hv)) := Lib.hid (beginS_ok hok (by omega))
  have hmk := make_ints (P := Try.prog) 26 3 Try.underlying26 (by kernel_rfl) 128 (by omega)
  have HKS := Lib.hid (fun (k : Nat) (x : Int) (h : hv[k]? = some x) (hk : k < 128) => beginK_set h hk)
  have HKL := Lib.hid (fun (k : Nat) (h : k ≤ hv.length) (hk : k ≤ 128) => beginK_len h hk)
  have HKN : Hid (beginK hv n = beginS hv) := Lib.hid (by unfold beginK beginS; rw [← hok.1, List.take_length])
  obtain ⟨Z0, hZ0⟩ : ∃ Z0, iv (List.replicate 128 0) = Z0 := ⟨_, rfl⟩
  have HZ0 : Hid (Z0 = iv (beginK hv 0)) := Lib.hid (by rw [← hZ0]; rfl)
  rw [hZ0] at hmk
  obtain ⟨R, hR⟩ : ∃ R, runN l 200 0 (-1) (beginS hv) = R := ⟨_, rfl⟩
  have HRR := Lib.hid hR
  rw [hR]
  have h128 : ((128 : Nat) : Int) = 128 := rfl
  rw [h128] at hmk
  clear hc hl hok b1 b2 b5 b6 b7 b8 hR h128 hZ0
  go_enter Try.func12, Try.ntmps12
  go_wp2_with fail
  refine (bare_any A len cap l _ hx0 HL.out b4).mono ?_
  rintro e w3 ⟨A3, c3, rfl, hp3, hb3⟩
  go_wp2_with fail
  refine (refNexts_any A3 len c3 (bareP l) w3 hp3 HBL.out b4).mono ?_
  rintro e w4 ⟨A4, c4, rfl, hg4, hb4⟩
  go_wp2_with fail
  refine (froms_any A4 len c4 (nxP (bareP l)) w4 hg4 HNL.out HWAY.out b3 b4).mono ?_
  rintro e w5 ⟨A5, c5, rfl, hg5, hb5⟩
  have hg5' : RdG w5 w5.heap.size A5 (frP l) := hg5
  have hbw5 : Below w0.heap.size w0 w5 := hb3.trans ((hb4.trans (hb5.mono hb4.size)).mono hb3.size)
  have HG5 := Lib.hid hg5'
  have HFL : Hid ((frP l).length = len) := Lib.hid (by rw [frP_len, HL.out])
  have hsz5 := hbw5.size
  clear hg5 hg5' hg4 hp3 hb3 hb4 hb5
  go_wp2
  have hown0 : Own (w5.alloc (.cells Z0.toArray 3)) w5.heap.size 3 (iv (beginK hv 0)) := by rw [← HZ0.out]; exact Own.new w5 _ _
  have HOWN0 := Lib.hid hown0
  clear hown0 hmk
  go_loopw [10] (fun z wr => ∃ k : Nat, k ≤ n ∧ z = .int .i64 k ∧ Own wr w5.heap.size 3 (iv (beginK hv k)) ∧ Below w5.heap.size w5 wr) (fun z _ => n - (intOf z).toNat)
  case atStart => exact ⟨0, Nat.zero_le _, rfl, HOWN0.out, by go_grown⟩
  case round =>
    obtain ⟨k, hk, rfl, hown, hb⟩ := hrel
    have hsz := hb.size
    have hgl := hown.lt
    have HOWN := Lib.hid hown
    by_cases hlt : k < n
    · obtain ⟨ad, x, rfl, hbl, hd, hcell⟩ := ((hh0.below hbw5 (Nat.le_refl _)).below hb hsz5).at_ (k := k) (by rw [HHL.out]; exact hlt)
      have HSET := Lib.hid (HKS.out k x hd (by omega))
      have hkl : k < (beginK hv k).length := by rw [HKL.out k (by rw [HHL.out]; omega) (by omega)]; omega
      have q0 := hown.cell (iv_at (List.getElem?_eq_getElem hkl))
      have f0 := hown.frozen k
      generalize (beginK hv k)[k] = y at *
      clear hd hkl hown
      go_wp2
      go_round
      case rel => exact ⟨k + 1, by omega, by go_num, by rw [HSET.out, ← iv_set]; exact HOWN.out.set k _, hb.setCell (Nat.le_refl _) _⟩
      case measure => (simp [intOf]; omega)
    · have hrd : RdI wr wr.heap.size (some ⟨w5.heap.size, 0, none⟩) (beginS hv) := by
        rw [← HKN.out, show n = k by omega]
        exact (OwnI.rd hown).more hgl
      have HRD := Lib.hid hrd
      have hf0 : ∃ row, (frP l)[0]? = some row := ⟨_, List.getElem?_eq_getElem (by rw [HFL.out]; omega)⟩
      have HG6 := Lib.hid ((HG5.out.below hb (Nat.le_refl _)).more hb.size)
      have hbw6 : Below w0.heap.size w0 wr := hbw5.trans (hb.mono hsz5)
      obtain ⟨w6, rfl⟩ : ∃ w6 : World, w6 = wr := ⟨_, rfl⟩
      have hsz6 := hbw6.size
      clear hrd hown HOWN HOWN0 HG5 hb hsz hgl
      go_wp2
      go_loopw [9, 11, 12, 13] (fun s9 s11 s12 z wr => ∃ (k i : Nat) (frm : Int) (v : List Int) (VA : Option Addr) (vc : Nat), k ≤ 200 ∧ z = .int .i64 k ∧ s12 = .int .i64 frm ∧ s11 = .int .i64 i ∧ s9 = .slice VA 128 vc ∧ i < len ∧ ValsOk 128 v ∧ R = runN l (200 - k) i frm v ∧ RdI wr wr.heap.size VA v ∧ Below w6.heap.size w6 wr) (fun _ _ _ z _ => 200 - (intOf z).toNat)
      case atStart => exact ⟨0, 0, -1, beginS hv, _, 128, by omega, rfl, rfl, rfl, rfl, by omega, HBO.out, HRR.out.symm, HRD.out, Below.refl _ _⟩
      case round =>
        obtain ⟨k, i, frm, v, VA, vc, hk, rfl, rfl, rfl, rfl, hi, hvo, hR, hva, hb⟩ := hrel
        have HVO := Lib.hid hvo
        have HR := Lib.hid hR
        have HVA := Lib.hid hva
        have hsz := hb.size
        have hbw := hbw6.trans (hb.mono hsz6)
        clear hvo hR
        by_cases hlt : k < 200
        · obtain ⟨ad2, ⟨js, co, te, th, el, la⟩, Aj, cj, Ac, cc, Al, cl, rfl, hbl, hd, hrj, hrc, hrl, e0, e1, e2, e3, e4, e5⟩ := (hx0.below hbw (Nat.le_refl _)).at_ (k := i) (by rw [HL.out]; exact hi)
          obtain ⟨af, row, Ar, cr, rfl, hblf, hdf, hcf, hrr⟩ := (HG6.out.below hb (Nat.le_refl _)).at_ (k := i) (by rw [HFL.out]; exact hi)
          have hsg := ckSingle_at HC.out hd hdf
          have hstep := runN_step (f := 199 - k) (last := frm) (v := v) hd hdf
          rw [show 199 - k + 1 = 200 - k by omega] at hstep
          have HSTEP := Lib.hid hstep
          have hm1 := manyC_le hd
          have hm2 := manyJ_le hd
          have hmc := HMC.out
          have hmj := HMJ.out
          obtain ⟨J1, hJ1⟩ : ∃ J1, jnsS v frm row js v = J1 := ⟨_, rfl⟩
          have HJ1 := Lib.hid hJ1
          simp only [] at e0 e1 e2 e3 e4 e5 hrj hrc hrl hm1 hm2
          simp only [hJ1] at HSTEP
          have hgl := goB_lt hsg.bare (doS co J1)
          have HLA := Lib.hid hsg.last
          have HLL := Lib.hid hsg.len
          have htest := hsg.test
          have HJN := Lib.hid hsg.joins
          have HCO := Lib.hid (ckStNs_steps hsg.code)
          have hsgel := hsg.el
          have hsgth := hsg.th
          simp only [] at HLA HLL htest HJN HCO hgl hsgel hsgth
          rw [HL.out] at hsgel hsgth
          obtain ⟨ns, hns⟩ : ∃ ns, row.length = ns := ⟨_, rfl⟩
          obtain ⟨m1, hm1e⟩ : ∃ m, co.length = m := ⟨_, rfl⟩
          obtain ⟨m2, hm2e⟩ : ∃ m, js.length = m := ⟨_, rfl⟩
          have HNS := Lib.hid hns
          have HM1 := Lib.hid hm1e
          have HM2 := Lib.hid hm2e
          rw [hm1e] at e1 hm1
          rw [hm2e] at e0 hm2
          rw [HLL.out] at e5
          rw [hns] at hcf HJN
          have hns9 : ns ≤ 9 := by rw [← hns]; have := frP_row hdf; have := HL.out; omega
          have HL1 : Hid ((iv v).length = 128 * 1) := Lib.hid (by rw [iv, List.length_map, HVO.out.1])
          have HN1 : Hid (VA = none → 128 = 0) := Lib.hid fun h => by have := hva.nil h; rw [HVO.out.1] at this; exact this
          have HNW : Hid (∀ Z : World, Below wr.heap.size wr Z → ∀ ad, VA = some ad → ∀ j u, (iv v)[j]? = some u → Z.cell? (ad.add j) = some u) := Lib.hid fun Z hZ => (HVA.out.below hZ (Nat.le_refl _)).news
          have HRJ := Lib.hid hrj
          have HRC := Lib.hid hrc
          have HRL := Lib.hid hrl
          have HRR2 := Lib.hid hrr
          have ha_ : 0 + 128 ≤ maxLen := by unfold maxLen; omega
          have hb_ : (0 + 128) * 8 ≤ 140737488355328 := by omega
          have hblr : (ad2.add (i * 6)).block < wr.heap.size := by omega
          have hblfr : (af.add i).block < wr.heap.size := by omega
          obtain ⟨wo, rfl⟩ : ∃ wo : World, wo = wr := ⟨_, rfl⟩
          clear hd hdf hsg hstep hns hm1e hm2e hrj hrc hrl hrr hJ1 hva
          go_wp2_with (at_builtin; refine wpList_app rfl (.tmp 43) (.tmp 44) 26 rfl wo.heap.size 3 1 8 int_app [] rfl (own_empty_at _ _ _ _ (by simp) (by simp)) (iv v) rfl HL1.out HN1.out (HNW.out _ (by go_grown)) (iv_one _) ha_ hb_ (by simp) ?_; intro A1 c1 w1 hown1 hg1 hb1; rw [Nat.zero_add, List.nil_append] at hown1; have hbx1 : Below wo.heap.size wo w1 := (by go_grown : Below wo.heap.size wo _).trans hb1; have q0 := (hbx1.cell hblr).trans e0; clear hg1 hb1)
          obtain ⟨g, rfl, hg0, hg1⟩ := own_form hown1 (by omega)
          have hgw0 := hg0
          clear q0
          have HT0 : Hid (J1 = jnsS v frm row (js.drop 0) v) := Lib.hid HJ1.out.symm
          go_loopw [52] (fun z wr => ∃ (c : Nat) (r : List Int), c ≤ m2 ∧ z = .int .i64 c ∧ ValsOk 128 r ∧ J1 = jnsS v frm row (js.drop c) r ∧ wr.ownsRow wo.heap.size 3 1 (.slice (some ⟨g, 0, none⟩) 128 c1) 128 (iv r) ∧ Below wo.heap.size wo wr) (fun z _ => m2 - (intOf z).toNat)
          case atStart => exact ⟨0, v, Nat.zero_le _, rfl, HVO.out, HT0.out, hown1, hbx1⟩
          case round =>
            obtain ⟨c, r, hcm, rfl, hro, hrj, hrv, hbc⟩ := hrel
            have HRO := Lib.hid hro
            have HRJ1 := Lib.hid hrj
            have HRV := Lib.hid hrv
            have hszc := hbc.size
            clear hro hrj hbx1 hown1
            by_cases hct : c < m2
            · obtain ⟨ad3, ⟨to, fr⟩, Af, cf, rfl, hbl3, hd3, hrf, d0, d1, _⟩ := (HRJ.out.below (hbc.mono (by omega)) (Nat.le_refl _)).at_ (k := c) (by rw [HM2.out]; exact hct)
              have HDJ := Lib.hid (fun (w : List Int) => jnsS_drop (v := v) (last := frm) (srcs := row) (w := w) hd3)
              have hjo := ckJn_ok (HJN.out _ (List.mem_of_getElem? hd3))
              simp only [] at d0 d1 hrf hjo
              obtain ⟨hfl, hto, hfo⟩ := hjo
              obtain ⟨tn, rfl⟩ := Int.eq_ofNat_of_zero_le hto.1
              have htn : tn < 128 := by omega
              have hfl' : fr.length = ns := hfl
              rw [hfl'] at d1
              have HFR := Lib.hid hfl'
              have HFO := Lib.hid hfo
              have HRF := Lib.hid hrf
              have s5 := (hbc.cell hblfr).trans hcf
              have hbl3r : (ad3.add (c * 2)).block < wr.heap.size := by omega
              have hblfr2 : (af.add i).block < wr.heap.size := by omega
              obtain ⟨wc, rfl⟩ : ∃ wc : World, wc = wr := ⟨_, rfl⟩
              have HT1 : Hid (jnS v frm tn row fr r = jnS v frm tn (row.drop 0) (fr.drop 0) r) := Lib.hid rfl
              have hgwc : g < wc.heap.size := (hrv.lt g rfl).2
              have hbx := Own.new wc 59 [.int .i64 tn, .slice Af ns cf]
              have HBX := Lib.hid hbx
              clear hd3 hfl hfl' hfo hrf hrv hbx
              go_wp2
              go_loopw [61] (fun z wr => ∃ (p : Nat) (q : List Int), p ≤ ns ∧ z = .int .i64 p ∧ ValsOk 128 q ∧ jnS v frm tn row fr r = jnS v frm tn (row.drop p) (fr.drop p) q ∧ wr.ownsRow wo.heap.size 3 1 (.slice (some ⟨g, 0, none⟩) 128 c1) 128 (iv q) ∧ Own wr wc.heap.size 59 [.int .i64 tn, .slice Af ns cf] ∧ Below wo.heap.size wc wr) (fun z _ => ns - (intOf z).toNat)
              case atStart => exact ⟨0, r, Nat.zero_le _, rfl, HRO.out, HT1.out, own_below HRV.out (by go_grown), HBX.out, by go_grown⟩
              case round =>
                obtain ⟨p, q, hp, rfl, hqo, hqj, hqv, hbx, hbp⟩ := hrel
                have HQO := Lib.hid hqo
                have HQJ := Lib.hid hqj
                have HQV := Lib.hid hqv
                have hszp := hbp.size
                clear hqo hqj
                by_cases hpt : p < ns
                · have hbop : Below wo.heap.size wo wr := hbc.trans hbp
                  obtain ⟨ad4, f, rfl, hbl4, hd4, hc4⟩ := (HRR2.out.below (hbop.mono hsz) (Nat.le_refl _)).at_ (k := p) (by rw [HNS.out]; exact hpt)
                  obtain ⟨ad6, x, rfl, hbl6, hd6, hc6⟩ := (HRF.out.below (hbp.mono (by omega)) (Nat.le_refl _)).at_ (k := p) (by rw [HFR.out]; exact hpt)
                  have hx := nmsOk_at HFO.out (List.mem_of_getElem? hd6)
                  have HDQ := Lib.hid (jnS_drop (v := v) (last := frm) (to := tn) (w := q) hd4 hd6)
                  have hb4r : (ad4.add p).block < wr.heap.size := by have := hbop.size; omega
                  have hb6r : (ad6.add p).block < wr.heap.size := by have := hbop.size; omega
                  have hgr : g < wr.heap.size := (hqv.lt g rfl).2
                  have hwcr := hbx.lt
                  have j0 := hbx.cell (j := 0) rfl
                  have j1 := hbx.cell (j := 1) rfl
                  clear hd4 hd6
                  by_cases hfe : f = frm
                  · have e9 : (f == frm) = true := by simp [hfe]
                    have HDE : Hid (jnS v frm tn row fr r = jnS v frm tn (row.drop (p + 1)) (fr.drop (p + 1)) (q.set tn (v.getD x.toNat 0))) := Lib.hid (by rw [HQJ.out, HDQ.out, if_pos hfe])
                    obtain ⟨xn, rfl⟩ := Int.eq_ofNat_of_zero_le hx.1
                    have hxn : xn < 128 := by omega
                    obtain ⟨ad7, y, rfl, hbl7, hd7, hc7⟩ := (HVA.out.below hbop (Nat.le_refl _)).at_ (k := xn) (by rw [HVO.out.1]; exact hxn)
                    obtain ⟨hyv, hyb⟩ := vals_at HVO.out hd7
                    rw [Int.toNat_natCast, hyv] at HDE
                    have hb7r : (ad7.add xn).block < wr.heap.size := by have := hbop.size; omega
                    have hqtl : tn < q.length := by rw [HQO.out.1]; exact htn
                    have hct := (hqv.cellAt tn (by omega)).trans (iv_at (List.getElem?_eq_getElem hqtl))
                    have hfz := hqv.frozenAt tn
                    have HYB := Lib.hid hyb
                    have HBX3 := Lib.hid hbx
                    have hxi : (xn : Int) < ((128 : Nat) : Int) := by omega
                    have hxj : (xn : Int) < 128 := by omega
                    have htj : (tn : Int) < 128 := by omega
                    generalize q[tn] = qt at *
                    clear hfe hd7 hyv hyb hqv hx hbx HDQ
                    go_wp2
                    (refine still_tail 12 (by kernel_rfl) (by kernel_rfl) ?_; simp only [List.take_succ_cons, List.take_zero, List.drop_succ_cons, List.drop_zero]; repeat still_step)
                    ((repeat still_step); refine wpStill_nil ?_)
                    go_wp2
                    have hY1 := (HQV.out.stored tn (.int .i64 y)).1
                    rw [iv_set] at hY1
                    have HY1 := Lib.hid hY1
                    have HY2 := Lib.hid (HBX3.out.far (p := ⟨g, tn, none⟩) (show wc.heap.size ≠ g by omega) (.int .i64 y))
                    clear hY1
                    go_round
                    case rel => exact ⟨p + 1, q.set tn y, by omega, by go_num, HQO.out.set HYB.out, HDE.out, HY1.out, HY2.out, (hbp.setCell (p := ⟨g, tn, none⟩) hgw0 _).drew⟩
                    case measure => (simp [intOf]; omega)
                  · have e9 : (f == frm) = false := by simp [hfe]
                    have HDE : Hid (jnS v frm tn row fr r = jnS v frm tn (row.drop (p + 1)) (fr.drop (p + 1)) q) := Lib.hid (by rw [HQJ.out, HDQ.out, if_neg hfe])
                    have HBX2 := Lib.hid hbx
                    clear hfe hqv hbx HDQ
                    go_wp2
                    go_round
                    case rel => exact ⟨p + 1, q, by omega, by go_num, HQO.out, HDE.out, HQV.out, HBX2.out, hbp⟩
                    case measure => (simp [intOf]; omega)
                · have hov : jnS v frm tn row fr r = q := by rw [HQJ.out]; exact jnS_over (by rw [HNS.out]; omega)
                  have HNX : Hid (J1 = jnsS v frm row (js.drop (c + 1)) q) := Lib.hid (by rw [HRJ1.out, HDJ.out]; simp only [Int.toNat_natCast]; rw [hov])
                  clear hov hqv hbx
                  go_wp2
                  go_round
                  case rel => exact ⟨c + 1, q, by omega, by go_num, HQO.out, HNX.out, HQV.out, hbc.trans hbp⟩
                  case measure => (simp [intOf]; omega)
            · have hJr : J1 = r := by rw [HRJ1.out]; exact jnsS_over (by rw [HM2.out]; omega)
              obtain ⟨X, hX⟩ : ∃ X, doS co J1 = X := ⟨_, rfl⟩
              have HX := Lib.hid hX
              have hxo : ValsOk 128 X := by rw [← hX]; exact doS_ok HCO.out (by rw [hJr]; exact HRO.out)
              have HXO := Lib.hid hxo
              rw [hX] at HSTEP hgl
              have hrv' := own_rdI hrv HRO.out.1
              have HDO := Lib.hid (refDoing_any 128 Ac (some ⟨g, 0, none⟩) m1 cc c1 co r wr ((RdS.below HRC.out (hbc.mono (by omega)) (Nat.le_refl _)).more (by omega)) hrv' HM1.out (by omega) HCO.out HRO.out (by omega) (by omega))
              rw [← hJr, hX] at HDO
              have hq0 := (hbc.cell hblr).trans e0
              have hq1 := (hbc.cell (p := ⟨(ad2.add (i * 6)).block, (ad2.add (i * 6)).off + 1, none⟩) hblr).trans e1
              have hblr2 : (ad2.add (i * 6)).block < wr.heap.size := by omega
              clear hJr hX hxo hrv hrv'
              go_wp2_with fail
              refine HDO.out.mono ?_
              rintro e w8 ⟨g8, c8, rfl, hown8, hb8⟩
              have hbo8 : Below wo.heap.size wo w8 := hbc.trans (hb8.mono hszc)
              have q2 := (hbo8.cell (p := ⟨(ad2.add (i * 6)).block, (ad2.add (i * 6)).off + 2, none⟩) hblr).trans e2
              have q3 := (hbo8.cell (p := ⟨(ad2.add (i * 6)).block, (ad2.add (i * 6)).off + 3, none⟩) hblr).trans e3
              have q4 := (hbo8.cell (p := ⟨(ad2.add (i * 6)).block, (ad2.add (i * 6)).off + 4, none⟩) hblr).trans e4
              have q5 := (hbo8.cell (p := ⟨(ad2.add (i * 6)).block, (ad2.add (i * 6)).off + 5, none⟩) hblr).trans e5
              have hbl8 : (ad2.add (i * 6)).block < w8.heap.size := by have := hb8.size; omega
              have HV8 := Lib.hid (own_rdI hown8 HXO.out.1)
              have hb68 : Below w6.heap.size w6 w8 := hb.trans (hbo8.mono hsz)
              have hb08 : Below w0.heap.size w0 w8 := hbw.trans (hbo8.mono (by omega))
              have hs08 := hb08.size
              clear hown8 hq0 hq1
              have hrnd : ∀ j : Nat, goB (bareS ⟨js, co, te, th, el, la⟩) X = (j : Int) → R = runN l (200 - (k + 1)) j i X := fun j hgo => by
                have e : goB (bareS (⟨js, co, te, th, el, la⟩ : Sg)) X ≠ -1 := by omega
                rw [HR.out, HSTEP.out, if_neg e, hgo, show 199 - k = 200 - (k + 1) by omega]
                rfl
              have HRND := Lib.hid hrnd
              have hfin : goB (bareS ⟨js, co, te, th, el, la⟩) X = -1 → R = some (la.map fun x => X.getD x.toNat 0) := fun hgo => by rw [HR.out, HSTEP.out, if_pos hgo]
              have HFIN := Lib.hid hfin
              rw [HL.out] at hgl
              clear hrnd hfin
              by_cases ht1 : te = -1
              · subst ht1
                have hg0' : goB (bareS ⟨js, co, -1, th, el, la⟩) X = th := by unfold goB bareS; rw [if_neg (fun h => by have := h.1; simp at this)]
                rw [hg0'] at HRND HFIN hgl
                clear hg0'
                rcases hgl with rfl | ⟨j, rfl, hj⟩
                · have HR6 := Lib.hid (HFIN.out rfl)
                  obtain ⟨Y, hY⟩ : ∃ Y, (la.map fun x => X.getD x.toNat 0) = Y := ⟨_, rfl⟩
                  have HY := Lib.hid hY
                  have HYL : Hid (Y.length = n) := Lib.hid (by rw [← hY, List.length_map, HLL.out])
                  rw [hY] at HR6
                  clear hY HFIN HRND
                  go_wp2
                  go_loopw [19, 126] (fun s5 z wr => ∃ (k : Nat) (A5 : Option Addr) (c5 : Nat), k ≤ n ∧ z = .int .i64 k ∧ s5 = .slice A5 k c5 ∧ wr.ownsRow w8.heap.size 3 1 (.slice A5 k c5) k (iv (Y.take k)) ∧ Below w8.heap.size w8 wr) (fun _ z _ => n - (intOf z).toNat)
                  case atStart => exact ⟨0, none, 0, Nat.zero_le _, rfl, rfl, World.ownsRow_nil _ _ _ _, Below.refl _ _⟩
                  case round =>
                    obtain ⟨k2, A9, c9, hk2, rfl, rfl, hrow, hb9⟩ := hrel
                    have hsz9 := hb9.size
                    by_cases hlt2 : k2 < n
                    · have hbw9 : Below w0.heap.size w0 wr := hb08.trans (hb9.mono hs08)
                      obtain ⟨ad9, x, rfl, hbl9, hd9, hcell9⟩ := (HRL.out.below ((hbo8.trans (hb9.mono (by have := hbo8.size; omega))).mono (by omega)) (Nat.le_refl _)).at_ (k := k2) (by rw [HLL.out]; exact hlt2)
                      have hxb := HLA.out x (List.mem_of_getElem? hd9)
                      obtain ⟨xn, rfl⟩ := Int.eq_ofNat_of_zero_le hxb.1
                      have hxn : xn < 128 := by omega
                      obtain ⟨ad10, y, e10, hbl10, hd10, hcell10⟩ := (HV8.out.below hb9 (Nat.le_refl _)).at_ (k := xn) (by rw [HXO.out.1]; exact hxn)
                      injection e10 with e10
                      subst e10
                      have hadd : (⟨g8, 0, none⟩ : Addr).add xn = ⟨g8, xn, none⟩ := by unfold Addr.add; split <;> simp_all
                      rw [hadd] at hcell10
                      have HT : Hid (Y.take (k2 + 1) = Y.take k2 ++ [y]) := Lib.hid (by
                        have : Y[k2]? = some y := by
                          rw [← HY.out, List.getElem?_map, hd9]
                          simp [List.getD_eq_getElem?_getD, hd10]
                        rw [List.take_add_one, this]
                        rfl)
                      have h63 : k2 + 1 ≤ maxLen := by unfold maxLen; omega
                      have hbig : (k2 + 1) * 8 ≤ 140737488355328 := by omega
                      have hxi : (xn : Int) < 128 := by omega
                      clear hd9 hd10 hadd
                      go_wp2_with (at_builtin; refine wpList_app rfl (.tmp 130) (.tmp 135) 26 rfl w8.heap.size 3 1 8 int_app _ rfl (own_below hrow (by go_grown)) [.int .i64 y] rfl rfl (fun h => by cases h) (cells_at (by simp) _ _) (one_cell _) h63 hbig (by simp; omega) ?_; intro A6 c6 w9 hown9 hg9 hb10)
                      go_round
                      case rel => exact ⟨k2 + 1, A6, c6, by omega, by go_num, rfl, by rw [HT.out, iv_append]; exact hown9, (by go_grown : Below w8.heap.size w8 _).trans hb10⟩
                      case measure => (simp [intOf]; omega)
                    · have HT : Hid (Y.take k2 = Y) := Lib.hid (List.take_of_length_le (by rw [HYL.out]; omega))
                      have hrow' := hrow
                      rw [HT.out, show k2 = n by omega] at hrow'
                      have HRY := Lib.hid (own_rdI hrow' HYL.out)
                      have hkn2 : k2 = n := by omega
                      have HKN2 := Lib.hid hkn2
                      clear hrow hrow' hkn2
                      go_wp2
                      go_returns
                      exact ⟨.inr ⟨Y, A9, c9, HR6.out, (by rw [HYL.out, HKN2.out]; rfl), HRY.out⟩, hb08.trans (hb9.mono hs08)⟩
                · have HR6 := Lib.hid (HRND.out j rfl)
                  clear HRND HFIN
                  go_wp2
                  go_round
                  case rel => exact ⟨k + 1, j, i, X, _, c8, by omega, by go_num, rfl, rfl, rfl, hj, HXO.out, HR6.out, HV8.out, hb68⟩
                  case measure => (simp [intOf]; omega)
              · obtain ⟨tn, rfl⟩ := Int.eq_ofNat_of_zero_le (show 0 ≤ te by omega)
                have htn : tn < 128 := by omega
                obtain ⟨ad10, x, e10, hbl10, hd10, hcell10⟩ := HV8.out.at_ (k := tn) (by rw [HXO.out.1]; exact htn)
                injection e10 with e10
                subst e10
                have hadd : (⟨g8, 0, none⟩ : Addr).add tn = ⟨g8, tn, none⟩ := by unfold Addr.add; split <;> simp_all
                rw [hadd] at hcell10
                have hgv : X.getD tn 0 = x := by rw [List.getD_eq_getElem?_getD, hd10]; rfl
                have htm : decide (0 ≤ (tn : Int)) = true := by simp
                have hti : (tn : Int) < 128 := by omega
                by_cases hx0 : x = 0
                · have hg1' : goB (bareS ⟨js, co, tn, th, el, la⟩) X = el := by unfold goB bareS; rw [if_pos ⟨by simp, by simp only [Int.toNat_natCast]; rw [hgv]; exact hx0⟩]
                  have hx1 : (x == 0) = true := by simp [hx0]
                  rw [hg1'] at HRND hgl
                  have hse := hsgel (by simp)
                  obtain ⟨j, rfl⟩ := Int.eq_ofNat_of_zero_le hse.1
                  have HR6 := Lib.hid (HRND.out j rfl)
                  have hj : j < len := by clear hgl; omega
                  have htm1 : (((j : Int)) == -1) = false := by simp
                  clear HRND HFIN hgl hg1' hgv hd10 hx0 ht1 hadd
                  go_wp2
                  go_round
                  case rel => exact ⟨k + 1, j, i, X, _, c8, by omega, by go_num, rfl, rfl, rfl, hj, HXO.out, HR6.out, HV8.out, hb68⟩
                  case measure => (simp [intOf]; omega)
                · have hg1' : goB (bareS ⟨js, co, tn, th, el, la⟩) X = th := by unfold goB bareS; rw [if_neg (fun h => by have := h.2; simp only [Int.toNat_natCast] at this; rw [hgv] at this; exact hx0 this)]
                  have hx1 : (x == 0) = false := by simp [hx0]
                  rw [hg1'] at HRND hgl
                  have hst : 0 ≤ th ∧ th < len := by clear hgl; omega
                  obtain ⟨j, rfl⟩ := Int.eq_ofNat_of_zero_le hst.1
                  have HR6 := Lib.hid (HRND.out j rfl)
                  have hj : j < len := by clear hgl; omega
                  have htm1 : (((j : Int)) == -1) = false := by simp
                  clear HRND HFIN hgl hg1' hgv hd10 hx0 ht1 hadd
                  go_wp2
                  go_round
                  case rel => exact ⟨k + 1, j, i, X, _, c8, by omega, by go_num, rfl, rfl, rfl, hj, HXO.out, HR6.out, HV8.out, hb68⟩
                  case measure => (simp [intOf]; omega)
        · have HR6 : Hid (R = none) := Lib.hid (by rw [HR.out, show 200 - k = 0 by omega]; rfl)
          clear hva
          go_wp2
          go_returns
          exact ⟨.inl ⟨HR6.out, rfl⟩, hbw⟩

end Go.Proofs.Ytgcjknibelfjbaa
