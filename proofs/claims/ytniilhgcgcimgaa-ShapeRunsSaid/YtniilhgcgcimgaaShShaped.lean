/-
  codemasonref.Shaped (U1): a run of shapes.
-/
import Derived.Test.YtniilhgcgcimgaaShKinds
import Derived.Test.YtniilhgcgcimgaaMBlkR
import Derived.IntWalk
namespace Go.Proofs.Ytniilhgcgcimgaa
open Go.RowKit
set_option linter.unusedSimpArgs false
set_option linter.unusedVariables false
set_option maxRecDepth 100000

/-- what Shaped answers -/
def ShTo (r : Option (Nat × List Int)) (n : Nat) (e : Ending) (w' : World) : Prop :=
  (∃ x A c, r = some x ∧ e = .returned (.tuple #[.slice A n c, .int .i64 (x.1 : Nat)]) ∧ RdI w' w'.heap.size A x.2 ∧ n ≤ c) ∨
  (r = none ∧ ∃ A m c, ∃ t : Int, e = .returned (.tuple #[.slice A m c, .int .i64 t]) ∧ t < 0)

theorem ShTo.some {x : Nat × List Int} {n : Nat} {e : Ending} {w' : World} (h : ShTo (some x) n e w') : ∃ A c, e = .returned (.tuple #[.slice A n c, .int .i64 (x.1 : Nat)]) ∧ RdI w' w'.heap.size A x.2 ∧ n ≤ c := by
  rcases h with ⟨y, A, c, h1, h2, h3, h4⟩ | ⟨h1, _⟩
  · injection h1 with h1
    subst h1
    exact ⟨A, c, h2, h3, h4⟩
  · cases h1

theorem ShTo.none {n : Nat} {e : Ending} {w' : World} (h : ShTo Option.none n e w') : ∃ A m c, ∃ t : Int, e = .returned (.tuple #[.slice A m c, .int .i64 t]) ∧ t < 0 := by
  rcases h with ⟨y, A, c, h1, _⟩ | ⟨_, h1⟩
  · cases h1
  · exact h1

theorem own_capS {w : World} {base : Nat} {e : TypeId} {size : Nat} {A : Option Addr} {n c : Nat} {xs : List Value} (h : w.ownsRow base e size (.slice A n c) n xs) : n ≤ c := by
  rcases h.2 with ⟨hv, h0⟩ | ⟨g, cap, cur, hv, _, _, hnc, _⟩
  · omega
  · injection hv with _ _ hc
    omega

theorem RdI.up {w w' : World} {A : Option Addr} {l : List Int} (h : RdI w w.heap.size A l) (hb : Below w.heap.size w w') : RdI w' w'.heap.size A l := (RdI.below h hb (Nat.le_refl _)).more hb.size

/-- a run as far as it is told: so many are done -/
theorem exSh_at {l : Sh} {k : Nat} {kd ts : Int} {cd : List St} {th el : Sh} {t0 t : Nat} {v0 v : List Int} (hr : exSh l t0 v0 = exSh (l.drop k) t v) (hd : l.drop k = .cons kd ts cd th el (l.drop (k + 1))) :
    (∀ x, exOne (exSh th) (exSh el) kd ts cd t v = some x → exSh l t0 v0 = exSh (l.drop (k + 1)) x.1 x.2) ∧ (exOne (exSh th) (exSh el) kd ts cd t v = none → exSh l t0 v0 = none) := by
  rw [hd, exSh_cons] at hr
  exact ⟨fun x hx => by rw [hr, hx], fun hx => by rw [hr, hx]⟩

set_option maxHeartbeats 16000000 in
theorem refShaped_one (n : Nat) (l : Sh) (lo : Nat) (A VA : Option Addr) (len cap vcap t0 : Nat) (v0 : List Int) (w : World) (hx : RdH w lo w.heap.size l A 0) (hv : RdI w w.heap.size VA v0) (hl : l.len = len) (hf : FitSh l) (hc : ckSh n l = 0) (hok : ValsOk n v0) (hcap : n ≤ vcap) (ht : t0 ≤ 1000) (hn1 : 1 ≤ n) (hn6 : n ≤ 1000)
    (hih : ∀ l' : Sh, l'.many < l.many → FitSh l' → ckSh n l' = 0 → ∀ (A' VA' : Option Addr) (cap' vc' t' : Nat) (v' : List Int) (Z : World), RdH Z lo Z.heap.size l' A' 0 → RdI Z Z.heap.size VA' v' → ValsOk n v' → n ≤ vc' → t' ≤ 1000 →
      Calls Try.prog 11 #[.slice A' l'.len cap', .slice VA' n vc', .int .i64 t'] Z fun e w' => ShTo (exSh l' t' v') n e w' ∧ Below Z.heap.size Z w') :
    Calls Try.prog 11 #[.slice A len cap, .slice VA n vcap, .int .i64 t0] w fun e w' => ShTo (exSh l t0 v0) n e w' ∧ Below w.heap.size w w' := by
  have HL := Lib.hid hl
  have HF := Lib.hid hf
  have HIH := Lib.hid hih
  have HX := Lib.hid hx
  have HC := Lib.hid hc
  have HV := Lib.hid hv
  have HOK := Lib.hid hok
  have HTM := Lib.hid (exSh_tame hc)
  have hlen : len ≤ 1000 := by rw [← hl]; exact hf.len
  clear hl hf hih hx hc hv hok
  go_enter Try.func11, Try.ntmps11
  go_wp2
  go_loopw [1, 2, 12] (fun s u z wr => ∃ (k t : Nat) (v : List Int) (VB : Option Addr) (vc : Nat), k ≤ len ∧ z = .int .i64 k ∧ s = .slice VB n vc ∧ u = .int .i64 t ∧ t ≤ 1000 ∧ n ≤ vc ∧ Hid (exSh l t0 v0 = exSh (l.drop k) t v) ∧ Hid (ValsOk n v) ∧ Hid (RdI wr wr.heap.size VB v) ∧ Below w.heap.size w wr) (fun _ _ z _ => len - (intOf z).toNat)
  case atStart => exact ⟨0, t0, v0, VA, vcap, Nat.zero_le _, rfl, rfl, rfl, ht, hcap, Lib.hid (by rw [Sh.drop_zero]), HOK, HV, Below.refl _ _⟩
  case round =>
    clear ht hcap
    obtain ⟨k, t, v, VB, vc, hk, rfl, rfl, rfl, ht, hcap, HR, HVO, HVR, hb⟩ := hrel
    have hsz := hb.size
    have htn : decide ((t : Int) < 0) = false := by simp
    by_cases hlt : k < len
    · obtain ⟨ad, kd, ts, cd, th, el, Ac, At, Ae, cc, ct, ce, rfl, hbl, hd, hc0, hc1, hc2, hc3, hc4, hrc, hrt, hre⟩ := (HX.out.up hb).at_ (k := k) (by rw [HL.out]; exact hlt)
      obtain ⟨⟨hm1, hf1⟩, ⟨hm2, hf2⟩, hcl⟩ := HF.out.part hd
      have hck0 := ckSh_drop HC.out k
      rw [hd] at hck0
      obtain ⟨hone, hkt, hke, _⟩ := ckSh_cons hck0
      have HTH := Lib.hid (fun (Z : World) (hZ : Below wr.heap.size wr Z) (VA' : Option Addr) (vc' t' : Nat) (v' : List Int) h1 h2 h3 h4 => HIH.out th hm1 hf1 hkt At VA' ct vc' t' v' Z (hrt.up hZ) h1 h2 h3 h4)
      have HEL := Lib.hid (fun (Z : World) (hZ : Below wr.heap.size wr Z) (VA' : Option Addr) (vc' t' : Nat) (v' : List Int) h1 h2 h3 h4 => HIH.out el hm2 hf2 hke Ae VA' ce vc' t' v' Z (hre.up hZ) h1 h2 h3 h4)
      have HRC := Lib.hid (fun (Z : World) (hZ : Below wr.heap.size wr Z) => hrc.up hZ)
      have HVZ := Lib.hid (fun (Z : World) (hZ : Below wr.heap.size wr Z) => HVR.out.up hZ)
      have HAT := Lib.hid (exSh_at HR.out hd)
      have HTT := Lib.hid (exSh_tame hkt)
      have HTE := Lib.hid (exSh_tame hke)
      have HONE := Lib.hid hone
      obtain ⟨tl, htl⟩ : ∃ x, th.len = x := ⟨_, rfl⟩
      obtain ⟨el', hel⟩ : ∃ x, el.len = x := ⟨_, rfl⟩
      obtain ⟨cl, hcle⟩ : ∃ x, cd.length = x := ⟨_, rfl⟩
      have HCL := Lib.hid hcle
      rw [htl] at HTH hc3
      rw [hel] at HEL hc4
      rw [hcle] at hc2 hcl
      have HBW := Lib.hid hb
      have HOB : Hid (Own (wr.alloc (.cells #[.int .i64 kd, .int .i64 ts, .slice Ac cl cc, .slice At tl ct, .slice Ae el' ce] 57)) wr.heap.size 57 [.int .i64 kd, .int .i64 ts, .slice Ac cl cc, .slice At tl ct, .slice Ae el' ce]) := Lib.hid (Own.new wr _ _)
      have HBX : Hid (Below wr.heap.size wr (wr.alloc (.cells #[.int .i64 kd, .int .i64 ts, .slice Ac cl cc, .slice At tl ct, .slice Ae el' ce] 57))) := Lib.hid (by go_grown)
      have hcas := ckOne_cases hone
      clear htl hel hcle hrt hre hrc hd hm1 hf1 hm2 hf2 hck0 hone hkt hke
      obtain ⟨wo, rfl⟩ : ∃ wo : World, wo = wr := ⟨_, rfl⟩
      rcases hcas with ⟨rfl, hcks⟩ | ⟨hkd, hts0, hts1⟩
      · have HCK := Lib.hid hcks
        have HNX : Hid (exSh l t0 v0 = exSh (l.drop (k + 1)) t (doS cd v)) := Lib.hid (HAT.out.1 _ exOne_code)
        have HV2 := Lib.hid (doS_ok hcks HVO.out)
        have HDO := Lib.hid (fun (Z : World) (hZ : Below wo.heap.size wo Z) => refDoing_any n Ac VB cl cc vc cd v Z (HRC.out Z hZ) (HVZ.out Z hZ) HCL.out (by omega) hcks HVO.out hn1 (by omega))
        clear hcks
        go_wp2_with (go_at_call 26; (with_reducible refine (HDO.out _ HBX.out).mono ?_); rintro e w7 ⟨g7, c7, rfl, hown7, hb7⟩)
        go_round
        case rel => exact ⟨k + 1, t, doS cd v, some ⟨g7, 0, none⟩, c7, by omega, by go_num, rfl, rfl, ht, own_capS hown7, HNX, HV2, Lib.hid (own_rdI hown7 HV2.out.1), below_via HBW.out (below_via HBX.out hb7)⟩
        case measure => (simp [intOf]; omega)
      · obtain ⟨tn, rfl⟩ := Int.eq_ofNat_of_zero_le hts0
        have htn' : tn < n := by omega
        obtain ⟨va, vx, rfl, hvb, hvx, hvc⟩ := (HVR.out).at_ (k := tn) (by rw [HVO.out.1]; exact htn')
        have hgd : v.getD tn 0 = vx := by rw [List.getD_eq_getElem?_getD, hvx]; rfl
        have HGD := Lib.hid hgd
        rcases hkd with rfl | rfl
        · by_cases h0 : vx = 0
          · have hne : (vx != 0) = false := by simp [h0]
            have HEQ : Hid (exOne (exSh th) (exSh el) 2 (tn : Int) cd t v = exSh el t v) := Lib.hid (exOne_else (by rw [HGD.out]; exact h0))
            clear hvx hgd hts0 hts1 h0
            cases hy : exSh el t v with
            | none =>
              have HNN : Hid (exSh l t0 v0 = none) := Lib.hid (HAT.out.2 (by rw [HEQ.out, hy]))
              have HCA := Lib.hid (HEL.out _ HBX.out (some va) vc t v (HVZ.out _ HBX.out) HVO.out hcap ht)
              rw [hy] at HCA
              clear hy
              go_wp2_with (go_at_call 11; (with_reducible refine HCA.out.mono ?_); rintro e w7 ⟨hsh, hb7⟩; obtain ⟨A7, m7, c7, T7, rfl, hT7⟩ := hsh.none; have hT8 : decide (T7 < 0) = true := decide_eq_true hT7)
              go_returns
              exact ⟨.inr ⟨HNN.out, A7, m7, c7, T7, rfl, hT7⟩, below_via HBW.out (below_via HBX.out hb7)⟩
            | some y =>
              have HNX : Hid (exSh l t0 v0 = exSh (l.drop (k + 1)) y.1 y.2) := Lib.hid (HAT.out.1 y (by rw [HEQ.out, hy]))
              obtain ⟨hy1, hy2⟩ := HTE.out t v y HVO.out hy
              have HY2 := Lib.hid hy2
              have htn2 : decide (((y.1 : Nat) : Int) < 0) = false := by simp
              have HCA := Lib.hid (HEL.out _ HBX.out (some va) vc t v (HVZ.out _ HBX.out) HVO.out hcap ht)
              rw [hy] at HCA
              clear hy hy2
              go_wp2_with (go_at_call 11; (with_reducible refine HCA.out.mono ?_); rintro e w7 ⟨hsh, hb7⟩; obtain ⟨A7, c7, rfl, hr7, hc7⟩ := hsh.some)
              go_round
              case rel => exact ⟨k + 1, y.1, y.2, A7, c7, by omega, by go_num, rfl, rfl, by omega, hc7, HNX, HY2, Lib.hid hr7, below_via HBW.out (below_via HBX.out hb7)⟩
              case measure => (simp [intOf]; omega)
          · have hne : (vx != 0) = true := by simp [h0]
            have HEQ : Hid (exOne (exSh th) (exSh el) 2 (tn : Int) cd t v = exSh th t v) := Lib.hid (exOne_then (by rw [HGD.out]; exact h0))
            clear hvx hgd hts0 hts1 h0
            cases hy : exSh th t v with
            | none =>
              have HNN : Hid (exSh l t0 v0 = none) := Lib.hid (HAT.out.2 (by rw [HEQ.out, hy]))
              have HCA := Lib.hid (HTH.out _ HBX.out (some va) vc t v (HVZ.out _ HBX.out) HVO.out hcap ht)
              rw [hy] at HCA
              clear hy
              go_wp2_with (go_at_call 11; (with_reducible refine HCA.out.mono ?_); rintro e w7 ⟨hsh, hb7⟩; obtain ⟨A7, m7, c7, T7, rfl, hT7⟩ := hsh.none; have hT8 : decide (T7 < 0) = true := decide_eq_true hT7)
              go_returns
              exact ⟨.inr ⟨HNN.out, A7, m7, c7, T7, rfl, hT7⟩, below_via HBW.out (below_via HBX.out hb7)⟩
            | some y =>
              have HNX : Hid (exSh l t0 v0 = exSh (l.drop (k + 1)) y.1 y.2) := Lib.hid (HAT.out.1 y (by rw [HEQ.out, hy]))
              obtain ⟨hy1, hy2⟩ := HTT.out t v y HVO.out hy
              have HY2 := Lib.hid hy2
              have htn2 : decide (((y.1 : Nat) : Int) < 0) = false := by simp
              have HCA := Lib.hid (HTH.out _ HBX.out (some va) vc t v (HVZ.out _ HBX.out) HVO.out hcap ht)
              rw [hy] at HCA
              clear hy hy2
              go_wp2_with (go_at_call 11; (with_reducible refine HCA.out.mono ?_); rintro e w7 ⟨hsh, hb7⟩; obtain ⟨A7, c7, rfl, hr7, hc7⟩ := hsh.some)
              go_round
              case rel => exact ⟨k + 1, y.1, y.2, A7, c7, by omega, by go_num, rfl, rfl, by omega, hc7, HNX, HY2, Lib.hid hr7, below_via HBW.out (below_via HBX.out hb7)⟩
              case measure => (simp [intOf]; omega)
        · have HEQ : Hid (exOne (exSh th) (exSh el) 3 (tn : Int) cd t v = whW (exSh th) tn t v) := Lib.hid exOne_while
          clear hvx hgd hts0 hts1 hvb hvc HGD
          go_wp2
          obtain ⟨X, hX⟩ : ∃ X, X = wo.alloc (.cells #[.int .i64 3, .int .i64 (tn : Nat), .slice Ac cl cc, .slice At tl ct, .slice Ae el' ce] 57) := ⟨_, rfl⟩
          have HVX := Lib.hid (HVZ.out _ HBX.out)
          rw [← hX] at HOB HBX HVX ⊢
          clear hX hc0 hc1 hc2 hc3 hc4 hbl hsz hb HVR HVZ
          obtain ⟨g0, hg0⟩ : ∃ g, wo.heap.size = g := ⟨_, rfl⟩
          rw [hg0] at HOB
          simp only [hg0]
          have HG0 := Lib.hid hg0
          clear hg0
          go_loopw [1, 2] (fun s u wr => Hid (Below X.heap.size X wr) ∧ ((∃ (t1 : Nat) (v1 : List Int) (VB1 : Option Addr) (vc1 : Nat), s = .slice VB1 n vc1 ∧ u = .int .i64 t1 ∧ t1 ≤ 1000 ∧ n ≤ vc1 ∧ Hid (whW (exSh th) tn t v = whW (exSh th) tn t1 v1) ∧ Hid (ValsOk n v1) ∧ Hid (RdI wr wr.heap.size VB1 v1)) ∨ (∃ (A1 : Option Addr) (m1 c1 : Nat) (T1 : Int), s = .slice A1 m1 c1 ∧ u = .int .i64 T1 ∧ T1 < 0 ∧ Hid (whW (exSh th) tn t v = none)))) (fun _ u _ => (intOf u + 1).toNat)
          case atStart => exact ⟨Lib.hid (Below.refl _ _), .inl ⟨t, v, some va, vc, rfl, rfl, ht, hcap, Lib.hid rfl, HVO, HVX⟩⟩
          case round =>
            clear ht hcap htn
            obtain ⟨HBJ, hrel⟩ := hrel
            have HBO := Lib.hid (below_via HBX.out HBJ.out)
            have HO5 := Lib.hid (HOB.out.below HBJ.out HOB.out.lt)
            have d1 := HO5.out.cell (j := 1) rfl
            have d3 := HO5.out.cell (j := 3) rfl
            rcases hrel with ⟨t1, v1, VB1, vc1, rfl, rfl, ht1, hcap1, HW, HVO1, HVR1⟩ | ⟨A1, m1, c1, T1, rfl, rfl, hT, HW⟩
            · obtain ⟨va1, vx1, rfl, hvb1, hvx1, hvc1⟩ := (HVR1.out).at_ (k := tn) (by rw [HVO1.out.1]; exact htn')
              have HGD1 : Hid (v1.getD tn 0 = vx1) := Lib.hid (by rw [List.getD_eq_getElem?_getD, hvx1]; rfl)
              have hge : decide ((0 : Int) ≤ (t1 : Int)) = true := by simp
              have htn1 : decide ((t1 : Int) < 0) = false := by simp
              clear hvx1
              by_cases h0 : vx1 = 0
              · have hne : (vx1 != 0) = false := by simp [h0]
                have HNX : Hid (exSh l t0 v0 = exSh (l.drop (k + 1)) t1 v1) := Lib.hid (HAT.out.1 (t1, v1) (by rw [HEQ.out, HW.out, whW_end (by rw [HGD1.out]; exact h0)]))
                clear h0
                go_wp2
                go_round
                case rel => exact ⟨k + 1, t1, v1, some va1, vc1, by omega, by go_num, rfl, rfl, ht1, hcap1, HNX, HVO1, HVR1, below_via HBW.out HBO.out⟩
                case measure => (simp [intOf]; omega)
              · have hne : (vx1 != 0) = true := by simp [h0]
                have HN0 : Hid (v1.getD tn 0 ≠ 0) := Lib.hid (by rw [HGD1.out]; exact h0)
                clear h0
                cases t1 with
                | zero =>
                  have HWN : Hid (whW (exSh th) tn t v = none) := Lib.hid (by rw [HW.out, whW_over HN0.out])
                  go_wp2
                  go_round
                  case rel => exact ⟨HBJ, .inr ⟨some va1, n, vc1, -1, rfl, by go_num, by omega, HWN⟩⟩
                  case measure => first | (simp [intOf]; done) | (simp [intOf]; omega)
                | succ t1 =>
                  obtain ⟨T, hT⟩ : ∃ T, t1 + 1 = T := ⟨_, rfl⟩
                  have hT1 : (T : Int) - 1 = (t1 : Int) := by omega
                  have hwt : IntKind.i64.wrap (t1 : Int) = (t1 : Int) := IntWalk.i64_in _ ⟨by omega, by omega⟩
                  have hge1 : decide ((0 : Int) ≤ (t1 : Int)) = true := by simp
                  have HT := Lib.hid hT
                  rw [hT] at hge htn1 ht1 ⊢
                  clear hT
                  cases hy : exSh th t1 v1 with
                  | none =>
                    have HWN : Hid (whW (exSh th) tn t v = none) := Lib.hid (by rw [HW.out, whW_none HN0.out hy])
                    have HCA := Lib.hid (HTH.out wr HBO.out (some va1) vc1 t1 v1 HVR1.out HVO1.out hcap1 (by omega))
                    rw [hy] at HCA
                    clear hy
                    go_wp2_with (go_at_call 11; (with_reducible refine HCA.out.mono ?_); rintro e w7 ⟨hsh, hb7⟩; obtain ⟨A7, m7, c7, T7, rfl, hT7⟩ := hsh.none)
                    go_round
                    case rel => exact ⟨Lib.hid (below_via HBJ.out hb7), .inr ⟨A7, m7, c7, T7, rfl, rfl, hT7, HWN⟩⟩
                    case measure => (simp [intOf]; omega)
                  | some y =>
                    have HWS : Hid (whW (exSh th) tn t v = whW (exSh th) tn y.1 y.2) := Lib.hid (by rw [HW.out, whW_step HTT.out HVO1.out HN0.out hy])
                    obtain ⟨hy1, hy2⟩ := HTT.out t1 v1 y HVO1.out hy
                    have HY2 := Lib.hid hy2
                    have HCA := Lib.hid (HTH.out wr HBO.out (some va1) vc1 t1 v1 HVR1.out HVO1.out hcap1 (by omega))
                    rw [hy] at HCA
                    clear hy hy2
                    go_wp2_with (go_at_call 11; (with_reducible refine HCA.out.mono ?_); rintro e w7 ⟨hsh, hb7⟩; obtain ⟨A7, c7, rfl, hr7, hc7⟩ := hsh.some)
                    go_round
                    case rel => exact ⟨Lib.hid (below_via HBJ.out hb7), .inl ⟨y.1, y.2, A7, c7, rfl, rfl, by omega, hc7, HWS, HY2, Lib.hid hr7⟩⟩
                    case measure => (simp [intOf]; omega)
            · have hge : decide ((0 : Int) ≤ T1) = false := by simp; omega
              have htn1 : decide (T1 < 0) = true := by simp; omega
              have HNN : Hid (exSh l t0 v0 = none) := Lib.hid (HAT.out.2 (by rw [HEQ.out, HW.out]))
              go_wp2
              go_returns
              exact ⟨.inr ⟨HNN.out, A1, m1, c1, T1, rfl, hT⟩, below_via HBW.out HBO.out⟩
    · have hkl : k = len := by omega
      have HE : Hid (exSh l t0 v0 = some (t, v)) := Lib.hid (by rw [HR.out, Sh.drop_ge (by rw [HL.out]; omega)]; rfl)
      go_wp2
      go_returns
      exact ⟨.inl ⟨(t, v), VB, vc, HE.out, rfl, HVR.out, hcap⟩, hb⟩

theorem refShaped_any (n lo : Nat) (hn1 : 1 ≤ n) (hn6 : n ≤ 1000) : ∀ (m : Nat) (l : Sh), l.many ≤ m → FitSh l → ckSh n l = 0 → ∀ (A VA : Option Addr) (cap vcap t : Nat) (v : List Int) (w : World), RdH w lo w.heap.size l A 0 → RdI w w.heap.size VA v → ValsOk n v → n ≤ vcap → t ≤ 1000 →
    Calls Try.prog 11 #[.slice A l.len cap, .slice VA n vcap, .int .i64 t] w fun e w' => ShTo (exSh l t v) n e w' ∧ Below w.heap.size w w'
  | 0, l, hm, hf, hc, A, VA, cap, vcap, t, v, w, hx, hv, hok, hcap, ht => refShaped_one n l lo A VA _ cap vcap t v w hx hv rfl hf hc hok hcap ht hn1 hn6 fun l' h => by omega
  | m + 1, l, hm, hf, hc, A, VA, cap, vcap, t, v, w, hx, hv, hok, hcap, ht => refShaped_one n l lo A VA _ cap vcap t v w hx hv rfl hf hc hok hcap ht hn1 hn6 fun l' h hf' hc' A' VA' cap' vc' t' v' Z h1 h2 h3 h4 h5 => refShaped_any n lo hn1 hn6 m l' (by omega) hf' hc' A' VA' cap' vc' t' v' Z h1 h2 h3 h4 h5

end Go.Proofs.Ytniilhgcgcimgaa
