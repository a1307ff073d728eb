/-
  point.include and point.Within return what they say (V2).
-/
import Derived.Test.YtfbnmgnkigfgpaaPtCk
import Derived.Test.YtfbnmgnkigfgpaaPtWords
import Derived.Test.YtfbnmgnkigfgpaaMBase
import Derived.StillTailTactics
namespace Go.Proofs.Ytfbnmgnkigfgpaa
open Go.RowKit
set_option linter.unusedSimpArgs false
set_option linter.unusedVariables false
set_option maxRecDepth 100000

theorem wrote_setU {w : World} {g j : Nat} {u : Value} (o : Obj) : Wrote g w ((w.setCell ⟨g, j, none⟩ u).alloc o) :=
  ((Wrote.of_below (Below.refl _ w)).set (p := ⟨g, j, none⟩) rfl u).andThen ((Below.refl _ _).alloc (by simp [World.setCell]) o)

theorem Wrote.drewQ {g : Nat} {w w' : World} (h : Wrote g w w') : Wrote g w w'.drew := ⟨h.os, h.tape, h.output, h.size, h.block⟩

theorem IncI.at_ {l : List Qt} {n : Nat} {S : List Nat} (h : IncI l n S S) {i : Nat} (hi : i < n) : ∃ W, S[i]? = some W ∧ S.getD i 0 = W ∧ W < 256 := by
  have e : S[i]? = some (S[i]'(by rw [h.len]; exact hi)) := List.getElem?_eq_getElem _
  exact ⟨_, e, getD_at e, h.lt i _ e⟩

theorem pow_256 {f : Nat} (h : f < 8) : 2 ^ f < 256 := by
  have : 2 ^ f ≤ 2 ^ 7 := Nat.pow_le_pow_right (by omega) (by omega)
  omega

theorem bit_pow {f x : Nat} : (2 ^ f).testBit x = true ↔ x = f := by
  rw [Nat.testBit_two_pow]
  simp
  omega

set_option maxHeartbeats 8000000 in
theorem include_any (n g : Nat) (l : List Qt) (S : List Nat) (k t f : Nat) (w : World) (hO : Own w g 38 (uv S)) (hI : IncI l n S S) (hq : QOk n l) (hp : (⟨k, t, f⟩ : Qt) ∈ l) (hn : n ≤ 8) :
    Calls Try.prog 22 #[.slice (some ⟨g, 0, none⟩) n n, .agg #[.int .i64 (k : Int), .int .i64 (t : Int), .int .i64 (f : Int)]] w fun e w' => e = .returned (.tuple #[]) ∧ ∃ S', Own w' g 38 (uv S') ∧ IncI l n S S' ∧ DnA ⟨k, t, f⟩ S S' ∧ Wrote g w w' := by
  have hg := hO.lt
  obtain ⟨h1, h4, ht, hf⟩ := hq _ hp
  simp only at h1 h4 ht hf
  obtain ⟨W, hW, hWd, hW8⟩ := hI.at_ ht
  obtain ⟨V, hV, hVd, hV8⟩ := hI.at_ hf
  have hct := hO.cell (uv_at hW)
  have hcf := hO.cell (uv_at hV)
  have hft := hO.frozen t
  have hk : k = 1 ∨ k = 2 ∨ k = 3 ∨ k = 4 := by omega
  have HP := Lib.hid hp
  have HI := Lib.hid hI
  have HQ := Lib.hid hq
  clear h1 h4
  rcases hk with rfl | rfl | rfl | rfl
  · have hM := hI.more (X := 2 ^ f) hW (pow_256 (by omega)) (fun x hx => by rw [bit_pow.1 hx]; exact .addr hp rfl)
    have hor : bits .or .u32 ((W : Nat) : Int) ((2 : Int) ^ f % 4294967296) = ((W ||| 2 ^ f : Nat) : Int) := or_powQ (by omega) (by omega)
    have H : Hid (Own (w.setCell ⟨g, t, none⟩ (.int .u32 (bits .or .u32 ((W : Nat) : Int) ((2 : Int) ^ f % 4294967296)))) g 38 (uv (S.set t (W ||| 2 ^ f)))) := Lib.hid (by rw [hor]; exact OwnU.set hO t _)
    have HM := Lib.hid hM
    have hff : f < 64 := by omega
    clear hO hI hq hp hM hor hW hV hWd hVd
    go_enter Try.func22, Try.ntmps22
    go_wp2
    go_region
    all_goals
      go_wp2
      go_end0
      exact ⟨rfl, _, H.out.alloc _, HM.out.1, DnA.addr (HM.out.2 f (bit_pow.2 rfl)), (wrote_setU _).drewQ⟩
  · have hM := hI.more (X := V) hW hV8 (fun x hx => .copy hp rfl (hI.snd _ _ (Bt.of hV hx)))
    have hor : bits .or .u32 ((W : Nat) : Int) ((V : Nat) : Int) = ((W ||| V : Nat) : Int) := u32_or_nat _ _ (by omega) (by omega)
    have H : Hid (Own (w.setCell ⟨g, t, none⟩ (.int .u32 (bits .or .u32 ((W : Nat) : Int) ((V : Nat) : Int)))) g 38 (uv (S.set t (W ||| V)))) := Lib.hid (by rw [hor]; exact OwnU.set hO t _)
    have HM := Lib.hid hM
    have HV := Lib.hid hVd
    clear hO hI hq hp hM hor hW hV hWd hVd
    go_enter Try.func22, Try.ntmps22
    go_wp2
    go_region
    all_goals
      go_wp2
      go_end0
      exact ⟨rfl, _, H.out.alloc _, HM.out.1, DnA.copy HV.out HM.out.2, (wrote_setU _).drewQ⟩
  · obtain ⟨X, hX⟩ : ∃ X, frW S V n = X := ⟨_, rfl⟩
    have hX8 : X < 256 := by rw [← hX]; exact frW_lt (n := 8) hI.lt n
    have hXb : ∀ y, X.testBit y = true ↔ ∃ i, i < n ∧ V.testBit i = true ∧ Bt S i y := fun y => by rw [← hX]; exact frW_bit
    have hM := hI.more (X := X) hW hX8 (fun y hy => by
      obtain ⟨i, _, h2, h3⟩ := (hXb y).1 hy
      exact .load hp rfl (hI.snd _ _ (Bt.of hV h2)) (hI.snd _ _ h3))
    have hor : bits .or .u32 ((W : Nat) : Int) ((X : Nat) : Int) = ((W ||| X : Nat) : Int) := u32_or_nat _ _ (by omega) (by omega)
    have H : Hid (Own (w.setCell ⟨g, t, none⟩ (.int .u32 (bits .or .u32 ((W : Nat) : Int) ((X : Nat) : Int)))) g 38 (uv (S.set t (W ||| X)))) := Lib.hid (by rw [hor]; exact OwnU.set hO t _)
    have HM := Lib.hid hM
    have HV := Lib.hid hVd
    have HXB := Lib.hid hXb
    have HLT := Lib.hid (fun i (W : Nat) (h : S[i]? = some W) => hI.lt i W h)
    have hD : Hid (DnA ⟨3, t, f⟩ S (S.set t (W ||| X))) := Lib.hid (DnA.load hVd hI.len (by rw [hX]; exact hM.2))
    have HU := Lib.hid (fun (Z : World) (h : Own Z g 38 (uv S)) => unionQ_any (some ⟨g, 0, none⟩) n n S V (g + 1) Z (OwnU.rd h) hI.len hI.lt (by omega) hn)
    rw [hX] at HU
    have HO := Lib.hid hO
    clear hO hI hq hp hM hor hW hV hWd hVd hX hXb
    go_enter Try.func22, Try.ntmps22
    go_upto_region 7 with fail
    have HUZ := Lib.hid (HU.out _ (HO.out.alloc (.cells #[.int .i64 3, .int .i64 (t : Int), .int .i64 (f : Int)] 41)).drew)
    (refine still_tail 14 (by kernel_rfl) (by kernel_rfl) ?_; simp only [List.take_succ_cons, List.take_zero, List.drop_succ_cons, List.drop_zero]; repeat still_step)
    still_call HUZ.out
    ((repeat still_step); refine wpStill_nil ?_)
    go_wp2
    go_end0
    exact ⟨rfl, _, H.out.alloc _, HM.out.1, hD.out, (wrote_setU _).drewQ⟩
  · have HS := Lib.hid hI.snd
    have htn : Hid (∀ x, Bt S t x → x < n) := Lib.hid fun x hx => ((hI.snd t x hx).lt hq).2
    have hwb : Wrote g w (w.alloc (.cells #[.int .i64 4, .int .i64 (t : Int), .int .i64 (f : Int)] 41)) := Wrote.of_below ((Below.refl _ _).alloc (Nat.le_refl _) _)
    have hb1 := (hO.alloc (.cells #[.int .i64 4, .int .i64 (t : Int), .int .i64 (f : Int)] 41))
    obtain ⟨wb, hwbe⟩ : ∃ wb, wb = w.alloc (.cells #[.int .i64 4, .int .i64 (t : Int), .int .i64 (f : Int)] 41) := ⟨_, rfl⟩
    have hq0 : Own wb w.heap.size 41 [.int .i64 4, .int .i64 (t : Int), .int .i64 (f : Int)] := by rw [hwbe]; exact Own.new w _ _
    clear hO hI hq hp hW hV hWd hVd hct hcf hft hW8 hV8
    rw [show ((4 : Nat) : Int) = (4 : Int) from rfl]
    go_enter Try.func22, Try.ntmps22
    go_upto_region 9 with fail
    rw [← hwbe] at hwb hb1 ⊢
    clear hwbe
    obtain ⟨b, hb⟩ : ∃ b, w.heap.size = b := ⟨_, rfl⟩
    rw [hb] at hq0 hg ⊢
    have hbg : b ≠ g := by omega
    clear hb
    go_wp2
    go_loopw [53] (fun i wr => ∃ (v : Nat) (S1 : List Nat), v ≤ n ∧ i = .int .i64 v ∧ Own wr g 38 (uv S1) ∧ Hid (IncI l n S S1) ∧ Hid (∀ x, x < v → ∀ y, Bt S t x → Bt S f y → Bt S1 x y) ∧ Wrote g wb wr) (fun i _ => n - (intOf i).toNat)
    case atStart => exact ⟨0, S, Nat.zero_le _, rfl, hb1, HI, Lib.hid fun x hx => by omega, Wrote.of_below (Below.refl _ _)⟩
    case round =>
      obtain ⟨v, S1, hv, rfl, hown, HI1, HD1, hw1⟩ := hrel
      have hsz := hw1.size
      have hgr := hown.lt
      have hqr := (hw1.block b hq0.lt hbg).trans hq0
      have hq1 := Own.cell hqr (j := 1) rfl
      have hq2 := Own.cell hqr (j := 2) rfl
      by_cases hlt : v < n
      · obtain ⟨W1, hW1, hWd1, hW81⟩ := HI1.out.same.at_ ht
        have hct1 := hown.cell (uv_at hW1)
        have hv32 : v < 32 := by omega
        obtain ⟨bb, hbb⟩ : ∃ bb, W1.testBit v = bb := ⟨_, rfl⟩
        have HHAS := Lib.hid (fun Z => hasQ_any W1 v Z (by omega) hv32)
        rw [hbb] at HHAS
        have HW1 := Lib.hid hW1
        have HBB := Lib.hid hbb
        clear hW1 hWd1 hbb
        cases bb with
        | true =>
          obtain ⟨V1, hV1, hVd1, hV81⟩ := HI1.out.same.at_ hf
          obtain ⟨U1, hU1, hUd1, hU81⟩ := HI1.out.same.at_ hlt
          have hcf1 := hown.cell (uv_at hV1)
          have hcv1 := hown.cell (uv_at hU1)
          have hfv1 := hown.frozen v
          have hM := HI1.out.same.more (X := V1) hU1 hV81 (fun y hy => .store HP.out rfl (HI1.out.snd _ _ (Bt.of HW1.out HBB.out)) (HI1.out.snd _ _ (Bt.of hV1 hy)))
          have hor : bits .or .u32 ((U1 : Nat) : Int) ((V1 : Nat) : Int) = ((U1 ||| V1 : Nat) : Int) := u32_or_nat _ _ (by omega) (by omega)
          have H : Hid (Own (wr.setCell ⟨g, v, none⟩ (.int .u32 (bits .or .u32 ((U1 : Nat) : Int) ((V1 : Nat) : Int)))) g 38 (uv (S1.set v (U1 ||| V1)))) := Lib.hid (by rw [hor]; exact OwnU.set hown v _)
          have HM : Hid (IncI l n S (S1.set v (U1 ||| V1))) := Lib.hid (HI1.out.trans hM.1)
          have HD : Hid (∀ x, x < v + 1 → ∀ y, Bt S t x → Bt S f y → Bt (S1.set v (U1 ||| V1)) x y) := Lib.hid (fun x hx y h1 h2 => by
            by_cases e : x = v
            · subst e
              refine hM.2 y ?_
              obtain ⟨V', hV', hy⟩ := (HI1.out.up f y h2).ex
              rw [hV1] at hV'
              injection hV' with hV'
              subst hV'
              exact hy
            · exact hM.1.up _ _ (HD1.out x (by omega) y h1 h2))
          clear hown hM hor hV1 hU1 hVd1 hUd1
          go_wp2_with (go_at_call 37; (with_reducible refine (HHAS.out _).mono ?_); rintro e w5 ⟨rfl, rfl⟩)
          go_region
          all_goals
            go_wp2
            go_round
            case rel => exact ⟨v + 1, _, by omega, by go_num, H.out.drew, HM, HD, (hw1.set (p := ⟨g, v, none⟩) rfl _).drewQ⟩
            case measure => (simp [intOf]; omega)
        | false =>
          have HD : Hid (∀ x, x < v + 1 → ∀ y, Bt S t x → Bt S f y → Bt S1 x y) := Lib.hid (fun x hx y h1 h2 => by
            by_cases e : x = v
            · subst e
              obtain ⟨W', hW', hy⟩ := (HI1.out.up t x h1).ex
              rw [HW1.out] at hW'
              injection hW' with hW'
              subst hW'
              rw [HBB.out] at hy
              cases hy
            · exact HD1.out x (by omega) y h1 h2)
          go_wp2_with (go_at_call 37; (with_reducible refine (HHAS.out _).mono ?_); rintro e w5 ⟨rfl, rfl⟩)
          go_round
          case rel => exact ⟨v + 1, _, by omega, by go_num, hown, HI1, HD, hw1⟩
          case measure => (simp [intOf]; omega)
      · have HD : Hid (DnA ⟨4, t, f⟩ S S1) := Lib.hid (DnA.store htn.out fun x hx y h1 h2 => HD1.out x (by omega) y h1 h2)
        go_wp2
        go_end0
        exact ⟨rfl, _, hown, HI1.out, HD.out, hwb.trans hw1⟩

theorem RdU.wroteQ {w w' : World} {g B : Nat} {A : Option Addr} {S : List Nat} (h : RdU w B A S) (hw : Wrote g w w') (hA : ∀ ad, A = some ad → ad.block ≠ g) (hB : B ≤ w.heap.size) : RdU w' B A S := fun hm => by
  obtain ⟨ad, e, hb, hc⟩ := h hm
  exact ⟨ad, e, hb, fun j hj => (hw.cell (by rw [addr_add_block]; omega) (by rw [addr_add_block]; exact hA ad e)).trans (hc j hj)⟩

theorem Own.wroteQ {w w' : World} {g b : Nat} {t : TypeId} {cs : List Value} (h : Own w b t cs) (hw : Wrote g w w') (hb : b ≠ g) : Own w' b t cs := (hw.block b h.lt hb).trans h

set_option maxHeartbeats 8000000 in
theorem within_any (n : Nat) (A : Option Addr) (len cap : Nat) (q : List Qt) (w : World) (hx : RdPz w w.heap.size A (qI q)) (hl : q.length = len) (hq : QOk n q) (h1 : 1 ≤ n) (h8 : n ≤ 8) (hl12 : len ≤ 12) :
    Calls Try.prog 9 #[.int .i64 n, .slice A len cap] w fun e w' => ∃ S A' c', Tel n (An q) S ∧ e = .returned (.tuple #[.slice A' n c', .int .i64 0]) ∧ RdU w' w'.heap.size A' S ∧ Below w.heap.size w w' := by
  have HCK := Lib.hid ((pzCheck_any n A len cap (qI q) w hx (by rw [qI_len]; exact hl) (by unfold maxLen; omega)))
  rw [ckPz_of h1 h8 (by omega) hq] at HCK
  have HL := Lib.hid hl
  have HQ := Lib.hid hq
  have HMK := Lib.hid (make_words (P := Try.prog) 23 38 Try.underlying23 (by kernel_rfl) n (by omega))
  clear hl hq
  go_enter Try.func9, Try.ntmps9
  go_wp2_with (go_at_call 20; (with_reducible refine HCK.out.mono ?_); rintro e w0 ⟨rfl, hb0⟩; have hmk := HMK.out w0)
  clear hmk HMK HCK
  have hOn := Own.new w0 38 (uv (List.replicate n 0))
  have hsz0 := hb0.size
  have hbn : Below w.heap.size w (w0.alloc (.cells (uv (List.replicate n 0)).toArray 38)) := hb0.trans (by go_grown)
  obtain ⟨wn, hwn⟩ : ∃ wn, wn = w0.alloc (.cells (uv (List.replicate n 0)).toArray 38) := ⟨_, rfl⟩
  rw [← hwn] at hOn hbn ⊢
  clear hwn hb0
  obtain ⟨g, hg⟩ : ∃ g, w0.heap.size = g := ⟨_, rfl⟩
  rw [hg] at hOn hsz0 ⊢
  clear hg
  go_loopw [] (fun wr => ∃ S : List Nat, Own wr g 38 (uv S) ∧ Hid (IncI q n S S) ∧ Below w.heap.size w wr) (fun wr => 256 * n - cellSum wr g)
  case atStart => exact ⟨_, hOn, Lib.hid (IncI.start q n), hbn⟩
  case round =>
    obtain ⟨S, hown, HI, hb⟩ := hrel
    have hgr := hown.lt
    have hsz := hb.size
    have HLS : Hid (S.length = n) := Lib.hid HI.out.len
    have HMU : Hid (cellSum wr g = S.sum) := Lib.hid (cellSum_own hown)
    have HCL := Lib.hid (cloneUQ_any (some ⟨g, 0, none⟩) n n S wr ((OwnU.rd hown).more hgr) HI.out.len h1 (by omega))
    obtain ⟨wo, rfl⟩ : ∃ wo : World, wo = wr := ⟨_, rfl⟩
    go_wp2_with (go_at_call 21; (with_reducible refine HCL.out.mono ?_); rintro e w5 ⟨gb, cb, rfl, hrow, hb5⟩)
    have hown5 := hown.below hb5 hgr
    have hrb := own_rdUQ hrow HLS.out
    obtain ⟨gb', hgbe, hgb1, hgb2⟩ := own_formQ hrow (by omega)
    injection hgbe with hgbe
    injection hgbe with hgbe
    subst hgbe
    have hne : gb ≠ g := by omega
    have hb5w : Below w.heap.size w w5 := hb.trans (hb5.mono hsz)
    have hsz5 := hb5w.size
    have hs5 := hb5.size
    clear hrow HCL hb5 hown hgb1
    go_loopw [23] (fun i wr => ∃ (k : Nat) (S1 : List Nat), k ≤ len ∧ i = .int .i64 k ∧ Own wr g 38 (uv S1) ∧ Hid (IncI q n S S1) ∧ Hid (∀ (j : Nat) (p : Qt), j < k → q[j]? = some p → DnA p S S1) ∧ Wrote g w5 wr) (fun i _ => len - (intOf i).toNat)
    case atStart => exact ⟨0, S, Nat.zero_le _, rfl, hown5, HI, Lib.hid fun j p h => by omega, Wrote.of_below (Below.refl _ _)⟩
    case round =>
      obtain ⟨k, S1, hk, rfl, hown, HI1, HD1, hw1⟩ := hrel
      have hg1 := hown.lt
      have hbr : Below w.heap.size w wr := hb5w.trans (hw1.below hsz0 hsz5)
      have hszr := hw1.size
      by_cases hlt : k < len
      · obtain ⟨ad, a, t, f, rfl, hbl, hd, hc0, hc1, hc2⟩ := RdQ.at_ (hx.below hbr (Nat.le_refl _)) (k := k) (by rw [HL.out]; exact hlt)
        have HD := Lib.hid hd
        have HE := Lib.hid (include_any n g q S1 a t f _ (hown.alloc (.cells #[.int .i64 (a : Int), .int .i64 (t : Int), .int .i64 (f : Int)] 41)) HI1.out.same HQ.out (List.mem_of_getElem? hd) h8)
        clear hd
        go_wp2_with (go_at_call 22; (with_reducible refine HE.out.mono ?_); rintro e w6 ⟨rfl, S2, hown2, hI2, hD2, hw2⟩)
        have HI2 := Lib.hid (HI1.out.trans hI2)
        have HDN : Hid (∀ (j : Nat) (p : Qt), j < k + 1 → q[j]? = some p → DnA p S S2) := Lib.hid fun j p hj hp => by
          by_cases e : j = k
          · subst e
            rw [HD.out] at hp
            injection hp with hp
            subst hp
            exact hD2.grow HI1.out.up (fun _ _ h => h)
          · exact (HD1.out j p (by omega) hp).grow (fun _ _ h => h) hI2.up
        have hw3 : Wrote g w5 w6 := (hw1.andThen (by go_grown)).trans hw2
        clear hI2 hD2 hown hw2
        go_round
        case rel => exact ⟨k + 1, S2, by omega, by go_num, hown2, HI2, HDN, hw3⟩
        case measure => (simp [intOf]; omega)
      · have hrb1 := ((hrb.wroteQ hw1 (fun ad e => by injection e with e; subst e; exact hne) (Nat.le_refl _)).more hszr)
        have HEQ := Lib.hid (equalUQ_any (some ⟨g, 0, none⟩) (some ⟨gb, 0, none⟩) n n cb S1 S wr ((OwnU.rd hown).more hg1) hrb1 HI1.out.len HLS.out (by omega))
        by_cases hss : S1 = S
        · have hdd : decide (S1 = S) = true := decide_eq_true hss
          rw [hdd] at HEQ
          have HT : Hid (Tel n (An q) S1) := Lib.hid (by
            have := HI1.out
            rw [hss] at this ⊢
            refine this.tel fun p hp => ?_
            obtain ⟨j, hj, rfl⟩ := List.getElem_of_mem hp
            have := HD1.out j q[j] (by rw [HL.out] at hj; omega) (List.getElem?_eq_getElem hj)
            rw [hss] at this
            exact this)
          clear hss hdd
          go_wp2_with (go_at_call 23; (with_reducible refine HEQ.out.mono ?_); rintro e w7 ⟨rfl, hb7⟩)
          go_ret2
          exact ⟨S1, _, _, HT.out, rfl, (OwnU.rd (hown.below hb7 hg1)).more (by have := hb7.size; omega), hbr.trans (hb7.mono hbr.size)⟩
        · have hdd : decide (S1 = S) = false := decide_eq_false hss
          rw [hdd] at HEQ
          have HS : Hid (S.sum < S1.sum ∧ S1.sum ≤ 256 * n) := Lib.hid ⟨HI.out.sum HI1.out hss, by have := sum_256 HI1.out.lt; rw [HI1.out.len] at this; exact this⟩
          clear hss hdd
          go_wp2_with (go_at_call 23; (with_reducible refine HEQ.out.mono ?_); rintro e w7 ⟨rfl, hb7⟩)
          have hown7 := hown.below hb7 hg1
          go_round
          case rel => exact ⟨S1, hown7, Lib.hid HI1.out.same, hbr.trans (hb7.mono hbr.size)⟩
          case measure =>
            have e1 := cellSum_own hown7
            have e2 := HMU.out
            have e3 := HS.out
            rw [e1, e2]
            omega

set_option maxHeartbeats 1000000 in
theorem within_bad (n : Int) (A : Option Addr) (len cap : Nat) (l : List Pz) (w : World) (hx : RdPz w w.heap.size A l) (hl : l.length = len) (hm : len ≤ maxLen) (hck : ckPz n l ≠ 0) :
    Calls Try.prog 9 #[.int .i64 n, .slice A len cap] w fun e w' => e = .returned (.tuple #[.slice none 0 0, .int .i64 (ckPz n l)]) ∧ Below w.heap.size w w' := by
  have HCK := Lib.hid (pzCheck_any n A len cap l w hx hl hm)
  have hne : (ckPz n l != 0) = true := by simp [hck]
  obtain ⟨c, hc⟩ : ∃ c, ckPz n l = c := ⟨_, rfl⟩
  rw [hc] at HCK hne ⊢
  clear hc hck hx hl
  go_enter Try.func9, Try.ntmps9
  go_wp2_with (go_at_call 20; (with_reducible refine HCK.out.mono ?_); rintro e w0 ⟨rfl, hb0⟩)
  go_ret2
  exact ⟨rfl, hb0⟩

end Go.Proofs.Ytfbnmgnkigfgpaa
