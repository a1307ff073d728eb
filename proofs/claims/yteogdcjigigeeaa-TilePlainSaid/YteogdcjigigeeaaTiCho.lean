/-
  tile.choose returns the cheapest way to cover a term (W2).
-/
import Derived.Test.YteogdcjigigeeaaTiCost
import Derived.Test.YteogdcjigigeeaaMBase
import Derived.Test.YteogdcjigigeeaaRegionStepsB
import Derived.Laws.Rows
namespace Go.Proofs.Yteogdcjigigeeaa
open Go.RowKit
set_option linter.unusedSimpArgs false
set_option linter.unusedVariables false
set_option maxRecDepth 100000

/-- a way as a value -/
def chV (x : Cho) : Value := .agg (cCh x).toArray

theorem pkF_at {l : List Tm} {t : Tm} {h : Nat → Cho} {ts : List Ti} {k : Nat} {ti : Ti} {o : Cho} (ht : ts[k]? = some ti) : pkF l t h k (ts.drop k) o = pkF l t h (k + 1) (ts.drop (k + 1)) (pk1 o k (wayC l t h ti)) := by
  rw [drop_at ht]
  rfl

/-- the region that asks what a tile and its leaves cost -/
def CwS (Y : World) (L : List Nat) (x : Nat × Value) (w : World) : Prop :=
  Below Y.heap.size Y w ∧ match x.1 with
  | 0 => True
  | 1 => ∃ A c, x.2 = .slice A L.length c ∧ RdI w w.heap.size A (ni L)
  | _ + 2 => True

set_option maxHeartbeats 8000000 in
theorem choose_any {vars : Int} (A : Option Addr) (len cap : Nat) (l : List Tm) (w : World) (hx : RdT w w.heap.size A l) (hl : l.length = len) (hc : ckTerms vars l = 0) (i : Nat) (o a b v : Int) (hd : l[i]? = some ⟨o, a, b, v⟩)
    (E : Option Addr) (tn te : Nat) (ts : List Ti) (ht : RdTi w w.heap.size E ts) (htl : ts.length = tn) (hts : ∀ t ∈ ts, TiOk t) (htn : tn ≤ 10)
    (h : Nat → Cho) (D : Option Addr) (dc : Nat) (hD : RdCh w w.heap.size D ((List.range i).map h)) (hb : ∀ j, j < i → ∀ m x, h j = some (m, x) → x ≤ bigC) :
    Calls Try.prog 23 #[.slice A len cap, .agg #[.int .i64 o, .int .i64 a, .int .i64 b, .int .i64 v], .slice E tn te, .slice D i dc] w fun e w' => e = .returned (chV (pkF l ⟨o, a, b, v⟩ h 0 ts none)) ∧ Below w.heap.size w w' := by
  have HTL := Lib.hid htl
  have HTS := Lib.hid hts
  have hbt := ckTerms_bd hc
  have hi := (List.getElem?_eq_some_iff.1 hd).1
  have hti := tmA_at hd
  have HM : Hid (∀ (W : World) (to tl tr tc : Int), Below w.heap.size w W → TiOk ⟨to, tl, tr, tc⟩ → Calls Try.prog 31 #[.slice A len cap, .agg #[.int .i64 o, .int .i64 a, .int .i64 b, .int .i64 v], .agg #[.int .i64 to, .int .i64 tl, .int .i64 tr, .int .i64 tc]] W fun e w' => e = .returned (.bool (mtc l ⟨o, a, b, v⟩ ⟨to, tl, tr, tc⟩)) ∧ Below W.heap.size W w') :=
    Lib.hid fun W to tl tr tc hW hk => matches_any A len cap l W ((hx.below hW (Nat.le_refl _)).more hW.size) hl hc i o a b v hd to tl tr tc hk
  have HLV : Hid (∀ (W : World) (to tl tr tc : Int), Below w.heap.size w W → Calls Try.prog 19 #[.slice A len cap, .agg #[.int .i64 o, .int .i64 a, .int .i64 b, .int .i64 v], .agg #[.int .i64 to, .int .i64 tl, .int .i64 tr, .int .i64 tc]] W fun e w' => ∃ A' c', e = .returned (.slice A' (lvs l ⟨o, a, b, v⟩ ⟨to, tl, tr, tc⟩).length c') ∧ LvOwn w' W.heap.size A' c' (lvs l ⟨o, a, b, v⟩ ⟨to, tl, tr, tc⟩) ∧ Below W.heap.size W w') :=
    Lib.hid fun W to tl tr tc hW => leavesOf_any A len cap l W ((hx.below hW (Nat.le_refl _)).more hW.size) hl hc i o a b v hd to tl tr tc
  have HCW : Hid (∀ (W : World) (to tl tr : Int) (tc : Nat) (A' : Option Addr) (c' : Nat), Below w.heap.size w W → tc ≤ 99 → RdI W W.heap.size A' (ni (lvs l ⟨o, a, b, v⟩ ⟨to, tl, tr, (tc : Nat)⟩)) → Calls Try.prog 32 #[.agg #[.int .i64 to, .int .i64 tl, .int .i64 tr, .int .i64 (tc : Nat)], .slice A' (lvs l ⟨o, a, b, v⟩ ⟨to, tl, tr, (tc : Nat)⟩).length c', .slice D i dc] W fun e w' =>
      e = .returned (.tuple #[.int .i64 (csC (csW h (lvs l ⟨o, a, b, v⟩ ⟨to, tl, tr, (tc : Nat)⟩) tc)), .bool (csW h (lvs l ⟨o, a, b, v⟩ ⟨to, tl, tr, (tc : Nat)⟩) tc).isSome]) ∧ Below W.heap.size W w') :=
    Lib.hid fun W to tl tr tc A' c' hW h99 hr => costWith_any h D i dc W ((hD.below hW (Nat.le_refl _)).more hW.size) A' _ c' _ hr rfl (fun j hj => by
      rw [← hti] at hj
      exact (lvs_less hc hj).1) (lvs_len _ _ _) (fun j hj => hb j (by
      rw [← hti] at hj
      exact (lvs_less hc hj).1)) to tl tr tc h99
  have HTR : Hid (∀ W : World, Below w.heap.size w W → RdTi W W.heap.size E ts) := Lib.hid fun W hW => (ht.below hW (Nat.le_refl _)).more hW.size
  have HO0 : Own (((w.alloc (.cells #[.int .i64 o, .int .i64 a, .int .i64 b, .int .i64 v] 39)).alloc (.cells #[.int .i64 0, .int .i64 0] 47)).alloc (.cells #[.int .i64 (-1), .int .i64 0] 47)) w.heap.size 39 [.int .i64 o, .int .i64 a, .int .i64 b, .int .i64 v] := ((Own.new w _ [_, _, _, _]).alloc _).alloc _
  have HO1 : Own (((w.alloc (.cells #[.int .i64 o, .int .i64 a, .int .i64 b, .int .i64 v] 39)).alloc (.cells #[.int .i64 0, .int .i64 0] 47)).alloc (.cells #[.int .i64 (-1), .int .i64 0] 47)) (w.heap.size + 1) 47 [.int .i64 0, .int .i64 0] := (own_endT (by simp) _ [_, _]).alloc _
  have HO2 : Own (((w.alloc (.cells #[.int .i64 o, .int .i64 a, .int .i64 b, .int .i64 v] 39)).alloc (.cells #[.int .i64 0, .int .i64 0] 47)).alloc (.cells #[.int .i64 (-1), .int .i64 0] 47)) (w.heap.size + 1 + 1) 47 (cCh none) := own_endT (by simp) _ [_, _]
  have HB0 : Below w.heap.size w (((w.alloc (.cells #[.int .i64 o, .int .i64 a, .int .i64 b, .int .i64 v] 39)).alloc (.cells #[.int .i64 0, .int .i64 0] 47)).alloc (.cells #[.int .i64 (-1), .int .i64 0] 47)) := by go_grown
  clear hx hl hc hd ht htl hts hD hb hbt hi hti
  go_enter Try.func23, Try.ntmps23
  go_wp2
  obtain ⟨Y, hY⟩ : ∃ Y, Y = (((w.alloc (.cells #[.int .i64 o, .int .i64 a, .int .i64 b, .int .i64 v] 39)).alloc (.cells #[.int .i64 0, .int .i64 0] 47)).alloc (.cells #[.int .i64 (-1), .int .i64 0] 47)) := ⟨_, rfl⟩
  rw [← hY] at HO0 HO1 HO2 HB0 ⊢
  clear hY
  go_loopw [17] (fun z wr => ∃ (k : Nat) (q : Cho), k ≤ tn ∧ z = .int .i64 k ∧ pkF l ⟨o, a, b, v⟩ h 0 ts none = pkF l ⟨o, a, b, v⟩ h k (ts.drop k) q ∧ Own wr w.heap.size 39 [.int .i64 o, .int .i64 a, .int .i64 b, .int .i64 v] ∧ Own wr (w.heap.size + 1) 47 [.int .i64 0, .int .i64 0] ∧ Own wr (w.heap.size + 1 + 1) 47 (cCh q) ∧ Below w.heap.size w wr) (fun z _ => tn - (intOf z).toNat)
  case atStart => exact ⟨0, none, Nat.zero_le _, rfl, rfl, HO0, HO1, HO2, HB0⟩
  case round =>
    obtain ⟨k, q, hk, rfl, hr, ho0, ho1, ho2, hbr⟩ := hrel
    have HR := Lib.hid hr
    clear hr HO0 HO1 HO2 HB0
    have hs2 := ho2.lt
    by_cases hlt : k < tn
    · obtain ⟨ad, to, tl, tr, tc, rfl, hbl, hdt, hc0, hc1, hc2, hc3⟩ := RdTi.at_ (HTR.out wr hbr) (k := k) (by rw [HTL.out]; exact hlt)
      have hok := HTS.out _ (List.mem_of_getElem? hdt)
      have hc0' := hok.c0
      have hc99 := hok.c99
      obtain ⟨tcn, rfl⟩ := Int.eq_ofNat_of_zero_le (show 0 ≤ tc from hc0')
      have h99 : tcn ≤ 99 := by have : ((tcn : Nat) : Int) ≤ 99 := hc99; omega
      have HS := Lib.hid (pkF_at (l := l) (t := ⟨o, a, b, v⟩) (h := h) (o := q) hdt)
      have HM2 := Lib.hid (fun (W : World) hW => HM.out W to tl tr (tcn : Nat) hW hok)
      have HW : Hid (wayC l ⟨o, a, b, v⟩ h ⟨to, tl, tr, (tcn : Nat)⟩ = if mtc l ⟨o, a, b, v⟩ ⟨to, tl, tr, (tcn : Nat)⟩ = true then csW h (lvs l ⟨o, a, b, v⟩ ⟨to, tl, tr, (tcn : Nat)⟩) tcn else none) := Lib.hid rfl
      clear hdt hok hc0' hc99
      go_upto_region 5 with fail
      obtain ⟨X, hX⟩ : ∃ X, X = wr.alloc (.cells #[.int .i64 to, .int .i64 tl, .int .i64 tr, .int .i64 (tcn : Nat)] 37) := ⟨_, rfl⟩
      have HXT : Own X wr.heap.size 37 [.int .i64 to, .int .i64 tl, .int .i64 tr, .int .i64 (tcn : Nat)] := by rw [hX]; exact own_endT rfl _ [_, _, _, _]
      have HXB : Below wr.heap.size wr X := by rw [hX]; go_grown
      rw [← hX]
      clear hX hc0 hc1 hc2 hc3
      have HX0 := ho0.below HXB ho0.lt
      have c0 := HX0.cell (j := 0) rfl
      have c1 := HX0.cell (j := 1) rfl
      have c2 := HX0.cell (j := 2) rfl
      have c3 := HX0.cell (j := 3) rfl
      have d0 := HXT.cell (j := 0) rfl
      have d1 := HXT.cell (j := 1) rfl
      have d2 := HXT.cell (j := 2) rfl
      have d3 := HXT.cell (j := 3) rfl
      have hbX : Below w.heap.size w X := hbr.trans (HXB.mono hbr.size)
      have hsx := HXT.lt
      go_wp2_with fail
      refine (HM2.out X hbX).mono ?_
      rintro e W1 ⟨rfl, hb1⟩
      have hbW1 : Below w.heap.size w W1 := hbX.trans (hb1.mono hbX.size)
      have hrW1 : Below wr.heap.size wr W1 := HXB.trans (hb1.mono HXB.size)
      have HT1 := HXT.below hb1 HXT.lt
      have HO0 := ho0.below hrW1 ho0.lt
      have HO1 := ho1.below hrW1 ho1.lt
      have HO2 := ho2.below hrW1 ho2.lt
      clear c0 c1 c2 c3 d0 d1 d2 d3 HX0 HXT HXB hb1 ho0 ho1 ho2
      cases hmt : mtc l ⟨o, a, b, v⟩ ⟨to, tl, tr, (tcn : Nat)⟩ with
      | false =>
        have HN : Hid (pkF l ⟨o, a, b, v⟩ h 0 ts none = pkF l ⟨o, a, b, v⟩ h (k + 1) (ts.drop (k + 1)) q) := Lib.hid (by rw [HR.out, HS.out, HW.out, if_neg (by rw [hmt]; simp), pk1_none])
        clear hmt
        go_wp2
        go_round
        case rel => exact ⟨k + 1, q, by omega, by go_num, HN.out, HO0, HO1, HO2, hbW1⟩
        case measure => (simp [intOf]; omega)
      | true =>
        have HW2 := Lib.hid (show wayC l ⟨o, a, b, v⟩ h ⟨to, tl, tr, (tcn : Nat)⟩ = csW h (lvs l ⟨o, a, b, v⟩ ⟨to, tl, tr, (tcn : Nat)⟩) tcn by rw [HW.out, if_pos hmt])
        have HLV2 := Lib.hid (fun (W : World) hW => HLV.out W to tl tr (tcn : Nat) hW)
        have HCW2 := Lib.hid (fun (W : World) A' c' hW hr => HCW.out W to tl tr tcn A' c' hW h99 hr)
        obtain ⟨L, hL⟩ : ∃ L, lvs l ⟨o, a, b, v⟩ ⟨to, tl, tr, (tcn : Nat)⟩ = L := ⟨_, rfl⟩
        simp only [hL] at HW2 HLV2 HCW2
        obtain ⟨cw, hcw⟩ : ∃ x, csW h L tcn = x := ⟨_, rfl⟩
        rw [hcw] at HW2
        simp only [hcw] at HCW2
        obtain ⟨cs, hcs⟩ : ∃ x, csC cw = x := ⟨_, rfl⟩
        obtain ⟨sm, hsm⟩ : ∃ x, cw.isSome = x := ⟨_, rfl⟩
        simp only [hcs, hsm] at HCW2
        have HS2 : Hid (pkF l ⟨o, a, b, v⟩ h 0 ts none = pkF l ⟨o, a, b, v⟩ h (k + 1) (ts.drop (k + 1)) (pk1 q k cw)) := Lib.hid (by rw [HR.out, HS.out, HW2.out])
        clear hmt hL hcw HW HS HR
        have HF : Hid (∀ W : World, Below W1.heap.size W1 W → Own W w.heap.size 39 [.int .i64 o, .int .i64 a, .int .i64 b, .int .i64 v] ∧ Own W wr.heap.size 37 [.int .i64 to, .int .i64 tl, .int .i64 tr, .int .i64 (tcn : Nat)]) := Lib.hid fun W hW => ⟨HO0.below hW HO0.lt, HT1.below hW HT1.lt⟩
        have HBW := Lib.hid hbW1
        have HOA := Lib.hid (And.intro HO0 (And.intro HO1 HO2))
        have hlts : w.heap.size < wr.heap.size ∧ w.heap.size + 1 + 1 < W1.heap.size := ⟨by omega, HO2.lt⟩
        have HLTS := Lib.hid hlts
        clear HT1 HO0 HO1 HO2 hbW1 hrW1 hlts
        go_upto_region 6 with fail
        obtain ⟨nb, hnb⟩ : ∃ n, w.heap.size = n := ⟨_, rfl⟩
        obtain ⟨nr, hnr⟩ : ∃ n, wr.heap.size = n := ⟨_, rfl⟩
        have HNB := Lib.hid hnb
        have HNR := Lib.hid hnr
        simp only [hnb, hnr] at HF ⊢
        clear hnb hnr
        refine wp_region_stepsB (X := Nat × (Value)) (CwS W1 L) (fun x j => doneL [0, 0, 0, 0, 1, 0, 2, 0, 0, 0, 0, 0] x.1 j) (effL [0, 0, 0, 0, 1, 0, 2, 0, 0, 0, 0, 0]) (0, undef) (fun x => [.agg #[.int .i64 to, .int .i64 tl, .int .i64 tr, .int .i64 (tcn : Nat)], .slice A len cap, .agg #[.int .i64 o, .int .i64 a, .int .i64 b, .int .i64 v], .agg #[.int .i64 to, .int .i64 tl, .int .i64 tr, .int .i64 (tcn : Nat)], x.2, .slice D i dc, .tuple #[.int .i64 cs, .bool sm], .tuple #[.int .i64 cs, .bool sm], .int .i64 cs, .bool sm, .int .i64 cs, .bool sm]) _ (by kernel_rfl) (by kernel_rfl) (by kernel_rfl) (fun x => by simp only [putsD, Act.put, List.setIfInBounds_toArray, List.set_cons_zero, List.set_cons_succ]; exact rfl) h0L ⟨Below.drew (Below.refl _ _), trivial⟩ (fun x => ?_) (fun x wz hDz hSz => ?_)
        · refine AllS.val (by rfl) (by rfl) (fun w hSw hPw => ?_) ?_
          · (try dsimp only at hSw)
            have q0 := (HF.out w hSw.1).2.cell (j := 0) rfl
            have q1 := (HF.out w hSw.1).2.cell (j := 1) rfl
            have q2 := (HF.out w hSw.1).2.cell (j := 2) rfl
            have q3 := (HF.out w hSw.1).2.cell (j := 3) rfl
            go_simp
          refine AllS.val (by rfl) (by rfl) (fun w hSw hPw => by go_simp) ?_
          refine AllS.val (by rfl) (by rfl) (fun w hSw hPw => ?_) ?_
          · (try dsimp only at hSw)
            have q0 := (HF.out w hSw.1).1.cell (j := 0) rfl
            have q1 := (HF.out w hSw.1).1.cell (j := 1) rfl
            have q2 := (HF.out w hSw.1).1.cell (j := 2) rfl
            have q3 := (HF.out w hSw.1).1.cell (j := 3) rfl
            go_simp
          refine AllS.val (by rfl) (by rfl) (fun w hSw hPw => ?_) ?_
          · (try dsimp only at hSw)
            have q0 := (HF.out w hSw.1).2.cell (j := 0) rfl
            have q1 := (HF.out w hSw.1).2.cell (j := 1) rfl
            have q2 := (HF.out w hSw.1).2.cell (j := 2) rfl
            have q3 := (HF.out w hSw.1).2.cell (j := 3) rfl
            go_simp
          refine AllS.turn (fun _ _ => rfl) (by rfl) (fun w hSw hPw K hK => ?_) ?_
          · (try dsimp only at hSw)
            have h0 := leTi (hPw.me rfl)
            have hx0 : x.1 = 0 := by exact Nat.le_zero.1 h0
            obtain ⟨p, y1⟩ := x
            (try dsimp only at hx0)
            subst hx0
            obtain ⟨hb, _⟩ := hSw
            go_simp
            go_at_call 19
            (with_reducible refine (HLV2.out _ (HBW.out.trans (hb.mono HBW.out.size))).mono ?_)
            rintro e w7 ⟨A', c', rfl, ho7, hb7⟩
            go_simp
            exact hK (1, .slice A' L.length c') _ (nxtL rfl (by decide)) ⟨below_via hb hb7, A', c', rfl, ho7.rd⟩
          refine AllS.val (by rfl) (by rfl) (fun w hSw hPw => by go_simp) ?_
          refine AllS.turn (fun _ _ => rfl) (by rfl) (fun w hSw hPw K hK => ?_) ?_
          · (try dsimp only at hSw)
            have h0 := leTi (hPw.me rfl)
            have h1 := geTi (hPw.need (k := 4) rfl (by kernel_rfl))
            have hx0 : x.1 = 1 := Nat.le_antisymm h0 h1
            obtain ⟨p, y1⟩ := x
            (try dsimp only at hx0)
            subst hx0
            obtain ⟨hb, A1, c1, hy1, hr1⟩ := hSw
            (try dsimp only at hy1)
            subst hy1
            go_simp
            go_at_call 32
            (with_reducible refine (HCW2.out _ A1 c1 (HBW.out.trans (hb.mono HBW.out.size)) hr1).mono ?_)
            rintro e w7 ⟨rfl, hb7⟩
            go_simp
            exact hK (2, .slice A1 L.length c1) _ (nxtL rfl (by decide)) ⟨below_via hb hb7, trivial⟩
          refine AllS.val (by rfl) (by rfl) (fun w hSw hPw => by go_simp) ?_
          refine AllS.val (by rfl) (by rfl) (fun w hSw hPw => by go_simp) ?_
          refine AllS.val (by rfl) (by rfl) (fun w hSw hPw => by go_simp) ?_
          refine AllS.val (by rfl) (by rfl) (fun w hSw hPw => by go_simp) ?_
          refine AllS.val (by rfl) (by rfl) (fun w hSw hPw => by go_simp) ?_
          exact AllS.nil
        obtain ⟨p, y1⟩ := x
        obtain ⟨hbz, _⟩ := hSz
        have hnb := HNB.out
        subst hnb
        have hnr := HNR.out
        subst hnr
        clear hDz
        have hq0 := HOA.out.1.below hbz (by have := HLTS.out.2; omega)
        have hq1 := HOA.out.2.1.below hbz (by have := HLTS.out.2; omega)
        have hq2 := HOA.out.2.2.below hbz HLTS.out.2
        have hbwz : Below w.heap.size w wz := HBW.out.trans (hbz.mono HBW.out.size)
        have hqs := hq2.lt
        cases cw with
        | none =>
          have hsm2 : sm = false := by rw [← hsm]; rfl
          subst hsm2
          clear hsm hcs
          go_wp2
          go_round
          case rel => exact ⟨k + 1, q, by omega, by go_num, HS2.out, hq0, hq1, hq2, hbwz⟩
          case measure => (simp [intOf]; omega)
        | some c =>
          have hsm2 : sm = true := by rw [← hsm]; rfl
          have hcs2 : cs = (c : Nat) := by rw [← hcs]; rfl
          subst hsm2 hcs2
          clear hsm hcs
          have f0 := hq2.frozen 0
          have f1 := hq2.frozen 1
          cases q with
          | none =>
            have e0 := hq2.cell (j := 0) (v := .int .i64 (-1)) rfl
            have e1 := hq2.cell (j := 1) (v := .int .i64 0) rfl
            have hset : Own ((wz.setCell ⟨w.heap.size + 1 + 1, 0, none⟩ (.int .i64 (k : Nat))).setCell ⟨w.heap.size + 1 + 1, 1, none⟩ (.int .i64 (c : Nat))) (w.heap.size + 1 + 1) 47 (cCh (some (k, c))) := (hq2.set 0 (.int .i64 (k : Nat))).set 1 (.int .i64 (c : Nat))
            have HSET := Lib.hid hset
            clear hset
            go_wp2
            go_round
            case rel => exact ⟨k + 1, some (k, c), by omega, by go_num, HS2.out, (hq0.far (by simp; omega) _).far (by simp; omega) _, (hq1.far (by simp) _).far (by simp) _, HSET.out, (hbwz.setCell (by simp; omega) _).setCell (by simp; omega) _⟩
            case measure => (simp [intOf]; omega)
          | some p2 =>
            obtain ⟨m, d⟩ := p2
            have e0 := hq2.cell (j := 0) (v := .int .i64 (m : Nat)) rfl
            have e1 := hq2.cell (j := 1) (v := .int .i64 (d : Nat)) rfl
            have hm1 : (((m : Nat) : Int) == -1) = false := by simp
            by_cases hcd : c < d
            · have HS3 := Lib.hid (show pk1 (some (m, d)) k (some c) = some (k, c) by simp only [pk1]; rw [if_pos hcd])
              have hset : Own ((wz.setCell ⟨w.heap.size + 1 + 1, 0, none⟩ (.int .i64 (k : Nat))).setCell ⟨w.heap.size + 1 + 1, 1, none⟩ (.int .i64 (c : Nat))) (w.heap.size + 1 + 1) 47 (cCh (some (k, c))) := (hq2.set 0 (.int .i64 (k : Nat))).set 1 (.int .i64 (c : Nat))
              have HSET := Lib.hid hset
              clear hset
              go_wp2
              go_round
              case rel => exact ⟨k + 1, some (k, c), by omega, by go_num, by rw [HS2.out, HS3.out], (hq0.far (by simp; omega) _).far (by simp; omega) _, (hq1.far (by simp) _).far (by simp) _, HSET.out, (hbwz.setCell (by simp; omega) _).setCell (by simp; omega) _⟩
              case measure => (simp [intOf]; omega)
            · have HS3 := Lib.hid (show pk1 (some (m, d)) k (some c) = some (m, d) by simp only [pk1]; rw [if_neg hcd])
              go_wp2
              go_round
              case rel => exact ⟨k + 1, some (m, d), by omega, by go_num, by rw [HS2.out, HS3.out], hq0, hq1, hq2, hbwz⟩
              case measure => (simp [intOf]; omega)
    · have hkn : k = ts.length := by rw [HTL.out]; omega
      have HE : Hid (pkF l ⟨o, a, b, v⟩ h 0 ts none = q) := Lib.hid (by rw [HR.out, hkn, List.drop_length]; rfl)
      obtain ⟨z0, z1, hz⟩ : ∃ z0 z1, cCh q = [.int .i64 z0, .int .i64 z1] := by
        cases q with
        | none => exact ⟨_, _, rfl⟩
        | some p => exact ⟨_, _, rfl⟩
      have HV : Hid (chV q = .agg #[.int .i64 z0, .int .i64 z1]) := Lib.hid (by unfold chV; rw [hz])
      rw [hz] at ho2
      have e0 := ho2.cell (j := 0) rfl
      have e1 := ho2.cell (j := 1) rfl
      have f0 := ho1.frozen 0
      have f1 := ho1.frozen 1
      have g0 := ho1.cell (j := 0) rfl
      have g1 := ho1.cell (j := 1) rfl
      have HO1 := Lib.hid ho1
      have hbf := Lib.hid ((hbr.setCell (show w.heap.size ≤ (⟨w.heap.size + 1, 0, none⟩ : Addr).block by simp) (.int .i64 z0)).setCell (show w.heap.size ≤ (⟨w.heap.size + 1, 1, none⟩ : Addr).block by simp) (.int .i64 z1))
      clear ho1
      go_wp2
      exact bodyPost_ret (v := .agg #[.int .i64 z0, .int .i64 z1]) (results_cell_row rfl _ _ (w.heap.size + 1) 47 #[.int .i64 z0, .int .i64 z1] _ _ rfl ((HO1.out.set 0 _).set 1 _) Try.underlying47 rfl (by kernel_rfl)) rfl ⟨by rw [HE.out, HV.out], hbf.out⟩

end Go.Proofs.Yteogdcjigigeeaa
