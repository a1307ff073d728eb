/-
  codemasonref.SpanSteps (R2): spans behind steps.
-/
import Derived.Test.YtidjnmigbhaekaaSpanRow
import Derived.Test.YtidjnmigbhaekaaRegionSteps
import Derived.Deep.Cut
namespace Go.Proofs.Ytidjnmigbhaekaa
open Go.RowKit
set_option linter.unusedSimpArgs false
set_option linter.unusedVariables false
set_option maxRecDepth 100000

theorem leS {L : List Nat} {p j : Nat} (h : doneL L p j = false) : p ≤ L.getD j 0 - 1 := by
  unfold doneL at h
  simp only [decide_eq_false_iff_not] at h
  omega

theorem geS {L : List Nat} {p j : Nat} (h : doneL L p j = true) : L.getD j 0 ≤ p := by
  unfold doneL at h
  simpa using h

/-- on the way: all that is left gives what the whole gives -/
def BsAt (n : Nat) (code : List St) (v : List (Int × Int)) (k : Nat) (r : List (Int × Int)) : Prop := RSp n r ∧ bhSp code v = bhSp (code.drop k) r

theorem BsAt.step {n : Nat} {code : List St} {v r : List (Int × Int)} {k t : Nat} {s : St} {x : Int × Int} (h : BsAt n code v k r) (hs : code[k]? = some s) (hc : ckStep n n s.op s.to s.a s.b s.v = 0) (ht : s.to.toNat = t) (hx : mkSp s r = x) : BsAt n code v (k + 1) (r.set t x) :=
  ⟨by rw [← hx]; exact h.1.set (mkSp_ok hc h.1), by rw [h.2, bhSp_drop hs, ht, hx]⟩

theorem getD_spD {l : List (Int × Int)} {i : Nat} {x : Int × Int} (h : l[i]? = some x) : l.getD i spD = x := by rw [List.getD_eq_getElem?_getD, h]; rfl

set_option maxHeartbeats 16000000 in
theorem spanSteps_any (n : Nat) (A VA : Option Addr) (cl cap vc : Nat) (code : List St) (v : List (Int × Int)) (w : World) (hx : RdS w w.heap.size A code) (hv : RdM w w.heap.size VA v) (hl : code.length = cl) (hm : cl ≤ 65536) (hc : ckStepsF n n code = 0) (hok : RSp n v) (hn : 1 ≤ n) (hn6 : n ≤ 6) :
    Calls Try.prog 41 #[.slice A cl cap, .slice VA n vc] w fun e w' => PutTo w n (bhSp code v) e w' := by
  have HL := Lib.hid hl
  have HC := Lib.hid hc
  have HD0 : Hid (BsAt n code v 0 v) := Lib.hid ⟨hok, rfl⟩
  have HO1C : Hid (∀ u ∈ rv cMv v, u.oneCell' = true) := Lib.hid (rv_all (p := fun u => u.oneCell' = true) cMv_one v)
  have HL1 : Hid ((rv cMv v).length = n * 2) := Lib.hid (by rw [rv_len cMv_len, hok.1])
  have HN1 : Hid (VA = none → n = 0) := Lib.hid fun h => by have := RdR.nil (by omega) hv h; rw [hok.1] at this; exact this
  have HNW : Hid (∀ Z : World, Below w.heap.size w Z → ∀ ad, VA = some ad → ∀ j u, (rv cMv v)[j]? = some u → Z.cell? (ad.add j) = some u) := Lib.hid fun Z hZ => (RdM.below hv hZ (Nat.le_refl _)).news cMv_len
  have HVL := Lib.hid hok.1
  have ha_ : 0 + n ≤ maxLen := by unfold maxLen; omega
  have hb_ : (0 + n) * 16 ≤ 140737488355328 := by omega
  clear hl hc hok hv
  go_enter Try.func41, Try.ntmps41
  go_wp2_with (at_builtin; refine wpList_app rfl (.tmp 8) (.tmp 9) 31 rfl w.heap.size 23 2 16 span_app [] rfl (own_empty2 _ _ _ _ (by simp) (by simp)) (rv cMv v) rfl HL1.out HN1.out (HNW.out _ (by go_grown)) HO1C.out ha_ hb_ (by simp) ?_; intro A1 c1 w1 hown1 hg1 hb1; rw [Nat.zero_add, List.nil_append] at hown1)
  obtain ⟨g, rfl, hg0, hg1'⟩ := own_form hown1 (by omega)
  have hbw : Below w.heap.size w w1 := ((by go_grown : Below w.heap.size w (w.alloc (.cells #[] 23)))).trans hb1
  have HO1 : Hid (OwnSp w1 w.heap.size g n c1 v) := Lib.hid ⟨hown1, HVL.out⟩
  clear hown1 hg1 hb1
  go_loopw [13] (fun i wr => ∃ (k : Nat) (r : List (Int × Int)), k ≤ cl ∧ i = .int .i64 k ∧ Hid (BsAt n code v k r) ∧ OwnSp wr w.heap.size g n c1 r ∧ Below w.heap.size w wr) (fun i _ => cl - (intOf i).toNat)
  case atStart => exact ⟨0, v, Nat.zero_le _, by first | rfl | simp, HD0, HO1.out, hbw⟩
  case round =>
    obtain ⟨k, r, hk, rfl, HR, ho, hb⟩ := hrel
    have hsz := hb.size
    by_cases hlt : k < cl
    · obtain ⟨ad, o, t, a, b, vv, rfl, hbl, hd, hc0, hc1, hc2, hc3, hc4⟩ := (RdS.below hx hb (Nat.le_refl _)).at_ (k := k) (by rw [HL.out]; exact hlt)
      have hcks := ckStepsF_at HC.out hd
      simp only [] at hcks
      obtain ⟨⟨ht0, ht1⟩, hcase⟩ := ckStep_cases hcks
      obtain ⟨tn, rfl⟩ := Int.eq_ofNat_of_zero_le ht0
      have htn : tn < n := by omega
      have hrl : r.length = n := HR.out.1.1
      have HRL := Lib.hid hrl
      have HST : Hid (∀ x, mkSp ⟨o, tn, a, b, vv⟩ r = x → BsAt n code v (k + 1) (r.set tn x)) := Lib.hid fun x hx => HR.out.step hd hcks (by simp) hx
      obtain ⟨⟨t0, t1⟩, hrt⟩ : ∃ x, r[tn]? = some x := ⟨_, List.getElem?_eq_getElem (by rw [hrl]; exact htn)⟩
      have HRT := Lib.hid hrt
      have HO := Lib.hid ho
      have hgl := ho.lt
      have hg0 := ho.lt.1
      clear hd hcks hrl hrt ho ht0 ht1
      have hgS : g < wr.heap.size := hgl.2
      have hgS2 : g < wr.heap.size + 1 := by omega
      rcases hcase with ⟨rfl, h2, h3⟩ | ⟨rfl, h2, h3⟩ | ⟨h1, h2, h3, h4, h5, h6⟩
      · have HB := Lib.hid (HST.out (vv, vv) (mkSp_num rfl))
        obtain ⟨q0, q1⟩ := HO.out.cells HRT.out
        have f0 := HO.out.frozen (tn * 2)
        have f1 := HO.out.frozen (tn * 2 + 1)
        simp only at q0 q1
        go_wp2
        go_round
        case rel => exact ⟨k + 1, r.set tn (vv, vv), by omega, by go_num, HB, OwnSp.below (HO.out.put (by rw [HRL.out]; exact htn) (vv, vv)) (by go_grown), hb.trans (by go_grown)⟩
        case measure => (simp [intOf]; omega)
      · obtain ⟨vn, rfl⟩ := Int.eq_ofNat_of_zero_le h2
        have hvn : vn < n := by omega
        obtain ⟨⟨x0, x1⟩, hrv⟩ : ∃ x, r[vn]? = some x := ⟨_, List.getElem?_eq_getElem (by rw [HRL.out]; exact hvn)⟩
        have HB := Lib.hid (HST.out (x0, x1) (by rw [mkSp_var rfl]; simp only [Int.toNat_natCast]; exact getD_spD hrv))
        obtain ⟨q0, q1⟩ := HO.out.cells HRT.out
        obtain ⟨p0, p1⟩ := HO.out.cells hrv
        have f0 := HO.out.frozen (tn * 2)
        have f1 := HO.out.frozen (tn * 2 + 1)
        simp only at q0 q1 p0 p1
        clear hrv
        go_wp2
        go_round
        case rel => exact ⟨k + 1, r.set tn (x0, x1), by omega, by go_num, HB, OwnSp.below (HO.out.put (by rw [HRL.out]; exact htn) (x0, x1)) (by go_grown), hb.trans (by go_grown)⟩
        case measure => (simp [intOf]; omega)
      · obtain ⟨an, rfl⟩ := Int.eq_ofNat_of_zero_le h3
        obtain ⟨bn, rfl⟩ := Int.eq_ofNat_of_zero_le h5
        have han : an < n := by omega
        have hbn : bn < n := by omega
        obtain ⟨⟨x0, x1⟩, hra⟩ : ∃ x, r[an]? = some x := ⟨_, List.getElem?_eq_getElem (by rw [HRL.out]; exact han)⟩
        obtain ⟨⟨y0, y1⟩, hrb⟩ : ∃ x, r[bn]? = some x := ⟨_, List.getElem?_eq_getElem (by rw [HRL.out]; exact hbn)⟩
        have hsx : SpOk (x0, x1) := HR.out.1.2 _ _ hra
        have hsy : SpOk (y0, y1) := HR.out.1.2 _ _ hrb
        obtain ⟨⟨z0, z1⟩, hz⟩ : ∃ z, doSp o (x0, x1) (y0, y1) = z := ⟨_, rfl⟩
        have HB := Lib.hid (HST.out (z0, z1) (by rw [mkSp_op h1]; simp only [Int.toNat_natCast]; rw [getD_spD hra, getD_spD hrb]; exact hz))
        have HDO : Hid (∀ Z : World, Calls Try.prog 9 #[.int .i64 o, .agg #[.int .i64 x0, .int .i64 x1], .agg #[.int .i64 y0, .int .i64 y1]] Z fun e w' => e = .returned (.agg #[.int .i64 z0, .int .i64 z1]) ∧ Below Z.heap.size Z w') := Lib.hid fun Z => by
          have := spanDo_any o (x0, x1) (y0, y1) Z h1 h2 hsx hsy
          rw [hz] at this
          exact this
        obtain ⟨q0, q1⟩ := HO.out.cells HRT.out
        obtain ⟨p0, p1⟩ := HO.out.cells hra
        obtain ⟨s0, s1⟩ := HO.out.cells hrb
        have o1 : (o == 2) = false := by simp; omega
        simp only at q0 q1 p0 p1 s0 s1
        clear hra hrb hsx hsy hz
        go_upto_region 9 with fail
        obtain ⟨X, hX⟩ : ∃ X, X = (wr.alloc (.cells #[.int .i64 o, .int .i64 tn, .int .i64 an, .int .i64 bn, .int .i64 vv] 54)).alloc (.cells #[.int .i64 vv, .int .i64 vv] 23) := ⟨_, rfl⟩
        have hbX : Below wr.heap.size wr X := by rw [hX]; go_grown
        have hS : Own X wr.heap.size 54 [.int .i64 o, .int .i64 tn, .int .i64 an, .int .i64 bn, .int .i64 vv] := by rw [hX]; exact (Own.new wr _ [_, _, _, _, _]).alloc _
        have hT : Own X (wr.heap.size + 1) 23 [.int .i64 vv, .int .i64 vv] := by
          rw [hX]
          have := Own.new (wr.alloc (.cells #[.int .i64 o, .int .i64 tn, .int .i64 an, .int .i64 bn, .int .i64 vv] 54)) 23 [.int .i64 vv, .int .i64 vv]
          simpa using this
        rw [← hX]
        have HOX := Lib.hid (HO.out.below hbX)
        clear hX
        have e0 := hS.cell (j := 0) rfl
        have e1 := hS.cell (j := 1) rfl
        have e2 := hS.cell (j := 2) rfl
        have e3 := hS.cell (j := 3) rfl
        have e4 := hS.cell (j := 4) rfl
        have p0' := (hbX.cell (p := ⟨g, an * 2, none⟩) hgS).trans p0
        have p1' := (hbX.cell (p := ⟨g, an * 2 + 1, none⟩) hgS).trans p1
        have s0' := (hbX.cell (p := ⟨g, bn * 2, none⟩) hgS).trans s0
        have s1' := (hbX.cell (p := ⟨g, bn * 2 + 1, none⟩) hgS).trans s1
        have hSl := hS.lt
        have hTl := hT.lt
        have HT := Lib.hid hT
        have HS := Lib.hid hS
        clear hT hS
        have hgX : g < X.heap.size := Nat.lt_of_lt_of_le hgS hbX.size
        obtain ⟨b7, hb7⟩ : ∃ b7, wr.heap.size = b7 := ⟨_, rfl⟩
        have HB7E := Lib.hid hb7
        rw [hb7] at e0 e1 e2 e3 e4 hSl hTl HT HS
        have hSX : b7 < X.heap.size := hSl
        simp only [hb7]
        clear hb7
        refine wp_region_steps (X := Nat × (Unit)) (fun x w' => (x.1 ≤ 1 → Below X.heap.size X w') ∧ (2 ≤ x.1 → ∃ w5, Below X.heap.size X w5 ∧ w' = (w5.setCell ⟨b7 + 1, 0, none⟩ (.int .i64 z0)).setCell ⟨b7 + 1, 1, none⟩ (.int .i64 z1))) (fun x j => doneL [0, 0, 0, 0, 0, 0, 0, 0, 0, 0, 0, 0, 1, 2] x.1 j) (effL [0, 0, 0, 0, 0, 0, 0, 0, 0, 0, 0, 0, 1, 2]) (0, ()) (fun x => [.pointer (some ⟨b7, 0, none⟩), .int .i64 o, .slice (some ⟨g, 0, none⟩) n c1, .pointer (some ⟨b7, 2, none⟩), .int .i64 (an : Nat), .pointer (some ⟨g, an * 2, none⟩), .agg #[.int .i64 x0, .int .i64 x1], .slice (some ⟨g, 0, none⟩) n c1, .pointer (some ⟨b7, 3, none⟩), .int .i64 (bn : Nat), .pointer (some ⟨g, bn * 2, none⟩), .agg #[.int .i64 y0, .int .i64 y1], .agg #[.int .i64 z0, .int .i64 z1], undef]) _ (by kernel_rfl) (by kernel_rfl) (by kernel_rfl) (fun x => by simp only [putsD, Act.put, List.setIfInBounds_toArray, List.set_cons_zero, List.set_cons_succ]; exact rfl) h0L ⟨fun _ => Below.drew (Below.refl _ _), fun h => absurd h (by decide)⟩ (fun x => ?_) (fun x wz hDz hSz => ?_)
        · refine AllS.val (by rfl) (by rfl) (fun w hSw hPw => by go_simp) ?_
          refine AllS.val (by rfl) (by rfl) (fun w hSw hPw => ?_) ?_
          · (try dsimp only at hSw)
            have hn := leS (hPw.not (j := 13) rfl (by kernel_rfl))
            have hq := hSw.1 hn
            have c := (hq.cell (p := ⟨b7, 0, none⟩) hSX).trans e0
            go_simp
          refine AllS.val (by rfl) (by rfl) (fun w hSw hPw => by go_simp) ?_
          refine AllS.val (by rfl) (by rfl) (fun w hSw hPw => by go_simp) ?_
          refine AllS.val (by rfl) (by rfl) (fun w hSw hPw => ?_) ?_
          · (try dsimp only at hSw)
            have hn := leS (hPw.not (j := 13) rfl (by kernel_rfl))
            have hq := hSw.1 hn
            have c := (hq.cell (p := ⟨b7, 2, none⟩) hSX).trans e2
            go_simp
          refine AllS.val (by rfl) (by rfl) (fun w hSw hPw => by go_simp) ?_
          refine AllS.val (by rfl) (by rfl) (fun w hSw hPw => ?_) ?_
          · (try dsimp only at hSw)
            have hn := leS (hPw.not (j := 13) rfl (by kernel_rfl))
            have hq := hSw.1 hn
            have c := (hq.cell (p := ⟨g, an * 2, none⟩) hgX).trans p0'
            have c' := (hq.cell (p := ⟨g, an * 2 + 1, none⟩) hgX).trans p1'
            go_simp
          refine AllS.val (by rfl) (by rfl) (fun w hSw hPw => by go_simp) ?_
          refine AllS.val (by rfl) (by rfl) (fun w hSw hPw => by go_simp) ?_
          refine AllS.val (by rfl) (by rfl) (fun w hSw hPw => ?_) ?_
          · (try dsimp only at hSw)
            have hn := leS (hPw.not (j := 13) rfl (by kernel_rfl))
            have hq := hSw.1 hn
            have c := (hq.cell (p := ⟨b7, 3, none⟩) hSX).trans e3
            go_simp
          refine AllS.val (by rfl) (by rfl) (fun w hSw hPw => by go_simp) ?_
          refine AllS.val (by rfl) (by rfl) (fun w hSw hPw => ?_) ?_
          · (try dsimp only at hSw)
            have hn := leS (hPw.not (j := 13) rfl (by kernel_rfl))
            have hq := hSw.1 hn
            have c := (hq.cell (p := ⟨g, bn * 2, none⟩) hgX).trans s0'
            have c' := (hq.cell (p := ⟨g, bn * 2 + 1, none⟩) hgX).trans s1'
            go_simp
          refine AllS.turn (fun _ _ => rfl) (by rfl) (fun w hSw hPw K hK => ?_) ?_
          · (try dsimp only at hSw)
            have h0 := leS (hPw.me rfl)
            have hq := hSw.1 (Nat.le_trans h0 (by decide))
            go_simp
            go_at_call 9
            (with_reducible refine (HDO.out _).mono ?_)
            rintro e w7 ⟨rfl, hb7⟩
            go_simp
            have hx0 : x.1 = 0 := by exact Nat.le_zero.1 h0
            obtain ⟨p, y⟩ := x
            (try dsimp only at hx0)
            subst hx0
            exact hK (1, y) _ (nxtL rfl (by decide)) ⟨fun _ => below_via hq hb7, fun h => absurd h (by simp)⟩
          refine AllS.turn (fun _ _ => rfl) (by rfl) (fun w hSw hPw K hK => ?_) ?_
          · (try dsimp only at hSw)
            have h0 := leS (hPw.me rfl)
            have h1 := geS (hPw.need (k := 12) rfl (by kernel_rfl))
            have hq := hSw.1 h0
            have hx0 : x.1 = 1 := Nat.le_antisymm h0 h1
            obtain ⟨p, y⟩ := x
            (try dsimp only at hx0)
            subst hx0
            have hT5 := HT.out.below hq hTl
            have u0 := hT5.cell (j := 0) rfl
            have u1 := hT5.cell (j := 1) rfl
            have v0 := hT5.frozen 0
            have v1 := hT5.frozen 1
            go_simp
            exact hK (2, y) _ (nxtL rfl (by decide)) ⟨fun h => absurd h (by simp), fun _ => ⟨_, hq, rfl⟩⟩
          exact AllS.nil
        obtain ⟨w5, hb5, rfl⟩ := hSz.2 (geS (hDz 13 (by decide) (by decide)))
        obtain ⟨Y, hY⟩ : ∃ Y, Y = (w5.setCell ⟨b7 + 1, 0, none⟩ (.int .i64 z0)).setCell ⟨b7 + 1, 1, none⟩ (.int .i64 z1) := ⟨_, rfl⟩
        have hb7e := HB7E.out
        have hOY : OwnSp Y w.heap.size g n c1 r := by
          rw [hY]
          exact ((HOX.out.below hb5).far (by show g ≠ b7 + 1; omega) _).far (by show g ≠ b7 + 1; omega) _
        have hSY : Own Y b7 54 [.int .i64 o, .int .i64 tn, .int .i64 an, .int .i64 bn, .int .i64 vv] := by
          rw [hY]
          exact ((HS.out.below hb5 hSl).far (by show b7 ≠ b7 + 1; omega) _).far (by show b7 ≠ b7 + 1; omega) _
        have hTY : Own Y (b7 + 1) 23 [.int .i64 z0, .int .i64 z1] := by
          rw [hY]
          exact ((HT.out.below hb5 hTl).set 0 _).set 1 _
        have hbY : Below w.heap.size w Y := by
          rw [hY]
          exact (((hb.trans (hbX.mono hsz)).trans (hb5.mono (Nat.le_trans hsz hbX.size))).setCell (by show w.heap.size ≤ b7 + 1; omega) _).setCell (by show w.heap.size ≤ b7 + 1; omega) _
        rw [← hY]
        clear hY hb5 hSz hDz
        have y1 := hSY.cell (j := 1) rfl
        have z0' := hTY.cell (j := 0) rfl
        have z1' := hTY.cell (j := 1) rfl
        obtain ⟨r0, r1⟩ := hOY.cells HRT.out
        have f0 := hOY.frozen (tn * 2)
        have f1 := hOY.frozen (tn * 2 + 1)
        have hgY := hOY.lt.2
        simp only at r0 r1
        have HOY := Lib.hid hOY
        clear hOY hSY hTY
        go_wp2
        go_round
        case rel => exact ⟨k + 1, r.set tn (z0, z1), by omega, by go_num, HB, HOY.out.put (by rw [HRL.out]; exact htn) (z0, z1), (hbY.setCell (by show w.heap.size ≤ g; omega) _).setCell (by show w.heap.size ≤ g; omega) _⟩
        case measure => (simp [intOf]; omega)
    · have hkl : cl = k := by omega
      have HQ : Hid (bhSp code v = r) := Lib.hid (by rw [HR.out.2, ← hkl, List.drop_of_length_le (by rw [HL.out]; exact Nat.le_refl _)]; rfl)
      clear hkl
      go_wp2
      go_ret
      exact ⟨g, c1, rfl, by rw [HQ.out]; exact ho, hb⟩

end Go.Proofs.Ytidjnmigbhaekaa
