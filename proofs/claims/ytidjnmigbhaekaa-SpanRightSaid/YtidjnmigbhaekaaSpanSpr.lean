/-
  span.spread (R2): a turn in place.
-/
import Derived.Test.YtidjnmigbhaekaaSpanOwn
import Derived.Test.YtidjnmigbhaekaaSpanStep
namespace Go.Proofs.Ytidjnmigbhaekaa
open Go.RowKit
set_option linter.unusedSimpArgs false
set_option linter.unusedVariables false
set_option maxRecDepth 100000

theorem TnG.skip {σ : Type} [DecidableEq σ] {F : FlG σ} {X0 X : List (List σ)} {ch : Bool} {i : Nat} (hF : FlOk F) (h : TnG F X0 X ch i) (hi : i < F.m) (hx : X.getD i [] = []) : TnG F X0 X ch (i + 1) := by
  have h1 := TwG.start hF h hi
  have : oneG F X i = [] := by unfold oneG; rw [if_pos hx]
  rw [this] at h1
  exact h1.block (Nat.zero_le _)

theorem map_edAt {es : List Ed} {L : List (Nat × List (Int × Int))} {m : Nat} {e : Ed} (h : es.map (fun e : Ed => (e.to, e.r)) = L) (he : es[m]? = some e) : L[m]? = some (e.to, e.r) := by rw [← h, List.getElem?_map, he]; rfl

/-- while the edges are listed -/
def LsI (X : World) (n : Nat) (vb : List (Int × Int)) (L : List (Nat × List (Int × Int))) (x : Nat × Value × Value) (w : World) : Prop := Below X.heap.size X w ∧ match x.1 with
  | 0 => True
  | 1 => ∃ h c, x.2.1 = .slice (some ⟨h, 0, none⟩) n c ∧ OwnSp w X.heap.size h n c vb
  | _ => ∃ A c es, x.2.2 = .slice A L.length c ∧ (es.map fun e : Ed => (e.to, e.r)) = L ∧ EdL X.heap.size n A c es w

theorem LsI.two {X : World} {n : Nat} {vb : List (Int × Int)} {L : List (Nat × List (Int × Int))} {x : Nat × Value × Value} {w : World} (h : LsI X n vb L x w) (hx : 2 ≤ x.1) : ∃ A c, x.2.2 = .slice A L.length c := by
  obtain ⟨p, y1, y2⟩ := x
  obtain ⟨_, h⟩ := h
  simp only at hx
  obtain ⟨q, rfl⟩ : ∃ q, p = q + 2 := ⟨p - 2, by omega⟩
  obtain ⟨A, c, es, h1, _⟩ := h
  exact ⟨A, c, h1⟩

set_option maxHeartbeats 16000000 in
theorem spreadS_any (n : Nat) (A : Option Addr) (len cap G B : Nat) (p : List Bk) (hv : List (Int × Int)) (X : List (List (Int × Int))) (cs : List Value) (w : World) (hx : RdP w B A p) (hBG : B ≤ G) (hl : p.length = len) (hc : ckProg n p = 0) (hok : RSp n hv) (hkn : KNW w G n X cs) (hci : CiG (spF n p hv) X) :
    Calls Try.prog 23 #[.slice A len cap, .slice (some ⟨G, 0, none⟩) len len] w fun e w' => ∃ ch Y ds, e = .returned (.bool ch) ∧ KNW w' G n Y ds ∧ TurnG (spF n p hv) X Y ch ∧ Below G w w' := by
  obtain ⟨b1, b2, b3, b4, b5, _⟩ := ckProg_bd hc
  have HC := Lib.hid hc
  have HL := Lib.hid hl
  have HF := Lib.hid (spF_ok hc hok)
  have HM : Hid ((spF n p hv).m = len) := Lib.hid hl
  rw [hl] at b3 b4
  have hn1 : 1 ≤ n := by omega
  have hn6 : n ≤ 6 := by omega
  have HT0 := Lib.hid (TnG.start hci)
  have HKN0 := Lib.hid hkn
  have hGw := hkn.own.lt
  have qT : ∀ (w : World) (a : Option Addr) (n c n' c' : Nat), (binOp .eql 31 (.slice a n c) (.slice none n' c')).run Try.prog w = .ok (.bool a.isNone) w := fun w a n c n' c' => Lib.run_eql_slice_nil w _ _ a n c n' c' Try.underlying31
  clear hl hc hci hkn b1 b2 hok
  go_enter Try.func23, Try.ntmps23
  go_wp2
  go_loopw [5, 12] (fun z5 z12 wr => ∃ (i : Nat) (Y : List (List (Int × Int))) (ds : List Value) (ch : Bool), i ≤ len ∧ z12 = .int .i64 i ∧ z5 = .bool ch ∧ Hid (TnG (spF n p hv) X Y ch i) ∧ KNW wr G n Y ds ∧ Below G w wr) (fun _ z12 _ => len - (intOf z12).toNat)
  case atStart => exact ⟨0, X, cs, false, Nat.zero_le _, rfl, rfl, HT0, HKN0.out, Below.refl _ _⟩
  case round =>
    obtain ⟨i, Y, ds, ch, hi, rfl, rfl, HTN, hkn, hbr⟩ := hrel
    have HKN := Lib.hid hkn
    have hGl := hkn.own.lt
    have HYL : Hid (Y.length = len) := Lib.hid (by rw [HTN.out.ci.ok.1, HM.out])
    clear hkn
    obtain ⟨wo, rfl⟩ : ∃ wo : World, wo = wr := ⟨_, rfl⟩
    by_cases hit : i < len
    · obtain ⟨ad, bk, Ac, cc, rfl, hbl, hd, hrow, e0, e1, e2, e3⟩ := (hx.below hbr hBG).at_ (k := i) (by rw [HL.out]; exact hit)
      have hbk := ckProg_at HC.out hd
      have hcm := manyS_le hd
      have HD := Lib.hid hd
      have HBK := Lib.hid hbk
      obtain ⟨code, te, th, el⟩ := bk
      simp only [] at e0 e1 e2 e3 hrow hcm
      obtain ⟨cl, hcl⟩ : ∃ cl, code.length = cl := ⟨_, rfl⟩
      have HCL := Lib.hid hcl
      rw [hcl] at e0 hcm
      have hblr : (ad.add (i * 4)).block < wo.heap.size := by omega
      have hYi : i < Y.length := by rw [HYL.out]; exact hit
      obtain ⟨a, ha⟩ : ∃ a, Y[i]? = some a := ⟨_, List.getElem?_eq_getElem hYi⟩
      have HA := Lib.hid ha
      have HAD : Hid (Y.getD i [] = a) := Lib.hid (by rw [List.getD_eq_getElem?_getD, ha]; rfl)
      have HROW := Lib.hid hrow
      rcases HKN.out.rows i a ha with ⟨rfl, hcs⟩ | ⟨hane, h0, ca, hcs, hra⟩
      · have q0 := HKN.out.own.cell hcs
        have HSK := Lib.hid (HTN.out.skip HF.out (by rw [HM.out]; exact hit) HAD.out)
        clear ha hcs hd hbk hcl hrow hYi
        go_wp2
        go_round
        case rel => exact ⟨i + 1, Y, ds, ch, by omega, by go_num, rfl, HSK, HKN.out.below (by go_grown), hbr.trans (by go_grown)⟩
        case measure => (simp [intOf]; omega)
      · have hok : RSp n a := by
          have := HTN.out.ci.ok.2 i
          rw [HAD.out] at this
          exact this.resolve_left hane
        have q0 := HKN.out.own.cell hcs
        have HANE := Lib.hid hane
        have HRA := Lib.hid hra
        have HKA := Lib.hid hok
        have HTW := Lib.hid (TwG.start HF.out HTN.out (by rw [HM.out]; exact hit))
        rw [oneG_at HD.out HAD.out HANE.out] at HTW
        simp only [] at HTW
        have HVB := Lib.hid (bhSp_ok HBK.out.code hok)
        simp only [] at HVB
        obtain ⟨W, hW⟩ : ∃ W, W = wo.alloc (.cells #[.slice Ac cl cc, .int .i64 te, .int .i64 th, .int .i64 el] 48) := ⟨_, rfl⟩
        have HWE := Lib.hid hW
        have hbW : Below wo.heap.size wo W := by rw [hW]; go_grown
        have HBW := Lib.hid hbW
        have HOB : Hid (Own W wo.heap.size 48 [.slice Ac cl cc, .int .i64 te, .int .i64 th, .int .i64 el]) := Lib.hid (by rw [hW]; exact Own.new wo _ [_, _, _, _])
        have HBE : Hid (∀ Z : World, Below W.heap.size W Z → Calls Try.prog 38 #[.slice Ac cl cc, .slice (some ⟨h0, 0, none⟩) n ca] Z fun e w' => PutTo Z n (bhSp code a) e w') := Lib.hid fun Z hZ => by
          have hbz : Below wo.heap.size wo Z := hbW.trans (hZ.mono hbW.size)
          exact behindS_any n Ac _ cl cc ca code a Z ((RdS.below HROW.out hbz (by omega)).more (by have := hbz.size; omega)) (HRA.out.below hbz).rd HCL.out (by omega) HBK.out.code HKA.out hn1 hn6
        obtain ⟨vb, hvb⟩ : ∃ vb, bhSp code a = vb := ⟨_, rfl⟩
        rw [hvb] at HBE HVB HTW
        have HED : Hid (∀ (Z : World) (h7 c7 b7 : Nat), OwnSp Z b7 h7 n c7 vb → Calls Try.prog 37 #[.agg #[.slice Ac cl cc, .int .i64 te, .int .i64 th, .int .i64 el], .slice (some ⟨h7, 0, none⟩) n c7] Z fun e w' => EdTo n Z (goSp ⟨code, te, th, el⟩ vb) e w') := Lib.hid fun Z h7 c7 b7 ho => edges_any n p.length Ac _ cl cc c7 code te th el vb Z ho.rd HVB.out HBK.out hn1 hn6
        have HGIN : Hid (∀ e ∈ goSp ⟨code, te, th, el⟩ vb, e.1 < len) := Lib.hid fun e he => by
          have := (goSp_ok HBK.out HVB.out he).1
          rw [HL.out] at this
          exact this
        have HGLN := Lib.hid (goSp_len ⟨code, te, th, el⟩ vb)
        obtain ⟨L, hLe⟩ : ∃ L, goSp ⟨code, te, th, el⟩ vb = L := ⟨_, rfl⟩
        rw [hLe] at HED HGIN HGLN HTW
        obtain ⟨k, hke⟩ : ∃ k, L.length = k := ⟨_, rfl⟩
        have HK := Lib.hid hke
        have hk2 : k ≤ 2 := by rw [← hke]; exact HGLN.out
        clear ha hcs hok hane hra hd hbk hrow hcl hYi hvb hLe hW hbW hke
        go_upto_region 6 with fail
        rw [← HWE.out]
        have hOl := HOB.out.lt
        have k0 := HOB.out.cell (j := 0) rfl
        have k1 := HOB.out.cell (j := 1) rfl
        have k2 := HOB.out.cell (j := 2) rfl
        have k3 := HOB.out.cell (j := 3) rfl
        have q0' := (HBW.out.cell (p := ⟨G, i, none⟩) hGl).trans q0
        have hGW : G < W.heap.size := Nat.lt_of_lt_of_le hGl HBW.out.size
        obtain ⟨b9, hb9⟩ : ∃ b9, wo.heap.size = b9 := ⟨_, rfl⟩
        have HB9 := Lib.hid hb9
        rw [hb9] at k0 k1 k2 k3 hOl HOB
        simp only [hb9]
        clear hb9
        refine wp_region_steps (X := Nat × (Value × Value)) (LsI W n vb L) (fun x j => doneL [0, 0, 0, 0, 0, 0, 0, 1, 2, 0, 0] x.1 j) (effL [0, 0, 0, 0, 0, 0, 0, 1, 2, 0, 0]) (0, (undef, undef)) (fun x => [.agg #[.slice Ac cl cc, .int .i64 te, .int .i64 th, .int .i64 el], .pointer (some ⟨b9, 0, none⟩), .slice Ac cl cc, .slice (some ⟨G, 0, none⟩) len len, .int .i64 (i : Nat), .pointer (some ⟨G, i, none⟩), .slice (some ⟨h0, 0, none⟩) n ca, x.2.1, x.2.2, .int .i64 (k : Nat), .int .i64 0]) _ (by kernel_rfl) (by kernel_rfl) (by kernel_rfl) (fun x => by simp only [putsD, Act.put, List.setIfInBounds_toArray, List.set_cons_zero, List.set_cons_succ]; exact rfl) h0L ⟨Below.drew (Below.refl _ _), trivial⟩ (fun x => ?_) (fun x wz hDz hSz => ?_)
        · refine AllS.val (by rfl) (by rfl) (fun w hSw hPw => ?_) ?_
          · (try dsimp only at hSw)
            have c := (hSw.1.cell (p := ⟨b9, 0, none⟩) hOl).trans k0
            have c1 := (hSw.1.cell (p := ⟨b9, 1, none⟩) hOl).trans k1
            have c2 := (hSw.1.cell (p := ⟨b9, 2, none⟩) hOl).trans k2
            have c3 := (hSw.1.cell (p := ⟨b9, 3, none⟩) hOl).trans k3
            go_simp
          refine AllS.val (by rfl) (by rfl) (fun w hSw hPw => by go_simp) ?_
          refine AllS.val (by rfl) (by rfl) (fun w hSw hPw => ?_) ?_
          · (try dsimp only at hSw)
            have c := (hSw.1.cell (p := ⟨b9, 0, none⟩) hOl).trans k0
            go_simp
          refine AllS.val (by rfl) (by rfl) (fun w hSw hPw => by go_simp) ?_
          refine AllS.val (by rfl) (by rfl) (fun w hSw hPw => by go_simp) ?_
          refine AllS.val (by rfl) (by rfl) (fun w hSw hPw => by go_simp) ?_
          refine AllS.val (by rfl) (by rfl) (fun w hSw hPw => ?_) ?_
          · (try dsimp only at hSw)
            have c := (hSw.1.cell (p := ⟨G, i, none⟩) hGW).trans q0'
            go_simp
          refine AllS.turn (fun _ _ => rfl) (by rfl) (fun w hSw hPw K hK => ?_) ?_
          · (try dsimp only at hSw)
            have h0 := leS (hPw.me rfl)
            have hx0 : x.1 = 0 := by exact Nat.le_zero.1 h0
            obtain ⟨p, y1, y2⟩ := x
            (try dsimp only at hx0)
            subst hx0
            obtain ⟨hq, _⟩ := hSw
            go_simp
            go_at_call 38
            refine (HBE.out _ hq).mono ?_
            rintro e w7 ⟨h7, c7, rfl, ho7, hb7⟩
            go_simp
            exact hK (1, .slice (some ⟨h7, 0, none⟩) n c7, y2) _ (nxtL rfl (by decide)) ⟨below_via hq hb7, h7, c7, rfl, ho7.mono hq.size⟩
          refine AllS.turn (fun _ _ => rfl) (by rfl) (fun w hSw hPw K hK => ?_) ?_
          · (try dsimp only at hSw)
            have h0 := leS (hPw.me rfl)
            have h1 := geS (hPw.need (k := 7) rfl (by kernel_rfl))
            have hx0 : x.1 = 1 := Nat.le_antisymm h0 h1
            obtain ⟨p, y1, y2⟩ := x
            (try dsimp only at hx0)
            subst hx0
            obtain ⟨hq, h7, c7, hy, ho7⟩ := hSw
            (try dsimp only at hy)
            subst hy
            go_simp
            go_at_call 37
            refine (HED.out _ h7 c7 _ ho7).mono ?_
            rintro e w8 ⟨A8, c8, es8, rfl, hes8, hl8, hb8⟩
            go_simp
            exact hK (2, _, .slice A8 L.length c8) _ (nxtL rfl (by decide)) ⟨below_via hq hb8, A8, c8, es8, rfl, hes8, hl8.mono hq.size⟩
          refine AllS.val (by rfl) (by rfl) (fun w hSw hPw => ?_) ?_
          · (try dsimp only at hSw)
            have h1 := geS (hPw.need (k := 8) rfl (by kernel_rfl))
            obtain ⟨A8, c8, hy⟩ := hSw.two h1
            have hk8 := HK.out
            go_simp
          refine AllS.val (by rfl) (by rfl) (fun w hSw hPw => by go_simp) ?_
          exact AllS.nil
        have hd2 := geS (hDz 8 (by decide) (by decide))
        obtain ⟨p9, y1, y2⟩ := x
        (try dsimp only at hd2)
        obtain ⟨q9, rfl⟩ : ∃ q, p9 = q + 2 := ⟨p9 - 2, by simp at hd2; omega⟩
        obtain ⟨hbz, A8, c8, es, hy, hes, hel⟩ := hSz
        (try dsimp only at hy)
        rw [HK.out] at hy
        subst hy
        have HES := Lib.hid hes
        have HEK : Hid (es.length = k) := Lib.hid (by rw [← HK.out, ← hes, List.length_map])
        have HSP0 := Lib.hid (SpE.start HKN.out (HBW.out.trans (hbz.mono HBW.out.size)) hel HBW.out.size hbr)
        clear hDz hd2 hes hel hbz
        obtain ⟨wx, rfl⟩ : ∃ Z : World, Z = wz := ⟨_, rfl⟩
        go_wp2
        go_loopw [5, 32] (fun z5 z32 wr => ∃ (m : Nat) (Y : List (List (Int × Int))) (ds : List Value) (ch : Bool), m ≤ k ∧ z32 = .int .i64 m ∧ z5 = .bool ch ∧ Hid (TwG (spF n p hv) X Y ch i L m) ∧ SpE w G n W.heap.size A8 c8 es m Y ds wr) (fun _ z32 _ => k - (intOf z32).toNat)
        case atStart => exact ⟨0, Y, ds, ch, Nat.zero_le _, by first | rfl | simp, rfl, HTW, HSP0.out⟩
        case round =>
          obtain ⟨m, Y3, ds3, ch3, hm, rfl, rfl, HTW3, hsp⟩ := hrel
          have HSP := Lib.hid hsp
          have hGl3 := hsp.kn.own.lt
          clear hsp
          by_cases hmt : m < k
          · obtain ⟨aj, ed, rfl, hblj, hej, hcj⟩ := RdR.cell (cEd_len n) (by omega) (own_rdR HSP.out.arr rfl) (k := m) (by rw [HEK.out]; exact hmt)
            obtain ⟨to, h7, c7, r7⟩ := ed
            have hc0 : wr.cell? (aj.add (m * 2)) = some (.int .i64 (to : Nat)) := hcj 0 _ rfl
            have hc1 : wr.cell? ⟨(aj.add (m * 2)).block, (aj.add (m * 2)).off + 1, none⟩ = some (.slice (some ⟨h7, 0, none⟩) n c7) := hcj 1 _ rfl
            have hLm := map_edAt HES.out hej
            simp only at hLm
            have htl : to < len := HGIN.out _ (List.mem_of_getElem? hLm)
            have HEJ := Lib.hid hej
            have HLM := Lib.hid hLm
            have hY3 : to < Y3.length := by rw [HTW3.out.tn.ci.ok.1, HM.out]; exact htl
            have HY3 := Lib.hid hY3
            obtain ⟨r, hr⟩ : ∃ r, Y3[to]? = some r := ⟨_, List.getElem?_eq_getElem hY3⟩
            have HRD : Hid (Y3.getD to [] = r) := Lib.hid (by rw [List.getD_eq_getElem?_getD, hr]; rfl)
            have HR7 := Lib.hid (HSP.out.rows m _ (Nat.le_refl _) hej)
            have hr7n : r7 ≠ [] := fun e => by have := HR7.out.1.2; rw [e] at this; simp at this; omega
            have HR7N := Lib.hid hr7n
            have f3 := HSP.out.kn.own.frozen to
            obtain ⟨V, hV⟩ : ∃ V, V = wr.alloc (.cells #[.int .i64 to, .slice (some ⟨h7, 0, none⟩) n c7] 71) := ⟨_, rfl⟩
            have HVE := Lib.hid hV
            have HBV : Hid (Below wr.heap.size wr V) := Lib.hid (by rw [hV]; go_grown)
            have HOV : Hid (Own V wr.heap.size 71 [.int .i64 to, .slice (some ⟨h7, 0, none⟩) n c7]) := Lib.hid (by rw [hV]; exact Own.new wr _ [_, _])
            have HSV := Lib.hid (HSP.out.below HBV.out)
            rcases HSP.out.kn.rows to r hr with ⟨rfl, hcs⟩ | ⟨hrne, h4, c4, hcs, hor⟩
            · have q3 := HSP.out.kn.own.cell hcs
              have HWAY : Hid (TwG (spF n p hv) X (Y3.set to r7) (ch3 || true) i L (m + 1)) := Lib.hid (HTW3.out.way HF.out HLM.out (by unfold joG; rw [if_pos HRD.out]) ⟨fun _ => by rw [HRD.out]; exact HR7N.out, fun _ => rfl⟩)
              rw [Bool.or_true] at HWAY
              have hb9 : ∀ Z : World, Below Z.heap.size Z (Z.alloc (.cells #[.int .i64 to, .slice (some ⟨h7, 0, none⟩) n c7] 71)) := fun Z => by go_grown
              have hk9 := HSP.out.take HEJ.out (by omega)
              simp only at hk9
              have HTK := Lib.hid (hk9.below (hb9 _))
              clear hk9 hb9
              clear hcj hej hLm hY3 hr hr7n hV hcs
              go_wp2
              go_round
              case rel => exact ⟨m + 1, _, _, true, by omega, by go_num, rfl, HWAY, HTK.out⟩
              case measure => (simp [intOf]; omega)
            · have q3 := HSP.out.kn.own.cell hcs
              have hne4 : h7 ≠ h4 := fun e => HR7.out.2 to h4 n c4 hcs e.symm
              have hRr : RSp n r := by
                have := HTW3.out.tn.ci.ok.2 to
                rw [HRD.out] at this
                exact this.resolve_left hrne
              have hjn : joG (spF n p hv) (Y3.getD to []) r7 = joRow r r7 := by unfold joG; rw [HRD.out, if_neg hrne]; rfl
              have hjne : joRow r r7 ≠ [] := fun e => by
                have h1 := joRow_len (a := r) (b := r7) (by rw [hRr.1, HR7.out.1.2])
                rw [e, hRr.1] at h1
                simp at h1
                omega
              have HWAY : Hid (∀ b, b = decide (joRow r r7 ≠ r) → TwG (spF n p hv) X (Y3.set to (joRow r r7)) (ch3 || b) i L (m + 1)) := Lib.hid fun b hb => HTW3.out.way HF.out HLM.out hjn (by rw [hb, decide_eq_true_eq, HRD.out])
              have HWID : Hid (∀ Z Z' : World, Below V.heap.size V Z → Wrote h4 Z Z' → OwnSp Z' (G + 1) h4 n c4 (joRow r r7) → SpE w G n W.heap.size (some aj) c8 es (m + 1) (Y3.set to (joRow r r7)) ds3 Z') := Lib.hid fun Z Z' hZ hw ho => (HSV.out.below hZ).wide hw HY3.out hcs ho hjne
              have HEX : Hid (∀ Z : World, Below V.heap.size V Z → Calls Try.prog 39 #[.slice (some ⟨h4, 0, none⟩) n c4, .slice (some ⟨h7, 0, none⟩) n c7] Z fun e w' => e = .returned (.bool (decide (joRow r r7 ≠ r))) ∧ OwnSp w' (G + 1) h4 n c4 (joRow r r7) ∧ Wrote h4 Z w') := Lib.hid fun Z hZ =>
                extend_any (G + 1) h4 n c4 c7 _ r r7 Z ((hor.below HBV.out).below hZ) ((HR7.out.1.below HBV.out).below hZ).rd (fun ad e => by injection e with e; subst e; exact hne4) HR7.out.1.2 hn6
              obtain ⟨db, hdb⟩ : ∃ db, decide (joRow r r7 ≠ r) = db := ⟨_, rfl⟩
              have HWAYB := Lib.hid (HWAY.out db hdb.symm)
              rw [hdb] at HEX
              have hb4 : wr.heap.size ≠ h4 := by have := hor.lt; omega
              have q3' := (HBV.out.cell (p := ⟨G, to, none⟩) hGl3).trans q3
              have hGV : G < V.heap.size := Nat.lt_of_lt_of_le hGl3 HBV.out.size
              clear hcj hej hLm hY3 hr hr7n hV hcs hor hrne hRr hjn hjne hdb HWAY
              go_upto_region 12 with fail
              rw [← HVE.out]
              have v0 := HOV.out.cell (j := 0) rfl
              have v1 := HOV.out.cell (j := 1) rfl
              have hvl := HOV.out.lt
              obtain ⟨b9', hb9'⟩ : ∃ b, wr.heap.size = b := ⟨_, rfl⟩
              rw [hb9'] at v0 v1 hvl hb4
              simp only [hb9']
              clear hb9'
              refine wp_region_steps (X := Nat × (Unit)) (fun x w' => (x.1 ≤ 0 → Below V.heap.size V w') ∧ (1 ≤ x.1 → ∃ Z, Below V.heap.size V Z ∧ Wrote h4 Z w' ∧ OwnSp w' (G + 1) h4 n c4 (joRow r r7)) ∧ w'.cell? ⟨b9', 0, none⟩ = some (.int .i64 (to : Nat))) (fun x j => doneL [0, 0, 0, 0, 0, 0, 0, 1] x.1 j) (effL [0, 0, 0, 0, 0, 0, 0, 1]) (0, ()) (fun x => [.slice (some ⟨G, 0, none⟩) len len, .pointer (some ⟨b9', 0, none⟩), .int .i64 (to : Nat), .pointer (some ⟨G, to, none⟩), .slice (some ⟨h4, 0, none⟩) n c4, .pointer (some ⟨b9', 1, none⟩), .slice (some ⟨h7, 0, none⟩) n c7, .bool db]) _ (by kernel_rfl) (by kernel_rfl) (by kernel_rfl) (fun x => by simp only [putsD, Act.put, List.setIfInBounds_toArray, List.set_cons_zero, List.set_cons_succ]; exact rfl) h0L ⟨fun _ => Below.drew (Below.refl _ _), fun h => absurd h (by decide), ((Below.refl V.heap.size V).drew.cell (p := ⟨b9', 0, none⟩) hvl).trans v0⟩ (fun x => ?_) (fun x wz hDz hSz => ?_)
              · refine AllS.val (by rfl) (by rfl) (fun w hSw hPw => by go_simp) ?_
                refine AllS.val (by rfl) (by rfl) (fun w hSw hPw => by go_simp) ?_
                refine AllS.val (by rfl) (by rfl) (fun w hSw hPw => ?_) ?_
                · (try dsimp only at hSw)
                  have c := hSw.2.2
                  go_simp
                refine AllS.val (by rfl) (by rfl) (fun w hSw hPw => by go_simp) ?_
                refine AllS.val (by rfl) (by rfl) (fun w hSw hPw => ?_) ?_
                · (try dsimp only at hSw)
                  have hn := leS (hPw.not (j := 7) rfl (by kernel_rfl))
                  have hq := hSw.1 hn
                  have c := (hq.cell (p := ⟨G, to, none⟩) hGV).trans q3'
                  go_simp
                refine AllS.val (by rfl) (by rfl) (fun w hSw hPw => by go_simp) ?_
                refine AllS.val (by rfl) (by rfl) (fun w hSw hPw => ?_) ?_
                · (try dsimp only at hSw)
                  have hn := leS (hPw.not (j := 7) rfl (by kernel_rfl))
                  have hq := hSw.1 hn
                  have c := (hq.cell (p := ⟨b9', 1, none⟩) hvl).trans v1
                  go_simp
                refine AllS.turn (fun _ _ => rfl) (by rfl) (fun w hSw hPw K hK => ?_) ?_
                · (try dsimp only at hSw)
                  have h0 := leS (hPw.me rfl)
                  have hq := hSw.1 h0
                  go_simp
                  go_at_call 39
                  (with_reducible refine (HEX.out _ hq).mono ?_)
                  rintro e w7 ⟨rfl, ho7, hw7⟩
                  go_simp
                  have hx0 : x.1 = 0 := by exact Nat.le_zero.1 h0
                  obtain ⟨p, y⟩ := x
                  (try dsimp only at hx0)
                  subst hx0
                  exact hK (1, y) _ (nxtL rfl (by decide)) ⟨fun h => absurd h (by simp), fun _ => ⟨_, hq, hw7, ho7⟩, (hw7.cell (p := ⟨b9', 0, none⟩) (Nat.lt_of_lt_of_le hvl hq.size) hb4).trans hSw.2.2⟩
                exact AllS.nil
              obtain ⟨Z5, hz5, hw5, ho5⟩ := hSz.2.1 (geS (hDz 7 (by decide) (by decide)))
              have HFI := Lib.hid (HWID.out Z5 wz hz5 hw5 ho5)
              clear hSz hDz hz5 hw5 ho5
              obtain ⟨wy, rfl⟩ : ∃ Z : World, Z = wz := ⟨_, rfl⟩
              cases db
              · rw [Bool.or_false] at HWAYB
                go_wp2
                go_round
                case rel => exact ⟨m + 1, _, ds3, ch3, by omega, by go_num, rfl, HWAYB, HFI.out⟩
                case measure => (simp [intOf]; omega)
              · rw [Bool.or_true] at HWAYB
                go_wp2
                go_round
                case rel => exact ⟨m + 1, _, ds3, true, by omega, by go_num, rfl, HWAYB, HFI.out⟩
                case measure => (simp [intOf]; omega)
          · have HNB := Lib.hid (HTW3.out.block (by rw [HK.out]; omega))
            have hkn3 := HSP.out.kn
            have hbl3 := HSP.out.bel
            go_wp2
            go_round
            case rel => exact ⟨i + 1, Y3, ds3, ch3, by omega, by go_num, rfl, HNB, hkn3, hbl3⟩
            case measure => (simp [intOf]; omega)
    · have HTU := Lib.hid (HTN.out.turn (by rw [HM.out]; omega))
      go_wp2
      go_ret
      exact ⟨ch, Y, ds, rfl, HKN.out, HTU.out, hbr⟩

end Go.Proofs.Ytidjnmigbhaekaa
