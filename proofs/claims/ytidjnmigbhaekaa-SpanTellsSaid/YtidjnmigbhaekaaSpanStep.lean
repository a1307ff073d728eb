/-
  codemasonref.SpanStep (R2): one turn, all anew.
-/
import Derived.Test.YtidjnmigbhaekaaSpanKn
import Derived.Test.YtidjnmigbhaekaaSpanSteps
import Derived.Lib.SliceRun
namespace Go.Proofs.Ytidjnmigbhaekaa
open Go.RowKit
set_option linter.unusedSimpArgs false
set_option linter.unusedVariables false
set_option maxRecDepth 100000

theorem oneG_nil {n : Nat} {p : List Bk} {hv : List (Int × Int)} {X : List (List (Int × Int))} {i : Nat} (h : X.getD i [] = []) : oneG (spF n p hv) X i = [] := by unfold oneG; rw [if_pos h]

theorem oneG_at {n : Nat} {p : List Bk} {hv a : List (Int × Int)} {X : List (List (Int × Int))} {i : Nat} {b : Bk} (hb : p[i]? = some b) (h : X.getD i [] = a) (ha : a ≠ []) : oneG (spF n p hv) X i = goSp b (bhSp b.code a) := by
  unfold oneG
  rw [if_neg (by rw [h]; exact ha), h]
  show (match p[i]? with | some b => goSp b (bhSp b.code a) | none => []) = _
  rw [hb]

/-- spanPut, whatever stands there -/
theorem spanPut_any (n cv hv : Nat) (p : List Bk) (st r row : List (Int × Int)) (sl : Value) (w : World) (G : Nat)
    (hr : (r = [] ∧ sl = .slice none 0 0) ∨ (r ≠ [] ∧ ∃ h c, sl = .slice (some ⟨h, 0, none⟩) r.length c ∧ h ≠ G ∧ h < w.heap.size ∧ RdM w w.heap.size (some ⟨h, 0, none⟩) r)) (hrl : r = [] ∨ r.length = n)
    (hrow : RdM w w.heap.size (some ⟨hv, 0, none⟩) row) (hl : row.length = n) (hn : 1 ≤ n) (hn6 : n ≤ 6) :
    Calls Try.prog 40 #[sl, .slice (some ⟨hv, 0, none⟩) n cv] w fun e w' => PutTo w n (joG (spF n p st) r row) e w' := by
  rcases hr with ⟨rfl, rfl⟩ | ⟨hne, h, c, rfl, _, _, hrd⟩
  · exact spanPut_nil _ n cv row w hrow hl hn hn6
  · have hrl' := hrl.resolve_left hne
    have := spanPut_row ⟨h, 0, none⟩ (some ⟨hv, 0, none⟩) n c cv r row w hrd hrow hrl' hl hn hn6
    rw [hrl']
    unfold joG
    rw [if_neg hne]
    exact this

set_option maxHeartbeats 32000000 in
theorem spanStep_any (n : Nat) (A VA : Option Addr) (len cap vcap g : Nat) (p : List Bk) (st : List (Int × Int)) (X : List (List (Int × Int))) (cs : List Value) (w : World) (hx : RdP w w.heap.size A p) (hh : RdM w w.heap.size VA st) (hk : KNS w g X cs) (hl : p.length = len) (hc : ckProg n p = 0) (hok : RSp n st) (hX : MatOk (spF n p st) X) :
    Calls Try.prog 26 #[.slice A len cap, .slice VA n vcap, .slice (some ⟨g, 0, none⟩) len len] w fun e w' => (∃ G ds, e = .returned (.slice (some ⟨G, 0, none⟩) len len) ∧ KNS w' G (stpN (spF n p st) X len) ds) ∧ Below w.heap.size w w' := by
  obtain ⟨b1, b2, b3, b4, b5, _⟩ := ckProg_bd hc
  have HC := Lib.hid hc
  have HL := Lib.hid hl
  have HX := Lib.hid hX
  have HXL : Hid (X.length = len) := Lib.hid (by rw [hX.1]; exact hl)
  have HF := Lib.hid (spF_ok hc hok)
  rw [hl] at b3 b4
  have hn1 : 1 ≤ n := by omega
  have hn6 : n ≤ 6 := by omega
  have hmk := make_nils (P := Try.prog) 32 31 Try.underlying32 (by kernel_rfl) len (by omega)
  have qT : ∀ (w : World) (a : Option Addr) (n c n' c' : Nat), (binOp .eql 31 (.slice a n c) (.slice none n' c')).run Try.prog w = .ok (.bool a.isNone) w := fun w a n c n' c' => Lib.run_eql_slice_nil w _ _ a n c n' c' Try.underlying31
  have HPN := Lib.hid (fun (Z : World) (hZ : Below w.heap.size w Z) => spanPut_nil VA n vcap st Z ((RdM.below hh hZ (Nat.le_refl _)).more hZ.size) hok.1 hn1 hn6)
  have HSTL := Lib.hid hok.1
  have HK := Lib.hid hk
  have HSTE : Hid ((List.replicate len ([] : List (Int × Int))).set 0 st = stpN (spF n p st) X 0) := Lib.hid (by rw [← hl]; rfl)
  have hgw := hk.own.lt
  clear hc hl hh hok hk hX
  have hkn0 := KNS.start w len
  have hown0 : Own (w.alloc (.cells (nils len).toArray 31)) w.heap.size 31 (nils len) := hkn0.own
  have hbs : Below w.heap.size w (w.alloc (.cells (nils len).toArray 31)) := by go_grown
  have hss : (w.alloc (.cells (nils len).toArray 31)).heap.size = w.heap.size + 1 := by simp
  have HN0 := Lib.hid hkn0
  clear hkn0
  go_enter Try.func26, Try.ntmps26
  go_wp2_with (go_at_call 40; (with_reducible refine (HPN.out _ hbs).mono ?_); rintro e w1 ⟨h1, c1, rfl, ho1, hb1⟩; have hown1 := hown0.below hb1 (by rw [hss]; exact Nat.lt_succ_self _); have q0 := hown1.cell (j := 0) (v := .slice none 0 0) (by unfold nils; rw [List.getElem?_replicate, if_pos (by omega)]); have f0 := hown1.frozen 0)
  have hkn1 := (HN0.out.below hb1).put (j := 0) (c := c1) (a := st) (h := h1) (fun e => by have := HSTL.out; rw [e] at this; simp at this; omega) ho1.rd ho1.lt.2 (by have := ho1.lt.1; rw [hss] at this; omega)
  rw [HSTE.out, HSTL.out] at hkn1
  have hbw1 : Below w.heap.size w (w1.setCell ⟨w.heap.size, 0, none⟩ (.slice (some ⟨h1, 0, none⟩) n c1)) := (hbs.trans (hb1.mono (by rw [hss]; exact Nat.le_succ _))).setCell (Nat.le_refl _) _
  have HKN1 := Lib.hid hkn1
  have HBW1 := Lib.hid hbw1
  obtain ⟨w2, hw2⟩ : ∃ w2, w2 = w1.setCell ⟨w.heap.size, 0, none⟩ (.slice (some ⟨h1, 0, none⟩) n c1) := ⟨_, rfl⟩
  rw [← hw2] at HKN1 HBW1 ⊢
  clear hw2 hkn1 hbw1 hown1 q0 f0 ho1 hb1 hown0 hbs
  obtain ⟨G, hG⟩ : ∃ G, w.heap.size = G := ⟨_, rfl⟩
  have HG := Lib.hid hG
  rw [hG] at HKN1 HBW1 hgw
  simp only [hG]
  clear hG
  go_loopw [21] (fun z wr => ∃ (i : Nat) (Y : List (List (Int × Int))) (ds : List Value), i ≤ len ∧ z = .int .i64 i ∧ Hid (Y = stpN (spF n p st) X i) ∧ KNS wr G Y ds ∧ Below G w wr) (fun z _ => len - (intOf z).toNat)
  case atStart => exact ⟨0, _, _, Nat.zero_le _, rfl, Lib.hid rfl, HKN1.out, HBW1.out⟩
  case round =>
    obtain ⟨i, Y, ds, hi, rfl, HY, hkn, hb⟩ := hrel
    have HKN := Lib.hid hkn
    have hGl := hkn.own.lt
    clear hkn
    by_cases hil : i < len
    · have hbw : Below w.heap.size w wr := by rw [HG.out]; exact hb
      have hszw := hbw.size
      have hXi : i < X.length := by rw [HXL.out]; exact hil
      obtain ⟨a, ha⟩ : ∃ a, X[i]? = some a := ⟨_, List.getElem?_eq_getElem hXi⟩
      have hgd : X.getD i [] = a := by rw [List.getD_eq_getElem?_getD, ha]; rfl
      have HGD := Lib.hid hgd
      have HSUC : Hid (stpN (spF n p st) X (i + 1) = (oneG (spF n p st) X i).foldl (ptG (spF n p st)) Y) := Lib.hid (by rw [HY.out]; rfl)
      have hkr := HK.out.below hbw
      obtain ⟨ad, bk, Ac, cc, rfl, hbl, hd, hrow, e0, e1, e2, e3⟩ := (hx.below hbw (Nat.le_refl _)).at_ (k := i) (by rw [HL.out]; exact hil)
      have HD := Lib.hid hd
      have HBK := Lib.hid (ckProg_at HC.out hd)
      have hcm := manyS_le hd
      obtain ⟨code, te, th, el⟩ := bk
      simp only [] at e0 e1 e2 e3 hrow hcm
      obtain ⟨cl, hcl⟩ : ∃ cl, code.length = cl := ⟨_, rfl⟩
      rw [hcl] at e0 hcm
      rcases hkr.rows i a ha with ⟨rfl, hcs⟩ | ⟨hane, ha0, ca, hcs, hag, hal0, hra⟩
      · have q0 := hkr.own.cell hcs
        have hgr := hkr.own.lt
        have HN : Hid (Y = stpN (spF n p st) X (i + 1)) := Lib.hid (by rw [HSUC.out, oneG_nil HGD.out]; rfl)
        clear hd hrow hcs hkr ha hgd
        go_wp2
        go_round
        case rel => exact ⟨i + 1, Y, ds, by omega, by go_num, HN, HKN.out.below (by go_grown), hb.trans (by go_grown)⟩
        case measure => (simp [intOf]; omega)
      · have q0 := hkr.own.cell hcs
        have hgr := hkr.own.lt
        have hka : RSp n a := by have := (HX.out.2 i).resolve_left (by rw [hgd]; exact hane); rw [hgd] at this; exact this
        have hal := hka.1
        rw [hal] at q0
        have HCODE := Lib.hid HBK.out.code
        have HRW : Hid (RSp n (bhSp code a)) := Lib.hid (bhSp_ok HCODE.out hka)
        have HONE : Hid (oneG (spF n p st) X i = goSp ⟨code, te, th, el⟩ (bhSp code a)) := Lib.hid (oneG_at HD.out hgd hane)
        have HSS : Hid (∀ Z : World, Below wr.heap.size wr Z → Calls Try.prog 41 #[.slice Ac cl cc, .slice (some ⟨ha0, 0, none⟩) n ca] Z fun e w' => PutTo Z n (bhSp code a) e w') := Lib.hid fun Z hZ =>
          spanSteps_any n Ac _ cl cc ca code a Z (((hrow.more hszw).below hZ (Nat.le_refl _)).more hZ.size) ((RdM.below hra hZ (Nat.le_refl _)).more hZ.size) hcl (by omega) HCODE.out hka hn1 hn6
        clear hd hrow hcs hkr ha hgd hra hka hal hcl
        obtain ⟨row, hrowe⟩ : ∃ row, bhSp code a = row := ⟨_, rfl⟩
        rw [hrowe] at HRW HONE HSS
        clear hrowe
        go_upto_region 7 with fail
        obtain ⟨W0, hW0⟩ : ∃ W0, W0 = wr.alloc (.cells #[.slice Ac cl cc, .int .i64 te, .int .i64 th, .int .i64 el] 48) := ⟨_, rfl⟩
        have hbW : Below wr.heap.size wr W0 := by rw [hW0]; go_grown
        have hbx : Own W0 wr.heap.size 48 [.slice Ac cl cc, .int .i64 te, .int .i64 th, .int .i64 el] := by rw [hW0]; exact Own.new wr _ [_, _, _, _]
        rw [← hW0]
        clear hW0
        have bx0 := hbx.cell (j := 0) rfl
        have bxl := hbx.lt
        have q1 := (hbW.cell (p := ⟨g, i, none⟩) hgr).trans q0
        have hgW : g < W0.heap.size := Nat.lt_of_lt_of_le hgr hbW.size
        have HBX := Lib.hid hbx
        clear hbx
        obtain ⟨b9, hb9⟩ : ∃ b9, wr.heap.size = b9 := ⟨_, rfl⟩
        have HB9 := Lib.hid hb9
        rw [hb9] at bx0 bxl HBX
        simp only [hb9]
        clear hb9
        refine wp_region_steps (X := Nat × (Nat × Nat × Nat × Nat)) (fun x w' => (x.1 ≤ 0 → Below W0.heap.size W0 w') ∧ (1 ≤ x.1 → Below W0.heap.size W0 w' ∧ OwnSp w' W0.heap.size x.2.1 n x.2.2.1 row) ∧ (2 ≤ x.1 → x.2.2.2 = (x.2.1, x.2.2.1))) (fun x j => doneL [0, 0, 0, 0, 0, 0, 1, 2] x.1 j) (effL [0, 0, 0, 0, 0, 0, 1, 2]) (0, (0, 0, 0, 0)) (fun x => [.pointer (some ⟨b9, 0, none⟩), .slice Ac cl cc, .slice (some ⟨g, 0, none⟩) len len, .int .i64 (i : Nat), .pointer (some ⟨g, i, none⟩), .slice (some ⟨ha0, 0, none⟩) n ca, .slice (some ⟨x.2.1, 0, none⟩) n x.2.2.1, .slice (some ⟨x.2.2.2.1, 0, none⟩) n x.2.2.2.2]) _ (by kernel_rfl) (by kernel_rfl) (by kernel_rfl) (fun x => by simp only [putsD, Act.put, List.setIfInBounds_toArray, List.set_cons_zero, List.set_cons_succ]; exact rfl) h0L ⟨fun _ => Below.drew (Below.refl _ _), fun h => absurd h (by decide), fun h => absurd h (by decide)⟩ (fun x => ?_) (fun x wz hDz hSz => ?_)
        · refine AllS.val (by rfl) (by rfl) (fun w hSw hPw => by go_simp) ?_
          refine AllS.val (by rfl) (by rfl) (fun w hSw hPw => ?_) ?_
          · (try dsimp only at hSw)
            have hn := leS (hPw.not (j := 6) rfl (by kernel_rfl))
            have hq := hSw.1 hn
            have c := (hq.cell (p := ⟨b9, 0, none⟩) bxl).trans bx0
            go_simp
          refine AllS.val (by rfl) (by rfl) (fun w hSw hPw => by go_simp) ?_
          refine AllS.val (by rfl) (by rfl) (fun w hSw hPw => by go_simp) ?_
          refine AllS.val (by rfl) (by rfl) (fun w hSw hPw => by go_simp) ?_
          refine AllS.val (by rfl) (by rfl) (fun w hSw hPw => ?_) ?_
          · (try dsimp only at hSw)
            have hn := leS (hPw.not (j := 6) rfl (by kernel_rfl))
            have hq := hSw.1 hn
            have c := (hq.cell (p := ⟨g, i, none⟩) hgW).trans q1
            go_simp
          refine AllS.turn (fun _ _ => rfl) (by rfl) (fun w hSw hPw K hK => ?_) ?_
          · (try dsimp only at hSw)
            have h0 := leS (hPw.me rfl)
            have hq := hSw.1 h0
            go_simp
            go_at_call 41
            (with_reducible refine (HSS.out _ (below_via hbW hq)).mono ?_)
            rintro e w7 ⟨h7, c7, rfl, ho7, hb7⟩
            go_simp
            have hx0 : x.1 = 0 := by exact Nat.le_zero.1 h0
            obtain ⟨p, y⟩ := x
            (try dsimp only at hx0)
            subst hx0
            exact hK (1, h7, c7, y.2.2) _ (nxtL rfl (by decide)) ⟨fun h => absurd h (by simp), fun _ => ⟨below_via hq hb7, own_mono ho7.1 hq.size, ho7.2⟩, fun h => absurd h (by simp)⟩
          refine AllS.turn (fun _ _ => rfl) (by rfl) (fun w hSw hPw K hK => ?_) ?_
          · (try dsimp only at hSw)
            have h0 := leS (hPw.me rfl)
            have h1 := geS (hPw.need (k := 6) rfl (by kernel_rfl))
            have hx0 : x.1 = 1 := Nat.le_antisymm h0 h1
            have ho := hSw.2.1 h1
            obtain ⟨p, y1, y2, y3, y4⟩ := x
            (try dsimp only at hx0)
            subst hx0
            go_simp
            exact hK (2, y1, y2, y1, y2) _ (nxtL rfl (by decide)) ⟨fun h => absurd h (by simp), fun _ => ho, fun _ => rfl⟩
          exact AllS.nil
        obtain ⟨hb7, ho7⟩ := hSz.2.1 (Nat.le_trans (by decide) (geS (hDz 7 (by decide) (by decide))))
        have he7 := hSz.2.2 (geS (hDz 7 (by decide) (by decide)))
        obtain ⟨p7, hv0, cv0, hv, cv⟩ := x
        (try dsimp only at ho7 he7)
        injection he7 with he8 he9
        subst he8 he9
        have hGW : G < W0.heap.size := Nat.lt_of_lt_of_le hGl hbW.size
        have hb9e := HB9.out
        have hvlt := ho7.lt
        have HSW : Hid (SwI w G b9 hv cv n [.slice Ac cl cc, .int .i64 te, .int .i64 th, .int .i64 el] row Y ds wz) := Lib.hid
          ⟨(HKN.out.below hbW).below hb7, HBX.out.below hb7 bxl, ⟨own_mono ho7.1 hGW, ho7.2⟩, (HKN.out.below hbW).free hvlt.1, (hb.trans (hbW.mono (Nat.le_of_lt hGl))).trans (hb7.mono (Nat.le_of_lt hGW)), by omega, by omega⟩
        clear hSz hDz hb7 ho7 bx0 q1
        have bxt := HSW.out.box.cell (j := 1) rfl
        have bxh := HSW.out.box.cell (j := 2) rfl
        have bxb := HSW.out.box.lt
        have HYM : Hid (MatOk (spF n p st) Y) := Lib.hid (by rw [HY.out]; exact (stpG HF.out HX.out (by show i ≤ p.length; rw [HL.out]; exact hi)).1)
        have HYL : Hid (Y.length = len) := Lib.hid (by rw [HYM.out.1]; exact HL.out)
        by_cases hte : te = -1
        · subst hte
          by_cases hth : th = -1
          · subst hth
            have HN : Hid (Y = stpN (spF n p st) X (i + 1)) := Lib.hid (by rw [HSUC.out, HONE.out]; rfl)
            go_wp2
            go_round
            case rel => exact ⟨i + 1, Y, ds, by omega, by go_num, HN, HSW.out.kn, HSW.out.bel⟩
            case measure => (simp [intOf]; omega)
          · have hthn : 0 ≤ th ∧ th < len := by have := HBK.out.th; rw [HL.out] at this; simp only at this; omega
            obtain ⟨hth0, hth1⟩ := hthn
            obtain ⟨tn, rfl⟩ := Int.eq_ofNat_of_zero_le hth0
            have htl : tn < len := by omega
            have hthb : ((tn : Int) != -1) = true := by simp only [bne_iff_ne, ne_eq]; omega
            have hthb2 : ((tn : Int) == -1) = false := by simp only [beq_eq_false_iff_ne, ne_eq]; omega
            have HN : Hid (Y.set tn (joG (spF n p st) (Y.getD tn []) row) = stpN (spF n p st) X (i + 1)) := Lib.hid (by
              rw [HSUC.out, HONE.out]
              unfold goSp
              rw [if_pos rfl, if_neg hth]
              simp only [List.foldl_cons, List.foldl_nil, Int.toNat_natCast]
              rfl)
            clear hth
            obtain ⟨r, hr⟩ : ∃ r, Y[tn]? = some r := ⟨_, List.getElem?_eq_getElem (by rw [HYL.out]; exact htl)⟩
            obtain ⟨slA, hslA⟩ : ∃ sl, ds[tn]? = some sl := ⟨_, List.getElem?_eq_getElem (by rw [HSW.out.kn.len, HYL.out]; exact htl)⟩
            have hrd : Y.getD tn [] = r := by rw [List.getD_eq_getElem?_getD, hr]; rfl
            rw [hrd] at HN
            have HPA : Hid (∀ Z : World, Below wz.heap.size wz Z → Calls Try.prog 40 #[slA, .slice (some ⟨hv, 0, none⟩) n cv] Z fun e w' => PutTo Z n (joG (spF n p st) r row) e w') := Lib.hid fun Z hZ =>
              spanPut_any n cv hv p st r row slA Z G (by
                rcases (HSW.out.kn.below hZ).rows tn r hr with ⟨h1, h2⟩ | ⟨h1, h, c, h2, h3⟩
                · rw [hslA] at h2; injection h2 with h2; exact .inl ⟨h1, h2⟩
                · rw [hslA] at h2; injection h2 with h2; exact .inr ⟨h1, h, c, h2, h3⟩) (by
                have := HYM.out.2 tn
                rw [hrd] at this
                exact this.elim .inl fun h => .inr h.1) (HSW.out.row.below hZ).rd HSW.out.row.2 hn1 hn6
            obtain ⟨R, hR⟩ : ∃ R, joG (spF n p st) r row = R := ⟨_, rfl⟩
            rw [hR] at HN HPA
            clear hR hr hrd
            go_upto_region 10 with fail
            have bxA := HSW.out.box.cell (j := 2) rfl
            have hblA := HSW.out.box.lt
            have nxA := HSW.out.kn.own.cell hslA
            have hGlA := HSW.out.kn.own.lt
            refine wp_region_steps (X := Nat × (Nat × Nat)) (fun x w' => (x.1 ≤ 1 → Below wz.heap.size wz w') ∧ (x.1 = 1 → OwnSp w' wz.heap.size x.2.1 n x.2.2 R) ∧ (2 ≤ x.1 → ∃ Z5, Below wz.heap.size wz Z5 ∧ OwnSp Z5 wz.heap.size x.2.1 n x.2.2 R ∧ w' = Z5.setCell ⟨G, tn, none⟩ (.slice (some ⟨x.2.1, 0, none⟩) n x.2.2))) (fun x j => doneL [0, 0, 0, 0, 0, 0, 0, 0, 0, 1, 0, 2] x.1 j) (effL [0, 0, 0, 0, 0, 0, 0, 0, 0, 1, 0, 2]) (0, (0, 0)) (fun x => [.slice (some ⟨G, 0, none⟩) len len, .pointer (some ⟨b9, 2, none⟩), .int .i64 (tn : Nat), .slice (some ⟨G, 0, none⟩) len len, .pointer (some ⟨b9, 2, none⟩), .int .i64 (tn : Nat), .pointer (some ⟨G, tn, none⟩), slA, .slice (some ⟨hv, 0, none⟩) n cv, .slice (some ⟨x.2.1, 0, none⟩) n x.2.2, .pointer (some ⟨G, tn, none⟩), undef]) _ (by kernel_rfl) (by kernel_rfl) (by kernel_rfl) (fun x => by simp only [putsD, Act.put, List.setIfInBounds_toArray, List.set_cons_zero, List.set_cons_succ]; exact rfl) h0L ⟨fun _ => Below.drew (Below.refl _ _), fun h => absurd h (by decide), fun h => absurd h (by decide)⟩ (fun x => ?_) (fun x wz hDz hSz => ?_)
            · refine AllS.val (by rfl) (by rfl) (fun w hSw hPw => by go_simp) ?_
              refine AllS.val (by rfl) (by rfl) (fun w hSw hPw => by go_simp) ?_
              refine AllS.val (by rfl) (by rfl) (fun w hSw hPw => ?_) ?_
              · (try dsimp only at hSw)
                have hn := leS (hPw.not (j := 11) rfl (by kernel_rfl))
                have hq := hSw.1 hn
                have c := (hq.cell (p := ⟨b9, 2, none⟩) hblA).trans bxA
                go_simp
              refine AllS.val (by rfl) (by rfl) (fun w hSw hPw => by go_simp) ?_
              refine AllS.val (by rfl) (by rfl) (fun w hSw hPw => by go_simp) ?_
              refine AllS.val (by rfl) (by rfl) (fun w hSw hPw => ?_) ?_
              · (try dsimp only at hSw)
                have hn := leS (hPw.not (j := 11) rfl (by kernel_rfl))
                have hq := hSw.1 hn
                have c := (hq.cell (p := ⟨b9, 2, none⟩) hblA).trans bxA
                go_simp
              refine AllS.val (by rfl) (by rfl) (fun w hSw hPw => by go_simp) ?_
              refine AllS.val (by rfl) (by rfl) (fun w hSw hPw => ?_) ?_
              · (try dsimp only at hSw)
                have hn := leS (hPw.not (j := 11) rfl (by kernel_rfl))
                have hq := hSw.1 hn
                have c := (hq.cell (p := ⟨G, tn, none⟩) hGlA).trans nxA
                go_simp
              refine AllS.val (by rfl) (by rfl) (fun w hSw hPw => by go_simp) ?_
              refine AllS.turn (fun _ _ => rfl) (by rfl) (fun w hSw hPw K hK => ?_) ?_
              · (try dsimp only at hSw)
                have h0 := leS (hPw.me rfl)
                have hq := hSw.1 (Nat.le_trans h0 (by decide))
                go_simp
                go_at_call 40
                (with_reducible refine (HPA.out _ hq).mono ?_)
                rintro e w7 ⟨h7, c7, rfl, ho7, hb7⟩
                go_simp
                have hx0 : x.1 = 0 := by exact Nat.le_zero.1 h0
                obtain ⟨p, y⟩ := x
                (try dsimp only at hx0)
                subst hx0
                exact hK (1, h7, c7) _ (nxtL rfl (by decide)) ⟨fun _ => below_via hq hb7, fun _ => ⟨own_mono ho7.1 hq.size, ho7.2⟩, fun h => absurd h (by simp)⟩
              refine AllS.val (by rfl) (by rfl) (fun w hSw hPw => by go_simp) ?_
              refine AllS.turn (fun _ _ => rfl) (by rfl) (fun w hSw hPw K hK => ?_) ?_
              · (try dsimp only at hSw)
                have h0 := leS (hPw.me rfl)
                have h1 := geS (hPw.need (k := 9) rfl (by kernel_rfl))
                have hq := hSw.1 h0
                have hx0 : x.1 = 1 := Nat.le_antisymm h0 h1
                have ho := hSw.2.1 hx0
                obtain ⟨p, y1, y2⟩ := x
                (try dsimp only at hx0)
                subst hx0
                have hoG := HSW.out.kn.own.below hq hGlA
                have k0 := hoG.cell hslA
                have k1 := hoG.frozen tn
                go_simp
                exact hK (2, y1, y2) _ (nxtL rfl (by decide)) ⟨fun h => absurd h (by simp), fun h => absurd h (by simp), fun _ => ⟨_, hq, ho, rfl⟩⟩
              exact AllS.nil
            obtain ⟨Z5A, hbA, hoA, hwzA⟩ := hSz.2.2 (geS (hDz 11 (by decide) (by decide)))
            obtain ⟨pA, hA, cA⟩ := x
            (try dsimp only at hoA hwzA)
            have HPA_ := Lib.hid (HSW.out.put (j := tn) hbA hoA hn1)
            have HBA := Lib.hid hbA
            have HWA := Lib.hid hwzA
            rw [← hwzA] at HPA_
            clear hSz hDz hbA hoA hwzA
            obtain ⟨ZA, rfl⟩ : ∃ Z : World, Z = wz := ⟨_, rfl⟩
            go_wp2
            go_round
            case rel => exact ⟨i + 1, _, _, by omega, by go_num, HN, HPA_.out.kn, HPA_.out.bel⟩
            case measure => (simp [intOf]; omega)
        · have hten : 0 ≤ te ∧ te < n := by have := HBK.out.test; simp only at this; omega
          have hthn : 0 ≤ th ∧ th < len := by have := HBK.out.th; rw [HL.out] at this; simp only at this; omega
          have heln : 0 ≤ el ∧ el < len := by have := HBK.out.el; rw [HL.out] at this; simp only at this; exact this hten.1
          obtain ⟨ht0, ht1⟩ := hten
          obtain ⟨hh0, hh1⟩ := hthn
          obtain ⟨hl0, hl1⟩ := heln
          obtain ⟨tn, rfl⟩ := Int.eq_ofNat_of_zero_le ht0
          obtain ⟨hn', rfl⟩ := Int.eq_ofNat_of_zero_le hh0
          obtain ⟨en, rfl⟩ := Int.eq_ofNat_of_zero_le hl0
          have htl : tn < n := by omega
          have hhl : hn' < len := by omega
          have hel : en < len := by omega
          have hteb : ((tn : Int) == -1) = false := by simp only [beq_eq_false_iff_ne, ne_eq]; omega
          obtain ⟨⟨t0, t1⟩, hrt⟩ : ∃ x, row[tn]? = some x := ⟨_, List.getElem?_eq_getElem (by rw [HRW.out.1]; exact htl)⟩
          have hsp : SpOk (t0, t1) := HRW.out.2 _ _ hrt
          obtain ⟨hs0, hs1, hs2⟩ := hsp
          simp only at hs0 hs1 hs2
          have HGO : Hid (goSp ⟨code, (tn : Int), (hn' : Int), (en : Int)⟩ row = (if 0 < t1 then [(hn', row.set tn (max t0 1, t1))] else []) ++ (if t0 = 0 then [(en, row.set tn spD)] else [])) := Lib.hid (by
            unfold goSp hiSp
            rw [if_neg hte]
            simp only [Int.toNat_natCast]
            rw [getD_spD hrt])
          rw [HGO.out] at HONE
          obtain ⟨q0', q1'⟩ := HSW.out.row.cells hrt
          simp only at q0' q1'
          have hrtl : tn < row.length := by rw [HRW.out.1]; exact htl
          have HRT := Lib.hid hrt
          have hvz := HSW.out.row.lt.2
          clear hte hrt
          go_upto_region 12 with fail
          obtain ⟨Z1, hZ1⟩ : ∃ Z1, Z1 = wz.alloc (.cells #[.int .i64 t0, .int .i64 t1] 23) := ⟨_, rfl⟩
          have hbz : Below wz.heap.size wz Z1 := by rw [hZ1]; go_grown
          have hT1 : Own Z1 wz.heap.size 23 [.int .i64 t0, .int .i64 t1] := by rw [hZ1]; exact Own.new wz _ [_, _]
          rw [← hZ1]
          clear hZ1
          have HS1 := Lib.hid (HSW.out.below hbz)
          have hvz1 := HS1.out.row.lt.1
          obtain ⟨b11, hb11⟩ : ∃ b11, wz.heap.size = b11 := ⟨_, rfl⟩
          have hGz := HSW.out.kn.own.lt
          rw [hb11] at hT1 hvz hGz
          simp only [hb11]
          clear hb11 bxt bxh bxb q0' q1' hbz
          have HT1 := Lib.hid hT1
          have k0 := hT1.cell (j := 0) rfl
          have k1 := hT1.cell (j := 1) rfl
          have kl := hT1.lt
          clear hT1
          by_cases hp : 0 < t1
          · have hpb : decide (0 < t1) = true := by simpa using hp
            by_cases hz : t0 = 0
            · subst hz
              have HN : Hid (ptG (spF n p st) (ptG (spF n p st) Y (hn', row.set tn (1, t1))) (en, row.set tn spD) = stpN (spF n p st) X (i + 1)) := Lib.hid (by
                rw [HSUC.out, HONE.out, if_pos hp, if_pos rfl]
                rfl)
              obtain ⟨q0', q1'⟩ := HS1.out.row.cells HRT.out
              have f0 := HS1.out.row.frozen (tn * 2)
              have bx1 := HS1.out.box.cell (j := 1) rfl
              have bxl := HS1.out.box.lt
              have hv1 := HS1.out.row.lt.2
              simp only at q0' q1'
              go_upto_region 15 with fail
              obtain ⟨Z2, hZ2⟩ : ∃ Z2, Z2 = Z1.setCell ⟨hv, tn * 2, none⟩ (.int .i64 1) := ⟨_, rfl⟩
              have HS2 : Hid (SwI w G b9 hv cv n [.slice Ac cl cc, .int .i64 (tn : Nat), .int .i64 (hn' : Nat), .int .i64 (en : Nat)] (row.set tn (1, t1)) Y ds Z2) := Lib.hid (by rw [hZ2]; exact HS1.out.poke0 HRT.out 1)
              have HT2 : Hid (Own Z2 b11 23 [.int .i64 0, .int .i64 t1]) := Lib.hid (by rw [hZ2]; exact HT1.out.far (by show b11 ≠ hv; omega) _)
              rw [← hZ2]
              clear hZ2 q0' q1' f0 bx1 bxl hv1 k0 k1 kl
              have HRW1 : Hid (RSp n (row.set tn (1, t1))) := Lib.hid (HRW.out.set ⟨by simp, by show (1 : Int) ≤ t1; omega, by show t1 ≤ 255; omega⟩)
              obtain ⟨rA, hrA⟩ : ∃ r, (Y)[hn']? = some r := ⟨_, List.getElem?_eq_getElem (by rw [HYL.out]; exact hhl)⟩
              obtain ⟨slA, hslA⟩ : ∃ sl, (ds)[hn']? = some sl := ⟨_, List.getElem?_eq_getElem (by rw [HS2.out.kn.len, HYL.out]; exact hhl)⟩
              have hrdA : (Y).getD hn' [] = rA := by rw [List.getD_eq_getElem?_getD, hrA]; rfl
              have HPA : Hid (∀ Z : World, Below Z2.heap.size Z2 Z → Calls Try.prog 40 #[slA, .slice (some ⟨hv, 0, none⟩) n cv] Z fun e w' => PutTo Z n (joG (spF n p st) rA (row.set tn (1, t1))) e w') := Lib.hid fun Z hZ =>
                spanPut_any n cv hv p st rA (row.set tn (1, t1)) slA Z G (by
                  rcases (HS2.out.kn.below hZ).rows hn' rA hrA with ⟨h1, h2⟩ | ⟨h1, h, c, h2, h3⟩
                  · rw [hslA] at h2; injection h2 with h2; exact .inl ⟨h1, h2⟩
                  · rw [hslA] at h2; injection h2 with h2; exact .inr ⟨h1, h, c, h2, h3⟩) (by
                  have := HYM.out.2 hn'
                  rw [hrdA] at this
                  exact this.elim .inl fun h => .inr h.1) (HS2.out.row.below hZ).rd HS2.out.row.2 hn1 hn6
              have HRA : Hid ((Y).set hn' (joG (spF n p st) rA (row.set tn (1, t1))) = ptG (spF n p st) (Y) (hn', row.set tn (1, t1))) := Lib.hid (by unfold ptG; rw [hrdA])
              obtain ⟨RA, hRA⟩ : ∃ R, joG (spF n p st) rA (row.set tn (1, t1)) = R := ⟨_, rfl⟩
              rw [hRA] at HPA HRA
              clear hRA hrA hrdA
              have bxA := HS2.out.box.cell (j := 2) rfl
              have hblA := HS2.out.box.lt
              have nxA := HS2.out.kn.own.cell hslA
              have hGlA := HS2.out.kn.own.lt
              refine wp_region_steps (X := Nat × (Nat × Nat)) (fun x w' => (x.1 ≤ 1 → Below Z2.heap.size Z2 w') ∧ (x.1 = 1 → OwnSp w' Z2.heap.size x.2.1 n x.2.2 RA) ∧ (2 ≤ x.1 → ∃ Z5, Below Z2.heap.size Z2 Z5 ∧ OwnSp Z5 Z2.heap.size x.2.1 n x.2.2 RA ∧ w' = Z5.setCell ⟨G, hn', none⟩ (.slice (some ⟨x.2.1, 0, none⟩) n x.2.2))) (fun x j => doneL [0, 0, 0, 0, 0, 0, 0, 0, 0, 1, 0, 2] x.1 j) (effL [0, 0, 0, 0, 0, 0, 0, 0, 0, 1, 0, 2]) (0, (0, 0)) (fun x => [.slice (some ⟨G, 0, none⟩) len len, .pointer (some ⟨b9, 2, none⟩), .int .i64 (hn' : Nat), .slice (some ⟨G, 0, none⟩) len len, .pointer (some ⟨b9, 2, none⟩), .int .i64 (hn' : Nat), .pointer (some ⟨G, hn', none⟩), slA, .slice (some ⟨hv, 0, none⟩) n cv, .slice (some ⟨x.2.1, 0, none⟩) n x.2.2, .pointer (some ⟨G, hn', none⟩), undef]) _ (by kernel_rfl) (by kernel_rfl) (by kernel_rfl) (fun x => by simp only [putsD, Act.put, List.setIfInBounds_toArray, List.set_cons_zero, List.set_cons_succ]; exact rfl) h0L ⟨fun _ => Below.drew (Below.refl _ _), fun h => absurd h (by decide), fun h => absurd h (by decide)⟩ (fun x => ?_) (fun x wz hDz hSz => ?_)
              · refine AllS.val (by rfl) (by rfl) (fun w hSw hPw => by go_simp) ?_
                refine AllS.val (by rfl) (by rfl) (fun w hSw hPw => by go_simp) ?_
                refine AllS.val (by rfl) (by rfl) (fun w hSw hPw => ?_) ?_
                · (try dsimp only at hSw)
                  have hn := leS (hPw.not (j := 11) rfl (by kernel_rfl))
                  have hq := hSw.1 hn
                  have c := (hq.cell (p := ⟨b9, 2, none⟩) hblA).trans bxA
                  go_simp
                refine AllS.val (by rfl) (by rfl) (fun w hSw hPw => by go_simp) ?_
                refine AllS.val (by rfl) (by rfl) (fun w hSw hPw => by go_simp) ?_
                refine AllS.val (by rfl) (by rfl) (fun w hSw hPw => ?_) ?_
                · (try dsimp only at hSw)
                  have hn := leS (hPw.not (j := 11) rfl (by kernel_rfl))
                  have hq := hSw.1 hn
                  have c := (hq.cell (p := ⟨b9, 2, none⟩) hblA).trans bxA
                  go_simp
                refine AllS.val (by rfl) (by rfl) (fun w hSw hPw => by go_simp) ?_
                refine AllS.val (by rfl) (by rfl) (fun w hSw hPw => ?_) ?_
                · (try dsimp only at hSw)
                  have hn := leS (hPw.not (j := 11) rfl (by kernel_rfl))
                  have hq := hSw.1 hn
                  have c := (hq.cell (p := ⟨G, hn', none⟩) hGlA).trans nxA
                  go_simp
                refine AllS.val (by rfl) (by rfl) (fun w hSw hPw => by go_simp) ?_
                refine AllS.turn (fun _ _ => rfl) (by rfl) (fun w hSw hPw K hK => ?_) ?_
                · (try dsimp only at hSw)
                  have h0 := leS (hPw.me rfl)
                  have hq := hSw.1 (Nat.le_trans h0 (by decide))
                  go_simp
                  go_at_call 40
                  (with_reducible refine (HPA.out _ hq).mono ?_)
                  rintro e w7 ⟨h7, c7, rfl, ho7, hb7⟩
                  go_simp
                  have hx0 : x.1 = 0 := by exact Nat.le_zero.1 h0
                  obtain ⟨p, y⟩ := x
                  (try dsimp only at hx0)
                  subst hx0
                  exact hK (1, h7, c7) _ (nxtL rfl (by decide)) ⟨fun _ => below_via hq hb7, fun _ => ⟨own_mono ho7.1 hq.size, ho7.2⟩, fun h => absurd h (by simp)⟩
                refine AllS.val (by rfl) (by rfl) (fun w hSw hPw => by go_simp) ?_
                refine AllS.turn (fun _ _ => rfl) (by rfl) (fun w hSw hPw K hK => ?_) ?_
                · (try dsimp only at hSw)
                  have h0 := leS (hPw.me rfl)
                  have h1 := geS (hPw.need (k := 9) rfl (by kernel_rfl))
                  have hq := hSw.1 h0
                  have hx0 : x.1 = 1 := Nat.le_antisymm h0 h1
                  have ho := hSw.2.1 hx0
                  obtain ⟨p, y1, y2⟩ := x
                  (try dsimp only at hx0)
                  subst hx0
                  have hoG := HS2.out.kn.own.below hq hGlA
                  have k0 := hoG.cell hslA
                  have k1 := hoG.frozen hn'
                  go_simp
                  exact hK (2, y1, y2) _ (nxtL rfl (by decide)) ⟨fun h => absurd h (by simp), fun h => absurd h (by simp), fun _ => ⟨_, hq, ho, rfl⟩⟩
                exact AllS.nil
              obtain ⟨Z5A, hbA, hoA, hwzA⟩ := hSz.2.2 (geS (hDz 11 (by decide) (by decide)))
              obtain ⟨pA, hA, cA⟩ := x
              (try dsimp only at hoA hwzA)
              have HPA_ := Lib.hid (HS2.out.put (j := hn') hbA hoA hn1)
              have HBA := Lib.hid hbA
              have HWA := Lib.hid hwzA
              rw [← hwzA] at HPA_
              clear hSz hDz hbA hoA hwzA
              obtain ⟨ZA, rfl⟩ : ∃ Z : World, Z = wz := ⟨_, rfl⟩
              have HT3 : Hid (Own ZA b11 23 [.int .i64 0, .int .i64 t1]) := Lib.hid (by rw [HWA.out]; exact (HT2.out.below HBA.out HT2.out.lt).far (by show b11 ≠ G; omega) _)
              have HYM1 : Hid (MatOk (spF n p st) (Y.set hn' RA)) := Lib.hid (by rw [HRA.out]; exact ptG_ok HF.out HYM.out (by show hn' < p.length; rw [HL.out]; exact hhl) HRW1.out)
              have HYL1 : Hid ((Y.set hn' RA).length = len) := Lib.hid (by rw [List.length_set]; exact HYL.out)
              obtain ⟨Y1, hY1⟩ : ∃ Y1, Y.set hn' RA = Y1 := ⟨_, rfl⟩
              obtain ⟨ds1, hds1⟩ : ∃ ds1, ds.set hn' (.slice (some ⟨hA, 0, none⟩) n cA) = ds1 := ⟨_, rfl⟩
              rw [hY1] at HYM1 HYL1 HRA HPA_
              rw [hds1] at HPA_
              rw [← HRA.out] at HN
              clear hY1 hds1
              have k0 := HT3.out.cell (j := 0) rfl
              have kl := HT3.out.lt
              have bx1 := HPA_.out.box.cell (j := 1) rfl
              have bxl := HPA_.out.box.lt
              obtain ⟨q0', q1'⟩ := HPA_.out.row.cells (i := tn) (x := (1, t1)) (List.getElem?_set_self hrtl)
              have f0 := HPA_.out.row.frozen (tn * 2)
              have f1 := HPA_.out.row.frozen (tn * 2 + 1)
              have hv1 := HPA_.out.row.lt.2
              simp only at q0' q1'
              go_upto_region 18 with fail
              obtain ⟨Z4, hZ4⟩ : ∃ Z4, Z4 = (ZA.setCell ⟨hv, tn * 2, none⟩ (.int .i64 0)).setCell ⟨hv, tn * 2 + 1, none⟩ (.int .i64 0) := ⟨_, rfl⟩
              have HS4 : Hid (SwI w G b9 hv cv n [.slice Ac cl cc, .int .i64 (tn : Nat), .int .i64 (hn' : Nat), .int .i64 (en : Nat)] (row.set tn spD) Y1 ds1 Z4) := Lib.hid (by
                have h4 := HPA_.out.poke (i := tn) (by rw [List.length_set]; exact hrtl) spD
                rw [List.set_set] at h4
                rw [hZ4]
                exact h4)
              rw [← hZ4]
              clear hZ4 q0' q1' f0 f1 bx1 bxl hv1 k0 kl
              have HRW2 : Hid (RSp n (row.set tn spD)) := Lib.hid (HRW.out.set ⟨by simp [spD], by simp [spD], by simp [spD]⟩)
              obtain ⟨rB, hrB⟩ : ∃ r, (Y1)[en]? = some r := ⟨_, List.getElem?_eq_getElem (by rw [HYL1.out]; exact hel)⟩
              obtain ⟨slB, hslB⟩ : ∃ sl, (ds1)[en]? = some sl := ⟨_, List.getElem?_eq_getElem (by rw [HS4.out.kn.len, HYL1.out]; exact hel)⟩
              have hrdB : (Y1).getD en [] = rB := by rw [List.getD_eq_getElem?_getD, hrB]; rfl
              have HPB : Hid (∀ Z : World, Below Z4.heap.size Z4 Z → Calls Try.prog 40 #[slB, .slice (some ⟨hv, 0, none⟩) n cv] Z fun e w' => PutTo Z n (joG (spF n p st) rB (row.set tn spD)) e w') := Lib.hid fun Z hZ =>
                spanPut_any n cv hv p st rB (row.set tn spD) slB Z G (by
                  rcases (HS4.out.kn.below hZ).rows en rB hrB with ⟨h1, h2⟩ | ⟨h1, h, c, h2, h3⟩
                  · rw [hslB] at h2; injection h2 with h2; exact .inl ⟨h1, h2⟩
                  · rw [hslB] at h2; injection h2 with h2; exact .inr ⟨h1, h, c, h2, h3⟩) (by
                  have := HYM1.out.2 en
                  rw [hrdB] at this
                  exact this.elim .inl fun h => .inr h.1) (HS4.out.row.below hZ).rd HS4.out.row.2 hn1 hn6
              have HRB : Hid ((Y1).set en (joG (spF n p st) rB (row.set tn spD)) = ptG (spF n p st) (Y1) (en, row.set tn spD)) := Lib.hid (by unfold ptG; rw [hrdB])
              obtain ⟨RB, hRB⟩ : ∃ R, joG (spF n p st) rB (row.set tn spD) = R := ⟨_, rfl⟩
              rw [hRB] at HPB HRB
              clear hRB hrB hrdB
              have bxB := HS4.out.box.cell (j := 3) rfl
              have hblB := HS4.out.box.lt
              have nxB := HS4.out.kn.own.cell hslB
              have hGlB := HS4.out.kn.own.lt
              refine wp_region_steps (X := Nat × (Nat × Nat)) (fun x w' => (x.1 ≤ 1 → Below Z4.heap.size Z4 w') ∧ (x.1 = 1 → OwnSp w' Z4.heap.size x.2.1 n x.2.2 RB) ∧ (2 ≤ x.1 → ∃ Z5, Below Z4.heap.size Z4 Z5 ∧ OwnSp Z5 Z4.heap.size x.2.1 n x.2.2 RB ∧ w' = Z5.setCell ⟨G, en, none⟩ (.slice (some ⟨x.2.1, 0, none⟩) n x.2.2))) (fun x j => doneL [0, 0, 0, 0, 0, 0, 0, 0, 0, 1, 0, 2] x.1 j) (effL [0, 0, 0, 0, 0, 0, 0, 0, 0, 1, 0, 2]) (0, (0, 0)) (fun x => [.slice (some ⟨G, 0, none⟩) len len, .pointer (some ⟨b9, 3, none⟩), .int .i64 (en : Nat), .slice (some ⟨G, 0, none⟩) len len, .pointer (some ⟨b9, 3, none⟩), .int .i64 (en : Nat), .pointer (some ⟨G, en, none⟩), slB, .slice (some ⟨hv, 0, none⟩) n cv, .slice (some ⟨x.2.1, 0, none⟩) n x.2.2, .pointer (some ⟨G, en, none⟩), undef]) _ (by kernel_rfl) (by kernel_rfl) (by kernel_rfl) (fun x => by simp only [putsD, Act.put, List.setIfInBounds_toArray, List.set_cons_zero, List.set_cons_succ]; exact rfl) h0L ⟨fun _ => Below.drew (Below.refl _ _), fun h => absurd h (by decide), fun h => absurd h (by decide)⟩ (fun x => ?_) (fun x wz hDz hSz => ?_)
              · refine AllS.val (by rfl) (by rfl) (fun w hSw hPw => by go_simp) ?_
                refine AllS.val (by rfl) (by rfl) (fun w hSw hPw => by go_simp) ?_
                refine AllS.val (by rfl) (by rfl) (fun w hSw hPw => ?_) ?_
                · (try dsimp only at hSw)
                  have hn := leS (hPw.not (j := 11) rfl (by kernel_rfl))
                  have hq := hSw.1 hn
                  have c := (hq.cell (p := ⟨b9, 3, none⟩) hblB).trans bxB
                  go_simp
                refine AllS.val (by rfl) (by rfl) (fun w hSw hPw => by go_simp) ?_
                refine AllS.val (by rfl) (by rfl) (fun w hSw hPw => by go_simp) ?_
                refine AllS.val (by rfl) (by rfl) (fun w hSw hPw => ?_) ?_
                · (try dsimp only at hSw)
                  have hn := leS (hPw.not (j := 11) rfl (by kernel_rfl))
                  have hq := hSw.1 hn
                  have c := (hq.cell (p := ⟨b9, 3, none⟩) hblB).trans bxB
                  go_simp
                refine AllS.val (by rfl) (by rfl) (fun w hSw hPw => by go_simp) ?_
                refine AllS.val (by rfl) (by rfl) (fun w hSw hPw => ?_) ?_
                · (try dsimp only at hSw)
                  have hn := leS (hPw.not (j := 11) rfl (by kernel_rfl))
                  have hq := hSw.1 hn
                  have c := (hq.cell (p := ⟨G, en, none⟩) hGlB).trans nxB
                  go_simp
                refine AllS.val (by rfl) (by rfl) (fun w hSw hPw => by go_simp) ?_
                refine AllS.turn (fun _ _ => rfl) (by rfl) (fun w hSw hPw K hK => ?_) ?_
                · (try dsimp only at hSw)
                  have h0 := leS (hPw.me rfl)
                  have hq := hSw.1 (Nat.le_trans h0 (by decide))
                  go_simp
                  go_at_call 40
                  (with_reducible refine (HPB.out _ hq).mono ?_)
                  rintro e w7 ⟨h7, c7, rfl, ho7, hb7⟩
                  go_simp
                  have hx0 : x.1 = 0 := by exact Nat.le_zero.1 h0
                  obtain ⟨p, y⟩ := x
                  (try dsimp only at hx0)
                  subst hx0
                  exact hK (1, h7, c7) _ (nxtL rfl (by decide)) ⟨fun _ => below_via hq hb7, fun _ => ⟨own_mono ho7.1 hq.size, ho7.2⟩, fun h => absurd h (by simp)⟩
                refine AllS.val (by rfl) (by rfl) (fun w hSw hPw => by go_simp) ?_
                refine AllS.turn (fun _ _ => rfl) (by rfl) (fun w hSw hPw K hK => ?_) ?_
                · (try dsimp only at hSw)
                  have h0 := leS (hPw.me rfl)
                  have h1 := geS (hPw.need (k := 9) rfl (by kernel_rfl))
                  have hq := hSw.1 h0
                  have hx0 : x.1 = 1 := Nat.le_antisymm h0 h1
                  have ho := hSw.2.1 hx0
                  obtain ⟨p, y1, y2⟩ := x
                  (try dsimp only at hx0)
                  subst hx0
                  have hoG := HS4.out.kn.own.below hq hGlB
                  have k0 := hoG.cell hslB
                  have k1 := hoG.frozen en
                  go_simp
                  exact hK (2, y1, y2) _ (nxtL rfl (by decide)) ⟨fun h => absurd h (by simp), fun h => absurd h (by simp), fun _ => ⟨_, hq, ho, rfl⟩⟩
                exact AllS.nil
              obtain ⟨Z5B, hbB, hoB, hwzB⟩ := hSz.2.2 (geS (hDz 11 (by decide) (by decide)))
              obtain ⟨pB, hB, cB⟩ := x
              (try dsimp only at hoB hwzB)
              have HPB_ := Lib.hid (HS4.out.put (j := en) hbB hoB hn1)
              have HBB := Lib.hid hbB
              have HWB := Lib.hid hwzB
              rw [← hwzB] at HPB_
              clear hSz hDz hbB hoB hwzB
              obtain ⟨ZB, rfl⟩ : ∃ Z : World, Z = wz := ⟨_, rfl⟩
              rw [← HRB.out] at HN
              go_wp2
              go_round
              case rel => exact ⟨i + 1, _, _, by omega, by go_num, HN, HPB_.out.kn, HPB_.out.bel⟩
              case measure => (simp [intOf]; omega)
            · have hzb : (t0 == 0) = false := by simp only [beq_eq_false_iff_ne, ne_eq]; omega
              have HN : Hid (ptG (spF n p st) Y (hn', row) = stpN (spF n p st) X (i + 1)) := Lib.hid (by
                have e : row.set tn (max t0 1, t1) = row := list_set_same (by rw [HRT.out, show max t0 1 = t0 by omega])
                rw [HSUC.out, HONE.out, if_pos hp, if_neg hz, e]
                rfl)
              go_upto_region 15 with fail
              clear k0 k1 kl
              obtain ⟨rA, hrA⟩ : ∃ r, (Y)[hn']? = some r := ⟨_, List.getElem?_eq_getElem (by rw [HYL.out]; exact hhl)⟩
              obtain ⟨slA, hslA⟩ : ∃ sl, (ds)[hn']? = some sl := ⟨_, List.getElem?_eq_getElem (by rw [HS1.out.kn.len, HYL.out]; exact hhl)⟩
              have hrdA : (Y).getD hn' [] = rA := by rw [List.getD_eq_getElem?_getD, hrA]; rfl
              have HPA : Hid (∀ Z : World, Below Z1.heap.size Z1 Z → Calls Try.prog 40 #[slA, .slice (some ⟨hv, 0, none⟩) n cv] Z fun e w' => PutTo Z n (joG (spF n p st) rA (row)) e w') := Lib.hid fun Z hZ =>
                spanPut_any n cv hv p st rA (row) slA Z G (by
                  rcases (HS1.out.kn.below hZ).rows hn' rA hrA with ⟨h1, h2⟩ | ⟨h1, h, c, h2, h3⟩
                  · rw [hslA] at h2; injection h2 with h2; exact .inl ⟨h1, h2⟩
                  · rw [hslA] at h2; injection h2 with h2; exact .inr ⟨h1, h, c, h2, h3⟩) (by
                  have := HYM.out.2 hn'
                  rw [hrdA] at this
                  exact this.elim .inl fun h => .inr h.1) (HS1.out.row.below hZ).rd HS1.out.row.2 hn1 hn6
              have HRA : Hid ((Y).set hn' (joG (spF n p st) rA (row)) = ptG (spF n p st) (Y) (hn', row)) := Lib.hid (by unfold ptG; rw [hrdA])
              obtain ⟨RA, hRA⟩ : ∃ R, joG (spF n p st) rA (row) = R := ⟨_, rfl⟩
              rw [hRA] at HPA HRA
              clear hRA hrA hrdA
              have bxA := HS1.out.box.cell (j := 2) rfl
              have hblA := HS1.out.box.lt
              have nxA := HS1.out.kn.own.cell hslA
              have hGlA := HS1.out.kn.own.lt
              refine wp_region_steps (X := Nat × (Nat × Nat)) (fun x w' => (x.1 ≤ 1 → Below Z1.heap.size Z1 w') ∧ (x.1 = 1 → OwnSp w' Z1.heap.size x.2.1 n x.2.2 RA) ∧ (2 ≤ x.1 → ∃ Z5, Below Z1.heap.size Z1 Z5 ∧ OwnSp Z5 Z1.heap.size x.2.1 n x.2.2 RA ∧ w' = Z5.setCell ⟨G, hn', none⟩ (.slice (some ⟨x.2.1, 0, none⟩) n x.2.2))) (fun x j => doneL [0, 0, 0, 0, 0, 0, 0, 0, 0, 1, 0, 2] x.1 j) (effL [0, 0, 0, 0, 0, 0, 0, 0, 0, 1, 0, 2]) (0, (0, 0)) (fun x => [.slice (some ⟨G, 0, none⟩) len len, .pointer (some ⟨b9, 2, none⟩), .int .i64 (hn' : Nat), .slice (some ⟨G, 0, none⟩) len len, .pointer (some ⟨b9, 2, none⟩), .int .i64 (hn' : Nat), .pointer (some ⟨G, hn', none⟩), slA, .slice (some ⟨hv, 0, none⟩) n cv, .slice (some ⟨x.2.1, 0, none⟩) n x.2.2, .pointer (some ⟨G, hn', none⟩), undef]) _ (by kernel_rfl) (by kernel_rfl) (by kernel_rfl) (fun x => by simp only [putsD, Act.put, List.setIfInBounds_toArray, List.set_cons_zero, List.set_cons_succ]; exact rfl) h0L ⟨fun _ => Below.drew (Below.refl _ _), fun h => absurd h (by decide), fun h => absurd h (by decide)⟩ (fun x => ?_) (fun x wz hDz hSz => ?_)
              · refine AllS.val (by rfl) (by rfl) (fun w hSw hPw => by go_simp) ?_
                refine AllS.val (by rfl) (by rfl) (fun w hSw hPw => by go_simp) ?_
                refine AllS.val (by rfl) (by rfl) (fun w hSw hPw => ?_) ?_
                · (try dsimp only at hSw)
                  have hn := leS (hPw.not (j := 11) rfl (by kernel_rfl))
                  have hq := hSw.1 hn
                  have c := (hq.cell (p := ⟨b9, 2, none⟩) hblA).trans bxA
                  go_simp
                refine AllS.val (by rfl) (by rfl) (fun w hSw hPw => by go_simp) ?_
                refine AllS.val (by rfl) (by rfl) (fun w hSw hPw => by go_simp) ?_
                refine AllS.val (by rfl) (by rfl) (fun w hSw hPw => ?_) ?_
                · (try dsimp only at hSw)
                  have hn := leS (hPw.not (j := 11) rfl (by kernel_rfl))
                  have hq := hSw.1 hn
                  have c := (hq.cell (p := ⟨b9, 2, none⟩) hblA).trans bxA
                  go_simp
                refine AllS.val (by rfl) (by rfl) (fun w hSw hPw => by go_simp) ?_
                refine AllS.val (by rfl) (by rfl) (fun w hSw hPw => ?_) ?_
                · (try dsimp only at hSw)
                  have hn := leS (hPw.not (j := 11) rfl (by kernel_rfl))
                  have hq := hSw.1 hn
                  have c := (hq.cell (p := ⟨G, hn', none⟩) hGlA).trans nxA
                  go_simp
                refine AllS.val (by rfl) (by rfl) (fun w hSw hPw => by go_simp) ?_
                refine AllS.turn (fun _ _ => rfl) (by rfl) (fun w hSw hPw K hK => ?_) ?_
                · (try dsimp only at hSw)
                  have h0 := leS (hPw.me rfl)
                  have hq := hSw.1 (Nat.le_trans h0 (by decide))
                  go_simp
                  go_at_call 40
                  (with_reducible refine (HPA.out _ hq).mono ?_)
                  rintro e w7 ⟨h7, c7, rfl, ho7, hb7⟩
                  go_simp
                  have hx0 : x.1 = 0 := by exact Nat.le_zero.1 h0
                  obtain ⟨p, y⟩ := x
                  (try dsimp only at hx0)
                  subst hx0
                  exact hK (1, h7, c7) _ (nxtL rfl (by decide)) ⟨fun _ => below_via hq hb7, fun _ => ⟨own_mono ho7.1 hq.size, ho7.2⟩, fun h => absurd h (by simp)⟩
                refine AllS.val (by rfl) (by rfl) (fun w hSw hPw => by go_simp) ?_
                refine AllS.turn (fun _ _ => rfl) (by rfl) (fun w hSw hPw K hK => ?_) ?_
                · (try dsimp only at hSw)
                  have h0 := leS (hPw.me rfl)
                  have h1 := geS (hPw.need (k := 9) rfl (by kernel_rfl))
                  have hq := hSw.1 h0
                  have hx0 : x.1 = 1 := Nat.le_antisymm h0 h1
                  have ho := hSw.2.1 hx0
                  obtain ⟨p, y1, y2⟩ := x
                  (try dsimp only at hx0)
                  subst hx0
                  have hoG := HS1.out.kn.own.below hq hGlA
                  have k0 := hoG.cell hslA
                  have k1 := hoG.frozen hn'
                  go_simp
                  exact hK (2, y1, y2) _ (nxtL rfl (by decide)) ⟨fun h => absurd h (by simp), fun h => absurd h (by simp), fun _ => ⟨_, hq, ho, rfl⟩⟩
                exact AllS.nil
              obtain ⟨Z5A, hbA, hoA, hwzA⟩ := hSz.2.2 (geS (hDz 11 (by decide) (by decide)))
              obtain ⟨pA, hA, cA⟩ := x
              (try dsimp only at hoA hwzA)
              have HPA_ := Lib.hid (HS1.out.put (j := hn') hbA hoA hn1)
              have HBA := Lib.hid hbA
              have HWA := Lib.hid hwzA
              rw [← hwzA] at HPA_
              clear hSz hDz hbA hoA hwzA
              obtain ⟨ZA, rfl⟩ : ∃ Z : World, Z = wz := ⟨_, rfl⟩
              rw [← HRA.out] at HN
              have HT3 : Hid (Own ZA b11 23 [.int .i64 t0, .int .i64 t1]) := Lib.hid (by rw [HWA.out]; exact (HT1.out.below HBA.out HT1.out.lt).far (by show b11 ≠ G; omega) _)
              have k0 := HT3.out.cell (j := 0) rfl
              have kl := HT3.out.lt
              go_wp2
              go_round
              case rel => exact ⟨i + 1, _, _, by omega, by go_num, HN, HPA_.out.kn, HPA_.out.bel⟩
              case measure => (simp [intOf]; omega)
          · have hz : t0 = 0 := by omega
            have hz1 : t1 = 0 := by omega
            subst hz hz1
            have HN : Hid (ptG (spF n p st) Y (en, row.set tn spD) = stpN (spF n p st) X (i + 1)) := Lib.hid (by
              rw [HSUC.out, HONE.out, if_neg hp, if_pos rfl]
              rfl)
            clear hp
            have bx1 := HS1.out.box.cell (j := 1) rfl
            have bxl := HS1.out.box.lt
            obtain ⟨q0', q1'⟩ := HS1.out.row.cells HRT.out
            have f0 := HS1.out.row.frozen (tn * 2)
            have f1 := HS1.out.row.frozen (tn * 2 + 1)
            have hv1 := HS1.out.row.lt.2
            simp only at q0' q1'
            go_upto_region 18 with fail
            obtain ⟨Z4, hZ4⟩ : ∃ Z4, Z4 = (Z1.setCell ⟨hv, tn * 2, none⟩ (.int .i64 0)).setCell ⟨hv, tn * 2 + 1, none⟩ (.int .i64 0) := ⟨_, rfl⟩
            have HS4 : Hid (SwI w G b9 hv cv n [.slice Ac cl cc, .int .i64 (tn : Nat), .int .i64 (hn' : Nat), .int .i64 (en : Nat)] (row.set tn spD) Y ds Z4) := Lib.hid (by
              rw [hZ4]
              exact HS1.out.poke (i := tn) hrtl spD)
            rw [← hZ4]
            clear hZ4 q0' q1' f0 f1 bx1 bxl hv1 k0 k1 kl
            have HRW2 : Hid (RSp n (row.set tn spD)) := Lib.hid (HRW.out.set ⟨by simp [spD], by simp [spD], by simp [spD]⟩)
            obtain ⟨rB, hrB⟩ : ∃ r, (Y)[en]? = some r := ⟨_, List.getElem?_eq_getElem (by rw [HYL.out]; exact hel)⟩
            obtain ⟨slB, hslB⟩ : ∃ sl, (ds)[en]? = some sl := ⟨_, List.getElem?_eq_getElem (by rw [HS4.out.kn.len, HYL.out]; exact hel)⟩
            have hrdB : (Y).getD en [] = rB := by rw [List.getD_eq_getElem?_getD, hrB]; rfl
            have HPB : Hid (∀ Z : World, Below Z4.heap.size Z4 Z → Calls Try.prog 40 #[slB, .slice (some ⟨hv, 0, none⟩) n cv] Z fun e w' => PutTo Z n (joG (spF n p st) rB (row.set tn spD)) e w') := Lib.hid fun Z hZ =>
              spanPut_any n cv hv p st rB (row.set tn spD) slB Z G (by
                rcases (HS4.out.kn.below hZ).rows en rB hrB with ⟨h1, h2⟩ | ⟨h1, h, c, h2, h3⟩
                · rw [hslB] at h2; injection h2 with h2; exact .inl ⟨h1, h2⟩
                · rw [hslB] at h2; injection h2 with h2; exact .inr ⟨h1, h, c, h2, h3⟩) (by
                have := HYM.out.2 en
                rw [hrdB] at this
                exact this.elim .inl fun h => .inr h.1) (HS4.out.row.below hZ).rd HS4.out.row.2 hn1 hn6
            have HRB : Hid ((Y).set en (joG (spF n p st) rB (row.set tn spD)) = ptG (spF n p st) (Y) (en, row.set tn spD)) := Lib.hid (by unfold ptG; rw [hrdB])
            obtain ⟨RB, hRB⟩ : ∃ R, joG (spF n p st) rB (row.set tn spD) = R := ⟨_, rfl⟩
            rw [hRB] at HPB HRB
            clear hRB hrB hrdB
            have bxB := HS4.out.box.cell (j := 3) rfl
            have hblB := HS4.out.box.lt
            have nxB := HS4.out.kn.own.cell hslB
            have hGlB := HS4.out.kn.own.lt
            refine wp_region_steps (X := Nat × (Nat × Nat)) (fun x w' => (x.1 ≤ 1 → Below Z4.heap.size Z4 w') ∧ (x.1 = 1 → OwnSp w' Z4.heap.size x.2.1 n x.2.2 RB) ∧ (2 ≤ x.1 → ∃ Z5, Below Z4.heap.size Z4 Z5 ∧ OwnSp Z5 Z4.heap.size x.2.1 n x.2.2 RB ∧ w' = Z5.setCell ⟨G, en, none⟩ (.slice (some ⟨x.2.1, 0, none⟩) n x.2.2))) (fun x j => doneL [0, 0, 0, 0, 0, 0, 0, 0, 0, 1, 0, 2] x.1 j) (effL [0, 0, 0, 0, 0, 0, 0, 0, 0, 1, 0, 2]) (0, (0, 0)) (fun x => [.slice (some ⟨G, 0, none⟩) len len, .pointer (some ⟨b9, 3, none⟩), .int .i64 (en : Nat), .slice (some ⟨G, 0, none⟩) len len, .pointer (some ⟨b9, 3, none⟩), .int .i64 (en : Nat), .pointer (some ⟨G, en, none⟩), slB, .slice (some ⟨hv, 0, none⟩) n cv, .slice (some ⟨x.2.1, 0, none⟩) n x.2.2, .pointer (some ⟨G, en, none⟩), undef]) _ (by kernel_rfl) (by kernel_rfl) (by kernel_rfl) (fun x => by simp only [putsD, Act.put, List.setIfInBounds_toArray, List.set_cons_zero, List.set_cons_succ]; exact rfl) h0L ⟨fun _ => Below.drew (Below.refl _ _), fun h => absurd h (by decide), fun h => absurd h (by decide)⟩ (fun x => ?_) (fun x wz hDz hSz => ?_)
            · refine AllS.val (by rfl) (by rfl) (fun w hSw hPw => by go_simp) ?_
              refine AllS.val (by rfl) (by rfl) (fun w hSw hPw => by go_simp) ?_
              refine AllS.val (by rfl) (by rfl) (fun w hSw hPw => ?_) ?_
              · (try dsimp only at hSw)
                have hn := leS (hPw.not (j := 11) rfl (by kernel_rfl))
                have hq := hSw.1 hn
                have c := (hq.cell (p := ⟨b9, 3, none⟩) hblB).trans bxB
                go_simp
              refine AllS.val (by rfl) (by rfl) (fun w hSw hPw => by go_simp) ?_
              refine AllS.val (by rfl) (by rfl) (fun w hSw hPw => by go_simp) ?_
              refine AllS.val (by rfl) (by rfl) (fun w hSw hPw => ?_) ?_
              · (try dsimp only at hSw)
                have hn := leS (hPw.not (j := 11) rfl (by kernel_rfl))
                have hq := hSw.1 hn
                have c := (hq.cell (p := ⟨b9, 3, none⟩) hblB).trans bxB
                go_simp
              refine AllS.val (by rfl) (by rfl) (fun w hSw hPw => by go_simp) ?_
              refine AllS.val (by rfl) (by rfl) (fun w hSw hPw => ?_) ?_
              · (try dsimp only at hSw)
                have hn := leS (hPw.not (j := 11) rfl (by kernel_rfl))
                have hq := hSw.1 hn
                have c := (hq.cell (p := ⟨G, en, none⟩) hGlB).trans nxB
                go_simp
              refine AllS.val (by rfl) (by rfl) (fun w hSw hPw => by go_simp) ?_
              refine AllS.turn (fun _ _ => rfl) (by rfl) (fun w hSw hPw K hK => ?_) ?_
              · (try dsimp only at hSw)
                have h0 := leS (hPw.me rfl)
                have hq := hSw.1 (Nat.le_trans h0 (by decide))
                go_simp
                go_at_call 40
                (with_reducible refine (HPB.out _ hq).mono ?_)
                rintro e w7 ⟨h7, c7, rfl, ho7, hb7⟩
                go_simp
                have hx0 : x.1 = 0 := by exact Nat.le_zero.1 h0
                obtain ⟨p, y⟩ := x
                (try dsimp only at hx0)
                subst hx0
                exact hK (1, h7, c7) _ (nxtL rfl (by decide)) ⟨fun _ => below_via hq hb7, fun _ => ⟨own_mono ho7.1 hq.size, ho7.2⟩, fun h => absurd h (by simp)⟩
              refine AllS.val (by rfl) (by rfl) (fun w hSw hPw => by go_simp) ?_
              refine AllS.turn (fun _ _ => rfl) (by rfl) (fun w hSw hPw K hK => ?_) ?_
              · (try dsimp only at hSw)
                have h0 := leS (hPw.me rfl)
                have h1 := geS (hPw.need (k := 9) rfl (by kernel_rfl))
                have hq := hSw.1 h0
                have hx0 : x.1 = 1 := Nat.le_antisymm h0 h1
                have ho := hSw.2.1 hx0
                obtain ⟨p, y1, y2⟩ := x
                (try dsimp only at hx0)
                subst hx0
                have hoG := HS4.out.kn.own.below hq hGlB
                have k0 := hoG.cell hslB
                have k1 := hoG.frozen en
                go_simp
                exact hK (2, y1, y2) _ (nxtL rfl (by decide)) ⟨fun h => absurd h (by simp), fun h => absurd h (by simp), fun _ => ⟨_, hq, ho, rfl⟩⟩
              exact AllS.nil
            obtain ⟨Z5B, hbB, hoB, hwzB⟩ := hSz.2.2 (geS (hDz 11 (by decide) (by decide)))
            obtain ⟨pB, hB, cB⟩ := x
            (try dsimp only at hoB hwzB)
            have HPB_ := Lib.hid (HS4.out.put (j := en) hbB hoB hn1)
            have HBB := Lib.hid hbB
            have HWB := Lib.hid hwzB
            rw [← hwzB] at HPB_
            clear hSz hDz hbB hoB hwzB
            obtain ⟨ZB, rfl⟩ : ∃ Z : World, Z = wz := ⟨_, rfl⟩
            rw [← HRB.out] at HN
            go_wp2
            go_round
            case rel => exact ⟨i + 1, _, _, by omega, by go_num, HN, HPB_.out.kn, HPB_.out.bel⟩
            case measure => (simp [intOf]; omega)
    · have hin : i = len := by omega
      subst hin
      go_wp2
      go_ret
      exact ⟨⟨G, ds, rfl, by rw [← HY.out]; exact HKN.out⟩, by rw [HG.out]; exact hb⟩

end Go.Proofs.Ytidjnmigbhaekaa
