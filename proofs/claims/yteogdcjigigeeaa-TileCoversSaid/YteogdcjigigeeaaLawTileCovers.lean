/-
  For any tree and any tiles tile.Cover tells a cover that costs least (W1, W2).
-/
import Derived.Test.YteogdcjigigeeaaLawTile
import Derived.Test.YteogdcjigigeeaaTiCov
import Derived.Test.YteogdcjigigeeaaMOpen
namespace Go.Proofs.Yteogdcjigigeeaa
open Go.RowKit Go.ChangeShapes Go.WideShapes Go.ChangeAt Go.Deep
set_option linter.unusedSimpArgs false
set_option linter.unusedVariables false
set_option maxRecDepth 100000

theorem hasT_le (c : List Int) (j : Nat) : hasT c j ≤ 1 := by
  unfold hasT
  split <;> omega

theorem sumN_le {f : Nat → Nat} (h : ∀ j, f j ≤ 1) : ∀ n, sumN f n ≤ n
  | 0 => Nat.le_refl _
  | n + 1 => by
    have := sumN_le h n
    have := h n
    rw [sumN]
    omega

theorem insideB_one {n m : Nat} (h : n < m) : insideB m [((n : Nat) : Int)] = true := by
  unfold insideB
  rw [if_neg (by omega)]
  rfl

set_option maxHeartbeats 16000000 in
theorem lawTileCovers_any (vars : Int) (A : Option Addr) (cap : Nat) (l : List Tm) (E : Option Addr) (te : Nat) (ts : List Ti) (w : World) (hx : RdT w w.heap.size A l) (ht : RdTi w w.heap.size E ts) :
    Calls Try.prog 4 #[.int .i64 vars, .slice A l.length cap, .slice E ts.length te] w fun e w' => e = .returned (.bool true) ∧ Below w.heap.size w w' := by
  obtain ⟨len, hlen⟩ : ∃ n, l.length = n := ⟨_, rfl⟩
  obtain ⟨tn, htn⟩ : ∃ n, ts.length = n := ⟨_, rfl⟩
  rw [hlen, htn]
  have HL := Lib.hid hlen
  have HTN := Lib.hid htn
  have HX := Lib.hid (fun (Z : World) (hZ : Below w.heap.size w Z) => hx.below hZ (Nat.le_refl _))
  have HTX := Lib.hid (fun (Z : World) (hZ : Below w.heap.size w Z) => ht.below hZ (Nat.le_refl _))
  have HCD := Lib.hid (fun (W : World) (hW : Below w.heap.size w W) => tileCode_any vars A len cap l W ((HX.out W hW).more hW.size) hlen E tn te ts ((HTX.out W hW).more hW.size) htn)
  by_cases hck : ckTl vars l ts = 0
  · obtain ⟨hct, n0, x0, hlast⟩ := ckTl_ok hck
    obtain ⟨hctr, hcti⟩ := ckTT_ok hct
    have hct0 := (ckTree_ok hctr).1
    have htree := (ckTree_ok hctr).2.2
    obtain ⟨htn10, hts⟩ := ckTi_ok hcti
    have hbt := ckTerms_bd hct0
    rw [hlen] at hbt
    rw [htn] at htn10
    have hcvd := cvL_done (ts := ts) hct0 (by rw [hlast]; intro h; cases h)
    have hmany := hcvd.many hct0 htree
    have hstart := CvW.start (by omega) hcvd
    have hbig := cho_big hct0 hts hlast
    have hco := coA_of hlast
    have HCV := Lib.hid (cover_ok A len cap l w hx hlen E tn te ts ht htn hck)
    have HRL := Lib.hid (fun (W : World) (hW : Below w.heap.size w W) => refCost_last A len cap l hlen E tn te ts htn hck W ((HX.out W hW).more hW.size) ((HTX.out W hW).more hW.size))
    have HLI : Hid (∀ (W : World) (i : Nat) (o a b v to tl tr tc : Int), Below w.heap.size w W → l[i]? = some ⟨o, a, b, v⟩ → TiOk ⟨to, tl, tr, tc⟩ → Calls Try.prog 12 #[.slice A len cap, .int .i64 (i : Nat), .agg #[.int .i64 to, .int .i64 tl, .int .i64 tr, .int .i64 tc]] W fun e w' => ∃ A' c', e = .returned (.tuple #[.slice A' (liR l ⟨o, a, b, v⟩ ⟨to, tl, tr, tc⟩).length c', .bool (mtc l ⟨o, a, b, v⟩ ⟨to, tl, tr, tc⟩)]) ∧ LvOwn w' W.heap.size A' c' (liR l ⟨o, a, b, v⟩ ⟨to, tl, tr, tc⟩) ∧ Below W.heap.size W w') :=
      Lib.hid fun W i o a b v to tl tr tc hW hd hk => lies_any A len cap l W ((HX.out W hW).more hW.size) hlen hct0 i o a b v hd to tl tr tc hk
    obtain ⟨c, hc⟩ : ∃ c, cvL l ts = c := ⟨_, rfl⟩
    rw [hc] at HCV hcvd hmany hstart
    obtain ⟨cn, hcn⟩ : ∃ n, cnA l ts (len - 1) = n := ⟨_, rfl⟩
    obtain ⟨cc, hcc⟩ : ∃ n, coA l ts (len - 1) = n := ⟨_, rfl⟩
    have hclen : c.length = len := by rw [hcvd.ok.len, hlen]
    have hcn16 : cn ≤ 16 := by
      have h1 := sumN_le (hasT_le c) c.length
      unfold manyT at hmany
      rw [hmany, hlen, hcn] at h1
      omega
    have hccb : cc ≤ 3051757812500 := by
      rw [hlen] at hco
      rw [hcc] at hco
      rw [hco]
      exact hbig
    rw [hlen, hcn] at hmany
    rw [hlen] at hstart
    have HCVD := Lib.hid hcvd
    have HC0 := Lib.hid hct0
    have HTS := Lib.hid hts
    have HMANY := Lib.hid hmany
    have HCLEN := Lib.hid hclen
    have HCN := Lib.hid hcn
    have HCC := Lib.hid hcc
    have HST := Lib.hid hstart
    have HK := Lib.hid hck
    rw [hcc] at HRL
    rw [hck] at HCD
    have hlp : 0 < len := by omega
    have hl16 : len ≤ 16 := by omega
    have hi1 : IntKind.i64.wrap ((len : Int) - 1) = ((len - 1 : Nat) : Int) := by rw [IntKind.wrap_i64]; omega
    have hi2 : ((len : Int) - 1) = ((len - 1 : Nat) : Int) := by omega
    have hll : ((len : Int) != (len : Int)) = false := by simp
    clear hx ht hck hct hctr hcti hct0 htree hts hbt hlast hcvd hmany hstart hbig hco hc hcn hcc hclen hlen htn
    go_enter Try.func4, Try.ntmps4
    go_wp2_with fail
    refine HCV.out.mono ?_
    rintro e w1 ⟨g, rfl, hg, hO, hb1⟩
    go_wp2_with fail
    refine (HCD.out w1 hb1).mono ?_
    rintro e w2 ⟨rfl, hb2⟩
    have hbw2 := hb1.trans (hb2.mono hb1.size)
    have hO2 := hO.below hb2 hO.lt
    have hs2 := hbw2.size
    have hgl := hO2.lt
    have HO2 := Lib.hid hO2
    have hlit : LvOwn (w2.alloc (.cells #[.int .i64 ((len - 1 : Nat) : Int)] 3)) w2.heap.size (some ⟨w2.heap.size, 0, none⟩) 1 [len - 1] := own_lit (Nat.le_refl _) [.int .i64 ((len - 1 : Nat) : Int)] 3 1 rfl (by unfold maxLen; omega)
    clear hO hO2 hb1 hb2
    go_wp2
    go_loopw [10, 11, 12] (fun st ss sk wr => ∃ (k sum : Nat) (todo : List Nat) (A' : Option Addr) (c' : Nat), k ≤ todo.length ∧ sk = .int .i64 k ∧ ss = .int .i64 (sum : Nat) ∧ st = .slice A' todo.length c' ∧ LvOwn wr w2.heap.size A' c' todo ∧ CvW l ts c k sum todo ∧ Below w2.heap.size w2 wr) (fun _ _ sk _ => cn + 1 - (intOf sk).toNat)
    case atStart => exact ⟨0, 0, [len - 1], _, _, Nat.zero_le _, rfl, rfl, rfl, hlit, HST.out, by go_grown⟩
    case round =>
      obtain ⟨k, sum, todo, A', c', hk, rfl, rfl, rfl, hrow, hcw, hbr⟩ := hrel
      have HCW := Lib.hid hcw
      obtain ⟨htl, hsb⟩ := hcw.bd HC0.out hk
      rw [HL.out, HCN.out] at htl
      rw [HL.out, HCC.out] at hsb
      have HROW := Lib.hid hrow
      have HOR := Lib.hid (HO2.out.below hbr hgl)
      have hsr := hbr.size
      by_cases hlt : k < todo.length
      · obtain ⟨al, xi, rfl, hbli, hdi, hci⟩ := hrow.rd.at_ (k := k) (by simpa [ni] using hlt)
        obtain ⟨i, rfl, hi⟩ := ni_inv hdi
        obtain ⟨hil, hcR⟩ := hcw.has i (List.mem_of_getElem? hi)
        obtain ⟨n, x, hcn2, hchm⟩ := HCVD.out.ok.at_ HC0.out hil hcR
        obtain ⟨hnt, htat, htm, hmt, _, hlvb⟩ := cho_some HC0.out hchm
        have hstep := hcw.step HC0.out HCVD.out hi
        have hbw : Below w.heap.size w wr := hbw2.trans (hbr.mono hs2)
        obtain ⟨ad2, to, tl, tr, tc, rfl, hbl2, hdt, ht0, ht1, ht2, ht3⟩ := RdTi.at_ (HTX.out wr hbw) (k := n) hnt
        rw [htat] at hdt
        injection hdt with hdt
        rw [hdt] at hmt hlvb hstep htm
        have hok := HTS.out _ htm
        have hc0 := hok.c0
        have hc9 := hok.c99
        obtain ⟨tcn, rfl⟩ := Int.eq_ofNat_of_zero_le (show 0 ≤ tc from hc0)
        have hdm := tm_get hil
        obtain ⟨o, a, b, v, ho⟩ : ∃ o a b v, tmA l i = ⟨o, a, b, v⟩ := ⟨_, _, _, _, rfl⟩
        rw [ho] at hdm hmt hlvb
        have hli : liR l ⟨o, a, b, v⟩ ⟨to, tl, tr, (tcn : Nat)⟩ = lvB l ts i := by unfold liR; rw [if_pos hmt, hlvb]
        have HLI2 : Hid (∀ W : World, Below w.heap.size w W → Calls Try.prog 12 #[.slice A len cap, .int .i64 (i : Nat), .agg #[.int .i64 to, .int .i64 tl, .int .i64 tr, .int .i64 (tcn : Nat)]] W fun e w' => ∃ A' c', e = .returned (.tuple #[.slice A' (lvB l ts i).length c', .bool true]) ∧ LvOwn w' W.heap.size A' c' (lvB l ts i) ∧ Below W.heap.size W w') :=
          Lib.hid fun W hW => by
            have h := HLI.out W i o a b v to tl tr (tcn : Nat) hW hdm hok
            rw [hli, hmt] at h
            exact h
        have hbd2 := hstep.bd HC0.out (by simp; omega)
        rw [HL.out, HCN.out, HCC.out, List.length_append] at hbd2
        obtain ⟨L, hL⟩ : ∃ L, lvB l ts i = L := ⟨_, rfl⟩
        simp only [hL] at HLI2 hstep hbd2
        have hsum2 : sum + tcn ≤ 3051757812500 := by
          have : (⟨to, tl, tr, ((tcn : Nat) : Int)⟩ : Ti).c.toNat = tcn := rfl
          omega
        have HSTEP : Hid (CvW l ts c (k + 1) (sum + tcn) (todo ++ L)) := Lib.hid hstep
        have hci2 := HOR.out.cell (iv_at hcn2)
        have HCI2 := Lib.hid hcn2
        have hilen : i < len := by rw [← HL.out]; exact hil
        have hnt2 : n < tn := by rw [← HTN.out]; exact hnt
        have hIN := Lib.hid (insideB_one hnt2)
        have h63 : todo.length + L.length ≤ maxLen := by unfold maxLen; omega
        have hbig : (todo.length + L.length) * 8 ≤ 140737488355328 := by omega
        have H63 := Lib.hid (And.intro h63 hbig)
        have hblw : (ad2.add (n * 4)).block < wr.heap.size := Nat.lt_of_lt_of_le hbl2 hbw.size
        have HTC : Hid (∀ Z : World, Below wr.heap.size wr Z → Z.cell? (ad2.add (n * 4)) = some (.int .i64 to) ∧ Z.cell? ⟨(ad2.add (n * 4)).block, (ad2.add (n * 4)).off + 1, none⟩ = some (.int .i64 tl) ∧ Z.cell? ⟨(ad2.add (n * 4)).block, (ad2.add (n * 4)).off + 2, none⟩ = some (.int .i64 tr) ∧ Z.cell? ⟨(ad2.add (n * 4)).block, (ad2.add (n * 4)).off + 3, none⟩ = some (.int .i64 (tcn : Nat)) ∧ Z.cell? ⟨g, i, none⟩ = some (.int .i64 (n : Nat))) :=
          Lib.hid fun Z hZ => ⟨(hZ.cell hblw).trans ht0, (hZ.cell (p := ⟨(ad2.add (n * 4)).block, (ad2.add (n * 4)).off + 1, none⟩) hblw).trans ht1, (hZ.cell (p := ⟨(ad2.add (n * 4)).block, (ad2.add (n * 4)).off + 2, none⟩) hblw).trans ht2, (hZ.cell (p := ⟨(ad2.add (n * 4)).block, (ad2.add (n * 4)).off + 3, none⟩) hblw).trans ht3, (hZ.cell (p := ⟨g, i, none⟩) (show g < wr.heap.size by omega)).trans hci2⟩
        have HBW := Lib.hid hbw
        have htl2 : todo.length + L.length ≤ 16 := by omega
        have hX : Below wr.heap.size wr (wr.alloc (.cells #[.int .i64 (n : Nat)] 3)) := by go_grown
        have hrd1 : RdI (wr.alloc (.cells #[.int .i64 (n : Nat)] 3)) (wr.heap.size + 1) (some ⟨wr.heap.size, 0, none⟩) [((n : Nat) : Int)] := rdI_one ((Own.new wr 3 [.int .i64 (n : Nat)]).cell (j := 0) rfl)
        have HIS := Lib.hid (inside_any (tn : Int) (some ⟨wr.heap.size, 0, none⟩) 1 1 [((n : Nat) : Int)] _ _ hrd1 rfl (by omega))
        rw [hIN.out] at HIS
        have hgr : g < wr.heap.size := by omega
        clear hdi hi hcR hcn2 hchm hnt htat htm hmt hlvb hstep hdt ht1 ht2 hok hc0 hc9 hdm ho hli hbd2 hL hcw hrow h63 hbig hrd1
        go_wp2_with fail
        refine HIS.out.mono ?_
        rintro e w5 ⟨rfl, rfl⟩
        obtain ⟨y0, y1, y2, y3, y4⟩ := HTC.out _ hX
        go_wp2_with fail
        refine (HLI2.out _ (HBW.out.trans (hX.mono HBW.out.size))).mono ?_
        rintro e w6 ⟨A7, c7, rfl, hown7, hb7⟩
        have hb76 : Below wr.heap.size wr w6 := hX.trans (hb7.mono hX.size)
        obtain ⟨z0, z1, z2, z3, z4⟩ := HTC.out _ hb76
        have hs6 := hb76.size
        have hrd7 := hown7.rd
        have hT6 : LvOwn w6 w2.heap.size (some al) c' todo := HROW.out.below hb76
        clear y0 y1 y2 y3 y4 hX hb7 ht0 ht3 hci2
        go_wp2_with (at_builtin; refine wpList_app rfl (.tmp 93) (.tmp 94) 30 rfl w2.heap.size 3 1 8 int_app (iv (ni todo)) rfl hT6 (iv (ni L)) rfl (by simp [iv, ni]) (fun h => by simpa [ni] using hrd7.nil h) hrd7.news (iv_one _) H63.out.1 H63.out.2 (Nat.le_trans hsr hs6) ?_; intro A8 c8 w8 hown8 hg8 hb8)
        go_round
        case rel => exact ⟨k + 1, sum + tcn, todo ++ L, A8, c8, by simp; omega, by go_num, by go_num, by simp, lv_own3 rfl hown8, HSTEP.out, hbr.trans ((hb76.mono hsr).trans hb8)⟩
        case measure => (simp [intOf]; omega)
      · have hkn : k = todo.length := by omega
        subst hkn
        obtain ⟨hd1, hd2⟩ := hcw.done
        rw [HL.out, HCC.out] at hd1
        rw [HL.out, HCN.out] at hd2
        have HD1 := Lib.hid hd1
        have HD2 := Lib.hid hd2
        have HBR := Lib.hid hbr
        clear hd1 hd2 hcw hrow
        obtain ⟨wo, rfl⟩ : ∃ z : World, z = wr := ⟨_, rfl⟩
        go_wp2
        go_loop [16, 98] (fun sm z => ∃ q m : Nat, q ≤ len ∧ z = .int .i64 q ∧ sm = .int .i64 (m : Nat) ∧ m = sumN (hasT c) q ∧ m ≤ q) (fun _ z => len - (intOf z).toNat)
        case atStart => exact ⟨0, 0, Nat.zero_le _, rfl, rfl, rfl, Nat.le_refl _⟩
        case round =>
          obtain ⟨q, m, hq, rfl, rfl, hm, hmq⟩ := hrel
          have HM := Lib.hid hm
          clear hm
          by_cases hlt2 : q < len
          · obtain ⟨y, hy⟩ : ∃ y, c[q]? = some y := ⟨_, List.getElem?_eq_getElem (by rw [HCLEN.out]; exact hlt2)⟩
            have hcy := HOR.out.cell (iv_at hy)
            have hyd : c.getD q (-1) = y := by rw [List.getD_eq_getElem?_getD, hy]; rfl
            by_cases hy1 : y = -1
            · have HH : Hid (sumN (hasT c) (q + 1) = m) := Lib.hid (by rw [sumN, ← HM.out]; unfold hasT; rw [if_pos (by rw [hyd]; exact hy1)]; rfl)
              subst hy1
              clear hy hyd
              go_wp2
              go_round
              case rel => exact ⟨q + 1, m, by omega, by go_num, rfl, HH.out.symm, by omega⟩
              case measure => (simp [intOf]; omega)
            · have HH : Hid (sumN (hasT c) (q + 1) = m + 1) := Lib.hid (by rw [sumN, ← HM.out]; unfold hasT; rw [if_neg (by rw [hyd]; exact hy1)])
              have hne : (y != -1) = true := by simp [hy1]
              clear hy hyd hy1
              go_wp2
              go_round
              case rel => exact ⟨q + 1, m + 1, by omega, by go_num, by go_num, HH.out.symm, by omega⟩
              case measure => (simp [intOf]; omega)
          · have hqn : q = c.length := by rw [HCLEN.out]; omega
            have HMC : Hid (m = todo.length) := Lib.hid (by rw [HM.out, hqn, HD2.out, ← HMANY.out]; rfl)
            have hmt : m = todo.length := HMC.out
            subst hmt
            have hsc : sum = cc := HD1.out
            subst hsc
            have hbw : Below w.heap.size w wo := hbw2.trans (HBR.out.mono hs2)
            go_wp2_with fail
            refine (HRL.out wo hbw).mono ?_
            rintro e w9 ⟨rfl, hb9⟩
            go_wp2
            go_ret
            exact ⟨ret_bool (by simp), hbw.trans (hb9.mono hbw.size)⟩
  · have HCV := Lib.hid (cover_no A len cap l w hx hlen E tn te ts ht htn hck)
    have hne : (ckTl vars l ts != 0) = true := by simp [hck]
    clear hx ht hck hlen htn
    go_enter Try.func4, Try.ntmps4
    go_wp2_with fail
    refine HCV.out.mono ?_
    rintro e w1 ⟨rfl, hb1⟩
    go_wp2_with fail
    refine (HCD.out w1 hb1).mono ?_
    rintro e w2 ⟨rfl, hb2⟩
    go_wp2
    go_ret
    exact ⟨ret_bool (by simp), hb1.trans (hb2.mono hb1.size)⟩

set_option maxRecDepth 100000 in
theorem lawTileCovers_lifted (os : Os) (started : os.Started) (H : Type) (enc : TypeId × Value → H) :
    ReturnsInHanded {} Try.checked os 4 .any (Rows.tileCoversSpec.pre6 enc Try.prog Try.f4 Rows.tileCoversRow.domain false) (Rows.tileCoversSpec.post enc Try.prog Try.f4 false true false false) := by
  refine returnsInHanded_of_change_sized (C := Try.checked) Try.own started (by kernel_rfl) Try.func4
    (ChangeSpec.witness6 (enc := enc) (C := Try.checked) false ⟨#[], #[.int .i64 0, .slice none 0 0, .slice none 0 0], []⟩ 8 (by kernel_rfl) (by kernel_rfl) (by kernel_rfl) (by kernel_rfl)) ?_
  intro W base args ds gs before hval0 hW hcnd hsz _
  have hval : ∀ (j : Nat) t v, Try.f4.params[j]? = some t → args[j]? = some v → Value.okWide Try.prog W .any base t v := hval0
  have hW' := hW
  obtain ⟨p, q, hA0, hV, rfl, hfz, hnd⟩ := hW
  have hA : DataW.TrodAll enc Try.prog W 0 (fun _ => true) true Try.f4.params.toList args.toList ds p := hA0
  obtain ⟨hgs, _⟩ := trodVars_none hV
  rw [Try.params4] at hA hval
  obtain ⟨v0, vs0, d0, ds0, p0, q0, hargs, rfl, rfl, h0, r0⟩ := trodAll_cons hA
  obtain ⟨v1, vs1, d1, ds1, p1, q1, rfl, rfl, rfl, h1, r1⟩ := trodAll_cons r0
  obtain ⟨v2, vs2, d2, ds2, p2, q2, rfl, rfl, rfl, h2, r2⟩ := trodAll_cons r1
  obtain ⟨rfl, rfl, rfl⟩ := trodAll_nil r2
  have hargs2 : args = #[v0, v1, v2] := Array.toList_inj.1 hargs
  subst hargs2
  obtain ⟨a0, rfl, _, _, w0⟩ := open_int Try.underlying3 (hval 0 3 v0 rfl rfl) h0
  obtain ⟨A1, c1, l1, rfl, lc1, cm1, x1, r1⟩ := open_termsA (hval 1 22 v1 rfl rfl) h1
  have b1 := len_reach Try.underlying22 (hval 1 22 _ rfl rfl) h1 hsz (j := 1) (by rw [Try.params4]; rfl) rfl
  rw [show Try.prog.bytesOf (Try.prog.elem 22) = 32 from by kernel_rfl] at b1
  obtain ⟨A2, c2, l2, rfl, lc2, cm2, x2, r2⟩ := open_tilesA (hval 2 23 v2 rfl rfl) h2
  have b2 := len_reach Try.underlying23 (hval 2 23 _ rfl rfl) h2 hsz (j := 2) (by rw [Try.params4]; rfl) rfl
  rw [show Try.prog.bytesOf (Try.prog.elem 23) = 32 from by kernel_rfl] at b2
  refine (lawTileCovers_any a0 A1 c1 l1 A2 c2 l2 _ x1 x2).mono fun e W' ⟨he, hb⟩ => ?_
  subst he
  exact ⟨_, rfl, law_post Try.laidOut rfl (by kernel_rfl) Try.underlying4 ⟨rfl, rfl, rfl⟩ (by kernel_rfl) hW' hb⟩

theorem tileCovers_holds : Rows.TileCoversSaid :=
  OpenClaim.holds_of_wide 4 Try.f4 rfl rfl rfl rfl rfl rfl rfl ⟨rfl, rfl, rfl, rfl, rfl⟩ rfl rfl rfl rfl rfl (by kernel_rfl) Try.func4 (show joinedFacts Try.prog 4 Try.f4 Rows.tileCoversSpec Rows.tileCoversRow = true from (by unfold joinedFacts; (repeat' (with_reducible refine and_both ?_ ?_)) <;> first | (with_reducible exact may_enter) | ((with_reducible refine make_ok ?_); rfl) | ((with_reducible refine lifts_ok ?_); rfl) | kernel_rfl))
    (of_decide_eq_true (by kernel_rfl)) (by unfold Func.isWrapper; rw [if_neg (of_decide_eq_false (by kernel_rfl))]; exact ⟨rfl, rfl⟩)
    (fun os started H enc _ => lawTileCovers_lifted os started H enc)

end Go.Proofs.Yteogdcjigigeeaa
