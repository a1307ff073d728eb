/-
  Postdominators are the dominators of the graph turned round, with its one exit as the start: codemasonkeep.HangTurn returns true and leaves its arguments alone. No condition.
-/
import Derived.Test.YtfijkkllfbpepaaHangTurned
import Derived.Test.YtfijkkllfbpepaaHang
import Derived.Deep.QuietTactic
import Derived.Deep.RegionHeld3
import Derived.Deep.RegionWith
import Derived.BigQuiet
import Derived.RegionTactic
import Derived.BigRegion
import Derived.IntWalk
namespace Go.Proofs.Ytfijkkllfbpepaa
open Go.RowKit Go.ChangeShapes Go.WideShapes Go.ChangeAt Go.Deep
set_option linter.unusedSimpArgs false
set_option linter.unusedVariables false
set_option maxRecDepth 100000

theorem bit_quiet {W : Nat} {i : Int} {b : Bool} (h : bitB W i = b) (w : World) (hW : W < 4294967296) :
    Calls Try.prog 9 #[.int .u32 (W : Nat), .int .i64 i] w fun e w' => e = .returned (.bool b) ∧ w' = w := (bit_any W i w hW).mono fun e w' ⟨h1, h2⟩ => ⟨by rw [h1, h], h2.symm⟩

theorem name_quiet {p : Addr} {e i si : Nat} (h : sw e i = si) (w : World) (hp : w.cell? p = some (.int .i64 (e : Nat))) :
    Calls Try.prog 15 #[.int .i64 (i : Nat), .pointer (some p)] w fun r w' => r = .returned (.int .i64 (si : Nat)) ∧ w' = w := (name_any p e i w hp).mono fun r w' ⟨h1, h2⟩ => ⟨by rw [h1, h], h2⟩

set_option maxHeartbeats 4000000 in
theorem lawHangTurn_any (K : LastIs) (K2 : TableIs) (A : Option Addr) (cap : Nat) (nx : List (List Int)) (w : World) (hx : RdG w w.heap.size A nx) (hm : nx.length ≤ maxLen) :
    Calls Try.prog 5 #[.slice A nx.length cap] w fun e w' => e = .returned (.bool true) ∧ Below w.heap.size w w' := by
  have HM := Lib.hid hm
  have hmm := hm
  unfold maxLen at hm
  by_cases hc : ckWay nx = 0
  · have HC := Lib.hid hc
    obtain ⟨hb1', hb2', _⟩ := ckWay_bd hc
    obtain ⟨len, hlen⟩ : ∃ len, nx.length = len := ⟨_, rfl⟩
    have HLEN := Lib.hid hlen
    rw [hlen] at hb1' hb2' hm hmm ⊢
    have hmk := make_nils (P := Try.prog) 22 33 Try.underlying22 (by kernel_rfl) len (by omega)
    have HMK := Lib.hid hmk
    clear hc hlen hmk
    go_enter Try.func5, Try.ntmps5
    go_wp2_with fail
    refine (K.last A _ cap nx _ hx HLEN.out HC.out).mono ?_
    rintro e w1 ⟨ls, A2, c2, hpl, rfl, hr2, hb1⟩
    have hx1 := (hx.below hb1 (Nat.le_refl _)).more hb1.size
    have HPL := Lib.hid hpl
    have HLL := Lib.hid (hpl.len.trans HLEN.out)
    clear hpl
    go_wp2_with fail
    refine (may_any A _ cap nx _ hx1 HLEN.out hmm).mono ?_
    rintro e w3 ⟨rfl, rfl⟩
    rw [decide_eq_true HC.out]
    go_wp2
    have hown0 := Own.new w1 3 [.int .i64 (-1)]
    have hb0 : Below w1.heap.size w1 (w1.alloc (.cells #[.int .i64 (-1)] 3)) := by go_grown
    go_loopw [39] (fun z wr => ∃ (i : Nat) (v : Int), i ≤ len ∧ z = .int .i64 i ∧ EndAt nx i v ∧ Own wr w1.heap.size 3 [.int .i64 v] ∧ Below w1.heap.size w1 wr) (fun z _ => len - (intOf z).toNat)
    case atStart => exact ⟨0, -1, Nat.zero_le _, rfl, .inl ⟨rfl, fun j hj => by omega⟩, hown0, hb0⟩
    case round =>
      obtain ⟨i, v, hi, rfl, hend, hown, hbr⟩ := hrel
      have hszr := hbr.size
      have hgl := hown.lt
      have hcv := hown.cell (j := 0) rfl
      have hfz := hown.frozen 0
      by_cases hlt : i < len
      · obtain ⟨ad, row, Ar, cr, rfl, hbl, hd, hcell, hrow⟩ := (hx1.below hbr (Nat.le_refl _)).at_ (k := i) (by rw [HLEN.out]; exact hlt)
        have hrs := row_sc HC.out hd
        subst hrs
        have hsl3 := sc_len HC.out i
        obtain ⟨ss, hss⟩ : ∃ ss, sc nx i = ss := ⟨_, rfl⟩
        rw [hss] at hcell hsl3
        have HSS := Lib.hid hss
        have HEND := Lib.hid hend
        have hlow := hend.low
        have hnl : (ni ss).length = ss.length := by simp [ni]
        rw [hnl] at hcell
        clear hd hss hrow hnl hend
        cases hsc : ss with
        | nil =>
          have HSC := Lib.hid (HSS.out.trans hsc)
          subst hsc
          clear HSS
          rcases hlow with rfl | hlow
          · go_wp2
            go_round
            case rel => exact ⟨i + 1, (i : Int), by omega, by go_num, HEND.out.one HSC.out, hown.set 0 (.int .i64 (i : Int)), hbr.setCell (Nat.le_refl _) _⟩
            case measure => (simp [intOf]; omega)
          · have hge : decide (0 ≤ v) = true := decide_eq_true hlow
            go_wp2
            go_ret
            exact ⟨ret_bool (by simp), hb1.trans (hbr.mono hb1.size)⟩
        | cons s0 st =>
          have hne : sc nx i ≠ [] := by rw [HSS.out, hsc]; simp
          have HNE := Lib.hid hne
          have hl0 : decide (((ss.length : Nat) : Int) = 0) = false := by rw [hsc]; simp; omega
          obtain ⟨sl, hsl⟩ : ∃ sl, ss.length = sl := ⟨_, rfl⟩
          rw [hsl] at hcell hl0
          have hsl0 : 0 < sl := by rw [← hsl, hsc]; simp
          clear hne hsc hsl hsl3 HSS
          go_wp2
          go_round
          case rel => exact ⟨i + 1, v, by omega, by go_num, HEND.out.more HNE.out, hown, hbr⟩
          case measure => (simp [intOf]; omega)
      · have hil : len = i := by omega
        subst hil
        rcases hend with ⟨rfl, _⟩ | ⟨e, rfl, he, hse, hue⟩
        · go_wp2
          go_ret
          exact ⟨ret_bool (by simp), hb1.trans (hbr.mono hb1.size)⟩
        · have HSE := Lib.hid hse
          have HUE := Lib.hid hue
          have hmk := HMK.out
          clear hse hue
          go_wp2_with fail
          have hownG := Own.new wr 33 (nils len)
          have hbG : Below w1.heap.size w1 (wr.alloc (.cells (nils len).toArray 33)) := hbr.trans ((by go_grown : Below wr.heap.size wr _).mono hszr)
          have hx4 := (hx1.below hbG (Nat.le_refl _)).more hbG.size
          refine (refTurnedN_any A _ cap nx _ hx4 HLEN.out HC.out).mono ?_
          rintro e5 w5 ⟨A5, c5, rfl, hr5, hn5, hb5⟩
          obtain ⟨G, hG⟩ : ∃ G, wr.heap.size = G := ⟨_, rfl⟩
          have hGs : (wr.alloc (.cells (nils len).toArray 33)).heap.size = G + 1 := by simp [hG]
          have hn5' : NewG w5 (G + 1) A5 (trG nx) := by rw [← hGs]; exact hn5
          have hown5 := (hownG.below hb5 hownG.lt)
          rw [hG] at hown5
          have hb05 := hbG.trans (hb5.mono hbG.size)
          have hbox5 := (hown.below ((by go_grown : Below wr.heap.size wr _).trans (hb5.mono (by simp))) hgl)
          have hgG : w1.heap.size < G := by rw [← hG]; exact hgl
          have hs5 := hb05.size
          have hs5g := hown5.lt
          have HR5 := Lib.hid hr5
          have HN5 := Lib.hid hn5'
          have HB05 := Lib.hid hb05
          have HBOX := Lib.hid (hbox5.cell (j := 0) rfl)
          have HRED := Lib.hid hb1
          clear hn5 hn5' hr5 hownG hmk hGs hb5 hbG hx4 hcv hfz hb05
          rw [hG]
          clear hG hown hown0 hb0
          obtain ⟨w4, rfl⟩ : ∃ w4 : World, w4 = wr := ⟨_, rfl⟩
          go_wp2
          go_loopw [60] (fun z wo => ∃ (i : Nat) (cs : List Value), i ≤ len ∧ z = .int .i64 i ∧ cs.length = len ∧ Own wo G 33 cs ∧ SwRows wo G nx e i cs ∧ (∀ r, i ≤ r → r < len → cs[sw e r]? = some (.slice none 0 0)) ∧ Wrote G w5 wo) (fun z _ => len - (intOf z).toNat)
          case atStart => exact ⟨0, nils len, Nat.zero_le _, rfl, by simp [nils], hown5, fun r hr => by omega, fun r _ hr => by have := sw_lt (n := len) he hr; simp [nils, this], Wrote.of_below (Below.refl _ _)⟩
          case round =>
            obtain ⟨i, cs, hi2, rfl, hcl, hown6, hrows, hnil, hwr⟩ := hrel
            have hszw := hwr.size
            have hgl6 := hown6.lt
            by_cases hit : i < len
            · have hcj := hnil i (Nat.le_refl _) hit
              have hsil := sw_lt (n := len) he hit
              have HHIT := Lib.hid hit
              obtain ⟨si, hsi⟩ : ∃ si, sw e i = si := ⟨_, rfl⟩
              rw [hsi] at hcj hsil
              have HSI := Lib.hid hsi
              have hset : cs.set si (.slice none 0 0) = cs := by
                apply List.ext_getElem?
                intro r
                rw [List.getElem?_set]
                split
                · rename_i e1; subst e1; split
                  · exact hcj.symm
                  · rename_i h; exact absurd (by rw [hcl]; exact hsil) h
                · rfl
              have HSET := Lib.hid hset
              have HCL := Lib.hid hcl
              have HNIL := Lib.hid hnil
              have HROWS := Lib.hid hrows
              have hr6 := HR5.out.wrote HN5.out (Nat.le_refl _) hwr
              have hn6 := NewG.wrote HR5.out HN5.out (Nat.le_refl _) hwr
              obtain ⟨ad, row, Ar, cr, rfl, hbl, hd, hcell, hrow⟩ := hr6.at_ (k := i) (by rw [trG_len, HLEN.out]; exact hit)
              have hArG : Hid (∀ a, Ar = some a → a.block ≠ G) := Lib.hid fun a ha => by
                have := (hn6 ad rfl).2 i (by rw [trG_len, HLEN.out]; exact hit) Ar _ cr hcell a ha
                omega
              rw [trG_at (by rw [HLEN.out]; exact hit)] at hd
              injection hd with hd
              subst hd
              have hql0 := trR_len nx i nx.length
              have HMEM := Lib.hid (fun x (h : x ∈ trR nx i nx.length) => (trR_mem.1 h).1)
              obtain ⟨q, hq⟩ : ∃ q, trR nx i nx.length = q := ⟨_, rfl⟩
              have hnl : (ni q).length = q.length := by simp [ni]
              rw [hq] at hcell hrow hql0 HMEM
              rw [hnl] at hcell
              obtain ⟨ql, hql⟩ : ∃ ql, q.length = ql := ⟨_, rfl⟩
              rw [hql] at hcell hnl hql0
              have hql8 : ql ≤ 8 := by have := HLEN.out; omega
              have HNL := Lib.hid hnl
              have HQL := Lib.hid hql
              have HQ := Lib.hid hq
              have HROW := Lib.hid hrow
              obtain ⟨wo, rfl⟩ : ∃ wo : World, wo = wr := ⟨_, rfl⟩
              have HHWR := Lib.hid hwr
              clear hset hcl hnil hrows hr6 hn6 hnl hql hq hrow hsi hcj hql0 hwr hit hown5
              have hit : i < len := HHIT.out
              go_wp2
              go_loopw [67] (fun z wr => ∃ (c : Nat) (A1 : Option Addr) (c1 : Nat), c ≤ ql ∧ z = .int .i64 c ∧ Own wr G 33 (cs.set si (.slice A1 c c1)) ∧ wr.ownsRow wo.heap.size 3 1 (.slice A1 c c1) c (iv (ni ((q.take c).map (sw e)))) ∧ Wrote G wo wr) (fun z _ => ql - (intOf z).toNat)
              case atStart => exact ⟨0, none, 0, Nat.zero_le _, rfl, by show Own wo G 33 (cs.set si (.slice none 0 0)); rw [HSET.out]; exact hown6, World.ownsRow_nil _ _ _ _, Wrote.of_below (Below.refl _ _)⟩
              case round =>
                obtain ⟨c, A1, c1, hc2, rfl, hown7, hrow7, hwr7⟩ := hrel
                have hsz7 := hwr7.size
                have hgl7 := hown7.lt
                by_cases hct : c < ql
                · obtain ⟨ar, x', rfl, hbr2, hxr2, hcx⟩ := (RdI.but HROW.out hArG.out (fun p hp hne => hwr7.cell (by omega) hne)).at_ (k := c) (by rw [HNL.out]; exact hct)
                  obtain ⟨x, hxx⟩ : ∃ x, q[c]? = some x := ⟨_, List.getElem?_eq_getElem (by rw [HQL.out]; exact hct)⟩
                  rw [ni_at hxx] at hxr2
                  injection hxr2 with hxr2
                  subst hxr2
                  obtain ⟨sx, hsx⟩ : ∃ sx, sw e x = sx := ⟨_, rfl⟩
                  have HSX := Lib.hid hsx
                  have htk : iv (ni ((q.take (c + 1)).map (sw e))) = iv (ni ((q.take c).map (sw e))) ++ [.int .i64 (sx : Int)] := by
                    rw [List.take_add_one, hxx, List.map_append, ni_append, iv_append]
                    simp [hsx, ni, iv]
                  have HTK := Lib.hid htk
                  have hcb := hown7.cell (j := si) (v := .slice A1 c c1) (by rw [List.getElem?_set_self (by rw [HCL.out]; exact hsil)])
                  have hbo := (HHWR.out.cell (p := ⟨w1.heap.size, 0, none⟩) (by show w1.heap.size < w5.heap.size; omega) (by show w1.heap.size ≠ G; omega)).trans HBOX.out
                  have HK : Hid (∀ Z : World, Wrote G wo Z → Z.cell? ⟨w1.heap.size, 0, none⟩ = some (.int .i64 (e : Nat))) := Lib.hid fun Z hZ => (hZ.cell (p := ⟨w1.heap.size, 0, none⟩) (by show w1.heap.size < wo.heap.size; omega) (by show w1.heap.size ≠ G; omega)).trans hbo
                  have hg71 : G < wr.heap.size + 1 := by omega
                  have h63 : c + 1 ≤ maxLen := by unfold maxLen; omega
                  have hbig : (c + 1) * 8 ≤ 140737488355328 := by omega
                  clear hxx hsx htk hbo
                  go_wp2
                  obtain ⟨wd, hwd⟩ : ∃ wd : World, wr.drew = wd := ⟨_, rfl⟩
                  have hown7 : Own wd G 33 (cs.set si (.slice A1 c c1)) := by rw [← hwd]; exact hown7.drew
                  have hrow7 : wd.ownsRow wo.heap.size 3 1 (.slice A1 c c1) c (iv (ni ((q.take c).map (sw e)))) := by rw [← hwd]; exact hrow7
                  have hwr7d : Wrote G wo wd := by rw [← hwd]; exact hwr7.andThen (show Below wo.heap.size wr wr.drew from (Below.refl _ _).drew)
                  have hszd : wo.heap.size ≤ wd.heap.size := hwr7d.size
                  have hgld : G < wd.heap.size := hown7.lt
                  have hcb := hown7.cell (j := si) (v := .slice A1 c c1) (by rw [List.getElem?_set_self (by rw [HCL.out]; exact hsil)])
                  have hcbA := (hown7.alloc (.cells #[.int .i64 (sx : Int)] 3)).cell (j := si) (v := .slice A1 c c1) (by rw [List.getElem?_set_self (by rw [HCL.out]; exact hsil)])
                  have HBX := Lib.hid (HK.out wd hwr7d)
                  have HBXA := Lib.hid (HK.out _ (hwr7d.andThen (Below.mono (by go_grown : Below wd.heap.size wd (wd.alloc (.cells #[.int .i64 (sx : Int)] 3))) hszd)))
                  have HNI := Lib.hid (name_any ⟨w1.heap.size, 0, none⟩ e i wd HBX.out)
                  have HNX := Lib.hid (name_any ⟨w1.heap.size, 0, none⟩ e x wd HBX.out)
                  rw [HSI.out] at HNI
                  rw [HSX.out] at HNX
                  have HOWN7 := Lib.hid hown7
                  have HROW7 := Lib.hid hrow7
                  have HWR7D := Lib.hid hwr7d
                  clear hown7 hrow7 hwr7d
                  refine wp_region_any (by kernel_rfl) ?_
                  change wpAny _ _ _ _ _ _ _ (World.drew _)
                  rw [hwd]
                  refine wpAny_take (i := 0) (v := .slice (some ⟨G, 0, none⟩) len len) rfl (by kernel_rfl) (by kernel_rfl) (by kernel_rfl) (fun _ _ _ h => h) (Or.inl ⟨by rfl, fun w => by go_simp⟩) ?_
                  refine wpAny_take (i := 1) (v := .func (.func 15) #[] #[.pointer (some ⟨w1.heap.size, 0, none⟩)]) rfl (by kernel_rfl) (by kernel_rfl) (by kernel_rfl) (fun _ _ _ h => h) (Or.inl ⟨by rfl, fun w => by go_simp⟩) ?_
                  refine wpAny_take (i := 2) (v := .int .i64 (i : Int)) rfl (by kernel_rfl) (by kernel_rfl) (by kernel_rfl) (fun _ _ _ h => h) (Or.inl ⟨by rfl, fun w => by go_simp⟩) ?_
                  refine wpAny_take (i := 4) (v := .slice (some ⟨G, 0, none⟩) len len) rfl (by kernel_rfl) (by kernel_rfl) (by kernel_rfl) (fun _ _ _ h => h) (Or.inl ⟨by rfl, fun w => by go_simp⟩) ?_
                  refine wpAny_take (i := 5) (v := .func (.func 15) #[] #[.pointer (some ⟨w1.heap.size, 0, none⟩)]) rfl (by kernel_rfl) (by kernel_rfl) (by kernel_rfl) (fun _ _ _ h => h) (Or.inl ⟨by rfl, fun w => by go_simp⟩) ?_
                  refine wpAny_take (i := 6) (v := .int .i64 (i : Int)) rfl (by kernel_rfl) (by kernel_rfl) (by kernel_rfl) (fun _ _ _ h => h) (Or.inl ⟨by rfl, fun w => by go_simp⟩) ?_
                  refine wpAny_take (i := 10) (v := .func (.func 15) #[] #[.pointer (some ⟨w1.heap.size, 0, none⟩)]) rfl (by kernel_rfl) (by kernel_rfl) (by kernel_rfl) (fun _ _ _ h => h) (Or.inl ⟨by rfl, fun w => by go_simp⟩) ?_
                  refine wpAny_take (i := 11) (v := .int .i64 (x : Int)) rfl (by kernel_rfl) (by kernel_rfl) (by kernel_rfl) (fun _ _ _ h => h) (Or.inl ⟨by rfl, fun w => by go_simp⟩) ?_
                  refine wpAny_ready (rs := [3]) (by kernel_rfl) (by simp) ?_
                  refine AllReady.cons rfl (fun K hK => ?_) AllReady.nil
                  go_simp
                  (with_reducible refine HNI.out.mono ?_)
                  rintro r w9 ⟨rfl, hw9⟩
                  replace hw9 := hw9.symm
                  subst hw9
                  go_wp2_with fail
                  refine wpAny_ready (rs := [7]) (by kernel_rfl) (by simp) ?_
                  refine AllReady.cons rfl (fun K hK => ?_) AllReady.nil
                  go_simp
                  (with_reducible refine HNI.out.mono ?_)
                  rintro r w9 ⟨rfl, hw9⟩
                  replace hw9 := hw9.symm
                  subst hw9
                  go_wp2_with fail
                  refine wpAny_take (i := 8) (v := .pointer (some ⟨G, si, none⟩)) rfl (by kernel_rfl) (by kernel_rfl) (by kernel_rfl) (fun _ _ _ h => h) (Or.inl ⟨by rfl, fun w => by go_simp⟩) ?_
                  refine wpAny_ready (rs := [9, 12]) (by kernel_rfl) (by simp) ?_
                  refine AllReady.cons rfl (fun K hK => ?_) (AllReady.cons rfl (fun K hK => ?_) AllReady.nil)
                  · go_simp
                    refine hK _ _ ?_
                    clear hK K
                    refine wpAny_ready (rs := [12]) (by kernel_rfl) (by simp) ?_
                    refine AllReady.cons rfl (fun K hK => ?_) AllReady.nil
                    go_simp
                    (with_reducible refine HNX.out.mono ?_)
                    rintro r w9 ⟨rfl, hw9⟩
                    replace hw9 := hw9.symm
                    subst hw9
                    go_wp2_with fail
                    refine wpAny_ready (rs := [13]) (by kernel_rfl) (by simp) ?_
                    refine AllReady.cons rfl (fun K hK => ?_) AllReady.nil
                    go_simp
                    refine hK _ _ ?_
                    clear hK K
                    refine wpAny_ready (rs := [14]) (by kernel_rfl) (by simp) ?_
                    refine AllReady.cons rfl (fun K hK => ?_) AllReady.nil
                    refine step_app_any rfl (.tmp 80) (.tmp 84) 33 rfl wo.heap.size 3 1 8 int_app (iv (ni ((q.take c).map (sw e)))) rfl (own_below HROW7.out (by go_grown)) [.int .i64 (sx : Int)] rfl rfl (fun h => by cases h) (cells_at rfl _ _) (one_cell _) h63 hbig (Nat.le_trans hszd (by go_grown : Below wd.heap.size wd _).size) ?_
                    intro A8 c8 w8 hown8 hg8 hb8
                    have hbA : Below wo.heap.size wd w8 := (Below.mono (by go_grown : Below wd.heap.size wd _) hszd).trans hb8
                    have hsA := hbA.size
                    have hO8 := HOWN7.out.below hbA (by omega)
                    have hf8 := hO8.frozen si
                    have hc8 := hO8.cell (j := si) (v := .slice A1 c c1) (by rw [List.getElem?_set_self (by rw [HCL.out]; exact hsil)])
                    have HOWN8 := Lib.hid hown8
                    have HO8 := Lib.hid hO8
                    have HBA := Lib.hid hbA
                    clear hown8 hO8 hbA hg8 hb8
                    refine hK _ _ ?_
                    clear hK K
                    refine wpAny_take (i := 15) (v := .pointer (some ⟨G, si, none⟩)) rfl (by kernel_rfl) (by kernel_rfl) (by kernel_rfl) (fun _ _ _ h => h) (Or.inl ⟨by rfl, fun w => by go_simp⟩) ?_
                    refine wpAny_ready (rs := [16]) (by kernel_rfl) (by simp) ?_
                    refine AllReady.cons rfl (fun K hK => ?_) AllReady.nil
                    go_simp
                    refine hK _ _ ?_
                    clear hK K
                    refine wpAny_done (by kernel_rfl) ?_ _
                    go_wp2
                    go_round
                    case rel =>
                      refine ⟨c + 1, A8, c8, by omega, by go_num, ?_, ?_, (HWR7D.out.andThen HBA.out).set rfl _⟩
                      · have := HO8.out.set si (.slice A8 (c + 1) c8)
                        rw [List.set_set] at this
                        exact this
                      · rw [HTK.out]
                        exact own_farW HOWN8.out (by show G < wo.heap.size; omega) _
                    case measure => (simp [intOf]; omega)
                  · go_simp
                    (with_reducible refine HNX.out.mono ?_)
                    rintro r w9 ⟨rfl, hw9⟩
                    replace hw9 := hw9.symm
                    subst hw9
                    go_wp2_with fail
                    refine wpAny_ready (rs := [9, 13]) (by kernel_rfl) (by simp) ?_
                    refine AllReady.cons rfl (fun K hK => ?_) (AllReady.cons rfl (fun K hK => ?_) AllReady.nil)
                    · go_simp
                      refine hK _ _ ?_
                      clear hK K
                      refine wpAny_ready (rs := [13]) (by kernel_rfl) (by simp) ?_
                      refine AllReady.cons rfl (fun K hK => ?_) AllReady.nil
                      go_simp
                      refine hK _ _ ?_
                      clear hK K
                      refine wpAny_ready (rs := [14]) (by kernel_rfl) (by simp) ?_
                      refine AllReady.cons rfl (fun K hK => ?_) AllReady.nil
                      refine step_app_any rfl (.tmp 80) (.tmp 84) 33 rfl wo.heap.size 3 1 8 int_app (iv (ni ((q.take c).map (sw e)))) rfl (own_below HROW7.out (by go_grown)) [.int .i64 (sx : Int)] rfl rfl (fun h => by cases h) (cells_at rfl _ _) (one_cell _) h63 hbig (Nat.le_trans hszd (by go_grown : Below wd.heap.size wd _).size) ?_
                      intro A8 c8 w8 hown8 hg8 hb8
                      have hbA : Below wo.heap.size wd w8 := (Below.mono (by go_grown : Below wd.heap.size wd _) hszd).trans hb8
                      have hsA := hbA.size
                      have hO8 := HOWN7.out.below hbA (by omega)
                      have hf8 := hO8.frozen si
                      have hc8 := hO8.cell (j := si) (v := .slice A1 c c1) (by rw [List.getElem?_set_self (by rw [HCL.out]; exact hsil)])
                      have HOWN8 := Lib.hid hown8
                      have HO8 := Lib.hid hO8
                      have HBA := Lib.hid hbA
                      clear hown8 hO8 hbA hg8 hb8
                      refine hK _ _ ?_
                      clear hK K
                      refine wpAny_take (i := 15) (v := .pointer (some ⟨G, si, none⟩)) rfl (by kernel_rfl) (by kernel_rfl) (by kernel_rfl) (fun _ _ _ h => h) (Or.inl ⟨by rfl, fun w => by go_simp⟩) ?_
                      refine wpAny_ready (rs := [16]) (by kernel_rfl) (by simp) ?_
                      refine AllReady.cons rfl (fun K hK => ?_) AllReady.nil
                      go_simp
                      refine hK _ _ ?_
                      clear hK K
                      refine wpAny_done (by kernel_rfl) ?_ _
                      go_wp2
                      go_round
                      case rel =>
                        refine ⟨c + 1, A8, c8, by omega, by go_num, ?_, ?_, (HWR7D.out.andThen HBA.out).set rfl _⟩
                        · have := HO8.out.set si (.slice A8 (c + 1) c8)
                          rw [List.set_set] at this
                          exact this
                        · rw [HTK.out]
                          exact own_farW HOWN8.out (by show G < wo.heap.size; omega) _
                      case measure => (simp [intOf]; omega)
                    · go_simp
                      refine hK _ _ ?_
                      clear hK K
                      refine wpAny_ready (rs := [9]) (by kernel_rfl) (by simp) ?_
                      refine AllReady.cons rfl (fun K hK => ?_) AllReady.nil
                      go_simp
                      refine hK _ _ ?_
                      clear hK K
                      refine wpAny_ready (rs := [14]) (by kernel_rfl) (by simp) ?_
                      refine AllReady.cons rfl (fun K hK => ?_) AllReady.nil
                      refine step_app_any rfl (.tmp 80) (.tmp 84) 33 rfl wo.heap.size 3 1 8 int_app (iv (ni ((q.take c).map (sw e)))) rfl (own_below HROW7.out (by go_grown)) [.int .i64 (sx : Int)] rfl rfl (fun h => by cases h) (cells_at rfl _ _) (one_cell _) h63 hbig (Nat.le_trans hszd (by go_grown : Below wd.heap.size wd _).size) ?_
                      intro A8 c8 w8 hown8 hg8 hb8
                      have hbA : Below wo.heap.size wd w8 := (Below.mono (by go_grown : Below wd.heap.size wd _) hszd).trans hb8
                      have hsA := hbA.size
                      have hO8 := HOWN7.out.below hbA (by omega)
                      have hf8 := hO8.frozen si
                      have hc8 := hO8.cell (j := si) (v := .slice A1 c c1) (by rw [List.getElem?_set_self (by rw [HCL.out]; exact hsil)])
                      have HOWN8 := Lib.hid hown8
                      have HO8 := Lib.hid hO8
                      have HBA := Lib.hid hbA
                      clear hown8 hO8 hbA hg8 hb8
                      refine hK _ _ ?_
                      clear hK K
                      refine wpAny_take (i := 15) (v := .pointer (some ⟨G, si, none⟩)) rfl (by kernel_rfl) (by kernel_rfl) (by kernel_rfl) (fun _ _ _ h => h) (Or.inl ⟨by rfl, fun w => by go_simp⟩) ?_
                      refine wpAny_ready (rs := [16]) (by kernel_rfl) (by simp) ?_
                      refine AllReady.cons rfl (fun K hK => ?_) AllReady.nil
                      go_simp
                      refine hK _ _ ?_
                      clear hK K
                      refine wpAny_done (by kernel_rfl) ?_ _
                      go_wp2
                      go_round
                      case rel =>
                        refine ⟨c + 1, A8, c8, by omega, by go_num, ?_, ?_, (HWR7D.out.andThen HBA.out).set rfl _⟩
                        · have := HO8.out.set si (.slice A8 (c + 1) c8)
                          rw [List.set_set] at this
                          exact this
                        · rw [HTK.out]
                          exact own_farW HOWN8.out (by show G < wo.heap.size; omega) _
                      case measure => (simp [intOf]; omega)
                · have hcq : ql = c := by omega
                  subst hcq
                  have hsr : swR nx e i = (q.take ql).map (sw e) := by
                    unfold swR
                    rw [HQ.out, List.take_of_length_le (by rw [HQL.out]; exact Nat.le_refl _)]
                  have hlr : (swR nx e i).length = ql := by rw [hsr]; simp [HQL.out]
                  have hrd := own_rdI hrow7 (by simp [ni, HQL.out])
                  have hblk := own_slice_block hrow7
                  rw [← hsr] at hrd
                  have HRD := Lib.hid hrd
                  have HLR := Lib.hid hlr
                  clear hsr hlr hrd
                  go_wp2
                  go_round
                  case rel =>
                    refine ⟨i + 1, _, by omega, by go_num, by rw [List.length_set]; exact HCL.out, hown7, fun r hr => ?_, fun r h1 h2 => ?_, HHWR.out.trans hwr7⟩
                    · by_cases hri : r = i
                      · subst hri
                        refine ⟨A1, c1, ?_, HRD.out, fun ad hA => ?_⟩
                        · rw [HSI.out, HLR.out]
                          exact List.getElem?_set_self (by rw [HCL.out]; exact hsil)
                        · have := hblk ad hA
                          omega
                      · exact SwRows.wrote HROWS.out hwr7 (fun r hr => List.getElem?_set_ne (fun h => by have := sw_inj (HSI.out.trans h); omega)) r (by omega)
                    · rw [List.getElem?_set_ne (fun h => by have := sw_inj (HSI.out.trans h); omega)]
                      exact HNIL.out r (by omega) h2
                  case measure => (simp [intOf]; omega)
            · have hil : len = i := by omega
              subst hil
              have hen : e < nx.length := by rw [HLEN.out]; exact he
              have HRD := Lib.hid (SwRows.done hen hown6 (by rw [HLEN.out]; exact hrows))
              have HSL := Lib.hid ((swG_len nx e).trans HLEN.out)
              have HSURE := Lib.hid (fun i k (hi : i < nx.length) => sure_swap HC.out hen HSE.out (by rw [HLEN.out]; exact HUE.out) (i := i) (k := k) hi)
              have hbw := (HB05.out).trans (hwr.below (Nat.le_of_lt hgG) hs5)
              have HBW := Lib.hid hbw
              have HBX := Lib.hid ((hwr.cell (p := ⟨w1.heap.size, 0, none⟩) (by show w1.heap.size < w5.heap.size; omega) (by show w1.heap.size ≠ G; omega)).trans HBOX.out)
              have hszb := hbw.size
              clear hcl hnil hrows hbw
              go_wp2_with fail
              refine (may_any _ _ _ (swG nx e) _ HRD.out HSL.out hmm).mono ?_
              rintro r0 w9 ⟨rfl, rfl⟩
              by_cases hc2 : ckWay (swG nx e) = 0
              · have HC2 := Lib.hid hc2
                rw [decide_eq_true hc2]
                clear hc2
                go_wp2_with fail
                refine (K2.table _ _ _ (swG nx e) _ HRD.out HSL.out HC2.out).mono ?_
                rintro r0 w10 ⟨rs, A9, c9, htb, rfl, hr9, hb9⟩
                have HTB := Lib.hid htb
                have HRL := Lib.hid (htb.len.trans HSL.out)
                have hbw10 := HBW.out.trans (hb9.mono hszb)
                have hbx10 := (hb9.cell (World.block_lt_of_cell? _ _ HBX.out)).trans HBX.out
                have hl10 := hr2.below hbw10 (Nat.le_refl _)
                have hs10 := hbw10.size
                have hbxl := World.block_lt_of_cell? _ _ hbx10
                have HBX10 := Lib.hid hbx10
                have HB10 := Lib.hid hbw10
                have hp8 : 2 ^ len ≤ 2 ^ 8 := Nat.pow_le_pow_right (by omega) hb2'
                have HP8 := Lib.hid hp8
                clear htb hb9 hbx10 hbw10 hp8
                go_wp2
                go_loopw [16] (fun z wr => ∃ i : Nat, i ≤ len ∧ z = .int .i64 i ∧ Below w10.heap.size w10 wr) (fun z _ => len - (intOf z).toNat)
                case atStart => exact ⟨0, Nat.zero_le _, rfl, Below.refl _ _⟩
                case round =>
                  obtain ⟨i, hi, rfl, hbr⟩ := hrel
                  by_cases hit : i < len
                  · obtain ⟨wo, rfl⟩ : ∃ wo : World, wo = wr := ⟨_, rfl⟩
                    go_wp2
                    go_loopw [17] (fun z wi => ∃ k : Nat, k ≤ len ∧ z = .int .i64 k ∧ Below w10.heap.size w10 wi) (fun z _ => len - (intOf z).toNat)
                    case atStart => exact ⟨0, Nat.zero_le _, rfl, hbr⟩
                    case round =>
                      obtain ⟨k, hk, rfl, hbi⟩ := hrel
                      by_cases hkt : k < len
                      · obtain ⟨si, hsi⟩ : ∃ si, sw e i = si := ⟨_, rfl⟩
                        obtain ⟨sk, hsk⟩ : ∃ sk, sw e k = sk := ⟨_, rfl⟩
                        have hsil := sw_lt (n := len) he hit
                        rw [hsi] at hsil
                        obtain ⟨a1, L, rfl, hbl1, hdL, hcL⟩ := (hl10.below hbi hs10).at_ (k := i) (by rw [HLL.out]; exact hit)
                        obtain ⟨a2, R, rfl, hbl2, hdR, hcR⟩ := (hr9.below hbi (Nat.le_refl _)).at_ (k := si) (by rw [HRL.out]; exact hsil)
                        have hL0 := HPL.out.lt i L hdL
                        rw [HLEN.out] at hL0
                        have hL8 : L < 2 ^ 8 := Nat.lt_of_lt_of_le hL0 HP8.out
                        have hR8 : R < 2 ^ 8 := HTB.out.lt si R hdR
                        have hL32 : L < 4294967296 := by omega
                        have hR32 : R < 4294967296 := by omega
                        have hbits : L.testBit k = R.testBit sk := by
                          rw [Bool.eq_iff_iff, HPL.out.mem i L hdL, HTB.out.mem si R hdR, ← hsi, ← hsk]
                          exact HSURE.out i k (by rw [HLEN.out]; exact hit)
                        have hbl := bitB_nat (j := k) hL8
                        have hbr' := bitB_nat (j := sk) hR8
                        rw [← hbits] at hbr'
                        have hbx := (hbi.cell hbxl).trans HBX10.out
                        have HSI := Lib.hid hsi
                        have HSK := Lib.hid hsk
                        obtain ⟨b, hb⟩ : ∃ b, L.testBit k = b := ⟨_, rfl⟩
                        rw [hb] at hbl hbr'
                        have HBL := Lib.hid hbl
                        have HBR := Lib.hid hbr'
                        clear hsi hsk hdL hdR hL0 hbits hbl hbr' hb
                        have hkk : k < len := hkt
                        go_wp2
                        cases b with
                        | true =>
                          go_quiet ((first
                            | (go_at_call 9; (first | (with_reducible exact Calls.quiet_of_same (bit_quiet HBL.out _ hL32)) | (with_reducible exact Calls.quiet_of_same (bit_quiet HBR.out _ hR32))))
                            | (go_at_call 15; (first | (with_reducible refine Calls.quiet_of_same (name_quiet HSI.out _ ?_)) | (with_reducible refine Calls.quiet_of_same (name_quiet HSK.out _ ?_))); exact hbx)))
                          go_wp2
                          go_round
                          case rel => exact ⟨k + 1, by omega, by go_num, ⟨hbi.os, hbi.tape, hbi.output, hbi.size, hbi.block⟩⟩
                          case measure => (simp [intOf]; omega)
                        | false =>
                          go_quiet ((first
                            | (go_at_call 9; (first | (with_reducible exact Calls.quiet_of_same (bit_quiet HBL.out _ hL32)) | (with_reducible exact Calls.quiet_of_same (bit_quiet HBR.out _ hR32))))
                            | (go_at_call 15; (first | (with_reducible refine Calls.quiet_of_same (name_quiet HSI.out _ ?_)) | (with_reducible refine Calls.quiet_of_same (name_quiet HSK.out _ ?_))); exact hbx)))
                          go_wp2
                          go_round
                          case rel => exact ⟨k + 1, by omega, by go_num, ⟨hbi.os, hbi.tape, hbi.output, hbi.size, hbi.block⟩⟩
                          case measure => (simp [intOf]; omega)
                      · go_wp2
                        go_round
                        case rel => exact ⟨i + 1, by omega, by go_num, hbi⟩
                        case measure => (simp [intOf]; omega)
                  · have hil : len = i := by omega
                    subst hil
                    go_wp2
                    go_ret
                    exact ⟨ret_bool (by simp), HRED.out.trans (HB10.out.trans (hbr.mono hs10) |>.mono HRED.out.size)⟩
              · rw [decide_eq_false hc2]
                clear hc2
                go_wp2
                go_ret
                exact ⟨ret_bool (by simp), HRED.out.trans (HBW.out.mono HRED.out.size)⟩
  · have hne : (ckWay nx != 0) = true := by simp [hc]
    have HC := Lib.hid hc
    clear hc
    go_enter Try.func5, Try.ntmps5
    go_wp2_with fail
    refine (K.lastBad A _ cap nx _ hx rfl HM.out HC.out).mono ?_
    rintro e w1 ⟨A3, c3, rfl, hb1⟩
    have hx1 := (hx.below hb1 (Nat.le_refl _)).more hb1.size
    go_wp2_with fail
    refine (may_any A _ cap nx _ hx1 rfl hmm).mono ?_
    rintro e w3 ⟨rfl, rfl⟩
    rw [decide_eq_false HC.out]
    go_wp2
    go_ret
    exact ⟨ret_bool (by simp), hb1⟩

theorem tableFor : TableIs := ⟨ruleTable_any, ruleTable_bad⟩

set_option maxRecDepth 100000 in
theorem lawHangTurn_lifted (os : Os) (started : os.Started) (H : Type) (enc : TypeId × Value → H) :
    ReturnsInHanded {} Try.checked os 5 .any (Rows.hangTurnSpec.pre6 enc Try.prog Try.f5 Rows.hangTurnRow.domain false) (Rows.hangTurnSpec.post enc Try.prog Try.f5 false true false false) := by
  refine returnsInHanded_of_change_sized (C := Try.checked) Try.own started (by kernel_rfl) Try.func5
    (ChangeSpec.witness6 (enc := enc) (C := Try.checked) false ⟨#[], #[.slice none 0 0], []⟩ 8 (by kernel_rfl) (by kernel_rfl) (by kernel_rfl) (by kernel_rfl)) ?_
  intro W base args ds gs before hval0 hW hcnd hsz _
  have hval : ∀ (j : Nat) t v, Try.f5.params[j]? = some t → args[j]? = some v → Value.okWide Try.prog W .any base t v := hval0
  have hW' := hW
  obtain ⟨p, q, hA0, hV, rfl, hfz, hnd⟩ := hW
  have hA : DataW.TrodAll enc Try.prog W 0 (fun _ => true) true Try.f5.params.toList args.toList ds p := hA0
  obtain ⟨hgs, _⟩ := trodVars_none hV
  rw [Try.params5] at hA hval
  obtain ⟨v0, vs0, d0, ds0, p0, q0, hargs, rfl, rfl, h0, r0⟩ := trodAll_cons hA
  obtain ⟨rfl, rfl, rfl⟩ := trodAll_nil r0
  have hargs2 : args = #[v0] := Array.toList_inj.1 hargs
  subst hargs2
  obtain ⟨A0, c0, l0, rfl, lc0, cm0, x0, r0⟩ := open_graphA (hval 0 22 v0 rfl rfl) h0
  have b0 := len_reach Try.underlying22 (hval 0 22 _ rfl rfl) h0 hsz (j := 0) (by rw [Try.params5]; rfl) rfl
  rw [show Try.prog.bytesOf (Try.prog.elem 22) = 24 from by kernel_rfl] at b0
  refine (lawHangTurn_any lastIs tableFor A0 c0 l0 _ x0 (by omega)).mono fun e W' ⟨he, hb⟩ => ?_
  subst he
  exact ⟨_, rfl, law_post Try.laidOut rfl (by kernel_rfl) Try.underlying4 ⟨rfl, rfl, rfl⟩ (by kernel_rfl) hW' hb⟩

theorem hangTurn_holds : Rows.HangTurnSaid :=
  OpenClaim.holds_of_wide 5 Try.f5 rfl rfl rfl rfl rfl rfl rfl ⟨rfl, rfl, rfl, rfl, rfl⟩ rfl rfl rfl rfl rfl (by kernel_rfl) Try.func5 (show joinedFacts Try.prog 5 Try.f5 Rows.hangTurnSpec Rows.hangTurnRow = true from (by unfold joinedFacts; (repeat' (with_reducible refine and_both ?_ ?_)) <;> first | (with_reducible exact may_enter) | ((with_reducible refine make_ok ?_); rfl) | ((with_reducible refine lifts_ok ?_); rfl) | kernel_rfl))
    (of_decide_eq_true (by kernel_rfl)) (by unfold Func.isWrapper; rw [if_neg (of_decide_eq_false (by kernel_rfl))]; exact ⟨rfl, rfl⟩)
    (fun os started H enc _ => lawHangTurn_lifted os started H enc)

end Go.Proofs.Ytfijkkllfbpepaa
