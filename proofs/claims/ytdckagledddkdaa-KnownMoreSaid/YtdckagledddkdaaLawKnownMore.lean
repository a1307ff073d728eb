/-
  Less known at the beginning: nowhere is more known, and one comes to no fewer blocks (L1): codemasonkeep.KnownMore returns true and leaves its arguments alone. No condition.
-/
import Derived.Test.YtdckagledddkdaaLawKnown
import Derived.Test.YtdckagledddkdaaKnIn
import Derived.Test.YtdckagledddkdaaLists
import Derived.Test.YtdckagledddkdaaBlockDo
import Derived.Test.YtdckagledddkdaaMBase
import Derived.BigQuiet
namespace Go.Proofs.Ytdckagledddkdaa
open Go.RowKit Go.ChangeShapes Go.WideShapes Go.ChangeAt Go.Deep
set_option linter.unusedSimpArgs false
set_option linter.unusedVariables false
set_option maxRecDepth 100000

theorem leL_less (a : List Int) (v : Nat) (hv : v < a.length) : LeL a (a.set v (-1)) := ⟨by simp, fun u hu => by
  rw [getD_setK a v u (-1) hv]
  split
  · exact .inl rfl
  · exact .refl _⟩

set_option maxHeartbeats 16000000 in
theorem lawKnownMore_any (K : KnownIs) (vars : Int) (A SA : Option Addr) (cap sc : Nat) (v : Int) (p : List Bk) (st : List Int) (w : World) (hx : RdP w w.heap.size A p) (hs : RdI w w.heap.size SA st) (hm : p.length ≤ maxLen) (hin : ∀ b ∈ p, InBk b) (hsm : st.length ≤ maxLen) :
    Calls Try.prog 7 #[.int .i64 vars, .slice A p.length cap, .slice SA st.length sc, .int .i64 v] w fun e w' => e = .returned (.bool true) ∧ Below w.heap.size w w' := by
  obtain ⟨len, hl⟩ : ∃ len, p.length = len := ⟨_, rfl⟩
  have HL := Lib.hid hl
  rw [hl] at hm ⊢
  have HPC := Lib.hid (fun (Z : World) (hZ : Below w.heap.size w Z) => refProgCheck_any vars A len cap p Z ((hx.below hZ (Nat.le_refl _)).more hZ.size) hl hm hin)
  obtain ⟨sl, hsl⟩ : ∃ k, st.length = k := ⟨_, rfl⟩
  have HSL := Lib.hid hsl
  rw [hsl] at hsm ⊢
  by_cases hc : ckKnow vars p st = 0
  · obtain ⟨n, rfl, hn1, hn6, hc1, hk⟩ := ckKnow_ok hc
    obtain ⟨_, _, b3, b4, b5, _⟩ := ckProg_bd hc1
    rw [hl] at b3 b4
    obtain rfl : n = sl := by rw [← hsl]; exact hk.1.symm
    have HC1 := Lib.hid hc1
    have HK := Lib.hid hk
    have HST := Lib.hid (ckStart_ok.2 hk)
    have HIN := Lib.hid (K.in_ n A SA len cap sc p st w hx hs hl hc1 hk)
    have HL1 : Hid ((iv st).length = n * 1) := Lib.hid (by simp [iv, hsl])
    have HN1 : Hid (SA = none → n = 0) := Lib.hid fun h => by have := hs.nil h; rw [hsl] at this; exact this
    have HNW : Hid (∀ Z : World, Below w.heap.size w Z → ∀ ad, SA = some ad → ∀ j u, (iv st)[j]? = some u → Z.cell? (ad.add j) = some u) := Lib.hid fun Z hZ => (hs.below hZ (Nat.le_refl _)).news
    have ha_ : 0 + n ≤ maxLen := by unfold maxLen; omega
    have hb_ : (0 + n) * 8 ≤ 140737488355328 := by omega
    have hn0 : ((n : Int) == 0) = false := by simp; omega
    clear hc hc1 hk hl hin hsl
    go_enter Try.func7, Try.ntmps7
    go_wp2_with fail
    refine HIN.out.mono ?_
    rintro e w1 ⟨A1, c1, L, rfl, hx1, hL, hb1⟩
    have HLE := Lib.hid hL
    have HLL : Hid (L.length = len) := Lib.hid (by rw [hL.sol.len, HL.out])
    clear hL
    go_wp2_with fail
    refine (HPC.out _ hb1).mono ?_
    rintro e w2 ⟨rfl, hb2⟩
    rw [HC1.out]
    have hb02 := hb1.trans (hb2.mono hb1.size)
    have hx12 := (hx1.below hb2 (Nat.le_refl _)).more hb2.size
    have hs2 := (hs.below hb02 (Nat.le_refl _)).more hb02.size
    have hsz2 := hb02.size
    clear hx1
    go_wp2_with (first
      | (go_at_call 16; (with_reducible refine (startCheck_any n SA n sc st _ _ hs2 HSL.out hsm).mono ?_); rw [HST.out]; rintro e w5 ⟨rfl, rfl⟩)
      | (at_builtin; refine wpList_app rfl (.tmp 35) (.tmp 36) 23 rfl w2.heap.size 3 1 8 int_app [] rfl (own_empty_at _ _ _ _ (by simp) (by simp)) (iv st) rfl HL1.out HN1.out (HNW.out _ (by go_grown)) (iv_one _) ha_ hb_ (by simp) ?_; intro A3 c3 w4 hown4 hg4 hb4; rw [Nat.zero_add, List.nil_append] at hown4))
    obtain ⟨g, rfl, hg0, hg1⟩ := own_form hown4 (by omega)
    have hbw4 : Below w2.heap.size w2 w4 := ((by go_grown : Below w2.heap.size w2 (w2.alloc (.cells #[] 3)))).trans hb4
    clear hg4 hb4
    obtain ⟨lv, hlv⟩ : ∃ lv, (if 0 ≤ v ∧ v < n then st.set v.toNat (-1) else st) = lv := ⟨_, rfl⟩
    have HKL : Hid (KOk n lv) := Lib.hid (by
      rw [← hlv]
      split
      · exact HK.out.set ⟨by omega, by omega⟩
      · exact HK.out)
    have HLV : Hid (LeL st lv) := Lib.hid (by
      rw [← hlv]
      split
      · exact leL_less st _ (by rw [HSL.out]; omega)
      · exact .refl _)
    refine (inside1_any n v _ _ _ (cell_new (by simp) rfl)).mono ?_
    rintro e w5 ⟨rfl, rfl⟩
    by_cases hin : 0 ≤ v ∧ v < n
    rotate_left
    focus
      have HINS := Lib.hid (decide_eq_false hin)
      rw [HINS.out]
      rw [if_neg hin] at hlv
      have hst := hown4.alloc (.cells #[.int .i64 v] 3)
      rw [hlv] at hst
      have hbS := hbw4.alloc hbw4.size (.cells #[.int .i64 v] 3)
      clear hin hlv hown4
      go_wp2_with fail
      obtain ⟨w5, hw5⟩ : ∃ w5, w4.alloc (.cells #[.int .i64 v] 3) = w5 := ⟨_, rfl⟩
      rw [hw5] at hst hbS ⊢
      have hrl : RdI w5 w5.heap.size (some ⟨g, 0, none⟩) lv := own_rdI hst HKL.out.1
      clear hst hw5
    rotate_left
    focus
      have HINS := Lib.hid (decide_eq_true hin)
      rw [HINS.out]
      rw [if_pos hin] at hlv
      obtain ⟨vn, rfl⟩ := Int.eq_ofNat_of_zero_le hin.1
      rw [Int.toNat_natCast] at hlv
      have hvn : vn < n := by omega
      have hvl : vn < st.length := by rw [HSL.out]; exact hvn
      have hown5 := hown4.alloc (.cells #[.int .i64 (vn : Int)] 3)
      have hct := (hown5.cellAt vn (by omega)).trans (iv_at (List.getElem?_eq_getElem hvl))
      have hfz := hown5.frozenAt vn
      have hst := (hown4.stored vn (.int .i64 (-1))).1
      rw [iv_set, hlv] at hst
      have hst := hst.alloc (.cells #[.int .i64 (vn : Int)] 3)
      have hbS := (hbw4.setCell (show w2.heap.size ≤ (⟨g, vn, none⟩ : Addr).block from hg0) (.int .i64 (-1))).alloc (by simpa using hbw4.size) (.cells #[.int .i64 (vn : Int)] 3)
      generalize st[vn] = xt at *
      clear hin hlv hown4
      go_wp2_with fail
      obtain ⟨w5, hw5⟩ : ∃ w5, (w4.setCell ⟨g, vn, none⟩ (.int .i64 (-1))).alloc (.cells #[.int .i64 (vn : Int)] 3) = w5 := ⟨_, rfl⟩
      rw [hw5] at hst hbS ⊢
      have hrl : RdI w5 w5.heap.size (some ⟨g, 0, none⟩) lv := own_rdI hst HKL.out.1
      clear hst hw5 hct hfz hown5
    all_goals
      have hb05 := hb02.trans (hbS.mono hsz2)
      refine (K.in_ n A _ len cap c3 p lv _ ((hx.below hb05 (Nat.le_refl _)).more hb05.size) hrl HL.out HC1.out HKL.out).mono ?_
      rintro e w6 ⟨A2, c2, M, rfl, hxm, hM, hb6⟩
      have hb06 := hb05.trans (hb6.mono hb05.size)
      have hb26 := hbS.trans (hb6.mono hbS.size)
      have hx16 := (hx12.below hb26 (Nat.le_refl _)).more hb26.size
      have HMORE := Lib.hid (HLE.out.more hM HLV.out)
      have HML : Hid (M.length = len) := Lib.hid (by rw [hM.sol.len, HL.out])
      have hs6 := hb06.size
      clear hM hx12
      go_wp2
      go_loopw [14] (fun z wr => ∃ i : Nat, i ≤ len ∧ z = .int .i64 i ∧ Below w6.heap.size w6 wr) (fun z _ => len - (intOf z).toNat)
      case atStart => exact ⟨0, Nat.zero_le _, rfl, Below.refl _ _⟩
      case round =>
        obtain ⟨wo, rfl⟩ : ∃ wo, wo = wr := ⟨_, rfl⟩
        obtain ⟨i, hi, rfl, hbo⟩ := hrel
        have hszo := hbo.size
        by_cases hlt : i < len
        · obtain ⟨an, row, Ar, cr, rfl, hbl3, hd3, hcl3, hrow3⟩ := (hx16.below hbo (Nat.le_refl _)).at_ (k := i) (by rw [HLL.out]; exact hlt)
          obtain ⟨am, row2, Ar2, cr2, rfl, hbl4, hd4, hcl4, hrow4⟩ := (hxm.below hbo (Nat.le_refl _)).at_ (k := i) (by rw [HML.out]; exact hlt)
          have hle := HMORE.out i
          rw [getD_at hd3, getD_at hd4] at hle
          by_cases hne : row = []
          · subst hne
            clear hd3 hd4 hle hrow3 hrow4 hcl4
            simp only [List.length_nil] at hcl3
            go_wp2
            go_round
            case rel => exact ⟨i + 1, by omega, by go_num, hbo⟩
            case measure => (simp [intOf]; omega)
          · have hrr := hle.of_ne hne
            have hrl : row.length = n := by
              rcases HLE.out.sol.ok i row hd3 with h | h
              · exact absurd h hne
              · exact h.1
            have hrl2 : row2.length = n := by rw [← hrr.1]; exact hrl
            rw [hrl] at hcl3
            rw [hrl2] at hcl4
            have HRL := Lib.hid hrl
            have HRL2 := Lib.hid hrl2
            have HRR := Lib.hid hrr
            have hrw3 := hrow3.more hszo
            have hrw4 := hrow4.more hszo
            clear hd3 hd4 hle hne hrr hrl hrl2 hrow3 hrow4
            go_wp2
            go_loopw [15] (fun z wr => ∃ j : Nat, j ≤ n ∧ z = .int .i64 j ∧ Below wo.heap.size wo wr) (fun z _ => n - (intOf z).toNat)
            case atStart => exact ⟨0, Nat.zero_le _, rfl, Below.refl _ _⟩
            case round =>
              obtain ⟨j, hj, rfl, hbi⟩ := hrel
              by_cases hjt : j < n
              · obtain ⟨ad, x, rfl, hbl5, hd5, hcx⟩ := (hrw3.below hbi (Nat.le_refl _)).at_ (k := j) (by rw [HRL.out]; exact hjt)
                obtain ⟨ad2, y, rfl, hbl6, hd6, hcy⟩ := (hrw4.below hbi (Nat.le_refl _)).at_ (k := j) (by rw [HRL2.out]; exact hjt)
                have hc3 := (hbi.cell (by omega)).trans hcl3
                have hc4 := (hbi.cell (by omega)).trans hcl4
                have hxy := HRR.out.2 j (by rw [HRL.out]; exact hjt)
                rw [getD_at hd5, getD_at hd6] at hxy
                clear hd5 hd6
                by_cases hy0 : 0 ≤ y
                · obtain rfl : x = y := by
                    rcases hxy with h | h
                    · omega
                    · exact h
                  have f1 : decide (0 ≤ x) = true := by simp; omega
                  have f2 : (x != x) = false := by simp
                  clear hxy
                  go_wp2
                  go_quiet (fail)
                  go_wp2
                  go_round
                  case rel => exact ⟨j + 1, by omega, by go_num, below_drewNI hbi _⟩
                  case measure => (simp [intOf]; omega)
                · have f1 : decide (0 ≤ y) = false := by simp; omega
                  clear hxy
                  go_wp2
                  go_quiet (fail)
                  go_wp2
                  go_round
                  case rel => exact ⟨j + 1, by omega, by go_num, below_drewNI hbi _⟩
                  case measure => (simp [intOf]; omega)
              · go_wp2
                go_round
                case rel => exact ⟨i + 1, by omega, by go_num, hbo.trans (hbi.mono hszo)⟩
                case measure => (simp [intOf]; omega)
        · go_wp2
          go_ret
          exact ⟨rfl, hb06.trans (hbo.mono hs6)⟩
  · have HIB := Lib.hid (K.inBad vars A SA len cap sl sc p st w hx hs hl hm hin hsl hsm hc)
    by_cases h1 : ckProg vars p = 0
    · have hck : ckKnow vars p st = ckStart vars st := by unfold ckKnow; rw [if_pos h1]
      rw [hck] at HIB hc
      have H1 := Lib.hid h1
      obtain ⟨c, hce⟩ : ∃ c, ckStart vars st = c := ⟨_, rfl⟩
      have HCE := Lib.hid hce
      rw [hce] at HIB hc
      have hne : (c != 0) = true := by simp [hc]
      clear hc hl hin hce h1 hck hsl
      go_enter Try.func7, Try.ntmps7
      go_wp2_with fail
      refine HIB.out.mono ?_
      rintro e w1 ⟨A1, c1, rfl, hb1⟩
      go_wp2_with fail
      refine (HPC.out _ hb1).mono ?_
      rintro e w2 ⟨rfl, hb2⟩
      rw [H1.out]
      have hb02 := hb1.trans (hb2.mono hb1.size)
      have hs2 := (hs.below hb02 (Nat.le_refl _)).more hb02.size
      go_wp2_with (go_at_call 16; (with_reducible refine (startCheck_any vars SA sl sc st _ _ hs2 HSL.out hsm).mono ?_); rw [HCE.out]; rintro e w5 ⟨rfl, rfl⟩)
      go_ret
      exact ⟨rfl, hb02⟩
    · have hck : ckKnow vars p st = ckProg vars p := by unfold ckKnow; rw [if_neg h1]
      rw [hck] at HIB
      have hne : (ckProg vars p != 0) = true := by simp [h1]
      clear hc hl hin h1 hck hsl
      go_enter Try.func7, Try.ntmps7
      go_wp2_with fail
      refine HIB.out.mono ?_
      rintro e w1 ⟨A1, c1, rfl, hb1⟩
      go_wp2_with fail
      refine (HPC.out _ hb1).mono ?_
      rintro e w2 ⟨rfl, hb2⟩
      go_wp2_with fail
      go_ret
      exact ⟨rfl, hb1.trans (hb2.mono hb1.size)⟩

set_option maxRecDepth 100000 in
theorem lawKnownMore_lifted (os : Os) (started : os.Started) (H : Type) (enc : TypeId × Value → H) :
    ReturnsInHanded {} Try.checked os 7 .any (Rows.knownMoreSpec.pre6 enc Try.prog Try.f7 Rows.knownMoreRow.domain false) (Rows.knownMoreSpec.post enc Try.prog Try.f7 false true false false) := by
  refine returnsInHanded_of_change_sized (C := Try.checked) Try.own started (by kernel_rfl) Try.func7
    (ChangeSpec.witness6 (enc := enc) (C := Try.checked) false ⟨#[], #[.int .i64 0, .slice none 0 0, .slice none 0 0, .int .i64 0], []⟩ 8 (by kernel_rfl) (by kernel_rfl) (by kernel_rfl) (by kernel_rfl)) ?_
  intro W base args ds gs before hval0 hW hcnd hsz _
  have hval : ∀ (j : Nat) t v, Try.f7.params[j]? = some t → args[j]? = some v → Value.okWide Try.prog W .any base t v := hval0
  have hW' := hW
  obtain ⟨p, q, hA0, hV, rfl, hfz, hnd⟩ := hW
  have hA : DataW.TrodAll enc Try.prog W 0 (fun _ => true) true Try.f7.params.toList args.toList ds p := hA0
  obtain ⟨hgs, _⟩ := trodVars_none hV
  rw [Try.params7] at hA hval
  obtain ⟨v0, vs0, d0, ds0, p0, q0, hargs, rfl, rfl, h0, r0⟩ := trodAll_cons hA
  obtain ⟨v1, vs1, d1, ds1, p1, q1, rfl, rfl, rfl, h1, r1⟩ := trodAll_cons r0
  obtain ⟨v2, vs2, d2, ds2, p2, q2, rfl, rfl, rfl, h2, r2⟩ := trodAll_cons r1
  obtain ⟨v3, vs3, d3, ds3, p3, q3, rfl, rfl, rfl, h3, r3⟩ := trodAll_cons r2
  obtain ⟨rfl, rfl, rfl⟩ := trodAll_nil r3
  have hargs2 : args = #[v0, v1, v2, v3] := Array.toList_inj.1 hargs
  subst hargs2
  obtain ⟨a0, rfl, _, _, w0⟩ := open_int Try.underlying3 (hval 0 3 v0 rfl rfl) h0
  obtain ⟨A1, c1, l1, rfl, lc1, cm1, x1, g1⟩ := open_progA (reach_at hsz (j := 1) (t := 22) (by rw [Try.params7]; rfl) rfl) (hval 1 22 v1 rfl rfl) h1
  have b1 := len_reach Try.underlying22 (hval 1 22 _ rfl rfl) h1 hsz (j := 1) (by rw [Try.params7]; rfl) rfl
  rw [show Try.prog.bytesOf (Try.prog.elem 22) = 48 from by kernel_rfl] at b1
  obtain ⟨A2, c2, l2, rfl, lc2, cm2, x2, r2⟩ := open_intsA (hval 2 23 v2 rfl rfl) h2
  have b2 := len_reach Try.underlying23 (hval 2 23 _ rfl rfl) h2 hsz (j := 2) (by rw [Try.params7]; rfl) rfl
  rw [show Try.prog.bytesOf (Try.prog.elem 23) = 8 from by kernel_rfl] at b2
  obtain ⟨a3, rfl, _, _, w3⟩ := open_int Try.underlying3 (hval 3 3 v3 rfl rfl) h3
  refine (lawKnownMore_any knownIs a0 A1 A2 c1 c2 a3 l1 l2 _ x1 x2 (by omega) g1 (by omega)).mono fun e W' ⟨he, hb⟩ => ?_
  subst he
  exact ⟨_, rfl, law_post Try.laidOut rfl (by kernel_rfl) Try.underlying4 ⟨rfl, rfl, rfl⟩ (by kernel_rfl) hW' hb⟩

theorem knownMore_holds : Rows.KnownMoreSaid :=
  OpenClaim.holds_of_wide 7 Try.f7 rfl rfl rfl rfl rfl rfl rfl ⟨rfl, rfl, rfl, rfl, rfl⟩ rfl rfl rfl rfl rfl (by kernel_rfl) Try.func7 (show joinedFacts Try.prog 7 Try.f7 Rows.knownMoreSpec Rows.knownMoreRow = true from (by unfold joinedFacts; (repeat' (with_reducible refine and_both ?_ ?_)) <;> first | (with_reducible exact may_enter) | ((with_reducible refine make_ok ?_); rfl) | ((with_reducible refine lifts_ok ?_); rfl) | kernel_rfl))
    (of_decide_eq_true (by kernel_rfl)) (by unfold Func.isWrapper; rw [if_neg (of_decide_eq_false (by kernel_rfl))]; exact ⟨rfl, rfl⟩)
    (fun os started H enc _ => lawKnownMore_lifted os started H enc)

end Go.Proofs.Ytdckagledddkdaa
