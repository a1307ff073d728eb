/-
  What is told to be known is so in every run, and a run is in no block to which one is told not to come (L1): codemasonkeep.KnownRight returns true and leaves its arguments alone. No condition.
-/
import Derived.Test.YtdckagledddkdaaLawKnown
import Derived.Test.YtdckagledddkdaaKnIn
import Derived.Test.YtdckagledddkdaaLawStarted
import Derived.Test.YtdckagledddkdaaBlockIs
import Derived.Test.YtdckagledddkdaaBlockDo
import Derived.Test.YtdckagledddkdaaLists
namespace Go.Proofs.Ytdckagledddkdaa
open Go.RowKit Go.ChangeShapes Go.WideShapes Go.ChangeAt Go.Deep
set_option linter.unusedSimpArgs false
set_option linter.unusedVariables false
set_option maxRecDepth 100000

/-- on the way of a run: what is left of it begins here, with values as is known -/
def OnWay (n : Nat) (p : List Bk) (L : List (List Int)) (l : List Nat) (k : Nat) (v : List Int) : Prop :=
  ValsOk n v ∧ ∀ i : Nat, l[k]? = some i → i < p.length ∧ AsKnown p L i v ∧ ∃ (f : Nat) (x : List Int), goP p f (i : Int) v = some (x, l.drop k)

theorem OnWay.start {n : Nat} {p : List Bk} {L : List (List Int)} {hv st x : List Int} {l : List Nat} (hp : ckProg n p = 0) (hs : Sol n p st L) (hn : 0 < n) (hvo : ValsOk n hv) (hle : LeL hv st) (h : goP p 200 0 hv = some (x, l)) : OnWay n p L l 0 hv := by
  have hpl : 0 < p.length := by
    have := (ckProg_bd hp).2.2.1
    omega
  refine ⟨hvo, fun i hi => ?_⟩
  obtain ⟨r, rfl, _⟩ := goP_way hp 200 0 hv x l hpl hvo h
  simp at hi
  subst hi
  exact ⟨hpl, AsKnown.start hs hn hvo.1 hle, 200, x, h⟩

theorem OnWay.step {n : Nat} {p : List Bk} {L : List (List Int)} {st v : List Int} {l : List Nat} {k i : Nat} {b : Bk} (hp : ckProg n p = 0) (hs : Sol n p st L) (h : OnWay n p L l k v) (hi : l[k]? = some i) (hb : p[i]? = some b) : OnWay n p L l (k + 1) (doS b.code v) := by
  obtain ⟨hvo, h⟩ := h
  obtain ⟨hip, hak, f, x, hg⟩ := h i hi
  have hok := ckProg_at hp hb
  have hvo2 := doS_ok hok.code hvo
  refine ⟨hvo2, fun j hj => ?_⟩
  have hd : l.drop k = i :: l.drop (k + 1) := by
    rw [List.drop_eq_getElem_cons (List.getElem?_eq_some_iff.1 hi).1, (List.getElem?_eq_some_iff.1 hi).2]
  cases f with
  | zero => rw [goP_zero] at hg; cases hg
  | succ f =>
    rw [goP_step hb, hd] at hg
    cases hg2 : goP p f (goB b (doS b.code v)) (doS b.code v) with
    | none => rw [hg2] at hg; cases hg
    | some y =>
      obtain ⟨x2, l2⟩ := y
      rw [hg2] at hg
      simp only [Option.map_some, Option.some.injEq, Prod.mk.injEq, List.cons.injEq, true_and] at hg
      obtain ⟨rfl, rfl⟩ := hg
      rcases goB_lt hok (doS b.code v) with e | ⟨j2, e, hj2⟩
      · rw [e, goP_stop] at hg2
        simp only [Option.some.injEq, Prod.mk.injEq] at hg2
        have h0 : (l.drop (k + 1))[0]? = some j := by rw [List.getElem?_drop]; exact hj
        rw [← hg2.2] at h0
        simp at h0
      · rw [e] at hg2
        obtain ⟨r, hr, _⟩ := goP_way hp f j2 _ _ _ hj2 hvo2 hg2
        have h0 : (l.drop (k + 1))[0]? = some j := by rw [List.getElem?_drop]; exact hj
        rw [hr] at h0
        simp at h0
        subst h0
        exact ⟨hj2, AsKnown.next hp hs hb hvo hak e, f, _, hg2⟩

set_option maxHeartbeats 16000000 in
theorem lawKnownRight_any (K : KnownIs) (K2 : GoIs) (vars : Int) (A SA HA : Option Addr) (cap sc hc : Nat) (p : List Bk) (st hv : List Int) (w : World) (hx : RdP w w.heap.size A p) (hs : RdI w w.heap.size SA st) (hh : RdI w w.heap.size HA hv) (hm : p.length ≤ maxLen) (hin : ∀ b ∈ p, InBk b) (hsm : st.length ≤ maxLen) (hhm : hv.length ≤ maxLen) :
    Calls Try.prog 5 #[.int .i64 vars, .slice A p.length cap, .slice SA st.length sc, .slice HA hv.length hc] w fun e w' => e = .returned (.bool true) ∧ Below w.heap.size w w' := by
  obtain ⟨len, hl⟩ : ∃ len, p.length = len := ⟨_, rfl⟩
  have HL := Lib.hid hl
  rw [hl] at hm ⊢
  have HPC := Lib.hid (fun (Z : World) (hZ : Below w.heap.size w Z) => refProgCheck_any vars A len cap p Z ((hx.below hZ (Nat.le_refl _)).more hZ.size) hl hm hin)
  obtain ⟨sl, hsl⟩ : ∃ k, st.length = k := ⟨_, rfl⟩
  have HSL := Lib.hid hsl
  rw [hsl] at hsm ⊢
  obtain ⟨hl2, hhl⟩ : ∃ k, hv.length = k := ⟨_, rfl⟩
  have HHL := Lib.hid hhl
  rw [hhl] at hhm ⊢
  by_cases hc : ckKnow vars p st = 0
  · obtain ⟨n, rfl, hn1, hn6, hc1, hk⟩ := ckKnow_ok hc
    obtain ⟨_, _, b3, b4, b5, _⟩ := ckProg_bd hc1
    rw [hl] at b3 b4
    obtain rfl : n = sl := by rw [← hsl]; exact hk.1.symm
    have HC1 := Lib.hid hc1
    have HK := Lib.hid hk
    have HST := Lib.hid (ckStart_ok.2 hk)
    have HIN := Lib.hid (K.in_ n A SA len cap sc p st w hx hs hl hc1 hk)
    clear hc hc1 hk hl hin hsl hhl
    by_cases hgo : ValsOk n hv ∧ LeL hv st
    · obtain ⟨hvo, hle⟩ := hgo
      have HVO := Lib.hid hvo
      have HLE := Lib.hid hle
      obtain rfl : n = hl2 := by rw [← HHL.out]; exact hvo.1.symm
      have HL1 : Hid ((iv hv).length = n * 1) := Lib.hid (by simp [iv, HHL.out])
      have HN1 : Hid (HA = none → n = 0) := Lib.hid fun h => by have := hh.nil h; rw [HHL.out] at this; exact this
      have HNW : Hid (∀ Z : World, Below w.heap.size w Z → ∀ ad, HA = some ad → ∀ j u, (iv hv)[j]? = some u → Z.cell? (ad.add j) = some u) := Lib.hid fun Z hZ => (hh.below hZ (Nat.le_refl _)).news
      have ha_ : 0 + n ≤ maxLen := by unfold maxLen; omega
      have hb_ : (0 + n) * 8 ≤ 140737488355328 := by omega
      clear hvo hle
      go_enter Try.func5, Try.ntmps5
      go_wp2_with fail
      refine HIN.out.mono ?_
      rintro e w1 ⟨A1, c1, L, rfl, hx1, hL, hb1⟩
      have HLS := Lib.hid hL.sol
      have HLL : Hid (L.length = len) := Lib.hid (by rw [hL.sol.len, HL.out])
      clear hL
      go_wp2_with fail
      refine (HPC.out _ hb1).mono ?_
      rintro e w2 ⟨rfl, hb2⟩
      rw [HC1.out]
      have hb02 := hb1.trans (hb2.mono hb1.size)
      have hx12 := (hx1.below hb2 (Nat.le_refl _)).more hb2.size
      have hs2 := (hs.below hb02 (Nat.le_refl _)).more hb02.size
      have hh2 := (hh.below hb02 (Nat.le_refl _)).more hb02.size
      have hp2 := (hx.below hb02 (Nat.le_refl _)).more hb02.size
      have hsz2 := hb02.size
      clear hx1
      go_wp2_with (go_at_call 16; (with_reducible refine (startCheck_any n SA n sc st _ _ hs2 HSL.out hsm).mono ?_); rw [HST.out]; rintro e w5 ⟨rfl, rfl⟩)
      refine (started_any n SA HA n sc hc st hv w2 hs2 hh2 HK.out HHL.out hhm hn6).mono ?_
      rintro e w5 ⟨hst, rfl⟩
      rcases hst with ⟨rfl, _⟩ | ⟨rfl, hno⟩
      · go_wp2_with fail
        refine (K2.run n A HA len cap hc p hv _ hp2 hh2 HL.out HC1.out HVO.out).mono ?_
        rintro e w3 ⟨hrt, hb3⟩
        have hb03 := hb02.trans (hb3.mono hsz2)
        have hx13 := (hx12.below hb3 (Nat.le_refl _)).more hb3.size
        have hp3 := (hp2.below hb3 (Nat.le_refl _)).more hb3.size
        rcases hrt with ⟨hr, B1, B2, d1, d2, rfl⟩ | ⟨x, l, B1, B2, d1, d2, hr, rfl, hr1, hr2⟩
        · go_wp2
          go_ret
          exact ⟨rfl, hb03⟩
        · obtain ⟨r0, hlr, hrw, hll, hxo⟩ := goP_way HC1.out 200 0 hv x l (by rw [HL.out]; omega) HVO.out hr
          have HOW := Lib.hid (OnWay.start HC1.out HLS.out (by omega) HVO.out HLE.out hr)
          obtain ⟨lw, hlw⟩ : ∃ lw, l.length = lw := ⟨_, rfl⟩
          have HLW := Lib.hid hlw
          rw [hlw] at hll ⊢
          have hsz3 := hb03.size
          clear hr hlr hrw hxo hlw hr1
          go_wp2_with (at_builtin; refine wpList_app rfl (.tmp 62) (.tmp 63) 23 rfl w3.heap.size 3 1 8 int_app [] rfl (own_empty_at _ _ _ _ (by simp) (by simp)) (iv hv) rfl HL1.out HN1.out (HNW.out _ (by go_grown)) (iv_one _) ha_ hb_ (by simp) ?_; intro A3 c3 w4 hown4 hg4 hb4; rw [Nat.zero_add, List.nil_append] at hown4)
          obtain ⟨g, rfl, hg0, hg1⟩ := own_form hown4 (by omega)
          have hbw4 : Below w3.heap.size w3 w4 := ((by go_grown : Below w3.heap.size w3 (w3.alloc (.cells #[] 3)))).trans hb4
          have hrd4 : RdI w4 w4.heap.size (some ⟨g, 0, none⟩) hv := own_rdI hown4 HVO.out.1
          clear hg4 hb4 hown4 hg0 hg1
          go_loopw [67, 14] (fun z va wr => ∃ (k : Nat) (v : List Int) (VA : Option Addr) (vc : Nat), k ≤ lw ∧ z = .int .i64 k ∧ va = .slice VA n vc ∧ OnWay n p L l k v ∧ RdI wr wr.heap.size VA v ∧ Below w3.heap.size w3 wr) (fun z _ _ => lw - (intOf z).toNat)
          case atStart => exact ⟨0, hv, some ⟨g, 0, none⟩, c3, Nat.zero_le _, rfl, rfl, HOW.out, hrd4, hbw4⟩
          case round =>
            obtain ⟨wo, rfl⟩ : ∃ wo, wo = wr := ⟨_, rfl⟩
            obtain ⟨k, v, VA, vc, hk, rfl, rfl, how, hrv, hbo⟩ := hrel
            have HO := Lib.hid how
            have HVL := Lib.hid how.1.1
            have hszo := hbo.size
            clear how
            by_cases hlt : k < lw
            · obtain ⟨i, hi⟩ : ∃ i, l[k]? = some i := ⟨_, List.getElem?_eq_getElem (by rw [HLW.out]; exact hlt)⟩
              obtain ⟨hil, hak, _⟩ := HO.out.2 i hi
              rw [HL.out] at hil
              obtain ⟨ap, x1, rfl, hbl1, hd1, hcl1⟩ := (hr2.below hbo (Nat.le_refl _)).at_ (k := k) (by simp [ni, HLW.out]; omega)
              rw [ni_at hi] at hd1
              injection hd1 with hd1
              subst hd1
              obtain ⟨an, row, Ar, cr, rfl, hbl3, hd3, hcl3, hrow3⟩ := (hx13.below hbo (Nat.le_refl _)).at_ (k := i) (by rw [HLL.out]; exact hil)
              have hrow := hak.2
              have hne := hak.1
              rw [getD_at hd3] at hrow hne
              have hrl : row.length = n := by rw [← hrow.1]; exact HVL.out
              rw [hrl] at hcl3
              have HRL := Lib.hid hrl
              have HROW := Lib.hid hrow
              obtain ⟨ab, ⟨code, te, th, el⟩, Ac, cc, rfl, hbl4, hd4, hrow4, hq0, hq1, hq2, hq3⟩ := (hp3.below hbo (Nat.le_refl _)).at_ (k := i) (by rw [HL.out]; exact hil)
              have hnext := HO.out.step HC1.out HLS.out hi hd4
              have hcode := (ckProg_at HC1.out hd4).code
              have hcm := manyS_le hd4
              simp only [] at hq0 hcm hcode hrow4 hnext
              have HNX := Lib.hid hnext
              have HCD := Lib.hid hcode
              obtain ⟨cl, hcl⟩ : ∃ cl, code.length = cl := ⟨_, rfl⟩
              rw [hcl] at hq0 hcm
              have HCL := Lib.hid hcl
              have hclm : cl ≤ 65536 := by omega
              have hroww := hrow3.more hszo
              have hrow4w := hrow4.more hszo
              clear hi hak hd3 hd4 hrow hne hrl hnext hcode hcl hrow3 hrow4
              go_wp2
              go_loopw [83] (fun z wr => ∃ j : Nat, j ≤ n ∧ z = .int .i64 j ∧ wo = wr) (fun z _ => n - (intOf z).toNat)
              case atStart => exact ⟨0, Nat.zero_le _, rfl, rfl⟩
              case round =>
                obtain ⟨j, hj, rfl, rfl⟩ := hrel
                by_cases hjt : j < n
                · obtain ⟨ad, x, rfl, hbl5, hd5, hcx⟩ := hroww.at_ (k := j) (by rw [HRL.out]; exact hjt)
                  obtain ⟨ad2, y, rfl, hbl6, hd6, hcy⟩ := hrv.at_ (k := j) (by rw [HVL.out]; exact hjt)
                  have hxy := HROW.out.2 j (by rw [HVL.out]; exact hjt)
                  rw [getD_at hd5, getD_at hd6] at hxy
                  clear hd5 hd6
                  by_cases hx0 : x = -1
                  · have f1 : decide (0 ≤ x) = false := by simp; omega
                    clear hxy hx0
                    go_wp2
                    go_round
                    case rel => exact ⟨j + 1, by omega, by go_num, by first | trivial | rfl⟩
                    case measure => (simp [intOf]; omega)
                  · obtain rfl : y = x := by
                      rcases hxy with h | h
                      · exact absurd h hx0
                      · exact h
                    by_cases hy0 : 0 ≤ y
                    · have f1 : decide (0 ≤ y) = true := by simp; omega
                      have f2 : (y != y) = false := by simp
                      clear hxy hx0
                      go_wp2
                      go_round
                      case rel => exact ⟨j + 1, by omega, by go_num, by first | trivial | rfl⟩
                      case measure => (simp [intOf]; omega)
                    · have f1 : decide (0 ≤ y) = false := by simp; omega
                      clear hxy hx0
                      go_wp2
                      go_round
                      case rel => exact ⟨j + 1, by omega, by go_num, by first | trivial | rfl⟩
                      case measure => (simp [intOf]; omega)
                · go_wp2_with fail
                  refine (refDoing_any n Ac VA cl cc vc code v _ hrow4w hrv HCL.out hclm HCD.out HO.out.1 hn1 hn6).mono ?_
                  rintro e w9 ⟨g9, c9, rfl, hown9, hb9⟩
                  have hrd9 : RdI w9 w9.heap.size (some ⟨g9, 0, none⟩) (doS code v) := own_rdI hown9 HNX.out.1.1
                  clear hown9
                  go_wp2
                  go_round
                  case rel => exact ⟨k + 1, _, _, c9, by omega, by go_num, rfl, HNX.out, hrd9, hbo.trans (hb9.mono hszo)⟩
                  case measure => (simp [intOf]; omega)
            · go_wp2
              go_ret
              exact ⟨rfl, hb03.trans (hbo.mono hsz3)⟩
      · exact absurd ⟨HVO.out, HLE.out⟩ hno
    · have HNO := Lib.hid hgo
      clear hgo
      go_enter Try.func5, Try.ntmps5
      go_wp2_with fail
      refine HIN.out.mono ?_
      rintro e w1 ⟨A1, c1, L, rfl, hx1, hL, hb1⟩
      have HLL : Hid (L.length = len) := Lib.hid (by rw [hL.sol.len, HL.out])
      clear hL
      go_wp2_with fail
      refine (HPC.out _ hb1).mono ?_
      rintro e w2 ⟨rfl, hb2⟩
      rw [HC1.out]
      have hb02 := hb1.trans (hb2.mono hb1.size)
      have hs2 := (hs.below hb02 (Nat.le_refl _)).more hb02.size
      have hh2 := (hh.below hb02 (Nat.le_refl _)).more hb02.size
      clear hx1
      go_wp2_with (go_at_call 16; (with_reducible refine (startCheck_any n SA n sc st _ _ hs2 HSL.out hsm).mono ?_); rw [HST.out]; rintro e w5 ⟨rfl, rfl⟩)
      refine (started_any n SA HA hl2 sc hc st hv w2 hs2 hh2 HK.out HHL.out hhm hn6).mono ?_
      rintro e w5 ⟨hst, rfl⟩
      rcases hst with ⟨rfl, hyes⟩ | ⟨rfl, hno⟩
      · exact absurd hyes HNO.out
      · go_wp2
        go_ret
        exact ⟨rfl, hb02⟩
  · have HIB := Lib.hid (K.inBad vars A SA len cap sl sc p st w hx hs hl hm hin hsl hsm hc)
    by_cases h1 : ckProg vars p = 0
    · have hck : ckKnow vars p st = ckStart vars st := by unfold ckKnow; rw [if_pos h1]
      rw [hck] at HIB hc
      have H1 := Lib.hid h1
      obtain ⟨c, hce⟩ : ∃ c, ckStart vars st = c := ⟨_, rfl⟩
      have HCE := Lib.hid hce
      rw [hce] at HIB hc
      have hne : (c != 0) = true := by simp [hc]
      clear hc hl hin hce h1 hck hsl hhl
      go_enter Try.func5, Try.ntmps5
      go_wp2_with fail
      refine HIB.out.mono ?_
      rintro e w1 ⟨A1, c1, rfl, hb1⟩
      go_wp2_with fail
      refine (HPC.out _ hb1).mono ?_
      rintro e w2 ⟨rfl, hb2⟩
      rw [H1.out]
      have hb02 := hb1.trans (hb2.mono hb1.size)
      have hs2 := (hs.below hb02 (Nat.le_refl _)).more hb02.size
      go_wp2_with (go_at_call 16; (with_reducible refine (startCheck_any vars SA sl sc st _ _ hs2 HSL.out hsm).mono ?_); rw [HCE.out]; rintro e w5 ⟨rfl, rfl⟩)
      go_ret
      exact ⟨rfl, hb02⟩
    · have hck : ckKnow vars p st = ckProg vars p := by unfold ckKnow; rw [if_neg h1]
      rw [hck] at HIB
      have hne : (ckProg vars p != 0) = true := by simp [h1]
      clear hc hl hin h1 hck hsl hhl
      go_enter Try.func5, Try.ntmps5
      go_wp2_with fail
      refine HIB.out.mono ?_
      rintro e w1 ⟨A1, c1, rfl, hb1⟩
      go_wp2_with fail
      refine (HPC.out _ hb1).mono ?_
      rintro e w2 ⟨rfl, hb2⟩
      go_wp2_with fail
      go_ret
      exact ⟨rfl, hb1.trans (hb2.mono hb1.size)⟩

set_option maxRecDepth 100000 in
theorem lawKnownRight_lifted (os : Os) (started : os.Started) (H : Type) (enc : TypeId × Value → H) :
    ReturnsInHanded {} Try.checked os 5 .any (Rows.knownRightSpec.pre6 enc Try.prog Try.f5 Rows.knownRightRow.domain false) (Rows.knownRightSpec.post enc Try.prog Try.f5 false true false false) := by
  refine returnsInHanded_of_change_sized (C := Try.checked) Try.own started (by kernel_rfl) Try.func5
    (ChangeSpec.witness6 (enc := enc) (C := Try.checked) false ⟨#[], #[.int .i64 0, .slice none 0 0, .slice none 0 0, .slice none 0 0], []⟩ 8 (by kernel_rfl) (by kernel_rfl) (by kernel_rfl) (by kernel_rfl)) ?_
  intro W base args ds gs before hval0 hW hcnd hsz _
  have hval : ∀ (j : Nat) t v, Try.f5.params[j]? = some t → args[j]? = some v → Value.okWide Try.prog W .any base t v := hval0
  have hW' := hW
  obtain ⟨p, q, hA0, hV, rfl, hfz, hnd⟩ := hW
  have hA : DataW.TrodAll enc Try.prog W 0 (fun _ => true) true Try.f5.params.toList args.toList ds p := hA0
  obtain ⟨hgs, _⟩ := trodVars_none hV
  rw [Try.params5] at hA hval
  obtain ⟨v0, vs0, d0, ds0, p0, q0, hargs, rfl, rfl, h0, r0⟩ := trodAll_cons hA
  obtain ⟨v1, vs1, d1, ds1, p1, q1, rfl, rfl, rfl, h1, r1⟩ := trodAll_cons r0
  obtain ⟨v2, vs2, d2, ds2, p2, q2, rfl, rfl, rfl, h2, r2⟩ := trodAll_cons r1
  obtain ⟨v3, vs3, d3, ds3, p3, q3, rfl, rfl, rfl, h3, r3⟩ := trodAll_cons r2
  obtain ⟨rfl, rfl, rfl⟩ := trodAll_nil r3
  have hargs2 : args = #[v0, v1, v2, v3] := Array.toList_inj.1 hargs
  subst hargs2
  obtain ⟨a0, rfl, _, _, w0⟩ := open_int Try.underlying3 (hval 0 3 v0 rfl rfl) h0
  obtain ⟨A1, c1, l1, rfl, lc1, cm1, x1, g1⟩ := open_progA (reach_at hsz (j := 1) (t := 22) (by rw [Try.params5]; rfl) rfl) (hval 1 22 v1 rfl rfl) h1
  have b1 := len_reach Try.underlying22 (hval 1 22 _ rfl rfl) h1 hsz (j := 1) (by rw [Try.params5]; rfl) rfl
  rw [show Try.prog.bytesOf (Try.prog.elem 22) = 48 from by kernel_rfl] at b1
  obtain ⟨A2, c2, l2, rfl, lc2, cm2, x2, r2⟩ := open_intsA (hval 2 23 v2 rfl rfl) h2
  have b2 := len_reach Try.underlying23 (hval 2 23 _ rfl rfl) h2 hsz (j := 2) (by rw [Try.params5]; rfl) rfl
  rw [show Try.prog.bytesOf (Try.prog.elem 23) = 8 from by kernel_rfl] at b2
  obtain ⟨A3, c3, l3, rfl, lc3, cm3, x3, r3⟩ := open_intsA (hval 3 23 v3 rfl rfl) h3
  have b3 := len_reach Try.underlying23 (hval 3 23 _ rfl rfl) h3 hsz (j := 3) (by rw [Try.params5]; rfl) rfl
  rw [show Try.prog.bytesOf (Try.prog.elem 23) = 8 from by kernel_rfl] at b3
  refine (lawKnownRight_any knownIs goIsK a0 A1 A2 A3 c1 c2 c3 l1 l2 l3 _ x1 x2 x3 (by omega) g1 (by omega) (by omega)).mono fun e W' ⟨he, hb⟩ => ?_
  subst he
  exact ⟨_, rfl, law_post Try.laidOut rfl (by kernel_rfl) Try.underlying4 ⟨rfl, rfl, rfl⟩ (by kernel_rfl) hW' hb⟩

theorem knownRight_holds : Rows.KnownRightSaid :=
  OpenClaim.holds_of_wide 5 Try.f5 rfl rfl rfl rfl rfl rfl rfl ⟨rfl, rfl, rfl, rfl, rfl⟩ rfl rfl rfl rfl rfl (by kernel_rfl) Try.func5 (show joinedFacts Try.prog 5 Try.f5 Rows.knownRightSpec Rows.knownRightRow = true from (by unfold joinedFacts; (repeat' (with_reducible refine and_both ?_ ?_)) <;> first | (with_reducible exact may_enter) | ((with_reducible refine make_ok ?_); rfl) | ((with_reducible refine lifts_ok ?_); rfl) | kernel_rfl))
    (of_decide_eq_true (by kernel_rfl)) (by unfold Func.isWrapper; rw [if_neg (of_decide_eq_false (by kernel_rfl))]; exact ⟨rfl, rfl⟩)
    (fun os started H enc _ => lawKnownRight_lifted os started H enc)

end Go.Proofs.Ytdckagledddkdaa
