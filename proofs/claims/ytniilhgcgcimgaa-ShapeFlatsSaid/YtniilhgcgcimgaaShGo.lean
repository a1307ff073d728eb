/-
  codemasonref.Goes (J2) for programs of any length whose blocks are right.
-/
import Derived.Test.YtniilhgcgcimgaaMBlkR
namespace Go.Proofs.Ytniilhgcgcimgaa
open Go.RowKit
set_option linter.unusedSimpArgs false
set_option linter.unusedVariables false
set_option maxRecDepth 100000

set_option maxHeartbeats 8000000 in
theorem refGoes_big (n most : Nat) (A HA : Option Addr) (len cap hcap : Nat) (p : List Bk) (hv : List Int) (w : World) (hx : RdP w w.heap.size A p) (hh : RdI w w.heap.size HA hv) (hl : p.length = len) (hn1 : 1 ≤ n) (hn6 : n ≤ 6) (hp0 : 0 < p.length) (hbks : ∀ (k : Nat) (b : Bk), p[k]? = some b → BkOk n p.length b) (hms : manyS p ≤ 65536) (hok : ValsOk n hv) (hmm : most ≤ 65536) :
    Calls Try.prog 16 #[.slice A len cap, .slice HA n hcap, .int .i64 most] w fun e w' => GoesTo (goP p most 0 hv) e w w' ∧ Below w.heap.size w w' := by
  have HC := Lib.hid hbks
  have HL := Lib.hid hl
  rw [hl] at hp0
  have HG0 := Lib.hid (GoAt.start p most hv)
  have HW0 : Hid (Gw w w.heap.size HA hv none 0 []) := Lib.hid (Gw.start hh (by rw [hok.1]; omega))
  have HOK := Lib.hid hok
  clear hbks hl hok hh
  go_enter Try.func16, Try.ntmps16
  go_wp2
  go_loopw [1, 9, 10] (fun s1 s9 s10 wr => ∃ (at_ : Int) (v : List Int) (l : List Nat) (VA A2 : Option Addr) (vc c : Nat), s10 = .int .i64 at_ ∧ s1 = .slice VA n vc ∧ s9 = .slice A2 l.length c ∧ l.length ≤ most ∧ (at_ = -1 ∨ ∃ i : Nat, at_ = (i : Int) ∧ i < len) ∧ ValsOk n v ∧ GoAt p most hv l at_ v ∧ Gw wr w.heap.size VA v A2 c l ∧ Below w.heap.size w wr) (fun _ s9 _ _ => most + 1 - lenV s9)
  case atStart => exact ⟨0, hv, [], HA, none, hcap, 0, rfl, rfl, rfl, Nat.zero_le _, .inr ⟨0, rfl, by omega⟩, HOK.out, HG0.out, HW0.out, Below.refl _ _⟩
  case round =>
    obtain ⟨at_, v, l, VA, A2, vc, c, rfl, rfl, rfl, hlm, hat, hvo, hgo, hgw, hb⟩ := hrel
    have HVO := Lib.hid hvo
    have HGO := Lib.hid hgo
    have HGW := Lib.hid hgw
    have hsz := hb.size
    obtain ⟨m, hme⟩ : ∃ m, l.length = m := ⟨_, rfl⟩
    have HM := Lib.hid hme
    rw [hme] at hlm ⊢
    clear hvo hgo
    rcases hat with rfl | ⟨i, rfl, hi⟩
    · have HST := Lib.hid HGO.out.stop
      have HR1 := Lib.hid hgw.rd
      have HR2 := Lib.hid (own_rdI hgw.own (by simp [ni]))
      clear hgw hme
      go_wp2
      go_returns
      exact ⟨.inr ⟨v, l, VA, A2, vc, c, HST.out, by rw [HVO.out.1, HM.out]; rfl, HR1.out, HR2.out⟩, hb⟩
    · have hine : ((i : Int) != -1) = true := by simp
      by_cases hlt : m < most
      · obtain ⟨ad, ⟨code, te, th, el⟩, Ac, cc, rfl, hbl, hd, hrow, hc0, hc1, hc2, hc3⟩ := hx.at_ (k := i) (by rw [HL.out]; exact hi)
        have hbk := HC.out _ _ hd
        have hgo2 := HGO.out.step (by rw [HM.out]; exact hlt) hd
        have hcm := manyS_le hd
        simp only [] at hc0 hc1 hc2 hc3 hcm hrow hgo2
        have hcode := hbk.code
        have htest := hbk.test
        have hgl := goB_lt hbk (doS code v)
        have hvo2 := doS_ok hcode HVO.out
        simp only [] at hcode htest
        have HCD := Lib.hid hcode
        obtain ⟨cl, hcl⟩ : ∃ cl, code.length = cl := ⟨_, rfl⟩
        rw [hcl] at hc0 hcm
        have HCL := Lib.hid hcl
        have hclm : cl ≤ 65536 := by omega
        have HGO2 := Lib.hid hgo2
        have HGL := Lib.hid hgl
        have HVO2 := Lib.hid hvo2
        obtain ⟨v2, hv2⟩ : ∃ v2, doS code v = v2 := ⟨_, rfl⟩
        rw [hv2] at HGO2 HGL HVO2
        rw [HL.out] at HGL
        have HV2 := Lib.hid hv2
        have hrow1 := hgw.own
        rw [hme] at hrow1
        have h63 : m + 1 ≤ maxLen := by unfold maxLen; omega
        have hbig : (m + 1) * 8 ≤ 140737488355328 := by omega
        have hA0 : Below w.heap.size w (wr.alloc (.cells #[.int .i64 (i : Int)] 3)) := by go_grown
        clear hgw hme hd hbk hgo2 hgl hvo2 hcode hcl hv2
        go_wp2_with (at_builtin; refine wpList_app' rfl (.tmp 17) (.tmp 19) 26 rfl w.heap.size 3 1 8 int_app _ rfl (hrow1.alloc _) [.int .i64 (i : Int)] rfl rfl (fun h => by cases h) (cells_at rfl _ _) (one_cell _) h63 hbig (by simp; omega) ?_; intro A8 c8 w8 hown8 hg8 hb8 hp8; have hbw8 := hA0.trans hb8; have hq0 := (hbw8.cell hbl).trans hc0)
        have hgw8 : Gw w8 w.heap.size VA v A8 c8 (l ++ [i]) := HGW.out.app (X := wr.alloc (.cells #[.int .i64 (i : Int)] 3)) (by go_grown) (by rw [HM.out]; exact hown8) (by rw [HM.out]; exact hg8) (by rw [HM.out]; exact hp8)
        have hs8 := hbw8.size
        have HGW8 := Lib.hid hgw8
        go_wp2_with fail
        refine (refDoing_any n Ac VA cl cc vc code v _ ((hrow.below hbw8 (Nat.le_refl _)).more hs8) hgw8.rd HCL.out hclm HCD.out HVO.out hn1 (by omega)).mono ?_
        rintro e w9 ⟨g, c9, rfl, hown9, hb9⟩
        rw [HV2.out] at hown9
        have hbw9 := hbw8.trans (hb9.mono hs8)
        have hq1 := (hbw9.cell (p := ⟨(ad.add (i * 4)).block, (ad.add (i * 4)).off + 1, none⟩) hbl).trans hc1
        have hq2 := (hbw9.cell (p := ⟨(ad.add (i * 4)).block, (ad.add (i * 4)).off + 2, none⟩) hbl).trans hc2
        have hq3 := (hbw9.cell (p := ⟨(ad.add (i * 4)).block, (ad.add (i * 4)).off + 3, none⟩) hbl).trans hc3
        have hrd9 : RdI w9 w9.heap.size (some ⟨g, 0, none⟩) v2 := own_rdI hown9 HVO2.out.1
        have hgb := (hown9.lt g rfl).1
        have HGW9 : Hid (Gw w9 w.heap.size (some ⟨g, 0, none⟩) v2 A8 c8 (l ++ [i])) := Lib.hid (HGW8.out.next hb9 hrd9 (fun a ha => by injection ha with ha; subst ha; exact hgb) (by rw [HVO2.out.1]; omega))
        have hlen : (l ++ [i]).length = m + 1 := by simp [HM.out]
        have HLEN := Lib.hid hlen
        clear hgw8 hlen hown8 hg8 hp8 hb8 hrow1 hA0 hq0
        by_cases ht : 0 ≤ te
        · obtain ⟨tn, rfl⟩ := Int.eq_ofNat_of_zero_le ht
          have htn : tn < n := by omega
          have htl : tn < v2.length := by rw [HVO2.out.1]; exact htn
          obtain ⟨x, hx2⟩ : ∃ x, v2[tn]? = some x := ⟨_, List.getElem?_eq_getElem htl⟩
          have hcx := (hown9.cellAt tn (by omega)).trans (iv_at hx2)
          have hgv : v2.getD tn 0 = x := by rw [List.getD_eq_getElem?_getD, hx2]; rfl
          clear ht htest htl hx2 hown9
          by_cases hx0 : x = 0
          · have hgo3 : goB ⟨code, (tn : Int), th, el⟩ v2 = el := by unfold goB; rw [if_pos ⟨by simp, by simpa [hx0] using hgv⟩]
            rw [hgo3] at HGO2 HGL
            subst hx0
            clear hgo3 hgv
            go_wp2_with fail
            go_round
            case rel => exact ⟨el, v2, l ++ [i], some ⟨g, 0, none⟩, A8, c9, c8, rfl, rfl, by rw [HLEN.out], by rw [HLEN.out]; omega, HGL.out, HVO2.out, HGO2.out, HGW9.out, hbw9⟩
            case measure => simp [lenV]; omega
          · have hgo3 : goB ⟨code, (tn : Int), th, el⟩ v2 = th := by unfold goB; rw [if_neg (fun h => hx0 (by rw [← hgv]; simpa using h.2))]
            rw [hgo3] at HGO2 HGL
            have hx1 : (x == 0) = false := by simp [hx0]
            clear hgo3 hgv hx0
            go_wp2_with fail
            go_round
            case rel => exact ⟨th, v2, l ++ [i], some ⟨g, 0, none⟩, A8, c9, c8, rfl, rfl, by rw [HLEN.out], by rw [HLEN.out]; omega, HGL.out, HVO2.out, HGO2.out, HGW9.out, hbw9⟩
            case measure => simp [lenV]; omega
        · have hgo3 : goB ⟨code, te, th, el⟩ v2 = th := by unfold goB; rw [if_neg (fun h => ht h.1)]
          rw [hgo3] at HGO2 HGL
          clear hgo3 htest hown9
          go_wp2_with fail
          go_round
          case rel => exact ⟨th, v2, l ++ [i], some ⟨g, 0, none⟩, A8, c9, c8, rfl, rfl, by rw [HLEN.out], by rw [HLEN.out]; omega, HGL.out, HVO2.out, HGO2.out, HGW9.out, hbw9⟩
          case measure => simp [lenV]; omega
      · have HOV := Lib.hid (HGO.out.over (by rw [HM.out]; omega))
        clear hgw hme
        go_wp2
        go_returns
        exact ⟨.inl ⟨HOV.out, rfl⟩, hb⟩

end Go.Proofs.Ytniilhgcgcimgaa
