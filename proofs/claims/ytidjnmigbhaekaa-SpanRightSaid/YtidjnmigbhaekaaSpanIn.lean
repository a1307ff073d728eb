/-
  span.In (R2): the contract of In, and block.Run's.
-/
import Derived.Test.YtidjnmigbhaekaaSpanSpr
import Derived.Test.YtidjnmigbhaekaaSpans
import Derived.Test.YtidjnmigbhaekaaMBlock
namespace Go.Proofs.Ytidjnmigbhaekaa
open Go.RowKit
set_option linter.unusedSimpArgs false
set_option linter.unusedVariables false
set_option maxRecDepth 100000

set_option maxHeartbeats 8000000 in
theorem spIn_any (n : Nat) (A VA : Option Addr) (len cap vcap : Nat) (p : List Bk) (hv : List (Int × Int)) (w : World) (hx : RdP w w.heap.size A p) (hh : RdM w w.heap.size VA hv) (hl : p.length = len) (hc : ckProg n p = 0) (hok : RSp n hv) :
    Calls Try.prog 10 #[.int .i64 n, .slice A len cap, .slice VA n vcap] w fun e w' => (∃ A' c' L, e = .returned (.tuple #[.slice A' len c', .int .i64 0]) ∧ RdGS w' w'.heap.size A' L ∧ LeastG (spF n p hv) L) ∧ Below w.heap.size w w' := by
  obtain ⟨b1, b2, b3, b4, b5, _⟩ := ckProg_bd hc
  have HC := Lib.hid hc
  have HL := Lib.hid hl
  have HOK := Lib.hid hok
  rw [hl] at b3 b4
  have hn1 : 1 ≤ n := by omega
  have hn6 : n ≤ 6 := by omega
  have HX := Lib.hid hx
  have HH := Lib.hid hh
  have HVL := Lib.hid hok.1
  have hmk := make_nils (P := Try.prog) 32 31 Try.underlying32 (by kernel_rfl) len (by omega)
  have HCK := Lib.hid (blockCheck_any n A len cap p w hx hl (by unfold maxLen; omega) (CodeFits.of_ok hc))
  rw [hc] at HCK
  have HCLN : Hid (∀ Z : World, Below w.heap.size w Z → Calls Try.prog 22 #[.slice VA n vcap] Z fun e w' => PutTo Z n hv e w') := Lib.hid fun Z hZ =>
    cloneS_any VA n vcap hv Z ((RdM.below hh hZ (Nat.le_refl _)).more hZ.size) hok.1 hn1 hn6
  have HF := Lib.hid (spF_ok hc hok)
  have HCI0 : Hid (CiG (spF n p hv) ((List.replicate len []).set 0 hv)) := Lib.hid (by rw [← hl]; exact CiG.begin HF.out)
  clear hx hh hl hc hok b1 b2
  go_enter Try.func10, Try.ntmps10
  go_wp2_with fail
  (with_reducible refine HCK.out.mono ?_)
  rintro e w1 ⟨rfl, hb1⟩
  go_wp2
  go_loopw [24] (fun z wr => ∃ k : Nat, k ≤ n ∧ z = .int .i64 k ∧ Below w.heap.size w wr) (fun z _ => n - (intOf z).toNat)
  case atStart => exact ⟨0, Nat.zero_le _, by first | rfl | simp, hb1⟩
  case round =>
    obtain ⟨k, hk, rfl, hbr⟩ := hrel
    have hsz := hbr.size
    by_cases hlt : k < n
    · obtain ⟨ad, s0, s1, rfl, hbl, hd, hc0, hc1⟩ := RdM.at_ (HH.out.below hbr (Nat.le_refl _)) (k := k) (by rw [HVL.out]; exact hlt)
      have HV1 : Hid (∀ Z : World, Calls Try.prog 18 #[.agg #[.int .i64 s0, .int .i64 s1]] Z fun e w' => e = .returned (.bool true) ∧ Below Z.heap.size Z w') := Lib.hid fun Z => by
        have := isValid_any s0 s1 Z
        rwa [decide_eq_true (show SpOk (s0, s1) from HOK.out.2 _ _ hd)] at this
      clear hd
      go_wp2_with (go_at_call 18; (with_reducible refine (HV1.out _).mono ?_); rintro e w5 ⟨rfl, hb5⟩)
      go_round
      case rel => exact ⟨k + 1, by omega, by go_num, hbr.trans (Below.trans (by go_grown) (hb5.mono (by simp; omega)))⟩
      case measure => (simp [intOf]; omega)
    · have HKN0 := Lib.hid (KNW.start wr n len)
      have hb0 : Below wr.heap.size wr (wr.alloc (.cells (nils len).toArray 31)) := by go_grown
      go_wp2_with (go_at_call 22; refine (HCLN.out _ (hbr.trans (hb0.mono hsz))).mono ?_; rintro e w6 ⟨g1, c1, rfl, ho1, hb6⟩; have hq1 := HKN0.out.own.below hb6 HKN0.out.own.lt; have hf1 := hq1.frozen 0; have hc1 := hq1.cell (j := 0) (v := .slice none 0 0) (by unfold nils; rw [List.getElem?_replicate, if_pos (by omega)]); have hl1 := hq1.lt)
      have hg1 : wr.heap.size + 1 ≤ g1 := by have := ho1.lt; simpa using this.1
      have hk0 := (HKN0.out.below hb6).put (j := 0) (c := c1) (fun e => by have := ho1.2; rw [e] at this; simp at this; omega) (ho1.mono (by simp)) (HKN0.out.free (b := g1) (by have := ho1.lt; exact this.1))
      have hbw : Below w.heap.size w (w6.setCell ⟨wr.heap.size, 0, none⟩ (.slice (some ⟨g1, 0, none⟩) n c1)) := ((hbr.trans (hb0.mono hsz)).trans (hb6.mono (Nat.le_trans hsz hb0.size))).setCell hsz _
      obtain ⟨G, hG⟩ : ∃ G, wr.heap.size = G := ⟨_, rfl⟩
      rw [hG] at hk0 hbw hsz
      simp only [hG]
      obtain ⟨wo, hwo⟩ : ∃ wo, wo = w6.setCell ⟨G, 0, none⟩ (.slice (some ⟨g1, 0, none⟩) n c1) := ⟨_, rfl⟩
      rw [← hwo] at hk0 hbw ⊢
      have HPUT := Lib.hid hk0
      clear hwo hk0 ho1 hb6 hq1 hf1 hc1 hl1 hg1 hb0 HKN0 hG
      go_loopw [] (fun wr => ∃ (X : List (List (Int × Int))) (cs : List Value), KNW wr G n X cs ∧ Hid (CiG (spF n p hv) X) ∧ Below w.heap.size w wr) (fun wr => cntSG (n * 255 + 1) wr (.slice (some ⟨G, 0, none⟩) len len))
      case atStart => exact ⟨_, _, HPUT.out, HCI0, hbw⟩
      case round =>
        obtain ⟨X, cs, hkn, HCI, hbr2⟩ := hrel
        have HKN := Lib.hid hkn
        have HSP := Lib.hid (spreadS_any n A len cap G w.heap.size p hv X cs wr (HX.out.below hbr2 (Nat.le_refl _)) hsz HL.out HC.out HOK.out hkn HCI.out)
        have HXL : Hid (X.length = len) := Lib.hid (by rw [HCI.out.ok.1]; exact HL.out)
        have HM1 : Hid (cntSG (n * 255 + 1) wr (.slice (some ⟨G, 0, none⟩) len len) = wtMG (spF n p hv) X) := Lib.hid (by have := cntSG_eq (n := n) (c := len) (p := p) (st := hv) hkn.kns; rwa [HXL.out] at this)
        clear hkn
        go_wp2_with fail
        refine HSP.out.mono ?_
        rintro e w5 ⟨ch, Y, ds, rfl, hkn5, htu, hb5⟩
        have hbw5 := hbr2.trans (hb5.mono hsz)
        have HKN5 := Lib.hid hkn5
        have HTU := Lib.hid htu
        have HM2 : Hid (cntSG (n * 255 + 1) w5 (.slice (some ⟨G, 0, none⟩) len len) = wtMG (spF n p hv) Y) := Lib.hid (by have := cntSG_eq (n := n) (c := len) (p := p) (st := hv) hkn5.kns; rwa [show Y.length = len from by rw [htu.ci.ok.1]; exact HL.out] at this)
        clear hkn5 htu
        cases ch
        · have HLE := Lib.hid (HTU.out.no rfl)
          have hrd := HKN5.out.kns.rdg
          go_wp2
          go_ret2
          exact ⟨⟨_, _, Y, rfl, hrd, HLE.out⟩, hbw5⟩
        · have HLT := Lib.hid (HTU.out.yes rfl)
          have HCI2 := Lib.hid HTU.out.ci
          go_wp2
          go_round
          case rel => exact ⟨Y, ds, HKN5.out, HCI2, hbw5⟩
          case measure => rw [HM1.out, HM2.out]; exact HLT.out

set_option maxHeartbeats 8000000 in
theorem spIn_bad (vars : Int) (A VA : Option Addr) (len cap vl vcap : Nat) (p : List Bk) (hv : List (Int × Int)) (w : World) (hx : RdP w w.heap.size A p) (hh : RdM w w.heap.size VA hv) (hl : p.length = len) (hm : len ≤ maxLen) (hin : ∀ b ∈ p, InBk b) (hhl : hv.length = vl) (hvm : vl ≤ maxLen) (hc : ckSpan vars p hv ≠ 0) :
    Calls Try.prog 10 #[.int .i64 vars, .slice A len cap, .slice VA vl vcap] w fun e w' => (∃ A' c', e = .returned (.tuple #[.slice A' 0 c', .int .i64 (ckSpan vars p hv)])) ∧ Below w.heap.size w w' := by
  have HCK := Lib.hid (blockCheck_any vars A len cap p w hx hl hm (CodeFits.of_in hin))
  have HH := Lib.hid hh
  have HVL := Lib.hid hhl
  unfold maxLen at hvm
  by_cases h1 : ckProg vars p = 0
  · rw [h1] at HCK
    by_cases h2 : (vl : Int) = vars
    · have h3 : ¬ ∀ s ∈ hv, SpOk s := fun h3 => hc (by unfold ckSpan; rw [if_neg (by simp [h1]), if_neg (by rw [hhl]; simp [h2]), if_pos h3])
      have HE : Hid (ckSpan vars p hv = 4) := Lib.hid (by unfold ckSpan; rw [if_neg (by simp [h1]), if_neg (by rw [hhl]; simp [h2]), if_neg h3])
      rw [HE.out]
      have H3 := Lib.hid h3
      have hne : ((vl : Int) != vars) = false := by simp [h2]
      clear hx hh hl hin hhl hc h1 h2 h3
      go_enter Try.func10, Try.ntmps10
      go_wp2_with fail
      (with_reducible refine HCK.out.mono ?_)
      rintro e w1 ⟨rfl, hb1⟩
      go_wp2
      go_loopw [24] (fun z wr => ∃ k : Nat, k ≤ vl ∧ z = .int .i64 k ∧ Hid (∀ (j : Nat) (s : Int × Int), j < k → hv[j]? = some s → SpOk s) ∧ Below w.heap.size w wr) (fun z _ => vl - (intOf z).toNat)
      case atStart => exact ⟨0, Nat.zero_le _, by first | rfl | simp, Lib.hid (fun j s hj => by omega), hb1⟩
      case round =>
        obtain ⟨k, hk, rfl, HAL, hbr⟩ := hrel
        have hsz := hbr.size
        by_cases hlt : k < vl
        · obtain ⟨ad, s0, s1, rfl, hbl, hd, hc0, hc1⟩ := RdM.at_ (HH.out.below hbr (Nat.le_refl _)) (k := k) (by rw [HVL.out]; exact hlt)
          have HD := Lib.hid hd
          clear hd
          by_cases hs : SpOk (s0, s1)
          · have HV1 : Hid (∀ Z : World, Calls Try.prog 18 #[.agg #[.int .i64 s0, .int .i64 s1]] Z fun e w' => e = .returned (.bool true) ∧ Below Z.heap.size Z w') := Lib.hid fun Z => by
              have := isValid_any s0 s1 Z
              rwa [decide_eq_true hs] at this
            have HAL2 : Hid (∀ (j : Nat) (s : Int × Int), j < k + 1 → hv[j]? = some s → SpOk s) := Lib.hid fun j s hj hjs => by
              by_cases e : j = k
              · subst e
                rw [HD.out] at hjs
                injection hjs with hjs
                rw [← hjs]; exact hs
              · exact HAL.out j s (by omega) hjs
            clear hs
            go_wp2_with (go_at_call 18; (with_reducible refine (HV1.out _).mono ?_); rintro e w5 ⟨rfl, hb5⟩)
            go_round
            case rel => exact ⟨k + 1, by omega, by go_num, HAL2, hbr.trans (Below.trans (by go_grown) (hb5.mono (by simp; omega)))⟩
            case measure => (simp [intOf]; omega)
          · have HV1 : Hid (∀ Z : World, Calls Try.prog 18 #[.agg #[.int .i64 s0, .int .i64 s1]] Z fun e w' => e = .returned (.bool false) ∧ Below Z.heap.size Z w') := Lib.hid fun Z => by
              have := isValid_any s0 s1 Z
              rwa [decide_eq_false hs] at this
            clear hs
            go_wp2_with (go_at_call 18; (with_reducible refine (HV1.out _).mono ?_); rintro e w5 ⟨rfl, hb5⟩)
            go_ret2
            exact ⟨⟨_, _, rfl⟩, hbr.trans (Below.trans (by go_grown) (hb5.mono (by simp; omega)))⟩
        · exfalso
          refine H3.out fun s hs => ?_
          obtain ⟨j, hj, rfl⟩ := List.getElem_of_mem hs
          have hj2 := hj
          rw [HVL.out] at hj2
          exact HAL.out j _ (by omega) (List.getElem?_eq_getElem hj)
    · have HE : Hid (ckSpan vars p hv = 3) := Lib.hid (by unfold ckSpan; rw [if_neg (by simp [h1]), if_pos (by rw [hhl]; exact h2)])
      rw [HE.out]
      have hne : ((vl : Int) != vars) = true := by simp [h2]
      clear hx hh hl hin hhl hc h1 h2
      go_enter Try.func10, Try.ntmps10
      go_wp2_with (go_at_call 21; (with_reducible refine HCK.out.mono ?_); rintro e w1 ⟨rfl, hb1⟩)
      go_ret2
      exact ⟨⟨_, _, rfl⟩, hb1⟩
  · have HE : Hid (ckSpan vars p hv = ckProg vars p) := Lib.hid (by unfold ckSpan; rw [if_pos h1])
    rw [HE.out]
    obtain ⟨c, hce⟩ : ∃ c, ckProg vars p = c := ⟨_, rfl⟩
    rw [hce] at HCK h1 ⊢
    have hne : (c != 0) = true := by simp [h1]
    clear hx hh hl hin hhl hc h1 hce
    go_enter Try.func10, Try.ntmps10
    go_wp2_with (go_at_call 21; (with_reducible refine HCK.out.mono ?_); rintro e w1 ⟨rfl, hb1⟩)
    go_ret2
    exact ⟨⟨_, _, rfl⟩, hb1⟩

theorem spInIs : SpInIs := ⟨fun n A VA len cap vcap p hv w hx hh hl hc hok => spIn_any n A VA len cap vcap p hv w hx hh hl hc hok, fun vars A VA len cap vl vcap p hv w hx hh hl hm hin hhl hvm hc => spIn_bad vars A VA len cap vl vcap p hv w hx hh hl hm hin hhl hvm hc⟩

theorem goIs : GoIs := ⟨fun n A HA len cap hcap p hv w hx hh hl hc hok => blockRun_any n A HA len cap hcap p hv w hx hh hl hc hok⟩

end Go.Proofs.Ytidjnmigbhaekaa
