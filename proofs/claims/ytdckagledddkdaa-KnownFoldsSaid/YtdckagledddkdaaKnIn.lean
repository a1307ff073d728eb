/-
  known.constantsBefore, known.In (L1).
-/
import Derived.Test.YtdckagledddkdaaKnSpread
import Derived.Test.YtdckagledddkdaaKnCheck
namespace Go.Proofs.Ytdckagledddkdaa
open Go.RowKit
set_option linter.unusedSimpArgs false
set_option linter.unusedVariables false
set_option maxRecDepth 100000

set_option maxHeartbeats 8000000 in
theorem constantsK_any (n : Nat) (A VA : Option Addr) (len cap vcap : Nat) (p : List Bk) (hv : List Int) (w : World) (hx : RdP w w.heap.size A p) (hh : RdI w w.heap.size VA hv) (hl : p.length = len) (hc : ckProg n p = 0) (hok : KOk n hv) :
    Calls Try.prog 23 #[.slice A len cap, .slice VA n vcap] w fun e w' => ∃ X cs, e = .returned (.slice (some ⟨w.heap.size, 0, none⟩) len len) ∧ KN w' w.heap.size n X cs ∧ Least n p hv X ∧ Below w.heap.size w w' := by
  obtain ⟨b1, b2, b3, b4, b5, _⟩ := ckProg_bd hc
  have HC := Lib.hid hc
  have HL := Lib.hid hl
  rw [hl] at b3 b4
  have hn1 : 1 ≤ n := by omega
  have hn6 : n ≤ 6 := by omega
  have HX := Lib.hid hx
  have hmk := make_nils (P := Try.prog) 24 23 Try.underlying24 (by kernel_rfl) len (by omega)
  have hkn0 : KN (w.alloc (.cells (nils len).toArray 23)) w.heap.size n (List.replicate len []) (nils len) := KN.start
  have HKN0 := Lib.hid hkn0
  have hb0 : Below w.heap.size w (w.alloc (.cells (nils len).toArray 23)) := by go_grown
  have HCLN : Hid (∀ Z : World, Below w.heap.size w Z → Calls Try.prog 33 #[.slice VA n vcap] Z fun e w' => ∃ g c', e = .returned (.slice (some ⟨g, 0, none⟩) n c') ∧ w'.ownsRow Z.heap.size 3 1 (.slice (some ⟨g, 0, none⟩) n c') n (iv hv) ∧ Below Z.heap.size Z w') := Lib.hid fun Z hZ =>
    clone_any VA n vcap hv Z ((hh.below hZ (Nat.le_refl _)).more hZ.size) hok.1 hn1 (by omega)
  have HCI0 : Hid (Ci n p hv ((List.replicate len []).set 0 hv)) := Lib.hid (by rw [← hl]; exact Ci.begin (by omega) hok)
  have HOL := Lib.hid hok.1
  clear hx hh hl hc hok hkn0 b1 b2
  go_enter Try.func23, Try.ntmps23
  go_wp2_with (go_at_call 33; (with_reducible refine (HCLN.out _ hb0).mono ?_); rintro e w1 ⟨g1, c1, rfl, hown1, hb1⟩; have hq1 := HKN0.out.own.below hb1 HKN0.out.own.lt; have hf1 := hq1.frozen 0; have hc1 := hq1.cell (j := 0) (v := .slice none 0 0) (by unfold nils; rw [List.getElem?_replicate, if_pos (by omega)]); have hl1 := hq1.lt)
  have hg1 := (hown1.lt g1 rfl).1
  have hput := KN.put (j := 0) HKN0.out hb1 HOL.out (by omega) (own_mono hown1 (by simp)) hg1
  have hbw1 : Below w.heap.size w (w1.setCell ⟨w.heap.size, 0, none⟩ (.slice (some ⟨g1, 0, none⟩) n c1)) := (hb0.trans (hb1.mono hb0.size)).setCell (Nat.le_refl _) _
  obtain ⟨wo, hwo⟩ : ∃ wo, wo = w1.setCell ⟨w.heap.size, 0, none⟩ (.slice (some ⟨g1, 0, none⟩) n c1) := ⟨_, rfl⟩
  rw [← hwo] at hput hbw1 ⊢
  have HPUT := Lib.hid hput
  clear hwo hput hown1 hb1 hq1 hf1 hc1 hl1 hg1 hb0
  go_loopw [] (fun wr => ∃ (X : List (List Int)) (cs : List Value), KN wr w.heap.size n X cs ∧ Ci n p hv X ∧ Below w.heap.size w wr) (fun wr => cntK n wr (.slice (some ⟨w.heap.size, 0, none⟩) len len))
  case atStart => exact ⟨_, _, HPUT.out, HCI0.out, hbw1⟩
  case round =>
    obtain ⟨X, cs, hkn, hci, hbr⟩ := hrel
    have HKN := Lib.hid hkn
    have HSP := Lib.hid (spreadK_any n A len cap w.heap.size w.heap.size p hv X cs wr (HX.out.below hbr (Nat.le_refl _)) (Nat.le_refl _) HL.out HC.out hkn hci)
    have HXL : Hid (X.length = len) := Lib.hid (by rw [hci.len, HL.out])
    have HM1 : Hid (cntK n wr (.slice (some ⟨w.heap.size, 0, none⟩) len len) = wtM n X) := Lib.hid (by have := cntK_eq (n := n) (c := len) hkn.kg; rwa [HXL.out] at this)
    clear hkn hci
    go_wp2_with fail
    refine HSP.out.mono ?_
    rintro e w5 ⟨ch, Y, ds, rfl, hkn5, htu, hb5⟩
    have hbw5 := hbr.trans hb5
    have HKN5 := Lib.hid hkn5
    have HTU := Lib.hid htu
    have HM2 : Hid (cntK n w5 (.slice (some ⟨w.heap.size, 0, none⟩) len len) = wtM n Y) := Lib.hid (by have := cntK_eq (n := n) (c := len) hkn5.kg; rwa [htu.ci.len, HL.out] at this)
    clear hkn5 htu
    cases ch
    · have HLE := Lib.hid (HTU.out.no rfl)
      go_wp2
      go_ret
      exact ⟨Y, ds, rfl, HKN5.out, HLE.out, hbw5⟩
    · have HLT := Lib.hid (HTU.out.yes rfl)
      have HCI := Lib.hid HTU.out.ci
      go_wp2
      go_round
      case rel => exact ⟨Y, ds, HKN5.out, HCI.out, hbw5⟩
      case measure => rw [HM1.out, HM2.out]; exact HLT.out

set_option maxHeartbeats 4000000 in
theorem knownIn_any (n : Nat) (A VA : Option Addr) (len cap vcap : Nat) (p : List Bk) (hv : List Int) (w : World) (hx : RdP w w.heap.size A p) (hh : RdI w w.heap.size VA hv) (hl : p.length = len) (hc : ckProg n p = 0) (hok : KOk n hv) :
    Calls Try.prog 8 #[.int .i64 n, .slice A len cap, .slice VA n vcap] w fun e w' => ∃ A' c' L, e = .returned (.tuple #[.slice A' len c', .int .i64 0]) ∧ RdG w' w'.heap.size A' L ∧ Least n p hv L ∧ Below w.heap.size w w' := by
  have hlm : len ≤ maxLen := by have := (ckProg_bd hc).2.2.2.1; unfold maxLen; omega
  have hn6 : n ≤ maxLen := by have := (ckProg_bd hc).2.1; unfold maxLen; omega
  have HCK := Lib.hid (knownCheck_any n A VA len cap n vcap p hv w hx hh hl hlm (CodeFits.of_ok hc) hok.1 hn6)
  rw [ckKnow_of hc hok] at HCK
  have HCB := Lib.hid (fun (Z : World) (hZ : Below w.heap.size w Z) => constantsK_any n A VA len cap vcap p hv Z ((hx.below hZ (Nat.le_refl _)).more hZ.size) ((hh.below hZ (Nat.le_refl _)).more hZ.size) hl hc hok)
  clear hx hh hl hc hok
  go_enter Try.func8, Try.ntmps8
  go_wp2_with fail
  (with_reducible refine HCK.out.mono ?_)
  rintro e w1 ⟨rfl, hb1⟩
  go_wp2_with fail
  refine (HCB.out _ hb1).mono ?_
  rintro e w2 ⟨X, cs, rfl, hkn, hle, hb2⟩
  have hrd := hkn.kg.rd
  have HLE := Lib.hid hle
  clear hkn hle
  go_wp2
  go_ret2
  exact ⟨_, _, X, rfl, hrd, HLE.out, hb1.trans (hb2.mono hb1.size)⟩

set_option maxHeartbeats 4000000 in
theorem knownIn_bad (vars : Int) (A VA : Option Addr) (len cap vl vcap : Nat) (p : List Bk) (hv : List Int) (w : World) (hx : RdP w w.heap.size A p) (hh : RdI w w.heap.size VA hv) (hl : p.length = len) (hm : len ≤ maxLen) (hin : ∀ b ∈ p, InBk b) (hhl : hv.length = vl) (hvm : vl ≤ maxLen) (hc : ckKnow vars p hv ≠ 0) :
    Calls Try.prog 8 #[.int .i64 vars, .slice A len cap, .slice VA vl vcap] w fun e w' => ∃ A' c', e = .returned (.tuple #[.slice A' 0 c', .int .i64 (ckKnow vars p hv)]) ∧ Below w.heap.size w w' := by
  have HCK := Lib.hid (knownCheck_any vars A VA len cap vl vcap p hv w hx hh hl hm (CodeFits.of_in hin) hhl hvm)
  obtain ⟨c, hce⟩ : ∃ c, ckKnow vars p hv = c := ⟨_, rfl⟩
  rw [hce] at HCK hc ⊢
  have hne : (c != 0) = true := by simp [hc]
  clear hx hh hl hin hhl hc hce
  go_enter Try.func8, Try.ntmps8
  go_wp2_with (go_at_call 22; (with_reducible refine HCK.out.mono ?_); rintro e w1 ⟨rfl, hb1⟩)
  go_returns
  exact ⟨_, _, rfl, hb1⟩

theorem goIsK : GoIs := ⟨fun n A HA len cap hcap p hv w hx hh hl hc hok => blockRun_any n A HA len cap hcap p hv w hx hh hl hc hok⟩

theorem knownIs : KnownIs where
  in_ := fun n A VA len cap vcap p hv w hx hh hl hc hok => knownIn_any n A VA len cap vcap p hv w hx hh hl hc hok
  inBad := fun vars A VA len cap vl vcap p hv w hx hh hl hm hin hhl hvm hc => knownIn_bad vars A VA len cap vl vcap p hv w hx hh hl hm hin hhl hvm hc

end Go.Proofs.Ytdckagledddkdaa
