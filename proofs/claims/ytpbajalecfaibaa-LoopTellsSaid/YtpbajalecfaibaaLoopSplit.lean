/-
  loop.split (G1): the edges that close a loop, and those that don't; loop.Tame.
-/
import Derived.Test.YtpbajalecfaibaaRuleTab
import Derived.Test.YtpbajalecfaibaaWayBack
import Derived.Test.YtpbajalecfaibaaPureGather
import Derived.Test.YtpbajalecfaibaaLoopIs
import Derived.BigQuiet
namespace Go.Proofs.Ytpbajalecfaibaa
open Go.RowKit
set_option linter.unusedSimpArgs false
set_option linter.unusedVariables false
set_option maxRecDepth 100000

theorem wayHas_told {W j : Nat} {b : Bool} (hb : W.testBit j = b) (w : World) (hW : W < 4294967296) (hj : j < 32) :
    Calls Try.prog 40 #[.int .u32 (W : Nat), .int .i64 j] w fun e w' => e = .returned (.bool b) ∧ w' = w :=
  (wayHas_any W j w hW hj).mono fun e w' ⟨h1, h2⟩ => ⟨by rw [h1, hb], h2.symm⟩

/-- two lists of pairs that grow -/
structure Tw (w : World) (B : Nat) (p q : List (Nat × Nat)) (A1 : Option Addr) (c1 : Nat) (A2 : Option Addr) (c2 : Nat) : Prop where
  r1 : w.ownsRow B 57 2 (.slice A1 p.length c1) p.length (rv pv p)
  r2 : w.ownsRow B 57 2 (.slice A2 q.length c2) q.length (rv pv q)
  ap : ∀ g, (Value.slice A1 p.length c1).ownBlock = some g → (Value.slice A2 q.length c2).ownBlock ≠ some g
  sz : B ≤ w.heap.size

section
variable {X Y : World} {B : Nat} {p q : List (Nat × Nat)} {A1 A2 : Option Addr} {c1 c2 : Nat}

theorem Tw.nil {w : World} {B : Nat} (h : B ≤ w.heap.size) : Tw w B [] [] none 0 none 0 := ⟨World.ownsRow_nil _ _ _ _, World.ownsRow_nil _ _ _ _, (fun g h => by simp [Value.ownBlock] at h), h⟩

theorem Tw.quiet (h : Tw X B p q A1 c1 A2 c2) (hb : Below X.heap.size X Y) : Tw Y B p q A1 c1 A2 c2 := ⟨own_below h.r1 hb, own_below h.r2 hb, h.ap, Nat.le_trans h.sz hb.size⟩

theorem Tw.app1 (h : Tw X B p q A1 c1 A2 c2) {a b : Nat} {A' : Option Addr} {c' : Nat} (ho : Y.ownsRow B 57 2 (.slice A' (p.length + 1) c') (p.length + 1) (rv pv p ++ [.int .i64 (a : Int), .int .i64 (b : Int)]))
    (hg : X.grownBy Y (Value.slice A1 p.length c1).ownBlock) (hp : (Value.slice A' (p.length + 1) c').ownBlock = (Value.slice A1 p.length c1).ownBlock ∨ (Value.slice A' (p.length + 1) c').ownBlock = some X.heap.size) :
    Tw Y B (p ++ [(a, b)]) q A' c' A2 c2 := by
  have e : (p ++ [(a, b)]).length = p.length + 1 := by simp
  refine ⟨?_, h.r2.kept hg ?_, fun g hg1 hg2 => ?_, Nat.le_trans h.sz hg.size⟩
  · simp only [e, rv_append]
    exact ho
  · cases he : (Value.slice A2 q.length c2).ownBlock with
    | none => exact .inl rfl
    | some g => exact .inr fun e => h.ap g e.symm he
  · simp only [e] at hg1
    rcases hp with hp | hp
    · exact h.ap g (by rw [← hp]; exact hg1) hg2
    · rw [hp] at hg1
      injection hg1 with hg1
      have := (h.r2.lt g hg2).2
      omega

theorem Tw.app2 (h : Tw X B p q A1 c1 A2 c2) {a b : Nat} {A' : Option Addr} {c' : Nat} (ho : Y.ownsRow B 57 2 (.slice A' (q.length + 1) c') (q.length + 1) (rv pv q ++ [.int .i64 (a : Int), .int .i64 (b : Int)]))
    (hg : X.grownBy Y (Value.slice A2 q.length c2).ownBlock) (hp : (Value.slice A' (q.length + 1) c').ownBlock = (Value.slice A2 q.length c2).ownBlock ∨ (Value.slice A' (q.length + 1) c').ownBlock = some X.heap.size) :
    Tw Y B p (q ++ [(a, b)]) A1 c1 A' c' := by
  have e : (q ++ [(a, b)]).length = q.length + 1 := by simp
  refine ⟨h.r1.kept hg ?_, ?_, fun g hg1 hg2 => ?_, Nat.le_trans h.sz hg.size⟩
  · cases he : (Value.slice A1 p.length c1).ownBlock with
    | none => exact .inl rfl
    | some g => exact .inr fun e => h.ap g he e.symm
  · simp only [e, rv_append]
    exact ho
  · simp only [e] at hg2
    rcases hp with hp | hp
    · exact h.ap g hg1 (by rw [← hp]; exact hg2)
    · rw [hp] at hg2
      injection hg2 with hg2
      have := (h.r1.lt g hg1).2
      omega

end

set_option maxHeartbeats 8000000 in
theorem loopSplit_any (A : Option Addr) (len cap : Nat) (nx : List (List Int)) (w : World) (hx : RdG w w.heap.size A nx) (hl : nx.length = len) (hc : ckWay nx = 0) :
    Calls Try.prog 35 #[.slice A len cap] w fun e w' => ∃ (tb : List Nat) (A1 : Option Addr) (n1 c1 : Nat) (A2 : Option Addr) (n2 c2 : Nat), Tbl nx tb ∧ (clL nx tb).length = n1 ∧ (otL nx tb).length = n2 ∧ e = .returned (.tuple #[.slice A1 n1 c1, .slice A2 n2 c2, .int .i64 0]) ∧ RdR pv w' w'.heap.size A1 2 (clL nx tb) ∧ Below w.heap.size w w' := by
  obtain ⟨b1, b2, b3⟩ := ckWay_bd hc
  have HC := Lib.hid hc
  have HL := Lib.hid hl
  have hb64 := bkL_len nx hc
  have hback := wayBack_any A len cap nx w hx hl hc
  rw [hl] at b1 b2
  clear hl hc b3
  go_enter Try.func35, Try.ntmps35
  go_wp2_with fail
  refine hback.mono ?_
  rintro e w1 ⟨A1, c1, rfl, hrb, hb1⟩
  obtain ⟨bl, hbl⟩ : ∃ bl, (bkL nx).length = bl := ⟨_, rfl⟩
  rw [hbl] at hb64 ⊢
  have HBL := Lib.hid hbl
  have hs1 := hb1.size
  have hx1 := (hx.below hb1 (Nat.le_refl _)).more hs1
  clear hbl hback
  go_wp2_with fail
  refine (ruleTable_any A len cap nx _ hx1 HL.out HC.out).mono ?_
  rintro e wo ⟨tb, A2, c2, htb, rfl, hrt, hb2⟩
  have hrb2 : RdR pv wo wo.heap.size A1 2 (bkL nx) := RdR.more (RdR.below hrb hb2 (Nat.le_refl _)) hb2.size
  have hbw : Below w.heap.size w wo := hb1.trans (hb2.mono hs1)
  have htl := htb.len
  rw [HL.out] at htl
  have HTL := Lib.hid htl
  have HTB := Lib.hid htb
  clear htb htl hrb hb1 hb2 hx1
  go_wp2_with fail
  go_loopw [2, 3, 27] (fun s2 s3 z wr => ∃ (k : Nat) (A4 : Option Addr) (n4 c4 : Nat) (A5 : Option Addr) (n5 c5 : Nat), k ≤ bl ∧ z = .int .i64 k ∧ (clK nx tb k).length = n4 ∧ (otK nx tb k).length = n5 ∧ s2 = .slice A4 n4 c4 ∧ s3 = .slice A5 n5 c5 ∧ Hid (Tw wr wo.heap.size (clK nx tb k) (otK nx tb k) A4 c4 A5 c5) ∧ Below wo.heap.size wo wr) (fun _ _ z _ => bl - (intOf z).toNat)
  case atStart => exact ⟨0, none, 0, 0, none, 0, 0, Nat.zero_le _, rfl, rfl, rfl, rfl, rfl, Lib.hid (Tw.nil (Nat.le_refl _)), Below.refl _ _⟩
  case round =>
    obtain ⟨k, A4, n4, c4, A5, n5, c5, hk, rfl, hn4, hn5, rfl, rfl, HT, hb⟩ := hrel
    have hsz := hb.size
    by_cases hlt : k < bl
    · obtain ⟨ap, a, b, rfl, hblp, hpd, hca, hcb⟩ := RdR.pair (RdR.below hrb2 hb (Nat.le_refl _)) (k := k) (by rw [HBL.out]; exact hlt)
      obtain ⟨ha, hb'⟩ := bk_lt HC.out (List.mem_of_getElem? hpd)
      rw [HL.out] at ha hb'
      dsimp only at ha hb'
      have hl4 := clK_len (nx := nx) (tb := tb) k
      have hl5 := otK_len (nx := nx) (tb := tb) k
      rw [HBL.out] at hl4 hl5
      rw [hn4] at hl4
      rw [hn5] at hl5
      obtain ⟨at_, W, rfl, hblt, hW, hct⟩ := (hrt.below hb (Nat.le_refl _)).at_ (k := a) (by rw [HTL.out]; exact ha)
      have hW8 := HTB.out.lt a W hW
      have hW32 : W < 4294967296 := by omega
      have hb32 : b < 32 := by omega
      have hcb2 : clB tb (a, b) = W.testBit b := by unfold clB; rw [getD_at hW]
      have HPD := Lib.hid hpd
      have HN4 := Lib.hid hn4
      have HN5 := Lib.hid hn5
      have h63a : n4 + 1 ≤ maxLen := by unfold maxLen; omega
      have hbiga : (n4 + 1) * 16 ≤ 140737488355328 := by omega
      have h63b : n5 + 1 ≤ maxLen := by unfold maxLen; omega
      have hbigb : (n5 + 1) * 16 ≤ 140737488355328 := by omega
      have hpb : (ap.add (k * 2)).block < wr.heap.size := by omega
      have htb2 : (at_.add a).block < wr.heap.size := by omega
      clear hpd hn4 hn5 hW
      obtain ⟨v, hv⟩ : ∃ v, W.testBit b = v := ⟨_, rfl⟩
      rw [hv] at hcb2
      have HV := Lib.hid hv
      have HCB := Lib.hid hcb2
      clear hv hcb2
      go_wp2
      obtain ⟨wb, hwb⟩ : ∃ wb, wb = wr.alloc (.cells #[.int .i64 (a : Int), .int .i64 (b : Int)] 57) := ⟨_, rfl⟩
      have hbb : Below wr.heap.size wr wb := by rw [hwb]; go_grown
      have hx0 : wb.cell? ⟨wr.heap.size, 0, none⟩ = some (.int .i64 (a : Int)) := by rw [hwb]; exact cell_new rfl rfl
      have hx1 : wb.cell? ⟨wr.heap.size, 1, none⟩ = some (.int .i64 (b : Int)) := by rw [hwb]; exact cell_new rfl rfl
      have hct2 := (hbb.cell (p := at_.add a) htb2).trans hct
      have hsb : wr.heap.size < wb.heap.size := World.block_lt_of_cell? wb _ hx0
      have HT2 := Lib.hid (HT.out.quiet hbb)
      have hbo : Below wo.heap.size wo wb := hb.trans (hbb.mono hsz)
      obtain ⟨gb, hgb⟩ : ∃ gb, wr.heap.size = gb := ⟨_, rfl⟩
      rw [← hwb]
      rw [hgb] at hx0 hx1 hsb ⊢
      clear hwb hbb hb hct hca hcb hpb htb2 hsz hgb
      cases v with
      | true =>
        have HN := Lib.hid (clK_yes HPD.out HCB.out)
        go_quiet ((go_at_call 40; exact Calls.quiet_of_same (wayHas_told HV.out _ hW32 hb32)))
        have g0 : (wb.drewN nq).cell? ⟨gb, 0, none⟩ = some (.int .i64 (a : Int)) := hx0
        have g1 : (wb.drewN nq).cell? ⟨gb, 1, none⟩ = some (.int .i64 (b : Int)) := hx1
        have HT3 : Hid (Tw (wb.drewN nq) wo.heap.size (clK nx tb k) (otK nx tb k) A4 c4 A5 c5) := Lib.hid (HT2.out.quiet ⟨rfl, rfl, rfl, Nat.le_refl _, fun _ _ => rfl⟩)
        have hbo3 : Below wo.heap.size wo (wb.drewN nq) := ⟨hbo.os, hbo.tape, hbo.output, hbo.size, hbo.block⟩
        have hsb3 : gb < (wb.drewN nq).heap.size := hsb
        generalize wb.drewN nq = wq at *
        clear hx0 hx1 HT2 hbo hsb hct2
        have hr1 := HT3.out.r1
        have hsz3 := hbo3.size
        rw [HN4.out] at hr1
        go_wp2_with (at_builtin; refine wpList_app' rfl (.tmp 39) (.tmp 41) 53 rfl wo.heap.size 57 2 16 pair_app _ rfl (hr1.alloc _) [.int .i64 (a : Int), .int .i64 (b : Int)] rfl rfl (fun h => by cases h) (cells_at rfl _ _) (pv_one _ _) h63a hbiga (by simp; omega) ?_; intro A6 c6 w6 hown6 hg6 hb6 hp6; have hT6 := Tw.app1 (HT3.out.quiet (Y := wq.alloc (.cells #[.int .i64 (a : Int), .int .i64 (b : Int)] 57)) (by go_grown)) (a := a) (b := b) (by rw [HN4.out]; exact hown6) (by rw [HN4.out]; exact hg6) (by rw [HN4.out]; exact hp6); have hbw6 : Below wo.heap.size wo w6 := (hbo3.trans ((by go_grown : Below wq.heap.size wq (wq.alloc (.cells #[.int .i64 (a : Int), .int .i64 (b : Int)] 57))).mono hsz3)).trans hb6)
        go_round
        case rel => exact ⟨k + 1, A6, n4 + 1, c6, A5, n5, c5, by omega, by go_num, by rw [HN.out.1, List.length_append, HN4.out]; rfl, by rw [HN.out.2]; exact HN5.out, rfl, rfl, Lib.hid (by rw [HN.out.1, HN.out.2]; exact hT6), hbw6⟩
        case measure => (simp [intOf]; omega)
      | false =>
        have HN := Lib.hid (clK_no HPD.out HCB.out)
        go_quiet ((go_at_call 40; exact Calls.quiet_of_same (wayHas_told HV.out _ hW32 hb32)))
        have g0 : (wb.drewN nq).cell? ⟨gb, 0, none⟩ = some (.int .i64 (a : Int)) := hx0
        have g1 : (wb.drewN nq).cell? ⟨gb, 1, none⟩ = some (.int .i64 (b : Int)) := hx1
        have HT3 : Hid (Tw (wb.drewN nq) wo.heap.size (clK nx tb k) (otK nx tb k) A4 c4 A5 c5) := Lib.hid (HT2.out.quiet ⟨rfl, rfl, rfl, Nat.le_refl _, fun _ _ => rfl⟩)
        have hbo3 : Below wo.heap.size wo (wb.drewN nq) := ⟨hbo.os, hbo.tape, hbo.output, hbo.size, hbo.block⟩
        have hsb3 : gb < (wb.drewN nq).heap.size := hsb
        generalize wb.drewN nq = wq at *
        clear hx0 hx1 HT2 hbo hsb hct2
        have hr2 := HT3.out.r2
        have hsz3 := hbo3.size
        rw [HN5.out] at hr2
        go_wp2_with (at_builtin; refine wpList_app' rfl (.tmp 43) (.tmp 45) 53 rfl wo.heap.size 57 2 16 pair_app _ rfl (hr2.alloc _) [.int .i64 (a : Int), .int .i64 (b : Int)] rfl rfl (fun h => by cases h) (cells_at rfl _ _) (pv_one _ _) h63b hbigb (by simp; omega) ?_; intro A6 c6 w6 hown6 hg6 hb6 hp6; have hT6 := Tw.app2 (HT3.out.quiet (Y := wq.alloc (.cells #[.int .i64 (a : Int), .int .i64 (b : Int)] 57)) (by go_grown)) (a := a) (b := b) (by rw [HN5.out]; exact hown6) (by rw [HN5.out]; exact hg6) (by rw [HN5.out]; exact hp6); have hbw6 : Below wo.heap.size wo w6 := (hbo3.trans ((by go_grown : Below wq.heap.size wq (wq.alloc (.cells #[.int .i64 (a : Int), .int .i64 (b : Int)] 57))).mono hsz3)).trans hb6)
        go_round
        case rel => exact ⟨k + 1, A4, n4, c4, A6, n5 + 1, c6, by omega, by go_num, by rw [HN.out.1]; exact HN4.out, by rw [HN.out.2, List.length_append, HN5.out]; rfl, rfl, rfl, Lib.hid (by rw [HN.out.1, HN.out.2]; exact hT6), hbw6⟩
        case measure => (simp [intOf]; omega)
    · have hkl : k = bl := by omega
      have hk2 : k = (bkL nx).length := hkl.trans HBL.out.symm
      have HR := Lib.hid (own_rdR HT.out.r1 rfl)
      have HE4 : Hid ((clL nx tb).length = n4) := Lib.hid (by rw [← clK_all, ← hk2]; exact hn4)
      have HE5 : Hid ((otL nx tb).length = n5) := Lib.hid (by rw [← otK_all, ← hk2]; exact hn5)
      have HR2 : Hid (RdR pv wr wr.heap.size A4 2 (clL nx tb)) := Lib.hid (by rw [← clK_all, ← hk2]; exact HR.out)
      clear hk2 hn4 hn5
      subst hkl
      go_wp2
      go_ret3
      exact ⟨tb, A4, n4, c4, A5, n5, c5, HTB.out, HE4.out, HE5.out, rfl, HR2.out, hbw.trans (hb.mono hbw.size)⟩

theorem loopSplit_bad (A : Option Addr) (len cap : Nat) (nx : List (List Int)) (w : World) (hx : RdG w w.heap.size A nx) (hl : nx.length = len) (hm : len ≤ maxLen) (hc : ckWay nx ≠ 0) :
    Calls Try.prog 35 #[.slice A len cap] w fun e w' => ∃ A1 c1 A2 c2, e = .returned (.tuple #[.slice A1 0 c1, .slice A2 0 c2, .int .i64 (ckWay nx)]) ∧ Below w.heap.size w w' := by
  have HC := Lib.hid hc
  have hne : (ckWay nx != 0) = true := by simp [hc]
  clear hc
  go_enter Try.func35, Try.ntmps35
  go_wp2_with fail
  refine (wayBack_bad A len cap nx _ hx hl hm HC.out).mono ?_
  rintro e w1 ⟨A1, c1, rfl, hb1⟩
  go_wp2
  go_ret3
  exact ⟨none, 0, none, 0, rfl, hb1⟩

end Go.Proofs.Ytpbajalecfaibaa
