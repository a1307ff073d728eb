/-
  value.classes walked (D1).
-/
import Derived.Test.YtacokdghfkpdpaaClass
namespace Go.Proofs.Ytacokdghfkpdpaa
open Go.RowKit
set_option linter.unusedSimpArgs false
set_option linter.unusedVariables false
set_option maxRecDepth 100000

set_option maxHeartbeats 4000000 in
theorem classes_any (vars : Int) (A : Option Addr) (len cap : Nat) (l : List Tm) (w : World) (hx : RdT w w.heap.size A l) (hl : l.length = len) (hc : ckTerms vars l = 0) :
    Calls Try.prog 32 #[.slice A len cap] w fun e w' => ∃ A1 c1 A2 c2, e = .returned (.tuple #[.slice A1 len c1, .slice A2 len c2]) ∧ RdI w' w'.heap.size A1 (ni (fsL l)) ∧ RdT w' w'.heap.size A2 (pnL l) ∧ len ≤ c2 ∧ Below w.heap.size w w' := by
  obtain ⟨b1, b2, b3, b4⟩ := ckTerms_bd hc
  have HL := Lib.hid hl
  have HC := Lib.hid hc
  rw [hl] at b3 b4
  clear hl hc
  have hmm := @run_makeMap Try.prog
  go_enter Try.func32, Try.ntmps32
  go_wp2
  clear hmm
  go_loopw [2, 3, 13] (fun s1 s2 i wr => ∃ (k : Nat) (A1 : Option Addr) (c1 : Nat) (A2 : Option Addr) (c2 : Nat), k ≤ len ∧ i = .int .i64 k ∧ s1 = .slice A1 k c1 ∧ s2 = .slice A2 k c2 ∧ Cl w l wr k A1 c1 k A2 c2 k) (fun _ _ i _ => len - (intOf i).toNat)
  case atStart => exact ⟨0, none, 0, none, 0, Nat.zero_le _, rfl, rfl, rfl, World.ownsRow_nil _ _ _ _, World.ownsRow_nil _ _ _ _, (fun g h => by simp [Value.ownBlock] at h), OwnM.new w, by go_grown, by simp⟩
  case round =>
    obtain ⟨k, A1, c1, A2, c2, hk, rfl, rfl, rfl, hcl⟩ := hrel
    have hb := hcl.bl
    have hsz := hb.size
    by_cases hlt : k < len
    · obtain ⟨ad, o, a, b, v, rfl, hbl, hd, hc0, hc1, hc2, hc3⟩ := ((hx.below hb (Nat.le_refl _)).more hsz).at_ (k := k) (by rw [HL.out]; exact hlt)
      have hcase := ckTerms_cases HC.out hd
      have hpn := pn_at hd
      have hpd := pnL_at hd
      have hlk : ((fsL l).take k).length = k := by rw [List.length_take, fsL_len, HL.out]; omega
      rw [← hpn] at hpd
      rw [← plT_take (k := k) (fun h => by simp only [] at h ⊢; omega)] at hpn
      have hkl : k < l.length := by rw [HL.out]; exact hlt
      have hfs := fs_at hkl
      have hkey := tm_key HC.out hkl
      have hkeys := knV_keys HC.out (Nat.le_of_lt hkl)
      have hkeys1 := knV_keys HC.out (m := k + 1) hkl
      obtain ⟨x, hxv⟩ : ∃ x, fv l k = x := ⟨_, rfl⟩
      have hold := fun h => knV_old HC.out hkl (Nat.le_of_lt hkl) (kn_old HC.out hkl h)
      have hnew := knV_new HC.out hkl
      have hput := knV_put (l := l) (k := k)
      have hstay := knV_stay (l := l) (k := k)
      have hput1 : fv l k = k → _ := fun h => knV_old HC.out hkl hkl (show (pn l k, fv l k) ∈ knS l (k + 1) by rw [knS, if_pos h, h]; simp)
      rw [hxv] at hold hnew hput hstay hput1 hfs
      generalize pn l k = p at *
      obtain ⟨p0, p1, p2, p3⟩ := p
      simp only [tmV] at hold hnew hput hkey hput1
      have HP := Lib.hid hpn.symm
      have HPD := Lib.hid hpd
      have HFS := Lib.hid hfs
      have HLK := Lib.hid hlk
      have hr1 := hcl.r1
      have hor : (o = 1 ∨ o = 2) ∨ (3 ≤ o ∧ o ≤ 6 ∧ 0 ≤ a ∧ a < k ∧ 0 ≤ b ∧ b < k) := by omega
      have HOR := Lib.hid hor
      clear hpn hpd hfs hlk hcase hd hor
      have g1 : (ad.add (k * 4)).block < wr.heap.size + 1 := by omega
      have h63 : k + 1 ≤ maxLen := by unfold maxLen; omega
      have hbig : (k + 1) * 8 ≤ 140737488355328 := by omega
      have hbig2 : (k + 1) * 32 ≤ 140737488355328 := by omega
      by_cases hxk : k = x
      · subst hxk
        have hn := hnew rfl
        have hpt := hput rfl
        obtain ⟨m1, m2⟩ := hput1 rfl
        have HPT := Lib.hid hpt
        clear hold hnew hput hstay hput1 hpt hxv
        go_wp2_with fail
        (refine (plain_at o a b v A1 k c1 ((fsL l).take k) p0 p1 p2 p3 HP.out _ ?_ HLK.out HOR.out (by omega)).mono ?_)
        · exact ((own_rdI hr1 (by unfold ni; rw [List.length_map]; exact HLK.out)).below (by go_grown : Below wr.heap.size wr _) (Nat.le_refl _)).more (by simp)
        rintro e w1 ⟨rfl, hb1⟩
        have hq : Below wr.heap.size wr (w1.alloc (.cells #[.int .i64 p0, .int .i64 p1, .int .i64 p2, .int .i64 p3] 30)) := Below.trans (Below.trans (by go_grown) (hb1.mono (by simp))) ((by go_grown : Below w1.heap.size w1 _).mono (by have := hb1.size; simp at this; omega))
        have hw1 : wr.heap.size < w1.heap.size := by have := hb1.size; simp at this; omega
        have hO7 : Own (w1.alloc (.cells #[.int .i64 p0, .int .i64 p1, .int .i64 p2, .int .i64 p3] 30)) w1.heap.size 30 [.int .i64 p0, .int .i64 p1, .int .i64 p2, .int .i64 p3] := Own.new w1 _ _
        have hcl1 := hcl.quiet hq
        have HNE := Lib.hid (hcl.far (n := w1.heap.size) (by omega))
        clear hq hb1
        go_wp2_with (first
          | (at_lookup; refine wpList_look_new rfl (.tmp 22) (.tmp 23) 64 true rfl term_keyed Try.underlying64 rfl hcl1.mp hkeys zero_int rfl hkey hn ?_)
          | (at_mapUpdate; refine wpList_put_new rfl (.tmp 29) (.tmp 30) (.tmp 31) 64 rfl term_keyed Try.underlying64 rfl hcl1.mp hkeys rfl rfl hkey hn ?_; intro w2 hmp2 hT2; have hcl2 := hcl1.put HPT.out hmp2 hT2; have hO2 := hT2.own (by omega) hO7; have e0 := hO2.cell (j := 0) rfl; have e1 := hO2.cell (j := 1) rfl; have e2 := hO2.cell (j := 2) rfl; have e3 := hO2.cell (j := 3) rfl)
          | (at_lookup; refine wpList_look_old rfl (.tmp 33) (.tmp 34) 64 false rfl term_keyed Try.underlying64 rfl hcl2.mp hkeys1 rfl hkey m1 m2 ?_)
          | (at_builtin; refine wpList_app' rfl (.tmp 32) (.tmp 36) 23 rfl (w.heap.size + 1) 3 1 8 int_app _ rfl (hcl2.quiet (by go_grown)).r1 [.int .i64 (k : Int)] rfl rfl (fun h => by cases h) (cells_at rfl _ _) (one_cell _) h63 hbig (by have := hcl2.sz; simp; omega) ?_; intro A3 c3 w3 hown3 hg3 hb3 hp3; have hcl3 := (hcl2.quiet (by go_grown)).app1 HFS.out hown3 hg3 hp3; have hO3 := (hO2.alloc _).grown hg3 HNE.out; have f0 := hO3.cell (j := 0) rfl; have f1 := hO3.cell (j := 1) rfl; have f2 := hO3.cell (j := 2) rfl; have f3 := hO3.cell (j := 3) rfl)
          | (at_builtin; refine wpList_app' rfl (.tmp 38) (.tmp 40) 22 rfl (w.heap.size + 1) 30 4 32 termc_app _ rfl (hcl3.quiet (by go_grown)).r2 [.int .i64 p0, .int .i64 p1, .int .i64 p2, .int .i64 p3] rfl rfl (fun h => by cases h) (cells_at rfl _ _) (tv1_one _ _ _ _) h63 hbig2 (by have := hcl3.sz; simp; omega) ?_; intro A4 c4 w4 hown4 hg4 hb4 hp4; have hcl4 := (hcl3.quiet (by go_grown)).app2 HPD.out hown4 hg4 hp4))
        go_round
        case rel => exact ⟨k + 1, A3, c3, A4, c4, by omega, by go_num, rfl, rfl, hcl4⟩
        case measure => (simp [intOf]; omega)
      · obtain ⟨m1, m2⟩ := hold (fun h => hxk h.symm)
        have HST := Lib.hid (hstay (fun h => hxk h.symm))
        clear hold hnew hput hstay hput1 hxv
        go_wp2_with fail
        (refine (plain_at o a b v A1 k c1 ((fsL l).take k) p0 p1 p2 p3 HP.out _ ?_ HLK.out HOR.out (by omega)).mono ?_)
        · exact ((own_rdI hr1 (by unfold ni; rw [List.length_map]; exact HLK.out)).below (by go_grown : Below wr.heap.size wr _) (Nat.le_refl _)).more (by simp)
        rintro e w1 ⟨rfl, hb1⟩
        have hq : Below wr.heap.size wr (w1.alloc (.cells #[.int .i64 p0, .int .i64 p1, .int .i64 p2, .int .i64 p3] 30)) := Below.trans (Below.trans (by go_grown) (hb1.mono (by simp))) ((by go_grown : Below w1.heap.size w1 _).mono (by have := hb1.size; simp at this; omega))
        have hw1 : wr.heap.size < w1.heap.size := by have := hb1.size; simp at this; omega
        have hO7 : Own (w1.alloc (.cells #[.int .i64 p0, .int .i64 p1, .int .i64 p2, .int .i64 p3] 30)) w1.heap.size 30 [.int .i64 p0, .int .i64 p1, .int .i64 p2, .int .i64 p3] := Own.new w1 _ _
        have hcl1 := hcl.quiet hq
        have HNE := Lib.hid (hcl.far (n := w1.heap.size) (by omega))
        clear hq hb1
        go_wp2_with (first
          | (at_lookup; refine wpList_look_old rfl (.tmp 22) (.tmp 23) 64 true rfl term_keyed Try.underlying64 rfl hcl1.mp hkeys rfl hkey m1 m2 ?_)
          | (at_lookup; refine wpList_look_old rfl (.tmp 33) (.tmp 34) 64 false rfl term_keyed Try.underlying64 rfl hcl1.mp hkeys rfl hkey m1 m2 ?_)
          | (at_builtin; refine wpList_app' rfl (.tmp 32) (.tmp 36) 23 rfl (w.heap.size + 1) 3 1 8 int_app _ rfl (hcl1.quiet (by go_grown)).r1 [.int .i64 (x : Int)] rfl rfl (fun h => by cases h) (cells_at (by simp) _ _) (one_cell _) h63 hbig (by have := hcl1.sz; simp; omega) ?_; intro A3 c3 w3 hown3 hg3 hb3 hp3; have hcl3 := (hcl1.quiet (by go_grown)).app1 HFS.out hown3 hg3 hp3; have hO3 := (hO7.alloc _).grown hg3 HNE.out; have f0 := hO3.cell (j := 0) rfl; have f1 := hO3.cell (j := 1) rfl; have f2 := hO3.cell (j := 2) rfl; have f3 := hO3.cell (j := 3) rfl)
          | (at_builtin; refine wpList_app' rfl (.tmp 38) (.tmp 40) 22 rfl (w.heap.size + 1) 30 4 32 termc_app _ rfl (hcl3.quiet (by go_grown)).r2 [.int .i64 p0, .int .i64 p1, .int .i64 p2, .int .i64 p3] rfl rfl (fun h => by cases h) (cells_at rfl _ _) (tv1_one _ _ _ _) h63 hbig2 (by have := hcl3.sz; simp; omega) ?_; intro A4 c4 w4 hown4 hg4 hb4 hp4; have hcl4 := (hcl3.quiet (by go_grown)).app2 HPD.out hown4 hg4 hp4))
        go_round
        case rel => exact ⟨k + 1, A3, c3, A4, c4, by omega, by go_num, rfl, rfl, hcl4.stay HST.out⟩
        case measure => (simp [intOf]; omega)
    · have : k = len := by omega
      subst this
      go_wp2
      go_returns
      have hr1 := hcl.r1
      have hr2 := hcl.r2
      rw [List.take_of_length_le (by rw [fsL_len, HL.out]; exact Nat.le_refl _)] at hr1
      rw [List.take_of_length_le (by rw [pnL_len, HL.out]; exact Nat.le_refl _)] at hr2
      exact ⟨A1, c1, A2, c2, rfl, own_rdI hr1 (by unfold ni; rw [List.length_map, fsL_len, HL.out]), own_rdT hr2 (by rw [pnL_len, HL.out]), own_capM hr2, hb⟩

end Go.Proofs.Ytacokdghfkpdpaa
