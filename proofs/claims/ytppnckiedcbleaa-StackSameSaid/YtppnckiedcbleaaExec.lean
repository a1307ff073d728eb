/-
  stack.execute with the closure of stack.Run; stack.Run (C1).
-/
import Derived.Test.YtppnckiedcbleaaHeight
import Derived.Test.YtppnckiedcbleaaStackRef
import Derived.Test.YtppnckiedcbleaaBacks
namespace Go.Proofs.Ytppnckiedcbleaa
open Go.RowKit
set_option linter.unusedSimpArgs false
set_option linter.unusedVariables false
set_option maxRecDepth 100000

/-- what an operation pushes -/
def psh (xs : List Int) (o v a b : Int) : Int := if o = 1 then v else if o = 2 then xs.getD v.toNat 0 else opv o a b

/-- the stack under what an operation pushes -/
def und (o : Int) (s : List Int) : List Int := if 3 ≤ o then s.take (s.length - 2) else s

theorem psh_step {xs s : List Int} {o v a b : Int} (ho : 1 ≤ o) (ha : 3 ≤ o → a = s.getD (s.length - 2) 0) (hb : 3 ≤ o → b = s.getD (s.length - 1) 0) : und o s ++ [psh xs o v a b] = stkStep xs ⟨o, v⟩ s := by
  unfold und psh stkStep
  simp only []
  by_cases h1 : o = 1
  · rw [if_neg (by omega), if_pos h1, if_pos h1]
  · by_cases h2 : o = 2
    · rw [if_neg (by omega), if_neg h1, if_pos h2, if_neg h1, if_pos h2]
    · rw [if_pos (by omega), if_neg h1, if_neg h2, if_neg h1, if_neg h2, ha (by omega), hb (by omega)]

set_option maxHeartbeats 4000000 in
theorem pushRun_any (k : Nat) (o v a b : Int) (pc ph : Addr) (A HA : Option Addr) (len cap hcap : Nat) (c : List So) (xs : List Int) (w : World) (hpc : w.cell? pc = some (.slice A len cap)) (hph : w.cell? ph = some (.slice HA xs.length hcap)) (hx : RdO w w.heap.size A c) (hh : RdI w w.heap.size HA xs) (hl : c.length = len)
    (hd : c[k]? = some ⟨o, v⟩) (ho1 : 1 ≤ o) (ho6 : o ≤ 6) (hv : o = 2 → 0 ≤ v ∧ v < xs.length) (ha : 3 ≤ o → 0 ≤ a ∧ a ≤ 255) (hb : 3 ≤ o → 0 ≤ b ∧ b ≤ 255) :
    Calls Try.prog 79 #[.int .i64 k, .int .i64 a, .int .i64 b, .pointer (some pc), .pointer (some ph)] w fun e w' => e = .returned (.int .i64 (psh xs o v a b)) ∧ Below w.heap.size w w' := by
  have hpcb := World.block_lt_of_cell? w pc hpc
  have hphb := World.block_lt_of_cell? w ph hph
  have hkl := (List.getElem?_eq_some_iff.1 hd).1
  obtain ⟨ad, o', v', rfl, hbl, hd', hc0, hc1⟩ := hx.at_ (k := k) hkl
  rw [hd] at hd'
  injection hd' with hd'
  injection hd' with e1 e2
  subst e1 e2
  rw [hl] at hkl
  have HL := Lib.hid hl
  clear hd hl hx
  by_cases h1 : o = 1
  · have HP : Hid (psh xs o v a b = v) := Lib.hid (by unfold psh; rw [if_pos h1])
    subst h1
    go_enter Try.func79, Try.ntmps79
    go_wp2
    go_ret
    exact ⟨ret_int HP.out.symm, by go_grown⟩
  · by_cases h2 : o = 2
    · obtain ⟨hv3, hv4⟩ := hv h2
      obtain ⟨vn, rfl⟩ := Int.eq_ofNat_of_zero_le hv3
      obtain ⟨hd2, x, rfl, hbl2, hx2, hcx⟩ := hh.at_ (k := vn) (by omega)
      have HP : Hid (psh xs o vn a b = x) := Lib.hid (by
        unfold psh
        rw [if_neg h1, if_pos h2, Int.toNat_natCast, List.getD_eq_getElem?_getD, hx2]
        rfl)
      have hvn : vn < xs.length := by omega
      subst h2
      clear hx2
      generalize xs.length = hlen at *
      go_enter Try.func79, Try.ntmps79
      go_wp2
      go_ret
      exact ⟨ret_int HP.out.symm, by go_grown⟩
    · have ho3 : 3 ≤ o := by omega
      obtain ⟨ha0, ha1⟩ := ha ho3
      obtain ⟨hb0, hb1⟩ := hb ho3
      have HP : Hid (psh xs o v a b = opv o a b) := Lib.hid (by unfold psh; rw [if_neg h1, if_neg h2])
      generalize xs.length = hlen at *
      go_enter Try.func79, Try.ntmps79
      go_wp2_with (go_at_call 63; (with_reducible refine (apply_any o a b _ ha0 ha1 hb0 hb1).mono ?_); rintro e w1 ⟨rfl, rfl⟩)
      go_ret
      exact ⟨ret_int HP.out.symm, by go_grown⟩

theorem und_sub {o : Int} {s : List Int} : ∀ (j : Nat) (y : Int), (und o s)[j]? = some y → s[j]? = some y := by
  intro j y h
  unfold und at h
  split at h
  · rw [List.getElem?_take] at h
    split at h
    · exact h
    · cases h
  · exact h

theorem psh_bd {xs : List Int} {vars o v a b : Int} {d : Nat} (hck : ckSo vars d o v = 0) (h0 : 0 ≤ vars) (hv : vars ≤ xs.length) (hxs : ∀ (j : Nat) (x : Int), xs[j]? = some x → 0 ≤ x ∧ x ≤ 255) : 0 ≤ psh xs o v a b ∧ psh xs o v a b ≤ 255 := by
  have hcs := ckSo_cases hck
  unfold psh
  split
  · omega
  · split
    · have hvv : 0 ≤ v ∧ v < vars := by omega
      have hlt : v.toNat < xs.length := by omega
      rw [List.getD_eq_getElem?_getD, List.getElem?_eq_getElem hlt]
      exact hxs _ _ (List.getElem?_eq_getElem hlt)
    · exact opv_bd _ _ _

set_option maxHeartbeats 4000000 in
theorem execRun_any (vars : Int) (pc ph : Addr) (A HA : Option Addr) (len cap hcap : Nat) (c : List So) (xs : List Int) (w : World) (hpc : w.cell? pc = some (.slice A len cap)) (hph : w.cell? ph = some (.slice HA xs.length hcap)) (hx : RdO w w.heap.size A c) (hh : RdI w w.heap.size HA xs) (hl : c.length = len)
    (hv0 : 0 ≤ vars) (hl40 : len ≤ 40) (hc : ckSoF vars 0 c = 0) (hv : ckHave vars xs = 0) :
    Calls Try.prog 78 #[.slice A len cap, .func (.func 79) #[] #[.pointer (some pc), .pointer (some ph)]] w fun e w' =>
      ∃ A' c', e = .returned (.slice A' (stkF xs c []).length c') ∧ RdI w' w'.heap.size A' (stkF xs c []) ∧ Below w.heap.size w w' := by
  obtain ⟨hv1, hv2⟩ := ckHave_ok hv
  have hpcb := World.block_lt_of_cell? w pc hpc
  have hphb := World.block_lt_of_cell? w ph hph
  have HL := Lib.hid hl
  have HC := Lib.hid hc
  have hvl : vars ≤ xs.length := by omega
  have HXS : Hid (∀ (j : Nat) (x : Int), xs[j]? = some x → 0 ≤ x ∧ x ≤ 255) := Lib.hid fun j x h => okVals_at hv2 h
  clear hl hc hv hv1 hv2
  go_enter Try.func78, Try.ntmps78
  go_wp2
  go_loopw [5, 13] (fun sv i wr => ∃ (k : Nat) (s : List Int) (sn : Nat) (SA : Option Addr) (sc : Nat), k ≤ len ∧ i = .int .i64 k ∧ sv = .slice SA sn sc ∧ Hid (s.length = sn) ∧ sn ≤ k ∧ Hid (StkAt xs vars c k s) ∧ wr.ownsRow w.heap.size 3 1 (.slice SA sn sc) sn (iv s) ∧ Below w.heap.size w wr) (fun _ i _ => len - (intOf i).toNat)
  case atStart => exact ⟨0, [], 0, none, 0, Nat.zero_le _, rfl, rfl, Lib.hid rfl, Nat.le_refl _, Lib.hid (StkAt.start HC.out), World.ownsRow_nil _ _ _ _, Below.refl _ _⟩
  case round =>
    obtain ⟨k, s, sn, SA, sc, hk, rfl, rfl, HSL, hsk, HR, hown, hb⟩ := hrel
    have hsz := hb.size
    have hsc := own_cap hown
    by_cases hlt : k < len
    · obtain ⟨ad, o, v, rfl, hbl, hd, hc0, hc1⟩ := (hx.below hb (Nat.le_refl _)).at_ (k := k) (by rw [HL.out]; exact hlt)
      have HD := Lib.hid (drop_at hd)
      have HD1 := Lib.hid hd
      have hck := HR.out.ck HD.out
      have hcase := ckSo_cases hck
      rw [HSL.out] at hcase
      have HCK := Lib.hid hck
      have hpc' := (hb.cell hpcb).trans hpc
      have hph' := (hb.cell hphb).trans hph
      have hpcw : pc.block < wr.heap.size := by omega
      have hphw : ph.block < wr.heap.size := by omega
      have hxw := (hx.below hb (Nat.le_refl _)).more hsz
      have hhw := (hh.below hb (Nat.le_refl _)).more hsz
      clear hd hck
      by_cases ho : 3 ≤ o
      · obtain ⟨ho6, ho2⟩ : o ≤ 6 ∧ 2 ≤ sn := by omega
        have hlf : leafB' o = false := by unfold leafB'; simp; omega
        have hrs0 := own_rdI hown HSL.out
        obtain ⟨sa, xa, hsa, hbla, hya, hca⟩ := hrs0.at_ (k := sn - 2) (by rw [HSL.out]; omega)
        obtain ⟨sa2, xb, hsa2, hblb, hyb, hcb⟩ := hrs0.at_ (k := sn - 1) (by rw [HSL.out]; omega)
        subst hsa
        injection hsa2 with hsa2
        subst hsa2
        have hba := HR.out.2.2.2 _ _ hya
        have hbb := HR.out.2.2.2 _ _ hyb
        have hS : Hid (und o s ++ [psh xs o v xa xb] = stkStep xs ⟨o, v⟩ s) := Lib.hid (psh_step (by omega) (fun _ => by rw [HSL.out, List.getD_eq_getElem?_getD, hya]; rfl) (fun _ => by rw [HSL.out, List.getD_eq_getElem?_getD, hyb]; rfl))
        have hlo := own_less hown (m := sn - 2) (by omega)
        have HU : Hid (s.take (sn - 2) = und o s) := Lib.hid (by unfold und; rw [if_pos ho, HSL.out])
        have HUL : Hid ((und o s).length = sn - 2) := Lib.hid (by rw [← HU.out, List.length_take, HSL.out]; omega)
        rw [HU.out] at hlo
        have hc_ : sn - 2 + 1 ≤ maxLen := by unfold maxLen; omega
        have hd_ : (sn - 2 + 1) * 8 ≤ 140737488355328 := by omega
        have hcv2 : (sn : Int) - 2 = ((sn - 2 : Nat) : Int) := by omega
        have hcv1 : (sn : Int) - 2 + 1 = ((sn - 1 : Nat) : Int) := by omega
        have hcv0 : ((sn - 2 : Nat) : Int) + 1 = ((sn - 1 : Nat) : Int) := by omega
        have hi1 : sn - 1 < sn := by omega
        have hi2 : sn - 2 < sn := by omega
        have hw1 : IntKind.i64.wrap ((sn - 1 : Nat) : Int) = ((sn - 1 : Nat) : Int) := IntWalk.i64_in _ ⟨by omega, by omega⟩
        have hw2 : IntKind.i64.wrap ((sn - 2 : Nat) : Int) = ((sn - 2 : Nat) : Int) := IntWalk.i64_in _ ⟨by omega, by omega⟩
        have hj1 : ((sn - 1 : Nat) : Int) < (sn : Int) := by omega
        have hj2 : ((sn - 2 : Nat) : Int) < (sn : Int) := by omega
        have hbla1 : (sa.add (sn - 2)).block < wr.heap.size + 1 := by omega
        have hblb1 : (sa.add (sn - 1)).block < wr.heap.size + 1 := by omega
        clear hya hyb hrs0
        go_wp2_with (go_at_call 76; (with_reducible refine (isLeaf_any _ _).mono ?_); rintro e w2 ⟨rfl, rfl⟩)
        go_region
        all_goals
          go_wp2_with (first
            | (go_at_call 79; (with_reducible refine (pushRun_any k o v xa xb pc ph _ HA len cap hcap c xs _ (((by go_grown : Below wr.heap.size wr _).cell hpcw).trans hpc') (((by go_grown : Below wr.heap.size wr _).cell hphw).trans hph') ((hxw.below (by go_grown : Below wr.heap.size wr _) (Nat.le_refl _)).more (by simp)) ((hhw.below (by go_grown : Below wr.heap.size wr _) (Nat.le_refl _)).more (by simp)) HL.out HD1.out (by omega) ho6 (fun h => by omega) (fun _ => hba) (fun _ => hbb)).mono ?_); rintro e w1 ⟨rfl, hb1⟩; have hB1 : Below wr.heap.size wr w1 := (by go_grown : Below wr.heap.size wr _).trans (hb1.mono (by simp)); have hown1 := own_below hlo hB1; have hs1 : w.heap.size ≤ w1.heap.size := by have := hB1.size; omega)
            | (at_builtin; refine wpList_app rfl (.tmp 37) (.tmp 43) 26 rfl w.heap.size 3 1 8 int_app (iv (und o s)) rfl (own_below hown1 (by go_grown)) [.int .i64 (psh xs o v xa xb)] rfl rfl (fun h => by cases h) (cells_at (by simp) _ _) (one_cell _) hc_ hd_ (by simp; omega) ?_; intro A2 c2 w4 hown2 hg2 hb2))
          go_round
          case rel =>
            have hlen : (und o s ++ [psh xs o v xa xb]).length = sn - 2 + 1 := by rw [List.length_append, HUL.out]; rfl
            refine ⟨k + 1, und o s ++ [psh xs o v xa xb], sn - 2 + 1, A2, c2, by omega, by go_num, rfl, Lib.hid hlen, by omega, Lib.hid (HR.out.step HD.out hS.out und_sub (psh_bd HCK.out hv0 hvl HXS.out)), ?_, ?_⟩
            · rw [iv_append]; exact hown2
            · exact (hb.trans (hB1.mono hsz)).trans ((by go_grown : Below w.heap.size w1 _).trans hb2)
          case measure => (simp [intOf]; omega)
      · have hlf : leafB' o = true := by unfold leafB'; simp; omega
        have HU : Hid (und o s = s) := Lib.hid (by unfold und; rw [if_neg ho])
        have hS : Hid (und o s ++ [psh xs o v 0 0] = stkStep xs ⟨o, v⟩ s) := Lib.hid (psh_step (by omega) (fun h => absurd h ho) (fun h => absurd h ho))
        have HV : Hid (o = 2 → 0 ≤ v ∧ v < xs.length) := Lib.hid (by omega)
        have ho16 : 1 ≤ o ∧ o ≤ 6 := by omega
        have hc_ : sn + 1 ≤ maxLen := by unfold maxLen; omega
        have hd_ : (sn + 1) * 8 ≤ 140737488355328 := by omega
        rw [← HU.out] at hown
        go_wp2_with (first
          | (go_at_call 76; (with_reducible refine (isLeaf_any _ _).mono ?_); rintro e w2 ⟨rfl, rfl⟩)
          | (go_at_call 79; (with_reducible refine (pushRun_any k o v 0 0 pc ph _ HA len cap hcap c xs _ (((by go_grown : Below wr.heap.size wr _).cell hpcw).trans hpc') (((by go_grown : Below wr.heap.size wr _).cell hphw).trans hph') ((hxw.below (by go_grown : Below wr.heap.size wr _) (Nat.le_refl _)).more (by simp)) ((hhw.below (by go_grown : Below wr.heap.size wr _) (Nat.le_refl _)).more (by simp)) HL.out HD1.out ho16.1 ho16.2 HV.out (fun h => by omega) (fun h => by omega)).mono ?_); rintro e w1 ⟨rfl, hb1⟩; have hB1 : Below wr.heap.size wr w1 := (by go_grown : Below wr.heap.size wr _).trans (hb1.mono (by simp)); have hown1 := own_below hown hB1; have hs1 : w.heap.size ≤ w1.heap.size := by have := hB1.size; omega)
          | (at_builtin; refine wpList_app rfl (.tmp 37) (.tmp 43) 26 rfl w.heap.size 3 1 8 int_app (iv (und o s)) rfl (own_below hown1 (by go_grown)) [.int .i64 (psh xs o v 0 0)] rfl rfl (fun h => by cases h) (cells_at (by simp) _ _) (one_cell _) hc_ hd_ (by simp; omega) ?_; intro A2 c2 w4 hown2 hg2 hb2))
        go_round
        case rel =>
          have hlen : (und o s ++ [psh xs o v 0 0]).length = sn + 1 := by rw [List.length_append, HU.out, HSL.out]; rfl
          refine ⟨k + 1, und o s ++ [psh xs o v 0 0], sn + 1, A2, c2, by omega, by go_num, rfl, Lib.hid hlen, by omega, Lib.hid (HR.out.step HD.out hS.out und_sub (psh_bd HCK.out hv0 hvl HXS.out)), ?_, ?_⟩
          · rw [iv_append]; exact hown2
          · exact (hb.trans (hB1.mono hsz)).trans ((by go_grown : Below w.heap.size w1 _).trans hb2)
        case measure => (simp [intOf]; omega)
    · have hkl : k = len := by omega
      subst hkl
      have hq := HR.out
      rw [← HL.out] at hq
      have HM := Lib.hid hq.done
      have hlen := HSL.out
      go_wp2
      go_ret
      rw [← HM.out, hlen]
      exact ⟨SA, sc, rfl, own_rdI hown hlen, hb⟩

end Go.Proofs.Ytppnckiedcbleaa
