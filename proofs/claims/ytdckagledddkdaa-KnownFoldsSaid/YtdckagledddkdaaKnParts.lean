/-
  known.followers, known.result, known.merge (L1, L2).
-/
import Derived.Test.YtdckagledddkdaaPureSettle
import Derived.Test.YtdckagledddkdaaKnownRows
import Derived.Test.YtdckagledddkdaaApply
import Derived.Test.YtdckagledddkdaaLists
import Derived.Deep.RegionWith
import Derived.BigQuiet
namespace Go.Proofs.Ytdckagledddkdaa
open Go.RowKit
set_option linter.unusedSimpArgs false
set_option linter.unusedVariables false
set_option maxRecDepth 100000

set_option maxHeartbeats 4000000 in
theorem followersK_any (Ac : Option Addr) (cl cc : Nat) (code : List St) (te th el : Int) (w : World) :
    Calls Try.prog 48 #[.agg #[.slice Ac cl cc, .int .i64 te, .int .i64 th, .int .i64 el]] w fun e w' => ∃ A', (∃ c', e = .returned (.slice A' (folG ⟨code, te, th, el⟩).length c')) ∧ RdI w' w'.heap.size A' (folG ⟨code, te, th, el⟩) ∧ (∀ a, A' = some a → w.heap.size ≤ a.block) ∧ Below w.heap.size w w' := by
  have one : ∀ x : Int, RdI ((w.alloc (.cells #[.slice Ac cl cc, .int .i64 te, .int .i64 th, .int .i64 el] 44)).alloc (.cells #[.int .i64 x] 3)) (w.heap.size + 1 + 1) (some ⟨w.heap.size + 1, 0, none⟩) [x] := fun x => by
    have h := Own.new (w.alloc (.cells #[.slice Ac cl cc, .int .i64 te, .int .i64 th, .int .i64 el] 44)) 3 (iv [x])
    have e : (w.alloc (.cells #[.slice Ac cl cc, .int .i64 te, .int .i64 th, .int .i64 el] 44)).heap.size = w.heap.size + 1 := by simp
    rw [e] at h
    exact OwnI.rd h
  have two : ∀ x y : Int, RdI ((w.alloc (.cells #[.slice Ac cl cc, .int .i64 te, .int .i64 th, .int .i64 el] 44)).alloc (.cells #[.int .i64 x, .int .i64 y] 3)) (w.heap.size + 1 + 1) (some ⟨w.heap.size + 1, 0, none⟩) [x, y] := fun x y => by
    have h := Own.new (w.alloc (.cells #[.slice Ac cl cc, .int .i64 te, .int .i64 th, .int .i64 el] 44)) 3 (iv [x, y])
    have e : (w.alloc (.cells #[.slice Ac cl cc, .int .i64 te, .int .i64 th, .int .i64 el] 44)).heap.size = w.heap.size + 1 := by simp
    rw [e] at h
    exact OwnI.rd h
  have HO1 := Lib.hid one
  have HO2 := Lib.hid two
  clear one two
  by_cases ht : te = -1
  · subst ht
    by_cases hth : th = -1
    · subst hth
      have hg : folG ⟨code, -1, -1, el⟩ = [] := by unfold folG; rw [if_neg (fun h => h rfl), if_neg (fun h => h rfl)]
      rw [hg]
      clear hg
      go_enter Try.func48, Try.ntmps48
      go_wp2
      go_ret
      exact ⟨none, ⟨0, rfl⟩, (fun h => by simp at h), (fun a h => by cases h), by go_grown⟩
    · have hg : folG ⟨code, -1, th, el⟩ = [th] := by unfold folG; rw [if_neg (fun h => h rfl), if_pos hth]
      rw [hg]
      have f1 : (th != -1) = true := by simp [hth]
      clear hg
      go_enter Try.func48, Try.ntmps48
      go_wp2
      go_ret
      exact ⟨_, ⟨_, rfl⟩, (HO1.out th).more (by simp), (fun a h => by injection h with h; subst h; simp), by go_grown⟩
  · have hg : folG ⟨code, te, th, el⟩ = [th, el] := by unfold folG; rw [if_pos ht]
    rw [hg]
    have f1 : (te != -1) = true := by simp [ht]
    clear hg ht
    go_enter Try.func48, Try.ntmps48
    go_wp2
    go_ret
    exact ⟨_, ⟨_, rfl⟩, (HO2.out th el).more (by simp), (fun a h => by injection h with h; subst h; simp), by go_grown⟩

set_option maxHeartbeats 4000000 in
theorem resultK_any (n : Nat) (VA : Option Addr) (vc : Nat) (o t a b vv : Int) (v : List Int) (w : World) (hr : RdI w w.heap.size VA v) (hk : KOk n v) (hc : ckStep n n o t a b vv = 0) (hn : n ≤ 65536) :
    Calls Try.prog 40 #[.agg #[.int .i64 o, .int .i64 t, .int .i64 a, .int .i64 b, .int .i64 vv], .slice VA n vc] w fun e w' => e = .returned (.int .i64 (mkK ⟨o, t, a, b, vv⟩ v)) ∧ Below w.heap.size w w' := by
  obtain ⟨_, hcase⟩ := ckStep_cases hc
  have hl := hk.1
  have HK := Lib.hid hk
  clear hc hk
  rcases hcase with ⟨rfl, _⟩ | ⟨rfl, h2, h3⟩ | ⟨h1, h2, h3, h4, h5, h6⟩
  · rw [mkK_num rfl]
    clear hl
    go_enter Try.func40, Try.ntmps40
    go_wp2
    go_ret
    exact ⟨rfl, by go_grown⟩
  · obtain ⟨vn, rfl⟩ := Int.eq_ofNat_of_zero_le h2
    obtain ⟨ad, x, rfl, hbl, hx, hcx⟩ := hr.at_ (k := vn) (by omega)
    have hm : mkK ⟨2, t, a, b, (vn : Int)⟩ v = x := by rw [mkK_var rfl]; exact getD_at hx
    rw [hm]
    have hvn : vn < n := by omega
    clear hl hx hm
    go_enter Try.func40, Try.ntmps40
    go_wp2
    go_ret
    exact ⟨rfl, by go_grown⟩
  · obtain ⟨an, rfl⟩ := Int.eq_ofNat_of_zero_le h3
    obtain ⟨bn, rfl⟩ := Int.eq_ofNat_of_zero_le h5
    obtain ⟨ad, x, rfl, hbl, hx, hcx⟩ := hr.at_ (k := an) (by omega)
    obtain ⟨ad2, y, e2, hbl2, hy, hcy⟩ := hr.at_ (k := bn) (by omega)
    injection e2 with e2
    subst e2
    have hxb := HK.out.2 _ _ hx
    have hyb := HK.out.2 _ _ hy
    have hm : mkK ⟨o, t, (an : Int), (bn : Int), vv⟩ v = opK o x y := by
      rw [mkK_op h1]
      show opK o (v.getD ((an : Int)).toNat 0) (v.getD ((bn : Int)).toNat 0) = _
      rw [Int.toNat_natCast, Int.toNat_natCast, getD_at hx, getD_at hy]
    rw [hm]
    have han : an < n := by omega
    have hbn : bn < n := by omega
    have o1 : (o == 1) = false := by simp; omega
    have o2 : (o == 2) = false := by simp; omega
    clear hl hx hy hm
    by_cases hz : o = 5 ∧ (x = 0 ∨ y = 0)
    · have hop : opK o x y = 0 := by unfold opK; rw [if_pos hz]
      rw [hop]
      obtain ⟨rfl, hz⟩ := hz
      clear hop
      have hzz : (x == 0) = true ∨ ((x == 0) = false ∧ (y == 0) = true) := by
        by_cases h : x = 0
        · exact .inl (by simp [h])
        · exact .inr ⟨by simp [h], by simp; omega⟩
      clear hz
      rcases hzz with f1 | ⟨f1, f2⟩
      all_goals
        go_enter Try.func40, Try.ntmps40
        go_wp2
        go_quiet (fail)
        go_wp2
        go_ret
        exact ⟨rfl, below_drewNI (by go_grown) _⟩
    · have hg : (o == 5) = false ∨ ((o == 5) = true ∧ (x == 0) = false ∧ (y == 0) = false) := by
        by_cases h : o = 5
        · exact .inr ⟨by simp [h], by simp; omega, by simp; omega⟩
        · exact .inl (by simp [h])
      by_cases hv : x = -1 ∨ y = -1
      · have hop : opK o x y = -1 := by unfold opK; rw [if_neg hz, if_pos hv]
        rw [hop]
        have hvv : (x == -1) = true ∨ ((x == -1) = false ∧ (y == -1) = true) := by
          by_cases h : x = -1
          · exact .inl (by simp [h])
          · exact .inr ⟨by simp [h], by simp; omega⟩
        clear hop hz hv
        rcases hg with g1 | ⟨g1, g2, g3⟩ <;> rcases hvv with f1 | ⟨f1, f2⟩
        all_goals
          go_enter Try.func40, Try.ntmps40
          go_wp2
          go_quiet (fail)
          go_wp2
          go_ret
          exact ⟨rfl, below_drewNI (by go_grown) _⟩
      · have hop : opK o x y = opv o x y := by unfold opK; rw [if_neg hz, if_neg hv]
        rw [hop]
        have f1 : (x == -1) = false := by simp; omega
        have f2 : (y == -1) = false := by simp; omega
        have b1 : 0 ≤ x := by omega
        have b2 : 0 ≤ y := by omega
        clear hop hz hv
        rcases hg with g1 | ⟨g1, g2, g3⟩
        all_goals
          go_enter Try.func40, Try.ntmps40
          go_wp2
          go_quiet (fail)
          go_wp2_with (go_at_call 46; (with_reducible refine (apply_any o x y _ (by omega) (by omega) (by omega) (by omega)).mono ?_); rintro e w5 ⟨rfl, rfl⟩)
          go_ret
          exact ⟨rfl, below_drewNI (by go_grown) _⟩

set_option maxHeartbeats 4000000 in
theorem mergeK_any (h n c c2 base : Nat) (VA : Option Addr) (r v : List Int) (w : World) (ho : w.ownsRow base 3 1 (.slice (some ⟨h, 0, none⟩) n c) n (iv r)) (hv : RdI w w.heap.size VA v) (hne : ∀ ad, VA = some ad → ad.block ≠ h) (hr : r.length = n) (hvl : v.length = n) (hn : n ≤ 65536) :
    Calls Try.prog 49 #[.slice (some ⟨h, 0, none⟩) n c, .slice VA n c2] w fun e w' => e = .returned (.bool (decide (joinL r v ≠ r))) ∧ w'.ownsRow base 3 1 (.slice (some ⟨h, 0, none⟩) n c) n (iv (joinL r v)) ∧ Wrote h w w' := by
  have HR := Lib.hid hr
  have HVL := Lib.hid hvl
  have HNE := Lib.hid hne
  have HM0 := Lib.hid (MgTo.start r v)
  have hW0 : Wrote h w w := Wrote.of_below (Below.refl _ _)
  clear hr hvl hne
  go_enter Try.func49, Try.ntmps49
  go_wp2
  go_loopw [5, 9] (fun z5 z9 wr => ∃ (k : Nat) (q : List Int) (ch : Bool), k ≤ n ∧ z9 = .int .i64 k ∧ z5 = .bool ch ∧ MgTo r v k q ch ∧ wr.ownsRow base 3 1 (.slice (some ⟨h, 0, none⟩) n c) n (iv q) ∧ RdI wr wr.heap.size VA v ∧ Wrote h w wr) (fun _ z9 _ => n - (intOf z9).toNat)
  case atStart => exact ⟨0, r, false, Nat.zero_le _, rfl, rfl, HM0.out, ho, hv, hW0⟩
  case round =>
    obtain ⟨k, q, ch, hk, rfl, rfl, hmg, hown, hrd, hwr⟩ := hrel
    have HMG := Lib.hid hmg
    have HOW := Lib.hid hown
    have HRD := Lib.hid hrd
    have hql : q.length = n := by rw [hmg.jt.len, HR.out]
    have HQL := Lib.hid hql
    clear hmg hql
    by_cases hlt : k < n
    · obtain ⟨ad, y, rfl, hbl, hdy, hcy⟩ := hrd.at_ (k := k) (by rw [HVL.out]; exact hlt)
      obtain ⟨x, hx⟩ : ∃ x, q[k]? = some x := ⟨_, List.getElem?_eq_getElem (by rw [HQL.out]; exact hlt)⟩
      have hcx := (hown.cellAt k (by omega)).trans (iv_at hx)
      have hfx := hown.frozenAt k
      have hgx : q.getD k 0 = x := getD_at hx
      have hgy : v.getD k 0 = y := getD_at hdy
      have hhl := (hown.lt h rfl).2
      by_cases h1 : x = -1
      · have HNX := Lib.hid (HMG.out.same (.inl (by rw [hgx, h1])))
        have f1 : (x != -1) = false := by simp [h1]
        clear hx hdy hgx hgy hown hrd h1
        go_wp2
        go_quiet (fail)
        go_wp2
        go_round
        case rel => exact ⟨k + 1, q, ch, by omega, by go_num, rfl, HNX.out, own_below HOW.out (below_drewNI (Below.refl _ _) _), HRD.out, hwr.andThen (below_drewNI (Below.refl _ _) _)⟩
        case measure => (simp [intOf]; omega)
      · have f1 : (x != -1) = true := by simp [h1]
        by_cases h2 : x = y
        · have HNX := Lib.hid (HMG.out.same (.inr (by rw [hgx, hgy, h2])))
          have f2 : (x != y) = false := by simp [h2]
          clear hx hdy hgx hgy hown hrd h1 h2
          go_wp2
          go_quiet (fail)
          go_wp2
          go_round
          case rel => exact ⟨k + 1, q, ch, by omega, by go_num, rfl, HNX.out, own_below HOW.out (below_drewNI (Below.refl _ _) _), HRD.out, hwr.andThen (below_drewNI (Below.refl _ _) _)⟩
          case measure => (simp [intOf]; omega)
        · have HNX := Lib.hid (HMG.out.diff (by rw [HR.out]; exact hlt) (by rw [hgx]; exact h1) (by rw [hgx, hgy]; exact h2))
          have f2 : (x != y) = true := by simp [h2]
          have HST : Hid (∀ Z : World, Below wr.heap.size wr Z → (Z.setCell ⟨h, k, none⟩ (.int .i64 (-1))).ownsRow base 3 1 (.slice (some ⟨h, 0, none⟩) n c) n (iv (q.set k (-1)))) := Lib.hid fun Z hZ => by
            have := ((own_below HOW.out hZ).stored k (.int .i64 (-1))).1
            rwa [iv_set] at this
          clear hx hdy hgx hgy hown hrd h1 h2
          go_wp2
          go_quiet (fail)
          go_wp2
          go_round
          case rel => exact ⟨k + 1, q.set k (-1), true, by omega, by go_num, rfl, HNX.out, HST.out _ (below_drewNI (Below.refl _ _) _), RdI.other (w := wr.drewN _) HRD.out (fun a ha => by injection ha with ha; subst ha; exact HNE.out _ rfl), (hwr.andThen (below_drewNI (Below.refl _ _) _)).set rfl _⟩
          case measure => (simp [intOf]; omega)
    · have hd := HMG.out.done (by rw [HR.out]; omega) (by rw [HR.out]; omega)
      have HE1 := Lib.hid hd.1
      have HE2 := Lib.hid hd.2
      clear hd
      go_wp2
      go_ret
      exact ⟨ret_bool HE2.out, by rw [← HE1.out]; exact hown, hwr⟩

end Go.Proofs.Ytdckagledddkdaa
