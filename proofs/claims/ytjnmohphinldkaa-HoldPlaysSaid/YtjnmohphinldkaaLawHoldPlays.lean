/-
  For any things asked for, any places and any that are to go, hold.Play returns how many misses there are, or the error (P1).
-/
import Derived.Test.YtjnmohphinldkaaLawHold
import Derived.Test.YtjnmohphinldkaaHold
import Derived.Test.YtjnmohphinldkaaHasC
namespace Go.Proofs.Ytjnmohphinldkaa
open Go.RowKit Go.ChangeShapes Go.WideShapes Go.ChangeAt Go.Deep
set_option linter.unusedSimpArgs false
set_option linter.unusedVariables false
set_option maxRecDepth 100000

theorem own_weak {w : World} {base base' : Nat} {e : TypeId} {size : Nat} {v : Value} {n : Nat} {xs : List Value} (h : w.ownsRow base e size v n xs) (hb : base' ≤ base) : w.ownsRow base' e size v n xs := by
  refine ⟨h.1, ?_⟩
  rcases h.2 with h' | ⟨g, cap, cur, h1, h2, h3⟩
  · exact .inl h'
  · exact .inr ⟨g, cap, cur, h1, Nat.le_trans hb h2, h3⟩

theorem missR_two (R : Option Nat) : ∃ z1 z2 : Int, missR R = .tuple #[.int .i64 z1, .int .i64 z2] ∧ (R = none → z1 = 0 ∧ z2 = 5) ∧ ∀ q, R = some q → z1 = q ∧ z2 = 0 := by
  cases R with
  | none => exact ⟨0, 5, rfl, fun _ => ⟨rfl, rfl⟩, fun q h => by cases h⟩
  | some q => exact ⟨q, 0, rfl, (fun h => by cases h), fun q' h => by injection h with h; subst h; exact ⟨rfl, rfl⟩⟩

theorem playG_in {p q : Nat} {c o rs : List Int} {r : Int} (h : r ∈ c) : playG p c o q (r :: rs) = playG p c o q rs := by rw [playG_cons, if_pos h]

theorem playG_room {p q : Nat} {c o rs : List Int} {r : Int} (h : r ∉ c) (hl : c.length ≠ p) : playG p c o q (r :: rs) = playG p (c ++ [r]) o (q + 1) rs := by rw [playG_cons, if_neg h, if_neg hl]

theorem playG_short {p q : Nat} {c rs : List Int} {r : Int} (h : r ∉ c) (hl : c.length = p) : playG p c [] q (r :: rs) = none := by rw [playG_cons, if_neg h, if_pos hl]

theorem playG_wrong {p q : Nat} {c o rs : List Int} {r x : Int} (h : r ∉ c) (hl : c.length = p) (hx : x ∉ c) : playG p c (x :: o) q (r :: rs) = none := by
  rw [playG_cons, if_neg h, if_pos hl]
  exact if_neg hx

theorem playG_right {p q : Nat} {c o rs : List Int} {r x : Int} (h : r ∉ c) (hl : c.length = p) (hx : x ∈ c) (hd : c.Nodup) : playG p c (x :: o) q (r :: rs) = playG p ((c.filter fun y => decide (y ≠ x)) ++ [r]) o (q + 1) rs := by
  rw [playG_cons, if_neg h, if_pos hl]
  have : (c.filter fun y => decide (y ≠ x)) = c.erase x := by
    rw [List.Nodup.erase_eq_filter hd]
    apply List.filter_congr
    intro y _
    by_cases e : y = x <;> simp [e, bne]
  rw [this]
  exact if_pos hx

set_option maxHeartbeats 8000000 in
theorem lawHoldPlays_any (Y : PlayIs) (A : Option Addr) (cap : Nat) (refs : List Int) (p : Int) (A2 : Option Addr) (cap2 : Nat) (out : List Int) (w : World) (hx : RdI w w.heap.size A refs) (hlc : refs.length ≤ cap) (hcm : cap ≤ maxLen)
    (hx2 : RdI w w.heap.size A2 out) (hlc2 : out.length ≤ cap2) (hcm2 : cap2 ≤ maxLen) :
    Calls Try.prog 6 #[.slice A refs.length cap, .int .i64 p, .slice A2 out.length cap2] w fun e w' => e = .returned (.bool true) ∧ Below w.heap.size w w' := by
  have HX2 := Lib.hid hx2
  obtain ⟨len, hl⟩ : ∃ len, refs.length = len := ⟨_, rfl⟩
  obtain ⟨len2, hl2⟩ : ∃ len2, out.length = len2 := ⟨_, rfl⟩
  have HL := Lib.hid hl
  have HL2 := Lib.hid hl2
  have HM2 : Hid (len2 ≤ maxLen) := Lib.hid (by omega)
  rw [hl] at hlc ⊢
  rw [hl2] at hlc2 ⊢
  have HX := Lib.hid hx
  have hmx : len ≤ maxLen := by omega
  have hcm3 : cap2 ≤ 9223372036854775807 := by unfold maxLen at hcm2; omega
  clear hl hl2 hx2 hx hcm2
  rcases hbad_or len p with hb | ⟨hm, m, rfl, h1, h8⟩
  · have HB := Lib.hid hb
    clear hb
    go_enter Try.func6, Try.ntmps6
    go_wp2_with fail
    refine (Y.bad A len cap p A2 len2 cap2 _ hmx HB.out).mono ?_
    rintro e w1 ⟨rfl, hb1⟩
    go_wp2_with fail
    refine (holdCode_bad A len cap p _ hmx HB.out).mono ?_
    rintro e w2 ⟨rfl, rfl⟩
    go_wp2
    go_ret
    exact ⟨rfl, hb1⟩
  · have HH1 := Lib.hid h1
    have HY := Lib.hid (Y.ok A len cap m refs A2 len2 cap2 out w HX.out HL.out HX2.out HL2.out HM2.out hm h1 h8)
    obtain ⟨R, hR⟩ : ∃ R, playG m [] out 0 refs = R := ⟨_, rfl⟩
    have HR := Lib.hid hR
    rw [hR] at HY
    obtain ⟨z1, z2, hz, hzn, hzs⟩ := missR_two R
    rw [hz] at HY
    have HZN := Lib.hid hzn
    have HZS := Lib.hid hzs
    clear hR hz hzn hzs
    go_enter Try.func6, Try.ntmps6
    go_wp2_with fail
    refine HY.out.mono ?_
    rintro e w1 ⟨rfl, hb1⟩
    go_wp2_with fail
    refine (holdCode_ok A len cap m _ hm h1 h8).mono ?_
    rintro e w2 ⟨rfl, rfl⟩
    have hs1 := hb1.size
    go_wp2
    go_loopw [2, 10, 11, 38] (fun o s c i wr => ∃ (A1 : Option Addr) (c1 n k q : Nat) (C : List Int) (Ao : Option Addr) (lo co : Nat) (O : List Int), k ≤ len ∧ i = .int .i64 k ∧ c = .int .i64 q ∧ s = .slice A1 n c1 ∧ o = .slice Ao lo co ∧ lo ≤ co ∧ co ≤ cap2 ∧ n ≤ m ∧ q ≤ k ∧ Hid (C.length = n) ∧ Hid (O.length = lo) ∧ Hid C.Nodup ∧ Hid (RdI w w.heap.size Ao O) ∧ Hid (playG m C O q (refs.drop k) = R) ∧
      wr.ownsRow w.heap.size 3 1 (.slice A1 n c1) n (iv C) ∧ Below w.heap.size w wr) (fun _ _ _ i _ => len - (intOf i).toNat)
    case atStart => exact ⟨none, 0, 0, 0, 0, [], A2, len2, cap2, out, Nat.zero_le _, rfl, rfl, rfl, rfl, hlc2, Nat.le_refl _, Nat.zero_le _, Nat.le_refl _, Lib.hid rfl, HL2, Lib.hid List.nodup_nil, HX2, Lib.hid (by rw [List.drop_zero]; exact HR.out), World.ownsRow_nil _ _ _ _, hb1⟩
    case round =>
      obtain ⟨A1, c1, n, k, q, C, Ao, lo, co, O, hk, rfl, rfl, rfl, rfl, hloc, hcoc, hnm, hqk, HCL, HOL, HND, HXO, HG, hown, hb⟩ := hrel
      have hsz := hb.size
      by_cases hlt : k < len
      · obtain ⟨ad, r, rfl, hbl, hd, hcell⟩ := (HX.out.below hb (Nat.le_refl _)).at_ (k := k) (by rw [HL.out]; exact hlt)
        have HDR := Lib.hid (drop_ref hd)
        have HH := Lib.hid (refHas_any A1 n c1 C r _ wr (own_rdI hown HCL.out) HCL.out (by unfold maxLen; omega))
        clear hd
        by_cases hr : r ∈ C
        · rw [decide_eq_true hr] at HH
          have HG2 : Hid (playG m C O q (refs.drop (k + 1)) = R) := Lib.hid (by rw [← HG.out, HDR.out, playG_in hr])
          clear hr
          go_wp2_with (go_at_call 18; (with_reducible refine HH.out.mono ?_); rintro e w1 ⟨rfl, rfl⟩)
          go_round
          case rel => exact ⟨A1, c1, n, k + 1, q, C, Ao, lo, co, O, by omega, by go_num, rfl, rfl, rfl, hloc, hcoc, hnm, by omega, HCL, HOL, HND, HXO, HG2, hown, hb⟩
          case measure => (simp [intOf]; omega)
        · rw [decide_eq_false hr] at HH
          have HRN := Lib.hid hr
          clear hr
          by_cases hnp : n = m
          · have hbe : ((n : Int) == (m : Int)) = true := by simp [hnp]
            subst hnp
            by_cases hlo : lo = 0
            · subst hlo
              have hO0 : O = [] := List.length_eq_zero_iff.1 HOL.out
              have hz := HZN.out (by rw [← HG.out, HDR.out, hO0]; exact playG_short HRN.out HCL.out)
              obtain ⟨rfl, rfl⟩ := hz
              clear hO0
              go_wp2_with (go_at_call 18; (with_reducible refine HH.out.mono ?_); rintro e w1 ⟨rfl, rfl⟩)
              go_ret
              exact ⟨ret_bool (by simp), hb⟩
            · have hlo2 : ((lo : Int) == 0) = false := by simp; omega
              obtain ⟨ad2, x, rfl, hbl2, hdx, hcx⟩ := (HXO.out.below hb (Nat.le_refl _)).at_ (k := 0) (by rw [HOL.out]; omega)
              have hcx0 : wr.cell? ad2 = some (.int .i64 x) := hcx
              have HO1 : Hid (O = x :: O.drop 1) := Lib.hid (by have := drop_ref hdx; rwa [List.drop_zero] at this)
              have HHX := Lib.hid (refHas_any A1 n c1 C x _ wr (own_rdI hown HCL.out) HCL.out (by unfold maxLen; omega))
              have hlp : 0 < lo := by omega
              clear hdx
              by_cases hxc : x ∈ C
              · rw [decide_eq_true hxc] at HHX
                have HG2 : Hid (playG n ((C.filter fun y => decide (y ≠ x)) ++ [r]) (O.drop 1) (q + 1) (refs.drop (k + 1)) = R) := Lib.hid (by rw [← HG.out, HDR.out, HO1.out]; exact (playG_right HRN.out HCL.out hxc HND.out).symm)
                have HFL : Hid ((C.filter fun y => decide (y ≠ x)).length < n) := Lib.hid (by
                  rw [← HCL.out]
                  exact List.length_filter_lt_length_iff_exists.2 ⟨x, hxc, by simp⟩)
                have HND2 : Hid ((C.filter fun y => decide (y ≠ x)) ++ [r]).Nodup := Lib.hid (perm_nodup (snoc_perm _ _) (List.nodup_cons.2 ⟨fun h => HRN.out (List.mem_filter.1 h).1, HND.out.sublist List.filter_sublist⟩))
                clear hxc
                obtain ⟨wo, rfl⟩ : ∃ wo : World, wo = wr := ⟨_, rfl⟩
                go_wp2_with (first | (go_at_call 18; (with_reducible refine HH.out.mono ?_); rintro e w1 ⟨rfl, rfl⟩) | (go_at_call 18; (with_reducible refine HHX.out.mono ?_); rintro e w1 ⟨rfl, rfl⟩))
                go_loopw [14, 70] (fun s i wr => ∃ (A3 : Option Addr) (c3 t j : Nat), j ≤ n ∧ i = .int .i64 j ∧ s = .slice A3 t c3 ∧ t ≤ j ∧ Hid (((C.take j).filter fun y => decide (y ≠ x)).length = t) ∧ wr.ownsRow wo.heap.size 3 1 (.slice A3 t c3) t (iv ((C.take j).filter fun y => decide (y ≠ x))) ∧ Below wo.heap.size wo wr) (fun _ i _ => n - (intOf i).toNat)
                case atStart => exact ⟨none, 0, 0, 0, Nat.zero_le _, rfl, rfl, Nat.le_refl _, Lib.hid rfl, World.ownsRow_nil _ _ _ _, Below.refl _ _⟩
                case round =>
                  obtain ⟨A3, c3, t, j, hj, rfl, rfl, htj, HTL, hown3, hb3⟩ := hrel
                  have hsz3 := hb3.size
                  have hcx3 : wr.cell? ad2 = some (.int .i64 x) := by
                    have hbb : ad2.block < w.heap.size := by rw [← addr_add_block ad2 0]; exact hbl2
                    exact (hb3.cell (by omega)).trans hcx0
                  by_cases hjn : j < n
                  · obtain ⟨ad4, y, rfl, hbl4, hy, hc4⟩ := (((own_rdI hown HCL.out).below hb3 (Nat.le_refl _)).more hsz3).at_ (k := j) (by rw [HCL.out]; exact hjn)
                    have htk : C.take (j + 1) = C.take j ++ [y] := by rw [List.take_add_one, hy]; rfl
                    by_cases hyx : y = x
                    · have hbx : (y != x) = false := by simp [hyx]
                      have hbx2 : (y == x) = true := by simp [hyx]
                      have HF2 : Hid ((C.take (j + 1)).filter (fun y => decide (y ≠ x)) = (C.take j).filter fun y => decide (y ≠ x)) := Lib.hid (by rw [htk, List.filter_append]; simp [hyx])
                      clear hy htk hyx
                      go_wp2
                      go_round
                      case rel => exact ⟨A3, c3, t, j + 1, by omega, by go_num, rfl, by omega, Lib.hid (by rw [HF2.out]; exact HTL.out), by rw [HF2.out]; exact hown3, hb3⟩
                      case measure => (simp [intOf]; omega)
                    · have hbx : (y != x) = true := by simp [hyx]
                      have hbx2 : (y == x) = false := by simp [hyx]
                      have HF2 : Hid ((C.take (j + 1)).filter (fun y => decide (y ≠ x)) = ((C.take j).filter fun y => decide (y ≠ x)) ++ [y]) := Lib.hid (by rw [htk, List.filter_append]; simp [hyx])
                      have h63 : t + 1 ≤ maxLen := by unfold maxLen; omega
                      have hbg : (t + 1) * 8 ≤ 140737488355328 := by omega
                      clear hy htk hyx
                      go_wp2_with (at_builtin; refine wpList_app' rfl (.tmp 79) (.tmp 81) 22 rfl wo.heap.size 3 1 8 int_app (iv ((C.take j).filter fun y => decide (y ≠ x))) rfl (own_below hown3 (by go_grown)) [.int .i64 y] rfl rfl (fun h => by cases h) (cells_at (by simp) _ _) (one_cell _) h63 hbg (by simp; omega) ?_; intro A5 c5 w5 hown5 hg5 hb5 hk5)
                      go_round
                      case rel => exact ⟨A5, c5, t + 1, j + 1, by omega, by go_num, rfl, by omega, Lib.hid (by rw [HF2.out, List.length_append, HTL.out]; rfl), by rw [HF2.out, iv_append]; exact hown5, hb3.trans ((by go_grown : Below wo.heap.size wr _).trans hb5)⟩
                      case measure => (simp [intOf]; omega)
                  · have hjn2 : j = n := by omega
                    subst hjn2
                    have HTK : Hid (C.take j = C) := Lib.hid (List.take_of_length_le (by rw [HCL.out]; exact Nat.le_refl _))
                    rw [HTK.out] at HTL hown3
                    have htn : t < j := by have := HFL.out; rw [HTL.out] at this; exact this
                    have hown4 := own_weak hown3 hsz
                    have hbw : Below w.heap.size w wr := hb.trans (hb3.mono hsz)
                    have hszw := hbw.size
                    have h63 : t + 1 ≤ maxLen := by unfold maxLen; omega
                    have hbg : (t + 1) * 8 ≤ 140737488355328 := by omega
                    have HOL2 : Hid ((O.drop 1).length = lo - 1) := Lib.hid (by rw [List.length_drop, HOL.out])
                    by_cases hco : co = 1
                    · have hl1 : lo = 1 := by omega
                      subst hco hl1
                      have HX3 : Hid (RdI w w.heap.size (some ad2) (O.drop 1)) := Lib.hid fun h => by rw [HOL2.out] at h; omega
                      go_wp2_with (at_builtin; refine wpList_app' rfl (.tmp 87) (.tmp 89) 22 rfl w.heap.size 3 1 8 int_app (iv (C.filter fun y => decide (y ≠ x))) rfl (own_below hown4 (by go_grown)) [.int .i64 r] rfl rfl (fun h => by cases h) (cells_at (by simp) _ _) (one_cell _) h63 hbg (by simp; omega) ?_; intro A5 c5 w5 hown5 hg5 hb5 hk5)
                      go_round
                      case rel => exact ⟨A5, c5, t + 1, k + 1, q + 1, (C.filter fun y => decide (y ≠ x)) ++ [r], some ad2, 0, 0, O.drop 1, by omega, by go_num, by go_num, rfl, rfl, Nat.le_refl _, Nat.zero_le _, by omega, by omega, Lib.hid (by rw [List.length_append, HTL.out]; rfl), HOL2, HND2, HX3, HG2, by rw [iv_append]; exact hown5, hbw.trans ((by go_grown : Below w.heap.size wr _).trans hb5)⟩
                      case measure => (simp [intOf]; omega)
                    · have HX3 : Hid (RdI w w.heap.size (some (ad2.add 1)) (O.drop 1)) := Lib.hid (by
                        by_cases h2 : 1 < lo
                        · have hrd := HXO.out
                          intro hp
                          obtain ⟨ad', e, hb', hc'⟩ := hrd (by rw [HOL.out]; omega)
                          injection e with e
                          subst e
                          refine ⟨_, rfl, by rw [addr_add_block]; exact hb', fun j hj => ?_⟩
                          rw [List.length_drop] at hj
                          rw [addr_add_add, hc' (1 + j) (by omega)]
                          simp [ic, List.getD_eq_getElem?_getD, List.getElem?_drop, Nat.add_comm]
                        · intro h
                          rw [HOL2.out] at h
                          omega)
                      go_wp2_with (at_builtin; refine wpList_app' rfl (.tmp 87) (.tmp 89) 22 rfl w.heap.size 3 1 8 int_app (iv (C.filter fun y => decide (y ≠ x))) rfl (own_below hown4 (by go_grown)) [.int .i64 r] rfl rfl (fun h => by cases h) (cells_at (by simp) _ _) (one_cell _) h63 hbg (by simp; omega) ?_; intro A5 c5 w5 hown5 hg5 hb5 hk5)
                      go_round
                      case rel => exact ⟨A5, c5, t + 1, k + 1, q + 1, (C.filter fun y => decide (y ≠ x)) ++ [r], some (ad2.add 1), lo - 1, co - 1, O.drop 1, by omega, by go_num, by go_num, rfl, rfl, by omega, by omega, by omega, by omega, Lib.hid (by rw [List.length_append, HTL.out]; rfl), HOL2, HND2, HX3, HG2, by rw [iv_append]; exact hown5, hbw.trans ((by go_grown : Below w.heap.size wr _).trans hb5)⟩
                      case measure => (simp [intOf]; omega)
              · rw [decide_eq_false hxc] at HHX
                have hz := HZN.out (by rw [← HG.out, HDR.out, HO1.out]; exact playG_wrong HRN.out HCL.out hxc)
                obtain ⟨rfl, rfl⟩ := hz
                clear hxc
                go_wp2_with (first | (go_at_call 18; (with_reducible refine HH.out.mono ?_); rintro e w1 ⟨rfl, rfl⟩) | (go_at_call 18; (with_reducible refine HHX.out.mono ?_); rintro e w1 ⟨rfl, rfl⟩))
                go_ret
                exact ⟨ret_bool (by simp), hb⟩
          · have hbe : ((n : Int) == (m : Int)) = false := by simp; omega
            have HG2 : Hid (playG m (C ++ [r]) O (q + 1) (refs.drop (k + 1)) = R) := Lib.hid (by rw [← HG.out, HDR.out, playG_room HRN.out (by rw [HCL.out]; exact hnp)])
            have HND2 : Hid (C ++ [r]).Nodup := Lib.hid (perm_nodup (snoc_perm _ _) (List.nodup_cons.2 ⟨HRN.out, HND.out⟩))
            have h63 : n + 1 ≤ maxLen := by unfold maxLen; omega
            have hbg : (n + 1) * 8 ≤ 140737488355328 := by omega
            go_wp2_with (first | (go_at_call 18; (with_reducible refine HH.out.mono ?_); rintro e w1 ⟨rfl, rfl⟩) | (at_builtin; refine wpList_app' rfl (.tmp 87) (.tmp 89) 22 rfl w.heap.size 3 1 8 int_app (iv C) rfl (own_below hown (by go_grown)) [.int .i64 r] rfl rfl (fun h => by cases h) (cells_at (by simp) _ _) (one_cell _) h63 hbg (by simp; omega) ?_; intro A5 c5 w5 hown5 hg5 hb5 hk5))
            go_round
            case rel => exact ⟨A5, c5, n + 1, k + 1, q + 1, C ++ [r], Ao, lo, co, O, by omega, by go_num, by go_num, rfl, rfl, hloc, hcoc, by omega, by omega, Lib.hid (by rw [List.length_append, HCL.out]; rfl), HOL, HND2, HXO, HG2, by rw [iv_append]; exact hown5, hb.trans ((by go_grown : Below w.heap.size wr _).trans hb5)⟩
            case measure => (simp [intOf]; omega)
      · have hkn : k = len := by omega
        subst hkn
        have hz := HZS.out q (by rw [← HG.out, ← HL.out, List.drop_length]; rfl)
        obtain ⟨rfl, rfl⟩ := hz
        go_wp2
        go_ret
        exact ⟨ret_bool (by simp), hb⟩

set_option maxRecDepth 100000 in
theorem lawHoldPlays_lifted (os : Os) (started : os.Started) (H : Type) (enc : TypeId × Value → H) :
    ReturnsInHanded {} Try.checked os 6 .any (Rows.holdPlaysSpec.pre6 enc Try.prog Try.f6 Rows.holdPlaysRow.domain false) (Rows.holdPlaysSpec.post enc Try.prog Try.f6 false true false false) := by
  refine returnsInHanded_of_change_sized (C := Try.checked) Try.own started (by kernel_rfl) Try.func6
    (ChangeSpec.witness6 (enc := enc) (C := Try.checked) false ⟨#[], #[.slice none 0 0, .int .i64 0, .slice none 0 0], []⟩ 8 (by kernel_rfl) (by kernel_rfl) (by kernel_rfl) (by kernel_rfl)) ?_
  intro W base args ds gs before hval0 hW hcnd hsz _
  have hval : ∀ (j : Nat) t v, Try.f6.params[j]? = some t → args[j]? = some v → Value.okWide Try.prog W .any base t v := hval0
  have hW' := hW
  obtain ⟨p, q, hA0, hV, rfl, hfz, hnd⟩ := hW
  have hA : DataW.TrodAll enc Try.prog W 0 (fun _ => true) true Try.f6.params.toList args.toList ds p := hA0
  obtain ⟨hgs, _⟩ := trodVars_none hV
  rw [Try.params6] at hA hval
  obtain ⟨v0, vs0, d0, ds0, p0, q0, hargs, rfl, rfl, h0, r0⟩ := trodAll_cons hA
  obtain ⟨v1, vs1, d1, ds1, p1, q1, rfl, rfl, rfl, h1, r1⟩ := trodAll_cons r0
  obtain ⟨v2, vs2, d2, ds2, p2, q2, rfl, rfl, rfl, h2, r2⟩ := trodAll_cons r1
  obtain ⟨rfl, rfl, rfl⟩ := trodAll_nil r2
  have hargs2 : args = #[v0, v1, v2] := Array.toList_inj.1 hargs
  subst hargs2
  obtain ⟨A0, c0, l0, rfl, lc0, cm0, x0, r0⟩ := open_intsA (hval 0 22 v0 rfl rfl) h0
  have b0 := len_reach Try.underlying22 (hval 0 22 _ rfl rfl) h0 hsz (j := 0) (by rw [Try.params6]; rfl) rfl
  rw [show Try.prog.bytesOf (Try.prog.elem 22) = 8 from by kernel_rfl] at b0
  obtain ⟨a1, rfl, _, _, w1⟩ := open_int Try.underlying3 (hval 1 3 v1 rfl rfl) h1
  obtain ⟨A2, c2, l2, rfl, lc2, cm2, x2, r2⟩ := open_intsA (hval 2 22 v2 rfl rfl) h2
  have b2 := len_reach Try.underlying22 (hval 2 22 _ rfl rfl) h2 hsz (j := 2) (by rw [Try.params6]; rfl) rfl
  rw [show Try.prog.bytesOf (Try.prog.elem 22) = 8 from by kernel_rfl] at b2
  refine (lawHoldPlays_any playIs A0 c0 l0 a1 A2 c2 l2 _ x0 lc0 cm0 x2 lc2 cm2).mono fun e W' ⟨he, hb⟩ => ?_
  subst he
  exact ⟨_, rfl, law_post Try.laidOut rfl (by kernel_rfl) Try.underlying4 ⟨rfl, rfl, rfl⟩ (by kernel_rfl) hW' hb⟩

theorem holdPlays_holds : Rows.HoldPlaysSaid :=
  OpenClaim.holds_of_wide 6 Try.f6 rfl rfl rfl rfl rfl rfl rfl ⟨rfl, rfl, rfl, rfl, rfl⟩ rfl rfl rfl rfl rfl (by kernel_rfl) Try.func6 (show joinedFacts Try.prog 6 Try.f6 Rows.holdPlaysSpec Rows.holdPlaysRow = true from (by unfold joinedFacts; (repeat' (with_reducible refine and_both ?_ ?_)) <;> first | (with_reducible exact may_enter) | ((with_reducible refine make_ok ?_); rfl) | ((with_reducible refine lifts_ok ?_); rfl) | kernel_rfl))
    (of_decide_eq_true (by kernel_rfl)) (by unfold Func.isWrapper; rw [if_neg (of_decide_eq_false (by kernel_rfl))]; exact ⟨rfl, rfl⟩)
    (fun os started H enc _ => lawHoldPlays_lifted os started H enc)

end Go.Proofs.Ytjnmohphinldkaa
