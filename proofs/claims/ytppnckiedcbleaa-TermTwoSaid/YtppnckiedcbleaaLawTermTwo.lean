/-
  The value of a combination of two lists is the operation on their values: codemasonkeep.TermTwo returns true for all arguments and leaves them alone. No condition.
-/
import Derived.Test.YtppnckiedcbleaaTermValue
import Derived.Test.YtppnckiedcbleaaApp
import Derived.Test.YtppnckiedcbleaaLaw
namespace Go.Proofs.Ytppnckiedcbleaa
open Go.RowKit Go.ChangeShapes Go.WideShapes Go.ChangeAt Go.Deep
set_option linter.unusedSimpArgs false
set_option linter.unusedVariables false
set_option maxRecDepth 100000

theorem term_app : AppTy Try.prog 22 37 4 32 :=
  appTy_of (z := .agg #[.int .i64 0, .int .i64 0, .int .i64 0, .int .i64 0]) Try.underlying22 (by kernel_rfl) rfl (by omega)

/-- the first two lists side by side, as far as it goes -/
def twoK (la lb : List Tm) (k : Nat) : List Tm := la ++ (lb.take k).map (shT la.length)

theorem twoK_len (la lb : List Tm) {k : Nat} (hk : k ≤ lb.length) : (twoK la lb k).length = la.length + k := by simp [twoK]; omega

theorem twoK_step {la lb : List Tm} {k : Nat} {t t' : Tm} (h : lb[k]? = some t) (ht : t' = shT la.length t) : tv (twoK la lb k) ++ [.int .i64 t'.op, .int .i64 t'.a, .int .i64 t'.b, .int .i64 t'.v] = tv (twoK la lb (k + 1)) := by
  have e : twoK la lb (k + 1) = twoK la lb k ++ [t'] := by
    unfold twoK
    rw [List.take_add_one, h]
    simp [ht]
  rw [e, tv_append]
  rfl

theorem twoK_end {la lb : List Tm} {op : Int} {n m : Nat} (hn : la.length = n) (hm : lb.length = m) : tv (twoK la lb m) ++ [.int .i64 op, .int .i64 ((n : Int) - 1), .int .i64 ((n : Int) + m - 1), .int .i64 0] = tv (twoT la lb op) := by
  subst hn hm
  unfold twoT twoK
  rw [List.take_length, tv_append (la ++ _)]
  rfl

theorem twoT_len (la lb : List Tm) (op : Int) : (twoT la lb op).length = la.length + lb.length + 1 := by simp [twoT]; omega

theorem shT_in {n : Int} {o a b v : Int} (h1 : 3 ≤ o) (h2 : o ≤ 6) : (⟨o, a + n, b + n, v⟩ : Tm) = shT n ⟨o, a, b, v⟩ := by unfold shT; rw [if_pos ⟨h1, h2⟩]

theorem shT_out {n : Int} {o a b v : Int} (h : o < 3 ∨ 6 < o) : (⟨o, a, b, v⟩ : Tm) = shT n ⟨o, a, b, v⟩ := by unfold shT; rw [if_neg (by simp only []; omega)]

set_option maxHeartbeats 8000000 in
theorem lawTermTwo_any (vars op : Int) (A B HA : Option Addr) (ca cb hcap : Nat) (la lb : List Tm) (xs : List Int) (w : World) (hxa : RdT w w.heap.size A la) (hxb : RdT w w.heap.size B lb) (hh : RdI w w.heap.size HA xs) (hhm : xs.length ≤ maxLen)
    (hra : la.length * 32 ≤ 140737488351232) (hrb : lb.length * 32 ≤ 140737488351232) :
    Calls Try.prog 9 #[.int .i64 vars, .slice A la.length ca, .slice B lb.length cb, .int .i64 op, .slice HA xs.length hcap] w fun e w' => e = .returned (.bool true) ∧ Below w.heap.size w w' := by
  generalize hna : la.length = na at *
  generalize hnb : lb.length = nb at *
  have HNA := Lib.hid hna
  have HNB := Lib.hid hnb
  clear hna hnb
  by_cases hbad : na = 0 ∨ nb = 0 ∨ 16 ≤ na + nb
  · have HV := Lib.hid (show (ckVal vars [] xs != 0) = true by unfold ckVal ckTerms; simp)
    clear hxa hxb
    by_cases k1 : na = 0
    · subst k1
      go_enter Try.func9, Try.ntmps9
      go_wp2_with fail
      refine (value_any vars none HA 0 0 _ hcap [] xs _ (fun h => by simp at h) hh rfl rfl hhm).mono ?_
      rintro e w1 ⟨rfl, hb1⟩
      go_wp2_with fail
      go_ret
      exact ⟨ret_bool HV.out, hb1⟩
    · have e1 : ((na : Int) == 0) = false := by simp; omega
      by_cases k2 : nb = 0
      · subst k2
        clear k1 hbad
        go_enter Try.func9, Try.ntmps9
        go_wp2_with fail
        refine (value_any vars none HA 0 0 _ hcap [] xs _ (fun h => by simp at h) hh rfl rfl hhm).mono ?_
        rintro e w1 ⟨rfl, hb1⟩
        go_wp2_with fail
        go_ret
        exact ⟨ret_bool HV.out, hb1⟩
      · have e2 : ((nb : Int) == 0) = false := by simp; omega
        have k3 : 16 ≤ na + nb := by omega
        have e3 : (16 : Int) ≤ (na : Int) + nb := by omega
        clear k1 k2 hbad
        go_enter Try.func9, Try.ntmps9
        go_wp2_with fail
        refine (value_any vars none HA 0 0 _ hcap [] xs _ (fun h => by simp at h) hh rfl rfl hhm).mono ?_
        rintro e w1 ⟨rfl, hb1⟩
        go_wp2_with fail
        go_ret
        exact ⟨ret_bool HV.out, hb1⟩
  · have h1 : ((na : Int) == 0) = false := by simp; omega
    have h2 : ((nb : Int) == 0) = false := by simp; omega
    have h3 : na + nb < 16 := by omega
    have h3' : (na : Int) + nb < 16 := by omega
    have h4 : 0 < na := by omega
    have h5 : 0 < nb := by omega
    clear hbad
    have hl1 : (tv la).length = na * 4 := by rw [tv_len, HNA.out]
    have hn1 : A = none → na = 0 := fun h => by have := hxa.nil h; rw [HNA.out] at this; exact this
    have hs1 : na ≤ maxLen := by unfold maxLen; omega
    have HL1 := Lib.hid hl1
    have HN1 := Lib.hid hn1
    clear hl1 hn1
    have hbig : (0 + na) * 32 ≤ 140737488355328 := by omega
    have hmx : 0 + na ≤ maxLen := by omega
    have hsw : w.heap.size ≤ (w.alloc (.cells #[] 37)).heap.size := by simp
    have HNW := Lib.hid ((hxa.below ((Below.refl w.heap.size w).alloc (Nat.le_refl _) (.cells #[] 37)) (Nat.le_refl _)).news)
    go_enter Try.func9, Try.ntmps9
    go_wp2_with (at_builtin; refine wpList_app rfl (.tmp 46) (.tmp 47) 22 rfl w.heap.size 37 4 32 term_app [] rfl (World.ownsRow_made w #[] 0 (Nat.le_refl _) (Nat.zero_le _) rfl) (tv la) rfl HL1.out HN1.out HNW.out (tv_one _) hmx hbig hsw ?_; intro A1 c1 w1 hown1 hg1 hb1)
    rw [Nat.zero_add, List.nil_append] at hown1
    go_loopw [13, 51] (fun s i wr => ∃ (k : Nat) (A2 : Option Addr) (c2 : Nat), k ≤ nb ∧ i = .int .i64 k ∧ s = .slice A2 (na + k) c2 ∧ wr.ownsRow w.heap.size 37 4 (.slice A2 (na + k) c2) (na + k) (tv (twoK la lb k)) ∧ Below w.heap.size w wr) (fun _ i _ => nb - (intOf i).toNat)
    case atStart => exact ⟨0, A1, c1, Nat.zero_le _, rfl, rfl, by simpa [twoK] using hown1, ((Below.refl _ _).alloc (Nat.le_refl _) _).trans hb1⟩
    case round =>
      obtain ⟨k, A2, c2, hk, rfl, rfl, hown, hb⟩ := hrel
      clear hown1 hg1 hb1
      by_cases hlt : k < nb
      · obtain ⟨ad, o, a, b, v, rfl, hbl, hd, hc0, hc1, hc2, hc3⟩ := ((hxb.below hb (Nat.le_refl _)).more hb.size).at_ (k := k) (by rw [HNB.out]; exact hlt)
        have HD := Lib.hid hd
        clear hd
        have hsz := hb.size
        have hmx2 : na + k + 1 ≤ maxLen := by unfold maxLen; omega
        have hbig2 : (na + k + 1) * 32 ≤ 140737488355328 := by omega
        by_cases ho : 3 ≤ o ∧ o ≤ 6
        · obtain ⟨ho1, ho2⟩ := ho
          by_cases hin : 0 ≤ a ∧ a < nb ∧ 0 ≤ b ∧ b < nb
          · obtain ⟨i1, i2, i3, i4⟩ := hin
            go_wp2_with (first
              | (go_at_call 37; (with_reducible refine (inside2_any _ a b _ _ _ ?_ ?_).mono ?_); (· (simp; done)); (· (simp; done)); rintro e w2 ⟨rfl, rfl⟩)
              | (at_builtin; refine wpList_app rfl (.tmp 84) (.tmp 86) 22 rfl w.heap.size 37 4 32 term_app _ rfl (own_below hown (by go_grown)) [.int .i64 o, .int .i64 (a + na), .int .i64 (b + na), .int .i64 v] rfl rfl (fun h => by cases h) (cells_at (by simp) _ _) (tv1_one _ _ _ _) hmx2 hbig2 (by simp; omega) ?_; intro A3 c3 w3 hown3 hg3 hb3))
            go_round
            case rel => exact ⟨k + 1, A3, c3, by omega, by go_num, rfl, by rw [← twoK_step (t' := ⟨o, a + na, b + na, v⟩) HD.out (by rw [HNA.out]; exact shT_in ho1 ho2)]; exact hown3, (by go_grown : Below w.heap.size w _).trans hb3⟩
            case measure => (simp [intOf]; omega)
          · have hin' : decide (0 ≤ a ∧ a < nb ∧ 0 ≤ b ∧ b < nb) = false := by simp only [decide_eq_false_iff_not]; exact hin
            clear hin
            go_wp2_with (first
              | (go_at_call 37; (with_reducible refine (inside2_any _ a b _ _ _ ?_ ?_).mono ?_); (· (simp; done)); (· (simp; done)); rintro e w2 ⟨rfl, rfl⟩))
            all_goals (go_ret; exact ⟨rfl, by go_grown⟩)
        · rcases (show o < 3 ∨ 6 < o by omega) with ho1 | ho1
          all_goals
            clear ho
            go_wp2_with (at_builtin; refine wpList_app rfl (.tmp 84) (.tmp 86) 22 rfl w.heap.size 37 4 32 term_app _ rfl (own_below hown (by go_grown)) [.int .i64 o, .int .i64 a, .int .i64 b, .int .i64 v] rfl rfl (fun h => by cases h) (cells_at (by simp) _ _) (tv1_one _ _ _ _) hmx2 hbig2 (by simp; omega) ?_; intro A3 c3 w3 hown3 hg3 hb3)
            go_round
            case rel => exact ⟨k + 1, A3, c3, by omega, by go_num, rfl, by rw [← twoK_step (t' := ⟨o, a, b, v⟩) HD.out (shT_out (by omega))]; exact hown3, (by go_grown : Below w.heap.size w _).trans hb3⟩
            case measure => (simp [intOf]; omega)
      · have hkn : k = nb := by omega
        subst hkn
        have hmx2 : na + k + 1 ≤ maxLen := by unfold maxLen; omega
        have hbig2 : (na + k + 1) * 32 ≤ 140737488355328 := by omega
        have hsz := hb.size
        clear hlt hk
        go_wp2_with (at_builtin; refine wpList_app rfl (.tmp 89) (.tmp 98) 22 rfl w.heap.size 37 4 32 term_app _ rfl (own_below hown (by go_grown)) [.int .i64 op, .int .i64 ((na : Int) - 1), .int .i64 ((na : Int) + k - 1), .int .i64 0] rfl rfl (fun h => by cases h) (cells_at (by simp) _ _) (tv1_one _ _ _ _) hmx2 hbig2 (by simp; omega) ?_; intro A3 c3 w3 hown3 hg3 hb3; clear hown)
        rw [twoK_end HNA.out HNB.out] at hown3
        have hbw := (by go_grown : Below w.heap.size w _).trans hb3
        clear hb3 hg3 hsz hb
        have hx3 := own_rdT hown3 (by rw [twoT_len, HNA.out, HNB.out])
        refine (value_any vars A HA na ca xs.length hcap la xs _ ((hxa.below hbw (Nat.le_refl _)).more hbw.size) ((hh.below hbw (Nat.le_refl _)).more hbw.size) HNA.out rfl hhm).mono ?_
        rintro e w4 ⟨rfl, hb4⟩
        have hbw4 := hbw.trans (hb4.mono hbw.size)
        go_wp2_with fail
        refine (value_any vars B HA k cb xs.length hcap lb xs _ ((hxb.below hbw4 (Nat.le_refl _)).more hbw4.size) ((hh.below hbw4 (Nat.le_refl _)).more hbw4.size) HNB.out rfl hhm).mono ?_
        rintro e w5 ⟨rfl, hb5⟩
        have hbw5 := hbw4.trans (hb5.mono hbw4.size)
        have hx5 := ((hx3.below (hb4.trans (hb5.mono hb4.size)) (Nat.le_refl _)).more (hb4.trans (hb5.mono hb4.size)).size)
        go_wp2_with fail
        refine (value_any vars A3 HA (na + k + 1) c3 xs.length hcap (twoT la lb op) xs _ hx5 ((hh.below hbw5 (Nat.le_refl _)).more hbw5.size) (by rw [twoT_len, HNA.out, HNB.out]) rfl hhm).mono ?_
        rintro e w6 ⟨rfl, hb6⟩
        have hbw6 := hbw5.trans (hb6.mono hbw5.size)
        clear hx3 hx5 hown3 hb4 hb5 hb6 hbw hbw4 hbw5
        by_cases eA : ckVal vars la xs = 0
        · by_cases eB : ckVal vars lb xs = 0
          · by_cases eo : 3 ≤ op ∧ op ≤ 6
            · obtain ⟨eo1, eo2⟩ := eo
              have hpA := ckVal_parts eA
              have hpB := ckVal_parts eB
              have hE : ckVal vars (twoT la lb op) xs = 0 := ckVal_of (two_ck hpA.1 hpB.1 eo1 eo2 (by rw [HNA.out, HNB.out]; omega)) hpA.2
              have hR : valR vars (twoT la lb op) xs = opv op (valT la xs) (valT lb xs) := by unfold valR; rw [if_pos hE]; exact two_val hpA.1 hpB.1 eo1
              have hRA : valR vars la xs = valT la xs := by unfold valR; rw [if_pos eA]
              have hRB : valR vars lb xs = valT lb xs := by unfold valR; rw [if_pos eB]
              have bA := valT_bd eA
              have bB := valT_bd eB
              rw [hE, hR, hRA, hRB, eA, eB]
              clear hE hR hRA hRB hpA hpB eA eB
              go_wp2_with (go_at_call 38; (with_reducible refine (refOp_any _ _ _ _ bA.1 bA.2 bB.1 bB.2 eo1 eo2).mono ?_); rintro e w7 ⟨rfl, rfl⟩)
              go_ret
              exact ⟨ret_bool (by simp), hbw6⟩
            · rw [eA, eB]
              clear eA eB
              rcases (show op < 3 ∨ 6 < op by omega) with ho1 | ho1
              all_goals
                clear eo
                go_wp2_with fail
                go_ret
                exact ⟨rfl, hbw6⟩
          · have e2 : (ckVal vars lb xs != 0) = true := by simp [eB]
            rw [eA]
            clear eA eB
            go_wp2_with fail
            go_ret
            exact ⟨rfl, hbw6⟩
        · have e1 : (ckVal vars la xs != 0) = true := by simp [eA]
          clear eA
          go_wp2_with fail
          go_ret
          exact ⟨rfl, hbw6⟩

set_option maxRecDepth 100000 in
theorem lawTermTwo_lifted (os : Os) (started : os.Started) (H : Type) (enc : TypeId × Value → H) :
    ReturnsInHanded {} Try.checked os 9 .any (Rows.termTwoSpec.pre6 enc Try.prog Try.f9 Rows.termTwoRow.domain false) (Rows.termTwoSpec.post enc Try.prog Try.f9 false true false false) := by
  refine returnsInHanded_of_change_sized (C := Try.checked) Try.own started (by kernel_rfl) Try.func9
    (ChangeSpec.witness6 (enc := enc) (C := Try.checked) false ⟨#[], #[.int .i64 0, .slice none 0 0, .slice none 0 0, .int .i64 0, .slice none 0 0], []⟩ 8 (by kernel_rfl) (by kernel_rfl) (by kernel_rfl) (by kernel_rfl)) ?_
  intro W base args ds gs before hval0 hW hcnd hsz _
  have hval : ∀ (j : Nat) t v, Try.f9.params[j]? = some t → args[j]? = some v → Value.okWide Try.prog W .any base t v := hval0
  have hW' := hW
  obtain ⟨p, q, hA0, hV, rfl, hfz, hnd⟩ := hW
  have hA : DataW.TrodAll enc Try.prog W 0 (fun _ => true) true Try.f9.params.toList args.toList ds p := hA0
  obtain ⟨hgs, _⟩ := trodVars_none hV
  rw [Try.params9] at hA hval
  obtain ⟨v0, vs0, d0, ds0, p0, q0, hargs, rfl, rfl, h0, r0⟩ := trodAll_cons hA
  obtain ⟨v1, vs1, d1, ds1, p1, q1, rfl, rfl, rfl, h1, r1⟩ := trodAll_cons r0
  obtain ⟨v2, vs2, d2, ds2, p2, q2, rfl, rfl, rfl, h2, r2⟩ := trodAll_cons r1
  obtain ⟨v3, vs3, d3, ds3, p3, q3, rfl, rfl, rfl, h3, r3⟩ := trodAll_cons r2
  obtain ⟨v4, vs4, d4, ds4, p4, q4, rfl, rfl, rfl, h4, r4⟩ := trodAll_cons r3
  obtain ⟨rfl, rfl, rfl⟩ := trodAll_nil r4
  have hargs2 : args = #[v0, v1, v2, v3, v4] := Array.toList_inj.1 hargs
  subst hargs2
  obtain ⟨a0, rfl, _, _, w0⟩ := open_int Try.underlying3 (hval 0 3 v0 rfl rfl) h0
  obtain ⟨A1, c1, l1, rfl, lc1, cm1, x1, r1⟩ := open_termsA (hval 1 22 v1 rfl rfl) h1
  have b1 := len_reach Try.underlying22 (hval 1 22 _ rfl rfl) h1 hsz (j := 1) (by rw [Try.params9]; rfl) rfl
  rw [show Try.prog.bytesOf (Try.prog.elem 22) = 32 from by kernel_rfl] at b1
  obtain ⟨A2, c2, l2, rfl, lc2, cm2, x2, r2⟩ := open_termsA (hval 2 22 v2 rfl rfl) h2
  have b2 := len_reach Try.underlying22 (hval 2 22 _ rfl rfl) h2 hsz (j := 2) (by rw [Try.params9]; rfl) rfl
  rw [show Try.prog.bytesOf (Try.prog.elem 22) = 32 from by kernel_rfl] at b2
  obtain ⟨a3, rfl, _, _, w3⟩ := open_int Try.underlying3 (hval 3 3 v3 rfl rfl) h3
  obtain ⟨A4, c4, l4, rfl, lc4, cm4, x4, r4⟩ := open_intsA (hval 4 26 v4 rfl rfl) h4
  have b4 := len_reach Try.underlying26 (hval 4 26 _ rfl rfl) h4 hsz (j := 4) (by rw [Try.params9]; rfl) rfl
  rw [show Try.prog.bytesOf (Try.prog.elem 26) = 8 from by kernel_rfl] at b4
  refine (lawTermTwo_any a0 a3 A1 A2 A4 c1 c2 c4 l1 l2 l4 W x1 x2 x4 (by omega) (by omega) (by omega)).mono fun e W' ⟨he, hb⟩ => ?_
  subst he
  exact ⟨_, rfl, law_post Try.laidOut rfl (by kernel_rfl) Try.underlying4 ⟨rfl, rfl, rfl⟩ (by kernel_rfl) hW' hb⟩

theorem termTwo_holds : Rows.TermTwoSaid :=
  OpenClaim.holds_of_wide 9 Try.f9 rfl rfl rfl rfl rfl rfl rfl ⟨rfl, rfl, rfl, rfl, rfl⟩ rfl rfl rfl rfl rfl (by kernel_rfl) Try.func9 (show joinedFacts Try.prog 9 Try.f9 Rows.termTwoSpec Rows.termTwoRow = true from (by unfold joinedFacts; (repeat' (with_reducible refine and_both ?_ ?_)) <;> first | (with_reducible exact may_enter) | ((with_reducible refine make_ok ?_); rfl) | ((with_reducible refine lifts_ok ?_); rfl) | kernel_rfl))
    (of_decide_eq_true (by kernel_rfl)) (by unfold Func.isWrapper; rw [if_neg (of_decide_eq_false (by kernel_rfl))]; exact ⟨rfl, rfl⟩)
    (fun os started H enc _ => lawTermTwo_lifted os started H enc)

end Go.Proofs.Ytppnckiedcbleaa
