/-
  codemasonref.same, Firsts: first numbers (D1).
-/
import Derived.Test.YtacokdghfkpdpaaPureValue
import Derived.Test.YtacokdghfkpdpaaInts
import Derived.Test.YtacokdghfkpdpaaRec
import Derived.BigRegion
import Derived.Deep.RegionHeld3
namespace Go.Proofs.Ytacokdghfkpdpaa
open Go.RowKit
set_option linter.unusedSimpArgs false
set_option linter.unusedVariables false
set_option maxRecDepth 100000

set_option maxHeartbeats 8000000 in
theorem same_any (lA fA : Option Addr) (ln lc fn fc : Nat) (fs : List Nat) (o a b v o' a' b' v' : Int) (w : World) (hf : RdI w w.heap.size fA (ni fs)) (hl : fs.length = fn) (ho : 3 ≤ o → 0 ≤ a ∧ a < fn ∧ 0 ≤ b ∧ b < fn) (ho' : 3 ≤ o' → 0 ≤ a' ∧ a' < fn ∧ 0 ≤ b' ∧ b' < fn) :
    Calls Try.prog 34 #[.slice lA ln lc, .slice fA fn fc, .agg #[.int .i64 o, .int .i64 a, .int .i64 b, .int .i64 v], .agg #[.int .i64 o', .int .i64 a', .int .i64 b', .int .i64 v']] w fun e w' => e = .returned (.bool (sameB fs ⟨o, a, b, v⟩ ⟨o', a', b', v'⟩)) ∧ Below w.heap.size w w' := by
  by_cases h1 : o = o'
  · subst h1
    by_cases h2 : o < 3
    · have hr : sameB fs ⟨o, a, b, v⟩ ⟨o, a', b', v'⟩ = (v == v') := by
        unfold sameB
        rw [if_neg (by simp), if_pos h2]
        simp only []
        rw [Bool.eq_iff_iff]; simp
      rw [hr]
      clear hr ho ho' hf hl
      go_enter Try.func34, Try.ntmps34
      go_wp2
      go_ret
      exact ⟨rfl, by go_grown⟩
    · obtain ⟨a0, a1, b0, b1⟩ := ho (by omega)
      obtain ⟨a0', a1', b0', b1'⟩ := ho' (by omega)
      obtain ⟨an, rfl⟩ := Int.eq_ofNat_of_zero_le a0
      obtain ⟨bn, rfl⟩ := Int.eq_ofNat_of_zero_le b0
      obtain ⟨cn, rfl⟩ := Int.eq_ofNat_of_zero_le a0'
      obtain ⟨dn, rfl⟩ := Int.eq_ofNat_of_zero_le b0'
      have g : ∀ x : Nat, x < fn → (ni fs)[x]? = some ((fg fs (x : Int) : Nat) : Int) := by
        intro x hx
        have := List.getElem?_eq_getElem (show x < fs.length by omega)
        rw [ni_at this]
        unfold fg
        rw [Int.toNat_natCast, List.getD_eq_getElem?_getD, this]
        rfl
      have han : an < fn := by omega
      have hbn : bn < fn := by omega
      have hcn : cn < fn := by omega
      have hdn : dn < fn := by omega
      obtain ⟨ad, x1, rfl, m1, y1, z1⟩ := hf.at_ (k := an) (by simp [ni]; omega)
      obtain ⟨ad2, x2, hA2, m2, y2, z2⟩ := hf.at_ (k := bn) (by simp [ni]; omega)
      obtain ⟨ad3, x3, hA3, m3, y3, z3⟩ := hf.at_ (k := cn) (by simp [ni]; omega)
      obtain ⟨ad4, x4, hA4, m4, y4, z4⟩ := hf.at_ (k := dn) (by simp [ni]; omega)
      injection hA2 with hA2
      injection hA3 with hA3
      injection hA4 with hA4
      subst hA2 hA3 hA4
      rw [g an han] at y1
      rw [g bn hbn] at y2
      rw [g cn hcn] at y3
      rw [g dn hdn] at y4
      injection y1 with y1
      injection y2 with y2
      injection y3 with y3
      injection y4 with y4
      subst y1 y2 y3 y4
      have hr : sameB fs ⟨o, an, bn, v⟩ ⟨o, cn, dn, v'⟩ = decide ((fg fs (an : Int) = fg fs (cn : Int) ∧ fg fs (bn : Int) = fg fs (dn : Int)) ∨ (fg fs (an : Int) = fg fs (dn : Int) ∧ fg fs (bn : Int) = fg fs (cn : Int)) ∧ (o = 3 ∨ o = 5)) := by
        unfold sameB
        rw [if_neg (by simp), if_neg h2]
      rw [hr]
      have n1 : (ad.add an).block < w.heap.size + 1 := by omega
      have n2 : (ad.add bn).block < w.heap.size + 1 := by omega
      have n3 : (ad.add cn).block < w.heap.size + 1 := by omega
      have n4 : (ad.add dn).block < w.heap.size + 1 := by omega
      have q1 : (ad.add an).block < w.heap.size + 1 + 1 := by omega
      have q2 : (ad.add bn).block < w.heap.size + 1 + 1 := by omega
      have q3 : (ad.add cn).block < w.heap.size + 1 + 1 := by omega
      have q4 : (ad.add dn).block < w.heap.size + 1 + 1 := by omega
      have hlt : ¬ o < 3 := h2
      clear hr ho ho' hf hl g
      generalize fg fs (an : Int) = p at *
      generalize fg fs (bn : Int) = q at *
      generalize fg fs (cn : Int) = p' at *
      generalize fg fs (dn : Int) = q' at *
      have t1 : ((p : Int) == (p' : Int)) = decide (p = p') := by rw [Bool.eq_iff_iff]; simp; omega
      have t2 : ((q : Int) == (q' : Int)) = decide (q = q') := by rw [Bool.eq_iff_iff]; simp; omega
      have t3 : ((p : Int) == (q' : Int)) = decide (p = q') := by rw [Bool.eq_iff_iff]; simp; omega
      have t4 : ((q : Int) == (p' : Int)) = decide (q = p') := by rw [Bool.eq_iff_iff]; simp; omega
      have hd : decide ((p = p' ∧ q = q') ∨ (p = q' ∧ q = p') ∧ (o = 3 ∨ o = 5)) = ((decide (p = p') && decide (q = q')) || ((decide (p = q') && decide (q = p')) && (o == 3 || o == 5))) := by
        rw [Bool.eq_iff_iff]
        simp
      have HD := Lib.hid hd
      clear hd
      generalize decide (p = p') = f1 at *
      generalize decide (q = q') = f2 at *
      generalize decide (p = q') = f3 at *
      generalize decide (q = p') = f4 at *
      cases f1 <;> cases f3
      all_goals
        go_enter Try.func34, Try.ntmps34
        go_wp2
        go_region
        all_goals go_wp2
        go_region
        all_goals go_wp2
        all_goals
          go_ret
          refine ⟨ret_bool ?_, by go_grown⟩
          rw [HD.out]
          cases f2 <;> cases f4 <;> first
            | contradiction
            | rfl
            | (exfalso; apply (‹¬ true = true› : ¬ true = true); rfl)
            | (rw [Bool.eq_iff_iff]; simp only [Bool.false_and, Bool.true_and, Bool.false_or, Bool.or_false, Bool.and_false, Bool.and_true, Bool.or_eq_true, beq_iff_eq, Bool.false_eq_true, true_iff, false_iff, Bool.true_or, iff_self]; first | done | omega)
  · have hr : sameB fs ⟨o, a, b, v⟩ ⟨o', a', b', v'⟩ = false := by unfold sameB; rw [if_pos h1]
    have hne : (o != o') = true := by simp [h1]
    rw [hr]
    clear hr ho ho' hf hl
    go_enter Try.func34, Try.ntmps34
    go_wp2
    go_ret
    exact ⟨rfl, by go_grown⟩

theorem dnF_step {d : List Tm} {fs : List Nat} {t u : Tm} {k m : Nat} (hl : d.length = k) (h : d[k - 1 - m]? = some u) : dnF d fs t (m + 1) = if sameB fs t u = true then k - 1 - m else dnF d fs t m := by
  subst hl
  rw [dnF, List.getD_eq_getElem?_getD, h, Option.getD_some]

/-- first numbers on the way -/
def FsAt (l : List Tm) (k : Nat) (fs : List Nat) : Prop := fs.length = k ∧ fsL l = fsG (l.drop k) (l.take k) fs

theorem FsAt.len {l : List Tm} {k : Nat} {fs : List Nat} (h : FsAt l k fs) : fs.length = k := h.1

theorem FsAt.step {l : List Tm} {k : Nat} {fs : List Nat} {t : Tm} {f : Nat} (h : FsAt l k fs) (ht : l[k]? = some t) (hf : f = dnF (l.take k) fs t k) : FsAt l (k + 1) (fs ++ [f]) := by
  obtain ⟨h1, h2⟩ := h
  have hk := (List.getElem?_eq_some_iff.1 ht).1
  refine ⟨by simp [h1], ?_⟩
  have e : l[k] = t := (List.getElem?_eq_some_iff.1 ht).2
  have e2 : (l.take k).length = k := by simp; omega
  have e3 : l.take (k + 1) = l.take k ++ [t] := by rw [List.take_succ_eq_append_getElem hk, e]
  rw [h2, drop_at ht, fsG, e2, e3, hf]

theorem FsAt.done {l : List Tm} {fs : List Nat} (h : FsAt l l.length fs) : fs = fsL l := by
  rw [h.2, List.drop_of_length_le (Nat.le_refl _)]
  rfl

set_option maxHeartbeats 8000000 in
theorem firsts_any (vars : Int) (A : Option Addr) (len cap : Nat) (l : List Tm) (w : World) (hx : RdT w w.heap.size A l) (hl : l.length = len) (hc : ckTerms vars l = 0) :
    Calls Try.prog 22 #[.slice A len cap] w fun e w' => ∃ A' c', e = .returned (.slice A' len c') ∧ RdI w' w'.heap.size A' (ni (fsL l)) ∧ Below w.heap.size w w' := by
  obtain ⟨_, _, b3, b4⟩ := ckTerms_bd hc
  have HL := Lib.hid hl
  have HC := Lib.hid hc
  rw [hl] at b3 b4
  clear hl hc
  go_enter Try.func22, Try.ntmps22
  go_wp2
  go_loopw [3, 10] (fun sv i wr => ∃ (k : Nat) (fs : List Nat) (FA : Option Addr) (fc : Nat), k ≤ len ∧ i = .int .i64 k ∧ sv = .slice FA k fc ∧ Hid (FsAt l k fs) ∧ wr.ownsRow w.heap.size 3 1 (.slice FA k fc) k (iv (ni fs)) ∧ Below w.heap.size w wr) (fun _ i _ => len - (intOf i).toNat)
  case atStart => exact ⟨0, [], none, 0, Nat.zero_le _, rfl, rfl, Lib.hid ⟨rfl, rfl⟩, World.ownsRow_nil _ _ _ _, Below.refl _ _⟩
  case round =>
    obtain ⟨k, fs, FA, fc, hk, rfl, rfl, HF, hown, hb⟩ := hrel
    have hsz := hb.size
    by_cases hlt : k < len
    · obtain ⟨ad, o, a, b, v, rfl, hbl, hd, hc0, hc1, hc2, hc3⟩ := (hx.below hb (Nat.le_refl _)).at_ (k := k) (by rw [HL.out]; exact hlt)
      have hcase := ckTerms_cases HC.out hd
      have HD := Lib.hid hd
      have hxw := (hx.below hb (Nat.le_refl _)).more hsz
      have hfr := own_rdI hown (by simp [ni]; exact HF.out.len)
      have hO1 : Hid (3 ≤ o → 0 ≤ a ∧ a < (k : Nat) ∧ 0 ≤ b ∧ b < (k : Nat)) := Lib.hid (by omega)
      have h63 : k + 1 ≤ maxLen := by unfold maxLen; omega
      have hbig : (k + 1) * 8 ≤ 140737488355328 := by omega
      clear hd
      obtain ⟨wo, rfl⟩ : ∃ wo : World, wo = wr := ⟨_, rfl⟩
      go_wp2
      go_loopw [6, 7] (fun f j wi => ∃ m : Nat, m ≤ k ∧ j = .int .i64 ((k : Int) - 1 - m) ∧ f = .int .i64 (dnF (l.take k) fs ⟨o, a, b, v⟩ m : Nat) ∧ Below wo.heap.size wo wi ∧ wo.heap.size < wi.heap.size ∧ wi.cell? ⟨wo.heap.size, 0, none⟩ = some (.int .i64 o) ∧ wi.cell? ⟨wo.heap.size, 1, none⟩ = some (.int .i64 a) ∧ wi.cell? ⟨wo.heap.size, 2, none⟩ = some (.int .i64 b) ∧ wi.cell? ⟨wo.heap.size, 3, none⟩ = some (.int .i64 v)) (fun _ j _ => (intOf j + 1).toNat)
      case atStart =>
        have hlk : (l.take k).length = k := by rw [List.length_take, HL.out]; omega
        refine ⟨0, Nat.zero_le _, ?_, ?_, by go_grown, by simp, by simp, by simp, by simp, by simp⟩
        · refine congrArg (Value.int .i64) ?_; omega
        · rw [dnF, hlk]
      case round =>
        obtain ⟨m, hm, rfl, rfl, hbi, hszi, d0, d1, d2, d3⟩ := hrel
        obtain ⟨wi, rfl⟩ : ∃ wi : World, wi = wr := ⟨_, rfl⟩
        by_cases hmk : m < k
        · obtain ⟨jn, hjn⟩ : ∃ jn : Nat, (k : Int) - 1 - m = jn := ⟨k - 1 - m, by omega⟩
          have hjk : jn < k := by omega
          have hjl : jn < len := by omega
          obtain ⟨ad', o', a', b', v', had, hbl', hd', e0, e1, e2, e3⟩ := (hxw.below hbi (Nat.le_refl _)).at_ (k := jn) (by rw [HL.out]; exact hjl)
          injection had with had
          subst had
          have hcase' := ckTerms_cases HC.out hd'
          have hO2 : Hid (3 ≤ o' → 0 ≤ a' ∧ a' < (k : Nat) ∧ 0 ≤ b' ∧ b' < (k : Nat)) := Lib.hid (by omega)
          have hlk : (l.take k).length = k := by rw [List.length_take, HL.out]; omega
          have hst := dnF_step (d := l.take k) (fs := fs) (t := ⟨o, a, b, v⟩) (u := ⟨o', a', b', v'⟩) (k := k) (m := m) hlk (by rw [show k - 1 - m = jn from by omega, List.getElem?_take, if_pos hjk]; exact hd')
          rw [show k - 1 - m = jn from by omega] at hst
          have HST := Lib.hid hst
          have hblw : (ad.add (jn * 4)).block < wi.heap.size := by omega
          have HK : Hid (∀ Z : World, Below wi.heap.size wi Z → Z.cell? ⟨wo.heap.size, 0, none⟩ = some (.int .i64 o) ∧ Z.cell? ⟨wo.heap.size, 1, none⟩ = some (.int .i64 a) ∧ Z.cell? ⟨wo.heap.size, 2, none⟩ = some (.int .i64 b) ∧ Z.cell? ⟨wo.heap.size, 3, none⟩ = some (.int .i64 v) ∧ Z.cell? (ad.add (jn * 4)) = some (.int .i64 o') ∧ Z.cell? ⟨(ad.add (jn * 4)).block, (ad.add (jn * 4)).off + 1, none⟩ = some (.int .i64 a') ∧ Z.cell? ⟨(ad.add (jn * 4)).block, (ad.add (jn * 4)).off + 2, none⟩ = some (.int .i64 b') ∧ Z.cell? ⟨(ad.add (jn * 4)).block, (ad.add (jn * 4)).off + 3, none⟩ = some (.int .i64 v')) :=
            Lib.hid fun Z hZ => ⟨(hZ.cell hszi).trans d0, (hZ.cell hszi).trans d1, (hZ.cell hszi).trans d2, (hZ.cell hszi).trans d3, (hZ.cell hblw).trans e0, (hZ.cell (p := ⟨(ad.add (jn * 4)).block, (ad.add (jn * 4)).off + 1, none⟩) hblw).trans e1, (hZ.cell (p := ⟨(ad.add (jn * 4)).block, (ad.add (jn * 4)).off + 2, none⟩) hblw).trans e2, (hZ.cell (p := ⟨(ad.add (jn * 4)).block, (ad.add (jn * 4)).off + 3, none⟩) hblw).trans e3⟩
          have hfi := (hfr.below hbi (Nat.le_refl _)).more hbi.size
          have HRI : Hid (∀ Z : World, Below wi.heap.size wi Z → RdI Z Z.heap.size FA (ni fs)) := Lib.hid fun Z hZ => (hfi.below hZ (Nat.le_refl _)).more hZ.size
          obtain ⟨sb, hsb⟩ : ∃ sb, sameB fs ⟨o, a, b, v⟩ ⟨o', a', b', v'⟩ = sb := ⟨_, rfl⟩
          have HSB := Lib.hid hsb
          clear hst hsb hcase hcase' hd' e0 e1 e2 e3 hc0 hc1 hc2 hc3 hfi
          rw [hjn]
          cases sb
          all_goals
            go_wp2
            go_region_held3 (fun Z => Z.cell? ⟨wo.heap.size, 0, none⟩ = some (.int .i64 o) ∧ Z.cell? ⟨wo.heap.size, 1, none⟩ = some (.int .i64 a) ∧ Z.cell? ⟨wo.heap.size, 2, none⟩ = some (.int .i64 b) ∧ Z.cell? ⟨wo.heap.size, 3, none⟩ = some (.int .i64 v) ∧ Z.cell? (ad.add (jn * 4)) = some (.int .i64 o') ∧ Z.cell? ⟨(ad.add (jn * 4)).block, (ad.add (jn * 4)).off + 1, none⟩ = some (.int .i64 a') ∧ Z.cell? ⟨(ad.add (jn * 4)).block, (ad.add (jn * 4)).off + 2, none⟩ = some (.int .i64 b') ∧ Z.cell? ⟨(ad.add (jn * 4)).block, (ad.add (jn * 4)).off + 3, none⟩ = some (.int .i64 v'))
              (first | (with_reducible exact HK.out _ (Below.drew (Below.refl _ _))) | (with_reducible exact HK.out _ hbA))
              (first
                | (go_at_call 34; (with_reducible refine (same_any (some ad) FA len cap k fc fs o a b v o' a' b' v' _ (HRI.out _ (Below.drew (Below.refl _ _))) HF.out.len hO1.out hO2.out).mono ?_); rw [HSB.out]; rintro e w1 ⟨rfl, hb1⟩; have hbA : Below wi.heap.size wi w1 := below_via (by go_grown) hb1; have hsA := hbA.size))
            all_goals
              go_wp2
              go_round
              case rel =>
                obtain ⟨q0, q1, q2, q3, _⟩ := HK.out _ hbA
                refine ⟨m + 1, by omega, ?_, ?_, (hbi.trans (hbA.mono hbi.size)), by omega, q0, q1, q2, q3⟩
                · first | (go_num; done) | (refine congrArg (Value.int .i64) ?_; omega)
                · rw [HST.out, HSB.out]; first | done | rfl
              case measure => first | (simp [intOf]; omega) | (simp [intOf]; done)
        · have hmm : m = k := by omega
          subst hmm
          have hjm : (m : Int) - 1 - m = -1 := by omega
          rw [hjm]
          obtain ⟨fn, hfn⟩ : ∃ fn, dnF (l.take m) fs ⟨o, a, b, v⟩ m = fn := ⟨_, rfl⟩
          have HFN := Lib.hid hfn
          rw [hfn]
          have howni := own_below hown hbi
          have hsi := hbi.size
          clear hfn
          go_wp2_with (at_builtin; refine wpList_app rfl (.tmp 31) (.tmp 33) 23 rfl w.heap.size 3 1 8 int_app (iv (ni fs)) rfl (own_below howni (by go_grown)) [.int .i64 (fn : Int)] rfl rfl (fun h => by cases h) (cells_at (by simp) _ _) (one_cell _) h63 hbig (by simp; omega) ?_; intro A4 c4 w4 hown4 hg4 hb4)
          go_round
          case rel =>
            refine ⟨m + 1, fs ++ [fn], A4, c4, by omega, by go_num, rfl, Lib.hid (HF.out.step HD.out HFN.out.symm), by rw [ni_append, iv_append]; exact hown4, ?_⟩
            exact ((hb.trans (hbi.mono hsz)).trans (by go_grown : Below w.heap.size wi _)).trans hb4
          case measure => (simp [intOf]; omega)
    · have hkl : k = len := by omega
      subst hkl
      have hq := HF.out
      rw [← HL.out] at hq
      have HM := Lib.hid hq.done
      go_wp2
      go_ret
      exact ⟨FA, fc, rfl, by rw [← HM.out]; exact own_rdI hown (by simp [ni]; exact HF.out.len), hb⟩

end Go.Proofs.Ytacokdghfkpdpaa
