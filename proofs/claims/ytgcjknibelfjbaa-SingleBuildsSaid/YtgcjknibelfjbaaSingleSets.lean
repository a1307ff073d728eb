/-
  codemasonref.setsOf (M3): how often a block sets a name.
-/
import Derived.Test.YtgcjknibelfjbaaSingleOpen
import Derived.Test.YtgcjknibelfjbaaPureNames
import Derived.Test.YtgcjknibelfjbaaMBase
namespace Go.Proofs.Ytgcjknibelfjbaa
open Go.RowKit
set_option linter.unusedSimpArgs false
set_option linter.unusedVariables false
set_option maxRecDepth 100000

theorem setJ_drop {n : Int} {js : List Jn} {k : Nat} {j : Jn} (h : js[k]? = some j) : setJ n (js.drop k) = (if j.to = n then 1 else 0) + setJ n (js.drop (k + 1)) := by
  rw [drop_at h]
  rfl

theorem setC_drop {n : Int} {co : List St} {k q : Nat} {s : St} (h : co[k]? = some s) (hk : k < q) : setC n ((co.take q).drop k) = (if s.to = n then 1 else 0) + setC n ((co.take q).drop (k + 1)) := by
  have h2 : (co.take q)[k]? = some s := by rw [List.getElem?_take, if_pos hk]; exact h
  rw [drop_at h2]
  rfl

theorem setJ_len (n : Int) : ∀ js : List Jn, setJ n js ≤ js.length
  | [] => Nat.le_refl _
  | j :: r => by
    have := setJ_len n r
    simp only [setJ, List.length_cons]
    split <;> omega

theorem setC_len (n : Int) : ∀ co : List St, setC n co ≤ co.length
  | [] => Nat.le_refl _
  | j :: r => by
    have := setC_len n r
    simp only [setC, List.length_cons]
    split <;> omega

theorem setN_len (s : Sg) (n : Int) (k : Nat) : setN s n k ≤ s.joins.length + s.code.length := by
  unfold setN
  have h1 := setJ_len n s.joins
  have h2 := setC_len n (s.code.take k)
  rw [List.length_take] at h2
  omega

set_option maxHeartbeats 8000000 in
theorem setsOf_any (Aj Ac Al : Option Addr) (n2 cj n1 cc n3 cl k : Nat) (js : List Jn) (co : List St) (te th el : Int) (la : List Int) (n : Int) (w : World)
    (hj : RdJ w w.heap.size Aj js) (hc : RdS w w.heap.size Ac co) (hjl : js.length = n2) (hcl : co.length = n1) (b2 : n2 ≤ 64) (b1 : n1 ≤ 20) (hk : k ≤ n1) :
    Calls Try.prog 37 #[.agg #[.slice Aj n2 cj, .slice Ac n1 cc, .int .i64 te, .int .i64 th, .int .i64 el, .slice Al n3 cl], .int .i64 n, .int .i64 k] w fun e w' => ∃ A c, e = .returned (.slice A (setN ⟨js, co, te, th, el, la⟩ n k) c) ∧ Below w.heap.size w w' := by
  have HN1 := Lib.hid hcl
  have HN2 := Lib.hid hjl
  have HRJ := Lib.hid hj
  have HRC := Lib.hid hc
  have HFJ : Hid (js.drop n2 = []) := Lib.hid (List.drop_of_length_le (by rw [hjl]; exact Nat.le_refl _))
  have HFC : Hid ((co.take k).drop k = []) := Lib.hid (List.drop_of_length_le (by rw [List.length_take]; omega))
  obtain ⟨R, hR⟩ : ∃ R, setN ⟨js, co, te, th, el, la⟩ n k = R := ⟨_, rfl⟩
  have HR0 : Hid (R = 0 + setJ n (js.drop 0) + setC n (co.take k)) := Lib.hid (by rw [← hR]; unfold setN; simp)
  rw [hR]
  have hbox := Own.new w 43 [.slice Aj n2 cj, .slice Ac n1 cc, .int .i64 te, .int .i64 th, .int .i64 el, .slice Al n3 cl]
  clear hj hc hjl hcl hR
  go_enter Try.func37, Try.ntmps37
  go_wp2
  go_loopw [7, 14] (fun s7 z wr => ∃ (c m : Nat) (A : Option Addr) (ca : Nat) (xs : List Value), c ≤ n2 ∧ z = .int .i64 c ∧ s7 = .slice A m ca ∧ m ≤ c ∧ R = m + setJ n (js.drop c) + setC n (co.take k) ∧ wr.ownsRow (w.heap.size + 1) 3 1 (.slice A m ca) m xs ∧ Own wr w.heap.size 43 [.slice Aj n2 cj, .slice Ac n1 cc, .int .i64 te, .int .i64 th, .int .i64 el, .slice Al n3 cl] ∧ Below w.heap.size w wr) (fun _ z _ => n2 - (intOf z).toNat)
  case atStart => exact ⟨0, 0, none, 0, [], Nat.zero_le _, rfl, rfl, Nat.le_refl _, HR0.out, World.ownsRow_nil _ _ _ _, hbox, by go_grown⟩
  case round =>
    obtain ⟨c, m, A, ca, xs, hcn, rfl, rfl, hmc, hr, hrow, hbx, hb⟩ := hrel
    have HR := Lib.hid hr
    have HBX := Lib.hid hbx
    have HROW := Lib.hid hrow
    have hsz := hb.size
    have hbl := hbx.lt
    clear hr hbox
    by_cases hlt : c < n2
    · obtain ⟨ad2, ⟨to, fr⟩, Af, cf, rfl, hbl2, hd2, hrf, e0, e1, _⟩ := (HRJ.out.below hb (Nat.le_refl _)).at_ (k := c) (by rw [HN2.out]; exact hlt)
      have HD := Lib.hid (setJ_drop (n := n) hd2)
      simp only [] at e0 e1 HD
      obtain ⟨nr, hnr⟩ : ∃ n, fr.length = n := ⟨_, rfl⟩
      rw [hnr] at e1
      have hbl2r : (ad2.add (c * 2)).block < wr.heap.size := by omega
      clear hd2 hnr hrf hbx hrow
      by_cases htn : to = n
      · have f1 : (to == n) = true := by simp [htn]
        have HE : Hid (R = (m + 1) + setJ n (js.drop (c + 1)) + setC n (co.take k)) := Lib.hid (by rw [HR.out, HD.out, if_pos htn]; omega)
        have h63 : m + 1 ≤ maxLen := by unfold maxLen; omega
        have hbig : (m + 1) * 8 ≤ 140737488355328 := by omega
        clear htn
        go_wp2_with (at_builtin; refine wpList_app rfl (.tmp 22) (.tmp 23) 26 rfl (w.heap.size + 1) 3 1 8 int_app _ rfl (own_below HROW.out (by go_grown)) [.int .i64 (-1)] rfl rfl (fun h => by cases h) (cells_at (by simp) _ _) (one_cell _) h63 hbig (by simp; omega) ?_; intro A5 c5 w5 hown5 hg5 hb5)
        go_round
        case rel => exact ⟨c + 1, m + 1, A5, c5, _, by omega, by go_num, rfl, by omega, HE.out, hown5, HBX.out.below ((by go_grown : Below (w.heap.size + 1) wr _).trans hb5) (Nat.lt_succ_self _), (by go_grown : Below w.heap.size w _).trans (hb5.mono (Nat.le_succ _))⟩
        case measure => (simp [intOf]; omega)
      · have f1 : (to == n) = false := by simp [htn]
        have HE : Hid (R = m + setJ n (js.drop (c + 1)) + setC n (co.take k)) := Lib.hid (by rw [HR.out, HD.out, if_neg htn]; omega)
        clear htn
        go_wp2
        go_round
        case rel => exact ⟨c + 1, m, A, ca, xs, by omega, by go_num, rfl, by omega, HE.out, own_below HROW.out (by go_grown), HBX.out.alloc _, by go_grown⟩
        case measure => (simp [intOf]; omega)
    · have HE : Hid (R = m + setC n ((co.take k).drop 0)) := Lib.hid (by
        rw [HR.out, show c = n2 by omega, HFJ.out]
        simp [setJ])
      obtain ⟨wp, rfl⟩ : ∃ wp : World, wp = wr := ⟨_, rfl⟩
      have hmn : m ≤ n2 := by omega
      clear hrow hbx
      go_wp2
      go_loopw [7, 10] (fun s7 z wr => ∃ (c m : Nat) (A : Option Addr) (ca : Nat) (xs : List Value), c ≤ k ∧ z = .int .i64 c ∧ s7 = .slice A m ca ∧ m ≤ n2 + c ∧ R = m + setC n ((co.take k).drop c) ∧ wr.ownsRow (w.heap.size + 1) 3 1 (.slice A m ca) m xs ∧ Own wr w.heap.size 43 [.slice Aj n2 cj, .slice Ac n1 cc, .int .i64 te, .int .i64 th, .int .i64 el, .slice Al n3 cl] ∧ Below w.heap.size w wr) (fun _ z _ => k - (intOf z).toNat)
      case atStart => exact ⟨0, m, A, ca, xs, Nat.zero_le _, rfl, rfl, by omega, HE.out, HROW.out, HBX.out, hb⟩
      case round =>
        obtain ⟨q, m4, A4, c4, xs4, hqk, rfl, rfl, hmq, hr4, hrow4, hbx4, hb4⟩ := hrel
        have HR4 := Lib.hid hr4
        have HBX4 := Lib.hid hbx4
        have HROW4 := Lib.hid hrow4
        have hsz4 := hb4.size
        have hbl4 := hbx4.lt
        have p1 := hbx4.cell (j := 1) rfl
        clear hr4
        by_cases hqt : q < k
        · obtain ⟨ad4, o, t, a, b, v, rfl, hbl5, hd4, g0, g1, g2, g3, g4⟩ := (RdS.below HRC.out hb4 (Nat.le_refl _)).at_ (k := q) (by rw [HN1.out]; omega)
          have HD := Lib.hid (setC_drop (n := n) hd4 hqt)
          simp only [] at HD
          have hbl5r : (ad4.add (q * 5)).block < wr.heap.size := by omega
          have hqn : q < n1 := by omega
          clear hd4 hbx4 hrow4
          by_cases htn : t = n
          · have f1 : (t == n) = true := by simp [htn]
            have HE2 : Hid (R = (m4 + 1) + setC n ((co.take k).drop (q + 1))) := Lib.hid (by rw [HR4.out, HD.out, if_pos htn]; omega)
            have h63 : m4 + 1 ≤ maxLen := by unfold maxLen; omega
            have hbig : (m4 + 1) * 8 ≤ 140737488355328 := by omega
            clear htn
            go_wp2_with (at_builtin; refine wpList_app rfl (.tmp 39) (.tmp 41) 26 rfl (w.heap.size + 1) 3 1 8 int_app _ rfl (own_below HROW4.out (by go_grown)) [.int .i64 (q : Int)] rfl rfl (fun h => by cases h) (cells_at (by simp) _ _) (one_cell _) h63 hbig (by simp; omega) ?_; intro A5 c5 w5 hown5 hg5 hb5)
            go_round
            case rel => exact ⟨q + 1, m4 + 1, A5, c5, _, by omega, by go_num, rfl, by omega, HE2.out, hown5, HBX4.out.below ((by go_grown : Below (w.heap.size + 1) wr _).trans hb5) (Nat.lt_succ_self _), (by go_grown : Below w.heap.size w _).trans (hb5.mono (Nat.le_succ _))⟩
            case measure => (simp [intOf]; omega)
          · have f1 : (t == n) = false := by simp [htn]
            have HE2 : Hid (R = m4 + setC n ((co.take k).drop (q + 1))) := Lib.hid (by rw [HR4.out, HD.out, if_neg htn]; omega)
            clear htn
            go_wp2
            go_round
            case rel => exact ⟨q + 1, m4, A4, c4, xs4, by omega, by go_num, rfl, by omega, HE2.out, HROW4.out, HBX4.out, hb4⟩
            case measure => (simp [intOf]; omega)
        · have HE2 : Hid (m4 = R) := Lib.hid (by rw [HR4.out, show q = k by omega, HFC.out]; simp [setC])
          clear hrow4 hbx4
          go_wp2
          go_ret
          exact ⟨A4, c4, (by rw [HE2.out]; rfl), hb4⟩

end Go.Proofs.Ytgcjknibelfjbaa
