/-
  term.combine: every term of a list combined, one after another.
-/
import Derived.Test.YtacokdghfkpdpaaCombine
import Derived.Test.YtacokdghfkpdpaaTermVal
import Derived.Test.YtacokdghfkpdpaaApp
import Derived.Deep.RegionWith
namespace Go.Proofs.Ytacokdghfkpdpaa
open Go.RowKit
set_option linter.unusedSimpArgs false
set_option linter.unusedVariables false
set_option maxRecDepth 100000

/-- what term.combine makes of a list -/
def combL (l : List Tm) : List Tm := l.foldl (fun acc t => acc ++ [combT t acc]) []

theorem combL_snoc (l : List Tm) (t : Tm) : combL (l ++ [t]) = combL l ++ [combT t (combL l)] := by
  unfold combL
  rw [List.foldl_append]
  rfl

theorem combF_len : ∀ (l acc : List Tm), (l.foldl (fun acc t => acc ++ [combT t acc]) acc).length = acc.length + l.length
  | [], acc => rfl
  | t :: r, acc => by rw [List.foldl_cons, combF_len r]; simp; omega

theorem combL_len (l : List Tm) : (combL l).length = l.length := by unfold combL; rw [combF_len]; simp

def numOk (t : Tm) : Prop := t.op = 1 → 0 ≤ t.v ∧ t.v ≤ 255

theorem combT_num {t : Tm} {bf : List Tm} (h : numOk t) : numOk (combT t bf) := by
  unfold combT
  intro ho
  split at ho
  · rw [if_pos ‹_›]; exact h ho
  · rw [if_neg ‹_›]
    split at ho
    · rw [if_pos ‹_›]; exact opv_bd _ _ _
    · exact absurd (Or.inl ho) ‹_›

theorem combF_num : ∀ (l acc : List Tm), (∀ t ∈ l, numOk t) → (∀ t ∈ acc, numOk t) → ∀ t ∈ l.foldl (fun acc t => acc ++ [combT t acc]) acc, numOk t
  | [], acc, _, h => h
  | u :: r, acc, hl, h => by
    rw [List.foldl_cons]
    refine combF_num r _ (fun t ht => hl t (by simp [ht])) fun t ht => ?_
    rcases List.mem_append.1 ht with ht | ht
    · exact h t ht
    · rw [List.mem_singleton.1 ht]; exact combT_num (hl u (by simp))

theorem combL_num {l : List Tm} (h : ∀ t ∈ l, numOk t) : ∀ t ∈ combL l, numOk t := combF_num l [] h (fun _ ht => by simp at ht)

/-- the block of term.combine before round k -/
def coL (l : List Tm) (k : Nat) : List Tm := combL (l.take k) ++ List.replicate (l.length - k) tz

theorem coL_len {l : List Tm} {k : Nat} (h : k ≤ l.length) : (coL l k).length = l.length := by
  unfold coL; rw [List.length_append, combL_len]; simp; omega

theorem coL_take {l : List Tm} {k : Nat} (h : k ≤ l.length) : (coL l k).take k = combL (l.take k) := by
  have hk : (combL (l.take k)).length = k := by rw [combL_len]; simp; omega
  unfold coL
  rw [List.take_append_of_le_length (by omega), List.take_of_length_le (by omega)]

theorem coL_set {l : List Tm} {k : Nat} {t : Tm} (h : l[k]? = some t) : (coL l k).set k (combT t (combL (l.take k))) = coL l (k + 1) := by
  obtain ⟨hk, rfl⟩ := List.getElem?_eq_some_iff.1 h
  have hl : (combL (l.take k)).length = k := by rw [combL_len]; simp; omega
  unfold coL
  rw [List.take_succ_eq_append_getElem hk, combL_snoc, List.set_append_right _ _ (by omega), hl, Nat.sub_self, show l.length - k = (l.length - (k + 1)) + 1 from by omega, List.replicate_succ, List.set_cons_zero, List.append_assoc]
  rfl

theorem coL_zero (l : List Tm) : coL l 0 = List.replicate l.length tz := by simp [coL, combL]

theorem coL_end (l : List Tm) : coL l l.length = combL l := by simp [coL]

theorem ckTerms_num {vars : Int} {l : List Tm} (hc : ckTerms vars l = 0) : ∀ t ∈ l, numOk t := fun t ht ho => by
  obtain ⟨i, hi⟩ := List.getElem?_of_mem ht
  have h := ckTerms_cases (o := t.op) (a := t.a) (b := t.b) (v := t.v) hc hi
  omega

theorem term_info : (Try.prog.info? 30).map (fun i => (i.zero, i.size, i.bytes)) = some (some (.agg #[.int .i64 0, .int .i64 0, .int .i64 0, .int .i64 0]), 4, 32) := by kernel_rfl

set_option maxHeartbeats 4000000 in
theorem combine_any (vars : Int) (A : Option Addr) (len cap : Nat) (l : List Tm) (w : World) (hx : RdT w w.heap.size A l) (hl : l.length = len) (hc : ckTerms vars l = 0) :
    Calls Try.prog 27 #[.slice A len cap] w fun e w' => e = .returned (.slice (some ⟨w.heap.size, 0, none⟩) len len) ∧ Own w' w.heap.size 30 (tv (combL l)) ∧ Below w.heap.size w w' := by
  obtain ⟨b1, b2, b3, b4⟩ := ckTerms_bd hc
  have HL := Lib.hid hl
  have HC := Lib.hid hc
  rw [hl] at b3 b4
  clear hl hc
  have hmk := make_terms (P := Try.prog) 22 30 Try.underlying22 term_info len (by omega)
  go_enter Try.func27, Try.ntmps27
  go_wp2
  go_loopw [11] (fun i wr => ∃ k : Nat, k ≤ len ∧ i = .int .i64 k ∧ Below w.heap.size w wr ∧ Own wr w.heap.size 30 (tv (coL l k))) (fun i _ => len - (intOf i).toNat)
  case atStart => exact ⟨0, Nat.zero_le _, rfl, by go_grown, by rw [coL_zero, HL.out]; exact Own.new _ _ _⟩
  case round =>
    obtain ⟨k, hk, rfl, hb, hown⟩ := hrel
    have hsz := hown.lt
    by_cases hlt : k < len
    · obtain ⟨ad, o, a, b, v, rfl, hbl, hd, hc0, hc1, hc2, hc3⟩ := (hx.below hb (Nat.le_refl _)).at_ (k := k) (by rw [HL.out]; exact hlt)
      have hcase := ckTerms_cases HC.out hd
      have hlk : (combL (l.take k)).length = k := by rw [combL_len, List.length_take, HL.out]; omega
      have hrd : RdT wr (w.heap.size + 1) (some ⟨w.heap.size, 0, none⟩) (combL (l.take k)) := by
        have h := RdT.take (OwnT.rd hown) k
        rwa [coL_take (by rw [HL.out]; exact hk)] at h
      have hnm : Hid (∀ t ∈ combL (l.take k), t.op = 1 → 0 ≤ t.v ∧ t.v ≤ 255) := Lib.hid (combL_num fun t ht => ckTerms_num HC.out t (List.mem_of_mem_take ht))
      have hok : Hid ((o = 1 ∨ o = 2) ∨ (3 ≤ o ∧ o ≤ 6 ∧ 0 ≤ a ∧ a < k ∧ 0 ≤ b ∧ b < k)) := Lib.hid (by omega)
      have hset := coL_set hd
      have hcl : (coL l k).length = len := by rw [coL_len (by rw [HL.out]; exact hk), HL.out]
      have HLK := Lib.hid hlk
      have HSET := Lib.hid hset
      have HCL := Lib.hid hcl
      clear hd hmk hlk hset hcl hcase
      generalize combL (l.take k) = bf at *
      generalize coL l k = ol at *
      obtain ⟨rt, hrt⟩ : ∃ rt, rt = combT ⟨o, a, b, v⟩ bf := ⟨_, rfl⟩
      rw [← hrt] at HSET
      have HRT := Lib.hid hrt
      clear hrt
      go_wp2
      go_region_with (go_at_call 39; (with_reducible refine (combineTerm_any o a b v (some ⟨w.heap.size, 0, none⟩) k len bf _ ?_ HLK.out hok.out hnm.out (by omega)).mono ?_); (· exact RdT.more (RdT.below hrd (B' := wr.heap.size) (by go_grown) (by omega)) (by simp; omega)); rw [← HRT.out]; rintro e w1 ⟨rfl, hb1⟩; have hB1 := hb1.mono (B' := w.heap.size) (by simp; omega); have hO := ((hown.alloc _).drew).below hb1 (by simp; omega); have e0 := hO.cell (tv_at (j := k * 4) (by rw [HCL.out]; omega)); have e1 := hO.cell (tv_at (j := k * 4 + 1) (by rw [HCL.out]; omega)); have e2 := hO.cell (tv_at (j := k * 4 + 2) (by rw [HCL.out]; omega)); have e3 := hO.cell (tv_at (j := k * 4 + 3) (by rw [HCL.out]; omega)); have f0 := hO.frozen (k * 4); have f1 := hO.frozen (k * 4 + 1); have f2 := hO.frozen (k * 4 + 2); have f3 := hO.frozen (k * 4 + 3))
      all_goals
        go_wp2
        go_round
        case rel => exact ⟨k + 1, by omega, by go_num, ((Below.trans (by go_grown) hB1 : Below w.heap.size w w1).trans (by go_grown)), by rw [← HSET.out]; exact OwnT.set hO (by rw [HCL.out]; exact hlt) _⟩
        case measure => (simp [intOf]; omega)
    · have : k = len := by omega
      subst this
      go_wp2
      go_ret
      exact ⟨rfl, by rw [← coL_end, HL.out]; exact hown, hb⟩

end Go.Proofs.Ytacokdghfkpdpaa
