/-
  term.combine: every term of a list combined, one after another.
-/
import Derived.Test.YtfhnhbkdhdocjaaCombine
import Derived.Test.YtfhnhbkdhdocjaaTermVal
import Derived.Test.YtfhnhbkdhdocjaaMBase
import Derived.Deep.RegionWith
namespace Go.Proofs.Ytfhnhbkdhdocjaa
open Go.RowKit
set_option linter.unusedSimpArgs false
set_option linter.unusedVariables false
set_option maxRecDepth 100000

/-- what term.combine makes of a list -/
def combL (l : List Tm) : List Tm := l.foldl (fun acc t => acc ++ [combT t acc]) []

theorem combL_snoc (l : List Tm) (t : Tm) : combL (l ++ [t]) = combL l ++ [combT t (combL l)] := by
  unfold combL
  rw [List.foldl_append]
  rfl

theorem combF_len : ∀ (l acc : List Tm), (l.foldl (fun acc t => acc ++ [combT t acc]) acc).length = acc.length + l.length
  | [], acc => rfl
  | t :: r, acc => by rw [List.foldl_cons, combF_len r]; simp; omega

theorem combL_len (l : List Tm) : (combL l).length = l.length := by unfold combL; rw [combF_len]; simp

def numOk (t : Tm) : Prop := t.op = 1 → 0 ≤ t.v ∧ t.v ≤ 255

theorem combT_num {t : Tm} {bf : List Tm} (h : numOk t) : numOk (combT t bf) := by
  unfold combT
  intro ho
  split at ho
  · rw [if_pos ‹_›]; exact h ho
  · rw [if_neg ‹_›]
    split at ho
    · rw [if_pos ‹_›]; exact opv_bd _ _ _
    · exact absurd (Or.inl ho) ‹_›

theorem combF_num : ∀ (l acc : List Tm), (∀ t ∈ l, numOk t) → (∀ t ∈ acc, numOk t) → ∀ t ∈ l.foldl (fun acc t => acc ++ [combT t acc]) acc, numOk t
  | [], acc, _, h => h
  | u :: r, acc, hl, h => by
    rw [List.foldl_cons]
    refine combF_num r _ (fun t ht => hl t (by simp [ht])) fun t ht => ?_
    rcases List.mem_append.1 ht with ht | ht
    · exact h t ht
    · rw [List.mem_singleton.1 ht]; exact combT_num (hl u (by simp))

theorem combL_num {l : List Tm} (h : ∀ t ∈ l, numOk t) : ∀ t ∈ combL l, numOk t := combF_num l [] h (fun _ ht => by simp at ht)

/-- the block of term.combine before round k -/
def coL (l : List Tm) (k : Nat) : List Tm := combL (l.take k) ++ List.replicate (l.length - k) tz

theorem coL_len {l : List Tm} {k : Nat} (h : k ≤ l.length) : (coL l k).length = l.length := by
  unfold coL; rw [List.length_append, combL_len]; simp; omega

theorem coL_take {l : List Tm} {k : Nat} (h : k ≤ l.length) : (coL l k).take k = combL (l.take k) := by
  have hk : (combL (l.take k)).length = k := by rw [combL_len]; simp; omega
  unfold coL
  rw [List.take_append_of_le_length (by omega), List.take_of_length_le (by omega)]

theorem coL_set {l : List Tm} {k : Nat} {t : Tm} (h : l[k]? = some t) : (coL l k).set k (combT t (combL (l.take k))) = coL l (k + 1) := by
  obtain ⟨hk, rfl⟩ := List.getElem?_eq_some_iff.1 h
  have hl : (combL (l.take k)).length = k := by rw [combL_len]; simp; omega
  unfold coL
  rw [List.take_succ_eq_append_getElem hk, combL_snoc, List.set_append_right _ _ (by omega), hl, Nat.sub_self, show l.length - k = (l.length - (k + 1)) + 1 from by omega, List.replicate_succ, List.set_cons_zero, List.append_assoc]
  rfl

theorem coL_zero (l : List Tm) : coL l 0 = List.replicate l.length tz := by simp [coL, combL]

theorem coL_end (l : List Tm) : coL l l.length = combL l := by simp [coL]

theorem ckTerms_num {vars : Int} {l : List Tm} (hc : ckTerms vars l = 0) : ∀ t ∈ l, numOk t := fun t ht ho => by
  obtain ⟨i, hi⟩ := List.getElem?_of_mem ht
  have h := ckTerms_cases (o := t.op) (a := t.a) (b := t.b) (v := t.v) hc hi
  omega

theorem term_info : (Try.prog.info? 56).map (fun i => (i.zero, i.size, i.bytes)) = some (some (.agg #[.int .i64 0, .int .i64 0, .int .i64 0, .int .i64 0]), 4, 32) := by kernel_rfl

end Go.Proofs.Ytfhnhbkdhdocjaa
