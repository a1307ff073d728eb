/-
  term.combineTerm: a term of a list whose terms ahead of it are combined already.
-/
import Derived.Test.YtacokdghfkpdpaaApply
import Derived.Test.YtacokdghfkpdpaaOpen
import Derived.BigRegion
namespace Go.Proofs.Ytacokdghfkpdpaa
open Go.RowKit
set_option linter.unusedSimpArgs false
set_option linter.unusedVariables false
set_option maxRecDepth 100000

def leafB' (o : Int) : Bool := o == 1 || o == 2

set_option maxHeartbeats 400000 in
theorem isLeaf_any (o : Int) (w : World) : Calls Try.prog 38 #[.int .i64 o] w fun e w' => e = .returned (.bool (leafB' o)) ∧ w = w' := by
  go_enter Try.func38, Try.ntmps38
  go_wp2
  all_goals
    go_ret
    refine ⟨ret_bool ?_, rfl⟩
    unfold leafB'
    first | rfl | ((go_light; (try simp only [Bool.not_eq_true', Bool.not_eq_false', decide_eq_true_eq, decide_eq_false_iff_not, beq_iff_eq, beq_eq_false_iff_ne, bne_iff_ne, bne_eq_false_iff_eq, ne_eq, Bool.and_eq_true, Bool.or_eq_true, Bool.and_eq_false_iff, Bool.or_eq_false_iff, Decidable.not_not] at *)); simp [*])

/-- what term.combineTerm makes of a term -/
def combT (t : Tm) (bf : List Tm) : Tm :=
  if t.op = 1 ∨ t.op = 2 then ⟨t.op, 0, 0, t.v⟩
  else if (bf.getD t.a.toNat tz).op = 1 ∧ (bf.getD t.b.toNat tz).op = 1 then ⟨1, 0, 0, opv t.op (bf.getD t.a.toNat tz).v (bf.getD t.b.toNat tz).v⟩
  else ⟨t.op, t.a, t.b, 0⟩

set_option maxHeartbeats 4000000 in
theorem combineTerm_any (o a b v : Int) (A : Option Addr) (n cap : Nat) (bf : List Tm) (w : World) (hx : RdT w w.heap.size A bf) (hl : bf.length = n) (ho : (o = 1 ∨ o = 2) ∨ (3 ≤ o ∧ o ≤ 6 ∧ 0 ≤ a ∧ a < n ∧ 0 ≤ b ∧ b < n))
    (hv : ∀ t ∈ bf, t.op = 1 → 0 ≤ t.v ∧ t.v ≤ 255) (hm : n ≤ 65536) :
    Calls Try.prog 39 #[.agg #[.int .i64 o, .int .i64 a, .int .i64 b, .int .i64 v], .slice A n cap] w fun e w' =>
      e = .returned (.agg #[.int .i64 (combT ⟨o, a, b, v⟩ bf).op, .int .i64 (combT ⟨o, a, b, v⟩ bf).a, .int .i64 (combT ⟨o, a, b, v⟩ bf).b, .int .i64 (combT ⟨o, a, b, v⟩ bf).v]) ∧ Below w.heap.size w w' := by
  have HL := Lib.hid hl
  clear hl
  rcases ho with ho | ⟨h1, h2, ha0, ha1, hb0, hb1⟩
  · have hr : combT ⟨o, a, b, v⟩ bf = ⟨o, 0, 0, v⟩ := by unfold combT; rw [if_pos ho]
    rw [hr]
    have hlf : leafB' o = true := by unfold leafB'; simp; exact ho
    clear hr ho hx
    go_enter Try.func39, Try.ntmps39
    go_wp2_with (go_at_call 38; (with_reducible refine (isLeaf_any _ _).mono ?_); rintro e w1 ⟨rfl, rfl⟩)
    go_returns
    exact ⟨rfl, by go_grown⟩
  · obtain ⟨an, rfl⟩ := Int.eq_ofNat_of_zero_le ha0
    obtain ⟨bn, rfl⟩ := Int.eq_ofNat_of_zero_le hb0
    have hlf : leafB' o = false := by unfold leafB'; simp; omega
    have han : an < n := by omega
    have hbn : bn < n := by omega
    obtain ⟨ad, o1, a1, b1, v1, rfl, hbl, hd, p0, p1, p2, p3⟩ := hx.at_ (k := an) (by rw [HL.out]; exact han)
    obtain ⟨ad', o2, a2, b2, v2, hadd, hbl2, hd2, q0, q1, q2, q3⟩ := hx.at_ (k := bn) (by rw [HL.out]; exact hbn)
    injection hadd with hadd
    subst hadd
    have r1 : (ad.add (an * 4)).block < w.heap.size + 1 := by omega
    have r2 : (ad.add (an * 4)).block < w.heap.size + 1 + 1 := by omega
    have r3 : (ad.add (an * 4)).block < w.heap.size + 1 + 1 + 1 := by omega
    have r4 : (ad.add (bn * 4)).block < w.heap.size + 1 := by omega
    have r5 : (ad.add (bn * 4)).block < w.heap.size + 1 + 1 := by omega
    have r6 : (ad.add (bn * 4)).block < w.heap.size + 1 + 1 + 1 := by omega
    have hr : combT ⟨o, an, bn, v⟩ bf = if o1 = 1 ∧ o2 = 1 then ⟨1, 0, 0, opv o v1 v2⟩ else ⟨o, an, bn, 0⟩ := by
      unfold combT
      rw [if_neg (by simp only []; omega)]
      simp [hd, hd2]
    by_cases hone : o1 = 1 ∧ o2 = 1
    · obtain ⟨rfl, rfl⟩ := hone
      rw [if_pos ⟨rfl, rfl⟩] at hr
      rw [hr]
      have u1 : 0 ≤ v1 ∧ v1 ≤ 255 := hv _ (List.mem_of_getElem? hd) rfl
      have u2 : 0 ≤ v2 ∧ v2 ≤ 255 := hv _ (List.mem_of_getElem? hd2) rfl
      clear hr hd hd2 hx hv
      go_enter Try.func39, Try.ntmps39
      go_wp2_with (go_at_call 38; (with_reducible refine (isLeaf_any _ _).mono ?_); rintro e w1 ⟨rfl, rfl⟩)
      go_region
      all_goals
        go_wp2_with (go_at_call 36; (with_reducible refine (apply_any _ _ _ _ u1.1 u1.2 u2.1 u2.2).mono ?_); rintro e w1 ⟨rfl, rfl⟩)
        go_returns
        exact ⟨rfl, by go_grown⟩
    · rw [if_neg hone] at hr
      rw [hr]
      clear hr hd hd2 hx hv
      by_cases ho1 : o1 = 1
      · have ho2 : (o2 == 1) = false := by simp; omega
        subst ho1
        clear hone
        go_enter Try.func39, Try.ntmps39
        go_wp2_with (go_at_call 38; (with_reducible refine (isLeaf_any _ _).mono ?_); rintro e w1 ⟨rfl, rfl⟩)
        go_region
        all_goals
          go_wp2
          go_returns
          exact ⟨rfl, by go_grown⟩
      · have ho1' : (o1 == 1) = false := by simp; omega
        clear hone ho1
        go_enter Try.func39, Try.ntmps39
        go_wp2_with (go_at_call 38; (with_reducible refine (isLeaf_any _ _).mono ?_); rintro e w1 ⟨rfl, rfl⟩)
        go_region
        all_goals
          go_wp2
          go_returns
          exact ⟨rfl, by go_grown⟩

end Go.Proofs.Ytacokdghfkpdpaa
