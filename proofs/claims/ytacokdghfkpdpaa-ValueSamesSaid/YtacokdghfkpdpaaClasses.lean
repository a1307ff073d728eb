/-
  value.plainTerm; terms as keys of a map.
-/
import Derived.Test.YtacokdghfkpdpaaMapOwn
import Derived.Test.YtacokdghfkpdpaaCombine
import Derived.Test.YtacokdghfkpdpaaInts
import Derived.Test.YtacokdghfkpdpaaPureClass
namespace Go.Proofs.Ytacokdghfkpdpaa
open Go.RowKit
set_option linter.unusedSimpArgs false
set_option linter.unusedVariables false
set_option maxRecDepth 100000

theorem zero_int (w : World) : (zeroValue 3).run Try.prog w = .ok (.int .i64 0) w := by kernel_rfl

theorem term_keyed : Maps.Keyed Try.prog 30 := Maps.Keyed.of_law (deep_law_gate (P := Try.prog) (by kernel_rfl) (of_decide_eq_true (by kernel_rfl)) (of_decide_eq_true (by kernel_rfl)) (by kernel_rfl) (by rw [Try.underlying30]))

theorem wf64 {x : Int} (h : -9223372036854775808 ≤ x) (h' : x ≤ 9223372036854775807) : (Lit.int .i64 x).wf = true := by
  simp only [Lit.wf, Bool.and_eq_true, decide_eq_true_eq]
  exact ⟨h, h'⟩

theorem key_lit (d : Nat) {x : Int} (h : (Lit.int .i64 x).wf = true) : Try.prog.keyLits (d + 1) 3 [.int .i64 x] = some [.int .i64 x] := by
  unfold Program.keyLits
  rw [Try.underlying3]
  simp [h]

theorem term_key {o a b v : Int} (h0 : (Lit.int .i64 o).wf = true) (h1 : (Lit.int .i64 a).wf = true) (h2 : (Lit.int .i64 b).wf = true) (h3 : (Lit.int .i64 v).wf = true) : KeyV Try.prog 30 (.agg #[.int .i64 o, .int .i64 a, .int .i64 b, .int .i64 v]) := by
  have hs : Try.prog.keyType 30 = true := by kernel_rfl
  have hc : Try.prog.cellsOf 3 = 1 := by kernel_rfl
  have hc4 : Try.prog.cellsOf 30 = 4 := by kernel_rfl
  have hf : (Value.agg #[.int .i64 o, .int .i64 a, .int .i64 b, .int .i64 v]).formed Try.prog 30 = true := by
    unfold Value.formed
    simp only []
    rw [Try.underlying30, hc4]
    rfl
  obtain ⟨n, hz⟩ : ∃ n, Try.prog.types.size = n + 1 := ⟨Try.prog.types.size - 1, by kernel_rfl⟩
  unfold KeyV keyOf
  rw [Try.underlying30]
  simp only [hs, hf, Bool.and_self, if_true]
  unfold Program.keyLits
  rw [Try.underlying30, hz]
  simp [Value.cells, hc4, hc, key_lit n h0, key_lit n h1, key_lit n h2, key_lit n h3]

/-- a term as a value -/
def tmV (t : Tm) : Value := .agg #[.int .i64 t.op, .int .i64 t.a, .int .i64 t.b, .int .i64 t.v]

theorem tmV_inj {t u : Tm} (h : tmV t = tmV u) : t = u := by
  unfold tmV at h
  obtain ⟨a, b, c, d⟩ := t
  obtain ⟨a', b', c', d'⟩ := u
  simp at h
  obtain ⟨h1, h2, h3, h4⟩ := h
  subst h1 h2 h3 h4
  rfl

set_option maxHeartbeats 4000000 in
theorem plain_any (o a b v : Int) (A : Option Addr) (n cap : Nat) (fs : List Nat) (w : World) (hx : RdI w w.heap.size A (ni fs)) (hl : fs.length = n) (ho : (o = 1 ∨ o = 2) ∨ (3 ≤ o ∧ o ≤ 6 ∧ 0 ≤ a ∧ a < n ∧ 0 ≤ b ∧ b < n)) (hm : n ≤ 65536) :
    Calls Try.prog 41 #[.agg #[.int .i64 o, .int .i64 a, .int .i64 b, .int .i64 v], .slice A n cap] w fun e w' =>
      e = .returned (tmV (plT fs ⟨o, a, b, v⟩)) ∧ Below w.heap.size w w' := by
  have HL := Lib.hid hl
  rcases ho with ho | ⟨h1, h2, ha0, ha1, hb0, hb1⟩
  · rw [plT_leaf ho]
    unfold tmV
    have hlf : leafB' o = true := by unfold leafB'; simp; exact ho
    clear ho hx hl
    go_enter Try.func41, Try.ntmps41
    go_wp2_with (go_at_call 38; (with_reducible refine (isLeaf_any _ _).mono ?_); rintro e w1 ⟨rfl, rfl⟩)
    go_returns
    exact ⟨rfl, by go_grown⟩
  · obtain ⟨an, rfl⟩ := Int.eq_ofNat_of_zero_le ha0
    obtain ⟨bn, rfl⟩ := Int.eq_ofNat_of_zero_le hb0
    have hlf : leafB' o = false := by unfold leafB'; simp; omega
    have han : an < n := by omega
    have hbn : bn < n := by omega
    obtain ⟨x, hxa⟩ : ∃ x, fs[an]? = some x := ⟨_, List.getElem?_eq_getElem (by omega)⟩
    obtain ⟨y, hyb⟩ : ∃ y, fs[bn]? = some y := ⟨_, List.getElem?_eq_getElem (by omega)⟩
    obtain ⟨ad, x', rfl, hbl, hd, p0⟩ := hx.at_ (k := an) (by simp [ni]; omega)
    obtain ⟨ad', y', hadd, hbl2, hd2, q0⟩ := hx.at_ (k := bn) (by simp [ni]; omega)
    injection hadd with hadd
    subst hadd
    rw [ni_at hxa] at hd
    rw [ni_at hyb] at hd2
    injection hd with hd
    injection hd2 with hd2
    subst hd hd2
    rw [plT_op h1 hxa hyb]
    have r1 : (ad.add an).block < w.heap.size + 1 := by omega
    have r2 : (ad.add an).block < w.heap.size + 1 + 1 := by omega
    have r3 : (ad.add bn).block < w.heap.size + 1 := by omega
    have r4 : (ad.add bn).block < w.heap.size + 1 + 1 := by omega
    clear hxa hyb hx hl ha0 hb0 ha1 hb1
    by_cases hcm : o = 3 ∨ o = 5
    · rw [if_pos hcm]
      obtain ⟨lo, hi, hlo, hhi, hcs⟩ : ∃ lo hi : Int, min (x : Int) y = lo ∧ max (x : Int) y = hi ∧ ((y < x ∧ lo = y ∧ hi = x) ∨ (¬ y < x ∧ x < y ∧ lo = x ∧ hi = y) ∨ (¬ y < x ∧ ¬ x < y ∧ lo = x ∧ hi = x ∧ x = y)) := ⟨_, _, rfl, rfl, by omega⟩
      rw [hlo, hhi]
      unfold tmV
      clear hlo hhi
      rcases hcs with ⟨g1, rfl, rfl⟩ | ⟨g1, g2, rfl, rfl⟩ | ⟨g1, g2, rfl, rfl, rfl⟩
      all_goals
        rcases hcm with rfl | rfl
        all_goals
          go_enter Try.func41, Try.ntmps41
          go_wp2_with (go_at_call 38; (with_reducible refine (isLeaf_any _ _).mono ?_); rintro e w1 ⟨rfl, rfl⟩)
          go_region
          all_goals
            go_wp2
            go_returns
            exact ⟨rfl, by go_grown⟩
    · rw [if_neg hcm]
      unfold tmV
      have e3 : (o == 3) = false := by simp; omega
      have e5 : (o == 5) = false := by simp; omega
      clear hcm
      go_enter Try.func41, Try.ntmps41
      go_wp2_with (go_at_call 38; (with_reducible refine (isLeaf_any _ _).mono ?_); rintro e w1 ⟨rfl, rfl⟩)
      go_region
      all_goals
        go_wp2
        go_returns
        exact ⟨rfl, by go_grown⟩

end Go.Proofs.Ytacokdghfkpdpaa
