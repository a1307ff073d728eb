/-
  shape.setNumber, proceed, copySteps (U2).
-/
import Derived.Test.YtniilhgcgcimgaaShMem
import Derived.Test.YtniilhgcgcimgaaMOpen
import Derived.BigRegion
namespace Go.Proofs.Ytniilhgcgcimgaa
open Go.RowKit
set_option linter.unusedSimpArgs false
set_option linter.unusedVariables false
set_option maxRecDepth 100000

def leafH (o : Int) : Bool := o == 1 || o == 2

set_option maxHeartbeats 400000 in
theorem isLeafH_any (o : Int) (w : World) : Calls Try.prog 49 #[.int .i64 o] w fun e w' => e = .returned (.bool (leafH o)) ∧ w = w' := by
  go_enter Try.func49, Try.ntmps49
  go_wp2
  all_goals
    go_ret
    refine ⟨ret_bool ?_, rfl⟩
    unfold leafH
    first | rfl | ((go_light; (try simp only [Bool.not_eq_true', Bool.not_eq_false', decide_eq_true_eq, decide_eq_false_iff_not, beq_iff_eq, beq_eq_false_iff_ne, bne_iff_ne, bne_eq_false_iff_eq, ne_eq, Bool.and_eq_true, Bool.or_eq_true, Bool.and_eq_false_iff, Bool.or_eq_false_iff, Decidable.not_not] at *)); simp [*])

theorem own_two (w : World) (k : Obj) (t : TypeId) (cs : List Value) : Own ((w.alloc k).alloc (.cells cs.toArray t)) (w.heap.size + 1) t cs := by
  simpa using Own.new (w.alloc k) t cs

/-- a step of five numbers in a box of the call's own -/
theorem own_step5 {w : World} {g : Nat} {t : TypeId} {a b c d e : Value} (h : Own w g t [a, b, c, d, e]) (x y z u v : Value) :
    Own (((((w.setCell ⟨g, 0, none⟩ x).setCell ⟨g, 1, none⟩ y).setCell ⟨g, 2, none⟩ z).setCell ⟨g, 3, none⟩ u).setCell ⟨g, 4, none⟩ v) g t [x, y, z, u, v] :=
  ((((h.set 0 x).set 1 y).set 2 z).set 3 u).set 4 v

/-- a copy so far: the first k steps, with nothing in what they don't use -/
theorem cpS_next {code : List St} {k : Nat} {s : St} (h : code[k]? = some s) : cpS (code.take (k + 1)) = cpS (code.take k) ++ [clS s] := by
  unfold cpS
  rw [List.take_add_one, h, List.map_append]
  rfl

theorem cpS_all (code : List St) : cpS (code.take code.length) = cpS code := by rw [List.take_length]

theorem step_appH : AppTy Try.prog 37 66 5 40 := appTy_of (z := .agg #[.int .i64 0, .int .i64 0, .int .i64 0, .int .i64 0, .int .i64 0]) Try.underlying37 (by kernel_rfl) rfl (by omega)

set_option maxHeartbeats 4000000 in
theorem copySteps_any (A : Option Addr) (len cap : Nat) (code : List St) (w : World) (hx : RdS w w.heap.size A code) (hl : code.length = len) (hm : len ≤ 65536) :
    Calls Try.prog 38 #[.slice A len cap] w fun e w' => ∃ A' c', e = .returned (.slice A' len c') ∧ w'.ownsRow w.heap.size 66 5 (.slice A' len c') len (rv cSt (cpS code)) ∧ Below w.heap.size w w' := by
  have HL := Lib.hid hl
  go_enter Try.func38, Try.ntmps38
  go_wp2
  go_loopw [3, 8] (fun s z wr => ∃ (k : Nat) (A' : Option Addr) (c' : Nat), k ≤ len ∧ z = .int .i64 k ∧ s = .slice A' k c' ∧ Hid (wr.ownsRow w.heap.size 66 5 (.slice A' k c') k (rv cSt (cpS (code.take k)))) ∧ Below w.heap.size w wr) (fun _ z _ => len - (intOf z).toNat)
  case atStart => exact ⟨0, none, 0, Nat.zero_le _, rfl, rfl, Lib.hid (World.ownsRow_nil _ _ _ _), Below.refl _ _⟩
  case round =>
    obtain ⟨k, A', c', hk, rfl, rfl, HOW, hb⟩ := hrel
    have hsz := hb.size
    by_cases hlt : k < len
    · obtain ⟨ad, o, t, a, b, v, rfl, hbl, hd, hc0, hc1, hc2, hc3, hc4⟩ := RdS.at_ (hx.below hb (Nat.le_refl _)) (k := k) (by rw [HL.out]; exact hlt)
      have HN := Lib.hid (cpS_next hd)
      have hbig : (k + 1) * 40 ≤ 140737488355328 := by omega
      have hmx : k + 1 ≤ maxLen := by unfold maxLen; omega
      have HOR := Lib.hid (hd : code[k]? = some ⟨o, t, a, b, v⟩)
      clear hd hl
      cases hlf : leafH o with
      | true =>
        have HE : Hid (clS ⟨o, t, a, b, v⟩ = ⟨o, t, 0, 0, v⟩) := Lib.hid (by unfold clS; rw [if_pos (by unfold leafH at hlf; simpa using hlf)])
        rw [HE.out] at HN
        have HLF := Lib.hid (isLeafH_any o)
        rw [hlf] at HLF
        clear hlf
        go_wp2_with (first
          | (go_at_call 49; (with_reducible refine (HLF.out _).mono ?_); rintro e w1 ⟨rfl, rfl⟩)
          | (at_builtin; refine wpList_app' rfl (.tmp 18) (.tmp 20) 37 rfl w.heap.size 66 5 40 step_appH _ rfl ((HOW.out.alloc _).alloc _) [.int .i64 o, .int .i64 t, .int .i64 0, .int .i64 0, .int .i64 v] rfl rfl (fun h => by cases h) (cells_at (by simp) _ _) (cSt_one ⟨o, t, 0, 0, v⟩) hmx hbig (by simp; omega) ?_; intro A8 c8 w8 hown8 hg8 hb8 hp8))
        go_round
        case rel => exact ⟨k + 1, A8, c8, by omega, by go_num, rfl, Lib.hid (by rw [HN.out, rv_append, rv_one]; exact hown8), (by go_grown : Below w.heap.size w _).trans hb8⟩
        case measure => (simp [intOf]; omega)
      | false =>
        have HE : Hid (clS ⟨o, t, a, b, v⟩ = ⟨o, t, a, b, 0⟩) := Lib.hid (by unfold clS; rw [if_neg (by unfold leafH at hlf; simpa using hlf)])
        rw [HE.out] at HN
        have HLF := Lib.hid (isLeafH_any o)
        rw [hlf] at HLF
        clear hlf
        go_wp2_with (first
          | (go_at_call 49; (with_reducible refine (HLF.out _).mono ?_); rintro e w1 ⟨rfl, rfl⟩)
          | (at_builtin; refine wpList_app' rfl (.tmp 18) (.tmp 20) 37 rfl w.heap.size 66 5 40 step_appH _ rfl ((HOW.out.alloc _).alloc _) [.int .i64 o, .int .i64 t, .int .i64 a, .int .i64 b, .int .i64 0] rfl rfl (fun h => by cases h) (cells_at (by simp) _ _) (cSt_one ⟨o, t, a, b, 0⟩) hmx hbig (by simp; omega) ?_; intro A8 c8 w8 hown8 hg8 hb8 hp8))
        go_round
        case rel => exact ⟨k + 1, A8, c8, by omega, by go_num, rfl, Lib.hid (by rw [HN.out, rv_append, rv_one]; exact hown8), (by go_grown : Below w.heap.size w _).trans hb8⟩
        case measure => (simp [intOf]; omega)
    · have hkl : k = len := by omega
      subst hkl
      have HA := Lib.hid (cpS_all code)
      rw [HL.out] at HA
      rw [HA.out] at HOW
      have howz := HOW.out
      go_wp2
      go_ret
      exact ⟨A', c', rfl, howz, hb⟩

end Go.Proofs.Ytniilhgcgcimgaa
