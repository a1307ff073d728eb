/-
  cut.kept (T2): the steps that are to be kept, in a list of their own.
-/
import Derived.Test.YtfhnhbkdhdocjaaMCut
import Derived.Test.YtfhnhbkdhdocjaaMarks
import Derived.Test.YtfhnhbkdhdocjaaLiveTrim
namespace Go.Proofs.Ytfhnhbkdhdocjaa
open Go.RowKit
set_option linter.unusedSimpArgs false
set_option linter.unusedVariables false
set_option maxRecDepth 100000

theorem cells_litK {X : World} {k : Nat} (hk : k = X.heap.size) (l : List Value) (cs : Array Value) (hcs : cs = l.toArray) (t : TypeId) : ∀ ad : Addr, some (⟨k, 0, none⟩ : Addr) = some ad → ∀ j u, l[j]? = some u → (X.alloc (.cells cs t)).cell? (ad.add j) = some u := by
  subst hcs
  exact cells_at hk l t

theorem cSt_oneK (s : St) : ∀ u ∈ cSt s, u.oneCell' = true := fun u hu => cSt_oneL [s] u (by simpa [rv] using hu)

set_option maxHeartbeats 8000000 in
theorem kept_any (MS : Nat → Nat → Prop) (i : Nat) (A AR : Option Addr) (len cap cr : Nat) (l : List St) (r : List Bool) (w : World) (hx : RdS w w.heap.size A l) (hr : RdBo w w.heap.size AR r) (hl : l.length = len) (hrl : r.length = len) (hm : len ≤ 65536) (hMS : ∀ k, MS i k ↔ r[k]? = some true) :
    Calls Try.prog 75 #[.slice A len cap, .slice AR len cr] w fun e w' => ∃ (A' : Option Addr) (c' : Nat) (out : List St), e = .returned (.slice A' out.length c') ∧ KeepM MS i 0 l out ∧ w'.ownsRow w.heap.size 87 5 (.slice A' out.length c') out.length (rv cSt out) ∧ Below w.heap.size w w' := by
  have HL := Lib.hid hl
  have HRL := Lib.hid hrl
  have HMS := Lib.hid hMS
  have HRS := Lib.hid (fun (Z : World) (hZ : Below w.heap.size w Z) => (RdS.below hx hZ (Nat.le_refl _)).more hZ.size)
  have HRB := Lib.hid (fun (Z : World) (hZ : Below w.heap.size w Z) => (RdBo.below hr hZ (Nat.le_refl _)).more hZ.size)
  clear hl hrl hMS hx hr
  go_enter Try.func75, Try.ntmps75
  go_wp2
  go_loopw [5, 10] (fun s z wr => ∃ (k rn : Nat) (out : List St) (A1 : Option Addr) (c1 : Nat), k ≤ len ∧ z = .int .i64 k ∧ s = .slice A1 rn c1 ∧ rn ≤ k ∧ Hid (out.length = rn) ∧ Hid (KeepM MS i 0 (l.take k) out) ∧ Hid (wr.ownsRow w.heap.size 87 5 (.slice A1 rn c1) rn (rv cSt out)) ∧ Hid (Below w.heap.size w wr)) (fun _ z _ => len - (intOf z).toNat)
  case atStart => exact ⟨0, 0, [], none, 0, Nat.zero_le _, rfl, rfl, Nat.zero_le _, Lib.hid rfl, Lib.hid (.nil 0), Lib.hid (World.ownsRow_nil _ _ _ _), Lib.hid (Below.refl _ _)⟩
  case round =>
    obtain ⟨k, rn, out, A1, c1, hk, rfl, rfl, hrn, HRN, HKM, HOW, HB⟩ := hrel
    by_cases hlt : k < len
    · obtain ⟨ad, o, tt, a2, b2, vv, rfl, hbl, hd, e0, e1, e2, e3, e4⟩ := (HRS.out wr HB.out).at_ (k := k) (by rw [HL.out]; exact hlt)
      obtain ⟨rad, mk, rfl, hrb, hmk, hmc⟩ := (HRB.out wr HB.out).at_ (k := k) (by rw [HRL.out]; exact hlt)
      have HTK : Hid (l.take (k + 1) = l.take k ++ [⟨o, tt, a2, b2, vv⟩]) := Lib.hid (by rw [List.take_add_one, hd]; rfl)
      have HTL : Hid (k = 0 + (l.take k).length) := Lib.hid (by rw [List.length_take, HL.out, Nat.min_eq_left (by omega)]; omega)
      have HMK : Hid (MS i k ↔ mk = true) := Lib.hid (by rw [HMS.out k, hmk]; simp)
      have h63s : rn + 1 ≤ maxLen := by unfold maxLen; omega
      have hbigs : (rn + 1) * 40 ≤ 140737488355328 := by omega
      have hsz := HB.out.size
      clear hmk hd
      cases mk with
      | false =>
        go_wp2
        go_round
        case rel => exact ⟨k + 1, rn, out, A1, c1, by omega, by go_num, rfl, by omega, HRN, Lib.hid (by rw [HTK.out]; exact HKM.out.snocD HTL.out fun h => by have := HMK.out.1 h; simp at this), Lib.hid (own_below HOW.out (by go_grown)), Lib.hid (below_via HB.out (by go_grown))⟩
        case measure => (simp [intOf]; omega)
      | true =>
        go_wp2_with (at_builtin; refine wpList_app rfl (.tmp 19) (.tmp 21) 49 rfl w.heap.size 87 5 40 stepl_app (rv cSt out) rfl (own_below HOW.out (by go_grown)) (cSt ⟨o, tt, a2, b2, vv⟩) rfl rfl (fun h => by cases h) (cells_litK (by simp) (cSt ⟨o, tt, a2, b2, vv⟩) _ rfl _) (cSt_oneK _) h63s hbigs (by simp; omega) ?_; intro A8 c8 w8 hown8 hg8 hb8)
        have hbX := below_via HB.out (by go_grown : Below wr.heap.size wr ((wr.alloc (.cells #[.int .i64 o, .int .i64 tt, .int .i64 a2, .int .i64 b2, .int .i64 vv] 87)).alloc (.cells #[.int .i64 o, .int .i64 tt, .int .i64 a2, .int .i64 b2, .int .i64 vv] 87)))
        go_round
        case rel => exact ⟨k + 1, rn + 1, out ++ [⟨o, tt, a2, b2, vv⟩], A8, c8, by omega, by go_num, rfl, by omega, Lib.hid (by simp [HRN.out]), Lib.hid (by rw [HTK.out]; exact HKM.out.snocK HTL.out (HMK.out.2 rfl)), Lib.hid (by rw [rv_append, rv_one]; exact hown8), Lib.hid (hbX.trans hb8)⟩
        case measure => (simp [intOf]; omega)
    · have hke : k = len := by omega
      subst hke
      have HKF : Hid (KeepM MS i 0 l out) := Lib.hid (by have := HKM.out; rwa [List.take_of_length_le (by rw [HL.out]; exact Nat.le_refl _)] at this)
      clear hrn
      obtain rfl := HRN.out
      go_wp2
      go_ret
      exact ⟨A1, c1, out, rfl, HKF.out, HOW.out, HB.out⟩

end Go.Proofs.Ytfhnhbkdhdocjaa
