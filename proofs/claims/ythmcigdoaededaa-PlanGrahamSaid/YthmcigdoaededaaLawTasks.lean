/-
  codemasonkeep.tasks, codemasonkeep.most over numbers from 0 (Q1).
-/
import Derived.Test.YthmcigdoaededaaLawColor
import Derived.Test.YthmcigdoaededaaPlanIs
namespace Go.Proofs.Ythmcigdoaededaa
open Go.RowKit Go.ChangeShapes Go.WideShapes Go.ChangeAt Go.Deep
set_option linter.unusedSimpArgs false
set_option linter.unusedVariables false
set_option maxRecDepth 100000

set_option maxHeartbeats 1000000 in
theorem tasks_any (n : Int) (A : Option Addr) (len cap : Nat) (l : List (Int × Int)) (z : Int) (w : World) (hx : RdM w w.heap.size A l) (hl : l.length = len) (hm : len ≤ maxLen) (hz : TkCode n l z) :
    Calls Try.prog 21 #[.int .i64 n, .slice A len cap] w fun e w' => e = .returned (.bool (z == 0)) ∧ Below w.heap.size w w' := by
  have HT := Lib.hid (tasksCheck_any n A len cap l w hx hl hm)
  have HZ := Lib.hid hz
  clear hx hl hm hz
  go_enter Try.func21, Try.ntmps21
  go_wp2_with fail
  refine HT.out.mono ?_
  rintro e w2 ⟨⟨z2, hz2, rfl⟩, hb2⟩
  obtain rfl := HZ.out.same hz2
  clear hz2
  go_wp2
  go_ret
  exact ⟨ret_bool (by simp), hb2⟩

/-- the greatest, and one more; 0 for none -/
def moT (l : List Nat) : Nat := mxL (l.map (· + 1))

theorem moT_step {l : List Nat} {k x : Nat} (h : l[k]? = some x) : moT (l.take (k + 1)) = max (moT (l.take k)) (x + 1) := by
  unfold moT
  rw [List.take_add_one, h, Option.toList_some, List.map_append]
  exact mxL_snoc _ _

theorem moT_le {l : List Nat} {B : Nat} (h : ∀ x ∈ l, x < B) : moT l ≤ B := by
  unfold moT
  rcases mxL_in (l.map (· + 1)) with e | e
  · omega
  · obtain ⟨x, hx, he⟩ := List.mem_map.1 e
    have := h x hx
    omega

theorem moT_ge {l : List Nat} {x : Nat} (h : x ∈ l) : x < moT l := mxL_ge (List.mem_map.2 ⟨x, h, rfl⟩ : x + 1 ∈ l.map (· + 1))

theorem moT_in {l : List Nat} (h : moT l ≠ 0) : ∃ x ∈ l, moT l = x + 1 := by
  unfold moT at *
  rcases mxL_in (l.map (· + 1)) with e | e
  · exact absurd e h
  · obtain ⟨x, hx, he⟩ := List.mem_map.1 e
    exact ⟨x, hx, he.symm⟩

set_option maxHeartbeats 1000000 in
theorem most_any (A : Option Addr) (n c : Nat) (l : List Nat) (B : Nat) (w : World) (hx : RdI w B A (ni l)) (hl : l.length = n) (hm : n ≤ maxLen) (hs : ∀ x ∈ l, x < 64) :
    Calls Try.prog 22 #[.slice A n c] w fun e w' => e = .returned (.int .i64 (moT l : Nat)) ∧ w = w' := by
  unfold maxLen at hm
  have HL := Lib.hid hl
  have HS := Lib.hid hs
  clear hl hs
  go_enter Try.func22, Try.ntmps22
  go_wp2
  go_loop [3, 8] (fun m i => ∃ (k mo : Nat), k ≤ n ∧ mo ≤ 64 ∧ i = .int .i64 k ∧ m = .int .i64 mo ∧ Hid (mo = moT (l.take k))) (fun _ i => n - (intOf i).toNat)
  case atStart => exact ⟨0, 0, Nat.zero_le _, Nat.zero_le _, rfl, rfl, Lib.hid rfl⟩
  case round =>
    obtain ⟨k, mo, hk, hmo, rfl, rfl, HM⟩ := hrel
    by_cases hlt : k < n
    · obtain ⟨ad, y, rfl, hbl, hy, hcy⟩ := hx.at_ (k := k) (by simp [ni]; rw [HL.out]; exact hlt)
      obtain ⟨x, hxk⟩ : ∃ x, l[k]? = some x := ⟨_, List.getElem?_eq_getElem (by rw [HL.out]; exact hlt)⟩
      rw [ni_at hxk] at hy
      injection hy with hy
      subst hy
      have hx64 := HS.out x (List.mem_of_getElem? hxk)
      have HST := Lib.hid (moT_step hxk)
      clear hxk
      by_cases hgt : mo < x + 1
      · have HM2 : Hid (x + 1 = moT (l.take (k + 1))) := Lib.hid (by rw [HST.out, ← HM.out, Nat.max_eq_right (by omega)])
        go_wp2
        go_round
        case rel => exact ⟨k + 1, x + 1, by omega, by omega, by go_num, by go_num, HM2⟩
        case measure => (simp [intOf]; omega)
      · have HM2 : Hid (mo = moT (l.take (k + 1))) := Lib.hid (by rw [HST.out, ← HM.out, Nat.max_eq_left (by omega)])
        go_wp2
        go_round
        case rel => exact ⟨k + 1, mo, by omega, by omega, by go_num, rfl, HM2⟩
        case measure => (simp [intOf]; omega)
    · have hkn : k = n := by omega
      subst hkn
      have HF : Hid (mo = moT l) := Lib.hid (by rw [HM.out, List.take_of_length_le (by rw [HL.out]; exact Nat.le_refl _)])
      go_wp2
      go_ret
      exact ⟨ret_int (by rw [HF.out]), rfl⟩

end Go.Proofs.Ythmcigdoaededaa
