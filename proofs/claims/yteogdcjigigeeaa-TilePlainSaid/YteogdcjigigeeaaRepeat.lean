/-
  slices.Repeat of one int, few times; math/bits.Mul of 1.
-/
import Derived.Test.YteogdcjigigeeaaMBase
import Derived.Laws.CopyOwn
import Derived.Deep.RegionLaw
import Derived.Deep.Cut
namespace Go.Proofs.Yteogdcjigigeeaa
open Go.RowKit
set_option linter.unusedSimpArgs false
set_option linter.unusedVariables false
set_option maxRecDepth 100000

set_option maxHeartbeats 1000000 in
theorem mul64_any (n : Nat) (h1 : 1 ≤ n) (h8 : n ≤ 16) (w : World) :
    Calls Try.prog 35 #[.int .u64 1, .int .u64 n] w fun e w' => e = .returned (.tuple #[.int .u64 0, .int .u64 n]) ∧ w = w' := by
  have h : n = 1 ∨ n = 2 ∨ n = 3 ∨ n = 4 ∨ n = 5 ∨ n = 6 ∨ n = 7 ∨ n = 8 ∨ n = 9 ∨ n = 10 ∨ n = 11 ∨ n = 12 ∨ n = 13 ∨ n = 14 ∨ n = 15 ∨ n = 16 := by omega
  clear h1 h8
  rcases h with rfl | rfl | rfl | rfl | rfl | rfl | rfl | rfl | rfl | rfl | rfl | rfl | rfl | rfl | rfl | rfl
  all_goals
    (go_enter Try.func35, Try.ntmps35
     go_wp2
     go_ret2
     exact ⟨by kernel_rfl, rfl⟩)

set_option maxHeartbeats 1000000 in
theorem mul_any (n : Nat) (h1 : 1 ≤ n) (h8 : n ≤ 16) (w : World) :
    Calls Try.prog 25 #[.int .u64 1, .int .u64 n] w fun e w' => e = .returned (.tuple #[.int .u64 0, .int .u64 n]) ∧ w = w' := by
  have HM := Lib.hid (mul64_any n h1 h8)
  go_enter Try.func25, Try.ntmps25
  go_wp2_with fail
  refine (HM.out _).mono ?_
  rintro e w1 ⟨rfl, rfl⟩
  go_wp2
  go_ret2
  exact ⟨rfl, rfl⟩

theorem rep_splice (x : Int) (n k d : Nat) (h : k + d ≤ n) : splice (iv (List.replicate k x) ++ iv (List.replicate (n - k) 0)) k (iv (List.replicate d x)) = iv (List.replicate (k + d) x) ++ iv (List.replicate (n - (k + d)) 0) := by
  unfold splice iv
  simp only [List.map_replicate]
  rw [List.take_append_of_le_length (by simp), List.take_of_length_le (by simp), List.drop_append, ← List.append_assoc, List.replicate_append_replicate]
  rw [List.drop_of_length_le (by simp)]
  simp only [List.nil_append, List.length_replicate, List.drop_replicate]
  congr 2
  omega

set_option maxHeartbeats 4000000 in
theorem repeat16_any (x : Int) (n : Nat) (h1 : 1 ≤ n) (h8 : n ≤ 16) (p : Addr) (c : Nat) (w : World) (hx : w.cell? p = some (.int .i64 x)) (hpb : p.block < w.heap.size) :
    Calls Try.prog 17 #[.slice (some p) 1 c, .int .i64 n] w fun e w' => e = .returned (.slice (some ⟨w.heap.size, 0, none⟩) n n) ∧ Own w' w.heap.size 3 (iv (List.replicate n x)) ∧ Below w.heap.size w w' := by
  have HM := Lib.hid (mul_any n h1 h8 w)
  have HK := make_ints (P := Try.prog) 30 3 Try.underlying30 (by kernel_rfl) n (by omega)
  have e1 : IntKind.u64.wrap (n : Int) = (n : Int) := by rw [IntKind.wrap_u64]; omega
  have e2 : IntKind.i64.wrap (n : Int) = (n : Int) := by rw [IntKind.wrap_i64]; omega
  go_enter Try.func17, Try.ntmps17
  go_wp2_with fail
  refine HM.out.mono ?_
  rintro e w1 ⟨rfl, rfl⟩
  have hO : Own (w.alloc (.cells (iv (List.replicate n 0)).toArray 3)) w.heap.size 3 (iv (List.replicate 0 x) ++ iv (List.replicate (n - 0) 0)) := Own.new w 3 (iv (List.replicate n 0))
  have hbo : Below w.heap.size w (w.alloc (.cells (iv (List.replicate n 0)).toArray 3)) := by go_grown
  have hso : (w.alloc (.cells (iv (List.replicate n 0)).toArray 3)).heap.size = w.heap.size + 1 := by simp
  have hcell : (w.alloc (.cells (iv (List.replicate n 0)).toArray 3)).cell? p = some (.int .i64 x) := (hbo.cell hpb).trans hx
  go_upto_region 7 with fail
  obtain ⟨wo, hwo⟩ : ∃ wo, wo = w.alloc (.cells (iv (List.replicate n 0)).toArray 3) := ⟨_, rfl⟩
  rw [← hwo] at hO hbo hso hcell ⊢
  clear hwo HM HK
  have hmin : (iv (List.replicate 1 x)).length = Nat.min 1 n := by
    show 1 = min 1 n
    omega
  have hfit : 0 + (iv (List.replicate 1 x)).length ≤ (iv (List.replicate 0 x) ++ iv (List.replicate (n - 0) 0)).length := by
    simp [iv]
    omega
  have hsrc : ∀ j v, (iv (List.replicate 1 x))[j]? = some v → wo.cell? (p.add j) = some v := fun j v hj => by
    cases j with
    | zero => simp [iv] at hj; subst hj; exact hcell
    | succ j => simp [iv] at hj
  have hcp := run_copy_row (P := Try.prog) wo 30 30 3 3 w.heap.size 0 n n p 1 c _ 3 (iv (List.replicate 1 x)) Try.underlying30 (by kernel_rfl) hO hmin hsrc (by simpa using hfit) (iv_one _)
  obtain ⟨w2, hw2⟩ : ∃ w2, w2 = wo.setRow w.heap.size ((iv (List.replicate 0 x) ++ iv (List.replicate (n - 0) 0)).toArray.toList.take 0 ++ iv (List.replicate 1 x) ++ (iv (List.replicate 0 x) ++ iv (List.replicate (n - 0) 0)).toArray.toList.drop (0 + (iv (List.replicate 1 x)).length)).toArray := ⟨_, rfl⟩
  rw [← hw2] at hcp
  have hrow : (iv (List.replicate 0 x) ++ iv (List.replicate (n - 0) 0)).toArray.toList.take 0 ++ iv (List.replicate 1 x) ++ (iv (List.replicate 0 x) ++ iv (List.replicate (n - 0) 0)).toArray.toList.drop (0 + (iv (List.replicate 1 x)).length) = iv (List.replicate 1 x) ++ iv (List.replicate (n - 1) 0) := by simp [iv]
  have hO2 : Own w2 w.heap.size 3 (iv (List.replicate 1 x) ++ iv (List.replicate (n - 1) 0)) := by
    rw [hw2, hrow]
    exact setRow_heap wo w.heap.size _ _ 3 _ hO
  have hb2 : Below w.heap.size w w2 := by rw [hw2]; exact below_setRow hbo (Nat.le_refl _) _
  have e3 : (goInt ↑(iv (List.replicate 1 x)).length) = .int .i64 1 := rfl
  rw [e3] at hcp
  have hs2 : w.heap.size < w2.heap.size := hO2.lt
  clear hw2 hO hbo hso hcell hsrc hmin hfit hrow
  go_wp2
  go_loopw [8] (fun s wr => ∃ k : Nat, 1 ≤ k ∧ k ≤ n ∧ s = .int .i64 k ∧ Own wr w.heap.size 3 (iv (List.replicate k x) ++ iv (List.replicate (n - k) 0)) ∧ Below w.heap.size w wr) (fun s _ => n - (intOf s).toNat)
  case atStart => exact ⟨1, Nat.le_refl _, h1, rfl, hO2, hb2⟩
  case round =>
    obtain ⟨k, hk1, hkn, rfl, hO, hb⟩ := hrel
    by_cases hlt : k < n
    · obtain ⟨d, hd⟩ : ∃ d, min k (n - k) = d := ⟨_, rfl⟩
      have hd1 : 1 ≤ d := by omega
      have hdn : k + d ≤ n := by omega
      have hdn2 : (iv (List.replicate d x)).length = Nat.min k (n - k) := by rw [← hd]; simp [iv]
      have hfit : k + (iv (List.replicate d x)).length ≤ (iv (List.replicate k x) ++ iv (List.replicate (n - k) 0)).length := by
        simp [iv]
        omega
      have hsrc : ∀ j v, (iv (List.replicate d x))[j]? = some v → wr.cell? ((⟨w.heap.size, 0, none⟩ : Addr).add j) = some v := fun j v hj => by
        have hjd : j < d := by
          have := (List.getElem?_eq_some_iff.1 hj).1
          simpa [iv] using this
        have ha : (⟨w.heap.size, 0, none⟩ : Addr).add j = ⟨w.heap.size, j, none⟩ := by unfold Addr.add; split <;> simp_all
        rw [ha]
        refine hO.cell ?_
        have hjk : j < k := by omega
        rw [List.getElem?_append_left (by simpa [iv] using hjk), ← hj]
        simp [iv, hjd, hjk]
      have hnx := rep_splice x n k d hdn
      have hz : (Try.prog.info? 3).map (·.size) = some 1 := by kernel_rfl
      have f1 : (k : Int) ≤ (n : Int) := by omega
      have f2 : (k : Int) < (n : Int) := by omega
      have f3 : (0 : Int) ≤ (k : Int) := by omega
      have f4 : ¬ (n = k) := by omega
      have f5 : ¬ (k = 0) := by omega
      have f6 : IntKind.i64.wrap ((k : Int) + (d : Int)) = ((k + d : Nat) : Int) := by rw [IntKind.wrap_i64]; omega
      have f7 : (goInt ↑(iv (List.replicate d x)).length) = .int .i64 (d : Int) := by simp [iv, goInt]
      have hcp := run_copy_row (P := Try.prog) wr.drew 30 30 3 3 w.heap.size k (n - k) (n - k) ⟨w.heap.size, 0, none⟩ k n _ 3 (iv (List.replicate d x)) Try.underlying30 hz hO.drew hdn2 hsrc (by simpa using hfit) (iv_one _)
      obtain ⟨w4, hw4⟩ : ∃ w4, w4 = wr.drew.setRow w.heap.size ((iv (List.replicate k x) ++ iv (List.replicate (n - k) 0)).toArray.toList.take k ++ iv (List.replicate d x) ++ (iv (List.replicate k x) ++ iv (List.replicate (n - k) 0)).toArray.toList.drop (k + (iv (List.replicate d x)).length)).toArray := ⟨_, rfl⟩
      rw [← hw4, f7] at hcp
      have hO4 : Own w4 w.heap.size 3 (iv (List.replicate (k + d) x) ++ iv (List.replicate (n - (k + d)) 0)) := by
        rw [hw4, ← hnx]
        unfold splice
        rw [← List.append_assoc]
        exact setRow_heap wr.drew w.heap.size _ _ 3 _ hO.drew
      have hb4 : Below w.heap.size w w4 := by rw [hw4]; exact below_setRow hb.drew (Nat.le_refl _) _
      have HD := Lib.hid hd
      clear hnx hd hw4 hfit hsrc hdn2 hz f7
      go_wp2
      go_region
      all_goals (
        go_wp2
        go_round
        case rel => exact ⟨k + d, by omega, hdn, by go_num, hO4, hb4⟩
        case measure => (simp [intOf]; omega))
    · have hkn2 : k = n := by omega
      subst hkn2
      go_wp2
      go_ret
      exact ⟨rfl, by simpa [iv] using hO, hb⟩

theorem repeat_any (x : Int) (n : Nat) (h1 : 1 ≤ n) (h8 : n ≤ 8) (p : Addr) (c : Nat) (w : World) (hx : w.cell? p = some (.int .i64 x)) (hpb : p.block < w.heap.size) :
    Calls Try.prog 17 #[.slice (some p) 1 c, .int .i64 n] w fun e w' => e = .returned (.slice (some ⟨w.heap.size, 0, none⟩) n n) ∧ Own w' w.heap.size 3 (iv (List.replicate n x)) ∧ Below w.heap.size w w' :=
  repeat16_any x n h1 (Nat.le_trans h8 (by omega)) p c w hx hpb

end Go.Proofs.Yteogdcjigigeeaa
