/-
  codemasonref.Words: equal lists are told equal; point.Within for any statements (V2).
-/
import Derived.Test.YtfbnmgnkigfgpaaPtInc
namespace Go.Proofs.Ytfbnmgnkigfgpaa
open Go.RowKit
set_option linter.unusedSimpArgs false
set_option linter.unusedVariables false
set_option maxRecDepth 100000

set_option maxHeartbeats 1000000 in
theorem wordsQ_same (A B : Option Addr) (n ca cb : Nat) (xs : List Nat) (w : World) (hx : RdU w w.heap.size A xs) (hy : RdU w w.heap.size B xs) (hl : xs.length = n) (hm : n ≤ maxLen) :
    Calls Try.prog 11 #[.slice A n ca, .slice B n cb] w fun e w' => e = .returned (.bool true) ∧ Below w.heap.size w w' := by
  unfold maxLen at hm
  have HL := Lib.hid hl
  clear hl
  go_enter Try.func11, Try.ntmps11
  go_wp2
  go_loopw [5] (fun i wr => ∃ k : Nat, k ≤ n ∧ i = .int .i64 k ∧ Below w.heap.size w wr) (fun i _ => n - (intOf i).toNat)
  case atStart => exact ⟨0, Nat.zero_le _, rfl, Below.refl _ _⟩
  case round =>
    obtain ⟨k, hk, rfl, hb⟩ := hrel
    have hsz := hb.size
    by_cases hlt : k < n
    · obtain ⟨ad, x, rfl, hbl, hd, hc0⟩ := (hx.below hb (Nat.le_refl _)).at_ (k := k) (by rw [HL.out]; exact hlt)
      obtain ⟨ad2, x2, rfl, hbl2, hd2, hd0⟩ := (hy.below hb (Nat.le_refl _)).at_ (k := k) (by rw [HL.out]; exact hlt)
      rw [hd] at hd2
      injection hd2 with hd2
      subst hd2
      clear hd
      go_wp2
      go_region
      all_goals
        go_wp2
        go_round
        case rel => exact ⟨k + 1, by omega, by go_num, by go_grown⟩
        case measure => (simp [intOf]; omega)
    · go_wp2
      go_ret
      exact ⟨rfl, hb⟩

/-- what is told of sets: of right statements the least relation, else nothing -/
def ToldS (R : List Qt → Nat → Nat → Nat → Prop) (n : Int) (l : List Pz) (m : Nat) (S : List Nat) : Prop :=
  S.length = m ∧ (ckPz n l ≠ 0 → m = 0) ∧ ∀ (k : Nat) (q : List Qt), n = (k : Int) → l = qI q → ckPz n l = 0 → m = k ∧ Tel k (R q k) S

theorem qI_inj : ∀ {a b : List Qt}, qI a = qI b → a = b
  | [], [], _ => rfl
  | [], _ :: _, h => by simp [qI] at h
  | _ :: _, [], h => by simp [qI] at h
  | x :: a, y :: b, h => by
    have h' : (⟨(x.k : Int), (x.t : Int), (x.f : Int)⟩ : Pz) :: qI a = ⟨(y.k : Int), (y.t : Int), (y.f : Int)⟩ :: qI b := h
    injection h' with h1 h2
    injection h1 with e1 e2 e3
    rw [qI_inj h2]
    have : x = y := by
      cases x; cases y
      simp only at e1 e2 e3
      have e1 := Int.ofNat.inj e1
      have e2 := Int.ofNat.inj e2
      have e3 := Int.ofNat.inj e3
      subst e1 e2 e3
      rfl
    rw [this]

theorem within_told (n : Int) (A : Option Addr) (len cap : Nat) (l : List Pz) (w : World) (hx : RdPz w w.heap.size A l) (hl : l.length = len) (hm : len ≤ maxLen) :
    Calls Try.prog 9 #[.int .i64 n, .slice A len cap] w fun e w' => ∃ (S : List Nat) (A' : Option Addr) (m c' : Nat), e = .returned (.tuple #[.slice A' m c', .int .i64 (ckPz n l)]) ∧ RdU w' w'.heap.size A' S ∧ ToldS (fun q _ => An q) n l m S ∧ Below w.heap.size w w' := by
  by_cases hc : ckPz n l = 0
  · obtain ⟨k, q, rfl, k1, k8, rfl, q12, hq⟩ := ckPz_ok hc
    have hql : q.length = len := by rw [← qI_len]; exact hl
    refine (within_any k A len cap q w hx hql hq k1 k8 (by omega)).mono ?_
    rintro e w' ⟨S, A', c', hT, he, hr, hb⟩
    refine ⟨S, A', k, c', by rw [hc]; exact he, hr, ⟨hT.len, fun h => absurd hc h, fun k' q' hk hq' _ => ?_⟩, hb⟩
    have e1 : k = k' := by omega
    have e2 := qI_inj hq'
    subst e1 e2
    exact ⟨rfl, hT⟩
  · refine (within_bad n A len cap l w hx hl hm hc).mono ?_
    rintro e w' ⟨he, hb⟩
    exact ⟨[], none, 0, 0, he, fun h => by simp at h, ⟨rfl, fun _ => rfl, fun _ _ _ _ h => absurd h hc⟩, hb⟩

end Go.Proofs.Ytfbnmgnkigfgpaa
