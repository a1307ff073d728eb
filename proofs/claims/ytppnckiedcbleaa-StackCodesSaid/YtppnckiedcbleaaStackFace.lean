/-
  What package stack's functions give, in plain words (C1, C2): no program.
-/
import Derived.Test.YtppnckiedcbleaaPureStack
namespace Go.Proofs.Ytppnckiedcbleaa
set_option linter.unusedSimpArgs false
set_option linter.unusedVariables false

/-- C1: the code of Run -/
def ckSRun (vars : Int) (c : List So) (xs : List Int) : Int := if ckStk vars c = 0 then ckHave vars xs else ckStk vars c

/-- C1: what Deep gives -/
def deepR (c : List So) : Int := if ckStack (-1) c = 0 then (dpF c 0 0 : Nat) else 0

/-- C2: the code of Back -/
def ckBack (vars : Int) (c : List So) : Int :=
  if ckStk vars c = 0 then (if c.length < 1 ∨ 16 < c.length then 1 else if (bkR c).length = 1 then 0 else 3) else ckStk vars c

theorem ckStk_ok {vars : Int} {c : List So} (h : ckStk vars c = 0) : 0 ≤ vars ∧ vars ≤ 6 ∧ c.length ≤ 40 ∧ ckSoF vars 0 c = 0 := by
  unfold ckStk at h
  split at h
  · omega
  · unfold ckStack at h
    split at h
    · omega
    · exact ⟨by omega, by omega, by omega, h⟩

theorem ckStk_of {vars : Int} {c : List So} (h0 : 0 ≤ vars) (h : ckStack vars c = 0) : ckStk vars c = 0 := by
  unfold ckStk
  rw [if_neg (by omega), h]

theorem ckSRun_ok {vars : Int} {c : List So} {xs : List Int} (h : ckSRun vars c xs = 0) : ckStk vars c = 0 ∧ ckHave vars xs = 0 := by
  unfold ckSRun at h
  split at h
  · exact ⟨by assumption, h⟩
  · exact absurd h (by assumption)

theorem ckBack_ok {vars : Int} {c : List So} (h : ckBack vars c = 0) : ckStk vars c = 0 ∧ 0 < c.length ∧ c.length ≤ 16 ∧ (bkR c).length = 1 := by
  unfold ckBack at h
  split at h
  · split at h
    · omega
    · split at h
      · exact ⟨by assumption, by omega, by omega, by assumption⟩
      · omega
  · exact absurd h (by assumption)

/-- heights on the way -/
def DpAt (vars : Int) (c : List So) (k d m : Nat) : Prop := dpF c 0 0 = dpF (c.drop k) d m ∧ ckSoF vars d (c.drop k) = 0 ∧ d ≤ k ∧ m ≤ k

theorem DpAt.start {vars : Int} {c : List So} (h : ckSoF vars 0 c = 0) : DpAt vars c 0 0 0 := ⟨rfl, h, Nat.le_refl _, Nat.le_refl _⟩

theorem DpAt.ck {vars : Int} {c : List So} {k d m : Nat} {o v : Int} (h : DpAt vars c k d m) (hd : c.drop k = ⟨o, v⟩ :: c.drop (k + 1)) : ckSo vars d o v = 0 := by
  have h2 := h.2.1
  rw [hd] at h2
  unfold ckSoF at h2
  split at h2
  · assumption
  · exact absurd h2 (by assumption)

theorem DpAt.step {vars : Int} {c : List So} {k d m d1 m1 : Nat} {o v : Int} (h : DpAt vars c k d m) (hd : c.drop k = ⟨o, v⟩ :: c.drop (k + 1)) (h1 : d1 = nxD d o) (h2 : m1 = max m d1) : DpAt vars c (k + 1) d1 m1 := by
  have hck := h.ck hd
  have hcs := ckSo_cases hck
  obtain ⟨g1, g2, g3, g4⟩ := h
  have hn : nxD d o ≤ k + 1 := by unfold nxD; split <;> omega
  refine ⟨by rw [g1, hd, dpF, h2, h1], ?_, by omega, by omega⟩
  rw [hd, ckSoF_go hck, ← h1] at g2
  exact g2

theorem DpAt.done {vars : Int} {c : List So} {d m : Nat} (h : DpAt vars c c.length d m) : dpF c 0 0 = m := by
  rw [h.1, List.drop_of_length_le (Nat.le_refl _)]; rfl

end Go.Proofs.Ytppnckiedcbleaa
