/-
  A list that has each number below n just once, told by naturals (O1).
-/
import Derived.Test.YthmcigdoaededaaDoorHasC
import Derived.Test.YthmcigdoaededaaDoorPureColor
import Derived.Test.YthmcigdoaededaaDoorSwapMv
namespace Go.Proofs.YthmcigdoaededaaDoor
set_option linter.unusedSimpArgs false
set_option linter.unusedVariables false

theorem once_natG {n : Nat} {o : List Int} (h : OnceI n o) : ∃ q : List Nat, o = ni q ∧ OrdK n q := by
  obtain ⟨h1, h2⟩ := h
  have hsub : ∀ (k : Nat) (o : List Int), o.length = k → (∀ i : Nat, i < k → (i : Int) ∈ o) → ∀ x ∈ o, 0 ≤ x := by
    intro k
    induction k with
    | zero => intro o hl _ x hx; rw [List.eq_nil_of_length_eq_zero hl] at hx; cases hx
    | succ k ih =>
      intro o hl ho x hx
      have hk := ho k (by omega)
      have h3 := List.length_erase_of_mem hk
      by_cases hxk : x = (k : Int)
      · omega
      · exact ih (o.erase (k : Int)) (by omega) (fun i hi => (List.mem_erase_of_ne (by omega)).2 (ho i (by omega))) x ((List.mem_erase_of_ne hxk).2 hx)
  have hpos := hsub n o (by omega) fun i hi => h2 i (by omega)
  have he : o = ni (o.map Int.toNat) := by
    unfold ni
    rw [List.map_map]
    have : o.map ((fun n : Nat => (n : Int)) ∘ Int.toNat) = o.map id := List.map_congr_left fun x hx => by
      have := hpos x hx
      simp only [Function.comp, id]
      omega
    rw [this, List.map_id]
  refine ⟨o.map Int.toNat, he, ?_, fun i hi => ?_⟩
  · rw [List.length_map]; omega
  · have h3 := h2 i (by omega)
    exact List.mem_map.2 ⟨(i : Int), h3, by simp⟩

theorem once_ofG {n : Nat} {q : List Nat} (h : OrdK n q) : OnceI n (ni q) := ⟨by rw [ni_len2, h.len], fun i hi => ni_mem.2 (h.all i (by omega))⟩

end Go.Proofs.YthmcigdoaededaaDoor
