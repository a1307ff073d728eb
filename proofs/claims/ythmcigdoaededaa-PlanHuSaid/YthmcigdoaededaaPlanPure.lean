/-
  Tasks, as they may be (Q1): chains, levels.
-/
import Derived.Test.YthmcigdoaededaaPureTurns
import Derived.Test.YthmcigdoaededaaBehinds
import Derived.Test.YthmcigdoaededaaReachB
namespace Go.Proofs.Ythmcigdoaededaa
set_option linter.unusedSimpArgs false
set_option linter.unusedVariables false

theorem bhG_way {n : Nat} {ps : List (Nat × Nat)} (h1 : 1 ≤ n) (h8 : n ≤ 8) (hl : ps.length ≤ 28) (hi : ∀ p ∈ ps, p.1 < n ∧ p.2 < n) : WayB (bhG n ps) := by
  refine ⟨by rw [bhG_len]; exact h1, by rw [bhG_len]; exact h8, fun r hr => ?_⟩
  obtain ⟨j, hj, rfl⟩ := List.mem_map.1 hr
  refine ⟨by have := bhL_len ps j; simp [ni]; omega, fun x hx => ?_⟩
  obtain ⟨y, hy, rfl⟩ := List.mem_map.1 hx
  have := (hi _ (bhL_mem.1 hy)).2
  rw [bhG_len]
  simp at this
  omega

theorem bhG_sc {n : Nat} {ps : List (Nat × Nat)} {i : Nat} (h : i < n) : sc (bhG n ps) i = bhL ps i := by
  rw [sc_at (bhG_at ps h)]
  unfold ni
  rw [List.map_map]
  have e : (Int.toNat ∘ fun n : Nat => (n : Int)) = id := by funext n; simp
  rw [e, List.map_id]

/-- a chain closes -/
def Round (n : Nat) (ps : List (Nat × Nat)) : Prop := ∃ a b, a < n ∧ (a, b) ∈ ps ∧ Rea (bhG n ps) (-1) b a

/-- tasks, as they may be -/
structure TkOk (n : Nat) (ps : List (Nat × Nat)) : Prop where
  pos : 1 ≤ n
  small : n ≤ 8
  short : ps.length ≤ 28
  ins : ∀ p ∈ ps, p.1 < n ∧ p.2 < n
  open_ : ¬ Round n ps

theorem TkOk.rank {n : Nat} {ps : List (Nat × Nat)} (h : TkOk n ps) : ∃ r : Nat → Nat, (∀ i, r i ≤ n) ∧ ∀ a b, (a, b) ∈ ps → r b < r a := by
  obtain ⟨r, h1, h2⟩ := rank_of (n := n) (pr := fun a b => (a, b) ∈ ps) (T := fun a j => ∃ b, (a, b) ∈ ps ∧ Rea (bhG n ps) (-1) b j) (fun a b hp => ⟨b, hp, Rea.me _ _⟩) (fun a b c hp ⟨d, hd, hr⟩ => ⟨b, hp, (Rea.edge (nat_ne b) (by rw [bhG_sc (h.ins _ hp).2]; exact bhL_mem.2 hd) (nat_ne d)).trans hr⟩) (fun a ha ⟨b, hp, hr⟩ => h.open_ ⟨a, b, ha, hp, hr⟩)
  exact ⟨r, h1, fun a b hp => h2 a b (h.ins _ hp).1 (h.ins _ hp).2 hp⟩

/-- the level of each -/
def lvT (n : Nat) (ps : List (Nat × Nat)) : Nat → Nat := levF (bhL ps) (n + 1)

theorem TkOk.lev {n : Nat} {ps : List (Nat × Nat)} (h : TkOk n ps) : Lev n (fun a b => (a, b) ∈ ps) (lvT n ps) := by
  obtain ⟨r, h1, h2⟩ := h.rank
  exact lev_of (r := r) (fun a b hb => (h.ins _ (bhL_mem.1 hb)).2) (fun a b _ hb => h2 a b (bhL_mem.1 hb)) h1 fun a b _ _ => bhL_mem.symm

theorem TkOk.lev_step {n : Nat} {ps : List (Nat × Nat)} (h : TkOk n ps) {i : Nat} (hi : i < n) : lvT n ps i = mxL ((bhL ps i).map (lvT n ps)) + 1 := by
  obtain ⟨r, h1, h2⟩ := h.rank
  exact levF_step (r := r) (fun a b hb => (h.ins _ (bhL_mem.1 hb)).2) (fun a b _ hb => h2 a b (bhL_mem.1 hb)) h1 hi

theorem TkOk.lev_le {n : Nat} {ps : List (Nat × Nat)} (h : TkOk n ps) {i : Nat} (hi : i < n) : lvT n ps i ≤ n := by
  have h1 := h.lev.chain (sch_line h.lev (Nat.le_refl 1)) (lvT n ps i) i hi (Nat.le_refl _)
  omega

theorem TkOk.fewest {n m : Nat} {ps : List (Nat × Nat)} (h : TkOk n ps) (hm : 1 ≤ m) : ∃ k, Fewest n m (fun a b => (a, b) ∈ ps) k ∧ 1 ≤ k ∧ k ≤ n := by
  have h0 : ∃ f, Sch n m (fun a b => (a, b) ∈ ps) n f := ⟨_, sch_line h.lev hm⟩
  have : ∀ q k, k ≤ q → (∃ f, Sch n m (fun a b => (a, b) ∈ ps) k f) → ∃ k', Fewest n m (fun a b => (a, b) ∈ ps) k' ∧ k' ≤ k := by
    intro q
    induction q with
    | zero => exact fun k hk hf => ⟨k, ⟨hf, fun k' f' _ => by omega⟩, Nat.le_refl _⟩
    | succ q ih =>
      intro k hk hf
      by_cases hl : ∃ k', k' < k ∧ ∃ f, Sch n m (fun a b => (a, b) ∈ ps) k' f
      · obtain ⟨k', h1, h2⟩ := hl
        obtain ⟨k2, h3, h4⟩ := ih k' (by omega) h2
        exact ⟨k2, h3, by omega⟩
      · exact ⟨k, ⟨hf, fun k' f' h' => Nat.le_of_not_lt fun h2 => hl ⟨k', h2, f', h'⟩⟩, Nat.le_refl _⟩
  obtain ⟨k, h1, h2⟩ := this n n (Nat.le_refl _) h0
  refine ⟨k, h1, ?_, h2⟩
  obtain ⟨f, hf⟩ := h1.can
  have := hf.lt 0 h.pos
  omega

end Go.Proofs.Ythmcigdoaededaa
