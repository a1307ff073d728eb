/-
  Postdominators are dominators of the graph turned round, 0 and the one exit changed (H1, F1): no program's text.
-/
import Derived.Test.YtfijkkllfbpepaaPureHang
import Derived.Test.YtfijkkllfbpepaaTurned
namespace Go.Proofs.Ytfijkkllfbpepaa
set_option linter.unusedSimpArgs false
set_option linter.unusedVariables false

/-- 0 and e change places -/
def sw (e i : Nat) : Nat := if i = 0 then e else if i = e then 0 else i

theorem sw_sw (e i : Nat) : sw e (sw e i) = i := by
  unfold sw
  by_cases h0 : i = 0
  · subst h0
    by_cases he : e = 0
    · simp [he]
    · simp [he]
  · by_cases he : i = e
    · subst he; simp [h0]
    · simp [h0, he]

theorem sw_lt {n e i : Nat} (he : e < n) (hi : i < n) : sw e i < n := by
  unfold sw
  split
  · exact he
  · split <;> omega

theorem sw_inj {e i j : Nat} (h : sw e i = sw e j) : i = j := by rw [← sw_sw e i, h, sw_sw]

theorem sw_end (e : Nat) : sw e e = 0 := by
  unfold sw
  by_cases h0 : e = 0 <;> simp [h0]

/-- the rows of the graph turned round and renamed -/
def swR (nx : List (List Int)) (e i : Nat) : List Nat := (trR nx i nx.length).map (sw e)

/-- the graph turned round, 0 and e changed -/
def swG (nx : List (List Int)) (e : Nat) : List (List Int) := (List.range nx.length).map fun k => ni (swR nx e (sw e k))

theorem swG_len (nx : List (List Int)) (e : Nat) : (swG nx e).length = nx.length := by unfold swG; simp

theorem swG_at {nx : List (List Int)} {e k : Nat} (h : k < nx.length) : (swG nx e)[k]? = some (ni (swR nx e (sw e k))) := by
  unfold swG
  rw [List.getElem?_map, List.getElem?_range h]
  rfl

theorem sc_swG {nx : List (List Int)} {e k : Nat} (h : k < nx.length) : sc (swG nx e) k = swR nx e (sw e k) := by
  rw [sc_at (swG_at h)]
  unfold ni
  rw [List.map_map]
  have e1 : (Int.toNat ∘ fun n : Nat => (n : Int)) = id := by funext n; simp
  rw [e1, List.map_id]

theorem sc_swG_out {nx : List (List Int)} {e k : Nat} (h : nx.length ≤ k) : sc (swG nx e) k = [] := sc_out (by rw [swG_len]; exact h)

theorem swR_mem {nx : List (List Int)} {e i x : Nat} : x ∈ swR nx e i ↔ sw e x < nx.length ∧ i ∈ sc nx (sw e x) := by
  unfold swR
  rw [List.mem_map]
  constructor
  · rintro ⟨a, ha, rfl⟩
    rw [sw_sw]
    exact trR_mem.1 ha
  · intro h
    exact ⟨sw e x, trR_mem.2 h, sw_sw e x⟩

section
variable {nx : List (List Int)} {e : Nat}

theorem sw_edge (hc : ckWay nx = 0) (he : e < nx.length) {a b : Nat} : sw e a ∈ sc (swG nx e) (sw e b) ↔ b ∈ sc nx a := by
  rcases Nat.lt_or_ge b nx.length with hb | hb
  · rw [sc_swG (sw_lt he hb), swR_mem, sw_sw, sw_sw]
    refine ⟨fun h => h.2, fun h => ⟨?_, h⟩⟩
    rcases Nat.lt_or_ge a nx.length with ha | ha
    · exact ha
    · rw [sc_out ha] at h; cases h
  · constructor
    · intro h
      have hb2 : nx.length ≤ sw e b := by
        rcases Nat.lt_or_ge (sw e b) nx.length with h2 | h2
        · have := sw_lt he h2
          rw [sw_sw] at this
          omega
        · exact h2
      rw [sc_swG_out hb2] at h
      cases h
    · intro h
      have := sc_lt hc h
      omega

theorem Rea.swap (hc : ckWay nx = 0) (he : e < nx.length) {wo wo' : Int} (hw : ∀ a : Nat, (a : Int) ≠ wo → (sw e a : Int) ≠ wo') {i j : Nat} (h : Rea nx wo i j) : Rea (swG nx e) wo' (sw e j) (sw e i) := by
  induction h with
  | here h => exact .here (hw _ h)
  | @step a b h1 h2 h3 ih => exact ih.back (hw b h3) ((sw_edge hc he).2 h2)

theorem Rea.swapped (hc : ckWay nx = 0) (he : e < nx.length) {wo wo' : Int} (hw : ∀ a : Nat, (a : Int) ≠ wo → (sw e a : Int) ≠ wo') {i j : Nat} (h : Rea (swG nx e) wo i j) : Rea nx wo' (sw e j) (sw e i) := by
  induction h with
  | here h => exact .here (hw _ h)
  | @step a b h1 h2 h3 ih =>
    refine ih.back (hw b h3) ?_
    rw [← sw_edge hc he, sw_sw, sw_sw]
    exact h2

theorem end_one (hc : ckWay nx = 0) (h0 : sc nx e = []) (hu : ∀ j, j < nx.length → sc nx j = [] → j = e) {wo : Int} {i : Nat} (hi : i < nx.length) : EndP nx wo i ↔ Rea nx wo i e := by
  constructor
  · rintro ⟨j, hj, hx⟩
    rw [← hu j (hj.lt hc hi) hx]
    exact hj
  · exact fun h => ⟨e, h, h0⟩

theorem rea_swap (hc : ckWay nx = 0) (he : e < nx.length) {wo wo' : Int} (h1 : ∀ a : Nat, (a : Int) ≠ wo → (sw e a : Int) ≠ wo') (h2 : ∀ a : Nat, (a : Int) ≠ wo' → (sw e a : Int) ≠ wo) (i : Nat) : Rea nx wo i e ↔ Rea (swG nx e) wo' 0 (sw e i) := by
  constructor
  · intro h
    have := h.swap hc he h1
    rw [sw_end] at this
    exact this
  · intro h
    have := h.swapped hc he h2
    rw [sw_sw] at this
    have hz : sw e 0 = e := by rw [← sw_end e, sw_sw]
    rw [hz] at this
    exact this

theorem sw_ne {k a : Nat} (h : (a : Int) ≠ (k : Int)) : (sw e a : Int) ≠ (sw e k : Int) := fun h2 => h (by rw [sw_inj (Int.ofNat.inj h2)])

theorem sw_ne2 {k a : Nat} (h : (a : Int) ≠ (sw e k : Int)) : (sw e a : Int) ≠ (k : Int) := fun h2 => h (by rw [← Int.ofNat.inj h2, sw_sw])

/-- H1 by F1 -/
theorem sure_swap (hc : ckWay nx = 0) (he : e < nx.length) (h0 : sc nx e = []) (hu : ∀ j, j < nx.length → sc nx j = [] → j = e) {i k : Nat} (hi : i < nx.length) : SureP nx i k ↔ Dom (swG nx e) (sw e k) (sw e i) := by
  unfold SureP Dom
  rw [end_one hc h0 hu hi, end_one hc h0 hu hi, rea_swap hc he (wo := -1) (wo' := -1) (fun a _ => nat_ne _) (fun a _ => nat_ne _) i, rea_swap hc he (wo := (k : Int)) (wo' := (sw e k : Int)) (fun a => sw_ne) (fun a => sw_ne2) i]
  constructor
  · rintro ⟨h1, h2⟩
    rcases h2 with rfl | h2
    · exact ⟨h1, h1, .inl rfl⟩
    · refine ⟨?_, h1, .inr h2⟩
      rcases h1.by_ (b := sw e k) with h3 | h3
      · exact h3
      · exact absurd h3 h2
  · rintro ⟨_, h1, h2⟩
    refine ⟨h1, ?_⟩
    rcases h2 with h2 | h2
    · exact .inl (sw_inj h2).symm
    · exact .inr h2

end

end Go.Proofs.Ytfijkkllfbpepaa
