/-
  codemasonref.Walk (E2): the search in depth, what was seen and what was left.
-/
import Derived.Test.YtgcjknibelfjbaaMBase
import Derived.Test.YtgcjknibelfjbaaMPure
namespace Go.Proofs.Ytgcjknibelfjbaa
open Go.RowKit
set_option linter.unusedSimpArgs false
set_option linter.unusedVariables false
set_option maxRecDepth 100000

structure Wl (w : World) (B : Nat) (s : Sn) (A1 : Option Addr) (c1 : Nat) (A2 : Option Addr) (c2 : Nat) : Prop where
  r1 : w.ownsRow B 3 1 (.slice A1 s.1.length c1) s.1.length (iv (ni s.1))
  r2 : w.ownsRow B 3 1 (.slice A2 s.2.length c2) s.2.length (iv (ni s.2))
  ap : ∀ g, (Value.slice A1 s.1.length c1).ownBlock = some g → (Value.slice A2 s.2.length c2).ownBlock ≠ some g
  sz : B ≤ w.heap.size

section
variable {X Y : World} {B : Nat} {s : Sn} {A1 A2 : Option Addr} {c1 c2 : Nat}

theorem Wl.nil {w : World} {B : Nat} (h : B ≤ w.heap.size) : Wl w B ([], []) none 0 none 0 := ⟨World.ownsRow_nil _ _ _ _, World.ownsRow_nil _ _ _ _, (fun g h => by simp [Value.ownBlock] at h), h⟩

theorem Wl.quiet (h : Wl X B s A1 c1 A2 c2) (hb : Below X.heap.size X Y) : Wl Y B s A1 c1 A2 c2 := ⟨own_below h.r1 hb, own_below h.r2 hb, h.ap, Nat.le_trans h.sz hb.size⟩

theorem ownBlock_len {A : Option Addr} {n m c d : Nat} : (Value.slice A n c).ownBlock = (Value.slice A m d).ownBlock := by
  cases A <;> rfl

theorem Wl.seen (h : Wl X B s A1 c1 A2 c2) {x : Nat} {A' : Option Addr} {c' : Nat} (ho : Y.ownsRow B 3 1 (.slice A' (s.1.length + 1) c') (s.1.length + 1) (iv (ni s.1) ++ [.int .i64 (x : Int)]))
    (hg : X.grownBy Y (Value.slice A1 s.1.length c1).ownBlock) (hp : (Value.slice A' (s.1.length + 1) c').ownBlock = (Value.slice A1 s.1.length c1).ownBlock ∨ (Value.slice A' (s.1.length + 1) c').ownBlock = some X.heap.size) :
    Wl Y B (s.1 ++ [x], s.2) A' c' A2 c2 := by
  have e : (s.1 ++ [x]).length = s.1.length + 1 := by simp
  refine ⟨?_, h.r2.kept hg ?_, fun g hg1 hg2 => ?_, Nat.le_trans h.sz hg.size⟩
  · simp only [e, ni_append, iv_append]
    exact ho
  · cases he : (Value.slice A2 s.2.length c2).ownBlock with
    | none => exact .inl rfl
    | some g => exact .inr fun e => h.ap g e.symm he
  · simp only [e] at hg1
    rcases hp with hp | hp
    · exact h.ap g (by rw [← hp]; exact hg1) hg2
    · rw [hp] at hg1
      injection hg1 with hg1
      have := (h.r2.lt g hg2).2
      omega

theorem Wl.left (h : Wl X B s A1 c1 A2 c2) {x : Nat} {A' : Option Addr} {c' : Nat} (ho : Y.ownsRow B 3 1 (.slice A' (s.2.length + 1) c') (s.2.length + 1) (iv (ni s.2) ++ [.int .i64 (x : Int)]))
    (hg : X.grownBy Y (Value.slice A2 s.2.length c2).ownBlock) (hp : (Value.slice A' (s.2.length + 1) c').ownBlock = (Value.slice A2 s.2.length c2).ownBlock ∨ (Value.slice A' (s.2.length + 1) c').ownBlock = some X.heap.size) :
    Wl Y B (s.1, s.2 ++ [x]) A1 c1 A' c' := by
  have e : (s.2 ++ [x]).length = s.2.length + 1 := by simp
  refine ⟨h.r1.kept hg ?_, ?_, fun g hg1 hg2 => ?_, Nat.le_trans h.sz hg.size⟩
  · cases he : (Value.slice A1 s.1.length c1).ownBlock with
    | none => exact .inl rfl
    | some g => exact .inr fun e => h.ap g he e.symm
  · simp only [e, ni_append, iv_append]
    exact ho
  · simp only [e] at hg2
    rcases hp with hp | hp
    · exact h.ap g hg1 (by rw [← hp]; exact hg2)
    · rw [hp] at hg2
      injection hg2 with hg2
      have := (h.r1.lt g hg1).2
      omega

theorem Wl.below1 (h : Wl X B s A1 c1 A2 c2) (hg : X.grownBy Y (Value.slice A1 s.1.length c1).ownBlock) : Below B X Y := (Below.refl _ X).grown hg h.sz fun g hg => (h.r1.lt g hg).1

theorem Wl.below2 (h : Wl X B s A1 c1 A2 c2) (hg : X.grownBy Y (Value.slice A2 s.2.length c2).ownBlock) : Below B X Y := (Below.refl _ X).grown hg h.sz fun g hg => (h.r2.lt g hg).1

end

/-- where the search is behind k of i's edges -/
def wkK (nx : List (List Int)) (f i : Nat) (s : Sn) (k : Nat) : Sn := ((sc nx i).take k).foldl (wkJ nx f) (s.1 ++ [i], s.2)

theorem wkK_next {nx : List (List Int)} {f i k x : Nat} {s : Sn} (h : (sc nx i)[k]? = some x) : wkK nx f i s (k + 1) = wkJ nx f (wkK nx f i s k) x := by
  unfold wkK
  rw [List.take_add_one, h, Option.toList_some, List.foldl_append]
  rfl

theorem wkK_all {nx : List (List Int)} {f i : Nat} {s : Sn} : wkF nx (f + 1) i s = ((wkK nx f i s (sc nx i).length).1, (wkK nx f i s (sc nx i).length).2 ++ [i]) := by
  rw [wkF_succ]
  unfold wkK
  rw [List.take_length]

theorem wa_step {nx : List (List Int)} {f i : Nat} {s : Sn} (ha : Wa nx (f + 1) s) (hi : i < nx.length) (hin : i ∉ s.1) : Wa nx f (s.1 ++ [i], s.2) := by
  refine ⟨?_, fun x hx => ?_, ?_⟩
  · rw [List.nodup_append]
    exact ⟨ha.nd, by simp, fun a ha' b hb e => by simp at hb; subst hb e; exact hin ha'⟩
  · rcases List.mem_append.1 hx with hx | hx
    · exact ha.lt x hx
    · simp at hx; subst hx; exact hi
  · have := ha.fu
    simp only [List.length_append, List.length_singleton]
    omega

/-- what holds of the search behind k edges -/
theorem wkK_ok {nx : List (List Int)} (hc : ckWay nx = 0) {f i : Nat} {s : Sn} (ha : Wa nx (f + 1) s) (hi : i < nx.length) (hin : i ∉ s.1) (hl : s.2.length ≤ s.1.length) (k : Nat) :
    Wa nx f (wkK nx f i s k) ∧ (wkK nx f i s k).2.length ≤ (wkK nx f i s k).1.length ∧ (wkK nx f i s k).1.length ≤ nx.length := by
  obtain ⟨new, newl, h, _⟩ := wkL_spec hc (i := i) (fun j s ha hj hjs => wk_spec hc f j s ha hj hjs) ((sc nx i).take k) (s.1 ++ [i], s.2) (fun x hx => List.mem_of_mem_take hx) (by simp) (wa_step ha hi hin)
  have e1 := h.e1
  have e2 := h.e2
  have hn := nodup_len h.nd h.lt
  have hfu := (wa_step ha hi hin).fu
  have hln := h.ln
  change (wkK nx f i s k).1 = _ at e1
  change (wkK nx f i s k).2 = _ at e2
  change (wkK nx f i s k).1.length ≤ _ at hn
  refine ⟨⟨h.nd, h.lt, ?_⟩, ?_, hn⟩
  · change nx.length ≤ (wkK nx f i s k).1.length + f
    rw [e1, List.length_append]
    omega
  · rw [e1, e2]
    simp only [List.length_append, List.length_singleton]
    omega

theorem wa_zero {nx : List (List Int)} {i : Nat} {s : Sn} (ha : Wa nx 0 s) (hi : i < nx.length) (hin : i ∉ s.1) : False := by
  have h1 : (i :: s.1).length ≤ nx.length := nodup_len (List.nodup_cons.2 ⟨hin, ha.nd⟩) fun x hx => by
    rcases List.mem_cons.1 hx with rfl | hx
    · exact hi
    · exact ha.lt x hx
  have := ha.fu
  simp at h1
  omega

end Go.Proofs.Ytgcjknibelfjbaa
