/-
  codemasonref.Goes (J2): a run.
-/
import Derived.Test.YtfhnhbkdhdocjaaBlockDo
namespace Go.Proofs.Ytfhnhbkdhdocjaa
open Go.RowKit
set_option linter.unusedSimpArgs false
set_option linter.unusedVariables false
set_option maxRecDepth 100000

/-- the length that a slice has -/
def lenV : Value → Nat
  | .slice _ n _ => n
  | _ => 0

/-- values, and the blocks so far: a slice of the call's own that grows, apart from the values -/
structure Gw (w : World) (base : Nat) (VA : Option Addr) (v : List Int) (A : Option Addr) (c : Nat) (l : List Nat) : Prop where
  rd : RdI w w.heap.size VA v
  own : w.ownsRow base 3 1 (.slice A l.length c) l.length (iv (ni l))
  apart : ∀ ad, VA = some ad → (Value.slice A l.length c).ownBlock ≠ some ad.block
  pos : 0 < v.length

theorem Gw.app {w X w' : World} {base : Nat} {VA A A' : Option Addr} {v : List Int} {c c' : Nat} {l : List Nat} {i : Nat} (h : Gw w base VA v A c l) (hX : Below w.heap.size w X)
    (ho : w'.ownsRow base 3 1 (.slice A' (l.length + 1) c') (l.length + 1) (iv (ni l) ++ [.int .i64 (i : Int)])) (hg : X.grownBy w' (Value.slice A l.length c).ownBlock)
    (hbl : (Value.slice A' (l.length + 1) c').ownBlock = (Value.slice A l.length c).ownBlock ∨ (Value.slice A' (l.length + 1) c').ownBlock = some X.heap.size) : Gw w' base VA v A' c' (l ++ [i]) := by
  have e : (l ++ [i]).length = l.length + 1 := by simp
  have hs := hX.size
  have hs2 := hg.size
  refine ⟨fun hm => ?_, ?_, fun ad hA => ?_, h.pos⟩
  · obtain ⟨ad, hA, hb, hc⟩ := h.rd hm
    refine ⟨ad, hA, by omega, fun j hj => ?_⟩
    rw [← hc j hj]
    refine World.cell?_of_block ?_
    rw [addr_add_block, hg.block ad.block (by omega) (fun e => h.apart ad hA e.symm), hX.block ad.block hb]
  · rw [e, ni_append, iv_append]
    exact ho
  · rw [e]
    rcases hbl with hb | hb
    · rw [hb]; exact h.apart ad hA
    · rw [hb]
      intro hq
      injection hq with hq
      obtain ⟨ad2, hA2, hb2, _⟩ := h.rd h.pos
      rw [hA] at hA2
      injection hA2 with hA2
      subst hA2
      omega

theorem Gw.next {w w' : World} {base : Nat} {VA VA' A : Option Addr} {v v' : List Int} {c : Nat} {l : List Nat} (h : Gw w base VA v A c l) (hb : Below w.heap.size w w') (hv : RdI w' w'.heap.size VA' v') (hn : ∀ ad, VA' = some ad → w.heap.size ≤ ad.block) (hp : 0 < v'.length) : Gw w' base VA' v' A c l := by
  refine ⟨hv, own_below h.own hb, fun ad hA hq => ?_, hp⟩
  have h1 := (h.own.lt _ hq).2
  have h2 := hn ad hA
  omega

theorem Gw.start {w : World} {base : Nat} {VA : Option Addr} {v : List Int} (hv : RdI w w.heap.size VA v) (hp : 0 < v.length) : Gw w base VA v none 0 [] := ⟨hv, World.ownsRow_nil _ _ _ _, fun _ _ h => by simp [Value.ownBlock] at h, hp⟩

/-- what a run so far and the rest of it give -/
def GoAt (p : List Bk) (most : Nat) (hv : List Int) (l : List Nat) (at_ : Int) (v : List Int) : Prop := goP p most 0 hv = (goP p (most - l.length) at_ v).map fun x => (x.1, l ++ x.2)

theorem GoAt.start (p : List Bk) (most : Nat) (hv : List Int) : GoAt p most hv [] 0 hv := by
  unfold GoAt
  simp only [List.length_nil, Nat.sub_zero, List.nil_append]
  cases goP p most 0 hv <;> rfl

theorem GoAt.stop {p : List Bk} {most : Nat} {hv v : List Int} {l : List Nat} (h : GoAt p most hv l (-1) v) : goP p most 0 hv = some (v, l) := by
  unfold GoAt at h
  rw [h, goP_stop]
  simp

theorem GoAt.over {p : List Bk} {most : Nat} {hv v : List Int} {l : List Nat} {i : Nat} (h : GoAt p most hv l (i : Int) v) (hl : most ≤ l.length) : goP p most 0 hv = none := by
  unfold GoAt at h
  rw [h, show most - l.length = 0 by omega, goP_zero]
  rfl

theorem GoAt.step {p : List Bk} {most : Nat} {hv v : List Int} {l : List Nat} {i : Nat} {b : Bk} (h : GoAt p most hv l (i : Int) v) (hl : l.length < most) (hb : p[i]? = some b) : GoAt p most hv (l ++ [i]) (goB b (doS b.code v)) (doS b.code v) := by
  unfold GoAt at h ⊢
  rw [h, show most - l.length = (most - (l ++ [i]).length) + 1 by simp; omega, goP_step hb]
  cases goP p (most - (l ++ [i]).length) (goB b (doS b.code v)) (doS b.code v) with
  | none => rfl
  | some x => simp

/-- what a run answers -/
def GoesTo (r : Option (List Int × List Nat)) (e : Ending) (w w' : World) : Prop :=
  (r = none ∧ e = .returned (.tuple #[.slice none 0 0, .slice none 0 0, .bool false])) ∨
  ∃ (x : List Int) (l : List Nat) (A1 A2 : Option Addr) (c1 c2 : Nat), r = some (x, l) ∧ e = .returned (.tuple #[.slice A1 x.length c1, .slice A2 l.length c2, .bool true]) ∧ RdI w' w'.heap.size A1 x ∧ RdI w' w'.heap.size A2 (ni l)

end Go.Proofs.Ytfhnhbkdhdocjaa
