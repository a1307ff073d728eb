/-
  A program of the call's own, to which whole blocks are appended (L2); folding on the way.
-/
import Derived.Test.YtdckagledddkdaaLiveTrim
import Derived.Test.YtdckagledddkdaaMPure
namespace Go.Proofs.Ytdckagledddkdaa
open Go.RowKit
set_option linter.unusedSimpArgs false
set_option linter.unusedVariables false
set_option maxRecDepth 100000

/-- blocks done: the steps of each apart from the outer block -/
structure GrB (w : World) (base : Nat) (A : Option Addr) (n c : Nat) (qs : List (Bk × Option Addr × Nat)) : Prop where
  len : qs.length = n
  own : w.ownsRow base 44 4 (.slice A n c) n (rv cBk qs)
  rows : ∀ (r : Nat) (q : Bk × Option Addr × Nat), qs[r]? = some q → RdS w w.heap.size q.2.1 q.1.code ∧ q.1.code.length ≤ q.2.2 ∧ ∀ ad, q.2.1 = some ad → ad.block < w.heap.size ∧ (Value.slice A n c).ownBlock ≠ some ad.block ∧ base ≤ ad.block

theorem GrB.start (w : World) (base : Nat) : GrB w base none 0 0 [] := ⟨rfl, World.ownsRow_nil _ _ _ _, fun r q h => by simp at h⟩

theorem GrB.quiet {w w' : World} {base : Nat} {A : Option Addr} {n c : Nat} {qs : List (Bk × Option Addr × Nat)} (h : GrB w base A n c qs) (hb : Below w.heap.size w w') : GrB w' base A n c qs := by
  refine ⟨h.len, own_below h.own hb, fun r q hr => ?_⟩
  obtain ⟨h2, h3, h4⟩ := h.rows r q hr
  refine ⟨(h2.below hb (Nat.le_refl _)).more hb.size, h3, fun ad hA => ?_⟩
  obtain ⟨h5, h6, h7⟩ := h4 ad hA
  exact ⟨Nat.lt_of_lt_of_le h5 hb.size, h6, h7⟩

theorem RdS.grown {X w' : World} {A : Option Addr} {l : List St} {row : Option Nat} (h : RdS X X.heap.size A l) (hg : X.grownBy w' row) (ha : ∀ ad, A = some ad → row ≠ some ad.block) : RdS w' w'.heap.size A l := fun hm => by
  obtain ⟨ad, e, hb, hc⟩ := h hm
  refine ⟨ad, e, Nat.lt_of_lt_of_le hb hg.size, fun j hj => ?_⟩
  rw [← hc j hj]
  refine World.cell?_of_block ?_
  rw [addr_add_block]
  exact hg.block ad.block hb fun e2 => ha ad e e2.symm

/-- one block more -/
theorem GrB.app {w X w' : World} {base : Nat} {A A' : Option Addr} {n c c' : Nat} {qs : List (Bk × Option Addr × Nat)} {q : Bk × Option Addr × Nat} (h : GrB w base A n c qs) (hX : Below w.heap.size w X) (hbs : base ≤ w.heap.size)
    (hrow : RdS X X.heap.size q.2.1 q.1.code) (hqc : q.1.code.length ≤ q.2.2) (hlt : ∀ ad, q.2.1 = some ad → ad.block < X.heap.size ∧ w.heap.size ≤ ad.block)
    (ho : w'.ownsRow base 44 4 (.slice A' (n + 1) c') (n + 1) (rv cBk qs ++ cBk q)) (hg : X.grownBy w' (Value.slice A n c).ownBlock)
    (hbl : (Value.slice A' (n + 1) c').ownBlock = (Value.slice A n c).ownBlock ∨ (Value.slice A' (n + 1) c').ownBlock = some X.heap.size) : GrB w' base A' (n + 1) c' (qs ++ [q]) := by
  have hs2 := hg.size
  have new : ∀ ad, q.2.1 = some ad → (Value.slice A n c).ownBlock ≠ some ad.block := fun ad hA hq => by
    have h1 := (h.own.lt _ hq).2
    have h2 := (hlt ad hA).2
    omega
  refine ⟨by simp [h.len], by rw [rv_append]; simpa [rv] using ho, fun r q' hr => ?_⟩
  rcases Nat.lt_or_ge r qs.length with hrl | hrl
  · rw [List.getElem?_append_left hrl] at hr
    obtain ⟨h2, h3, h4⟩ := h.rows r q' hr
    have h2X := (h2.below hX (Nat.le_refl _)).more hX.size
    refine ⟨h2X.grown hg fun ad hA => (h4 ad hA).2.1, h3, fun ad hA => ?_⟩
    obtain ⟨h5, h6, h7⟩ := h4 ad hA
    have h8 := hX.size
    refine ⟨by omega, ?_, h7⟩
    rcases hbl with hb | hb
    · rw [hb]; exact h6
    · rw [hb]; intro hq; injection hq with hq; omega
  · have hrn : r = qs.length := by
      have := (List.getElem?_eq_some_iff.1 hr).1
      simp at this
      omega
    subst hrn
    rw [List.getElem?_append_right (Nat.le_refl _), Nat.sub_self] at hr
    simp only [List.getElem?_cons_zero, Option.some.injEq] at hr
    subst hr
    refine ⟨hrow.grown hg new, hqc, fun ad hA => ?_⟩
    have h4 := (hlt ad hA).1
    refine ⟨by omega, ?_, Nat.le_trans hbs (hlt ad hA).2⟩
    rcases hbl with hb | hb
    · rw [hb]; exact new ad hA
    · rw [hb]; intro hq; injection hq with hq; omega

theorem GrB.rd {w : World} {base : Nat} {A : Option Addr} {n c : Nat} {qs : List (Bk × Option Addr × Nat)} (h : GrB w base A n c qs) : RdP w w.heap.size A (qs.map (·.1)) :=
  rdP_of_raw (own_rdR h.own h.len) fun k q hq => ⟨(h.rows k q hq).1, (h.rows k q hq).2.1⟩

theorem fdP_take {p : List Bk} {L : List (List Int)} {i : Nat} {b : Bk} {a : List Int} (hb : p[i]? = some b) (ha : L[i]? = some a) : (fdP p L).take (i + 1) = (fdP p L).take i ++ [fdB b a] := by
  rw [List.take_add_one, fdP_at hb ha]
  rfl

/-- folding on the way: what is made and what is known behind it -/
structure FdAt (n : Nat) (code : List St) (a : List Int) (k : Nat) (r : List St) (v : List Int) : Prop where
  ok : KOk n v
  len : r.length = k
  all : fdC code a = r ++ fdC (code.drop k) v
  beh : bhK code a = bhK (code.drop k) v

theorem FdAt.start {n : Nat} {code : List St} {a : List Int} (h : KOk n a) : FdAt n code a 0 [] a := ⟨h, rfl, rfl, rfl⟩

theorem FdAt.step {n : Nat} {code : List St} {a : List Int} {k : Nat} {r : List St} {v : List Int} {s : St} (h : FdAt n code a k r v) (hc : ckStepsF n n code = 0) (hs : code[k]? = some s) : FdAt n code a (k + 1) (r ++ [fdS s v]) (v.set s.to.toNat (mkK s v)) := by
  refine ⟨h.ok.set (mkK_bd (ckStepsF_at hc hs) h.ok), by simp [h.len], ?_, by rw [h.beh, bhK_drop hs]⟩
  rw [h.all, drop_at hs, fdC, List.append_assoc]
  rfl

theorem FdAt.done {n : Nat} {code : List St} {a : List Int} {k : Nat} {r : List St} {v : List Int} (h : FdAt n code a k r v) (hk : code.length ≤ k) : fdC code a = r ∧ bhK code a = v := by
  refine ⟨?_, ?_⟩
  · rw [h.all, List.drop_of_length_le hk, fdC, List.append_nil]
  · rw [h.beh, List.drop_of_length_le hk, bhK]

end Go.Proofs.Ytdckagledddkdaa
