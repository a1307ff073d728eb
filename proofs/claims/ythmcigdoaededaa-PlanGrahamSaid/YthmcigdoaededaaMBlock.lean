/-
  Several texts in one: BlockCk, BlockCheck, BlockRun.
-/
import Derived.Test.YthmcigdoaededaaBlockRef
import Derived.Test.YthmcigdoaededaaMTerm
import Derived.Test.YthmcigdoaededaaBlockIs
import Derived.Test.YthmcigdoaededaaMBase
import Derived.Deep.RegionWith
import Derived.Lib.SliceRun

/-
  block.countSteps, block.checkBlock, block.Check (J1).
-/

namespace Go.Proofs.Ythmcigdoaededaa
open Go.RowKit
set_option linter.unusedSimpArgs false
set_option linter.unusedVariables false
set_option maxRecDepth 100000

/-- the steps of each block fit into a machine -/
def CodeFits (p : List Bk) : Prop := ∀ b ∈ p, b.code.length * 40 ≤ 140737488351232

theorem CodeFits.of_in {p : List Bk} (h : ∀ b ∈ p, InBk b) : CodeFits p := fun b hb => (h b hb).1

theorem CodeFits.of_ok {vars : Int} {p : List Bk} (h : ckProg vars p = 0) : CodeFits p := fun b hb => by
  obtain ⟨k, hk, rfl⟩ := List.getElem_of_mem hb
  have h1 := manyS_le (List.getElem?_eq_getElem hk)
  have h2 := (ckProg_bd h).2.2.2.2.1
  omega

theorem manyS_fits : ∀ {p : List Bk}, CodeFits p → manyS p * 40 ≤ p.length * 140737488351232
  | [], _ => by simp [manyS]
  | b :: p, h => by
    have h1 := h b (List.mem_cons_self ..)
    have h2 := manyS_fits (p := p) fun x hx => h x (List.mem_cons_of_mem _ hx)
    simp only [manyS, List.length_cons]
    omega

end Go.Proofs.Ythmcigdoaededaa

/-
  block.Check (J1).
-/

namespace Go.Proofs.Ythmcigdoaededaa
open Go.RowKit
set_option linter.unusedSimpArgs false
set_option linter.unusedVariables false
set_option maxRecDepth 100000

end Go.Proofs.Ythmcigdoaededaa

/-
  slices.Clone of ints, block.follower, block.Run (J2).
-/

namespace Go.Proofs.Ythmcigdoaededaa
open Go.RowKit
set_option linter.unusedSimpArgs false
set_option linter.unusedVariables false
set_option maxRecDepth 100000

theorem own_wroteN {g : Nat} {w w' : World} {base : Nat} {e : TypeId} {size : Nat} {v : Value} {n : Nat} {xs : List Value} (h : w.ownsRow base e size v n xs) (hw : Wrote g w w') (hne : v.ownBlock ≠ some g) : w'.ownsRow base e size v n xs := by
  refine ⟨h.1, ?_⟩
  rcases h.2 with h' | ⟨k, cap, cur, h1, h2, h3, h4⟩
  · exact .inl h'
  · refine .inr ⟨k, cap, cur, h1, h2, (hw.block k (Array.getElem?_eq_some_iff.1 h3).1 (fun e2 => hne ?_)).trans h3, h4⟩
    subst e2
    rw [h1]
    rfl

/-- values and the blocks so far: both of the call's own, apart -/
structure Rw (w : World) (base g n c0 : Nat) (v : List Int) (A : Option Addr) (c : Nat) (l : List Nat) : Prop where
  vals : w.ownsRow base 3 1 (.slice (some ⟨g, 0, none⟩) n c0) n (iv v)
  turns : w.ownsRow base 3 1 (.slice A l.length c) l.length (iv (ni l))
  apart : (Value.slice A l.length c).ownBlock ≠ some g

theorem Rw.quiet {w w' : World} {base g n c0 c : Nat} {v : List Int} {A : Option Addr} {l : List Nat} (h : Rw w base g n c0 v A c l) (hb : Below w.heap.size w w') : Rw w' base g n c0 v A c l := ⟨own_below h.vals hb, own_below h.turns hb, h.apart⟩

theorem Rw.app {w X w' : World} {base g n c0 c c' : Nat} {v : List Int} {A A' : Option Addr} {l : List Nat} {i : Nat} (h : Rw w base g n c0 v A c l) (hX : Below w.heap.size w X)
    (ho : w'.ownsRow base 3 1 (.slice A' (l.length + 1) c') (l.length + 1) (iv (ni l) ++ [.int .i64 (i : Int)])) (hg : X.grownBy w' (Value.slice A l.length c).ownBlock)
    (hbl : (Value.slice A' (l.length + 1) c').ownBlock = (Value.slice A l.length c).ownBlock ∨ (Value.slice A' (l.length + 1) c').ownBlock = some X.heap.size) : Rw w' base g n c0 v A' c' (l ++ [i]) := by
  have e : (l ++ [i]).length = l.length + 1 := by simp
  have hgl := (h.vals.lt g rfl).2
  have hs := hX.size
  refine ⟨(own_below h.vals hX).kept hg (.inr fun e2 => h.apart e2.symm), ?_, ?_⟩
  · rw [e, ni_append, iv_append]
    exact ho
  · rw [e]
    rcases hbl with hb | hb
    · rw [hb]; exact h.apart
    · rw [hb]
      intro hq
      injection hq with hq
      omega

theorem Rw.wrote {w w' : World} {base g n c0 c : Nat} {v v' : List Int} {A : Option Addr} {l : List Nat} (h : Rw w base g n c0 v A c l) (hw : Wrote g w w') (ho : w'.ownsRow base 3 1 (.slice (some ⟨g, 0, none⟩) n c0) n (iv v')) : Rw w' base g n c0 v' A c l := ⟨ho, own_wroteN h.turns hw h.apart, h.apart⟩

theorem stV_self {n : Nat} {r : List Int} {o t a b vv : Int} (hv : ValsOk n r) (hc : ckStep n n o t a b vv = 0) : 0 ≤ stV r ⟨o, t, a, b, vv⟩ r ∧ stV r ⟨o, t, a, b, vv⟩ r ≤ 255 := stV_val (s := ⟨o, t, a, b, vv⟩) hv hc

end Go.Proofs.Ythmcigdoaededaa
