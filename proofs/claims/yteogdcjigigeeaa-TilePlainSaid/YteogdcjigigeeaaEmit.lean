/-
  need.appendCode: a tree's register code, appended (B2).
-/
import Derived.Test.YteogdcjigigeeaaTree2
import Derived.Maps.Range
namespace Go.Proofs.Yteogdcjigigeeaa
open Go.RowKit
set_option linter.unusedSimpArgs false
set_option linter.unusedVariables false
set_option maxRecDepth 100000

/-- the steps of term i in register 'to' -/
def emL (l : List Tm) (i to : Nat) : List St := emitL l (i + 1) i to

theorem emL_leaf {l : List Tm} {i to : Nat} {t : Tm} (h : l[i]? = some t) (ho : t.op < 3) : emL l i to = [⟨t.op, to, 0, 0, t.v⟩] := by
  unfold emL
  simp only [emitL, getD_some h]
  rw [if_pos ho]

theorem emL_op {vars : Int} {l : List Tm} {i to : Nat} {t : Tm} (hc : ckTerms vars l = 0) (h : l[i]? = some t) (ho : 3 ≤ t.op) :
    emL l i to = if ndA l t.b.toNat ≤ ndA l t.a.toNat then emL l t.a.toNat to ++ emL l t.b.toNat (to + 1) ++ [⟨t.op, to, to, (to : Int) + 1, 0⟩]
      else emL l t.b.toNat to ++ emL l t.a.toNat (to + 1) ++ [⟨t.op, to, (to : Int) + 1, to, 0⟩] := by
  have hi := (List.getElem?_eq_some_iff.1 h).1
  have hcs := ckTerm_cases (ckTerms_at hc h)
  have h1 : t.a.toNat < i := by omega
  have h2 : t.b.toNat < i := by omega
  have hno : ¬ t.op < 3 := by omega
  have e1 := fun to => emit_fuel hc t.a.toNat (by omega) i (t.a.toNat + 1) to (by omega) (by omega)
  have e2 := fun to => emit_fuel hc t.b.toNat (by omega) i (t.b.toNat + 1) to (by omega) (by omega)
  unfold emL
  rw [emitL]
  simp only [getD_some h, if_neg hno, e1, e2]

theorem codeL_em {l : List Tm} (h : 0 < l.length) : codeL l = emL l (l.length - 1) 0 := by
  unfold codeL emL
  rw [show l.length - 1 + 1 = l.length from by omega]

/-- where a slice's block comes from -/
def Prov (w : World) (v v' : Value) : Prop := ∀ k, v'.ownBlock = some k → w.heap.size ≤ k ∨ v.ownBlock = some k

theorem Prov.refl (w : World) (v : Value) : Prov w v v := fun _ h => .inr h

theorem Prov.trans {w w1 : World} {v v1 v2 : Value} (h : Prov w v v1) (hs : w.heap.size ≤ w1.heap.size) (h2 : Prov w1 v1 v2) : Prov w v v2 := fun k hk => by
  rcases h2 k hk with h3 | h3
  · exact .inl (by omega)
  · exact h k h3

theorem Prov.grow {w w1 w2 : World} {v v1 : Value} (h : Prov w v v1) (hg : w.grownBy w1 v.ownBlock) (hg2 : w1.grownBy w2 v1.ownBlock) : w.grownBy w2 v.ownBlock :=
  hg.andThen hg2 fun j hj => h j hj

/-- a block of the call's own that the slice has not -/
theorem Prov.far {w : World} {v v1 : Value} {g : Nat} (h : Prov w v v1) (hg : g < w.heap.size) (hv : some g ≠ v.ownBlock) : some g ≠ v1.ownBlock := fun e => by
  rcases h g e.symm with h3 | h3
  · omega
  · exact hv h3.symm

theorem cellsS_at {X : World} {k : Nat} (hk : k = X.heap.size) (s : St) (cs : Array Value) (hcs : cs = (cSt s).toArray) (t : TypeId) : ∀ ad : Addr, some (⟨k, 0, none⟩ : Addr) = some ad → ∀ j u, (cSt s)[j]? = some u → (X.alloc (.cells cs t)).cell? (ad.add j) = some u := by
  subst hcs
  exact cells_at hk (cSt s) t

theorem own_ne {w : World} {base : Nat} {e : TypeId} {size : Nat} {v : Value} {n : Nat} {xs : List Value} (h : w.ownsRow base e size v n xs) {g : Nat} (hg : w.heap.size ≤ g) : some g ≠ v.ownBlock := fun he => by
  have := (h.lt g he.symm).2
  omega

theorem ndL_at {l : List Tm} {i : Nat} (h : i < l.length) : (ni (ndL l))[i]? = some (ndA l i : Int) := by
  have hl : i < (ndL l).length := by rw [ndL_len]; exact h
  rw [ni_at (List.getElem?_eq_getElem hl)]
  unfold ndA
  rw [List.getD_eq_getElem?_getD, List.getElem?_eq_getElem hl, Option.getD_some]

end Go.Proofs.Yteogdcjigigeeaa
