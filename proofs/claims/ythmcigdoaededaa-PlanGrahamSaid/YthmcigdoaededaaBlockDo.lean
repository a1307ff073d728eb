/-
  codemasonref.Doing (J1): what variables have behind steps.
-/
import Derived.Test.YthmcigdoaededaaBlockRef
import Derived.Test.YthmcigdoaededaaMTerm
import Derived.Test.YthmcigdoaededaaMBase
namespace Go.Proofs.Ythmcigdoaededaa
open Go.RowKit
set_option linter.unusedSimpArgs false
set_option linter.unusedVariables false
set_option maxRecDepth 100000

/-- on the way: all that is left gives what the whole gives -/
def DoAt (n : Nat) (code : List St) (v : List Int) (k : Nat) (r : List Int) : Prop := ValsOk n r ∧ doS code v = doS (code.drop k) r

theorem DoAt.step {n : Nat} {code : List St} {v r : List Int} {k : Nat} {o t a b vv x : Int} (h : DoAt n code v k r) (hd : code.drop k = ⟨o, t, a, b, vv⟩ :: code.drop (k + 1)) (hx : x = stV r ⟨o, t, a, b, vv⟩ r) (hb : 0 ≤ x ∧ x ≤ 255) : DoAt n code v (k + 1) (r.set t.toNat x) := by
  refine ⟨h.1.set hb, ?_⟩
  rw [h.2, hd, doS, hx]

theorem stv_num {r : List Int} {t a b v : Int} : v = stV r ⟨1, t, a, b, v⟩ r := by simp [stV]

theorem stv_var {r : List Int} {t a b x : Int} {v : Nat} (h : r[v]? = some x) : x = stV r ⟨2, t, a, b, v⟩ r := by simp [stV, h]

theorem stv_op {r : List Int} {o t v x y : Int} {a b : Nat} (ho : 3 ≤ o) (hx : r[a]? = some x) (hy : r[b]? = some y) : opv o x y = stV r ⟨o, t, a, b, v⟩ r := by
  have h1 : ¬ o = 1 := by omega
  have h2 : ¬ o = 2 := by omega
  simp [stV, h1, h2, hx, hy]

theorem own_empty_at (X : World) (base g : Nat) (e : TypeId) (hg : g = X.heap.size) (hb : base ≤ X.heap.size) : (X.alloc (.cells #[] e)).ownsRow base e 1 (.slice (some ⟨g, 0, none⟩) 0 0) 0 [] := by
  subst hg
  exact World.ownsRow_made X #[] 0 hb (Nat.zero_le _) rfl

theorem own_form {w : World} {base : Nat} {e : TypeId} {size : Nat} {A : Option Addr} {n c : Nat} {xs : List Value} (h : w.ownsRow base e size (.slice A n c) n xs) (hn : 0 < n) : ∃ g, A = some ⟨g, 0, none⟩ ∧ base ≤ g ∧ g < w.heap.size := by
  rcases h.2 with ⟨hv, h0⟩ | ⟨g, cap, cur, hv, h1, h2, _⟩
  · omega
  · injection hv with hv
    exact ⟨g, hv, h1, (Array.getElem?_eq_some_iff.1 h2).1⟩

end Go.Proofs.Ythmcigdoaededaa
