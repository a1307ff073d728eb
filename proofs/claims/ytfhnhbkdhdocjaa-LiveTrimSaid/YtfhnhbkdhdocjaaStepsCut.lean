/-
  Steps taken and dropped, as slices.
-/
import Derived.Test.YtfhnhbkdhdocjaaBlockOpen
namespace Go.Proofs.Ytfhnhbkdhdocjaa
open Go.RowKit
set_option linter.unusedSimpArgs false
set_option linter.unusedVariables false
set_option maxRecDepth 100000

theorem rv_split {α : Type} (c : α → List Value) (l : List α) (i : Nat) : rv c l = rv c (l.take i) ++ rv c (l.drop i) := by rw [← rv_append, List.take_append_drop]

theorem RdS.take {w : World} {B : Nat} {A : Option Addr} {l : List St} (h : RdS w B A l) (i : Nat) : RdS w B A (l.take i) := fun hp => by
  have hle : (l.take i).length ≤ l.length := by rw [List.length_take]; omega
  obtain ⟨ad, e, hb, hc⟩ := h (by omega)
  refine ⟨ad, e, hb, fun j hj => ?_⟩
  rw [hc j (by omega)]
  show some ((rv cSt l).getD j undef) = some ((rv cSt (l.take i)).getD j undef)
  rw [List.getD_eq_getElem?_getD, List.getD_eq_getElem?_getD, rv_split cSt l i, List.getElem?_append_left (by rw [rv_len cSt_len]; exact hj)]

theorem RdS.drop {w : World} {B : Nat} {ad : Addr} {l : List St} (h : RdS w B (some ad) l) (i : Nat) : RdS w B (some (ad.add (i * 5))) (l.drop i) := fun hp => by
  have hi : i < l.length := by
    rcases Nat.lt_or_ge i l.length with h1 | h1
    · exact h1
    · rw [List.drop_of_length_le h1] at hp; simp at hp
  have hlt : (l.take i).length = i := by rw [List.length_take]; omega
  have hld : (l.drop i).length = l.length - i := by simp
  obtain ⟨ad', e, hb, hc⟩ := h (by omega)
  injection e with e
  subst e
  refine ⟨_, rfl, by rw [addr_add_block]; exact hb, fun j hj => ?_⟩
  rw [addr_add_add, hc _ (by omega)]
  show some ((rv cSt l).getD (i * 5 + j) undef) = some ((rv cSt (l.drop i)).getD j undef)
  rw [List.getD_eq_getElem?_getD, List.getD_eq_getElem?_getD, rv_split cSt l i, List.getElem?_append_right (by rw [rv_len cSt_len, hlt]; omega), rv_len cSt_len, hlt, Nat.add_sub_cancel_left]

theorem RdS.nil_drop {w : World} {B : Nat} {A A' : Option Addr} {l : List St} {i : Nat} (h : l.length ≤ i) : RdS w B A' (l.drop i) := fun hp => by
  rw [List.drop_of_length_le h] at hp
  simp at hp

theorem own_add {w : World} {g : Nat} {t : TypeId} {cs : List Value} (h : Own w g t cs) {k : Nat} {v : Value} (hv : cs[k]? = some v) : w.cell? ((⟨g, 0, none⟩ : Addr).add k) = some v := by
  have ha : (⟨g, 0, none⟩ : Addr).add k = ⟨g, k, none⟩ := by unfold Addr.add; split <;> simp_all
  rw [ha]
  exact h.cell hv

theorem own_add' {w : World} {g : Nat} {t : TypeId} {cs : List Value} (h : Own w g t cs) {k i : Nat} {v : Value} (hv : cs[k + i]? = some v) : w.cell? ⟨((⟨g, 0, none⟩ : Addr).add k).block, ((⟨g, 0, none⟩ : Addr).add k).off + i, none⟩ = some v := by
  have ha : (⟨g, 0, none⟩ : Addr).add k = ⟨g, k, none⟩ := by unfold Addr.add; split <;> simp_all
  rw [ha]
  exact h.cell hv

end Go.Proofs.Ytfhnhbkdhdocjaa
