/-
  codemasonref.trimmed, codemasonref.Trim (K2).
-/
import Derived.Test.YtggekjccblblpaaLiveLive
import Derived.Test.YtggekjccblblpaaLiveRaw
import Derived.Test.YtggekjccblblpaaBlockDo
import Derived.Test.YtggekjccblblpaaMBase
import Derived.Deep.RegionLaw
import Derived.Laws.Rows
import Derived.BigRegion
import Derived.IntWalk
namespace Go.Proofs.Ytggekjccblblpaa
open Go.RowKit
set_option linter.unusedSimpArgs false
set_option linter.unusedVariables false
set_option maxRecDepth 100000

theorem block_app : AppTy Try.prog 52 64 4 48 := appTy_of (z := .agg #[.slice none 0 0, .int .i64 0, .int .i64 0, .int .i64 0]) Try.underlying52 (by kernel_rfl) rfl (by omega)

theorem stepl_app : AppTy Try.prog 22 66 5 40 := appTy_of (z := .agg #[.int .i64 0, .int .i64 0, .int .i64 0, .int .i64 0, .int .i64 0]) Try.underlying22 (by kernel_rfl) rfl (by omega)

theorem own_empty_m (X : World) (base g m : Nat) (e : TypeId) (hg : g = X.heap.size) (hb : base ≤ X.heap.size) : (X.alloc (.cells #[] e)).ownsRow base e m (.slice (some ⟨g, 0, none⟩) 0 0) 0 [] := by
  subst hg
  exact World.ownsRow_made X #[] 0 hb (Nat.zero_le _) (by simp)

theorem own_capB {w : World} {base : Nat} {e : TypeId} {size : Nat} {A : Option Addr} {n c : Nat} {xs : List Value} (h : w.ownsRow base e size (.slice A n c) n xs) : n ≤ c := by
  rcases h.2 with ⟨hv, h0⟩ | ⟨g, cap, cur, hv, _, _, hnc, _⟩
  · omega
  · injection hv with _ _ hc
    omega

theorem cSt_oneL (l : List St) : ∀ u ∈ rv cSt l, u.oneCell' = true := rv_all (fun x u hu => by
  simp [cSt] at hu
  rcases hu with rfl | rfl | rfl | rfl | rfl <;> rfl) l

/-- up to a block, and to a step of it, every step is needed -/
def NfTo (want : Nat) (p : List Bk) (i k : Nat) : Prop := ∀ (i' k' : Nat) (b : Bk) (s : St), (i' < i ∨ (i' = i ∧ k' < k)) → p[i']? = some b → b.code[k']? = some s → Lv p want s.to.toNat (i', k' + 1)

theorem NfTo.step {want : Nat} {p : List Bk} {i k : Nat} {b : Bk} {s : St} (h : NfTo want p i k) (hb : p[i]? = some b) (hs : b.code[k]? = some s) (hl : Lv p want s.to.toNat (i, k + 1)) : NfTo want p i (k + 1) := fun i' k' b' s' hlt hb' hs' => by
  by_cases e : i' = i ∧ k' = k
  · obtain ⟨rfl, rfl⟩ := e
    rw [hb] at hb'
    injection hb' with hb'
    subst hb'
    rw [hs] at hs'
    injection hs' with hs'
    subst hs'
    exact hl
  · exact h i' k' b' s' (by omega) hb' hs'

theorem NfTo.block {want : Nat} {p : List Bk} {i : Nat} {b : Bk} (h : NfTo want p i b.code.length) (hb : p[i]? = some b) : NfTo want p (i + 1) 0 := fun i' k' b' s' hlt hb' hs' => by
  by_cases e : i' = i
  · subst e
    have hbb := hb'
    rw [hb] at hbb
    injection hbb with hbb
    subst hbb
    exact h i' k' b s' (.inr ⟨rfl, (List.getElem?_eq_some_iff.1 hs').1⟩) hb hs'
  · exact h i' k' b' s' (.inl (by omega)) hb' hs'

theorem NfTo.nf {want : Nat} {p : List Bk} (h : NfTo want p p.length 0) : Nf want p := fun i k b s hb hs => h i k b s (.inl (List.getElem?_eq_some_iff.1 hb).1) hb hs

/-- what trimmed answers -/
def TrimmedTo (want : Nat) (p : List Bk) (A : Option Addr) (len cap : Nat) (e : Ending) (w' : World) : Prop :=
  (Nf want p ∧ e = .returned (.tuple #[.slice A len cap, .bool false])) ∨ ∃ q A' c', Cut want p q ∧ e = .returned (.tuple #[.slice A' len c', .bool true]) ∧ RdP w' w'.heap.size A' q

/-- a copy of a program in which one block has its steps anew -/
theorem cut_laid {w W : World} {p : List Bk} {qs : List (Bk × Option Addr × Nat)} {i k len c6 g nn c8 B5 B6 : Nat} {A8 : Option Addr} {bk : Bk} (hq1 : qs.map (·.1) = p) (hq3 : RawOk w w.heap.size qs) (hd : p[i]? = some bk) (hl : p.length = len)
    (hO : W.ownsRow B5 64 4 (.slice (some ⟨g, 0, none⟩) len c6) len (rv cBk qs)) (hn : W.ownsRow B6 66 5 (.slice A8 nn c8) nn (rv cSt (bk.code.take k) ++ rv cSt (bk.code.drop (k + 1))))
    (hgB : g < B6) (hb : Below w.heap.size w W) (hg0 : w.heap.size ≤ g) (hk : k < bk.code.length) (hnn : nn = bk.code.length - 1) :
    RdP (W.setCell ⟨g, i * 4, none⟩ (.slice A8 nn c8)) (W.setCell ⟨g, i * 4, none⟩ (.slice A8 nn c8)).heap.size (some ⟨g, 0, none⟩) (p.set i (dropS bk k)) := by
  have he : bk.code.take k ++ bk.code.drop (k + 1) = (dropS bk k).code := (List.eraseIdx_eq_take_drop_succ ..).symm
  have hel : (dropS bk k).code.length = nn := by
    show (bk.code.eraseIdx k).length = nn
    rw [List.length_eraseIdx, if_pos hk, hnn]
  rw [← rv_append, he] at hn
  obtain ⟨q, hq, hqb⟩ : ∃ q, qs[i]? = some q ∧ q.1 = bk := by
    rw [← hq1, List.getElem?_map] at hd
    exact Option.map_eq_some_iff.1 hd
  obtain ⟨b0, Ac, cc⟩ := q
  simp only [] at hqb
  subst hqb
  have hst := (hO.stored (i * 4) (.slice A8 nn c8)).1
  rw [rv_setB (b' := dropS b0 k) hq rfl rfl rfl hel] at hst
  have hil := (List.getElem?_eq_some_iff.1 hq).1
  have hql : qs.length = len := by rw [← hl, ← hq1, List.length_map]
  have hrd := own_rdR (c := cBk) hst (by rw [List.length_set]; exact hql)
  have hfar := own_farW hn (p := ⟨g, i * 4, none⟩) hgB (.slice A8 nn c8)
  have hbW : Below w.heap.size w (W.setCell ⟨g, i * 4, none⟩ (.slice A8 nn c8)) := hb.setCell (show w.heap.size ≤ (⟨g, i * 4, none⟩ : Addr).block from hg0) _
  have hP := rdP_of_raw hrd (fun r q' hq' => by
    by_cases e : i = r
    · subst e
      rw [List.getElem?_set_self hil] at hq'
      injection hq' with hq'
      subst hq'
      exact ⟨own_rdR (c := cSt) hfar hel, by show (dropS b0 k).code.length ≤ c8; rw [hel]; exact own_capB hfar⟩
    · rw [List.getElem?_set_ne e] at hq'
      exact ⟨((hq3 r q' hq').1.below hbW (Nat.le_refl _)).more hbW.size, (hq3 r q' hq').2⟩)
  rw [List.map_set, hq1] at hP
  exact hP

end Go.Proofs.Ytggekjccblblpaa
