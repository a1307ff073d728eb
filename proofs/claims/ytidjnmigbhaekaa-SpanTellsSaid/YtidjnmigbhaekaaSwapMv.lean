/-
  Moves in memory: pairs of ints, their check (N1).
-/
import Derived.Test.YtidjnmigbhaekaaPureSwap
import Derived.Test.YtidjnmigbhaekaaMBase
namespace Go.Proofs.Ytidjnmigbhaekaa
open Go.RowKit
set_option linter.unusedSimpArgs false
set_option linter.unusedVariables false
set_option maxRecDepth 100000

/-- a move as cells -/
def cMv (m : Int × Int) : List Value := [.int .i64 m.1, .int .i64 m.2]

theorem cMv_len (m : Int × Int) : (cMv m).length = 2 := rfl

theorem cMv_one (m : Int × Int) : ∀ u ∈ cMv m, u.oneCell' = true := fun u hu => by
  simp [cMv] at hu
  rcases hu with rfl | rfl <;> rfl

theorem cMv_two (a b : Int) : ∀ u ∈ ([.int .i64 a, .int .i64 b] : List Value), u.oneCell' = true := cMv_one (a, b)

/-- a slice of moves -/
def RdM (w : World) (B : Nat) (A : Option Addr) (l : List (Int × Int)) : Prop := RdR cMv w B A 2 l

theorem RdM.below {w w' : World} {B B' : Nat} {A : Option Addr} {l : List (Int × Int)} (h : RdM w B A l) (hb : Below B' w w') (hB : B ≤ B') : RdM w' B A l := Rd.below h hb hB

theorem RdM.more {w : World} {B B' : Nat} {A : Option Addr} {l : List (Int × Int)} (h : RdM w B A l) (hB : B ≤ B') : RdM w B' A l := Rd.more h hB

theorem RdM.at_ {w : World} {B : Nat} {A : Option Addr} {l : List (Int × Int)} {k : Nat} (h : RdM w B A l) (hk : k < l.length) :
    ∃ (ad : Addr) (t f : Int), A = some ad ∧ (ad.add (k * 2)).block < B ∧ l[k]? = some (t, f) ∧ w.cell? (ad.add (k * 2)) = some (.int .i64 t) ∧
      w.cell? ⟨(ad.add (k * 2)).block, (ad.add (k * 2)).off + 1, none⟩ = some (.int .i64 f) := by
  obtain ⟨ad, x, hA, hb, hx, hc⟩ := RdR.cell cMv_len (by omega) h hk
  exact ⟨ad, x.1, x.2, hA, hb, hx, hc 0 _ rfl, hc 1 _ rfl⟩

/-- moves of registers, as ints -/
def mvI (l : List (Nat × Nat)) : List (Int × Int) := l.map fun m => ((m.1 : Int), (m.2 : Int))

theorem mvI_len (l : List (Nat × Nat)) : (mvI l).length = l.length := by simp [mvI]

theorem mvI_at {l : List (Nat × Nat)} {k : Nat} {t f : Int} (h : (mvI l)[k]? = some (t, f)) : ∃ a b : Nat, t = (a : Int) ∧ f = (b : Int) ∧ l[k]? = some (a, b) := by
  unfold mvI at h
  rw [List.getElem?_map] at h
  cases hl : l[k]? with
  | none => rw [hl] at h; cases h
  | some m =>
    rw [hl] at h
    simp at h
    exact ⟨m.1, m.2, h.1.symm, h.2.symm, rfl⟩

theorem mvI_append (a b : List (Nat × Nat)) : mvI (a ++ b) = mvI a ++ mvI b := by simp [mvI]

theorem RdN.at_ {w : World} {B : Nat} {A : Option Addr} {l : List (Nat × Nat)} {k : Nat} (h : RdM w B A (mvI l)) (hk : k < l.length) :
    ∃ (ad : Addr) (a b : Nat), A = some ad ∧ (ad.add (k * 2)).block < B ∧ l[k]? = some (a, b) ∧ w.cell? (ad.add (k * 2)) = some (.int .i64 a) ∧
      w.cell? ⟨(ad.add (k * 2)).block, (ad.add (k * 2)).off + 1, none⟩ = some (.int .i64 b) := by
  obtain ⟨ad, t, f, h1, h2, h3, h4, h5⟩ := RdM.at_ h (k := k) (by rw [mvI_len]; exact hk)
  obtain ⟨a, b, rfl, rfl, h6⟩ := mvI_at h3
  exact ⟨ad, a, b, h1, h2, h6, h4, h5⟩

theorem own_rdM {w : World} {base : Nat} {e : TypeId} {A : Option Addr} {c n : Nat} {l : List (Int × Int)} (h : w.ownsRow base e 2 (.slice A n c) n (rv cMv l)) (hn : l.length = n) : RdM w w.heap.size A l := own_rdR h hn


/-! ### The check -/

def inM (n : Int) (m : Int × Int) : Bool := decide (0 ≤ m.1 ∧ m.1 < n ∧ 0 ≤ m.2 ∧ m.2 < n)

def allM (n : Int) (l : List (Int × Int)) : Bool := l.all (inM n)

def sizesM (n : Int) (l : List (Int × Int)) : Prop := 1 ≤ n ∧ n ≤ 8 ∧ l.length ≤ 8

instance (n : Int) (l : List (Int × Int)) : Decidable (sizesM n l) := inferInstanceAs (Decidable (1 ≤ n ∧ n ≤ 8 ∧ l.length ≤ 8))

def ckMv (n : Int) (l : List (Int × Int)) : Int := if sizesM n l then (if allM n l then (if (l.map Prod.fst).Nodup then 0 else 3) else 2) else 1

theorem ckMv_large {n : Int} {l : List (Int × Int)} (h : ¬ sizesM n l) : ckMv n l = 1 := by unfold ckMv; rw [if_neg h]

theorem ckMv_arg {n : Int} {l : List (Int × Int)} (h : sizesM n l) (h2 : allM n l = false) : ckMv n l = 2 := by unfold ckMv; rw [if_pos h, h2]; rfl

theorem ckMv_form {n : Int} {l : List (Int × Int)} (h : sizesM n l) (h2 : allM n l = true) (h3 : ¬ (l.map Prod.fst).Nodup) : ckMv n l = 3 := by unfold ckMv; rw [if_pos h, if_pos h2, if_neg h3]

theorem ckMv_zero {n : Int} {l : List (Int × Int)} (h : sizesM n l) (h2 : allM n l = true) (h3 : (l.map Prod.fst).Nodup) : ckMv n l = 0 := by unfold ckMv; rw [if_pos h, if_pos h2, if_pos h3]

theorem inM_iff {n : Int} {m : Int × Int} : inM n m = true ↔ 0 ≤ m.1 ∧ m.1 < n ∧ 0 ≤ m.2 ∧ m.2 < n := by unfold inM; rw [decide_eq_true_eq]

theorem allM_drop {n : Int} {l : List (Int × Int)} {k : Nat} {t f : Int} (h : l[k]? = some (t, f)) : allM n (l.drop k) = (inM n (t, f) && allM n (l.drop (k + 1))) := by
  rw [drop_at h]
  rfl

theorem mvI_fst (l : List (Nat × Nat)) : (mvI l).map Prod.fst = ni (l.map Prod.fst) := by simp [mvI, ni, Function.comp_def]

theorem ni_nd : ∀ {l : List Nat}, (ni l).Nodup ↔ l.Nodup
  | [] => by simp [ni]
  | a :: l => by
    have e : ni (a :: l) = (a : Int) :: ni l := rfl
    rw [e, List.nodup_cons, List.nodup_cons, ni_mem, ni_nd]

/-- the moves lie in range: naturals -/
theorem allM_nat {n : Nat} : ∀ {l : List (Int × Int)}, allM n l = true → ∃ k, l = mvI k ∧ ∀ m ∈ k, m.1 < n ∧ m.2 < n
  | [], _ => ⟨[], rfl, by simp⟩
  | m :: l, h => by
    unfold allM at h
    rw [List.all_cons, Bool.and_eq_true] at h
    obtain ⟨k, hk, hi⟩ := allM_nat (l := l) h.2
    obtain ⟨h1, h2, h3, h4⟩ := inM_iff.1 h.1
    refine ⟨(m.1.toNat, m.2.toNat) :: k, ?_, fun x hx => ?_⟩
    · show m :: l = ((m.1.toNat : Int), (m.2.toNat : Int)) :: mvI k
      rw [← hk, Int.toNat_of_nonneg h1, Int.toNat_of_nonneg h3]
    · rcases List.mem_cons.1 hx with rfl | hx
      · simp only
        omega
      · exact hi x hx

theorem allM_mvI {n : Nat} {l : List (Nat × Nat)} (h : ∀ m ∈ l, m.1 < n ∧ m.2 < n) : allM n (mvI l) = true := by
  unfold allM
  rw [List.all_eq_true]
  intro m hm
  obtain ⟨x, hx, rfl⟩ := List.mem_map.1 hm
  have := h x hx
  rw [inM_iff]
  simp only
  omega

theorem ckMv_ok {n : Int} {l : List (Int × Int)} (h : ckMv n l = 0) : ∃ (k : Nat) (q : List (Nat × Nat)), n = k ∧ l = mvI q ∧ MvOk k q := by
  unfold ckMv at h
  split at h
  · rename_i h1
    split at h
    · rename_i h2
      split at h
      · rename_i h3
        obtain ⟨ha, hb, hc⟩ := h1
        obtain ⟨k, rfl⟩ : ∃ k : Nat, n = k := ⟨n.toNat, by omega⟩
        obtain ⟨q, rfl, hi⟩ := allM_nat h2
        rw [mvI_fst, ni_nd] at h3
        rw [mvI_len] at hc
        exact ⟨k, q, rfl, rfl, by omega, by omega, hc, hi, h3⟩
      · cases h
    · cases h
  · cases h

theorem ckMv_of {n : Nat} {l : List (Nat × Nat)} (h : MvOk n l) : ckMv n (mvI l) = 0 := by
  have h1 := h.pos
  have h2 := h.small
  exact ckMv_zero ⟨by omega, by omega, by rw [mvI_len]; exact h.short⟩ (allM_mvI h.ins) (by rw [mvI_fst, ni_nd]; exact h.nd)

/-! ### A table of registers -/

def tabN (n : Nat) (F : Nat → Nat) : List Nat := (List.range n).map F

theorem tabN_len (n : Nat) (F : Nat → Nat) : (tabN n F).length = n := by simp [tabN]

theorem tabN_at {n : Nat} (F : Nat → Nat) {k : Nat} (h : k < n) : (tabN n F)[k]? = some (F k) := by simp [tabN, h]

theorem tabN_mem {n : Nat} {F : Nat → Nat} {x : Nat} : x ∈ tabN n F ↔ ∃ s, s < n ∧ F s = x := by
  unfold tabN
  rw [List.mem_map]
  simp only [List.mem_range]

theorem ni_len2 (l : List Nat) : (ni l).length = l.length := by simp [ni]

theorem ni_tab_at {n : Nat} (F : Nat → Nat) {k : Nat} (h : k < n) : (ni (tabN n F))[k]? = some ((F k : Nat) : Int) := ni_at (tabN_at F h)

/-- one place of a table anew -/
theorem ni_tab_set {n : Nat} {F G : Nat → Nat} {x y : Nat} (hx : G x = y) (h : ∀ k, k < n → k ≠ x → G k = F k) : (ni (tabN n F)).set x (y : Int) = ni (tabN n G) := by
  apply List.ext_getElem?
  intro k
  rw [List.getElem?_set]
  by_cases hk : k < n
  · rw [ni_tab_at _ hk, ni_tab_at _ hk]
    by_cases he : x = k
    · subst he
      rw [if_pos rfl, if_pos (by simp [ni_len2, tabN_len, hk]), hx]
    · rw [if_neg he, h k hk (fun e => he e.symm)]
  · have e1 : (ni (tabN n F))[k]? = none := List.getElem?_eq_none (by rw [ni_len2, tabN_len]; omega)
    have e2 : (ni (tabN n G))[k]? = none := List.getElem?_eq_none (by rw [ni_len2, tabN_len]; omega)
    rw [e1, e2]
    split
    · rw [if_neg (by rw [ni_len2, tabN_len]; omega)]
    · rfl

end Go.Proofs.Ytidjnmigbhaekaa
