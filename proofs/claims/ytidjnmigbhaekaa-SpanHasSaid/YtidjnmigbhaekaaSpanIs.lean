/-
  What package span's functions do (R1, R2): their contracts in one word; the code of In.
-/
import Derived.Test.YtidjnmigbhaekaaSpanRef
import Derived.Test.YtidjnmigbhaekaaBlockOpen
namespace Go.Proofs.Ytidjnmigbhaekaa
open Go.RowKit
set_option linter.unusedSimpArgs false
set_option linter.unusedVariables false
set_option maxRecDepth 100000

/-- what Do returns -/
structure DoIs : Prop where
  ok : ∀ (o : Int) (a b : Int × Int) (w : World), 3 ≤ o → o ≤ 6 → SpOk a → SpOk b →
    Calls Try.prog 7 #[.int .i64 o, .agg #[.int .i64 a.1, .int .i64 a.2], .agg #[.int .i64 b.1, .int .i64 b.2]] w fun e w' => e = .returned (.tuple #[.agg #[.int .i64 (doSp o a b).1, .int .i64 (doSp o a b).2], .int .i64 0]) ∧ Below w.heap.size w w'
  kind : ∀ (o : Int) (a b : Int × Int) (w : World), (o < 3 ∨ 6 < o) →
    Calls Try.prog 7 #[.int .i64 o, .agg #[.int .i64 a.1, .int .i64 a.2], .agg #[.int .i64 b.1, .int .i64 b.2]] w fun e w' => e = .returned (.tuple #[.agg #[.int .i64 0, .int .i64 0], .int .i64 6]) ∧ Below w.heap.size w w'
  range : ∀ (o : Int) (a b : Int × Int) (w : World), 3 ≤ o → o ≤ 6 → ¬ (SpOk a ∧ SpOk b) →
    Calls Try.prog 7 #[.int .i64 o, .agg #[.int .i64 a.1, .int .i64 a.2], .agg #[.int .i64 b.1, .int .i64 b.2]] w fun e w' => e = .returned (.tuple #[.agg #[.int .i64 0, .int .i64 0], .int .i64 4]) ∧ Below w.heap.size w w'

/-- R2: the code -/
def ckSpan (vars : Int) (p : List Bk) (hv : List (Int × Int)) : Int := if ckProg vars p ≠ 0 then ckProg vars p else if (hv.length : Int) ≠ vars then 3 else if ∀ s ∈ hv, SpOk s then 0 else 4

theorem ckSpan_ok {vars : Int} {p : List Bk} {hv : List (Int × Int)} (h : ckSpan vars p hv = 0) : ∃ n : Nat, vars = (n : Int) ∧ 1 ≤ n ∧ n ≤ 6 ∧ ckProg n p = 0 ∧ RSp n hv := by
  unfold ckSpan at h
  split at h
  · rename_i h1; exact absurd h h1
  · rename_i h1
    have h1 : ckProg vars p = 0 := Classical.byContradiction h1
    split at h
    · omega
    · split at h
      · rename_i h2 h3
        obtain ⟨b1, b2, _⟩ := ckProg_bd h1
        obtain ⟨n, rfl⟩ := Int.eq_ofNat_of_zero_le (show 0 ≤ vars by omega)
        exact ⟨n, rfl, by omega, by omega, h1, by omega, fun j s hs => h3 s (List.mem_of_getElem? hs)⟩
      · omega

theorem ckSpan_of {n : Nat} {p : List Bk} {hv : List (Int × Int)} (h : ckProg n p = 0) (hk : RSp n hv) : ckSpan n p hv = 0 := by
  unfold ckSpan
  rw [if_neg (by simp [h]), if_neg (by rw [hk.1]; simp), if_pos]
  intro s hs
  obtain ⟨j, hj, rfl⟩ := List.getElem_of_mem hs
  exact hk.2 j _ (List.getElem?_eq_getElem hj)

/-- rows of spans that are read -/
def RdGS (w : World) (B : Nat) (A : Option Addr) (L : List (List (Int × Int))) : Prop :=
  0 < L.length → ∃ ad : Addr, A = some ad ∧ ad.block < B ∧ ∀ r row, L[r]? = some row → ∃ Ar cr, w.cell? (ad.add r) = some (.slice Ar row.length cr) ∧ RdM w B Ar row

theorem RdGS.below {w w' : World} {B B' : Nat} {A : Option Addr} {L : List (List (Int × Int))} (h : RdGS w B A L) (hb : Below B' w w') (hB : B ≤ B') : RdGS w' B A L := fun hm => by
  obtain ⟨ad, e, h1, h2⟩ := h hm
  refine ⟨ad, e, h1, fun r row hr => ?_⟩
  obtain ⟨Ar, cr, h3, h4⟩ := h2 r row hr
  exact ⟨Ar, cr, (hb.cell (by rw [addr_add_block]; omega)).trans h3, RdM.below h4 hb hB⟩

theorem RdGS.more {w : World} {B B' : Nat} {A : Option Addr} {L : List (List (Int × Int))} (h : RdGS w B A L) (hB : B ≤ B') : RdGS w B' A L := fun hm => by
  obtain ⟨ad, e, h1, h2⟩ := h hm
  refine ⟨ad, e, by omega, fun r row hr => ?_⟩
  obtain ⟨Ar, cr, h3, h4⟩ := h2 r row hr
  exact ⟨Ar, cr, h3, RdM.more h4 hB⟩

theorem RdGS.at_ {w : World} {B : Nat} {A : Option Addr} {L : List (List (Int × Int))} {k : Nat} (h : RdGS w B A L) (hk : k < L.length) :
    ∃ (ad : Addr) (row : List (Int × Int)) (Ar : Option Addr) (cr : Nat), A = some ad ∧ (ad.add k).block < B ∧ L[k]? = some row ∧ w.cell? (ad.add k) = some (.slice Ar row.length cr) ∧ RdM w B Ar row := by
  obtain ⟨ad, e, h1, h2⟩ := h (by omega)
  have hr := List.getElem?_eq_getElem hk
  obtain ⟨Ar, cr, h3, h4⟩ := h2 k _ hr
  exact ⟨ad, _, Ar, cr, e, by rw [addr_add_block]; exact h1, hr, h3, h4⟩

/-- what In returns -/
structure SpInIs : Prop where
  in_ : ∀ (n : Nat) (A VA : Option Addr) (len cap vcap : Nat) (p : List Bk) (hv : List (Int × Int)) (w : World), RdP w w.heap.size A p → RdM w w.heap.size VA hv → p.length = len → ckProg n p = 0 → RSp n hv →
    Calls Try.prog 10 #[.int .i64 n, .slice A len cap, .slice VA n vcap] w fun e w' => (∃ A' c' L, e = .returned (.tuple #[.slice A' len c', .int .i64 0]) ∧ RdGS w' w'.heap.size A' L ∧ LeastG (spF n p hv) L) ∧ Below w.heap.size w w'
  inBad : ∀ (vars : Int) (A VA : Option Addr) (len cap vl vcap : Nat) (p : List Bk) (hv : List (Int × Int)) (w : World), RdP w w.heap.size A p → RdM w w.heap.size VA hv → p.length = len → len ≤ maxLen → (∀ b ∈ p, InBk b) → hv.length = vl → vl ≤ maxLen → ckSpan vars p hv ≠ 0 →
    Calls Try.prog 10 #[.int .i64 vars, .slice A len cap, .slice VA vl vcap] w fun e w' => (∃ A' c', e = .returned (.tuple #[.slice A' 0 c', .int .i64 (ckSpan vars p hv)])) ∧ Below w.heap.size w w'

end Go.Proofs.Ytidjnmigbhaekaa
