/-
  value.classes: the first ones and the plain terms of a valid list (D1).
-/
import Derived.Test.YtacokdghfkpdpaaClasses
import Derived.Test.YtacokdghfkpdpaaComes
namespace Go.Proofs.Ytacokdghfkpdpaa
open Go.RowKit
set_option linter.unusedSimpArgs false
set_option linter.unusedVariables false
set_option maxRecDepth 100000

theorem termc_app : AppTy Try.prog 22 30 4 32 := appTy_of (z := .agg #[.int .i64 0, .int .i64 0, .int .i64 0, .int .i64 0]) Try.underlying22 (by kernel_rfl) rfl (by omega)

theorem plain_at (o a b v : Int) (A : Option Addr) (n cap : Nat) (fs : List Nat) (p0 p1 p2 p3 : Int) (hp : plT fs ⟨o, a, b, v⟩ = ⟨p0, p1, p2, p3⟩) (w : World) (hx : RdI w w.heap.size A (ni fs)) (hl : fs.length = n) (ho : (o = 1 ∨ o = 2) ∨ (3 ≤ o ∧ o ≤ 6 ∧ 0 ≤ a ∧ a < n ∧ 0 ≤ b ∧ b < n)) (hm : n ≤ 65536) :
    Calls Try.prog 41 #[.agg #[.int .i64 o, .int .i64 a, .int .i64 b, .int .i64 v], .slice A n cap] w fun e w' =>
      e = .returned (.agg #[.int .i64 p0, .int .i64 p1, .int .i64 p2, .int .i64 p3]) ∧ Below w.heap.size w w' :=
  (plain_any o a b v A n cap fs w hx hl ho hm).mono fun e w' ⟨h1, h2⟩ => ⟨by rw [h1, hp]; rfl, h2⟩

theorem own_capM {w : World} {base : Nat} {e : TypeId} {size : Nat} {A : Option Addr} {n c : Nat} {xs : List Value} (h : w.ownsRow base e size (.slice A n c) n xs) : n ≤ c := by
  rcases h.2 with ⟨hv, hn⟩ | ⟨g, cap, cur, hv, _, _, hnc, _⟩
  · injection hv with _ _ hc; omega
  · injection hv with _ _ hc; omega

/-- what is known, as values -/
def knV (l : List Tm) (m : Nat) : List (Value × Value) := (knS l m).map fun p => (tmV p.1, .int .i64 (p.2 : Int))

structure Cl (w : World) (l : List Tm) (X : World) (k1 : Nat) (A1 : Option Addr) (c1 : Nat) (k2 : Nat) (A2 : Option Addr) (c2 : Nat) (m : Nat) : Prop where
  r1 : X.ownsRow (w.heap.size + 1) 3 1 (.slice A1 k1 c1) k1 (iv (ni ((fsL l).take k1)))
  r2 : X.ownsRow (w.heap.size + 1) 30 4 (.slice A2 k2 c2) k2 (tv ((pnL l).take k2))
  ap : ∀ g, (Value.slice A1 k1 c1).ownBlock = some g → (Value.slice A2 k2 c2).ownBlock ≠ some g
  mp : OwnM X w.heap.size (knV l m)
  bl : Below w.heap.size w X
  sz : w.heap.size + 1 ≤ X.heap.size

theorem Own.grown {w w' : World} {g : Nat} {t : TypeId} {cs : List Value} {row : Option Nat} (h : Own w g t cs) (hg : w.grownBy w' row) (hne : row ≠ some g) : Own w' g t cs := (hg.block g h.lt (fun e => hne e.symm)).trans h

section
variable {w : World} {l : List Tm} {X Y : World} {k1 c1 k2 c2 m : Nat} {A1 A2 : Option Addr}

theorem Cl.quiet (h : Cl w l X k1 A1 c1 k2 A2 c2 m) (hb : Below X.heap.size X Y) : Cl w l Y k1 A1 c1 k2 A2 c2 m :=
  ⟨own_below h.r1 hb, own_below h.r2 hb, h.ap, h.mp.below hb h.mp.lt, h.bl.trans (hb.mono h.bl.size), Nat.le_trans h.sz hb.size⟩

theorem Cl.put (h : Cl w l X k1 A1 c1 k2 A2 c2 m) {es : List (Value × Value)} (he : es = knV l (m + 1)) (ho : OwnM Y w.heap.size es) (ht : Turned w.heap.size X Y) : Cl w l Y k1 A1 c1 k2 A2 c2 (m + 1) :=
  ⟨ht.row h.r1 (by omega), ht.row h.r2 (by omega), h.ap, he ▸ ho, h.bl.trans (ht.below (Nat.le_refl _)), by rw [ht.size]; exact h.sz⟩

theorem Cl.stay (h : Cl w l X k1 A1 c1 k2 A2 c2 m) (he : knV l (m + 1) = knV l m) : Cl w l X k1 A1 c1 k2 A2 c2 (m + 1) := ⟨h.r1, h.r2, h.ap, he ▸ h.mp, h.bl, h.sz⟩

theorem Cl.far (h : Cl w l X k1 A1 c1 k2 A2 c2 m) {n : Nat} (hn : X.heap.size ≤ n) : (Value.slice A1 k1 c1).ownBlock ≠ some n := fun e => by have := (h.r1.lt n e).2; omega

theorem Cl.app1 (h : Cl w l X k1 A1 c1 k2 A2 c2 m) {x : Nat} (hd : (fsL l)[k1]? = some x) {A' : Option Addr} {c' : Nat} (ho : Y.ownsRow (w.heap.size + 1) 3 1 (.slice A' (k1 + 1) c') (k1 + 1) (iv (ni ((fsL l).take k1)) ++ [.int .i64 (x : Int)]))
    (hg : X.grownBy Y (Value.slice A1 k1 c1).ownBlock) (hp : (Value.slice A' (k1 + 1) c').ownBlock = (Value.slice A1 k1 c1).ownBlock ∨ (Value.slice A' (k1 + 1) c').ownBlock = some X.heap.size) : Cl w l Y (k1 + 1) A' c' k2 A2 c2 m := by
  have hne : ∀ g, (Value.slice A1 k1 c1).ownBlock = some g → w.heap.size + 1 ≤ g := fun g hg => (h.r1.lt g hg).1
  have hbX : Below (w.heap.size + 1) X Y := (Below.refl _ X).grown hg h.sz hne
  refine ⟨?_, h.r2.kept hg ?_, fun g hg1 hg2 => ?_, h.mp.below hbX (Nat.lt_succ_self _), h.bl.trans (hbX.mono (Nat.le_succ _)), Nat.le_trans h.sz hg.size⟩
  · rw [List.take_add_one, hd, Option.toList_some, ni_append]
    unfold iv at ho ⊢
    rw [List.map_append]
    exact ho
  · cases he : (Value.slice A2 k2 c2).ownBlock with
    | none => exact .inl rfl
    | some g => exact .inr fun e => h.ap g e.symm he
  · rcases hp with hp | hp
    · exact h.ap g (by rw [← hp]; exact hg1) hg2
    · rw [hp] at hg1
      injection hg1 with hg1
      have := (h.r2.lt g hg2).2
      omega

theorem Cl.app2 (h : Cl w l X k1 A1 c1 k2 A2 c2 m) {p0 p1 p2 p3 : Int} (hd : (pnL l)[k2]? = some ⟨p0, p1, p2, p3⟩) {A' : Option Addr} {c' : Nat} (ho : Y.ownsRow (w.heap.size + 1) 30 4 (.slice A' (k2 + 1) c') (k2 + 1) (tv ((pnL l).take k2) ++ [.int .i64 p0, .int .i64 p1, .int .i64 p2, .int .i64 p3]))
    (hg : X.grownBy Y (Value.slice A2 k2 c2).ownBlock) (hp : (Value.slice A' (k2 + 1) c').ownBlock = (Value.slice A2 k2 c2).ownBlock ∨ (Value.slice A' (k2 + 1) c').ownBlock = some X.heap.size) : Cl w l Y k1 A1 c1 (k2 + 1) A' c' m := by
  have hne : ∀ g, (Value.slice A2 k2 c2).ownBlock = some g → w.heap.size + 1 ≤ g := fun g hg => (h.r2.lt g hg).1
  have hbX : Below (w.heap.size + 1) X Y := (Below.refl _ X).grown hg h.sz hne
  refine ⟨h.r1.kept hg ?_, ?_, fun g hg1 hg2 => ?_, h.mp.below hbX (Nat.lt_succ_self _), h.bl.trans (hbX.mono (Nat.le_succ _)), Nat.le_trans h.sz hg.size⟩
  · cases he : (Value.slice A1 k1 c1).ownBlock with
    | none => exact .inl rfl
    | some g => exact .inr fun e => h.ap g he e.symm
  · rw [List.take_add_one, hd, Option.toList_some, tv_append]
    exact ho
  · rcases hp with hp | hp
    · exact h.ap g hg1 (by rw [← hp]; exact hg2)
    · rw [hp] at hg2
      injection hg2 with hg2
      have := (h.r1.lt g hg1).2
      omega

end

theorem tm_key {vars : Int} {l : List Tm} (hc : ckTerms vars l = 0) {j : Nat} (hj : j < l.length) : KeyV Try.prog 30 (tmV (pn l j)) := by
  have hd := List.getElem?_eq_getElem hj
  have hcs := ckTerm_cases (ckTerms_at hc hd)
  have hb := ckTerms_bd hc
  have hck := nmT_ck (ft_ck hc hd)
  rw [pn_at hd]
  have hc2 := ckTerm_cases hck
  have hop : (nmT (ftT (fsL l) l[j])).op = l[j].op := by rw [nmT_op, ftT_op]
  have hz := nmT_cases (ftT (fsL l) l[j])
  unfold plT tmV
  have hbd : ∀ x : Int, (x = 0 ∨ (0 ≤ x ∧ x ≤ 65536)) → (Lit.int .i64 x).wf = true := fun x hx => wf64 (by omega) (by omega)
  rcases hz with ⟨g1, g2⟩ | ⟨g1, g2, g3, g4⟩ | ⟨g1, g2, g3⟩
  · rw [g2] at hc2 hop ⊢
    simp only [] at hc2 hop ⊢
    exact term_key (hbd _ (by omega)) (hbd _ (by omega)) (hbd _ (by omega)) (hbd _ (by omega))
  · rw [g4] at hc2 hop ⊢
    simp only [] at hc2 hop ⊢
    exact term_key (hbd _ (by omega)) (hbd _ (by omega)) (hbd _ (by omega)) (hbd _ (by omega))
  · rw [g3] at hc2 hop ⊢
    simp only [] at hc2 hop ⊢
    exact term_key (hbd _ (by omega)) (hbd _ (by omega)) (hbd _ (by omega)) (hbd _ (by omega))

theorem knV_keys {vars : Int} {l : List Tm} (hc : ckTerms vars l = 0) {m : Nat} (hm : m ≤ l.length) : ∀ p ∈ knV l m, KeyV Try.prog 30 p.1 := by
  intro p hp
  unfold knV at hp
  obtain ⟨q, hq, rfl⟩ := List.mem_map.1 hp
  obtain ⟨h1, h2, h3⟩ := knS_mem.1 hq
  simp only [h3]
  exact tm_key hc (by omega)

theorem knV_old {vars : Int} {l : List Tm} (hc : ckTerms vars l = 0) {k m : Nat} (hk : k < l.length) (hm : m ≤ l.length) (h : (pn l k, fv l k) ∈ knS l m) : (tmV (pn l k), Value.int .i64 (fv l k : Int)) ∈ knV l m ∧ ∀ p ∈ knV l m, p.1 = tmV (pn l k) → p.2 = Value.int .i64 (fv l k : Int) := by
  unfold knV
  refine ⟨List.mem_map.2 ⟨_, h, rfl⟩, fun p hp he => ?_⟩
  obtain ⟨q, hq, rfl⟩ := List.mem_map.1 hp
  have := kn_one hc hm hq h (tmV_inj he)
  rw [this]

theorem knV_new {vars : Int} {l : List Tm} (hc : ckTerms vars l = 0) {k : Nat} (hk : k < l.length) (h : fv l k = k) : ∀ p ∈ knV l k, p.1 ≠ tmV (pn l k) := by
  unfold knV
  intro p hp he
  obtain ⟨q, hq, rfl⟩ := List.mem_map.1 hp
  exact kn_new hc hk h q hq (tmV_inj he)

theorem knV_put {l : List Tm} {k : Nat} (h : fv l k = k) : knV l k ++ [(tmV (pn l k), .int .i64 (k : Int))] = knV l (k + 1) := by
  unfold knV
  rw [show knS l (k + 1) = knS l k ++ [(pn l k, k)] from by rw [knS, if_pos h], List.map_append]
  rfl

theorem knV_stay {l : List Tm} {k : Nat} (h : fv l k ≠ k) : knV l (k + 1) = knV l k := by
  unfold knV
  rw [show knS l (k + 1) = knS l k from by rw [knS, if_neg h]]

theorem fs_at {l : List Tm} {k : Nat} (h : k < l.length) : (fsL l)[k]? = some (fv l k) := by
  have hk : k < (fsL l).length := by rw [fsL_len]; exact h
  unfold fv
  rw [List.getD_eq_getElem?_getD, List.getElem?_eq_getElem hk]
  rfl

end Go.Proofs.Ytacokdghfkpdpaa
