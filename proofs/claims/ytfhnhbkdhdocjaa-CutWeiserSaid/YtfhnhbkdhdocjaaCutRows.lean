/-
  What cut.requiredSteps keeps in memory (T1): rows of marks, each of its own, stored anew; words; a flag.
-/
import Derived.Test.YtfhnhbkdhdocjaaCutSteps
import Derived.Test.YtfhnhbkdhdocjaaMWayR
namespace Go.Proofs.Ytfhnhbkdhdocjaa
open Go.RowKit Go.Shelf
set_option linter.unusedSimpArgs false
set_option linter.unusedVariables false
set_option maxRecDepth 100000

theorem Rd.heapEq {w w' : World} {A : Option Addr} {n : Nat} {f : Nat → Value} (h : Rd w w.heap.size A n f) (he : w'.heap = w.heap) : Rd w' w'.heap.size A n f := fun hm => by
  obtain ⟨ad, e, hb, hc⟩ := h hm
  refine ⟨ad, e, by rw [he]; exact hb, fun j hj => ?_⟩
  rw [← hc j hj]
  unfold World.cell?
  rw [he]

/-- the rows as values -/
def rvM (qs : List (List Bool × Option Addr × Nat)) : List Value := qs.map fun q => .slice q.2.1 q.1.length q.2.2

theorem rvM_at {qs : List (List Bool × Option Addr × Nat)} {i : Nat} {q : List Bool × Option Addr × Nat} (h : qs[i]? = some q) : (rvM qs)[i]? = some (.slice q.2.1 q.1.length q.2.2) := by
  unfold rvM
  rw [List.getElem?_map, h]
  rfl

/-- a row of its own, or none -/
def RowO (lo Bc : Nat) (W : World) (q : List Bool × Option Addr × Nat) : Prop := (q.2.1 = none ∧ q.1 = []) ∨ ∃ b, q.2.1 = some ⟨b, 0, none⟩ ∧ lo ≤ b ∧ b ≠ Bc ∧ Own W b 4 (bv q.1)

theorem RowO.kept {lo Bc : Nat} {W W' : World} {q : List Bool × Option Addr × Nat} {row : Option Nat} (h : RowO lo Bc W q) (hg : W.grownBy W' row) (hr : ∀ r, row = some r → ∃ o : Obj, W.heap[r]? = some o ∧ o.isCells = false) : RowO lo Bc W' q :=
  h.imp id fun ⟨b, h1, h2, h3, h4⟩ => ⟨b, h1, h2, h3, h4.kept hg hr⟩

theorem RowO.below {lo Bc : Nat} {W W' : World} {q : List Bool × Option Addr × Nat} (h : RowO lo Bc W q) (hb : Below W.heap.size W W') : RowO lo Bc W' q :=
  h.imp id fun ⟨b, h1, h2, h3, h4⟩ => ⟨b, h1, h2, h3, h4.below hb h4.lt⟩

theorem RowO.far {lo Bc : Nat} {W : World} {q : List Bool × Option Addr × Nat} (h : RowO lo Bc W q) {p : Addr} (hp : p.block < lo ∨ p.block = Bc) (u : Value) : RowO lo Bc (W.setCell p u) q :=
  h.imp id fun ⟨b, h1, h2, h3, h4⟩ => ⟨b, h1, h2, h3, h4.far (by rcases hp with hp | hp <;> omega) u⟩

structure RqM (g lo Bc : Nat) (qs : List (List Bool × Option Addr × Nat)) (W : World) : Prop where
  own : Own W g 76 (rvM qs)
  row : ∀ (i : Nat) (q : List Bool × Option Addr × Nat), qs[i]? = some q → RowO lo Bc W q

/-- what requiredSteps holds: boxes at h, h + 1, .. -/
structure RqW (want T h len capN : Nat) (AN : Option Addr) (Bc : Nat) (F : List Nat) (qs : List (List Bool × Option Addr × Nat)) (ch : Bool) (W : World) : Prop where
  nx : Own W h 80 [.slice AN len capN]
  wt : Own W (h + 1) 23 [.int .u32 (want : Nat)]
  ts : Own W (h + 1 + 1) 23 [.int .u32 (T : Nat)]
  bs : Own W (h + 1 + 1 + 1 + 1) 71 [.slice (some ⟨h + 1 + 1 + 1, 0, none⟩) len len]
  bi : Own W (h + 1 + 1 + 1 + 1 + 1 + 1) 24 [.slice (some ⟨h + 1 + 1 + 1 + 1 + 1, 0, none⟩) len len]
  fs : Own W (h + 1 + 1 + 1 + 1 + 1) 23 (uv F)
  bc : Own W Bc 4 [.bool ch]
  rows : RqM (h + 1 + 1 + 1) (h + 7) Bc qs W
  lo : h + 7 ≤ Bc

section
variable {want T h len capN Bc : Nat} {AN : Option Addr} {F : List Nat} {qs : List (List Bool × Option Addr × Nat)} {ch : Bool} {W W' : World}

theorem RqW.kept {row : Option Nat} (hi : RqW want T h len capN AN Bc F qs ch W) (hg : W.grownBy W' row) (hr : ∀ r, row = some r → ∃ o : Obj, W.heap[r]? = some o ∧ o.isCells = false) : RqW want T h len capN AN Bc F qs ch W' :=
  ⟨hi.nx.kept hg hr, hi.wt.kept hg hr, hi.ts.kept hg hr, hi.bs.kept hg hr, hi.bi.kept hg hr, hi.fs.kept hg hr, hi.bc.kept hg hr, ⟨hi.rows.own.kept hg hr, fun i q hq => (hi.rows.row i q hq).kept hg hr⟩, hi.lo⟩

theorem RqW.below (hi : RqW want T h len capN AN Bc F qs ch W) (hb : Below W.heap.size W W') : RqW want T h len capN AN Bc F qs ch W' :=
  ⟨hi.nx.below hb hi.nx.lt, hi.wt.below hb hi.wt.lt, hi.ts.below hb hi.ts.lt, hi.bs.below hb hi.bs.lt, hi.bi.below hb hi.bi.lt, hi.fs.below hb hi.fs.lt, hi.bc.below hb hi.bc.lt, ⟨hi.rows.own.below hb hi.rows.own.lt, fun i q hq => (hi.rows.row i q hq).below hb⟩, hi.lo⟩

/-- a row stored anew -/
theorem RqW.row {m g c : Nat} {r : List Bool} (hi : RqW want T h len capN AN Bc F qs ch W) (ho : Own W g 4 (bv r)) (hg : h + 7 ≤ g) (hgc : g ≠ Bc) : RqW want T h len capN AN Bc F (qs.set m (r, some ⟨g, 0, none⟩, c)) ch (W.setCell ⟨h + 1 + 1 + 1, m, none⟩ (.slice (some ⟨g, 0, none⟩) r.length c)) := by
  have hlo := hi.lo
  refine ⟨hi.nx.far (by show h ≠ h + 1 + 1 + 1; omega) _, hi.wt.far (by show h + 1 ≠ h + 1 + 1 + 1; omega) _, hi.ts.far (by show h + 1 + 1 ≠ h + 1 + 1 + 1; omega) _, hi.bs.far (by show h + 1 + 1 + 1 + 1 ≠ h + 1 + 1 + 1; omega) _, hi.bi.far (by show h + 1 + 1 + 1 + 1 + 1 + 1 ≠ h + 1 + 1 + 1; omega) _, hi.fs.far (by show h + 1 + 1 + 1 + 1 + 1 ≠ h + 1 + 1 + 1; omega) _, hi.bc.far (by show Bc ≠ h + 1 + 1 + 1; omega) _, ⟨?_, fun i q hq => ?_⟩, hlo⟩
  · have := hi.rows.own.set m (.slice (some ⟨g, 0, none⟩) r.length c)
    have e : rvM (qs.set m (r, some ⟨g, 0, none⟩, c)) = (rvM qs).set m (.slice (some ⟨g, 0, none⟩) r.length c) := by unfold rvM; rw [List.map_set]
    rw [e]
    exact this
  · by_cases e : m = i
    · subst e
      have hml : m < qs.length := by
        have := (List.getElem?_eq_some_iff.1 hq).1
        rwa [List.length_set] at this
      rw [List.getElem?_set_self hml] at hq
      injection hq with hq
      subst hq
      exact .inr ⟨g, rfl, hg, hgc, ho.far (by show g ≠ h + 1 + 1 + 1; omega) _⟩
    · rw [List.getElem?_set_ne e] at hq
      exact (hi.rows.row i q hq).far (.inl (by show h + 1 + 1 + 1 < h + 7; omega)) _

/-- the flag stored -/
theorem RqW.flag (hi : RqW want T h len capN AN Bc F qs ch W) (d : Bool) : RqW want T h len capN AN Bc F qs d (W.setCell ⟨Bc, 0, none⟩ (.bool d)) := by
  have hlo := hi.lo
  exact ⟨hi.nx.far (by show h ≠ Bc; omega) _, hi.wt.far (by show h + 1 ≠ Bc; omega) _, hi.ts.far (by show h + 1 + 1 ≠ Bc; omega) _, hi.bs.far (by show h + 1 + 1 + 1 + 1 ≠ Bc; omega) _, hi.bi.far (by show h + 1 + 1 + 1 + 1 + 1 + 1 ≠ Bc; omega) _, hi.fs.far (by show h + 1 + 1 + 1 + 1 + 1 ≠ Bc; omega) _, hi.bc.set 0 _, ⟨hi.rows.own.far (by show h + 1 + 1 + 1 ≠ Bc; omega) _, fun i q hq => (hi.rows.row i q hq).far (.inr rfl) _⟩, hlo⟩

/-- a word stored -/
theorem RqW.word (hi : RqW want T h len capN AN Bc F qs ch W) (m X : Nat) : RqW want T h len capN AN Bc (F.set m X) qs ch (W.setCell ⟨h + 1 + 1 + 1 + 1 + 1, m, none⟩ (.int .u32 (X : Nat))) := by
  have hlo := hi.lo
  exact ⟨hi.nx.far (by show h ≠ h + 1 + 1 + 1 + 1 + 1; omega) _, hi.wt.far (by show h + 1 ≠ h + 1 + 1 + 1 + 1 + 1; omega) _, hi.ts.far (by show h + 1 + 1 ≠ h + 1 + 1 + 1 + 1 + 1; omega) _, hi.bs.far (by show h + 1 + 1 + 1 + 1 ≠ h + 1 + 1 + 1 + 1 + 1; omega) _, hi.bi.far (by show h + 1 + 1 + 1 + 1 + 1 + 1 ≠ h + 1 + 1 + 1 + 1 + 1; omega) _, OwnU.set hi.fs m X, hi.bc.far (by show Bc ≠ h + 1 + 1 + 1 + 1 + 1; omega) _, ⟨hi.rows.own.far (by show h + 1 + 1 + 1 ≠ h + 1 + 1 + 1 + 1 + 1; omega) _, fun i q hq => (hi.rows.row i q hq).far (.inl (by show h + 1 + 1 + 1 + 1 + 1 < h + 7; omega)) _⟩, hlo⟩

/-- the flag in a box of its own, for the next round -/
theorem RqW.next (hi : RqW want T h len capN AN Bc F qs ch W) (hs : h + 7 ≤ W.heap.size) : RqW want T h len capN AN W.heap.size F qs ch (W.alloc (.cells #[.bool ch] 4)) := by
  have hb : Below W.heap.size W (W.alloc (.cells #[.bool ch] 4)) := by go_grown
  have h2 := hi.below hb
  exact ⟨h2.nx, h2.wt, h2.ts, h2.bs, h2.bi, h2.fs, Own.new W 4 [.bool ch], ⟨h2.rows.own, fun i q hq => (hi.rows.row i q hq).imp id fun ⟨b, k1, k2, k3, k4⟩ => ⟨b, k1, k2, by have := k4.lt; omega, k4.below hb k4.lt⟩⟩, hs⟩

/-- the rows read -/
theorem RqM.rd {g lo : Nat} (hi : RqM g lo Bc qs W) : RdM2 W W.heap.size (some ⟨g, 0, none⟩) (qs.map (·.1)) := fun hm => by
  refine ⟨⟨g, 0, none⟩, rfl, hi.own.lt, fun r row hr => ?_⟩
  rw [List.getElem?_map] at hr
  cases hq : qs[r]? with
  | none => rw [hq] at hr; cases hr
  | some q =>
    rw [hq] at hr
    injection hr with hr
    subst hr
    have ha : (⟨g, 0, none⟩ : Addr).add r = ⟨g, r, none⟩ := by unfold Addr.add; split <;> simp_all
    refine ⟨q.2.1, q.2.2, by rw [ha]; exact hi.own.cell (rvM_at hq), ?_⟩
    show RdBo W W.heap.size q.2.1 q.1
    rcases hi.row r q hq with ⟨h1, h2⟩ | ⟨b, h1, _, _, h2⟩
    · rw [h1, h2]
      intro h0
      simp at h0
    · rw [h1]
      exact (OwnB.rd h2).more h2.lt
end

/-! ### Marks of the ranges over functions that are through -/

/-- the blocks for deferred calls, all empty -/
def MksOk (Dl : List Nat) (W : World) : Prop := ∀ D ∈ Dl, W.heap[D]? = some (.deferred (some []))

def mksD (Dl : List Nat) : List Deferred := Dl.map fun D => { target := .collected D, args := #[] }

theorem MksOk.keeps {Dl : List Nat} {W W' : World} (h : MksOk Dl W) (hk : KeepsOthers W W') : MksOk Dl W' := fun D hD => hk.same D _ (h D hD) rfl

theorem mks_from {Dl : List Nat} {B : Nat} {β : Type} (hD : ∀ D ∈ Dl, D < B) : OwnFrom B (fun (_ : β) W => MksOk Dl W) := fun _ X Y row hs hg hr D hD' =>
  (hg.block D (by have := (Array.getElem?_eq_some_iff.1 (hs D hD')).1; exact this) (fun e => by have := (hr D e.symm).1; have := hD D hD'; omega)).trans (hs D hD')

/-- the blocks shut, one after another -/
def shutD : List Nat → World → World
  | [], W => W
  | D :: Dl, W => shutD Dl (W.putObj D (.deferred none))

theorem shut_block : ∀ {Dl : List Nat} {W : World} {b : Nat}, b ∉ Dl → (shutD Dl W).heap[b]? = W.heap[b]?
  | [], _, _, _ => rfl
  | D :: Dl, W, b, h => by
    rw [shutD, shut_block (fun e => h (List.mem_cons_of_mem _ e))]
    exact World.putObj_heap_other (fun e => h (by rw [e]; exact List.mem_cons_self ..))

theorem MksOk.tail {D : Nat} {Dl : List Nat} {W : World} (h : MksOk (D :: Dl) W) (hn : (D :: Dl).Nodup) : MksOk Dl (W.putObj D (.deferred none)) := fun E hE => by
  rw [World.putObj_heap_other (fun e => (List.nodup_cons.1 hn).1 (by rw [← e]; exact hE))]
  exact h E (List.mem_cons_of_mem _ hE)

theorem shut_below {w : World} : ∀ {Dl : List Nat} {W : World}, MksOk Dl W → Dl.Nodup → (∀ D ∈ Dl, w.heap.size ≤ D) → Below w.heap.size W (shutD Dl W)
  | [], W, _, _, _ => Below.refl _ _
  | D :: Dl, W, h, hn, hD => by
    rw [shutD]
    have h1 : Below w.heap.size W (W.putObj D (.deferred none)) := belowK_b (w := w) (Nat.le_refl _) W D _ _ (hD D (List.mem_cons_self ..)) (h D (List.mem_cons_self ..)) rfl rfl
    exact h1.trans (shut_below (h.tail hn) (List.nodup_cons.1 hn).2 fun E hE => hD E (List.mem_cons_of_mem _ hE))

theorem mks_no {Dl : List Nat} {W : World} (h : MksOk Dl W) {b : Nat} {t : TypeId} {cs : List Value} (ho : Own W b t cs) : b ∉ Dl := fun hb => by
  have h1 := h b hb
  have h2 : W.heap[b]? = _ := ho
  rw [h1] at h2
  cases h2

theorem leaves_mks {F : Fence} {n : Nat} {P : Program} {fn : Func} {tmps : Array Value} {R : Ending → World → Prop} : ∀ (Dl : List Nat) (W : World), MksOk Dl W → Dl.Nodup → LeavesIn F n P fn tmps R [] .returning (shutD Dl W) → LeavesInM F n P fn tmps R (mksD Dl) .returning W
  | [], W, _, _, h => h
  | D :: Dl, W, hm, hn, h => ⟨by simp, .inl ⟨D, W.putObj D (.deferred none), rfl, run_takeDeferred (hm D (List.mem_cons_self ..)), leaves_mks Dl _ (hm.tail hn) (List.nodup_cons.1 hn).2 h⟩⟩

end Go.Proofs.Ytfhnhbkdhdocjaa
