/-
  Named programs that come in: a slice of structs with slices of structs, of steps and of ints in them.
-/
import Derived.Test.YtgcjknibelfjbaaMPure
import Derived.Test.YtgcjknibelfjbaaBlockOpen
namespace Go.Proofs.Ytgcjknibelfjbaa
open Go.RowKit Go.ChangeShapes Go.WideShapes Go.ChangeAt Go.Deep
set_option linter.unusedSimpArgs false
set_option linter.unusedVariables false
set_option maxRecDepth 100000

instance : Inhabited Jn := ⟨⟨0, []⟩⟩

instance : Inhabited Sg := ⟨⟨[], [], -1, -1, 0, []⟩⟩

/-- a slice of joins -/
def RdJ (w : World) (B : Nat) (A : Option Addr) (js : List Jn) : Prop :=
  0 < js.length → ∃ ad : Addr, A = some ad ∧ ad.block < B ∧ ∀ (k : Nat) (j : Jn), js[k]? = some j → ∃ Af cf, RdI w B Af j.fr ∧ w.cell? (ad.add (k * 2)) = some (.int .i64 j.to) ∧
    w.cell? ⟨(ad.add (k * 2)).block, (ad.add (k * 2)).off + 1, none⟩ = some (.slice Af j.fr.length cf) ∧ j.fr.length ≤ cf

theorem RdJ.below {w w' : World} {B B' : Nat} {A : Option Addr} {js : List Jn} (h : RdJ w B A js) (hb : Below B' w w') (hB : B ≤ B') : RdJ w' B A js := fun hm => by
  obtain ⟨ad, e, h1, h2⟩ := h hm
  refine ⟨ad, e, h1, fun k b hk => ?_⟩
  obtain ⟨Af, cf, h3, h4, h5, h6⟩ := h2 k b hk
  have hbl : (ad.add (k * 2)).block < B' := by rw [addr_add_block]; omega
  exact ⟨Af, cf, h3.below hb hB, (hb.cell hbl).trans h4, (hb.cell (p := ⟨(ad.add (k * 2)).block, (ad.add (k * 2)).off + 1, none⟩) hbl).trans h5, h6⟩

theorem RdJ.more {w : World} {B B' : Nat} {A : Option Addr} {js : List Jn} (h : RdJ w B A js) (hB : B ≤ B') : RdJ w B' A js := fun hm => by
  obtain ⟨ad, e, h1, h2⟩ := h hm
  refine ⟨ad, e, by omega, fun k b hk => ?_⟩
  obtain ⟨Af, cf, h3, h4⟩ := h2 k b hk
  exact ⟨Af, cf, h3.more hB, h4⟩

theorem RdJ.at_ {w : World} {B : Nat} {A : Option Addr} {js : List Jn} {k : Nat} (h : RdJ w B A js) (hk : k < js.length) :
    ∃ (ad : Addr) (j : Jn) (Af : Option Addr) (cf : Nat), A = some ad ∧ (ad.add (k * 2)).block < B ∧ js[k]? = some j ∧ RdI w B Af j.fr ∧ w.cell? (ad.add (k * 2)) = some (.int .i64 j.to) ∧
    w.cell? ⟨(ad.add (k * 2)).block, (ad.add (k * 2)).off + 1, none⟩ = some (.slice Af j.fr.length cf) ∧ j.fr.length ≤ cf := by
  obtain ⟨ad, e, h1, h2⟩ := h (by omega)
  have hr := List.getElem?_eq_getElem hk
  obtain ⟨Af, cf, h3, h4, h5, h6⟩ := h2 k _ hr
  exact ⟨ad, _, Af, cf, e, by rw [addr_add_block]; exact h1, hr, h3, h4, h5, h6⟩

/-- a slice of named blocks -/
def RdN (w : World) (B : Nat) (A : Option Addr) (l : List Sg) : Prop :=
  0 < l.length → ∃ ad : Addr, A = some ad ∧ ad.block < B ∧ ∀ (k : Nat) (s : Sg), l[k]? = some s → ∃ Aj cj Ac cc Al cl, RdJ w B Aj s.joins ∧ RdS w B Ac s.code ∧ RdI w B Al s.last ∧
    w.cell? (ad.add (k * 6)) = some (.slice Aj s.joins.length cj) ∧ w.cell? ⟨(ad.add (k * 6)).block, (ad.add (k * 6)).off + 1, none⟩ = some (.slice Ac s.code.length cc) ∧
    w.cell? ⟨(ad.add (k * 6)).block, (ad.add (k * 6)).off + 2, none⟩ = some (.int .i64 s.test) ∧ w.cell? ⟨(ad.add (k * 6)).block, (ad.add (k * 6)).off + 3, none⟩ = some (.int .i64 s.th) ∧
    w.cell? ⟨(ad.add (k * 6)).block, (ad.add (k * 6)).off + 4, none⟩ = some (.int .i64 s.el) ∧ w.cell? ⟨(ad.add (k * 6)).block, (ad.add (k * 6)).off + 5, none⟩ = some (.slice Al s.last.length cl)

theorem RdN.below {w w' : World} {B B' : Nat} {A : Option Addr} {l : List Sg} (h : RdN w B A l) (hb : Below B' w w') (hB : B ≤ B') : RdN w' B A l := fun hm => by
  obtain ⟨ad, e, h1, h2⟩ := h hm
  refine ⟨ad, e, h1, fun k b hk => ?_⟩
  obtain ⟨Aj, cj, Ac, cc, Al, cl, h3, h4, h5, g0, g1, g2, g3, g4, g5⟩ := h2 k b hk
  have hbl : (ad.add (k * 6)).block < B' := by rw [addr_add_block]; omega
  exact ⟨Aj, cj, Ac, cc, Al, cl, h3.below hb hB, h4.below hb hB, h5.below hb hB, (hb.cell hbl).trans g0, (hb.cell (p := ⟨(ad.add (k * 6)).block, (ad.add (k * 6)).off + 1, none⟩) hbl).trans g1,
    (hb.cell (p := ⟨(ad.add (k * 6)).block, (ad.add (k * 6)).off + 2, none⟩) hbl).trans g2, (hb.cell (p := ⟨(ad.add (k * 6)).block, (ad.add (k * 6)).off + 3, none⟩) hbl).trans g3,
    (hb.cell (p := ⟨(ad.add (k * 6)).block, (ad.add (k * 6)).off + 4, none⟩) hbl).trans g4, (hb.cell (p := ⟨(ad.add (k * 6)).block, (ad.add (k * 6)).off + 5, none⟩) hbl).trans g5⟩

theorem RdN.more {w : World} {B B' : Nat} {A : Option Addr} {l : List Sg} (h : RdN w B A l) (hB : B ≤ B') : RdN w B' A l := fun hm => by
  obtain ⟨ad, e, h1, h2⟩ := h hm
  refine ⟨ad, e, by omega, fun k b hk => ?_⟩
  obtain ⟨Aj, cj, Ac, cc, Al, cl, h3, h4, h5, h6⟩ := h2 k b hk
  exact ⟨Aj, cj, Ac, cc, Al, cl, h3.more hB, h4.more hB, h5.more hB, h6⟩

theorem RdN.at_ {w : World} {B : Nat} {A : Option Addr} {l : List Sg} {k : Nat} (h : RdN w B A l) (hk : k < l.length) :
    ∃ (ad : Addr) (s : Sg) (Aj : Option Addr) (cj : Nat) (Ac : Option Addr) (cc : Nat) (Al : Option Addr) (cl : Nat), A = some ad ∧ (ad.add (k * 6)).block < B ∧ l[k]? = some s ∧ RdJ w B Aj s.joins ∧ RdS w B Ac s.code ∧ RdI w B Al s.last ∧
    w.cell? (ad.add (k * 6)) = some (.slice Aj s.joins.length cj) ∧ w.cell? ⟨(ad.add (k * 6)).block, (ad.add (k * 6)).off + 1, none⟩ = some (.slice Ac s.code.length cc) ∧
    w.cell? ⟨(ad.add (k * 6)).block, (ad.add (k * 6)).off + 2, none⟩ = some (.int .i64 s.test) ∧ w.cell? ⟨(ad.add (k * 6)).block, (ad.add (k * 6)).off + 3, none⟩ = some (.int .i64 s.th) ∧
    w.cell? ⟨(ad.add (k * 6)).block, (ad.add (k * 6)).off + 4, none⟩ = some (.int .i64 s.el) ∧ w.cell? ⟨(ad.add (k * 6)).block, (ad.add (k * 6)).off + 5, none⟩ = some (.slice Al s.last.length cl) := by
  obtain ⟨ad, e, h1, h2⟩ := h (by omega)
  have hr := List.getElem?_eq_getElem hk
  obtain ⟨Aj, cj, Ac, cc, Al, cl, h3⟩ := h2 k _ hr
  exact ⟨ad, _, Aj, cj, Ac, cc, Al, cl, e, by rw [addr_add_block]; exact h1, hr, h3⟩

/-- a named block that comes in: within reach -/
structure InSg (s : Sg) : Prop where
  joins : s.joins.length * 32 ≤ 140737488351232
  code : s.code.length * 40 ≤ 140737488351232
  last : s.last.length * 8 ≤ 140737488351232
  test : inI s.test
  th : inI s.th
  el : inI s.el
  fr : ∀ j ∈ s.joins, j.fr.length * 8 ≤ 140737488351232

section
variable {H : Type} {enc : TypeId × Value → H} {P : Program} {w : World} {base : Nat} {spare : Nat → Bool} {held : Bool}

/-- a slice of structs of fields of one cell each, of its datum -/
theorem open_structs {t e : TypeId} {fs : Array Field} {m fuel : Nat} {cs : List Value} {x : DataW H × List MemPlace} (ht : P.underlying t = some (.slice e)) (he : P.underlying e = some (.struct fs)) (hn : fs.size = m)
    (hone : oneCellFields P fs = true) (hC : P.cellsOf e = m) (hf : DataW.trod enc P w base spare held fuel t cs = some x) (hw : InReach P t x.1) :
    cs = [.slice none 0 0] ∨ ∃ (a : Addr) (len cap : Nat), cs = [.slice (some a) len cap] ∧ len ≤ cap ∧ cap ≤ maxLen ∧ ∀ i, i < len → ∃ vs : Nat → Value, ∀ (j : Nat) (f : Field), fs[j]? = some f →
      w.cell? ((a.add (i * m)).add j) = some (vs j) ∧ ∃ n' y, DataW.trod enc P w base spare held n' f.type [vs j] = some y ∧ InReach P f.type y.1 := by
  rcases open_slice ht hf with h0 | ⟨a, len, cap, k, n, D, Pl, hcs, hb, hl, hm, hmm, hx, hi⟩
  · exact .inl h0.1
  · refine .inr ⟨a, len, cap, hcs, hl, hm, fun i hil => ?_⟩
    have him : i < k := by rw [hmm]; split <;> omega
    obtain ⟨cs', hc, ht'⟩ := hi i him
    obtain ⟨ys, n', _, hD, hlen, hyl, hg⟩ := DataW.trod_struct he ht'
    have hDi : InReach P e (D i) := fun q hq => by
      refine hw q ?_
      rw [hx]
      simp only [DataW.weights, ht]
      refine List.mem_cons_of_mem _ (List.mem_append_left _ (weightsAll_mem (List.mem_map.2 ⟨i, List.mem_range.2 hil, rfl⟩) q hq))
    obtain ⟨_, hcl, hat⟩ := World.cells?_some hc
    rw [hC] at hcl hat hlen
    refine ⟨fun j => cs'.getD j undef, fun j f hj => ?_⟩
    have hjs : j < fs.size := (Array.getElem?_eq_some_iff.1 hj).1
    obtain ⟨ho, hk⟩ := hone_of hone j f hj
    have h1 := hg j f hj
    rw [ho, hk, List.drop_eq_getElem_cons (by omega)] at h1
    simp only [List.take_succ_cons, List.take_zero] at h1
    have hyj : j < ys.length := by omega
    rw [List.getElem?_eq_getElem hyj] at h1
    have hcj : cs'.getD j undef = cs'[j]'(by omega) := by rw [List.getD_eq_getElem?_getD, List.getElem?_eq_getElem (by omega)]; rfl
    have hcell := hat j (by omega)
    rw [List.getElem?_eq_getElem (by omega)] at hcell
    refine ⟨by show _ = some (cs'.getD j undef); rw [hcj]; exact hcell, n', ys[j], by show DataW.trod enc P w base spare held n' f.type [cs'.getD j undef] = _; rw [hcj]; exact h1, fun q hq => ?_⟩
    injection hD with hD _
    refine hDi q ?_
    rw [hD]
    simp only [DataW.weights, he]
    refine DataW.weights_mem_each (j := j) (t := f.type) (d := (ys[j]).1) ?_ (by simp [List.getElem?_eq_getElem hyj]) q hq
    simp [hj]

/-- a slice of ints, of its datum -/
theorem open_intsT {t e : TypeId} {fuel : Nat} {cs : List Value} {x : DataW H × List MemPlace} (ht : P.underlying t = some (.slice e)) (he : P.underlying e = some (.int .i64)) (hC : P.cellsOf e = 1)
    (h : DataW.trod enc P w base spare held fuel t cs = some x) :
    ∃ (A : Option Addr) (cap : Nat) (xs : List Int), cs = [.slice A xs.length cap] ∧ xs.length ≤ cap ∧ RdI w w.heap.size A xs := by
  rcases open_ints ht he hC h with ⟨h0, _⟩ | ⟨a, len, cap, zs, hcs, hb, hl, hm, hz, _, hcell, hwf⟩
  · exact ⟨none, 0, [], h0, Nat.le_refl _, fun h => by simp at h⟩
  · have hzl : len ≤ zs.length := by rw [hz]; split <;> omega
    have hL : (zs.take len).length = len := by simp; omega
    refine ⟨some a, cap, zs.take len, by rw [hL]; exact hcs, by rw [hL]; exact hl, fun hp => ?_⟩
    rw [hL] at hp
    have h0 := hcell 0 (by omega)
    refine ⟨a, rfl, by have := block_lt h0; rw [addr_add_block] at this; exact this, fun j hj => ?_⟩
    rw [hL] at hj
    rw [hcell j (by omega)]
    simp [ic, List.getElem?_take, hj]

/-- a slice of joins, of its datum -/
theorem open_joinsT {t e ei : TypeId} {f0 f1 : Field} {fuel : Nat} {cs : List Value} {x : DataW H × List MemPlace} (ht : P.underlying t = some (.slice e)) (he : P.underlying e = some (.struct #[f0, f1]))
    (hone : oneCellFields P #[f0, f1] = true) (hC : P.cellsOf e = 2) (h0 : P.underlying f0.type = some (.int .i64)) (h1 : P.underlying f1.type = some (.slice ei)) (hei : P.underlying ei = some (.int .i64)) (hCi : P.cellsOf ei = 1) (hbi : P.bytesOf ei = 8)
    (hf : DataW.trod enc P w base spare held fuel t cs = some x) (hw : InReach P t x.1) :
    ∃ (A : Option Addr) (cap : Nat) (js : List Jn), cs = [.slice A js.length cap] ∧ js.length ≤ cap ∧ RdJ w w.heap.size A js ∧ ∀ j ∈ js, j.fr.length * 8 ≤ 140737488351232 := by
  rcases open_structs ht he rfl hone hC hf hw with h | ⟨a, len, cap, hcs, hl, hm, hi⟩
  · exact ⟨none, 0, [], h, Nat.le_refl _, fun h => by simp at h, fun _ h => by simp at h⟩
  · have each : ∀ i, i < len → ∃ q : Jn × Option Addr × Nat, RdI w w.heap.size q.2.1 q.1.fr ∧ w.cell? (a.add (i * 2)) = some (.int .i64 q.1.to) ∧ w.cell? ((a.add (i * 2)).add 1) = some (.slice q.2.1 q.1.fr.length q.2.2) ∧ q.1.fr.length ≤ q.2.2 ∧ q.1.fr.length * 8 ≤ 140737488351232 := by
      intro i hil
      obtain ⟨vs, hv⟩ := hi i hil
      obtain ⟨c0, n0, y0, g0, _⟩ := hv 0 f0 rfl
      obtain ⟨c1, n1, y1, g1, w1⟩ := hv 1 f1 rfl
      obtain ⟨z0, k0, _, _⟩ := DataW.trod_int h0 g0
      obtain ⟨Af, cf, xs, k1, hlc, hrd⟩ := open_intsT h1 hei hCi g1
      have hln := trod_len h1 g1 k1 w1
      rw [hbi] at hln
      simp only [List.cons.injEq, and_true] at k0 k1
      rw [k0] at c0
      rw [k1] at c1
      rw [addr_add_add, Nat.add_zero] at c0
      exact ⟨(⟨z0, xs⟩, Af, cf), hrd, c0, c1, hlc, hln⟩
    obtain ⟨q, hq⟩ := choose_lt each
    have hL : ((List.range len).map fun i => (q i).1).length = len := by simp
    refine ⟨some a, cap, (List.range len).map fun i => (q i).1, by rw [hL]; exact hcs, by rw [hL]; exact hl, fun hp => ?_, fun b hbm => ?_⟩
    · rw [hL] at hp
      have hz := (hq 0 hp).2.1
      refine ⟨a, rfl, by have := block_lt hz; rw [addr_add_block] at this; exact this, fun k b hk => ?_⟩
      have hkl := (List.getElem?_eq_some_iff.1 hk).1
      rw [hL] at hkl
      rw [List.getElem?_map, List.getElem?_range hkl] at hk
      injection hk with hk
      subst hk
      obtain ⟨r1, r2, r3, r4, _⟩ := hq k hkl
      exact ⟨_, _, r1, r2, r3, r4⟩
    · obtain ⟨i, hi2, rfl⟩ := List.mem_map.1 hbm
      exact (hq i (List.mem_range.1 hi2)).2.2.2.2

theorem open_singlesR {t e ej es ei : TypeId} {f0 f1 f2 f3 f4 f5 j0 j1 : Field} {gs : Array Field} {r : Reach} {b0 : Nat} {v : Value} {d : DataW H} {ps : List MemPlace} (ht : P.underlying t = some (.slice e)) (he : P.underlying e = some (.struct #[f0, f1, f2, f3, f4, f5]))
    (hone : oneCellFields P #[f0, f1, f2, f3, f4, f5] = true) (hC : P.cellsOf e = 6) (h0 : P.underlying f0.type = some (.slice ej)) (h1 : P.underlying f1.type = some (.slice es)) (h2 : P.underlying f2.type = some (.int .i64)) (h3 : P.underlying f3.type = some (.int .i64)) (h4 : P.underlying f4.type = some (.int .i64)) (h5 : P.underlying f5.type = some (.slice ei))
    (hej : P.underlying ej = some (.struct #[j0, j1])) (jone : oneCellFields P #[j0, j1] = true) (jC : P.cellsOf ej = 2) (hj0 : P.underlying j0.type = some (.int .i64)) (hj1 : P.underlying j1.type = some (.slice ei)) (jb : P.bytesOf ej = 32)
    (hes : P.underlying es = some (.struct gs)) (hgn : gs.size = 5) (hgone : oneCellFields P gs = true) (hgC : P.cellsOf es = gs.size) (hgint : intFields P gs = true) (hgb : P.bytesOf es = 40)
    (hei : P.underlying ei = some (.int .i64)) (hCi : P.cellsOf ei = 1) (hbi : P.bytesOf ei = 8) (hw : InReach P t d)
    (hv : Value.okWide P w r b0 t v) (h : DataW.Trod enc P w base spare held t v d ps) :
    ∃ (A : Option Addr) (cap : Nat) (l : List Sg), v = .slice A l.length cap ∧ l.length ≤ cap ∧ cap ≤ maxLen ∧ RdN w w.heap.size A l ∧ ∀ s ∈ l, InSg s := by
  obtain ⟨A, len, cap, rfl⟩ := okWide_slice ht hv
  obtain ⟨fuel, hf⟩ := h
  rcases open_structs ht he rfl hone hC hf hw with hn | ⟨a, len', cap', hcs, hl, hm, hi⟩
  · simp only [Value.cells, List.cons.injEq, Value.slice.injEq, and_true] at hn
    obtain ⟨rfl, rfl, rfl⟩ := hn
    exact ⟨none, 0, [], rfl, Nat.le_refl _, by simp [maxLen], fun h => by simp at h, fun _ h => by simp at h⟩
  · simp only [Value.cells, List.cons.injEq, Value.slice.injEq, and_true] at hcs
    obtain ⟨rfl, rfl, rfl⟩ := hcs
    have each : ∀ i, i < len → ∃ q : Sg × (Option Addr × Nat) × (Option Addr × Nat) × (Option Addr × Nat), InSg q.1 ∧ RdJ w w.heap.size q.2.1.1 q.1.joins ∧ RdS w w.heap.size q.2.2.1.1 q.1.code ∧ RdI w w.heap.size q.2.2.2.1 q.1.last ∧
        w.cell? (a.add (i * 6)) = some (.slice q.2.1.1 q.1.joins.length q.2.1.2) ∧ w.cell? ((a.add (i * 6)).add 1) = some (.slice q.2.2.1.1 q.1.code.length q.2.2.1.2) ∧ w.cell? ((a.add (i * 6)).add 2) = some (.int .i64 q.1.test) ∧
        w.cell? ((a.add (i * 6)).add 3) = some (.int .i64 q.1.th) ∧ w.cell? ((a.add (i * 6)).add 4) = some (.int .i64 q.1.el) ∧ w.cell? ((a.add (i * 6)).add 5) = some (.slice q.2.2.2.1 q.1.last.length q.2.2.2.2) := by
      intro i hil
      obtain ⟨vs, hvs⟩ := hi i hil
      obtain ⟨c0, n0, y0, g0, w0⟩ := hvs 0 f0 rfl
      obtain ⟨c1, n1, y1, g1, w1⟩ := hvs 1 f1 rfl
      obtain ⟨c2, n2, y2, g2, _⟩ := hvs 2 f2 rfl
      obtain ⟨c3, n3, y3, g3, _⟩ := hvs 3 f3 rfl
      obtain ⟨c4, n4, y4, g4, _⟩ := hvs 4 f4 rfl
      obtain ⟨c5, n5, y5, g5, w5⟩ := hvs 5 f5 rfl
      obtain ⟨Aj, cj, js, k0, hlj, hrj, hfj⟩ := open_joinsT h0 hej jone jC hj0 hj1 hei hCi hbi g0 w0
      have hlj2 := trod_len h0 g0 k0 w0
      rw [jb] at hlj2
      obtain ⟨Ac, cc, co, k1, hlc, _, hrc, _⟩ := open_recsT (c := cSt) (m := 5) (fun g => (⟨g 0, g 1, g 2, g 3, g 4⟩ : St)) cSt_mk' cSt_len (by omega) h1 hes hgn hgone hgC hgint g1
      have hlc2 := trod_len h1 g1 k1 w1
      rw [hgb] at hlc2
      obtain ⟨z2, k2, _, i2⟩ := DataW.trod_int h2 g2
      obtain ⟨z3, k3, _, i3⟩ := DataW.trod_int h3 g3
      obtain ⟨z4, k4, _, i4⟩ := DataW.trod_int h4 g4
      obtain ⟨Al, cl, la, k5, hll, hrl⟩ := open_intsT h5 hei hCi g5
      have hll2 := trod_len h5 g5 k5 w5
      rw [hbi] at hll2
      simp only [List.cons.injEq, and_true] at k0 k1 k2 k3 k4 k5
      rw [k0] at c0
      rw [k1] at c1
      rw [k2] at c2
      rw [k3] at c3
      rw [k4] at c4
      rw [k5] at c5
      rw [addr_add_add, Nat.add_zero] at c0
      exact ⟨(⟨js, co, z2, z3, z4, la⟩, (Aj, cj), (Ac, cc), (Al, cl)), ⟨hlj2, hlc2, hll2, inI_of i2, inI_of i3, inI_of i4, hfj⟩, hrj, hrc, hrl, c0, c1, c2, c3, c4, c5⟩
    obtain ⟨q, hq⟩ := choose_lt each
    have hL : ((List.range len).map fun i => (q i).1).length = len := by simp
    refine ⟨some a, cap, (List.range len).map fun i => (q i).1, by rw [hL], by rw [hL]; exact hl, hm, fun hp => ?_, fun b hbm => ?_⟩
    · rw [hL] at hp
      have hz := (hq 0 hp).2.2.2.2.1
      refine ⟨a, rfl, by have := block_lt hz; rw [addr_add_block] at this; exact this, fun k b hk => ?_⟩
      have hkl := (List.getElem?_eq_some_iff.1 hk).1
      rw [hL] at hkl
      rw [List.getElem?_map, List.getElem?_range hkl] at hk
      injection hk with hk
      subst hk
      obtain ⟨_, r1, r2, r3, r4⟩ := hq k hkl
      exact ⟨_, _, _, _, _, _, r1, r2, r3, r4⟩
    · obtain ⟨i, hi2, rfl⟩ := List.mem_map.1 hbm
      exact (hq i (List.mem_range.1 hi2)).1

end

section
variable {H : Type} {enc : TypeId × Value → H} {w : World} {base : Nat} {spare : Nat → Bool} {held : Bool} {r : Reach} {b0 : Nat} {v : Value} {d : DataW H} {ps : List MemPlace}
theorem open_singlesA (hw : InReach Try.prog 22 d) (hv : Value.okWide Try.prog w r b0 22 v) (h : DataW.Trod enc Try.prog w base spare held 22 v d ps) :
    ∃ (A : Option Addr) (cap : Nat) (l : List Sg), v = .slice A l.length cap ∧ l.length ≤ cap ∧ cap ≤ maxLen ∧ RdN w w.heap.size A l ∧ ∀ s ∈ l, InSg s :=
  open_singlesR Try.underlying22 Try.underlying43 (by kernel_rfl) (by kernel_rfl) Try.underlying40 Try.underlying41 Try.underlying3 Try.underlying3 Try.underlying3 Try.underlying26
    Try.underlying59 (by kernel_rfl) (by kernel_rfl) Try.underlying3 Try.underlying26 (by kernel_rfl) Try.underlying61 rfl (by kernel_rfl) (by kernel_rfl) (by kernel_rfl) (by kernel_rfl) Try.underlying3 (by kernel_rfl) (by kernel_rfl) hw hv h
end

end Go.Proofs.Ytgcjknibelfjbaa
