/-
  Lists of shapes that come in: opened, at every depth.
-/
import Derived.Test.YtniilhgcgcimgaaShMem
namespace Go.Proofs.Ytniilhgcgcimgaa
open Go.RowKit Go.ChangeShapes Go.WideShapes Go.ChangeAt Go.Deep
set_option linter.unusedSimpArgs false
set_option linter.unusedVariables false
set_option maxRecDepth 100000

/-- what comes in: its slices are within reach -/
def InSh : Sh → Prop
  | .nil => True
  | .cons _ _ cd th el r => cd.length * 40 ≤ 140737488351232 ∧ th.len * 88 ≤ 140737488351232 ∧ el.len * 88 ≤ 140737488351232 ∧ InSh th ∧ InSh el ∧ InSh r

/-- a list of shapes by what is at each place -/
theorem sh_from {w : World} {B : Nat} {ad : Addr} (hb : ad.block < B) (len : Nat) : ∀ (m k : Nat), k + m = len → (∀ i, i < len → ∃ (kd ts : Int) (cd : List St) (th el : Sh) (Ac At Ae : Option Addr) (cc ct ce : Nat),
      w.cell? (ad.add (i * 5)) = some (.int .i64 kd) ∧ w.cell? ((ad.add (i * 5)).add 1) = some (.int .i64 ts) ∧ w.cell? ((ad.add (i * 5)).add 2) = some (.slice Ac cd.length cc) ∧
      w.cell? ((ad.add (i * 5)).add 3) = some (.slice At th.len ct) ∧ w.cell? ((ad.add (i * 5)).add 4) = some (.slice Ae el.len ce) ∧
      RdS w B Ac cd ∧ RdH w 0 B th At 0 ∧ RdH w 0 B el Ae 0 ∧ cd.length * 40 ≤ 140737488351232 ∧ th.len * 88 ≤ 140737488351232 ∧ el.len * 88 ≤ 140737488351232 ∧ InSh th ∧ InSh el) →
    ∃ l : Sh, l.len = m ∧ RdH w 0 B l (some ad) k ∧ InSh l
  | 0, k, _, _ => ⟨.nil, rfl, trivial, trivial⟩
  | m + 1, k, h, hi => by
    obtain ⟨l, h1, h2, h3⟩ := sh_from hb len m (k + 1) (by omega) hi
    obtain ⟨kd, ts, cd, th, el, Ac, At, Ae, cc, ct, ce, c0, c1, c2, c3, c4, r1, r2, r3, i1, i2, i3, i4, i5⟩ := hi k (by omega)
    exact ⟨.cons kd ts cd th el l, by simp [Sh.len, h1], ⟨ad, Ac, At, Ae, cc, ct, ce, rfl, ⟨Nat.zero_le _, hb⟩, c0, c1, c2, c3, c4, ⟨r1, fun _ _ => Nat.zero_le _⟩, r2, r3, h2⟩, i1, i2, i3, i4, i5, h3⟩

section
variable {H : Type} {enc : TypeId × Value → H} {P : Program} {w : World} {base : Nat} {spare : Nat → Bool} {held : Bool}

theorem open_shapeR {t e es : TypeId} {f0 f1 f2 f3 f4 : Field} {gs : Array Field} (ht : P.underlying t = some (.slice e)) (he : P.underlying e = some (.struct #[f0, f1, f2, f3, f4]))
    (hone : oneCellFields P #[f0, f1, f2, f3, f4] = true) (hC : P.cellsOf e = 5) (h0 : P.underlying f0.type = some (.int .i64)) (h1 : P.underlying f1.type = some (.int .i64)) (h2 : P.underlying f2.type = some (.slice es)) (h3 : f3.type = t) (h4 : f4.type = t)
    (hes : P.underlying es = some (.struct gs)) (hgn : gs.size = 5) (hgone : oneCellFields P gs = true) (hgC : P.cellsOf es = gs.size) (hgint : intFields P gs = true) (hgb : P.bytesOf es = 40) (hb88 : P.bytesOf e = 88) :
    ∀ (m fuel : Nat), fuel ≤ m → ∀ (cs : List Value) (x : DataW H × List MemPlace), DataW.trod enc P w base spare held fuel t cs = some x → InReach P t x.1 →
      ∃ (A : Option Addr) (cap : Nat) (l : Sh), cs = [.slice A l.len cap] ∧ l.len ≤ cap ∧ cap ≤ maxLen ∧ RdH w 0 w.heap.size l A 0 ∧ InSh l ∧ l.len * 88 ≤ 140737488351232
  | 0, fuel, hm, cs, x, hf, _ => by
    obtain rfl : fuel = 0 := by omega
    simp [DataW.trod] at hf
  | m + 1, fuel, hm, cs, x, hf, hw => by
    rcases DataW.trod_slice ht hf with ⟨hn, _⟩ | ⟨a, len, cap, elems, rest, n, hfu, rfl, hx, hb, hl, hcm, hlen, hel, _, _⟩
    · exact ⟨none, 0, .nil, hn, Nat.le_refl _, by simp [maxLen], trivial, trivial, by simp [Sh.len]⟩
    · have one := hone_of hone
      have hw0 := hw
      rw [hx] at hw
      have hlb : len * 88 ≤ 140737488351232 := by
        have := hw (((elems.map (·.1)).length + (rest.map (·.1)).length) * P.bytesOf e) (by simp only [DataW.weights, ht]; exact List.mem_cons_self ..)
        simp only [List.length_map, hlen, hb88] at this
        have h2 : len * 88 ≤ (len + rest.length) * 88 := Nat.mul_le_mul_right _ (by omega)
        have h3 : reachBytes = 140737488351232 := rfl
        omega
      have each : ∀ i, i < len → ∃ (kd ts : Int) (cd : List St) (th el : Sh) (Ac At Ae : Option Addr) (cc ct ce : Nat),
          w.cell? (a.add (i * 5)) = some (.int .i64 kd) ∧ w.cell? ((a.add (i * 5)).add 1) = some (.int .i64 ts) ∧ w.cell? ((a.add (i * 5)).add 2) = some (.slice Ac cd.length cc) ∧
          w.cell? ((a.add (i * 5)).add 3) = some (.slice At th.len ct) ∧ w.cell? ((a.add (i * 5)).add 4) = some (.slice Ae el.len ce) ∧
          RdS w w.heap.size Ac cd ∧ RdH w 0 w.heap.size th At 0 ∧ RdH w 0 w.heap.size el Ae 0 ∧ cd.length * 40 ≤ 140737488351232 ∧ th.len * 88 ≤ 140737488351232 ∧ el.len * 88 ≤ 140737488351232 ∧ InSh th ∧ InSh el := by
        intro i hi
        have key := hel i hi
        rw [List.getElem?_eq_getElem (by omega)] at key
        obtain ⟨cs', hc, ht'⟩ := Option.bind_eq_some_iff.1 key
        have hDi : InReach P e (elems[i]'(by omega)).1 := fun k hk => by
          refine hw k ?_
          simp only [DataW.weights, ht]
          refine List.mem_cons_of_mem _ (List.mem_append_left _ (weightsAll_mem (List.mem_map.2 ⟨_, List.getElem_mem (by omega), rfl⟩) k hk))
        obtain ⟨ys, n', hn', hD, hlen', hyl, hg⟩ := DataW.trod_struct he ht'
        obtain ⟨_, hcl, hat⟩ := World.cells?_some hc
        rw [hC] at hcl hat hlen'
        obtain ⟨a0, a1, a2, a3, a4, hce⟩ : ∃ a0 a1 a2 a3 a4, cs' = [a0, a1, a2, a3, a4] := by
          match cs', hcl with
          | [a0, a1, a2, a3, a4], _ => exact ⟨a0, a1, a2, a3, a4, rfl⟩
        subst hce
        have hxl : ys.length = 5 := by simpa using hyl
        have g0 := hg 0 f0 rfl
        have g1 := hg 1 f1 rfl
        have g2 := hg 2 f2 rfl
        have g3 := hg 3 f3 rfl
        have g4 := hg 4 f4 rfl
        rw [(one 0 f0 rfl).1, (one 0 f0 rfl).2, List.getElem?_eq_getElem (by omega)] at g0
        rw [(one 1 f1 rfl).1, (one 1 f1 rfl).2, List.getElem?_eq_getElem (by omega)] at g1
        rw [(one 2 f2 rfl).1, (one 2 f2 rfl).2, List.getElem?_eq_getElem (by omega)] at g2
        rw [(one 3 f3 rfl).1, (one 3 f3 rfl).2, List.getElem?_eq_getElem (by omega)] at g3
        rw [(one 4 f4 rfl).1, (one 4 f4 rfl).2, List.getElem?_eq_getElem (by omega)] at g4
        simp only [List.drop_succ_cons, List.drop_zero, List.take_succ_cons, List.take_zero] at g0 g1 g2 g3 g4
        have hy : ∀ (j : Nat) (f : Field) (hj : j < 5), (#[f0, f1, f2, f3, f4] : Array Field)[j]? = some f → InReach P f.type (ys[j]'(by omega)).1 := fun j f hj hfj k hk => by
          refine hDi k ?_
          rw [hD]
          simp only [DataW.weights, he]
          exact DataW.weights_mem_each (j := j) (t := f.type) (d := (ys[j]'(by omega)).1) (by simp only [Array.toList_map, List.getElem?_map]; rw [Array.getElem?_toList, hfj]; rfl) (by simp [List.getElem?_eq_getElem (show j < ys.length by omega)]) k hk
        obtain ⟨z0, k0, _, i0⟩ := DataW.trod_int h0 g0
        obtain ⟨z1, k1, _, i1⟩ := DataW.trod_int h1 g1
        obtain ⟨Ac, cc, l, k2, hlc, hcm2, hrd, _⟩ := open_recsT (c := cSt) (m := 5) (fun g => (⟨g 0, g 1, g 2, g 3, g 4⟩ : St)) cSt_mk' cSt_len (by omega) h2 hes hgn hgone hgC hgint g2
        have hcl2 := trod_len h2 g2 k2 (hy 2 f2 (by omega) rfl)
        rw [hgb] at hcl2
        have y3 := hy 3 f3 (by omega) rfl
        have y4 := hy 4 f4 (by omega) rfl
        rw [h3] at g3 y3
        rw [h4] at g4 y4
        obtain ⟨At, ct, th, k3, _, _, r3, j3, b3⟩ := open_shapeR ht he hone hC h0 h1 h2 h3 h4 hes hgn hgone hgC hgint hgb hb88 m n' (by omega) _ _ g3 y3
        obtain ⟨Ae, ce, el, k4, _, _, r4, j4, b4⟩ := open_shapeR ht he hone hC h0 h1 h2 h3 h4 hes hgn hgone hgC hgint hgb hb88 m n' (by omega) _ _ g4 y4
        simp only [List.cons.injEq, and_true] at k0 k1 k2 k3 k4
        subst k0 k1 k2 k3 k4
        have c0 := hat 0 (by omega)
        have c1 := hat 1 (by omega)
        have c2 := hat 2 (by omega)
        have c3 := hat 3 (by omega)
        have c4 := hat 4 (by omega)
        rw [addr_add_add, Nat.add_zero] at c0
        exact ⟨z0, z1, l, th, el, Ac, At, Ae, cc, ct, ce, c0, c1, c2, c3, c4, hrd, r3, r4, hcl2, b3, b4, j3, j4⟩
      rcases Nat.eq_zero_or_pos len with hz | hz
      · subst hz
        exact ⟨some a, cap, .nil, rfl, Nat.zero_le _, hcm, trivial, trivial, by simp [Sh.len]⟩
      · have hba : a.block < w.heap.size := by
          obtain ⟨_, _, _, _, _, _, _, _, _, _, _, c0, _⟩ := each 0 hz
          have := block_lt c0
          rw [addr_add_block] at this
          exact this
        obtain ⟨l, hll, hr, hin⟩ := sh_from hba len len 0 (by omega) each
        exact ⟨some a, cap, l, by rw [hll], by rw [hll]; exact hl, hcm, hr, hin, by rw [hll]; exact hlb⟩

end

section
variable {H : Type} {enc : TypeId × Value → H} {w : World} {base : Nat} {spare : Nat → Bool} {held : Bool} {r : Reach} {b0 : Nat} {v : Value} {d : DataW H} {ps : List MemPlace}

theorem open_shapesA (hw : InReach Try.prog 22 d) (hv : Value.okWide Try.prog w r b0 22 v) (h : DataW.Trod enc Try.prog w base spare held 22 v d ps) :
    ∃ (A : Option Addr) (cap : Nat) (l : Sh), v = .slice A l.len cap ∧ l.len ≤ cap ∧ cap ≤ maxLen ∧ RdH w 0 w.heap.size l A 0 ∧ InSh l ∧ l.len * 88 ≤ 140737488351232 := by
  obtain ⟨A, len, cap, rfl⟩ := okWide_slice Try.underlying22 hv
  obtain ⟨fuel, hf⟩ := h
  obtain ⟨A', cap', l, h1, h2, h3, h4, h5, h6⟩ := open_shapeR Try.underlying22 Try.underlying57 (by kernel_rfl) (by kernel_rfl) Try.underlying3 Try.underlying3 Try.underlying37 rfl rfl Try.underlying66 rfl (by kernel_rfl) (by kernel_rfl) (by kernel_rfl) (by kernel_rfl) (by kernel_rfl) fuel fuel (Nat.le_refl _) _ _ hf hw
  simp only [Value.cells, List.cons.injEq, and_true] at h1
  exact ⟨A', cap', l, h1, h2, h3, h4, h5, h6⟩

end

end Go.Proofs.Ytniilhgcgcimgaa
