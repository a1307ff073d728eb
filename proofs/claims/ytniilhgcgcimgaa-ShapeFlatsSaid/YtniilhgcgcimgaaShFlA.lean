/-
  (*shape.flattener).side (U2).
-/
import Derived.Test.YtniilhgcgcimgaaShFlB
import Derived.Test.YtniilhgcgcimgaaPureShapeG
import Derived.Test.YtniilhgcgcimgaaShKinds
import Derived.BigQuiet
import Derived.IntWalk
namespace Go.Proofs.Ytniilhgcgcimgaa
open Go.RowKit
set_option linter.unusedSimpArgs false
set_option linter.unusedVariables false
set_option maxRecDepth 100000

/-- how large the program may grow -/
def BdF (p : List Bk) (m s : Nat) : Prop := p.length + m ≤ 60000 ∧ manyS p + s ≤ 60000

theorem BdF.grow {p q : List Bk} {e m s m' s' : Nat} (h : BdF p (m + m') (s + s')) (hg : GrF p q e m s) : BdF q m' s' := ⟨by have := h.1; have := hg.most; omega, by have := h.2; have := hg.steps; omega⟩

theorem BdF.less {p : List Bk} {m s m' s' : Nat} (h : BdF p m s) (h1 : m' ≤ m) (h2 : s' ≤ s) : BdF p m' s' := ⟨by have := h.1; omega, by have := h.2; omega⟩

/-- what add answers -/
def FlR (B g : Nat) (F : Nat → Prop) (r : List Bk × Nat) (Z : World) (e : Ending) (w' : World) : Prop := e = .returned (.int .i64 (r.2 : Nat)) ∧ ∃ F', FlQ B g F' r.1 w' ∧ Fr F F' Z w'

/-- what a list lays, wherever the program stands -/
def DoesF (B g : Nat) (l : Sh) (A : Option Addr) (len cap : Nat) (F0 : Nat → Prop) (w : World) : Prop := ∀ (Z : World) (F : Nat → Prop) (p : List Bk) (a : Nat), Fr F0 F w Z → FlQ B g F p Z → a < p.length → BdF p (3 * l.many) l.steps →
  Calls Try.prog 27 #[.pointer (some ⟨g, 0, none⟩), .slice A len cap, .int .i64 (a : Nat)] Z (FlR B g F (flF l p a) Z)

theorem DoesF.via {B g : Nat} {l : Sh} {A : Option Addr} {len cap : Nat} {F0 F1 : Nat → Prop} {w w1 : World} (h : DoesF B g l A len cap F0 w) (hf : Fr F0 F1 w w1) : DoesF B g l A len cap F1 w1 := fun Z F p a hZ => h Z F p a (hf.trans hZ)

theorem FlQ.open_ {B g i : Nat} {F : Nat → Prop} {p : List Bk} {w : World} (h : FlQ B g F p w) (hi : i < p.length) : ∃ (ga c : Nat) (qs : List (Bk × Option Addr × Nat)) (q : Bk × Option Addr × Nat), qs.map (·.1) = p ∧ FlP B g F (some ⟨ga, 0, none⟩) c qs w ∧ qs[i]? = some q ∧ q.1 = p.getD i bk0 ∧ qs.length = p.length := by
  obtain ⟨A, c, qs, rfl, h⟩ := h
  rw [List.length_map] at hi
  obtain ⟨ga, rfl⟩ : ∃ ga, A = some ⟨ga, 0, none⟩ := by
    rcases h.arr.2 with ⟨h1, h2⟩ | ⟨k, cap, cur, h1, h2⟩
    · omega
    · injection h1 with h1
      exact ⟨k, h1⟩
  exact ⟨ga, c, qs, qs[i], rfl, h, List.getElem?_eq_getElem hi, by rw [List.getD_eq_getElem?_getD, List.getElem?_map, List.getElem?_eq_getElem hi]; rfl, by simp⟩

theorem FlP.cell {B g ga c i j : Nat} {F : Nat → Prop} {qs : List (Bk × Option Addr × Nat)} {q : Bk × Option Addr × Nat} {w : World} (h : FlP B g F (some ⟨ga, 0, none⟩) c qs w) (hq : qs[i]? = some q) (hj : j < 4) : (∃ v, w.cell? ⟨ga, i * 4 + j, none⟩ = some v) ∧ w.frozen? ⟨ga, i * 4 + j, none⟩ = false := by
  have hl := (List.getElem?_eq_some_iff.1 hq).1
  exact ⟨⟨_, (h.arr.cellAt (i * 4 + j) (by omega)).trans ((rv_at cBk_len hq hj).trans (List.getElem?_eq_getElem (by rw [cBk_len]; exact hj)))⟩, h.arr.frozenAt _⟩

theorem FlP.th {B g ga c i : Nat} {F : Nat → Prop} {qs : List (Bk × Option Addr × Nat)} {q : Bk × Option Addr × Nat} {w : World} {x : Int} (h : FlP B g F (some ⟨ga, 0, none⟩) c qs w) (hq : qs[i]? = some q) :
    FlQ B g F (thB (qs.map (·.1)) i x) (w.setCell ⟨ga, i * 4 + 2, none⟩ (.int .i64 x)) ∧ Fr F F w (w.setCell ⟨ga, i * 4 + 2, none⟩ (.int .i64 x)) := by
  have hh := h.put (i := i) (j := 2) (q := q) (q' := (⟨q.1.code, q.1.test, x, q.1.el⟩, q.2)) (v := .int .i64 x) hq (by omega) rfl rfl rfl
  refine ⟨⟨_, _, _, ?_, hh.1⟩, hh.2⟩
  have e2 : (qs.map (·.1)).getD i bk0 = q.1 := by rw [List.getD_eq_getElem?_getD, List.getElem?_map, hq]; rfl
  unfold thB
  rw [e2, List.map_set]

set_option maxHeartbeats 4000000 in
theorem side_any (B g after len cap : Nat) (F : Nat → Prop) (l : Sh) (A : Option Addr) (p : List Bk) (w : World) (h : FlQ B g F p w) (hl : l.len = len) (ha : after < p.length) (hd : DoesF B g l A len cap F w) (hb : BdF p (1 + 3 * l.many) l.steps) :
    Calls Try.prog 50 #[.pointer (some ⟨g, 0, none⟩), .slice A len cap, .int .i64 (after : Nat)] w (FlR B g F (sdF (flF l) (isNil l) p after) w) := by
  have HQ := Lib.hid h
  cases l with
  | nil =>
    obtain rfl : len = 0 := hl.symm
    clear h hl hd hb
    go_enter Try.func50, Try.ntmps50
    go_wp2
    go_returns
    exact ⟨rfl, F, HQ.out, Fr.refl _ _⟩
  | cons kd ts cd th el r =>
    have hne : ((len : Int) == 0) = false := by simp only [Sh.len] at hl; simp; omega
    have HD := Lib.hid hd
    obtain ⟨l, hle⟩ : ∃ l, Sh.cons kd ts cd th el r = l := ⟨_, rfl⟩
    have HE : Hid (sdF (flF l) (isNil l) p after = (thB (flF l (p ++ [bkO]) p.length).1 (flF l (p ++ [bkO]) p.length).2 after, p.length)) := Lib.hid (by rw [← hle]; rfl)
    rw [hle] at HD hb
    rw [hle, HE.out]
    have HNB := Lib.hid (newBlock_any B g F p w h (by have := hb.1; omega))
    have HB1 := Lib.hid ((show BdF p (1 + 3 * l.many) (0 + l.steps) from by rw [Nat.zero_add]; exact hb).grow (GrF.add p))
    have HGR := Lib.hid (GrF.all l (p ++ [bkO]) p.length (by simp))
    have HPL : Hid (p.length < (p ++ [bkO]).length) := Lib.hid (by simp)
    have HDL : Hid (∀ (w1 : World) (F1 : Nat → Prop), Fr F F1 w w1 → FlQ B g F1 (p ++ [bkO]) w1 → Calls Try.prog 27 #[.pointer (some ⟨g, 0, none⟩), .slice A len cap, .int .i64 (p.length : Nat)] w1 (FlR B g F1 (flF l (p ++ [bkO]) p.length) w1)) := Lib.hid fun w1 F1 h1 h2 => HD.out w1 F1 _ _ h1 h2 HPL.out HB1.out
    obtain ⟨r, hr⟩ : ∃ r, flF l (p ++ [bkO]) p.length = r := ⟨_, rfl⟩
    rw [hr] at HDL HGR ⊢
    obtain ⟨pn, hpn⟩ : ∃ pn, p.length = pn := ⟨_, rfl⟩
    rw [hpn] at HNB HDL ⊢
    have hr6 : r.1.length ≤ 65536 := by have := HGR.out.most; have := HB1.out.1; omega
    clear h hl hd hb hle hr hpn HE HD HQ HPL HB1
    go_enter Try.func50, Try.ntmps50
    go_wp2_with (first
      | (go_at_call 28; (with_reducible refine HNB.out.mono ?_); rintro e w1 ⟨rfl, F1, h1, h2⟩; have H1 := Lib.hid h1; have H2 := Lib.hid h2; clear h1 h2)
      | (go_at_call 27; (with_reducible refine (HDL.out w1 F1 H2.out H1.out).mono ?_); rintro e w2 ⟨rfl, F2, h3, h4⟩; obtain ⟨ga, c, qs, q, h5, h6, h7, h8, h9⟩ := h3.open_ HGR.out.lt; have H4 := Lib.hid h4; have H5 := Lib.hid h5; have H6 := Lib.hid h6; have hgl := h6.lt; have H7 := Lib.hid h7; obtain ⟨n, hn⟩ : ∃ n, r.1.length = n := ⟨_, rfl⟩; have c0 := h6.box.cell (j := 0) rfl; rw [h9, hn] at c0; have hin : r.2 < n := (by have := HGR.out.lt; omega); rw [hn] at hr6; obtain ⟨⟨v2, u2⟩, f2⟩ := h6.cell (j := 2) h7 (by omega); have HT := Lib.hid (h6.th (x := (after : Nat)) h7); clear hn h3 h4 h5 h6 h7 h8 h9))
    go_returns
    refine ⟨rfl, F2, ?_, ?_⟩
    · have := HT.out.1
      rw [H5.out] at this
      exact this
    · exact (H2.out.trans H4.out).trans HT.out.2

end Go.Proofs.Ytniilhgcgcimgaa
