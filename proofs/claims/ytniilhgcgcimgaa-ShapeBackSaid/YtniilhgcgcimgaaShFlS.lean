/-
  (*shape.flattener).addBoth, addWhile (U2).
-/
import Derived.Test.YtniilhgcgcimgaaShFlA
namespace Go.Proofs.Ytniilhgcgcimgaa
open Go.RowKit
set_option linter.unusedSimpArgs false
set_option linter.unusedVariables false
set_option maxRecDepth 100000

/-- the program so far: behind neither side, the first, both -/
def pkS (p1 p2 p3 : List Bk) : Nat → List Bk
  | 0 => p1
  | 1 => p2
  | _ => p3

def BoS (B g : Nat) (F1 : Nat → Prop) (p1 p2 p3 : List Bk) (Y : World) (x : Nat × Unit) (w : World) : Prop := ∃ F', FlQ B g F' (pkS p1 p2 p3 x.1) w ∧ Fr F1 F' Y w

theorem FlQ.fresh {B g : Nat} {F : Nat → Prop} {p : List Bk} {w : World} (h : FlQ B g F p w) : ¬ F w.heap.size := by
  obtain ⟨A, c, qs, _, h⟩ := h
  exact h.fresh

theorem BoS.own {B g g0 : Nat} {F1 : Nat → Prop} {p1 p2 p3 : List Bk} {Y w : World} {x : Nat × Unit} {t : TypeId} {cs : List Value} (h : BoS B g F1 p1 p2 p3 Y x w) (ho : Own Y g0 t cs) (hn : ¬ F1 g0) : Own w g0 t cs := by
  obtain ⟨F', _, h2⟩ := h
  exact h2.own ho hn

set_option maxHeartbeats 16000000 in
theorem addBoth_any (B g at_ : Nat) (F : Nat → Prop) (ts : Int) (cd : List St) (th el : Sh) (Ac At Ae : Option Addr) (cl cc tl ct el' ce : Nat) (p : List Bk) (w : World) (h : FlQ B g F p w) (ha : at_ < p.length) (htl : th.len = tl) (hel : el.len = el')
    (hdt : DoesF B g th At tl ct F w) (hde : DoesF B g el Ae el' ce F w) (hb : BdF p (3 + 3 * th.many + 3 * el.many) (th.steps + el.steps)) :
    Calls Try.prog 39 #[.pointer (some ⟨g, 0, none⟩), .agg #[.int .i64 2, .int .i64 ts, .slice Ac cl cc, .slice At tl ct, .slice Ae el' ce], .int .i64 (at_ : Nat)] w (FlR B g F (fl1 2 ts cd th el p at_) w) := by
  obtain ⟨y1, hy1⟩ : ∃ y, sdF (flF th) (isNil th) (p ++ [bkO]) p.length = y := ⟨_, rfl⟩
  obtain ⟨y2, hy2⟩ : ∃ y, sdF (flF el) (isNil el) y1.1 p.length = y := ⟨_, rfl⟩
  have HE : Hid (fl1 2 ts cd th el p at_ = (brB y2.1 at_ ts y1.2 y2.2, p.length)) := Lib.hid (by rw [← hy2, ← hy1]; rfl)
  have g1 := GrF.side (GrF.all th) (isNil th) (p := p ++ [bkO]) (after := p.length) (by simp)
  rw [hy1] at g1
  have hl1 : p.length + 1 ≤ y1.1.length := by have := g1.len; simpa using this
  have g2 := GrF.side (GrF.all el) (isNil el) (p := y1.1) (after := p.length) (by omega)
  rw [hy2] at g2
  have hb1 : BdF (p ++ [bkO]) ((1 + 3 * th.many) + (1 + 3 * el.many)) (th.steps + el.steps) := (hb.less (m' := 1 + ((1 + 3 * th.many) + (1 + 3 * el.many))) (s' := 0 + (th.steps + el.steps)) (by omega) (by omega)).grow (GrF.add p)
  have hb2 : BdF y1.1 (1 + 3 * el.many) el.steps := hb1.grow g1
  have hb3 : y2.1.length ≤ 65536 := by have := hb2.1; have := g2.most; omega
  have ha3 : at_ < y2.1.length := by have := g2.len; omega
  rw [HE.out]
  obtain ⟨X, hX⟩ : ∃ X, X = w.alloc (.cells #[.int .i64 2, .int .i64 ts, .slice Ac cl cc, .slice At tl ct, .slice Ae el' ce] 57) := ⟨_, rfl⟩
  have hbx : Below w.heap.size w X := by rw [hX]; go_grown
  have HOB : Hid (Own X w.heap.size 57 [.int .i64 2, .int .i64 ts, .slice Ac cl cc, .slice At tl ct, .slice Ae el' ce]) := Lib.hid (by rw [hX]; exact Own.new w _ _)
  have HFX : Hid (Fr F F w X) := Lib.hid (Fr.of_below F hbx)
  have HNF := Lib.hid h.fresh
  have HNB := Lib.hid (newBlock_any B g F p X (h.up hbx) (by have := hb.1; omega))
  have HS1 : Hid (∀ (Z : World) (F1 : Nat → Prop), Fr F F1 X Z → FlQ B g F1 (p ++ [bkO]) Z → Calls Try.prog 50 #[.pointer (some ⟨g, 0, none⟩), .slice At tl ct, .int .i64 (p.length : Nat)] Z (FlR B g F1 y1 Z)) := Lib.hid fun Z F1 h1 h2 => by
    have := side_any B g p.length tl ct F1 th At (p ++ [bkO]) Z h2 htl (by simp) (hdt.via (HFX.out.trans h1)) (hb1.less (by omega) (by omega))
    rwa [hy1] at this
  have HS2 : Hid (∀ (Z : World) (F1 : Nat → Prop), Fr F F1 X Z → FlQ B g F1 y1.1 Z → Calls Try.prog 50 #[.pointer (some ⟨g, 0, none⟩), .slice Ae el' ce, .int .i64 (p.length : Nat)] Z (FlR B g F1 y2 Z)) := Lib.hid fun Z F1 h1 h2 => by
    have := side_any B g p.length el' ce F1 el Ae y1.1 Z h2 hel (by omega) (hde.via (HFX.out.trans h1)) hb2
    rwa [hy2] at this
  have HBR : Hid (∀ (Z : World) (F1 : Nat → Prop), FlQ B g F1 y2.1 Z → Calls Try.prog 51 #[.pointer (some ⟨g, 0, none⟩), .int .i64 (at_ : Nat), .int .i64 ts, .int .i64 (y1.2 : Nat), .int .i64 (y2.2 : Nat)] Z fun e w' => e = .returned (.tuple #[]) ∧ FlQ B g F1 (brB y2.1 at_ ts y1.2 y2.2) w' ∧ Fr F1 F1 Z w') := Lib.hid fun Z F1 h1 => branch_any B g at_ F1 y2.1 ts y1.2 y2.2 Z h1 ha3 hb3
  obtain ⟨pn, hpn⟩ : ∃ pn, p.length = pn := ⟨_, rfl⟩
  obtain ⟨s1, hs1⟩ : ∃ s, y1.2 = s := ⟨_, rfl⟩
  obtain ⟨s2, hs2⟩ : ∃ s, y2.2 = s := ⟨_, rfl⟩
  rw [hpn] at HNB HS1 HS2 ⊢
  rw [hs1] at HBR ⊢
  rw [hs2] at HBR ⊢
  have HY1 : Hid (∀ {Z : World} {F1 : Nat → Prop} {e : Ending} {w' : World}, FlR B g F1 y1 Z e w' → e = .returned (.int .i64 (s1 : Nat)) ∧ ∃ F', FlQ B g F' y1.1 w' ∧ Fr F1 F' Z w') := Lib.hid (by rw [← hs1]; exact fun h => h)
  have HY2 : Hid (∀ {Z : World} {F1 : Nat → Prop} {e : Ending} {w' : World}, FlR B g F1 y2 Z e w' → e = .returned (.int .i64 (s2 : Nat)) ∧ ∃ F', FlQ B g F' y2.1 w' ∧ Fr F1 F' Z w') := Lib.hid (by rw [← hs2]; exact fun h => h)
  obtain ⟨p1, hp1⟩ : ∃ q, p ++ [bkO] = q := ⟨_, rfl⟩
  rw [hp1] at HNB HS1
  have hgX : w.heap.size < X.heap.size := HOB.out.lt
  clear h ha htl hel hdt hde hb hy1 hy2 g1 hl1 g2 hb1 hb2 hb3 ha3 hpn hs1 hs2 hp1 HE hbx
  go_enter Try.func39, Try.ntmps39
  go_upto_region 1 with fail
  rw [← hX]
  obtain ⟨g0, hg0⟩ : ∃ g0, w.heap.size = g0 := ⟨_, rfl⟩
  rw [hg0] at HOB hgX HNF
  simp only [hg0]
  clear hX hg0
  go_upto_region 2 with (go_at_call 28; (with_reducible refine HNB.out.mono ?_); rintro e w1 ⟨rfl, F1, h1, h2⟩; have H1 := Lib.hid h1; have H2 := Lib.hid h2; clear h1 h2)
  have HN1 := Lib.hid (H2.out.out hgX HNF.out)
  have HO1 := Lib.hid (H2.out.own HOB.out HNF.out)
  have HS0 : Hid (BoS B g F1 p1 y1.1 y2.1 w1 (0, ()) w1.drew) := Lib.hid ⟨F1, H1.out.up (Below.drew (Below.refl _ _)), Fr.of_below F1 (Below.drew (Below.refl _ _))⟩
  clear hgX
  refine wp_region_stepsB (X := Nat × (Unit)) (BoS B g F1 p1 y1.1 y2.1 w1) (fun x j => doneL [0, 0, 0, 0, 1, 0, 0, 0, 0, 2, 0, 0] x.1 j) (effL [0, 0, 0, 0, 1, 0, 0, 0, 0, 2, 0, 0]) (0, ()) (fun x => [.pointer (some ⟨g, 0, none⟩), .pointer (some ⟨g0, 3, none⟩), .slice At tl ct, .int .i64 (pn : Nat), .int .i64 (s1 : Nat), .pointer (some ⟨g, 0, none⟩), .pointer (some ⟨g0, 4, none⟩), .slice Ae el' ce, .int .i64 (pn : Nat), .int .i64 (s2 : Nat), .int .i64 (s1 : Nat), .int .i64 (s2 : Nat)]) _ (by kernel_rfl) (by kernel_rfl) (by kernel_rfl) (fun x => by simp only [putsD, Act.put, List.setIfInBounds_toArray, List.set_cons_zero, List.set_cons_succ]; exact rfl) h0L HS0.out (fun x => ?_) (fun x wz hDz hSz => ?_)
  · refine AllS.val (by rfl) (by rfl) (fun w hSw hPw => by go_simp) ?_
    refine AllS.val (by rfl) (by rfl) (fun w hSw hPw => by go_simp) ?_
    refine AllS.val (by rfl) (by rfl) (fun w hSw hPw => ?_) ?_
    · (try dsimp only at hSw)
      have hq := BoS.own hSw HO1.out HN1.out
      have d3 := hq.cell (j := 3) rfl
      go_simp
    refine AllS.val (by rfl) (by rfl) (fun w hSw hPw => by go_simp) ?_
    refine AllS.turn (fun _ _ => rfl) (by rfl) (fun w hSw hPw K hK => ?_) ?_
    · (try dsimp only at hSw)
      have h0 := leH (hPw.me rfl)
      have hx0 : x.1 = 0 := by exact Nat.le_zero.1 h0
      obtain ⟨k, y⟩ := x
      (try dsimp only at hx0)
      subst hx0
      obtain ⟨F5, h5, h6⟩ := hSw
      go_simp
      go_at_call 50
      refine (HS1.out _ F5 (H2.out.trans h6) h5).mono ?_
      intro e w7 h7
      obtain ⟨rfl, F7, h8, h9⟩ := HY1.out h7
      go_simp
      exact hK (1, y) _ (nxtL rfl (by decide)) ⟨F7, h8, h6.trans h9⟩
    refine AllS.val (by rfl) (by rfl) (fun w hSw hPw => by go_simp) ?_
    refine AllS.val (by rfl) (by rfl) (fun w hSw hPw => by go_simp) ?_
    refine AllS.val (by rfl) (by rfl) (fun w hSw hPw => ?_) ?_
    · (try dsimp only at hSw)
      have hq := BoS.own hSw HO1.out HN1.out
      have d4 := hq.cell (j := 4) rfl
      go_simp
    refine AllS.val (by rfl) (by rfl) (fun w hSw hPw => by go_simp) ?_
    refine AllS.turn (fun _ _ => rfl) (by rfl) (fun w hSw hPw K hK => ?_) ?_
    · (try dsimp only at hSw)
      have h0 := leH (hPw.me rfl)
      have h1 := geH (hPw.need (k := 4) rfl (by kernel_rfl))
      have hx0 : x.1 = 1 := by exact Nat.le_antisymm h0 h1
      obtain ⟨k, y⟩ := x
      (try dsimp only at hx0)
      subst hx0
      obtain ⟨F5, h5, h6⟩ := hSw
      go_simp
      go_at_call 50
      refine (HS2.out _ F5 (H2.out.trans h6) h5).mono ?_
      intro e w7 h7
      obtain ⟨rfl, F7, h8, h9⟩ := HY2.out h7
      go_simp
      exact hK (2, y) _ (nxtL rfl (by decide)) ⟨F7, h8, h6.trans h9⟩
    refine AllS.val (by rfl) (by rfl) (fun w hSw hPw => by go_simp) ?_
    refine AllS.val (by rfl) (by rfl) (fun w hSw hPw => by go_simp) ?_
    exact AllS.nil
  have hx2 := geH (hDz 9 (by decide) (by decide))
  obtain ⟨k, y⟩ := x
  obtain ⟨F5, h5, h6⟩ := hSz
  have H5 : Hid (FlQ B g F5 y2.1 wz) := Lib.hid (by
    match k, hx2 with
    | k + 2, _ => exact h5)
  have H6 := Lib.hid h6
  have d1 := (h6.own HO1.out HN1.out).cell (j := 1) rfl
  clear h5 h6 hDz hx2
  go_wp2_with (go_at_call 51; (with_reducible refine (HBR.out _ F5 H5.out).mono ?_); rintro e w9 ⟨rfl, h7, h8⟩; have H7 := Lib.hid h7; have H8 := Lib.hid h8; clear h7 h8)
  go_returns
  exact ⟨rfl, F5, H7.out, HFX.out.trans (H2.out.trans (H6.out.trans H8.out))⟩

set_option maxHeartbeats 16000000 in
theorem addWhile_any (B g at_ : Nat) (F : Nat → Prop) (ts : Int) (cd : List St) (th el : Sh) (Ac At Ae : Option Addr) (cl cc tl ct el' ce : Nat) (p : List Bk) (w : World) (h : FlQ B g F p w) (ha : at_ < p.length)
    (hdt : DoesF B g th At tl ct F w) (hb : BdF p (3 + 3 * th.many) th.steps) :
    Calls Try.prog 40 #[.pointer (some ⟨g, 0, none⟩), .agg #[.int .i64 3, .int .i64 ts, .slice Ac cl cc, .slice At tl ct, .slice Ae el' ce], .int .i64 (at_ : Nat)] w (FlR B g F (fl1 3 ts cd th el p at_) w) := by
  obtain ⟨y, hy⟩ : ∃ y, flF th (p ++ [bkO] ++ [bkO]) (p.length + 1) = y := ⟨_, rfl⟩
  have HE : Hid (fl1 3 ts cd th el p at_ = (brB (brB y.1 at_ ts (p.length + 1 : Nat) p.length) y.2 ts (p.length + 1 : Nat) p.length, p.length)) := Lib.hid (by rw [← hy]; rfl)
  have g1 := GrF.all th (p ++ [bkO] ++ [bkO]) (p.length + 1) (by simp)
  rw [hy] at g1
  have hl1 : p.length + 2 ≤ y.1.length := by have := g1.len; simpa using this
  have hb0 : BdF (p ++ [bkO]) (1 + 3 * th.many) (0 + th.steps) := (hb.less (m' := 1 + (1 + 3 * th.many)) (s' := 0 + (0 + th.steps)) (by omega) (by omega)).grow (GrF.add p)
  have hb1 : BdF (p ++ [bkO] ++ [bkO]) (3 * th.many) th.steps := hb0.grow (GrF.add _)
  have hb3 : y.1.length ≤ 65536 := by have := hb1.1; have := g1.most; omega
  have ha3 : at_ < y.1.length := by omega
  have hlt := g1.lt
  rw [HE.out]
  obtain ⟨X, hX⟩ : ∃ X, X = w.alloc (.cells #[.int .i64 3, .int .i64 ts, .slice Ac cl cc, .slice At tl ct, .slice Ae el' ce] 57) := ⟨_, rfl⟩
  have hbx : Below w.heap.size w X := by rw [hX]; go_grown
  have HOB : Hid (Own X w.heap.size 57 [.int .i64 3, .int .i64 ts, .slice Ac cl cc, .slice At tl ct, .slice Ae el' ce]) := Lib.hid (by rw [hX]; exact Own.new w _ _)
  have HFX : Hid (Fr F F w X) := Lib.hid (Fr.of_below F hbx)
  have HNF := Lib.hid h.fresh
  have HNB := Lib.hid (newBlock_any B g F p X (h.up hbx) (by have := hb.1; omega))
  have hlen1 : (p ++ [bkO]).length = p.length + 1 := by simp
  have HNC : Hid (∀ (Z : World) (F1 : Nat → Prop), FlQ B g F1 (p ++ [bkO]) Z → Calls Try.prog 28 #[.pointer (some ⟨g, 0, none⟩)] Z fun e w' => e = .returned (.int .i64 (p.length + 1 : Nat)) ∧ ∃ F', FlQ B g F' (p ++ [bkO] ++ [bkO]) w' ∧ Fr F1 F' Z w') := Lib.hid fun Z F1 h1 => by
    have := newBlock_any B g F1 (p ++ [bkO]) Z h1 (by have := hb0.1; omega)
    rwa [hlen1] at this
  have HAD : Hid (∀ (Z : World) (F1 : Nat → Prop), Fr F F1 X Z → FlQ B g F1 (p ++ [bkO] ++ [bkO]) Z → Calls Try.prog 27 #[.pointer (some ⟨g, 0, none⟩), .slice At tl ct, .int .i64 (p.length + 1 : Nat)] Z (FlR B g F1 y Z)) := Lib.hid fun Z F1 h1 h2 => by
    have := hdt Z F1 _ (p.length + 1) (HFX.out.trans h1) h2 (by simp) hb1
    rwa [hy] at this
  have HBR : Hid (∀ (Z : World) (F1 : Nat → Prop), FlQ B g F1 y.1 Z → Calls Try.prog 51 #[.pointer (some ⟨g, 0, none⟩), .int .i64 (at_ : Nat), .int .i64 ts, .int .i64 (p.length + 1 : Nat), .int .i64 (p.length : Nat)] Z fun e w' => e = .returned (.tuple #[]) ∧ FlQ B g F1 (brB y.1 at_ ts (p.length + 1 : Nat) p.length) w' ∧ Fr F1 F1 Z w') := Lib.hid fun Z F1 h1 => branch_any B g at_ F1 y.1 ts _ _ Z h1 ha3 hb3
  have HBS : Hid (∀ (Z : World) (F1 : Nat → Prop), FlQ B g F1 (brB y.1 at_ ts (p.length + 1 : Nat) p.length) Z → Calls Try.prog 51 #[.pointer (some ⟨g, 0, none⟩), .int .i64 (y.2 : Nat), .int .i64 ts, .int .i64 (p.length + 1 : Nat), .int .i64 (p.length : Nat)] Z fun e w' => e = .returned (.tuple #[]) ∧ FlQ B g F1 (brB (brB y.1 at_ ts (p.length + 1 : Nat) p.length) y.2 ts (p.length + 1 : Nat) p.length) w' ∧ Fr F1 F1 Z w') := Lib.hid fun Z F1 h1 => branch_any B g y.2 F1 _ ts _ _ Z h1 (by rw [brB_len]; exact hlt) (by rw [brB_len]; exact hb3)
  obtain ⟨bn, hbn⟩ : ∃ bn, p.length + 1 = bn := ⟨_, rfl⟩
  rw [hbn] at HNC HAD HBR HBS ⊢
  obtain ⟨pn, hpn⟩ : ∃ pn, p.length = pn := ⟨_, rfl⟩
  rw [hpn] at HNB HBR HBS ⊢
  obtain ⟨s2, hs2⟩ : ∃ s, y.2 = s := ⟨_, rfl⟩
  have HY : Hid (∀ {Z : World} {F1 : Nat → Prop} {e : Ending} {w' : World}, FlR B g F1 y Z e w' → e = .returned (.int .i64 (s2 : Nat)) ∧ ∃ F', FlQ B g F' y.1 w' ∧ Fr F1 F' Z w') := Lib.hid (by rw [← hs2]; exact fun h => h)
  rw [hs2] at HBS ⊢
  obtain ⟨p1, hp1⟩ : ∃ q, p ++ [bkO] = q := ⟨_, rfl⟩
  rw [hp1] at HNB HNC HAD
  have hgX : w.heap.size < X.heap.size := HOB.out.lt
  clear h ha hdt hb hy g1 hl1 hb0 hb1 hb3 ha3 hlt hpn hbn hs2 hp1 HE hbx hlen1
  go_enter Try.func40, Try.ntmps40
  go_upto_region 1 with fail
  rw [← hX]
  obtain ⟨g0, hg0⟩ : ∃ g0, w.heap.size = g0 := ⟨_, rfl⟩
  rw [hg0] at HOB hgX HNF
  simp only [hg0]
  clear hX hg0
  go_wp2_with (first
    | (go_at_call 28; (with_reducible refine HNB.out.mono ?_); rintro e w1 ⟨rfl, F1, h1, h2⟩; have H1 := Lib.hid h1; have H2 := Lib.hid h2; clear h1 h2)
    | (go_at_call 28; (with_reducible refine (HNC.out w1 F1 H1.out).mono ?_); rintro e w3 ⟨rfl, F3, h3, h4⟩; have H3 := Lib.hid h3; have H4 := Lib.hid (H2.out.trans h4); have HN3 := Lib.hid (H4.out.out hgX HNF.out); have HO3 := Lib.hid (H4.out.own HOB.out HNF.out); have d3 := HO3.out.cell (j := 3) rfl; clear h3 h4)
    | (go_at_call 27; (with_reducible refine (HAD.out w3 F3 H4.out H3.out).mono ?_); intro e w5 h5; obtain ⟨rfl, F5, h6, h7⟩ := HY.out h5; have H5 := Lib.hid h6; have H6 := Lib.hid h7; have HN5 := Lib.hid (H6.out.out HO3.out.lt HN3.out); have HO5 := Lib.hid (H6.out.own HO3.out HN3.out); have d5 := HO5.out.cell (j := 1) rfl; clear h5 h6 h7)
    | (go_at_call 51; (with_reducible refine (HBR.out w5 F5 H5.out).mono ?_); rintro e w7 ⟨rfl, h7, h8⟩; have H7 := Lib.hid h7; have H8 := Lib.hid h8; have d7 := (H8.out.own HO5.out HN5.out).cell (j := 1) rfl; clear h7 h8)
    | (go_at_call 51; (with_reducible refine (HBS.out w7 F5 H7.out).mono ?_); rintro e w9 ⟨rfl, h7, h8⟩; have H9 := Lib.hid h7; have H10 := Lib.hid h8; clear h7 h8))
  go_returns
  exact ⟨rfl, F5, H9.out, HFX.out.trans (H4.out.trans (H6.out.trans (H8.out.trans H10.out)))⟩

end Go.Proofs.Ytniilhgcgcimgaa
