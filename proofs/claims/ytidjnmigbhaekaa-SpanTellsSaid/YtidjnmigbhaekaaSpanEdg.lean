/-
  span.edges (R2): the list of edges, each with a row of its own.
-/
import Derived.Test.YtidjnmigbhaekaaSpanBeh
import Derived.Test.YtidjnmigbhaekaaRegionLate
namespace Go.Proofs.Ytidjnmigbhaekaa
open Go.RowKit
set_option linter.unusedSimpArgs false
set_option linter.unusedVariables false
set_option maxRecDepth 100000

/-- an edge as it lies: where it leads, the block and the room of its row, the row -/
structure Ed where
  to : Nat
  h : Nat
  c : Nat
  r : List (Int × Int)

def cEd (n : Nat) (e : Ed) : List Value := [.int .i64 e.to, .slice (some ⟨e.h, 0, none⟩) n e.c]

theorem cEd_len (n : Nat) (e : Ed) : (cEd n e).length = 2 := rfl

theorem cEd_one (n : Nat) (e : Ed) : ∀ u ∈ cEd n e, u.oneCell' = true := fun u hu => by
  simp [cEd] at hu
  rcases hu with rfl | rfl <;> rfl

theorem edge_app : AppTy Try.prog 67 71 2 32 := appTy_of (z := .agg #[.int .i64 0, .slice none 0 0]) Try.underlying67 (by kernel_rfl) rfl (by omega)

theorem OwnSp.kept {w w' : World} {base h n c : Nat} {l : List (Int × Int)} {b : Option Nat} (ho : OwnSp w base h n c l) (hg : w.grownBy w' b) (hne : b ≠ some h) : OwnSp w' base h n c l := ⟨ho.1.kept hg (.inr fun e2 => hne e2.symm), ho.2⟩

theorem OwnSp.mono {w : World} {base base' h n c : Nat} {l : List (Int × Int)} (ho : OwnSp w base h n c l) (hb : base' ≤ base) : OwnSp w base' h n c l := ⟨own_mono ho.1 hb, ho.2⟩

/-- edges in a block of the call's own, their rows in blocks of their own -/
structure EdL (B n : Nat) (A : Option Addr) (c : Nat) (es : List Ed) (Z : World) : Prop where
  arr : Z.ownsRow B 71 2 (.slice A es.length c) es.length (rv (cEd n) es)
  rows : ∀ (i : Nat) (e : Ed), es[i]? = some e → OwnSp Z B e.h n e.c e.r ∧ (Value.slice A es.length c).ownBlock ≠ some e.h
  apart : ∀ (i j : Nat) (e f : Ed), i ≠ j → es[i]? = some e → es[j]? = some f → e.h ≠ f.h

theorem EdL.nil (B n : Nat) (Z : World) : EdL B n none 0 [] Z := ⟨World.ownsRow_nil _ _ _ _, fun i e h => by simp at h, fun i j e f _ h => by simp at h⟩

theorem EdL.below {B n c : Nat} {A : Option Addr} {es : List Ed} {Z Z' : World} (h : EdL B n A c es Z) (hb : Below Z.heap.size Z Z') : EdL B n A c es Z' := ⟨own_below h.arr hb, fun i e he => ⟨(h.rows i e he).1.below hb, (h.rows i e he).2⟩, h.apart⟩

theorem EdL.mono {B B' n c : Nat} {A : Option Addr} {es : List Ed} {Z : World} (h : EdL B n A c es Z) (hb : B' ≤ B) : EdL B' n A c es Z := ⟨own_mono h.arr hb, fun i e he => ⟨(h.rows i e he).1.mono hb, (h.rows i e he).2⟩, h.apart⟩

/-- one edge in a literal -/
theorem EdL.one {B n : Nat} {e : Ed} {Z : World} (ho : OwnSp Z B e.h n e.c e.r) (hB : B ≤ Z.heap.size) : EdL B n (some ⟨Z.heap.size, 0, none⟩) 1 [e] (Z.alloc (.cells #[.int .i64 e.to, .slice (some ⟨e.h, 0, none⟩) n e.c] 71)) := by
  have hlt := ho.lt
  refine ⟨World.ownsRow_lit Z #[.int .i64 e.to, .slice (some ⟨e.h, 0, none⟩) n e.c] 1 hB (by unfold maxLen; omega) rfl, fun i f hf => ?_, fun i j f g hne hf hg => ?_⟩
  · have hi : i = 0 := by have := (List.getElem?_eq_some_iff.1 hf).1; simp at this; exact this
    subst hi
    simp at hf
    subst hf
    exact ⟨ho.below (by go_grown), fun e2 => by have e3 : some Z.heap.size = some e.h := e2; injection e3 with e3; omega⟩
  · have h1 := (List.getElem?_eq_some_iff.1 hf).1
    have h2 := (List.getElem?_eq_some_iff.1 hg).1
    simp at h1 h2
    omega

/-- one more, appended -/
theorem EdL.add {B n c c' : Nat} {A A' : Option Addr} {es : List Ed} {e : Ed} {Z Z5 Z6 Z7 : World} (h : EdL B n A c es Z) (hb : Below Z.heap.size Z Z5) (ho : OwnSp Z5 Z.heap.size e.h n e.c e.r) (hb6 : Below Z5.heap.size Z5 Z6) (hB : B ≤ Z.heap.size)
    (hown : Z7.ownsRow B 71 2 (.slice A' (es.length + 1) c') (es.length + 1) (rv (cEd n) es ++ cEd n e)) (hg : Z6.grownBy Z7 (Value.slice A es.length c).ownBlock)
    (hbl : (Value.slice A' (es.length + 1) c').ownBlock = (Value.slice A es.length c).ownBlock ∨ (Value.slice A' (es.length + 1) c').ownBlock = some Z6.heap.size) : EdL B n A' c' (es ++ [e]) Z7 := by
  have hlt := ho.lt
  have hs5 := hb.size
  have hs6 := hb6.size
  have hab : ∀ k, (Value.slice A es.length c).ownBlock = some k → k < Z.heap.size := fun k hk => (h.arr.lt k hk).2
  have hold : ∀ (i : Nat) (f : Ed), es[i]? = some f → OwnSp Z7 B f.h n f.c f.r ∧ f.h < Z.heap.size := fun i f hf => by
    obtain ⟨h1, h2⟩ := h.rows i f hf
    exact ⟨((h1.below hb).below hb6).kept hg h2, h1.lt.2⟩
  have hl : (es ++ [e]).length = es.length + 1 := by simp
  refine ⟨by rw [hl, rv_append]; simpa [rv] using hown, fun i f hf => ?_, fun i j f g hne hf hg2 => ?_⟩
  · rw [hl]
    rcases Nat.lt_or_ge i es.length with hi | hi
    · rw [List.getElem?_append_left hi] at hf
      obtain ⟨h1, h2⟩ := hold i f hf
      refine ⟨h1, ?_⟩
      rcases hbl with hbl | hbl
      · rw [hbl]; exact (h.rows i f hf).2
      · rw [hbl]
        intro e2
        injection e2 with e2
        omega
    · rw [List.getElem?_append_right hi] at hf
      have hi0 : i - es.length = 0 := by have := (List.getElem?_eq_some_iff.1 hf).1; simp at this; omega
      rw [hi0] at hf
      simp at hf
      subst hf
      have hne : (Value.slice A es.length c).ownBlock ≠ some e.h := fun e2 => by have := hab _ e2; omega
      refine ⟨((ho.mono hB).below hb6).kept hg hne, ?_⟩
      rcases hbl with hbl | hbl
      · rw [hbl]; exact hne
      · rw [hbl]
        intro e2
        injection e2 with e2
        omega
  · rcases Nat.lt_or_ge i es.length with hi | hi
    · rw [List.getElem?_append_left hi] at hf
      have h1 := (hold i f hf).2
      rcases Nat.lt_or_ge j es.length with hj | hj
      · rw [List.getElem?_append_left hj] at hg2
        exact h.apart i j f g hne hf hg2
      · rw [List.getElem?_append_right hj] at hg2
        have hj0 : j - es.length = 0 := by have := (List.getElem?_eq_some_iff.1 hg2).1; simp at this; omega
        rw [hj0] at hg2
        simp at hg2
        subst hg2
        omega
    · rw [List.getElem?_append_right hi] at hf
      have hi0 : i - es.length = 0 := by have := (List.getElem?_eq_some_iff.1 hf).1; simp at this; omega
      rw [hi0] at hf
      simp at hf
      subst hf
      rcases Nat.lt_or_ge j es.length with hj | hj
      · rw [List.getElem?_append_left hj] at hg2
        have := (hold j g hg2).2
        omega
      · have := (List.getElem?_eq_some_iff.1 hg2).1
        simp at this
        omega

/-- what edges answers -/
def EdTo (n : Nat) (w : World) (L : List (Nat × List (Int × Int))) (e : Ending) (w' : World) : Prop :=
  ∃ A c es, e = .returned (.slice A L.length c) ∧ (es.map fun e : Ed => (e.to, e.r)) = L ∧ EdL w.heap.size n A c es w' ∧ Below w.heap.size w w'

/-- a literal of one edge, value by value -/
def EdS (X : World) (n to : Nat) (r : List (Int × Int)) (x : Nat × Value × Value × Value × Value) (w : World) : Prop := Below X.heap.size X w ∧ match x.1 with
  | 0 => True
  | 1 => ∃ h c, x.2.1 = .slice (some ⟨h, 0, none⟩) n c ∧ OwnSp w X.heap.size h n c r
  | 2 => ∃ h c, x.2.2.1 = .agg #[.int .i64 to, .slice (some ⟨h, 0, none⟩) n c] ∧ OwnSp w X.heap.size h n c r
  | 3 => ∃ h c g, x.2.2.2.1 = .slice (some ⟨g, 0, none⟩) 1 1 ∧ EdL X.heap.size n (some ⟨g, 0, none⟩) 1 [⟨to, h, c, r⟩] w
  | _ => ∃ h c g, x.2.2.2.2 = .slice (some ⟨g, 0, none⟩) 1 1 ∧ EdL X.heap.size n (some ⟨g, 0, none⟩) 1 [⟨to, h, c, r⟩] w

/-- an edge appended, value by value; the last is what the list is so far -/
def EdT (X : World) (B n to k : Nat) (r : List (Int × Int)) (A : Option Addr) (c : Nat) (es : List Ed) (x : Nat × Value × Value × Value × Value × Value) (w : World) : Prop := Below B X w ∧ match x.1 with
  | 0 => x.2.2.2.2.2 = .slice A k c ∧ Below X.heap.size X w
  | 1 => x.2.2.2.2.2 = .slice A k c ∧ ∃ h c1, x.2.1 = .slice (some ⟨h, 0, none⟩) n c1 ∧ OwnSp w X.heap.size h n c1 r ∧ Below X.heap.size X w
  | 2 => x.2.2.2.2.2 = .slice A k c ∧ ∃ h c1, x.2.2.1 = .agg #[.int .i64 to, .slice (some ⟨h, 0, none⟩) n c1] ∧ OwnSp w X.heap.size h n c1 r ∧ Below X.heap.size X w
  | 3 => x.2.2.2.2.2 = .slice A k c ∧ ∃ h c1 g Z5, x.2.2.2.1 = .slice (some ⟨g, 0, none⟩) 1 1 ∧ OwnSp Z5 X.heap.size h n c1 r ∧ Below X.heap.size X Z5 ∧ Below Z5.heap.size Z5 w ∧
      ∀ ad : Addr, some (⟨g, 0, none⟩ : Addr) = some ad → ∀ j u, (cEd n ⟨to, h, c1, r⟩)[j]? = some u → w.cell? (ad.add j) = some u
  | 4 => x.2.2.2.2.2 = .slice A k c ∧ ∃ h c1 A' c', x.2.2.2.2.1 = .slice A' (k + 1) c' ∧ EdL B n A' c' (es ++ [⟨to, h, c1, r⟩]) w
  | _ => ∃ h c1 A' c', x.2.2.2.2.2 = .slice A' (k + 1) c' ∧ EdL B n A' c' (es ++ [⟨to, h, c1, r⟩]) w

theorem EdT.old {X : World} {B n to k : Nat} {r : List (Int × Int)} {A : Option Addr} {c : Nat} {es : List Ed} {x : Nat × Value × Value × Value × Value × Value} {w : World} (h : EdT X B n to k r A c es x w) (hx : x.1 ≤ 4) : x.2.2.2.2.2 = .slice A k c := by
  obtain ⟨p, y1, y2, y3, y4, y5⟩ := x
  obtain ⟨_, h⟩ := h
  simp only at hx
  match p, hx, h with
  | 0, _, h => exact h.1
  | 1, _, h => exact h.1
  | 2, _, h => exact h.1
  | 3, _, h => exact h.1
  | 4, _, h => exact h.1

set_option maxHeartbeats 16000000 in
theorem edges_any (n m : Nat) (Ac VA : Option Addr) (cl cc vc : Nat) (code : List St) (te th el : Int) (v : List (Int × Int)) (w : World) (hv : RdM w w.heap.size VA v) (hok : RSp n v) (hbk : BkOk n m ⟨code, te, th, el⟩) (hn1 : 1 ≤ n) (hn6 : n ≤ 6) :
    Calls Try.prog 37 #[.agg #[.slice Ac cl cc, .int .i64 te, .int .i64 th, .int .i64 el], .slice VA n vc] w fun e w' => EdTo n w (goSp ⟨code, te, th, el⟩ v) e w' := by
  obtain ⟨_, h2, h3, h4⟩ := hbk
  simp only at h2 h3 h4
  have HVL := Lib.hid hok.1
  have HOK := Lib.hid hok
  have HB0 := Lib.hid (Own.new w 48 [.slice Ac cl cc, .int .i64 te, .int .i64 th, .int .i64 el])
  have hbw0 : Below w.heap.size w (w.alloc (.cells #[.slice Ac cl cc, .int .i64 te, .int .i64 th, .int .i64 el] 48)) := by go_grown
  have HV : Hid (∀ Z : World, Below w.heap.size w Z → RdM Z Z.heap.size VA v) := Lib.hid fun Z hZ => (RdM.below hv hZ (Nat.le_refl _)).more hZ.size
  by_cases ht : te = -1
  · subst ht
    by_cases hh : th = -1
    · subst hh
      have HG : Hid (goSp ⟨code, -1, -1, el⟩ v = []) := Lib.hid (by unfold goSp; simp)
      rw [HG.out]
      clear h2 h3 h4 hv hok
      go_enter Try.func37, Try.ntmps37
      go_wp2
      go_ret
      exact ⟨none, 0, [], rfl, rfl, EdL.nil _ _ _, by go_grown⟩
    · have hh0 : 0 ≤ th := by omega
      obtain ⟨tn, rfl⟩ := Int.eq_ofNat_of_zero_le hh0
      have hne : ((tn : Int) == -1) = false := by simp
      have HG : Hid (goSp ⟨code, -1, tn, el⟩ v = [(tn, v)]) := Lib.hid (by unfold goSp; simp)
      rw [HG.out]
      clear h2 h3 h4 hv hok hh
      go_enter Try.func37, Try.ntmps37
      go_upto_region 4 with fail
      have HCL := Lib.hid (fun (Z : World) (hZ : Below w.heap.size w Z) => cloneS_any VA n vc v Z (HV.out Z hZ) HVL.out hn1 hn6)
      obtain ⟨X, hX⟩ : ∃ X, X = w.alloc (.cells #[.slice Ac cl cc, .int .i64 (-1), .int .i64 tn, .int .i64 el] 48) := ⟨_, rfl⟩
      rw [← hX] at hbw0 HB0 ⊢
      clear hX
      have HBX := Lib.hid hbw0
      have e2 := HB0.out.cell (j := 2) rfl
      have hbl := HB0.out.lt
      have hsX := hbw0.size
      obtain ⟨n0, hn0⟩ : ∃ n0, w.heap.size = n0 := ⟨_, rfl⟩
      have HN := Lib.hid hn0
      rw [hn0] at HB0 e2 hbl hsX
      simp only [hn0]
      clear hn0 hbw0
      refine wp_region_steps (X := Nat × (Value × Value × Value × Value)) (EdS X n tn v) (fun x j => doneL [0, 0, 0, 1, 2, 3, 4] x.1 j) (effL [0, 0, 0, 1, 2, 3, 4]) (0, (undef, undef, undef, undef)) (fun x => [.pointer (some ⟨n0, 2, none⟩), .int .i64 (tn : Nat), .slice VA n vc, x.2.1, x.2.2.1, x.2.2.2.1, x.2.2.2.2]) _ (by kernel_rfl) (by kernel_rfl) (by kernel_rfl) (fun x => by simp only [putsD, Act.put, List.setIfInBounds_toArray, List.set_cons_zero, List.set_cons_succ]; exact rfl) h0L ⟨Below.drew (Below.refl _ _), trivial⟩ (fun x => ?_) (fun x wz hDz hSz => ?_)
      · refine AllS.val (by rfl) (by rfl) (fun w hSw hPw => by go_simp) ?_
        refine AllS.val (by rfl) (by rfl) (fun w hSw hPw => ?_) ?_
        · (try dsimp only at hSw)
          have c := (hSw.1.cell (p := ⟨n0, 2, none⟩) hbl).trans e2
          go_simp
        refine AllS.val (by rfl) (by rfl) (fun w hSw hPw => by go_simp) ?_
        refine AllS.turn (fun _ _ => rfl) (by rfl) (fun w hSw hPw K hK => ?_) ?_
        · (try dsimp only at hSw)
          have h0 := leS (hPw.me rfl)
          have hx0 : x.1 = 0 := by exact Nat.le_zero.1 h0
          obtain ⟨p, y1, y2, y3, y4⟩ := x
          (try dsimp only at hx0)
          subst hx0
          obtain ⟨hq, _⟩ := hSw
          go_simp
          go_at_call 22
          refine (HCL.out _ (HBX.out.trans (hq.mono HBX.out.size))).mono ?_
          rintro e w7 ⟨h7, c7, rfl, ho7, hb7⟩
          go_simp
          exact hK (1, .slice (some ⟨h7, 0, none⟩) n c7, y2, y3, y4) _ (nxtL rfl (by decide)) ⟨below_via hq hb7, h7, c7, rfl, ho7.mono hq.size⟩
        refine AllS.turn (fun _ _ => rfl) (by rfl) (fun w hSw hPw K hK => ?_) ?_
        · (try dsimp only at hSw)
          have h0 := leS (hPw.me rfl)
          have h1 := geS (hPw.need (k := 3) rfl (by kernel_rfl))
          have hx0 : x.1 = 1 := Nat.le_antisymm h0 h1
          obtain ⟨p, y1, y2, y3, y4⟩ := x
          (try dsimp only at hx0)
          subst hx0
          obtain ⟨hq, h7, c7, hy, ho7⟩ := hSw
          (try dsimp only at hy)
          subst hy
          go_simp
          exact hK (2, _, .agg #[.int .i64 tn, .slice (some ⟨h7, 0, none⟩) n c7], y3, y4) _ (nxtL rfl (by decide)) ⟨hq, h7, c7, rfl, ho7⟩
        refine AllS.turn (fun _ _ => rfl) (by rfl) (fun w hSw hPw K hK => ?_) ?_
        · (try dsimp only at hSw)
          have h0 := leS (hPw.me rfl)
          have h1 := geS (hPw.need (k := 4) rfl (by kernel_rfl))
          have hx0 : x.1 = 2 := Nat.le_antisymm h0 h1
          obtain ⟨p, y1, y2, y3, y4⟩ := x
          (try dsimp only at hx0)
          subst hx0
          obtain ⟨hq, h7, c7, hy, ho7⟩ := hSw
          (try dsimp only at hy)
          subst hy
          go_simp
          exact hK (3, _, _, .slice (some ⟨w.heap.size, 0, none⟩) 1 1, y4) _ (nxtL rfl (by decide)) ⟨below_via hq (by go_grown), h7, c7, _, rfl, EdL.one (e := ⟨tn, h7, c7, v⟩) ho7 hq.size⟩
        refine AllS.turn (fun _ _ => rfl) (by rfl) (fun w hSw hPw K hK => ?_) ?_
        · (try dsimp only at hSw)
          have h0 := leS (hPw.me rfl)
          have h1 := geS (hPw.need (k := 5) rfl (by kernel_rfl))
          have hx0 : x.1 = 3 := Nat.le_antisymm h0 h1
          obtain ⟨p, y1, y2, y3, y4⟩ := x
          (try dsimp only at hx0)
          subst hx0
          obtain ⟨hq, h7, c7, g7, hy, hl7⟩ := hSw
          (try dsimp only at hy)
          subst hy
          go_simp
          exact hK (4, _, _, _, .slice (some ⟨g7, 0, none⟩) 1 1) _ (nxtL rfl (by decide)) ⟨hq, h7, c7, g7, rfl, hl7⟩
        exact AllS.nil
      have hd4 := geS (hDz 6 (by decide) (by decide))
      obtain ⟨p, y1, y2, y3, y4⟩ := x
      (try dsimp only at hd4)
      obtain ⟨q, rfl⟩ : ∃ q, p = q + 4 := ⟨p - 4, by simp at hd4; omega⟩
      obtain ⟨hq, h7, c7, g7, hy, hl7⟩ := hSz
      (try dsimp only at hy)
      subst hy
      clear hDz hd4
      go_wp2
      go_ret
      exact ⟨_, 1, [⟨tn, h7, c7, v⟩], rfl, rfl, hl7.mono HBX.out.size, HBX.out.trans (hq.mono HBX.out.size)⟩
  · have ht0 : 0 ≤ te ∧ te < n := by omega
    obtain ⟨tn, rfl⟩ := Int.eq_ofNat_of_zero_le ht0.1
    have htn : tn < n := by omega
    have hth : 0 ≤ th := by omega
    have hel0 := (h4 ht0.1).1
    obtain ⟨hn, rfl⟩ := Int.eq_ofNat_of_zero_le hth
    obtain ⟨en, rfl⟩ := Int.eq_ofNat_of_zero_le hel0
    have hne1 : ((hn : Int) == -1) = false := by simp
    have hne2 : ((tn : Int) == -1) = false := by simp
    obtain ⟨⟨t0, t1⟩, hvt⟩ : ∃ t, v[tn]? = some t := ⟨_, List.getElem?_eq_getElem (by rw [hok.1]; exact htn)⟩
    have hst := hok.2 tn _ hvt
    have hgd : v.getD ((tn : Int)).toNat spD = (t0, t1) := by simp only [Int.toNat_natCast]; exact getD_spD hvt
    have HG : Hid (goSp ⟨code, tn, hn, en⟩ v = (if 0 < t1 then [(hn, v.set tn (hiSp (t0, t1)))] else []) ++ (if t0 = 0 then [(en, v.set tn spD)] else [])) := Lib.hid (by
      unfold goSp
      simp only [hgd]
      rw [if_neg (by show ¬ (tn : Int) = -1; omega)]
      simp)
    obtain ⟨L, hL⟩ : ∃ L, goSp ⟨code, tn, hn, en⟩ v = L := ⟨_, rfl⟩
    rw [hL] at HG ⊢
    clear hL
    obtain ⟨ad, x0, x1, rfl, hvb, hvx, hvc0, hvc1⟩ := RdM.at_ (hv.below hbw0 (Nat.le_refl _)) (k := tn) (by rw [HVL.out]; exact htn)
    rw [hvt] at hvx
    injection hvx with hvx
    injection hvx with hx0e hx1e
    subst hx0e hx1e
    obtain ⟨s1, s2, s3⟩ := hst
    simp only at s1 s2 s3
    clear h2 h3 h4 ht ht0 hth hel0 hvt hgd hok hv
    go_enter Try.func37, Try.ntmps37
    have HOX1 : Hid (Own ((w.alloc (.cells #[.slice Ac cl cc, .int .i64 tn, .int .i64 hn, .int .i64 en] 48)).alloc (.cells #[.int .i64 t0, .int .i64 t1] 23)) w.heap.size 48 [.slice Ac cl cc, .int .i64 tn, .int .i64 hn, .int .i64 en]) := Lib.hid (HB0.out.alloc _)
    have HSX1 : Hid (Own ((w.alloc (.cells #[.slice Ac cl cc, .int .i64 tn, .int .i64 hn, .int .i64 en] 48)).alloc (.cells #[.int .i64 t0, .int .i64 t1] 23)) (w.heap.size + 1) 23 [.int .i64 t0, .int .i64 t1]) := Lib.hid (by simpa using Own.new (w.alloc (.cells #[.slice Ac cl cc, .int .i64 tn, .int .i64 hn, .int .i64 en] 48)) 23 [.int .i64 t0, .int .i64 t1])
    have HBX1 : Hid (Below w.heap.size w ((w.alloc (.cells #[.slice Ac cl cc, .int .i64 tn, .int .i64 hn, .int .i64 en] 48)).alloc (.cells #[.int .i64 t0, .int .i64 t1] 23))) := Lib.hid (by go_grown)
    go_upto_region 7 with fail
    obtain ⟨X1, hX1⟩ : ∃ X, X = (w.alloc (.cells #[.slice Ac cl cc, .int .i64 tn, .int .i64 hn, .int .i64 en] 48)).alloc (.cells #[.int .i64 t0, .int .i64 t1] 23) := ⟨_, rfl⟩
    rw [← hX1] at HOX1 HSX1 HBX1 ⊢
    clear hX1
    obtain ⟨n0, hn0⟩ : ∃ n0, w.heap.size = n0 := ⟨_, rfl⟩
    have HN := Lib.hid hn0
    obtain ⟨bt, hbt⟩ : ∃ bt, n0 + 1 = bt := ⟨_, rfl⟩
    have hnb : n0 < bt := by omega
    rw [hn0] at HOX1 HSX1
    rw [hbt] at HSX1
    simp only [hn0, hbt]
    clear hn0 hbt hvb hvc0 hvc1 hbw0 HB0
    have hsX1 : bt + 1 ≤ X1.heap.size := HSX1.out.lt
    by_cases c1 : t1 = 0
    · have c0 : t0 = 0 := by omega
      subst c1 c0
      have HL : Hid (L = [(en, v.set tn spD)]) := Lib.hid (HG.out.trans (by simp))
      have z0 := HSX1.out.cell (j := 0) rfl
      have z1 := HSX1.out.cell (j := 1) rfl
      have hzl := HSX1.out.lt
      refine wp_region_steps (X := Nat × (Unit)) (fun x w' => Below X1.heap.size X1 w') (fun x j => doneL [0, 1, 0] x.1 j) (effL [0, 1, 0]) (0, ()) (fun x => [.agg #[.int .i64 0, .int .i64 0], .agg #[.int .i64 0, .int .i64 0], .bool false]) _ (by kernel_rfl) (by kernel_rfl) (by kernel_rfl) (fun x => by simp only [putsD, Act.put, List.setIfInBounds_toArray, List.set_cons_zero, List.set_cons_succ]; exact rfl) h0L (Below.drew (Below.refl _ _)) (fun x => ?_) (fun x wz hDz hSz => ?_)
      · refine AllS.val (by rfl) (by rfl) (fun w hSw hPw => ?_) ?_
        · (try dsimp only at hSw)
          have c := (hSw.cell (p := ⟨bt, 0, none⟩) hzl).trans z0
          have c' := (hSw.cell (p := ⟨bt, 1, none⟩) hzl).trans z1
          go_simp
        refine AllS.turn (fun _ _ => rfl) (by rfl) (fun w hSw hPw K hK => ?_) ?_
        · (try dsimp only at hSw)
          have h0 := leS (hPw.me rfl)
          go_simp
          go_at_call 45
          (with_reducible refine (oneValue_any 0 _).mono ?_)
          rintro e w7 ⟨rfl, hb7⟩
          go_simp
          have hx0 : x.1 = 0 := by exact Nat.le_zero.1 h0
          obtain ⟨p, y⟩ := x
          (try dsimp only at hx0)
          subst hx0
          exact hK (1, y) _ (nxtL rfl (by decide)) (below_via hSw hb7)
        refine AllS.val (by rfl) (by rfl) (fun w hSw hPw => by go_simp) ?_
        exact AllS.nil
      have HBX2 := Lib.hid (HBX1.out.trans (hSz.mono HBX1.out.size))
      have HOX2 := Lib.hid (HOX1.out.below hSz HOX1.out.lt)
      have HSX2 := Lib.hid (HSX1.out.below hSz HSX1.out.lt)
      have hsX2 : bt + 1 ≤ wz.heap.size := HSX2.out.lt
      obtain ⟨X2, rfl⟩ : ∃ Z : World, Z = wz := ⟨_, rfl⟩
      clear hSz hDz z0 z1 hzl
      have z0 := HSX2.out.cell (j := 0) rfl
      have hzl := HSX2.out.lt
      go_upto_region 10 with fail
      have e1' := HOX2.out.cell (j := 1) rfl
      have e3' := HOX2.out.cell (j := 3) rfl
      have hel' := HOX2.out.lt
      have HWIX2 : Hid (∀ Z : World, Below X2.heap.size X2 Z → Calls Try.prog 49 #[.slice (some ad) n vc, .int .i64 tn, .agg #[.int .i64 0, .int .i64 0]] Z fun e w' => PutTo Z n (v.set tn spD) e w') := Lib.hid fun Z hZ => with_any (some ad) n vc tn v (0, 0) Z (HV.out Z (HBX2.out.trans (hZ.mono HBX2.out.size))) HVL.out hn6 htn
      refine wp_region_late (X := Nat × (Value × Value × Value × Value × Value)) (EdT X2 (bt + 1) n en 0 (v.set tn spD) none 0 []) (fun x j => doneL [0, 0, 0, 0, 0, 0, 0, 1, 2, 3, 4, 5] x.1 j) (effL [0, 0, 0, 0, 0, 0, 0, 1, 2, 3, 4, 5]) [11] (0, (undef, undef, undef, undef, .slice none 0 0)) (fun x => [.slice none 0 0, .pointer (some ⟨n0, 3, none⟩), .int .i64 (en : Nat), .slice (some ad) n vc, .pointer (some ⟨n0, 1, none⟩), .int .i64 (tn : Nat), .agg #[.int .i64 0, .int .i64 0], x.2.1, x.2.2.1, x.2.2.2.1, x.2.2.2.2.1, x.2.2.2.2.2]) _ (by kernel_rfl) (by kernel_rfl) (by kernel_rfl) (fun x => by simp only [putsD, Act.put, List.setIfInBounds_toArray, List.set_cons_zero, List.set_cons_succ]; exact rfl) (fun j hj => by rw [List.mem_singleton.1 hj]; rfl) h0L ⟨Below.drew (Below.refl _ _), rfl, Below.drew (Below.refl _ _)⟩ (fun x => ?_) (fun x wz hDz hSz => ?_)
      · refine AllS.val (by rfl) (by rfl) (fun w hSw hPw => ?_) ?_
        · (try dsimp only at hSw)
          have hw := EdT.old hSw (leS (hPw.not (j := 11) rfl (by kernel_rfl)))
          go_simp
        refine AllS.val (by rfl) (by rfl) (fun w hSw hPw => by go_simp) ?_
        refine AllS.val (by rfl) (by rfl) (fun w hSw hPw => ?_) ?_
        · (try dsimp only at hSw)
          have c := (hSw.1.cell (p := ⟨n0, 3, none⟩) (by show n0 < bt + 1; omega)).trans e3'
          go_simp
        refine AllS.val (by rfl) (by rfl) (fun w hSw hPw => by go_simp) ?_
        refine AllS.val (by rfl) (by rfl) (fun w hSw hPw => by go_simp) ?_
        refine AllS.val (by rfl) (by rfl) (fun w hSw hPw => ?_) ?_
        · (try dsimp only at hSw)
          have c := (hSw.1.cell (p := ⟨n0, 1, none⟩) (by show n0 < bt + 1; omega)).trans e1'
          go_simp
        refine AllS.turn (fun _ _ => rfl) (by rfl) (fun w hSw hPw K hK => ?_) ?_
        · (try dsimp only at hSw)
          have h0 := leS (hPw.not (j := 7) rfl (by kernel_rfl))
          have hx0 : x.1 = 0 := by exact Nat.le_zero.1 h0
          obtain ⟨p, y1, y2, y3, y4, y5⟩ := x
          (try dsimp only at hx0)
          subst hx0
          obtain ⟨hB, hy5, hq⟩ := hSw
          go_simp
          go_at_call 45
          (with_reducible refine (oneValue_any 0 _).mono ?_)
          rintro e w7 ⟨rfl, hb7⟩
          go_simp
          exact hK (0, y1, y2, y3, y4, y5) _ (Nxt.none rfl) ⟨hB.trans (hb7.mono (Nat.le_trans hsX2 hq.size)), hy5, below_via hq hb7⟩
        refine AllS.turn (fun _ _ => rfl) (by rfl) (fun w hSw hPw K hK => ?_) ?_
        · (try dsimp only at hSw)
          have h0 := leS (hPw.me rfl)
          have hx0 : x.1 = 0 := by exact Nat.le_zero.1 h0
          obtain ⟨p, y1, y2, y3, y4, y5⟩ := x
          (try dsimp only at hx0)
          subst hx0
          obtain ⟨hB, hy5, hq⟩ := hSw
          go_simp
          go_at_call 49
          refine (HWIX2.out _ hq).mono ?_
          rintro e w7 ⟨h7, c7, rfl, ho7, hb7⟩
          go_simp
          exact hK (1, .slice (some ⟨h7, 0, none⟩) n c7, y2, y3, y4, y5) _ (nxtL rfl (by decide)) ⟨hB.trans (hb7.mono (Nat.le_trans hsX2 hq.size)), hy5, h7, c7, rfl, ho7.mono hq.size, below_via hq hb7⟩
        refine AllS.turn (fun _ _ => rfl) (by rfl) (fun w hSw hPw K hK => ?_) ?_
        · (try dsimp only at hSw)
          have h0 := leS (hPw.me rfl)
          have h1 := geS (hPw.need (k := 7) rfl (by kernel_rfl))
          have hx0 : x.1 = 1 := Nat.le_antisymm h0 h1
          obtain ⟨p, y1, y2, y3, y4, y5⟩ := x
          (try dsimp only at hx0)
          subst hx0
          obtain ⟨hB, hy5, h7, c7, hy, ho7, hq⟩ := hSw
          (try dsimp only at hy)
          subst hy
          go_simp
          exact hK (2, _, .agg #[.int .i64 (en : Nat), .slice (some ⟨h7, 0, none⟩) n c7], y3, y4, y5) _ (nxtL rfl (by decide)) ⟨hB, hy5, h7, c7, rfl, ho7, hq⟩
        refine AllS.turn (fun _ _ => rfl) (by rfl) (fun w hSw hPw K hK => ?_) ?_
        · (try dsimp only at hSw)
          have h0 := leS (hPw.me rfl)
          have h1 := geS (hPw.need (k := 8) rfl (by kernel_rfl))
          have hx0 : x.1 = 2 := Nat.le_antisymm h0 h1
          obtain ⟨p, y1, y2, y3, y4, y5⟩ := x
          (try dsimp only at hx0)
          subst hx0
          obtain ⟨hB, hy5, h7, c7, hy, ho7, hq⟩ := hSw
          (try dsimp only at hy)
          subst hy
          go_simp
          exact hK (3, _, _, .slice (some ⟨w.heap.size, 0, none⟩) 1 1, y4, y5) _ (nxtL rfl (by decide)) ⟨hB.trans ((by go_grown : Below w.heap.size w _).mono (Nat.le_trans hsX2 hq.size)), hy5, h7, c7, w.heap.size, w, rfl, ho7, hq, by go_grown, cells_at rfl (cEd n ⟨en, h7, c7, v.set tn spD⟩) _⟩
        refine AllS.turn (fun _ _ => rfl) (by rfl) (fun w hSw hPw K hK => ?_) ?_
        · (try dsimp only at hSw)
          have h0 := leS (hPw.me rfl)
          have h1 := geS (hPw.need (k := 9) rfl (by kernel_rfl))
          have hx0 : x.1 = 3 := Nat.le_antisymm h0 h1
          obtain ⟨p, y1, y2, y3, y4, y5⟩ := x
          (try dsimp only at hx0)
          subst hx0
          obtain ⟨hB, hy5, h7, c7, g7, w5, hy, ho7, hq5, hq6, hnw⟩ := hSw
          (try dsimp only at hy)
          subst hy
          refine oper_app' (.tmp 46) (.tmp 55) 67 rfl (bt + 1) 71 2 32 edge_app (rv (cEd n) []) rfl (own_below (World.ownsRow_nil _ _ _ _) (below_via hq5 hq6)) (cEd n ⟨en, h7, c7, v.set tn spD⟩) rfl rfl (fun h => by cases h) hnw (cEd_one _ _) (by unfold maxLen; omega) (by omega) (Nat.le_trans hsX2 (below_via hq5 hq6).size) ?_
          intro A8 c8 w8 hown8 hg8 hb8 hbl8
          exact hK (4, _, _, _, .slice A8 (0 + 1) c8, y5) _ (nxtL rfl (by decide)) ⟨hB.trans hb8, hy5, h7, c7, A8, c8, rfl, EdL.add (e := ⟨en, h7, c7, v.set tn spD⟩) (EdL.nil _ _ _) hq5 ho7 hq6 hsX2 hown8 hg8 hbl8⟩
        refine AllS.turn (fun _ _ => rfl) (by rfl) (fun w hSw hPw K hK => ?_) ?_
        · (try dsimp only at hSw)
          have h0 := leS (hPw.me rfl)
          have h1 := geS (hPw.need (k := 10) rfl (by kernel_rfl))
          have hx0 : x.1 = 4 := Nat.le_antisymm h0 h1
          obtain ⟨p, y1, y2, y3, y4, y5⟩ := x
          (try dsimp only at hx0)
          subst hx0
          obtain ⟨hB, hy5, h7, c7, A8, c8, hy, hl8⟩ := hSw
          (try dsimp only at hy)
          subst hy
          go_simp
          exact hK (5, _, _, _, _, .slice A8 (0 + 1) c8) _ (nxtL rfl (by decide)) ⟨hB, h7, c7, A8, c8, rfl, hl8⟩
        exact AllS.nil
      have hd4 := geS (hDz 11 (by decide) (by decide))
      obtain ⟨p, y1, y2, y3, y4, y5⟩ := x
      (try dsimp only at hd4)
      obtain ⟨q, rfl⟩ : ∃ q, p = q + 5 := ⟨p - 5, by simp at hd4; omega⟩
      obtain ⟨hBX3, hX3, cX3, AX3, kX3, hy, hlX3⟩ := hSz
      (try dsimp only at hy)
      subst hy
      have HL1 := Lib.hid hlX3
      have HBX3 := Lib.hid (HBX2.out.trans (hBX3.mono (by have := HN.out; omega)))
      have HOX3 := Lib.hid (HOX2.out.below hBX3 (by omega))
      have HSX3 := Lib.hid (HSX2.out.below hBX3 (by omega))
      have hsX3 : bt + 1 ≤ wz.heap.size := HSX3.out.lt
      obtain ⟨X3, rfl⟩ : ∃ Z : World, Z = wz := ⟨_, rfl⟩
      clear hDz hd4 hlX3 hBX3
      have z0' := HSX3.out.cell (j := 0) rfl
      have hzl' := HSX3.out.lt
      go_wp2
      go_ret
      rw [HL.out]
      exact ⟨_, _, [⟨en, hX3, cX3, v.set tn spD⟩], rfl, rfl, HL1.out.mono (by have := HN.out; omega), HBX3.out⟩
    · have c1b : (t1 == 0) = false := by simp [c1]
      have c1p : 0 < t1 := by omega
      by_cases c0 : t0 = 0
      · subst c0
        have HL : Hid (L = [(hn, v.set tn (1, t1)), (en, v.set tn spD)]) := Lib.hid (HG.out.trans (by rw [if_pos c1p, if_pos rfl]; rfl))
        have z0 := HSX1.out.cell (j := 0) rfl
        have z1 := HSX1.out.cell (j := 1) rfl
        have hzl := HSX1.out.lt
        refine wp_region_steps (X := Nat × (Unit)) (fun x w' => Below X1.heap.size X1 w') (fun x j => doneL [0, 1, 0] x.1 j) (effL [0, 1, 0]) (0, ()) (fun x => [.agg #[.int .i64 0, .int .i64 t1], .agg #[.int .i64 0, .int .i64 0], .bool true]) _ (by kernel_rfl) (by kernel_rfl) (by kernel_rfl) (fun x => by simp only [putsD, Act.put, List.setIfInBounds_toArray, List.set_cons_zero, List.set_cons_succ]; exact rfl) h0L (Below.drew (Below.refl _ _)) (fun x => ?_) (fun x wz hDz hSz => ?_)
        · refine AllS.val (by rfl) (by rfl) (fun w hSw hPw => ?_) ?_
          · (try dsimp only at hSw)
            have c := (hSw.cell (p := ⟨bt, 0, none⟩) hzl).trans z0
            have c' := (hSw.cell (p := ⟨bt, 1, none⟩) hzl).trans z1
            go_simp
          refine AllS.turn (fun _ _ => rfl) (by rfl) (fun w hSw hPw K hK => ?_) ?_
          · (try dsimp only at hSw)
            have h0 := leS (hPw.me rfl)
            go_simp
            go_at_call 45
            (with_reducible refine (oneValue_any 0 _).mono ?_)
            rintro e w7 ⟨rfl, hb7⟩
            go_simp
            have hx0 : x.1 = 0 := by exact Nat.le_zero.1 h0
            obtain ⟨p, y⟩ := x
            (try dsimp only at hx0)
            subst hx0
            exact hK (1, y) _ (nxtL rfl (by decide)) (below_via hSw hb7)
          refine AllS.val (by rfl) (by rfl) (fun w hSw hPw => by go_simp) ?_
          exact AllS.nil
        have HBX2 := Lib.hid (HBX1.out.trans (hSz.mono HBX1.out.size))
        have HOX2 := Lib.hid (HOX1.out.below hSz HOX1.out.lt)
        have HSX2 := Lib.hid (HSX1.out.below hSz HSX1.out.lt)
        have hsX2 : bt + 1 ≤ wz.heap.size := HSX2.out.lt
        obtain ⟨X2, rfl⟩ : ∃ Z : World, Z = wz := ⟨_, rfl⟩
        clear hSz hDz z0 z1 hzl
        go_upto_region 8 with fail
        have z0 := HSX2.out.cell (j := 0) rfl
        have z1 := HSX2.out.cell (j := 1) rfl
        have hzl := HSX2.out.lt
        have e1 := HOX2.out.cell (j := 1) rfl
        have e2 := HOX2.out.cell (j := 2) rfl
        have hel := HOX2.out.lt
        have HWIX2 : Hid (∀ Z : World, Below X2.heap.size X2 Z → Calls Try.prog 49 #[.slice (some ad) n vc, .int .i64 tn, .agg #[.int .i64 1, .int .i64 t1]] Z fun e w' => PutTo Z n (v.set tn (1, t1)) e w') := Lib.hid fun Z hZ => with_any (some ad) n vc tn v (1, t1) Z (HV.out Z (HBX2.out.trans (hZ.mono HBX2.out.size))) HVL.out hn6 htn
        refine wp_region_late (X := Nat × (Value × Value × Value × Value × Value)) (EdT X2 (bt + 1) n hn 0 (v.set tn (1, t1)) none 0 []) (fun x j => doneL [0, 0, 0, 0, 0, 0, 0, 0, 0, 0, 0, 0, 1, 2, 3, 4, 5] x.1 j) (effL [0, 0, 0, 0, 0, 0, 0, 0, 0, 0, 0, 0, 1, 2, 3, 4, 5]) [16] (0, (undef, undef, undef, undef, .slice none 0 0)) (fun x => [.slice none 0 0, .pointer (some ⟨n0, 2, none⟩), .int .i64 (hn : Nat), .slice (some ad) n vc, .pointer (some ⟨n0, 1, none⟩), .int .i64 (tn : Nat), .pointer (some ⟨bt, 0, none⟩), .int .i64 0, .int .i64 1, .pointer (some ⟨bt, 1, none⟩), .int .i64 t1, .agg #[.int .i64 1, .int .i64 t1], x.2.1, x.2.2.1, x.2.2.2.1, x.2.2.2.2.1, x.2.2.2.2.2]) _ (by kernel_rfl) (by kernel_rfl) (by kernel_rfl) (fun x => by simp only [putsD, Act.put, List.setIfInBounds_toArray, List.set_cons_zero, List.set_cons_succ]; exact rfl) (fun j hj => by rw [List.mem_singleton.1 hj]; rfl) h0L ⟨Below.drew (Below.refl _ _), rfl, Below.drew (Below.refl _ _)⟩ (fun x => ?_) (fun x wz hDz hSz => ?_)
        · refine AllS.val (by rfl) (by rfl) (fun w hSw hPw => ?_) ?_
          · (try dsimp only at hSw)
            have hw := EdT.old hSw (leS (hPw.not (j := 16) rfl (by kernel_rfl)))
            go_simp
          refine AllS.val (by rfl) (by rfl) (fun w hSw hPw => by go_simp) ?_
          refine AllS.val (by rfl) (by rfl) (fun w hSw hPw => ?_) ?_
          · (try dsimp only at hSw)
            have c := (hSw.1.cell (p := ⟨n0, 2, none⟩) (by show n0 < bt + 1; omega)).trans e2
            go_simp
          refine AllS.val (by rfl) (by rfl) (fun w hSw hPw => by go_simp) ?_
          refine AllS.val (by rfl) (by rfl) (fun w hSw hPw => by go_simp) ?_
          refine AllS.val (by rfl) (by rfl) (fun w hSw hPw => ?_) ?_
          · (try dsimp only at hSw)
            have c := (hSw.1.cell (p := ⟨n0, 1, none⟩) (by show n0 < bt + 1; omega)).trans e1
            go_simp
          refine AllS.val (by rfl) (by rfl) (fun w hSw hPw => by go_simp) ?_
          refine AllS.val (by rfl) (by rfl) (fun w hSw hPw => ?_) ?_
          · (try dsimp only at hSw)
            have c := (hSw.1.cell (p := ⟨bt, 0, none⟩) (by show bt < bt + 1; omega)).trans z0
            go_simp
          refine AllS.val (by rfl) (by rfl) (fun w hSw hPw => by go_simp) ?_
          refine AllS.val (by rfl) (by rfl) (fun w hSw hPw => by go_simp) ?_
          refine AllS.val (by rfl) (by rfl) (fun w hSw hPw => ?_) ?_
          · (try dsimp only at hSw)
            have c := (hSw.1.cell (p := ⟨bt, 1, none⟩) (by show bt < bt + 1; omega)).trans z1
            go_simp
          refine AllS.val (by rfl) (by rfl) (fun w hSw hPw => by go_simp) ?_
          refine AllS.turn (fun _ _ => rfl) (by rfl) (fun w hSw hPw K hK => ?_) ?_
          · (try dsimp only at hSw)
            have h0 := leS (hPw.me rfl)
            have hx0 : x.1 = 0 := by exact Nat.le_zero.1 h0
            obtain ⟨p, y1, y2, y3, y4, y5⟩ := x
            (try dsimp only at hx0)
            subst hx0
            obtain ⟨hB, hy5, hq⟩ := hSw
            go_simp
            go_at_call 49
            refine (HWIX2.out _ hq).mono ?_
            rintro e w7 ⟨h7, c7, rfl, ho7, hb7⟩
            go_simp
            exact hK (1, .slice (some ⟨h7, 0, none⟩) n c7, y2, y3, y4, y5) _ (nxtL rfl (by decide)) ⟨hB.trans (hb7.mono (Nat.le_trans hsX2 hq.size)), hy5, h7, c7, rfl, ho7.mono hq.size, below_via hq hb7⟩
          refine AllS.turn (fun _ _ => rfl) (by rfl) (fun w hSw hPw K hK => ?_) ?_
          · (try dsimp only at hSw)
            have h0 := leS (hPw.me rfl)
            have h1 := geS (hPw.need (k := 12) rfl (by kernel_rfl))
            have hx0 : x.1 = 1 := Nat.le_antisymm h0 h1
            obtain ⟨p, y1, y2, y3, y4, y5⟩ := x
            (try dsimp only at hx0)
            subst hx0
            obtain ⟨hB, hy5, h7, c7, hy, ho7, hq⟩ := hSw
            (try dsimp only at hy)
            subst hy
            go_simp
            exact hK (2, _, .agg #[.int .i64 (hn : Nat), .slice (some ⟨h7, 0, none⟩) n c7], y3, y4, y5) _ (nxtL rfl (by decide)) ⟨hB, hy5, h7, c7, rfl, ho7, hq⟩
          refine AllS.turn (fun _ _ => rfl) (by rfl) (fun w hSw hPw K hK => ?_) ?_
          · (try dsimp only at hSw)
            have h0 := leS (hPw.me rfl)
            have h1 := geS (hPw.need (k := 13) rfl (by kernel_rfl))
            have hx0 : x.1 = 2 := Nat.le_antisymm h0 h1
            obtain ⟨p, y1, y2, y3, y4, y5⟩ := x
            (try dsimp only at hx0)
            subst hx0
            obtain ⟨hB, hy5, h7, c7, hy, ho7, hq⟩ := hSw
            (try dsimp only at hy)
            subst hy
            go_simp
            exact hK (3, _, _, .slice (some ⟨w.heap.size, 0, none⟩) 1 1, y4, y5) _ (nxtL rfl (by decide)) ⟨hB.trans ((by go_grown : Below w.heap.size w _).mono (Nat.le_trans hsX2 hq.size)), hy5, h7, c7, w.heap.size, w, rfl, ho7, hq, by go_grown, cells_at rfl (cEd n ⟨hn, h7, c7, v.set tn (1, t1)⟩) _⟩
          refine AllS.turn (fun _ _ => rfl) (by rfl) (fun w hSw hPw K hK => ?_) ?_
          · (try dsimp only at hSw)
            have h0 := leS (hPw.me rfl)
            have h1 := geS (hPw.need (k := 14) rfl (by kernel_rfl))
            have hx0 : x.1 = 3 := Nat.le_antisymm h0 h1
            obtain ⟨p, y1, y2, y3, y4, y5⟩ := x
            (try dsimp only at hx0)
            subst hx0
            obtain ⟨hB, hy5, h7, c7, g7, w5, hy, ho7, hq5, hq6, hnw⟩ := hSw
            (try dsimp only at hy)
            subst hy
            refine oper_app' (.tmp 27) (.tmp 41) 67 rfl (bt + 1) 71 2 32 edge_app (rv (cEd n) []) rfl (own_below (World.ownsRow_nil _ _ _ _) (below_via hq5 hq6)) (cEd n ⟨hn, h7, c7, v.set tn (1, t1)⟩) rfl rfl (fun h => by cases h) hnw (cEd_one _ _) (by unfold maxLen; omega) (by omega) (Nat.le_trans hsX2 (below_via hq5 hq6).size) ?_
            intro A8 c8 w8 hown8 hg8 hb8 hbl8
            exact hK (4, _, _, _, .slice A8 (0 + 1) c8, y5) _ (nxtL rfl (by decide)) ⟨hB.trans hb8, hy5, h7, c7, A8, c8, rfl, EdL.add (e := ⟨hn, h7, c7, v.set tn (1, t1)⟩) (EdL.nil _ _ _) hq5 ho7 hq6 hsX2 hown8 hg8 hbl8⟩
          refine AllS.turn (fun _ _ => rfl) (by rfl) (fun w hSw hPw K hK => ?_) ?_
          · (try dsimp only at hSw)
            have h0 := leS (hPw.me rfl)
            have h1 := geS (hPw.need (k := 15) rfl (by kernel_rfl))
            have hx0 : x.1 = 4 := Nat.le_antisymm h0 h1
            obtain ⟨p, y1, y2, y3, y4, y5⟩ := x
            (try dsimp only at hx0)
            subst hx0
            obtain ⟨hB, hy5, h7, c7, A8, c8, hy, hl8⟩ := hSw
            (try dsimp only at hy)
            subst hy
            go_simp
            exact hK (5, _, _, _, _, .slice A8 (0 + 1) c8) _ (nxtL rfl (by decide)) ⟨hB, h7, c7, A8, c8, rfl, hl8⟩
          exact AllS.nil
        have hd4 := geS (hDz 16 (by decide) (by decide))
        obtain ⟨p, y1, y2, y3, y4, y5⟩ := x
        (try dsimp only at hd4)
        obtain ⟨q, rfl⟩ : ∃ q, p = q + 5 := ⟨p - 5, by simp at hd4; omega⟩
        obtain ⟨hBX3, hX3, cX3, AX3, kX3, hy, hlX3⟩ := hSz
        (try dsimp only at hy)
        subst hy
        have HL1 := Lib.hid hlX3
        have HBX3 := Lib.hid (HBX2.out.trans (hBX3.mono (by have := HN.out; omega)))
        have HOX3 := Lib.hid (HOX2.out.below hBX3 (by omega))
        have HSX3 := Lib.hid (HSX2.out.below hBX3 (by omega))
        have hsX3 : bt + 1 ≤ wz.heap.size := HSX3.out.lt
        obtain ⟨X3, rfl⟩ : ∃ Z : World, Z = wz := ⟨_, rfl⟩
        clear hDz hd4 hlX3 hBX3
        have z0 := HSX3.out.cell (j := 0) rfl
        have hzl := HSX3.out.lt
        go_upto_region 10 with fail
        have e1' := HOX3.out.cell (j := 1) rfl
        have e3' := HOX3.out.cell (j := 3) rfl
        have hel' := HOX3.out.lt
        have HWIX3 : Hid (∀ Z : World, Below X3.heap.size X3 Z → Calls Try.prog 49 #[.slice (some ad) n vc, .int .i64 tn, .agg #[.int .i64 0, .int .i64 0]] Z fun e w' => PutTo Z n (v.set tn spD) e w') := Lib.hid fun Z hZ => with_any (some ad) n vc tn v (0, 0) Z (HV.out Z (HBX3.out.trans (hZ.mono HBX3.out.size))) HVL.out hn6 htn
        refine wp_region_late (X := Nat × (Value × Value × Value × Value × Value)) (EdT X3 (bt + 1) n en 1 (v.set tn spD) AX3 kX3 [⟨hn, hX3, cX3, v.set tn (1, t1)⟩]) (fun x j => doneL [0, 0, 0, 0, 0, 0, 0, 1, 2, 3, 4, 5] x.1 j) (effL [0, 0, 0, 0, 0, 0, 0, 1, 2, 3, 4, 5]) [11] (0, (undef, undef, undef, undef, .slice AX3 1 kX3)) (fun x => [.slice AX3 1 kX3, .pointer (some ⟨n0, 3, none⟩), .int .i64 (en : Nat), .slice (some ad) n vc, .pointer (some ⟨n0, 1, none⟩), .int .i64 (tn : Nat), .agg #[.int .i64 0, .int .i64 0], x.2.1, x.2.2.1, x.2.2.2.1, x.2.2.2.2.1, x.2.2.2.2.2]) _ (by kernel_rfl) (by kernel_rfl) (by kernel_rfl) (fun x => by simp only [putsD, Act.put, List.setIfInBounds_toArray, List.set_cons_zero, List.set_cons_succ]; exact rfl) (fun j hj => by rw [List.mem_singleton.1 hj]; rfl) h0L ⟨Below.drew (Below.refl _ _), rfl, Below.drew (Below.refl _ _)⟩ (fun x => ?_) (fun x wz hDz hSz => ?_)
        · refine AllS.val (by rfl) (by rfl) (fun w hSw hPw => ?_) ?_
          · (try dsimp only at hSw)
            have hw := EdT.old hSw (leS (hPw.not (j := 11) rfl (by kernel_rfl)))
            go_simp
          refine AllS.val (by rfl) (by rfl) (fun w hSw hPw => by go_simp) ?_
          refine AllS.val (by rfl) (by rfl) (fun w hSw hPw => ?_) ?_
          · (try dsimp only at hSw)
            have c := (hSw.1.cell (p := ⟨n0, 3, none⟩) (by show n0 < bt + 1; omega)).trans e3'
            go_simp
          refine AllS.val (by rfl) (by rfl) (fun w hSw hPw => by go_simp) ?_
          refine AllS.val (by rfl) (by rfl) (fun w hSw hPw => by go_simp) ?_
          refine AllS.val (by rfl) (by rfl) (fun w hSw hPw => ?_) ?_
          · (try dsimp only at hSw)
            have c := (hSw.1.cell (p := ⟨n0, 1, none⟩) (by show n0 < bt + 1; omega)).trans e1'
            go_simp
          refine AllS.turn (fun _ _ => rfl) (by rfl) (fun w hSw hPw K hK => ?_) ?_
          · (try dsimp only at hSw)
            have h0 := leS (hPw.not (j := 7) rfl (by kernel_rfl))
            have hx0 : x.1 = 0 := by exact Nat.le_zero.1 h0
            obtain ⟨p, y1, y2, y3, y4, y5⟩ := x
            (try dsimp only at hx0)
            subst hx0
            obtain ⟨hB, hy5, hq⟩ := hSw
            go_simp
            go_at_call 45
            (with_reducible refine (oneValue_any 0 _).mono ?_)
            rintro e w7 ⟨rfl, hb7⟩
            go_simp
            exact hK (0, y1, y2, y3, y4, y5) _ (Nxt.none rfl) ⟨hB.trans (hb7.mono (Nat.le_trans hsX3 hq.size)), hy5, below_via hq hb7⟩
          refine AllS.turn (fun _ _ => rfl) (by rfl) (fun w hSw hPw K hK => ?_) ?_
          · (try dsimp only at hSw)
            have h0 := leS (hPw.me rfl)
            have hx0 : x.1 = 0 := by exact Nat.le_zero.1 h0
            obtain ⟨p, y1, y2, y3, y4, y5⟩ := x
            (try dsimp only at hx0)
            subst hx0
            obtain ⟨hB, hy5, hq⟩ := hSw
            go_simp
            go_at_call 49
            refine (HWIX3.out _ hq).mono ?_
            rintro e w7 ⟨h7, c7, rfl, ho7, hb7⟩
            go_simp
            exact hK (1, .slice (some ⟨h7, 0, none⟩) n c7, y2, y3, y4, y5) _ (nxtL rfl (by decide)) ⟨hB.trans (hb7.mono (Nat.le_trans hsX3 hq.size)), hy5, h7, c7, rfl, ho7.mono hq.size, below_via hq hb7⟩
          refine AllS.turn (fun _ _ => rfl) (by rfl) (fun w hSw hPw K hK => ?_) ?_
          · (try dsimp only at hSw)
            have h0 := leS (hPw.me rfl)
            have h1 := geS (hPw.need (k := 7) rfl (by kernel_rfl))
            have hx0 : x.1 = 1 := Nat.le_antisymm h0 h1
            obtain ⟨p, y1, y2, y3, y4, y5⟩ := x
            (try dsimp only at hx0)
            subst hx0
            obtain ⟨hB, hy5, h7, c7, hy, ho7, hq⟩ := hSw
            (try dsimp only at hy)
            subst hy
            go_simp
            exact hK (2, _, .agg #[.int .i64 (en : Nat), .slice (some ⟨h7, 0, none⟩) n c7], y3, y4, y5) _ (nxtL rfl (by decide)) ⟨hB, hy5, h7, c7, rfl, ho7, hq⟩
          refine AllS.turn (fun _ _ => rfl) (by rfl) (fun w hSw hPw K hK => ?_) ?_
          · (try dsimp only at hSw)
            have h0 := leS (hPw.me rfl)
            have h1 := geS (hPw.need (k := 8) rfl (by kernel_rfl))
            have hx0 : x.1 = 2 := Nat.le_antisymm h0 h1
            obtain ⟨p, y1, y2, y3, y4, y5⟩ := x
            (try dsimp only at hx0)
            subst hx0
            obtain ⟨hB, hy5, h7, c7, hy, ho7, hq⟩ := hSw
            (try dsimp only at hy)
            subst hy
            go_simp
            exact hK (3, _, _, .slice (some ⟨w.heap.size, 0, none⟩) 1 1, y4, y5) _ (nxtL rfl (by decide)) ⟨hB.trans ((by go_grown : Below w.heap.size w _).mono (Nat.le_trans hsX3 hq.size)), hy5, h7, c7, w.heap.size, w, rfl, ho7, hq, by go_grown, cells_at rfl (cEd n ⟨en, h7, c7, v.set tn spD⟩) _⟩
          refine AllS.turn (fun _ _ => rfl) (by rfl) (fun w hSw hPw K hK => ?_) ?_
          · (try dsimp only at hSw)
            have h0 := leS (hPw.me rfl)
            have h1 := geS (hPw.need (k := 9) rfl (by kernel_rfl))
            have hx0 : x.1 = 3 := Nat.le_antisymm h0 h1
            obtain ⟨p, y1, y2, y3, y4, y5⟩ := x
            (try dsimp only at hx0)
            subst hx0
            obtain ⟨hB, hy5, h7, c7, g7, w5, hy, ho7, hq5, hq6, hnw⟩ := hSw
            (try dsimp only at hy)
            subst hy
            refine oper_app' (.tmp 46) (.tmp 55) 67 rfl (bt + 1) 71 2 32 edge_app (rv (cEd n) [⟨hn, hX3, cX3, v.set tn (1, t1)⟩]) rfl (own_below HL1.out.arr (below_via hq5 hq6)) (cEd n ⟨en, h7, c7, v.set tn spD⟩) rfl rfl (fun h => by cases h) hnw (cEd_one _ _) (by unfold maxLen; omega) (by omega) (Nat.le_trans hsX3 (below_via hq5 hq6).size) ?_
            intro A8 c8 w8 hown8 hg8 hb8 hbl8
            exact hK (4, _, _, _, .slice A8 (1 + 1) c8, y5) _ (nxtL rfl (by decide)) ⟨hB.trans hb8, hy5, h7, c7, A8, c8, rfl, EdL.add (e := ⟨en, h7, c7, v.set tn spD⟩) (HL1.out) hq5 ho7 hq6 hsX3 hown8 hg8 hbl8⟩
          refine AllS.turn (fun _ _ => rfl) (by rfl) (fun w hSw hPw K hK => ?_) ?_
          · (try dsimp only at hSw)
            have h0 := leS (hPw.me rfl)
            have h1 := geS (hPw.need (k := 10) rfl (by kernel_rfl))
            have hx0 : x.1 = 4 := Nat.le_antisymm h0 h1
            obtain ⟨p, y1, y2, y3, y4, y5⟩ := x
            (try dsimp only at hx0)
            subst hx0
            obtain ⟨hB, hy5, h7, c7, A8, c8, hy, hl8⟩ := hSw
            (try dsimp only at hy)
            subst hy
            go_simp
            exact hK (5, _, _, _, _, .slice A8 (1 + 1) c8) _ (nxtL rfl (by decide)) ⟨hB, h7, c7, A8, c8, rfl, hl8⟩
          exact AllS.nil
        have hd4 := geS (hDz 11 (by decide) (by decide))
        obtain ⟨p, y1, y2, y3, y4, y5⟩ := x
        (try dsimp only at hd4)
        obtain ⟨q, rfl⟩ : ∃ q, p = q + 5 := ⟨p - 5, by simp at hd4; omega⟩
        obtain ⟨hBX4, hX4, cX4, AX4, kX4, hy, hlX4⟩ := hSz
        (try dsimp only at hy)
        subst hy
        have HL1 := Lib.hid hlX4
        have HBX4 := Lib.hid (HBX3.out.trans (hBX4.mono (by have := HN.out; omega)))
        have HOX4 := Lib.hid (HOX3.out.below hBX4 (by omega))
        have HSX4 := Lib.hid (HSX3.out.below hBX4 (by omega))
        have hsX4 : bt + 1 ≤ wz.heap.size := HSX4.out.lt
        obtain ⟨X4, rfl⟩ : ∃ Z : World, Z = wz := ⟨_, rfl⟩
        clear hDz hd4 hlX4 hBX4
        have z0' := HSX4.out.cell (j := 0) rfl
        have hzl' := HSX4.out.lt
        go_wp2
        go_ret
        rw [HL.out]
        exact ⟨_, _, [⟨hn, hX3, cX3, v.set tn (1, t1)⟩, ⟨en, hX4, cX4, v.set tn spD⟩], rfl, rfl, HL1.out.mono (by have := HN.out; omega), HBX4.out⟩
      · have c0b : (t0 == 0) = false := by simp [c0]
        have c0p : ¬ t0 < 1 := by omega
        have HL : Hid (L = [(hn, v.set tn (t0, t1))]) := Lib.hid (HG.out.trans (by rw [if_pos c1p, if_neg c0]; unfold hiSp; simp only [List.append_nil]; rw [Int.max_eq_left (by omega)]))
        have z0 := HSX1.out.cell (j := 0) rfl
        have z1 := HSX1.out.cell (j := 1) rfl
        have hzl := HSX1.out.lt
        refine wp_region_steps (X := Nat × (Unit)) (fun x w' => Below X1.heap.size X1 w') (fun x j => doneL [0, 1, 0] x.1 j) (effL [0, 1, 0]) (0, ()) (fun x => [.agg #[.int .i64 t0, .int .i64 t1], .agg #[.int .i64 0, .int .i64 0], .bool true]) _ (by kernel_rfl) (by kernel_rfl) (by kernel_rfl) (fun x => by simp only [putsD, Act.put, List.setIfInBounds_toArray, List.set_cons_zero, List.set_cons_succ]; exact rfl) h0L (Below.drew (Below.refl _ _)) (fun x => ?_) (fun x wz hDz hSz => ?_)
        · refine AllS.val (by rfl) (by rfl) (fun w hSw hPw => ?_) ?_
          · (try dsimp only at hSw)
            have c := (hSw.cell (p := ⟨bt, 0, none⟩) hzl).trans z0
            have c' := (hSw.cell (p := ⟨bt, 1, none⟩) hzl).trans z1
            go_simp
          refine AllS.turn (fun _ _ => rfl) (by rfl) (fun w hSw hPw K hK => ?_) ?_
          · (try dsimp only at hSw)
            have h0 := leS (hPw.me rfl)
            go_simp
            go_at_call 45
            (with_reducible refine (oneValue_any 0 _).mono ?_)
            rintro e w7 ⟨rfl, hb7⟩
            go_simp
            have hx0 : x.1 = 0 := by exact Nat.le_zero.1 h0
            obtain ⟨p, y⟩ := x
            (try dsimp only at hx0)
            subst hx0
            exact hK (1, y) _ (nxtL rfl (by decide)) (below_via hSw hb7)
          refine AllS.val (by rfl) (by rfl) (fun w hSw hPw => by go_simp) ?_
          exact AllS.nil
        have HBX2 := Lib.hid (HBX1.out.trans (hSz.mono HBX1.out.size))
        have HOX2 := Lib.hid (HOX1.out.below hSz HOX1.out.lt)
        have HSX2 := Lib.hid (HSX1.out.below hSz HSX1.out.lt)
        have hsX2 : bt + 1 ≤ wz.heap.size := HSX2.out.lt
        obtain ⟨X2, rfl⟩ : ∃ Z : World, Z = wz := ⟨_, rfl⟩
        clear hSz hDz z0 z1 hzl
        go_upto_region 8 with fail
        have z0 := HSX2.out.cell (j := 0) rfl
        have z1 := HSX2.out.cell (j := 1) rfl
        have hzl := HSX2.out.lt
        have e1 := HOX2.out.cell (j := 1) rfl
        have e2 := HOX2.out.cell (j := 2) rfl
        have hel := HOX2.out.lt
        have HWIX2 : Hid (∀ Z : World, Below X2.heap.size X2 Z → Calls Try.prog 49 #[.slice (some ad) n vc, .int .i64 tn, .agg #[.int .i64 t0, .int .i64 t1]] Z fun e w' => PutTo Z n (v.set tn (t0, t1)) e w') := Lib.hid fun Z hZ => with_any (some ad) n vc tn v (t0, t1) Z (HV.out Z (HBX2.out.trans (hZ.mono HBX2.out.size))) HVL.out hn6 htn
        refine wp_region_late (X := Nat × (Value × Value × Value × Value × Value)) (EdT X2 (bt + 1) n hn 0 (v.set tn (t0, t1)) none 0 []) (fun x j => doneL [0, 0, 0, 0, 0, 0, 0, 0, 0, 0, 0, 0, 1, 2, 3, 4, 5] x.1 j) (effL [0, 0, 0, 0, 0, 0, 0, 0, 0, 0, 0, 0, 1, 2, 3, 4, 5]) [16] (0, (undef, undef, undef, undef, .slice none 0 0)) (fun x => [.slice none 0 0, .pointer (some ⟨n0, 2, none⟩), .int .i64 (hn : Nat), .slice (some ad) n vc, .pointer (some ⟨n0, 1, none⟩), .int .i64 (tn : Nat), .pointer (some ⟨bt, 0, none⟩), .int .i64 t0, .int .i64 t0, .pointer (some ⟨bt, 1, none⟩), .int .i64 t1, .agg #[.int .i64 t0, .int .i64 t1], x.2.1, x.2.2.1, x.2.2.2.1, x.2.2.2.2.1, x.2.2.2.2.2]) _ (by kernel_rfl) (by kernel_rfl) (by kernel_rfl) (fun x => by simp only [putsD, Act.put, List.setIfInBounds_toArray, List.set_cons_zero, List.set_cons_succ]; exact rfl) (fun j hj => by rw [List.mem_singleton.1 hj]; rfl) h0L ⟨Below.drew (Below.refl _ _), rfl, Below.drew (Below.refl _ _)⟩ (fun x => ?_) (fun x wz hDz hSz => ?_)
        · refine AllS.val (by rfl) (by rfl) (fun w hSw hPw => ?_) ?_
          · (try dsimp only at hSw)
            have hw := EdT.old hSw (leS (hPw.not (j := 16) rfl (by kernel_rfl)))
            go_simp
          refine AllS.val (by rfl) (by rfl) (fun w hSw hPw => by go_simp) ?_
          refine AllS.val (by rfl) (by rfl) (fun w hSw hPw => ?_) ?_
          · (try dsimp only at hSw)
            have c := (hSw.1.cell (p := ⟨n0, 2, none⟩) (by show n0 < bt + 1; omega)).trans e2
            go_simp
          refine AllS.val (by rfl) (by rfl) (fun w hSw hPw => by go_simp) ?_
          refine AllS.val (by rfl) (by rfl) (fun w hSw hPw => by go_simp) ?_
          refine AllS.val (by rfl) (by rfl) (fun w hSw hPw => ?_) ?_
          · (try dsimp only at hSw)
            have c := (hSw.1.cell (p := ⟨n0, 1, none⟩) (by show n0 < bt + 1; omega)).trans e1
            go_simp
          refine AllS.val (by rfl) (by rfl) (fun w hSw hPw => by go_simp) ?_
          refine AllS.val (by rfl) (by rfl) (fun w hSw hPw => ?_) ?_
          · (try dsimp only at hSw)
            have c := (hSw.1.cell (p := ⟨bt, 0, none⟩) (by show bt < bt + 1; omega)).trans z0
            go_simp
          refine AllS.val (by rfl) (by rfl) (fun w hSw hPw => by go_simp) ?_
          refine AllS.val (by rfl) (by rfl) (fun w hSw hPw => by go_simp) ?_
          refine AllS.val (by rfl) (by rfl) (fun w hSw hPw => ?_) ?_
          · (try dsimp only at hSw)
            have c := (hSw.1.cell (p := ⟨bt, 1, none⟩) (by show bt < bt + 1; omega)).trans z1
            go_simp
          refine AllS.val (by rfl) (by rfl) (fun w hSw hPw => by go_simp) ?_
          refine AllS.turn (fun _ _ => rfl) (by rfl) (fun w hSw hPw K hK => ?_) ?_
          · (try dsimp only at hSw)
            have h0 := leS (hPw.me rfl)
            have hx0 : x.1 = 0 := by exact Nat.le_zero.1 h0
            obtain ⟨p, y1, y2, y3, y4, y5⟩ := x
            (try dsimp only at hx0)
            subst hx0
            obtain ⟨hB, hy5, hq⟩ := hSw
            go_simp
            go_at_call 49
            refine (HWIX2.out _ hq).mono ?_
            rintro e w7 ⟨h7, c7, rfl, ho7, hb7⟩
            go_simp
            exact hK (1, .slice (some ⟨h7, 0, none⟩) n c7, y2, y3, y4, y5) _ (nxtL rfl (by decide)) ⟨hB.trans (hb7.mono (Nat.le_trans hsX2 hq.size)), hy5, h7, c7, rfl, ho7.mono hq.size, below_via hq hb7⟩
          refine AllS.turn (fun _ _ => rfl) (by rfl) (fun w hSw hPw K hK => ?_) ?_
          · (try dsimp only at hSw)
            have h0 := leS (hPw.me rfl)
            have h1 := geS (hPw.need (k := 12) rfl (by kernel_rfl))
            have hx0 : x.1 = 1 := Nat.le_antisymm h0 h1
            obtain ⟨p, y1, y2, y3, y4, y5⟩ := x
            (try dsimp only at hx0)
            subst hx0
            obtain ⟨hB, hy5, h7, c7, hy, ho7, hq⟩ := hSw
            (try dsimp only at hy)
            subst hy
            go_simp
            exact hK (2, _, .agg #[.int .i64 (hn : Nat), .slice (some ⟨h7, 0, none⟩) n c7], y3, y4, y5) _ (nxtL rfl (by decide)) ⟨hB, hy5, h7, c7, rfl, ho7, hq⟩
          refine AllS.turn (fun _ _ => rfl) (by rfl) (fun w hSw hPw K hK => ?_) ?_
          · (try dsimp only at hSw)
            have h0 := leS (hPw.me rfl)
            have h1 := geS (hPw.need (k := 13) rfl (by kernel_rfl))
            have hx0 : x.1 = 2 := Nat.le_antisymm h0 h1
            obtain ⟨p, y1, y2, y3, y4, y5⟩ := x
            (try dsimp only at hx0)
            subst hx0
            obtain ⟨hB, hy5, h7, c7, hy, ho7, hq⟩ := hSw
            (try dsimp only at hy)
            subst hy
            go_simp
            exact hK (3, _, _, .slice (some ⟨w.heap.size, 0, none⟩) 1 1, y4, y5) _ (nxtL rfl (by decide)) ⟨hB.trans ((by go_grown : Below w.heap.size w _).mono (Nat.le_trans hsX2 hq.size)), hy5, h7, c7, w.heap.size, w, rfl, ho7, hq, by go_grown, cells_at rfl (cEd n ⟨hn, h7, c7, v.set tn (t0, t1)⟩) _⟩
          refine AllS.turn (fun _ _ => rfl) (by rfl) (fun w hSw hPw K hK => ?_) ?_
          · (try dsimp only at hSw)
            have h0 := leS (hPw.me rfl)
            have h1 := geS (hPw.need (k := 14) rfl (by kernel_rfl))
            have hx0 : x.1 = 3 := Nat.le_antisymm h0 h1
            obtain ⟨p, y1, y2, y3, y4, y5⟩ := x
            (try dsimp only at hx0)
            subst hx0
            obtain ⟨hB, hy5, h7, c7, g7, w5, hy, ho7, hq5, hq6, hnw⟩ := hSw
            (try dsimp only at hy)
            subst hy
            refine oper_app' (.tmp 27) (.tmp 41) 67 rfl (bt + 1) 71 2 32 edge_app (rv (cEd n) []) rfl (own_below (World.ownsRow_nil _ _ _ _) (below_via hq5 hq6)) (cEd n ⟨hn, h7, c7, v.set tn (t0, t1)⟩) rfl rfl (fun h => by cases h) hnw (cEd_one _ _) (by unfold maxLen; omega) (by omega) (Nat.le_trans hsX2 (below_via hq5 hq6).size) ?_
            intro A8 c8 w8 hown8 hg8 hb8 hbl8
            exact hK (4, _, _, _, .slice A8 (0 + 1) c8, y5) _ (nxtL rfl (by decide)) ⟨hB.trans hb8, hy5, h7, c7, A8, c8, rfl, EdL.add (e := ⟨hn, h7, c7, v.set tn (t0, t1)⟩) (EdL.nil _ _ _) hq5 ho7 hq6 hsX2 hown8 hg8 hbl8⟩
          refine AllS.turn (fun _ _ => rfl) (by rfl) (fun w hSw hPw K hK => ?_) ?_
          · (try dsimp only at hSw)
            have h0 := leS (hPw.me rfl)
            have h1 := geS (hPw.need (k := 15) rfl (by kernel_rfl))
            have hx0 : x.1 = 4 := Nat.le_antisymm h0 h1
            obtain ⟨p, y1, y2, y3, y4, y5⟩ := x
            (try dsimp only at hx0)
            subst hx0
            obtain ⟨hB, hy5, h7, c7, A8, c8, hy, hl8⟩ := hSw
            (try dsimp only at hy)
            subst hy
            go_simp
            exact hK (5, _, _, _, _, .slice A8 (0 + 1) c8) _ (nxtL rfl (by decide)) ⟨hB, h7, c7, A8, c8, rfl, hl8⟩
          exact AllS.nil
        have hd4 := geS (hDz 16 (by decide) (by decide))
        obtain ⟨p, y1, y2, y3, y4, y5⟩ := x
        (try dsimp only at hd4)
        obtain ⟨q, rfl⟩ : ∃ q, p = q + 5 := ⟨p - 5, by simp at hd4; omega⟩
        obtain ⟨hBX3, hX3, cX3, AX3, kX3, hy, hlX3⟩ := hSz
        (try dsimp only at hy)
        subst hy
        have HL1 := Lib.hid hlX3
        have HBX3 := Lib.hid (HBX2.out.trans (hBX3.mono (by have := HN.out; omega)))
        have HOX3 := Lib.hid (HOX2.out.below hBX3 (by omega))
        have HSX3 := Lib.hid (HSX2.out.below hBX3 (by omega))
        have hsX3 : bt + 1 ≤ wz.heap.size := HSX3.out.lt
        obtain ⟨X3, rfl⟩ : ∃ Z : World, Z = wz := ⟨_, rfl⟩
        clear hDz hd4 hlX3 hBX3
        have z0' := HSX3.out.cell (j := 0) rfl
        have hzl' := HSX3.out.lt
        go_wp2
        go_ret
        rw [HL.out]
        exact ⟨_, _, [⟨hn, hX3, cX3, v.set tn (t0, t1)⟩], rfl, rfl, HL1.out.mono (by have := HN.out; omega), HBX3.out⟩

end Go.Proofs.Ytidjnmigbhaekaa
