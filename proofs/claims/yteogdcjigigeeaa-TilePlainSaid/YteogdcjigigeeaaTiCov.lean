/-
  tile.Cover returns a cover of minimal cost (W1).
-/
import Derived.Test.YteogdcjigigeeaaTile
import Derived.Test.YteogdcjigigeeaaBack
import Derived.Test.YteogdcjigigeeaaRepeat
import Derived.Test.YteogdcjigigeeaaRoundSteps
import Derived.Test.YteogdcjigigeeaaTiRef
import Derived.Test.YteogdcjigigeeaaMBase
namespace Go.Proofs.Yteogdcjigigeeaa
open Go.RowKit Go.Shelf
set_option linter.unusedSimpArgs false
set_option linter.unusedVariables false
set_option maxRecDepth 100000
attribute [local go_sem] Oper.semAt_some

theorem keeps_belowC {W W' : World} (h : Below W.heap.size W W') : KeepsOthers W W' := ⟨h.size, fun k o hk _ => (h.block k (Array.getElem?_eq_some_iff.1 hk).1).trans hk⟩

theorem kpB_belowC {n₀ Bs : Nat} {W W' : World} (h : Below W.heap.size W W') (hn : n₀ ≤ W.heap.size) (hB : Bs < W.heap.size) : KpB n₀ Bs W W' := ⟨⟨h.os, h.tape, h.output, h.size, fun k hk => h.block k (by omega)⟩, h.block Bs hB⟩

/-- a cover being made, by the terms handed over -/
def cvG (l : List Tm) (ts : List Ti) (pre : List (Fin l.length)) : List Int := (pre.map fun x => x.1).foldl (cvS l ts) (cv0 l ts)

theorem cvG_snoc (l : List Tm) (ts : List Ti) (pre : List (Fin l.length)) (x : Fin l.length) : cvG l ts (pre ++ [x]) = cvS l ts (cvG l ts pre) x.1 := by
  unfold cvG
  rw [List.map_append, List.foldl_append]
  rfl

theorem bks_dwn (n : Nat) : ∀ k, k ≤ n → (bks n k).map (fun x => x.1) = dwn n k
  | 0, _ => rfl
  | k + 1, h => by rw [bks_succ (by omega), List.map_append, bks_dwn n k (by omega)]; rfl

theorem cvG_all (l : List Tm) (ts : List Ti) : cvG l ts (bks l.length l.length) = cvL l ts := by
  unfold cvG cvL
  rw [bks_dwn _ _ (Nat.le_refl _)]

theorem cvG_inv {vars : Int} {l : List Tm} {ts : List Ti} (hc : ckTerms vars l = 0) (h : cho l ts (l.length - 1) ≠ none) (pre : List (Fin l.length)) : CvI l ts (cvG l ts pre) :=
  CvI.fold hc (CvI.start (ckTerms_bd hc).2.2.1 h)

/-- what a cover's making holds between two rounds -/
structure CoI (l : List Tm) (ts : List Ti) (A : Option Addr) (len cap : Nat) (E : Option Addr) (tn te gb gc b4 b5 b8 b10 : Nat) (c : List Int) (W : World) : Prop where
  own : Own W gc 3 (iv c)
  best : OwnCh W gb ((List.range len).map (cho l ts))
  o4 : Own W b4 22 [.slice A len cap]
  o5 : Own W b5 23 [.slice E tn te]
  o8 : Own W b8 43 [.slice (some ⟨gb, 0, none⟩) len len]
  o10 : Own W b10 30 [.slice (some ⟨gc, 0, none⟩) len len]

theorem CoI.kept {l : List Tm} {ts : List Ti} {A : Option Addr} {len cap : Nat} {E : Option Addr} {tn te gb gc b4 b5 b8 b10 : Nat} {c : List Int} {W W' : World} {row : Option Nat} (h : CoI l ts A len cap E tn te gb gc b4 b5 b8 b10 c W) (hg : W.grownBy W' row) (hr : ∀ r, row = some r → ∃ o : Obj, W.heap[r]? = some o ∧ o.isCells = false) : CoI l ts A len cap E tn te gb gc b4 b5 b8 b10 c W' :=
  ⟨h.own.kept hg hr, Own.kept h.best hg hr, h.o4.kept hg hr, h.o5.kept hg hr, h.o8.kept hg hr, h.o10.kept hg hr⟩

theorem CoI.below {l : List Tm} {ts : List Ti} {A : Option Addr} {len cap : Nat} {E : Option Addr} {tn te gb gc b4 b5 b8 b10 : Nat} {c : List Int} {W W' : World} (h : CoI l ts A len cap E tn te gb gc b4 b5 b8 b10 c W) (hb : Below W.heap.size W W') : CoI l ts A len cap E tn te gb gc b4 b5 b8 b10 c W' :=
  ⟨h.own.below hb h.own.lt, h.best.below hb h.best.lt, h.o4.below hb h.o4.lt, h.o5.below hb h.o5.lt, h.o8.below hb h.o8.lt, h.o10.below hb h.o10.lt⟩

theorem CoI.set {l : List Tm} {ts : List Ti} {A : Option Addr} {len cap : Nat} {E : Option Addr} {tn te gb gc b4 b5 b8 b10 : Nat} {c : List Int} {W : World} (h : CoI l ts A len cap E tn te gb gc b4 b5 b8 b10 c W) (h1 : gb ≠ gc) (h2 : b4 ≠ gc) (h3 : b5 ≠ gc) (h4 : b8 ≠ gc) (h5 : b10 ≠ gc) (j : Nat) (x : Int) : CoI l ts A len cap E tn te gb gc b4 b5 b8 b10 (c.set j x) (W.setCell ⟨gc, j, none⟩ (.int .i64 x)) :=
  ⟨OwnI.set h.own j x, h.best.far h1 _, h.o4.far h2 _, h.o5.far h3 _, h.o8.far h4 _, h.o10.far h5 _⟩

/-- the region that asks for the leaves of a term's tile -/
def CvS (W : World) (L : List Nat) (x : Nat × Value) (w : World) : Prop :=
  Below W.heap.size W w ∧ match x.1 with
  | 0 => True
  | _ + 1 => ∃ A c, x.2 = .slice A L.length c ∧ LvOwn w W.heap.size A c L

theorem putL_snoc {l : List Tm} {ts : List Ti} {j : Nat} : ∀ {js : List Nat} {c : List Int}, putL l ts (js ++ [j]) c = (putL l ts js c).set j (tlN l ts j)
  | [], _ => rfl
  | i :: r, c => putL_snoc (js := r) (c := c.set i (tlN l ts i))

set_option maxHeartbeats 8000000 in
theorem cover_ok {vars : Int} (A : Option Addr) (len cap : Nat) (l : List Tm) (w : World) (hx : RdT w w.heap.size A l) (hl : l.length = len) (E : Option Addr) (tn te : Nat) (ts : List Ti) (ht : RdTi w w.heap.size E ts) (htl : ts.length = tn) (hck : ckTl vars l ts = 0) :
    Calls Try.prog 10 #[.int .i64 vars, .slice A len cap, .slice E tn te] w fun e w' => ∃ g, e = .returned (.tuple #[.slice (some ⟨g, 0, none⟩) len len, .int .i64 0]) ∧ w.heap.size ≤ g ∧ Own w' g 3 (iv (cvL l ts)) ∧ Below w.heap.size w w' := by
  obtain ⟨hct, n0, x0, hlast⟩ := ckTl_ok hck
  obtain ⟨hctr, hcti⟩ := ckTT_ok hct
  have hct0 := (ckTree_ok hctr).1
  obtain ⟨htn, hts⟩ := ckTi_ok hcti
  have hbt := ckTerms_bd hct0
  rw [htl] at htn
  rw [hl] at hbt hlast
  have HL := Lib.hid hl
  have HTL := Lib.hid htl
  have HC := Lib.hid hct0
  have HLAST := Lib.hid hlast
  have HX : Hid (∀ W : World, Below w.heap.size w W → RdT W w.heap.size A l) := Lib.hid fun W hW => hx.below hW (Nat.le_refl _)
  have HT : Hid (∀ W : World, Below w.heap.size w W → RdTi W w.heap.size E ts) := Lib.hid fun W hW => ht.below hW (Nat.le_refl _)
  have HCH : Hid (∀ W : World, Below w.heap.size w W → Calls Try.prog 15 #[.int .i64 vars, .slice A len cap, .slice E tn te] W fun e w' => ∃ g, e = .returned (.tuple #[.slice (some ⟨g, 0, none⟩) len len, .int .i64 0]) ∧ W.heap.size ≤ g ∧ OwnCh w' g ((List.range len).map (cho l ts)) ∧ Below W.heap.size W w') :=
    Lib.hid fun W hW => choices_ok A len cap l W ((HX.out W hW).more hW.size) HL.out E tn te ts ((HT.out W hW).more hW.size) HTL.out hck
  have hlp : 0 < len := hbt.2.2.1
  have hl16 : len ≤ 16 := hbt.2.2.2
  clear hx ht hl htl hck hct hctr hcti hct0 hbt hlast
  have hro : Fence.wide.round = none := rfl
  have h1 : 1 ≤ 5 := by omega
  refine (callsIn_wide (n := 5)).1 ?_
  refine callsIn_of_wp_marks Try.func10 rfl trivial ?_ hro
  simp only [Try.ntmps10, List.size_toArray, List.length_cons, List.length_nil, Nat.reduceAdd, Nat.reduceSub, Array.replicate_succ, Array.replicate_zero, List.push_toArray, List.append_toArray, List.nil_append, List.cons_append]
  have HO4 : Own ((w.alloc (.cells #[.slice A len cap] 22)).alloc (.cells #[.slice E tn te] 23)) w.heap.size 22 [.slice A len cap] := (Own.new w _ [_]).alloc _
  have HO5 : Own ((w.alloc (.cells #[.slice A len cap] 22)).alloc (.cells #[.slice E tn te] 23)) (w.heap.size + 1) 23 [.slice E tn te] := own_endT (by simp) _ [_]
  have HB0 : Below w.heap.size w ((w.alloc (.cells #[.slice A len cap] 22)).alloc (.cells #[.slice E tn te] 23)) := by go_grown
  gi_wp2_with (first
    | (refine ⟨trivial, ?_⟩; gi_at_call 15; refine (callsIn_wide.2 (HCH.out _ HB0)).mono ?_; rintro e w1 ⟨gb, rfl, hgb, hob, hb1⟩; have hq4 := HO4.below hb1 HO4.lt; have hq5 := HO5.below hb1 HO5.lt; have k4 := hq4.cell (j := 0) rfl; have hl4 := hq4.lt; have hl5 := hq5.lt)
    | (refine ⟨trivial, ?_⟩; gi_at_call 17; refine (callsIn_wide.2 (repeat16_any (-1) len hlp hl16 ⟨w1.heap.size + 1, 0, none⟩ 1 _ (by simp) (by simp))).mono ?_; rintro e w3 ⟨rfl, hrep, hb3⟩))
  obtain ⟨b4, hb4⟩ : ∃ b, w.heap.size = b := ⟨_, rfl⟩
  obtain ⟨b8, hb8⟩ : ∃ b, w1.heap.size = b := ⟨_, rfl⟩
  obtain ⟨b10, hb10⟩ : ∃ b, w3.heap.size = b := ⟨_, rfl⟩
  have HB4 := Lib.hid hb4
  have hgbs : gb < b8 := by have := hob.lt; omega
  have hgb4 : b4 + 2 ≤ gb := by simp at hgb; omega
  have hWR : ((w1.alloc (.cells #[.slice (some ⟨gb, 0, none⟩) len len] 43)).alloc (.cells #[.int .i64 (-1)] 3)).heap.size = b8 + 1 + 1 := by simp [hb8]
  have hb8b : b8 + 1 + 1 < b10 := by
    have := hrep.lt
    rw [hWR] at this
    omega
  have hCo : CoI l ts A len cap E tn te gb (b8 + 1 + 1) b4 (b4 + 1) b8 b10 (List.replicate len (-1)) (w3.alloc (.cells #[.slice (some ⟨b8 + 1 + 1, 0, none⟩) len len] 30)) := by
    rw [hWR] at hrep hb3
    have hbb : Below w1.heap.size w1 w3 := (by go_grown : Below w1.heap.size w1 ((w1.alloc (.cells #[.slice (some ⟨gb, 0, none⟩) len len] 43)).alloc (.cells #[.int .i64 (-1)] 3))).trans (hb3.mono (by omega))
    have hq8 : Own ((w1.alloc (.cells #[.slice (some ⟨gb, 0, none⟩) len len] 43)).alloc (.cells #[.int .i64 (-1)] 3)) b8 43 [.slice (some ⟨gb, 0, none⟩) len len] := (own_endT hb8 _ [_]).alloc _
    refine ⟨hrep.alloc _, (hob.below hbb (by omega)).alloc _, ?_, ?_, (hq8.below hb3 (by omega)).alloc _, own_endT hb10 _ [_]⟩
    · rw [← hb4]
      exact (hq4.below hbb hl4).alloc _
    · rw [← hb4]
      exact (hq5.below hbb hl5).alloc _
  have hbY : Below w.heap.size w (w3.alloc (.cells #[.slice (some ⟨b8 + 1 + 1, 0, none⟩) len len] 30)) := by
    rw [hWR] at hb3
    have hbb : Below w1.heap.size w1 w3 := (by go_grown : Below w1.heap.size w1 ((w1.alloc (.cells #[.slice (some ⟨gb, 0, none⟩) len len] 43)).alloc (.cells #[.int .i64 (-1)] 3))).trans (hb3.mono (by omega))
    have hw1 : Below w.heap.size w w1 := HB0.trans (hb1.mono HB0.size)
    exact (hw1.trans (hbb.mono hw1.size)).alloc (Nat.le_trans hw1.size hbb.size) _
  have hszY : (w3.alloc (.cells #[.slice (some ⟨b8 + 1 + 1, 0, none⟩) len len] 30)).heap.size = b10 + 1 := by simp [hb10]
  simp only [hb4, hb8, hb10]
  obtain ⟨Y, hY⟩ : ∃ Y, Y = w3.alloc (.cells #[.slice (some ⟨b8 + 1 + 1, 0, none⟩) len len] 30) := ⟨_, rfl⟩
  rw [← hY] at hCo hbY hszY ⊢
  clear hY hWR hrep hb3 hq4 hq5 k4 hl4 hl5 hob hb1 hgb hb4 hb8 hb10 HO4 HO5 HB0 HCH
  have HLS : Hid (((List.range len).map (cho l ts))[len - 1]? = some (some (n0, x0))) := Lib.hid (by rw [List.getElem?_map, List.getElem?_range (by omega), ← HLAST.out]; rfl)
  have HREP : Hid ((List.replicate len (-1 : Int))[len - 1]? = some (-1)) := Lib.hid (by rw [List.getElem?_replicate, if_pos (by omega)])
  have hi1 : IntKind.i64.wrap ((len : Int) - 1) = ((len - 1 : Nat) : Int) := by rw [IntKind.wrap_i64]; omega
  have hi2 : ((len : Int) - 1) = ((len - 1 : Nat) : Int) := by omega
  have hi3 : len - 1 < len := by omega
  have hi4 : IntKind.i64.wrap ((len - 1 : Nat) : Int) = ((len - 1 : Nat) : Int) := by rw [IntKind.wrap_i64]; omega
  have HNE : Hid (gb ≠ b8 + 1 + 1 ∧ b4 ≠ b8 + 1 + 1 ∧ b4 + 1 ≠ b8 + 1 + 1 ∧ b8 ≠ b8 + 1 + 1 ∧ b10 ≠ b8 + 1 + 1) := Lib.hid ⟨by omega, by omega, by omega, by omega, by omega⟩
  have HSZ : Hid (b4 + 2 ≤ gb ∧ gb < b8 ∧ b8 + 1 + 1 < b10) := Lib.hid ⟨hgb4, hgbs, hb8b⟩
  have hBs : b10 + 1 = b10 + 1 := rfl
  refine wp_region_stepsW (by kernel_rfl) (by rintro ⟨a, w, h⟩; obtain ⟨g, he, _⟩ := h; cases he) (X := Nat × (Unit)) (fun x W => (x.1 ≤ 0 → CoI l ts A len cap E tn te gb (b8 + 1 + 1) b4 (b4 + 1) b8 b10 (List.replicate len (-1)) W) ∧ (1 ≤ x.1 → CoI l ts A len cap E tn te gb (b8 + 1 + 1) b4 (b4 + 1) b8 b10 ((List.replicate len (-1)).set (len - 1) (n0 : Nat)) W) ∧ W.heap.size = b10 + 1 ∧ Below b4 Y W) (fun x j => doneL [0, 0, 0, 0, 0, 0, 0, 0, 0, 0, 0, 0, 1] x.1 j) (effL [0, 0, 0, 0, 0, 0, 0, 0, 0, 0, 0, 0, 1]) (0, ()) (fun x => [.slice (some ⟨b8 + 1 + 1, 0, none⟩) len len, .slice A len cap, .int .i64 (len : Nat), .int .i64 ((len - 1 : Nat) : Int), .slice (some ⟨gb, 0, none⟩) len len, .slice A len cap, .int .i64 (len : Nat), .int .i64 ((len - 1 : Nat) : Int), .pointer (some ⟨gb, (len - 1) * 2, none⟩), .pointer (some ⟨gb, (len - 1) * 2, none⟩), .int .i64 (n0 : Nat), .pointer (some ⟨b8 + 1 + 1, len - 1, none⟩), undef]) _ (by kernel_rfl) (by kernel_rfl) (by kernel_rfl) (fun x => by simp only [putsD, Act.put, List.setIfInBounds_toArray, List.set_cons_zero, List.set_cons_succ]; exact rfl) h0L ⟨fun _ => ⟨hCo.own.drew, hCo.best.drew, hCo.o4.drew, hCo.o5.drew, hCo.o8.drew, hCo.o10.drew⟩, fun h => absurd h (by decide), hszY, Below.drew (Below.refl _ _)⟩ (fun x => ?_) (fun x wz hDz hSz => ?_)
  · refine AllS.val (by rfl) (by rfl) (fun w hSw hPw => ?_) ?_
    · (try dsimp only at hSw)
      have q0 := (hSw.1 (leTi (hPw.not (j := 12) rfl (by kernel_rfl)))).o10.cell (j := 0) rfl
      go_simp
    refine AllS.val (by rfl) (by rfl) (fun w hSw hPw => ?_) ?_
    · (try dsimp only at hSw)
      have q0 := (hSw.1 (leTi (hPw.not (j := 12) rfl (by kernel_rfl)))).o4.cell (j := 0) rfl
      go_simp
    refine AllS.val (by rfl) (by rfl) (fun w hSw hPw => by go_simp) ?_
    refine AllS.val (by rfl) (by rfl) (fun w hSw hPw => by go_simp) ?_
    refine AllS.val (by rfl) (by rfl) (fun w hSw hPw => ?_) ?_
    · (try dsimp only at hSw)
      have q0 := (hSw.1 (leTi (hPw.not (j := 12) rfl (by kernel_rfl)))).o8.cell (j := 0) rfl
      go_simp
    refine AllS.val (by rfl) (by rfl) (fun w hSw hPw => ?_) ?_
    · (try dsimp only at hSw)
      have q0 := (hSw.1 (leTi (hPw.not (j := 12) rfl (by kernel_rfl)))).o4.cell (j := 0) rfl
      go_simp
    refine AllS.val (by rfl) (by rfl) (fun w hSw hPw => by go_simp) ?_
    refine AllS.val (by rfl) (by rfl) (fun w hSw hPw => by go_simp) ?_
    refine AllS.val (by rfl) (by rfl) (fun w hSw hPw => by go_simp) ?_
    refine AllS.val (by rfl) (by rfl) (fun w hSw hPw => by go_simp) ?_
    refine AllS.val (by rfl) (by rfl) (fun w hSw hPw => ?_) ?_
    · (try dsimp only at hSw)
      have q0 := ((hSw.1 (leTi (hPw.not (j := 12) rfl (by kernel_rfl)))).best.cells HLS.out rfl).1
      go_simp
    refine AllS.val (by rfl) (by rfl) (fun w hSw hPw => by go_simp) ?_
    refine AllS.turn (fun _ _ => rfl) (by rfl) (fun w hSw hPw K hK => ?_) ?_
    · (try dsimp only at hSw)
      have h0 := leTi (hPw.me rfl)
      have hx0 : x.1 = 0 := by exact Nat.le_zero.1 h0
      obtain ⟨p, y⟩ := x
      (try dsimp only at hx0)
      subst hx0
      obtain ⟨hS0, _, hS2, hS3⟩ := hSw
      have hC := hS0 (Nat.le_refl _)
      have u0 := hC.own.cell (iv_at HREP.out)
      have v0 := hC.own.frozen (len - 1)
      have hset := hC.set HNE.out.1 HNE.out.2.1 HNE.out.2.2.1 HNE.out.2.2.2.1 HNE.out.2.2.2.2 (len - 1) ((n0 : Nat) : Int)
      have HSET := Lib.hid hset
      have HS2 := Lib.hid hS2
      have HS3 := Lib.hid (hS3.setCell (p := ⟨b8 + 1 + 1, len - 1, none⟩) (by have := HSZ.out; show b4 ≤ b8 + 1 + 1; omega) (.int .i64 (n0 : Nat)))
      clear hset hC hS0 hS2 hS3
      go_simp
      exact hK (1, y) _ (nxtL rfl (by decide)) ⟨fun h => absurd h (by simp), fun _ => HSET.out, by rw [World.size_setCell]; exact HS2.out, HS3.out⟩
    exact AllS.nil
  have hCo2 := hSz.2.1 (geTi (hDz 12 (by decide) (by decide)))
  obtain ⟨_, _, hszz, hbz⟩ := hSz
  have hbwz : Below w.heap.size w wz := by rw [HB4.out] at hbY ⊢; exact hbY.trans hbz
  have k4 := hCo2.o4.cell (j := 0) rfl
  clear hDz hCo hbY hszY hbz
  gi_wp2_with (refine ⟨trivial, ?_⟩; gi_at_call 18; refine (back_in Fence.wide _ trivial hro _ _ _ _).mono ?_; rintro e w' ⟨rfl, rfl⟩)
  have hs0 : (wz.alloc (.cells #[.slice A len cap] 22)).heap.size = b10 + 1 + 1 := by simp [hszz]
  have hCo3 := hCo2.below (W' := wz.alloc (.cells #[.slice A len cap] 22)) (by go_grown)
  have hcap0 : (wz.alloc (.cells #[.slice A len cap] 22)).cell? ⟨b10 + 1, 0, none⟩ = some (.slice A len cap) := (own_endT hszz 22 [.slice A len cap]).cell (j := 0) rfl
  have hB0 : Below w.heap.size w (wz.alloc (.cells #[.slice A len cap] 22)) := hbwz.alloc hbwz.size _
  have hc0 : (List.replicate len (-1 : Int)).set (len - 1) (n0 : Nat) = cvG l ts [] := by
    show _ = cv0 l ts
    unfold cv0
    rw [HL.out, tlN_of HLAST.out]
  rw [hc0] at hCo3
  obtain ⟨W0, hW0⟩ : ∃ W0, W0 = wz.alloc (.cells #[.slice A len cap] 22) := ⟨_, rfl⟩
  rw [← hW0] at hs0 hCo3 hcap0 hB0 ⊢
  have hs1 : b10 + 1 < W0.heap.size := by omega
  have hs2 : w.heap.size ≤ W0.heap.size := hB0.size
  have HW0 := Lib.hid hs0
  have HCS : Hid (∀ pre : List (Fin l.length), CvI l ts (cvG l ts pre)) := Lib.hid fun pre => cvG_inv HC.out (by rw [HL.out, HLAST.out]; intro h; cases h) pre
  clear hW0 hCo2 hbwz k4 hszz hc0 hs0 hi1 hi2 hi3 hi4 hBs
  refine wpIn_rangeFunc_ownH hro h1 (gf := 26) (lb := #[.pointer (some ⟨b10 + 1, 0, none⟩)]) rfl trivial (enters_of Try.func26 (by kernel_rfl) rfl)
    (back_stops Fence.wide _ trivial hro (by omega) (b10 + 1) w.heap.size len cap A l HL.out (by omega) W0 hs1 hs2 hcap0 (HX.out W0 hB0)) KpB.t (KpB.b hs2 hs1) (Below.refl _ _) (fun _ => rfl)
    (fun pre W => (CoI l ts A len cap E tn te gb (b8 + 1 + 1) b4 (b4 + 1) b8 b10 (cvG l ts pre) W) ∧ (Below w.heap.size w W ∧ W0.heap.size ≤ W.heap.size))
    (fun _ _ _ => False)
    (OwnFrom.and (_root_.Go.Own.from (fun s A B row hs hg hr => hs.kept hg hr) _) (OwnFrom.and (ownFrom_below (Nat.le_refl _) hs2) (fun _ _ _ _ h hg _ => Nat.le_trans h hg.size)))
    (fun _ _ _ _ _ hs _ _ => hs)
    ⟨hCo3, hB0, Nat.le_refl _⟩
    (fun x a' W => ∃ Bx, W0.heap.size ≤ Bx ∧ Own W Bx 39 [.int .i64 l[x.1].op, .int .i64 l[x.1].a, .int .i64 l[x.1].b, .int .i64 l[x.1].v] ∧
      a' = { tmps := #[.int .i64 vars, .slice A len cap, .slice E tn te, undef, .pointer (some ⟨b4, 0, none⟩), .pointer (some ⟨b4 + 1, 0, none⟩), .slice none 0 0, .int .i64 0, .pointer (some ⟨b8, 0, none⟩), .int .i64 0, .pointer (some ⟨b10, 0, none⟩), .int .i64 (x.1 : Int), .pointer (some ⟨Bx, 0, none⟩), undef, undef, .tuple #[.slice (some ⟨gb, 0, none⟩) len len, .int .i64 0], .int .i64 vars, .slice A len cap, .slice E tn te, .tuple #[.slice (some ⟨gb, 0, none⟩) len len, .int .i64 0], .slice (some ⟨gb, 0, none⟩) len len, .int .i64 0, .int .i64 0, .bool false, undef, .slice (some ⟨b8 + 1, 0, none⟩) 1 1, .slice A len cap, .int .i64 (len : Nat), .slice (some ⟨b8 + 1 + 1, 0, none⟩) len len, .slice (some ⟨b8 + 1 + 1, 0, none⟩) len len, .slice A len cap, .int .i64 (len : Nat), .int .i64 ((len - 1 : Nat) : Int), .slice (some ⟨gb, 0, none⟩) len len, .slice A len cap, .int .i64 (len : Nat), .int .i64 ((len - 1 : Nat) : Int), .pointer (some ⟨gb, (len - 1) * 2, none⟩), .pointer (some ⟨gb, (len - 1) * 2, none⟩), .int .i64 (n0 : Nat), .pointer (some ⟨b8 + 1 + 1, len - 1, none⟩), .slice A len cap, .func (.func 26) #[] #[.pointer (some ⟨b10 + 1, 0, none⟩)], .int .i64 (x.1 : Int), .agg #[.int .i64 l[x.1].op, .int .i64 l[x.1].a, .int .i64 l[x.1].b, .int .i64 l[x.1].v], undef, undef, undef, undef, undef, undef, undef, undef, undef, undef, undef, undef, undef, undef, undef, undef, undef, undef, undef, undef, undef, undef, undef, undef, undef, undef, undef, undef, undef, undef], defers := [] })
    (fun x a' => _root_.Go.Own.from (fun s A B row hs hg hr => by obtain ⟨Bx, h1, h2, h3⟩ := hs; exact ⟨Bx, h1, h2.kept hg hr, h3⟩) _)
    ?assign ?body ?done ?stop
  case assign =>
    rintro lb pre x W K ⟨i1, i3, i4⟩ hK
    simp only [encT]
    gi_wp2
    exact hK _ _ ((KeepsOthers.alloc _ _).from _) (KpB.alloc W i3.size (by omega) _) ⟨i1.below (by go_grown), i3.alloc i3.size _, by simp; omega⟩ ⟨W.heap.size, i4, Own.new _ _ _, rfl⟩
  case body =>
    rintro lb pre ⟨m, hm⟩ a' W hlb ⟨r, hr⟩ ⟨i1, i3, i4⟩ ⟨Bx, hBx, bX, rfl⟩ hlt
    simp only at bX ⊢
    have hml : m < len := by rw [← HL.out]; exact hm
    have hst := cvG_snoc l ts pre ⟨m, hm⟩
    have hinv := HCS.out pre
    obtain ⟨c, hc⟩ : ∃ c, cvG l ts pre = c := ⟨_, rfl⟩
    rw [hc] at hst hinv i1
    simp only at hst
    have hdm : l[m]? = some ⟨l[m].op, l[m].a, l[m].b, l[m].v⟩ := List.getElem?_eq_getElem hm
    generalize l[m].op = o at *
    generalize l[m].a = a at *
    generalize l[m].b = b at *
    generalize l[m].v = v at *
    obtain ⟨y, hy⟩ : ∃ y, c[m]? = some y := ⟨_, List.getElem?_eq_getElem (by rw [hinv.len]; exact hm)⟩
    have hcy := i1.own.cell (iv_at hy)
    have hcS := i1.o10.cell (j := 0) rfl
    have hyd : c.getD m (-1) = y := by rw [List.getD_eq_getElem?_getD, hy]; rfl
    have HI := Lib.hid i1
    have HBXO := Lib.hid bX
    have hl10 := i1.o10.lt
    have hlgc := i1.own.lt
    by_cases hy1 : y = -1
    · subst hy1
      have HST : Hid (cvG l ts (pre ++ [⟨m, hm⟩]) = c) := Lib.hid (by rw [hst]; unfold cvS; rw [if_pos hyd])
      clear hst hy hyd hc bX i1
      gi_wp2
      exact ⟨KeepsFrom.refl _ _, KpB.refl _ _ _, by rw [HST.out]; exact HI.out, i3, i4⟩
    · obtain ⟨n, x, hn, hchm⟩ := hinv.at_ HC.out hm (by rw [hyd]; exact hy1)
      have hyn : y = (n : Nat) := by rw [hy] at hn; injection hn
      subst hyn
      obtain ⟨hnt, htat, htm, _, _, hlvb⟩ := cho_some HC.out hchm
      have HST : Hid (cvG l ts (pre ++ [⟨m, hm⟩]) = putL l ts (lvB l ts m) c) := Lib.hid (by rw [hst]; unfold cvS; rw [if_neg (by rw [hyd]; exact hy1)])
      obtain ⟨ad2, to, tl, tr, tc, rfl, hbl2, hdt, ht0, ht1, ht2, ht3⟩ := RdTi.at_ (HT.out W i3) (k := n) hnt
      rw [htat] at hdt
      injection hdt with hdt
      rw [hdt, tmA_at hdm] at hlvb
      have HLV : Hid (∀ Z : World, Below W.heap.size W Z → Calls Try.prog 19 #[.slice A len cap, .agg #[.int .i64 o, .int .i64 a, .int .i64 b, .int .i64 v], .agg #[.int .i64 to, .int .i64 tl, .int .i64 tr, .int .i64 tc]] Z fun e w' => ∃ A' c', e = .returned (.slice A' (lvB l ts m).length c') ∧ LvOwn w' Z.heap.size A' c' (lvB l ts m) ∧ Below Z.heap.size Z w') :=
        Lib.hid fun Z hZ => by
          have hw := i3.trans (hZ.mono i3.size)
          have h := leavesOf_any A len cap l Z ((HX.out Z hw).more hw.size) HL.out HC.out m o a b v hdm to tl tr tc
          rw [hlvb]
          exact h
      have HLJ : Hid (∀ j ∈ lvB l ts m, j < len ∧ cho l ts j ≠ none) := Lib.hid fun j hj => ⟨by have := lvB_less HC.out hj; have := HL.out; omega, lvB_some HC.out hj⟩
      have hL4 : (lvB l ts m).length ≤ 4 := by rw [hlvb]; exact lvs_len _ _ _
      obtain ⟨L, hL⟩ : ∃ L, lvB l ts m = L := ⟨_, rfl⟩
      rw [hL] at HST HLV HLJ hL4
      have HTC : Hid (∀ Z : World, Below W.heap.size W Z → Z.cell? (ad2.add (n * 4)) = some (.int .i64 to) ∧ Z.cell? ⟨(ad2.add (n * 4)).block, (ad2.add (n * 4)).off + 1, none⟩ = some (.int .i64 tl) ∧ Z.cell? ⟨(ad2.add (n * 4)).block, (ad2.add (n * 4)).off + 2, none⟩ = some (.int .i64 tr) ∧ Z.cell? ⟨(ad2.add (n * 4)).block, (ad2.add (n * 4)).off + 3, none⟩ = some (.int .i64 tc)) :=
        Lib.hid fun Z hZ => by
          have hbW : (ad2.add (n * 4)).block < W.heap.size := Nat.lt_of_lt_of_le hbl2 i3.size
          exact ⟨(hZ.cell hbW).trans ht0, (hZ.cell (p := ⟨(ad2.add (n * 4)).block, (ad2.add (n * 4)).off + 1, none⟩) hbW).trans ht1, (hZ.cell (p := ⟨(ad2.add (n * 4)).block, (ad2.add (n * 4)).off + 2, none⟩) hbW).trans ht2, (hZ.cell (p := ⟨(ad2.add (n * 4)).block, (ad2.add (n * 4)).off + 3, none⟩) hbW).trans ht3⟩
      have HYN := Lib.hid hy
      have HINV := Lib.hid hinv
      have hnt2 : n < tn := by rw [← HTL.out]; exact hnt
      have hm1 : (((n : Nat) : Int) == -1) = false := by simp
      have HBXL := Lib.hid bX.lt
      clear hst hy hyd hc bX i1 hy1 hn hchm hnt htat htm hlvb hdt ht0 ht1 ht2 ht3 hL hdm hinv
      gi_wp2
      refine wp_region_stepsR (by kernel_rfl) (by rintro ⟨a, w, h⟩; exact h) (X := Nat × (Value)) (CvS W L) (fun x j => doneL [0, 0, 0, 0, 0, 0, 0, 0, 0, 1, 0, 0] x.1 j) (effL [0, 0, 0, 0, 0, 0, 0, 0, 0, 1, 0, 0]) (0, undef) (fun x => [.slice A len cap, .agg #[.int .i64 o, .int .i64 a, .int .i64 b, .int .i64 v], .slice (some ad2) tn te, .slice (some ⟨b8 + 1 + 1, 0, none⟩) len len, .int .i64 (m : Nat), .pointer (some ⟨b8 + 1 + 1, m, none⟩), .int .i64 (n : Nat), .pointer (some (ad2.add (n * 4))), .agg #[.int .i64 to, .int .i64 tl, .int .i64 tr, .int .i64 tc], x.2, .int .i64 (L.length : Nat), .int .i64 0]) _ (by kernel_rfl) (by kernel_rfl) (by kernel_rfl) (fun x => by simp only [putsD, Act.put, List.setIfInBounds_toArray, List.set_cons_zero, List.set_cons_succ]; exact rfl) h0L ⟨Below.drew (Below.refl _ _), trivial⟩ (fun x => ?_) (fun x wz hDz hSz => ?_)
      · refine AllS.val (by rfl) (by rfl) (fun w hSw hPw => ?_) ?_
        · (try dsimp only at hSw)
          have q0 := (HI.out.below hSw.1).o4.cell (j := 0) rfl
          go_simp
        refine AllS.val (by rfl) (by rfl) (fun w hSw hPw => ?_) ?_
        · (try dsimp only at hSw)
          have hq := HBXO.out.below hSw.1 HBXL.out
          have q0 := hq.cell (j := 0) rfl
          have q1 := hq.cell (j := 1) rfl
          have q2 := hq.cell (j := 2) rfl
          have q3 := hq.cell (j := 3) rfl
          go_simp
        refine AllS.val (by rfl) (by rfl) (fun w hSw hPw => ?_) ?_
        · (try dsimp only at hSw)
          have q0 := (HI.out.below hSw.1).o5.cell (j := 0) rfl
          go_simp
        refine AllS.val (by rfl) (by rfl) (fun w hSw hPw => ?_) ?_
        · (try dsimp only at hSw)
          have q0 := (HI.out.below hSw.1).o10.cell (j := 0) rfl
          go_simp
        refine AllS.val (by rfl) (by rfl) (fun w hSw hPw => by go_simp) ?_
        refine AllS.val (by rfl) (by rfl) (fun w hSw hPw => by go_simp) ?_
        refine AllS.val (by rfl) (by rfl) (fun w hSw hPw => ?_) ?_
        · (try dsimp only at hSw)
          have q0 := (HI.out.below hSw.1).own.cell (iv_at HYN.out)
          go_simp
        refine AllS.val (by rfl) (by rfl) (fun w hSw hPw => by go_simp) ?_
        refine AllS.val (by rfl) (by rfl) (fun w hSw hPw => ?_) ?_
        · (try dsimp only at hSw)
          obtain ⟨q0, q1, q2, q3⟩ := HTC.out w hSw.1
          go_simp
        refine AllS.turn (fun _ _ => rfl) (by rfl) (fun w hSw hPw K hK => ?_) ?_
        · (try dsimp only at hSw)
          have h0 := leTi (hPw.me rfl)
          have hx0 : x.1 = 0 := by exact Nat.le_zero.1 h0
          obtain ⟨p, y1⟩ := x
          (try dsimp only at hx0)
          subst hx0
          obtain ⟨hb, _⟩ := hSw
          go_simp
          go_at_call 19
          (with_reducible refine (HLV.out _ hb).mono ?_)
          rintro e w7 ⟨A', c', rfl, ho7, hb7⟩
          go_simp
          exact hK (1, .slice A' L.length c') _ (nxtL rfl (by decide)) ⟨below_via hb hb7, A', c', rfl, ho7.mono hb.size⟩
        refine AllS.val (by rfl) (by rfl) (fun w hSw hPw => ?_) ?_
        · (try dsimp only at hSw)
          have h1 := geTi (hPw.need (k := 9) rfl (by kernel_rfl))
          obtain ⟨p, y1⟩ := x
          obtain ⟨q, rfl⟩ : ∃ q, p = q + 1 := ⟨p - 1, by simp at h1; omega⟩
          obtain ⟨hb, A1, c1, hy, _⟩ := hSw
          (try dsimp only at hy)
          subst hy
          go_simp
        refine AllS.val (by rfl) (by rfl) (fun w hSw hPw => by go_simp) ?_
        exact AllS.nil
      have hd4 := geTi (hDz 9 (by decide) (by decide))
      obtain ⟨p, y1⟩ := x
      (try dsimp only at hd4)
      obtain ⟨q, rfl⟩ : ∃ q, p = q + 1 := ⟨p - 1, by simp at hd4; omega⟩
      obtain ⟨hbz, A1, c1, hy, hrow⟩ := hSz
      (try dsimp only at hy)
      subst hy
      have hcz := HI.out.below hbz
      have HKO := Lib.hid (keeps_belowC hbz)
      have hWsz : w.heap.size ≤ W.heap.size := i3.size
      have HKP : Hid (KpB w.heap.size (b10 + 1) W wz) := Lib.hid (kpB_belowC hbz hWsz (by omega))
      have HROW := Lib.hid hrow
      have hwz : Below w.heap.size w wz := i3.trans (hbz.mono hWsz)
      have hszz : W0.heap.size ≤ wz.heap.size := Nat.le_trans i4 hbz.size
      have HWZ := Lib.hid hbz.size
      clear hDz hd4 hrow hbz hcS hcy
      gi_wp2
      gi_loopw [61] (fun z wr => ∃ k : Nat, k ≤ L.length ∧ z = .int .i64 k ∧ CoI l ts A len cap (some ad2) tn te gb (b8 + 1 + 1) b4 (b4 + 1) b8 b10 (putL l ts (L.take k) c) wr ∧ LvOwn wr W.heap.size A1 c1 L ∧ W.heap.size ≤ wr.heap.size ∧ Below w.heap.size w wr ∧ W0.heap.size ≤ wr.heap.size ∧ KeepsOthers W wr ∧ KpB w.heap.size (b10 + 1) W wr) (fun z _ => L.length - (intOf z).toNat)
      case atStart => exact ⟨0, Nat.zero_le _, rfl, hcz, HROW.out, HWZ.out, hwz, hszz, HKO.out, HKP.out⟩
      case round =>
        obtain ⟨k, hk, rfl, hck, hrow, hwsz, hbw, hw0, hko, hkp⟩ := hrel
        clear hcz hwz hszz
        have HCK := Lib.hid hck
        have HRW := Lib.hid hrow
        by_cases hlt2 : k < L.length
        · obtain ⟨al, xj, rfl, hblj, hdj, hcj⟩ := hrow.rd.at_ (k := k) (by simpa [ni] using hlt2)
          obtain ⟨j, rfl, hj⟩ := ni_inv hdj
          obtain ⟨hjl, hjs⟩ := HLJ.out j (List.mem_of_getElem? hj)
          obtain ⟨c2, hc2⟩ : ∃ c', putL l ts (L.take k) c = c' := ⟨_, rfl⟩
          have hin2 : CvI l ts c2 := by
            rw [← hc2]
            exact HINV.out.put fun i hi => by have h := HLJ.out i (List.mem_of_mem_take hi); exact ⟨by have := HL.out; omega, h.2⟩
          rw [hc2] at hck HCK
          obtain ⟨y2, hy2⟩ : ∃ y, c2[j]? = some y := ⟨_, List.getElem?_eq_getElem (by rw [hin2.len, HL.out]; exact hjl)⟩
          cases hcho : cho l ts j with
          | none => exact absurd hcho hjs
          | some p7 =>
            obtain ⟨n7, x7⟩ := p7
            have HNX : Hid (putL l ts (L.take (k + 1)) c = c2.set j (n7 : Nat)) := Lib.hid (by rw [List.take_add_one, hj, Option.toList_some, putL_snoc, hc2, tlN_of hcho])
            have hbj : ((List.range len).map (cho l ts))[j]? = some (some (n7, x7)) := by rw [List.getElem?_map, List.getElem?_range hjl, ← hcho]; rfl
            have HBJ := Lib.hid hbj
            have HY2 := Lib.hid hy2
            have hwl : b10 + 1 < wr.heap.size := by omega
            have hcd : CoI l ts A len cap (some ad2) tn te gb (b8 + 1 + 1) b4 (b4 + 1) b8 b10 c2 wr.drew := ⟨hck.own.drew, hck.best.drew, hck.o4.drew, hck.o5.drew, hck.o8.drew, hck.o10.drew⟩
            have HCD := Lib.hid hcd
            have HBW := Lib.hid hbw
            have HKO2 := Lib.hid hko
            have HKP2 := Lib.hid hkp
            clear hdj hj hc2 hin2 hcho hbj hy2 hck hcd hrow hbw hko hkp hjs
            gi_wp2
            refine wp_region_stepsR (by kernel_rfl) (by rintro ⟨a, w, h⟩; exact h) (X := Nat × (Unit)) (fun x w' => (x.1 ≤ 0 → w' = wr.drew) ∧ (1 ≤ x.1 → w' = wr.drew.setCell ⟨b8 + 1 + 1, j, none⟩ (.int .i64 (n7 : Nat)))) (fun x j => doneL [0, 0, 0, 0, 0, 0, 0, 0, 1] x.1 j) (effL [0, 0, 0, 0, 0, 0, 0, 0, 1]) (0, ()) (fun x => [.slice (some ⟨b8 + 1 + 1, 0, none⟩) len len, .int .i64 (j : Nat), .slice (some ⟨gb, 0, none⟩) len len, .int .i64 (j : Nat), .pointer (some ⟨gb, j * 2, none⟩), .pointer (some ⟨gb, j * 2, none⟩), .int .i64 (n7 : Nat), .pointer (some ⟨b8 + 1 + 1, j, none⟩), undef]) _ (by kernel_rfl) (by kernel_rfl) (by kernel_rfl) (fun x => by simp only [putsD, Act.put, List.setIfInBounds_toArray, List.set_cons_zero, List.set_cons_succ]; exact rfl) h0L ⟨fun _ => rfl, fun h => absurd h (by decide)⟩ (fun x => ?_) (fun x wz hDz hSz => ?_)
            · refine AllS.val (by rfl) (by rfl) (fun w hSw hPw => ?_) ?_
              · (try dsimp only at hSw)
                have hq := hSw.1 (leTi (hPw.not (j := 8) rfl (by kernel_rfl)))
                subst hq
                have q0 := HCD.out.o10.cell (j := 0) rfl
                go_simp
              refine AllS.val (by rfl) (by rfl) (fun w hSw hPw => by go_simp) ?_
              refine AllS.val (by rfl) (by rfl) (fun w hSw hPw => ?_) ?_
              · (try dsimp only at hSw)
                have hq := hSw.1 (leTi (hPw.not (j := 8) rfl (by kernel_rfl)))
                subst hq
                have q0 := HCD.out.o8.cell (j := 0) rfl
                go_simp
              refine AllS.val (by rfl) (by rfl) (fun w hSw hPw => by go_simp) ?_
              refine AllS.val (by rfl) (by rfl) (fun w hSw hPw => by go_simp) ?_
              refine AllS.val (by rfl) (by rfl) (fun w hSw hPw => by go_simp) ?_
              refine AllS.val (by rfl) (by rfl) (fun w hSw hPw => ?_) ?_
              · (try dsimp only at hSw)
                have hq := hSw.1 (leTi (hPw.not (j := 8) rfl (by kernel_rfl)))
                subst hq
                have q0 := (HCD.out.best.cells HBJ.out rfl).1
                go_simp
              refine AllS.val (by rfl) (by rfl) (fun w hSw hPw => by go_simp) ?_
              refine AllS.turn (fun _ _ => rfl) (by rfl) (fun w hSw hPw K hK => ?_) ?_
              · (try dsimp only at hSw)
                have h0 := leTi (hPw.me rfl)
                have hx0 : x.1 = 0 := by exact Nat.le_zero.1 h0
                have hq := hSw.1 h0
                subst hq
                obtain ⟨p, y⟩ := x
                (try dsimp only at hx0)
                subst hx0
                have u0 := HCD.out.own.cell (iv_at HY2.out)
                have v0 := HCD.out.own.frozen j
                go_simp
                exact hK (1, y) _ (nxtL rfl (by decide)) ⟨fun h => absurd h (by simp), fun _ => rfl⟩
              exact AllS.nil
            have hwz2 := hSz.2 (geTi (hDz 8 (by decide) (by decide)))
            subst hwz2
            have hsq := HSZ.out
            have HSET := Lib.hid (HCD.out.set HNE.out.1 HNE.out.2.1 HNE.out.2.2.1 HNE.out.2.2.2.1 HNE.out.2.2.2.2 j ((n7 : Nat) : Int))
            have HROW3 : Hid (LvOwn (wr.drew.setCell ⟨b8 + 1 + 1, j, none⟩ (.int .i64 (n7 : Nat))) W.heap.size (some al) c1 L) := Lib.hid (own_farW (p := ⟨b8 + 1 + 1, j, none⟩) (HRW.out.below (Below.drew (Below.refl _ _))) (by show b8 + 1 + 1 < W.heap.size; omega) _)
            clear hSz hDz
            gi_wp2
            go_roundw
            case rel =>
              refine ⟨k + 1, by omega, by go_num, by rw [HNX.out]; exact HSET.out, HROW3.out, by simpa using hwsz, (Below.drew HBW.out).setCell (p := ⟨b8 + 1 + 1, j, none⟩) (by have := HB4.out; show w.heap.size ≤ b8 + 1 + 1; omega) _, by simpa using hw0, (HKO2.out.trans (KeepsOthers.drew _)).trans (KeepsOthers.setCell _ _ _), (KpB.drew HKP2.out).t (KpB.setCell _ (p := ⟨b8 + 1 + 1, j, none⟩) (by have := HB4.out; show w.heap.size ≤ b8 + 1 + 1; omega) (by show b10 + 1 ≠ b8 + 1 + 1; omega) _)⟩
            case measure => (simp [intOf]; omega)
        · have hkL : k = L.length := by omega
          have HFIN : Hid (putL l ts (L.take k) c = cvG l ts (pre ++ [⟨m, hm⟩])) := Lib.hid (by rw [HST.out, hkL, List.take_length])
          rw [HFIN.out] at HCK
          have HBW := Lib.hid hbw
          have HKO2 := Lib.hid hko
          have HKP2 := Lib.hid hkp
          clear hck hrow hbw hko hkp
          gi_wp2
          exact ⟨HKO2.out.from _, HKP2.out, HCK.out, HBW.out, hw0⟩
  case done =>
    rintro D ys W hD rfl ⟨i1, i3, i4⟩ hK
    rw [cvG_all] at i1
    have hcS := i1.o10.cell (j := 0) rfl
    have HI := Lib.hid i1
    have hsz := HSZ.out
    have hne : b8 + 1 + 1 ≠ D := by have := HW0.out; omega
    clear i1
    gi_wp2
    refine ⟨by simp, .inl ⟨_, _, rfl, run_takeDeferred hK, ?_⟩⟩
    exact ⟨_, results_tmp2 rfl _ _ _, b8 + 1 + 1, rfl, by have := HB4.out; omega, (World.putObj_heap_other hne).trans HI.out.own, i3.trans (belowK_b (w := w) (Nat.le_refl _) W D _ _ (by omega) hK rfl rfl)⟩
  case stop =>
    rintro D c pre W _ _ h _
    exact h.elim

set_option maxHeartbeats 1000000 in
theorem cover_no {vars : Int} (A : Option Addr) (len cap : Nat) (l : List Tm) (w : World) (hx : RdT w w.heap.size A l) (hl : l.length = len) (E : Option Addr) (tn te : Nat) (ts : List Ti) (ht : RdTi w w.heap.size E ts) (htl : ts.length = tn) (hck : ckTl vars l ts ≠ 0) :
    Calls Try.prog 10 #[.int .i64 vars, .slice A len cap, .slice E tn te] w fun e w' => e = .returned (.tuple #[.slice none 0 0, .int .i64 (ckTl vars l ts)]) ∧ Below w.heap.size w w' := by
  have HC : Hid (∀ W : World, Below w.heap.size w W → Calls Try.prog 15 #[.int .i64 vars, .slice A len cap, .slice E tn te] W fun e w' => e = .returned (.tuple #[.slice none 0 0, .int .i64 (ckTl vars l ts)]) ∧ Below W.heap.size W w') :=
    Lib.hid fun W hW => choices_no A len cap l W ((hx.below hW (Nat.le_refl _)).more hW.size) hl E tn te ts ((ht.below hW (Nat.le_refl _)).more hW.size) htl hck
  have hne : (ckTl vars l ts != 0) = true := by simp [hck]
  have HB0 : Below w.heap.size w ((w.alloc (.cells #[.slice A len cap] 22)).alloc (.cells #[.slice E tn te] 23)) := by go_grown
  clear hx hl ht htl hck
  go_enter Try.func10, Try.ntmps10
  go_wp2_with fail
  refine (HC.out _ HB0).mono ?_
  rintro e w1 ⟨rfl, hb1⟩
  have hbw : Below w.heap.size w w1 := HB0.trans (hb1.mono HB0.size)
  have hs := hbw.size
  go_wp2
  go_ret2
  exact ⟨rfl, hbw.alloc hs _⟩

end Go.Proofs.Yteogdcjigigeeaa
