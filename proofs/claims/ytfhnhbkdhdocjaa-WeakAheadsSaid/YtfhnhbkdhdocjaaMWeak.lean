/-
  Several texts in one: WeakAt, WeakRes, WeakProg, WeakAhead, WeakHolds, WeakTerm.
-/
import Derived.Test.YtfhnhbkdhdocjaaPureWeak
import Derived.Test.YtfhnhbkdhdocjaaMapFun
import Derived.Test.YtfhnhbkdhdocjaaTermKey
import Derived.Test.YtfhnhbkdhdocjaaMReg
import Derived.Test.YtfhnhbkdhdocjaaMBase
import Derived.Deep.Cut
import Derived.BigQuiet
import Derived.Test.YtfhnhbkdhdocjaaLiveStep
import Derived.Test.YtfhnhbkdhdocjaaMTerm
import Derived.Test.YtfhnhbkdhdocjaaBlockRef
import Derived.Test.YtfhnhbkdhdocjaaMBlock
import Derived.Test.YtfhnhbkdhdocjaaPrunePure
import Derived.Test.YtfhnhbkdhdocjaaUses
import Derived.Test.YtfhnhbkdhdocjaaLive
import Derived.Test.YtfhnhbkdhdocjaaTermValue
import Derived.Test.YtfhnhbkdhdocjaaTermVal

/-
  Package weak (S1): its list of terms as it lies in memory; (*list).place.
-/

namespace Go.Proofs.Ytfhnhbkdhdocjaa
open Go.RowKit
set_option linter.unusedSimpArgs false
set_option linter.unusedVariables false
set_option maxRecDepth 100000

theorem leW {L : List Nat} {p j : Nat} (h : doneL L p j = false) : p ≤ L.getD j 0 - 1 := by
  unfold doneL at h
  simp only [decide_eq_false_iff_not] at h
  omega

theorem geW {L : List Nat} {p j : Nat} (h : doneL L p j = true) : L.getD j 0 ≤ p := by
  unfold doneL at h
  simpa using h

theorem termw_app : AppTy Try.prog 50 56 4 32 :=
  appTy_of (z := .agg #[.int .i64 0, .int .i64 0, .int .i64 0, .int .i64 0]) Try.underlying50 (by kernel_rfl) rfl (by omega)

/-! ### what may have changed -/

/-- blocks g, m and o are others, all else is as it was; o' is o, or new -/
structure Kpt (g m : Nat) (o o' : Option Nat) (X X' : World) : Prop where
  os : X'.os = X.os
  tape : X'.tape = X.tape
  output : X'.output = X.output
  size : X.heap.size ≤ X'.heap.size
  block : ∀ i, i < X.heap.size → i ≠ g → i ≠ m → o ≠ some i → X'.heap[i]? = X.heap[i]?
  own : o' = o ∨ ∃ b, o' = some b ∧ X.heap.size ≤ b

section
variable {g m : Nat} {o o' o'' : Option Nat} {X X' X'' : World}

theorem Kpt.of_below (o : Option Nat) (hb : Below X.heap.size X X') : Kpt g m o o X X' := ⟨hb.os, hb.tape, hb.output, hb.size, fun i hi _ _ _ => hb.block i hi, .inl rfl⟩

theorem Kpt.trans (h : Kpt g m o o' X X') (h2 : Kpt g m o' o'' X' X'') : Kpt g m o o'' X X'' := by
  refine ⟨h2.os.trans h.os, h2.tape.trans h.tape, h2.output.trans h.output, Nat.le_trans h.size h2.size, fun i hi hg hm ho => ?_, ?_⟩
  · refine (h2.block i (Nat.lt_of_lt_of_le hi h.size) hg hm ?_).trans (h.block i hi hg hm ho)
    rcases h.own with e | ⟨b, e, hb⟩
    · rw [e]; exact ho
    · rw [e]; intro e2; injection e2 with e2; omega
  · rcases h2.own with e | ⟨b, e, hb⟩
    · rw [e]; exact h.own
    · exact .inr ⟨b, e, Nat.le_trans h.size hb⟩

theorem Kpt.below {B : Nat} (h : Kpt g m o o' X X') (hg : B ≤ g) (hm : B ≤ m) (ho : ∀ b, o = some b → B ≤ b) (hB : B ≤ X.heap.size) : Below B X X' :=
  ⟨h.os, h.tape, h.output, h.size, fun i hi => h.block i (by omega) (by omega) (by omega) fun e => by have := ho i e; omega⟩

theorem Kpt.other (h : Kpt g m o o' X X') {b : Nat} (hb : b < X.heap.size) (hg : b ≠ g) (hm : b ≠ m) (ho : o ≠ some b) : X'.heap[b]? = X.heap[b]? ∧ o' ≠ some b := by
  refine ⟨h.block b hb hg hm ho, ?_⟩
  rcases h.own with e | ⟨c, e, hc⟩
  · rw [e]; exact ho
  · rw [e]; intro e2; injection e2 with e2; omega

theorem Kpt.own_ (h : Kpt g m o o' X X') {b : Nat} {t : TypeId} {cs : List Value} (hw : Own X b t cs) (hg : b ≠ g) (hm : b ≠ m) (ho : o ≠ some b) : Own X' b t cs := (h.other hw.lt hg hm ho).1.trans hw

theorem Kpt.row (h : Kpt g m o o' X X') {base size n : Nat} {e : TypeId} {v : Value} {xs : List Value} (hr : X.ownsRow base e size v n xs) (hne : ∀ b, v.ownBlock = some b → b ≠ g ∧ b ≠ m ∧ o ≠ some b) : X'.ownsRow base e size v n xs := by
  have hlt := hr.lt
  refine ⟨hr.1, ?_⟩
  rcases hr.2 with h' | ⟨b, cap, cur, rfl, h2, h3, h4⟩
  · exact .inl h'
  · obtain ⟨q1, q2, q3⟩ := hne b rfl
    exact .inr ⟨b, cap, cur, rfl, h2, (h.block b (hlt b rfl).2 q1 q2 q3).trans h3, h4⟩

theorem Kpt.apart (h : Kpt g m o o' X X') {base size n : Nat} {e : TypeId} {v : Value} {xs : List Value} (hr : X.ownsRow base e size v n xs) (hne : ∀ b, v.ownBlock = some b → o ≠ some b) : ∀ b, v.ownBlock = some b → o' ≠ some b := fun b hb => by
  have hlt := (hr.lt b hb).2
  rcases h.own with e | ⟨c, e, hc⟩
  · rw [e]; exact hne b hb
  · rw [e]; intro e2; injection e2 with e2; omega

end

/-! ### the list -/

/-- the list of terms: its box g, its map m, its terms from 'base' on -/
structure LsAt (base g m : Nat) (T : List Tm) (A : Option Addr) (c : Nat) (X : World) : Prop where
  box : Own X g 108 [.slice A T.length c, .map (some m)]
  row : X.ownsRow base 56 4 (.slice A T.length c) T.length (tv T)
  mp : ∃ f, OwnF Try.prog 56 X m f ∧ (∀ (i : Nat) (t : Tm), T[i]? = some t → f (tmV t) = some (.int .i64 (i : Int))) ∧ ∀ t, t ∉ T → f (tmV t) = none
  gb : g < base
  mb : m < base
  ne : g ≠ m

theorem LsAt.quiet {base g m c : Nat} {T : List Tm} {A : Option Addr} {X X' : World} (h : LsAt base g m T A c X) (hb : Below X.heap.size X X') : LsAt base g m T A c X' := by
  obtain ⟨f, h1, h2, h3⟩ := h.mp
  exact ⟨h.box.below hb h.box.lt, own_below h.row hb, ⟨f, h1.below hb h1.lt, h2, h3⟩, h.gb, h.mb, h.ne⟩

theorem LsAt.set {base g m c : Nat} {T : List Tm} {A : Option Addr} {X : World} (h : LsAt base g m T A c X) {p : Addr} (hg : g ≠ p.block) (hm : m ≠ p.block) (ho : (Value.slice A T.length c).ownBlock ≠ some p.block) (u : Value) : LsAt base g m T A c (X.setCell p u) := by
  obtain ⟨f, h1, h2, h3⟩ := h.mp
  refine ⟨h.box.far hg u, ?_, ⟨f, h1.keep (Below.heap_setCell X p u m hm), h2, h3⟩, h.gb, h.mb, h.ne⟩
  refine ⟨h.row.1, ?_⟩
  rcases h.row.2 with h' | ⟨b, cap, cur, hv, k2, k3, k4⟩
  · exact .inl h'
  · refine .inr ⟨b, cap, cur, hv, k2, (Below.heap_setCell X p u b ?_).trans k3, k4⟩
    intro e
    rw [hv] at ho
    exact ho (by rw [← e]; rfl)

/-- what a call that places a term answers -/
def PlTo (base g m : Nat) (T : List Tm) (A : Option Addr) (c : Nat) (P : List Tm → Nat → Prop) (X : World) (e : Ending) (X' : World) : Prop :=
  ∃ (T' : List Tm) (r : Nat) (A' : Option Addr) (c' : Nat), e = .returned (.int .i64 (r : Int)) ∧ P T' r ∧ LsAt base g m T' A' c' X' ∧ Kpt g m (Value.slice A T.length c).ownBlock (Value.slice A' T'.length c').ownBlock X X'

theorem below_drewW {B n : Nat} {w Y : World} (h : Below B w Y) : Below B w (Y.drewN n) := ⟨h.os, h.tape, h.output, h.size, h.block⟩

/-! ### a lookup, a store into a map, as one operation -/

section
variable {P : Program} {k : TypeId} {w : World} {o : Oper} {a : Act} {K : Act → World → Prop} {E : Exit → Act → World → Prop}

theorem quiet_hit {C : World → Prop} {K : Act → Prop} (m x : Operand) (t : TypeId) (hop : o.op = Op.lookup t m x true) {e : TypeId} (KD : Maps.Keyed P k) (ht : P.underlying t = some (.map k e)) {b : Nat} {f : Value → Option Value} (hm : a.eval m = .map (some b)) (h : ∀ w, C w → OwnF P k w b f) {key z v : Value} (hz : ∀ w, (zeroValue e).run P w = .ok z w) (hx : a.eval x = key) (hk : KeyV P k key) (hf : f key = some v)
    (hK : K (a.put o.dst (.tuple #[v, .bool true]))) : o.quiet P a C K :=
  ⟨_, fun w hw => by
    unfold Oper.quietAt
    simp only [execOp, hop, hm, hx, Sem.run_bind, run_look_fun KD ht (h w hw) (hz w) hk, hf, Sem.run_pure, Result.andThen]
    exact ⟨rfl, rfl⟩, hK⟩

theorem quiet_miss {C : World → Prop} {K : Act → Prop} (m x : Operand) (t : TypeId) (hop : o.op = Op.lookup t m x true) {e : TypeId} (KD : Maps.Keyed P k) (ht : P.underlying t = some (.map k e)) {b : Nat} {f : Value → Option Value} (hm : a.eval m = .map (some b)) (h : ∀ w, C w → OwnF P k w b f) {key z : Value} (hz : ∀ w, (zeroValue e).run P w = .ok z w) (hx : a.eval x = key) (hk : KeyV P k key) (hf : f key = none)
    (hK : K (a.put o.dst (.tuple #[z, .bool false]))) : o.quiet P a C K :=
  ⟨_, fun w hw => by
    unfold Oper.quietAt
    simp only [execOp, hop, hm, hx, Sem.run_bind, run_look_fun KD ht (h w hw) (hz w) hk, hf, Sem.run_pure, Result.andThen]
    exact ⟨rfl, rfl⟩, hK⟩

theorem oper_put (m x v : Operand) (t : TypeId) (hop : o.op = Op.mapUpdate t m x v) {e : TypeId} (KD : Maps.Keyed P k) (ht : P.underlying t = some (.map k e)) {b : Nat} {f f' : Value → Option Value} (hm : a.eval m = .map (some b)) (h : OwnF P k w b f) {key val : Value} (hx : a.eval x = key) (hvv : a.eval v = val) (hk : KeyV P k key) (h1 : f' key = some val) (h2 : ∀ x, x ≠ key → f' x = f x)
    (hK : ∀ w', OwnF P k w' b f' → Turned b w w' → K (a.put o.dst undef) w') : Oper.wp P o a w K E := by
  obtain ⟨w', hrun, r1, r2⟩ := run_put_fun (P := P) KD ht h hk h1 h2
  unfold Oper.wp
  simp [execOp, hop, hm, hx, hvv, hrun, Result.andThen]
  exact hK w' r1 r2

end

/-- a term appended: the terms' slice behind it -/
structure ApT (base n : Nat) (A : Option Addr) (c : Nat) (xs ys : List Value) (Y : World) (A' : Option Addr) (c' : Nat) (Z : World) : Prop where
  row : Z.ownsRow base 56 4 (.slice A' (n + 1) c') (n + 1) (xs ++ ys)
  kp : ∀ i, i < Y.heap.size → (Value.slice A n c).ownBlock ≠ some i → Z.heap[i]? = Y.heap[i]?
  size : Y.heap.size ≤ Z.heap.size
  os : Z.os = Y.os
  tape : Z.tape = Y.tape
  output : Z.output = Y.output
  own : (Value.slice A' (n + 1) c').ownBlock = (Value.slice A n c).ownBlock ∨ ∃ b, (Value.slice A' (n + 1) c').ownBlock = some b ∧ Y.heap.size ≤ b

set_option maxHeartbeats 8000000 in
theorem place_any (base g m : Nat) (T : List Tm) (A : Option Addr) (c : Nat) (o a b v : Int) (X : World) (hl : LsAt base g m T A c X) (hT : T.length ≤ 100) (hk : KeyV Try.prog 56 (tmV ⟨o, a, b, v⟩)) (hs : base ≤ X.heap.size) :
    Calls Try.prog 92 #[.pointer (some ⟨g, 0, none⟩), .agg #[.int .i64 o, .int .i64 a, .int .i64 b, .int .i64 v]] X fun e X' => PlTo base g m T A c (Plc T ⟨o, a, b, v⟩) X e X' := by
  obtain ⟨f, hf1, hf2, hf3⟩ := hl.mp
  obtain ⟨tl, htl⟩ : ∃ tl, T.length = tl := ⟨_, rfl⟩
  have HTL := Lib.hid htl
  have hlbox := hl.box
  have hlrow := hl.row
  have hgb := hl.gb
  have hmb := hl.mb
  have HNE := Lib.hid hl.ne
  rw [htl] at hlbox hlrow hT
  have HBX := Lib.hid hlbox
  have HRW := Lib.hid hlrow
  have HF1 := Lib.hid hf1
  have HK := Lib.hid hk
  have HX0 : Hid (Own (X.alloc (.cells #[.int .i64 o, .int .i64 a, .int .i64 b, .int .i64 v] 56)) X.heap.size 56 [.int .i64 o, .int .i64 a, .int .i64 b, .int .i64 v]) := Lib.hid (Own.new X _ _)
  have HB0 : Hid (Below X.heap.size X (X.alloc (.cells #[.int .i64 o, .int .i64 a, .int .i64 b, .int .i64 v] 56))) := Lib.hid (by go_grown)
  by_cases hin : (⟨o, a, b, v⟩ : Tm) ∈ T
  · obtain ⟨i, hi⟩ := List.getElem?_of_mem hin
    have HI := Lib.hid hi
    have HFI := Lib.hid (hf2 i _ hi)
    have HLS := Lib.hid hl
    clear hi hin hf1 hf2 hf3 hk hlbox hlrow hl htl
    go_enter Try.func92, Try.ntmps92
    go_upto_region 1 with fail
    obtain ⟨Y, hY⟩ : ∃ Y, Y = X.alloc (.cells #[.int .i64 o, .int .i64 a, .int .i64 b, .int .i64 v] 56) := ⟨_, rfl⟩
    rw [← hY] at HX0 HB0 ⊢
    clear hY
    obtain ⟨n0, hn0⟩ : ∃ n0, X.heap.size = n0 := ⟨_, rfl⟩
    have HN := Lib.hid hn0
    rw [hn0] at HX0
    simp only [hn0]
    clear hn0
    have c1 := (HBX.out.below HB0.out HBX.out.lt).cell (j := 1) rfl
    have c0 := HX0.out.cell (j := 0) rfl
    have c1' := HX0.out.cell (j := 1) rfl
    have c2 := HX0.out.cell (j := 2) rfl
    have c3 := HX0.out.cell (j := 3) rfl
    have hgY : g < Y.heap.size := (HBX.out.below HB0.out HBX.out.lt).lt
    have hnY : n0 < Y.heap.size := HX0.out.lt
    have hmY : m < Y.heap.size := (HF1.out.below HB0.out HF1.out.lt).lt
    have HFY := Lib.hid (HF1.out.below HB0.out HF1.out.lt)
    refine wp_region_quiet_lit (by kernel_rfl) (by kernel_rfl) ?_
    iterate 5 (go_big_quiet_step (fail))
    go_big_quiet_want
    refine quiet_hit (.tmp 12) (.tmp 13) 106 rfl term_keyed Try.underlying106 rfl (fun w hw => by obtain ⟨n, rfl⟩ := hw; exact HFY.out) zero_int rfl HK.out HFI.out ?_
    simp only [Act.put, List.setIfInBounds_toArray, List.set_cons_zero, List.set_cons_succ]
    go_big_quiet_on
    iterate 5 (go_big_quiet_step (fail))
    refine wpQuiet_nil ?_
    intro _ hw'
    obtain ⟨nq, hw''⟩ := hw'
    subst hw''
    have hSz : Below Y.heap.size Y (Y.drewN nq) := below_drewW (Below.refl _ _)
    obtain ⟨wz, hwz⟩ : ∃ Z, Z = Y.drewN nq := ⟨_, rfl⟩
    rw [← hwz] at hSz ⊢
    clear hwz
    have HBW := Lib.hid (HB0.out.trans (hSz.mono HB0.out.size))
    clear hSz c1 c0 c1' c2 c3 hgY hnY hmY HFY HX0 HB0
    go_wp2
    go_ret
    exact ⟨T, i, A, c, rfl, ⟨HI.out, .inl rfl⟩, HLS.out.quiet HBW.out, Kpt.of_below _ HBW.out⟩
  · have HIN := Lib.hid hin
    have HFI := Lib.hid (hf3 _ hin)
    obtain ⟨f', hf'1, hf'2⟩ : ∃ f' : Value → Option Value, f' (tmV ⟨o, a, b, v⟩) = some (.int .i64 (tl : Int)) ∧ ∀ x, x ≠ tmV ⟨o, a, b, v⟩ → f' x = f x := ⟨fun x => @ite _ (x = tmV ⟨o, a, b, v⟩) (Classical.propDecidable _) (some (.int .i64 (tl : Int))) (f x), by simp, fun x hx => by simp [hx]⟩
    have HG1 := Lib.hid hf'1
    have HG2 := Lib.hid hf'2
    have HA1 := Lib.hid hf2
    have HA2 := Lib.hid hf3
    clear hin hf1 hf2 hf3 hk hlbox hlrow hl htl hf'1 hf'2
    go_enter Try.func92, Try.ntmps92
    go_upto_region 1 with fail
    obtain ⟨Y, hY⟩ : ∃ Y, Y = X.alloc (.cells #[.int .i64 o, .int .i64 a, .int .i64 b, .int .i64 v] 56) := ⟨_, rfl⟩
    rw [← hY] at HX0 HB0 ⊢
    clear hY
    obtain ⟨n0, hn0⟩ : ∃ n0, X.heap.size = n0 := ⟨_, rfl⟩
    have HN := Lib.hid hn0
    rw [hn0] at HX0
    simp only [hn0]
    have hsn : base ≤ n0 := by omega
    clear hn0
    have HBXY := Lib.hid (HBX.out.below HB0.out HBX.out.lt)
    have c1 := HBXY.out.cell (j := 1) rfl
    have c0 := HX0.out.cell (j := 0) rfl
    have c1' := HX0.out.cell (j := 1) rfl
    have c2 := HX0.out.cell (j := 2) rfl
    have c3 := HX0.out.cell (j := 3) rfl
    have hgY : g < Y.heap.size := HBXY.out.lt
    have hnY : n0 < Y.heap.size := HX0.out.lt
    have hmY : m < Y.heap.size := (HF1.out.below HB0.out HF1.out.lt).lt
    have HFY := Lib.hid (HF1.out.below HB0.out HF1.out.lt)
    refine wp_region_quiet_lit (by kernel_rfl) (by kernel_rfl) ?_
    iterate 5 (go_big_quiet_step (fail))
    go_big_quiet_want
    refine quiet_miss (.tmp 12) (.tmp 13) 106 rfl term_keyed Try.underlying106 rfl (fun w hw => by obtain ⟨n, rfl⟩ := hw; exact HFY.out) zero_int rfl HK.out HFI.out ?_
    simp only [Act.put, List.setIfInBounds_toArray, List.set_cons_zero, List.set_cons_succ]
    go_big_quiet_on
    iterate 5 (go_big_quiet_step (fail))
    refine wpQuiet_nil ?_
    intro _ hw'
    obtain ⟨nq, hw''⟩ := hw'
    subst hw''
    have hSz : Below Y.heap.size Y (Y.drewN nq) := below_drewW (Below.refl _ _)
    obtain ⟨wz, hwz⟩ : ∃ Z, Z = Y.drewN nq := ⟨_, rfl⟩
    rw [← hwz] at hSz ⊢
    clear hwz
    have HB1 := Lib.hid (HB0.out.trans (hSz.mono HB0.out.size))
    have HBX1 := Lib.hid (HBXY.out.below hSz hgY)
    have HT1 := Lib.hid (HX0.out.below hSz hnY)
    have HF2 := Lib.hid (HFY.out.below hSz hmY)
    clear hSz c1 c0 c1' c2 c3 hgY hnY hmY HFY HX0 HBXY HB0
    obtain ⟨Y1, rfl⟩ : ∃ Z : World, Z = wz := ⟨_, rfl⟩
    have d0 := HBX1.out.cell (j := 0) rfl
    have hg1 := HBX1.out.lt
    go_upto_region 5 with fail
    have d1 := HBX1.out.cell (j := 1) rfl
    have c0 := HT1.out.cell (j := 0) rfl
    have c1 := HT1.out.cell (j := 1) rfl
    have c2 := HT1.out.cell (j := 2) rfl
    have c3 := HT1.out.cell (j := 3) rfl
    have hn1 := HT1.out.lt
    have hm1 := HF2.out.lt
    refine wp_region_steps (X := Nat × (Unit)) (fun x w' => (x.1 ≤ 0 → Below Y1.heap.size Y1 w') ∧ (1 ≤ x.1 → ∃ w5, Below Y1.heap.size Y1 w5 ∧ OwnF Try.prog 56 w' m f' ∧ Turned m w5 w')) (fun x j => doneL [0, 0, 0, 0, 0, 0, 1] x.1 j) (effL [0, 0, 0, 0, 0, 0, 1]) (0, ()) (fun x => [.pointer (some ⟨g, 0, none⟩), .pointer (some ⟨g, 0, none⟩), .pointer (some ⟨g, 1, none⟩), .map (some m), .agg #[.int .i64 o, .int .i64 a, .int .i64 b, .int .i64 v], .int .i64 (tl : Nat), undef]) _ (by kernel_rfl) (by kernel_rfl) (by kernel_rfl) (fun x => by simp only [putsD, Act.put, List.setIfInBounds_toArray, List.set_cons_zero, List.set_cons_succ]; exact rfl) h0L ⟨fun _ => Below.drew (Below.refl _ _), fun h => absurd h (by decide)⟩ (fun x => ?_) (fun x wz hDz hSz => ?_)
    · refine AllS.val (by rfl) (by rfl) (fun w hSw hPw => by go_simp) ?_
      refine AllS.val (by rfl) (by rfl) (fun w hSw hPw => by go_simp) ?_
      refine AllS.val (by rfl) (by rfl) (fun w hSw hPw => by go_simp) ?_
      refine AllS.val (by rfl) (by rfl) (fun w hSw hPw => ?_) ?_
      · (try dsimp only at hSw)
        have hb := hSw.1 (leW (hPw.not (j := 6) rfl (by kernel_rfl)))
        have q1 := (hb.cell (p := ⟨g, 1, none⟩) hg1).trans d1
        go_simp
      refine AllS.val (by rfl) (by rfl) (fun w hSw hPw => ?_) ?_
      · (try dsimp only at hSw)
        have hb := hSw.1 (leW (hPw.not (j := 6) rfl (by kernel_rfl)))
        have q0 := (hb.cell (p := ⟨n0, 0, none⟩) hn1).trans c0
        have q1 := (hb.cell (p := ⟨n0, 1, none⟩) hn1).trans c1
        have q2 := (hb.cell (p := ⟨n0, 2, none⟩) hn1).trans c2
        have q3 := (hb.cell (p := ⟨n0, 3, none⟩) hn1).trans c3
        go_simp
      refine AllS.val (by rfl) (by rfl) (fun w hSw hPw => by go_simp) ?_
      refine AllS.turn (fun _ _ => rfl) (by rfl) (fun w hSw hPw K hK => ?_) ?_
      · (try dsimp only at hSw)
        have h0 := leW (hPw.me rfl)
        have hb := hSw.1 h0
        have hx0 : x.1 = 0 := by exact Nat.le_zero.1 h0
        obtain ⟨p, y⟩ := x
        (try dsimp only at hx0)
        subst hx0
        refine oper_put (.tmp 27) (.tmp 28) (.tmp 29) 106 rfl term_keyed Try.underlying106 rfl (HF2.out.below hb hm1) rfl rfl HK.out HG1.out HG2.out ?_
        intro w6 ho6 ht6
        exact hK (1, y) _ (nxtL rfl (by decide)) ⟨fun h => absurd h (by simp), fun _ => ⟨w, hb, ho6, ht6⟩⟩
      exact AllS.nil
    obtain ⟨w5, hb5, ho6, ht6⟩ := hSz.2 (geW (hDz 6 (by decide) (by decide)))
    have hgm : g ≠ m := HNE.out
    have HB2 : Hid (∀ i, i < X.heap.size → i ≠ m → wz.heap[i]? = X.heap[i]?) := Lib.hid fun i hi hne => by
      have h1 := HB1.out.block i hi
      have h2 := hb5.block i (Nat.lt_of_lt_of_le hi HB1.out.size)
      exact ((ht6.block i hne).trans h2).trans h1
    have HZ2 : Hid (wz.os = X.os ∧ wz.tape = X.tape ∧ wz.output = X.output ∧ X.heap.size ≤ wz.heap.size) := Lib.hid ⟨(ht6.os.trans hb5.os).trans HB1.out.os, (ht6.tape.trans hb5.tape).trans HB1.out.tape, (ht6.output.trans hb5.output).trans HB1.out.output, by rw [ht6.size]; exact Nat.le_trans HB1.out.size hb5.size⟩
    have HBX2 := Lib.hid (ht6.own hgm (HBX1.out.below hb5 hg1))
    have HT2 := Lib.hid (ht6.own (by omega) (HT1.out.below hb5 hn1))
    have HF3 := Lib.hid ho6
    have HRW2 : Hid (wz.ownsRow base 56 4 (.slice A tl c) tl (tv T)) := Lib.hid (ht6.row (own_below (own_below HRW.out HB1.out) hb5) hmb)
    clear hSz hDz hb5 ho6 ht6 d0 d1 c0 c1 c2 c3 hg1 hn1 hm1 HF2 HT1 HBX1
    obtain ⟨Y2, rfl⟩ : ∃ Z : World, Z = wz := ⟨_, rfl⟩
    have hs2 : base ≤ Y2.heap.size := Nat.le_trans hs HZ2.out.2.2.2
    have d0 := HBX2.out.cell (j := 0) rfl
    have c0 := HT2.out.cell (j := 0) rfl
    have c1 := HT2.out.cell (j := 1) rfl
    have c2 := HT2.out.cell (j := 2) rfl
    have c3 := HT2.out.cell (j := 3) rfl
    have hg2 := HBX2.out.lt
    have hn2 := HT2.out.lt
    have h63 : tl + 1 ≤ maxLen := by unfold maxLen; omega
    have hbig : (tl + 1) * 32 ≤ 140737488355328 := by omega
    go_upto_region 6 with fail
    refine wp_region_steps (X := Nat × (Nat × Option Addr × Nat)) (fun x w' => (x.1 ≤ 1 → Below Y2.heap.size Y2 w') ∧ (x.1 = 1 → ∀ ad, some (⟨x.2.1, 0, none⟩ : Addr) = some ad → ∀ j u, ([.int .i64 o, .int .i64 a, .int .i64 b, .int .i64 v] : List Value)[j]? = some u → w'.cell? (ad.add j) = some u) ∧ (x.1 = 2 → ApT base tl A c (tv T) [.int .i64 o, .int .i64 a, .int .i64 b, .int .i64 v] Y2 x.2.2.1 x.2.2.2 w') ∧ (3 ≤ x.1 → ∃ w8, ApT base tl A c (tv T) [.int .i64 o, .int .i64 a, .int .i64 b, .int .i64 v] Y2 x.2.2.1 x.2.2.2 w8 ∧ w' = w8.setCell ⟨g, 0, none⟩ (.slice x.2.2.1 (tl + 1) x.2.2.2))) (fun x j => doneL [0, 0, 0, 0, 0, 0, 1, 2, 0, 0, 3] x.1 j) (effL [0, 0, 0, 0, 0, 0, 1, 2, 0, 0, 3]) (0, (0, none, 0)) (fun x => [.pointer (some ⟨g, 0, none⟩), .pointer (some ⟨g, 0, none⟩), .pointer (some ⟨g, 0, none⟩), .pointer (some ⟨g, 0, none⟩), .slice A tl c, .agg #[.int .i64 o, .int .i64 a, .int .i64 b, .int .i64 v], .slice (some ⟨x.2.1, 0, none⟩) 1 1, .slice x.2.2.1 (tl + 1) x.2.2.2, .pointer (some ⟨g, 0, none⟩), .pointer (some ⟨g, 0, none⟩), undef]) _ (by kernel_rfl) (by kernel_rfl) (by kernel_rfl) (fun x => by simp only [putsD, Act.put, List.setIfInBounds_toArray, List.set_cons_zero, List.set_cons_succ]; exact rfl) h0L ⟨fun _ => Below.drew (Below.refl _ _), fun h => absurd h (by decide), fun h => absurd h (by decide), fun h => absurd h (by decide)⟩ (fun x => ?_) (fun x wz hDz hSz => ?_)
    · refine AllS.val (by rfl) (by rfl) (fun w hSw hPw => by go_simp) ?_
      refine AllS.val (by rfl) (by rfl) (fun w hSw hPw => by go_simp) ?_
      refine AllS.val (by rfl) (by rfl) (fun w hSw hPw => by go_simp) ?_
      refine AllS.val (by rfl) (by rfl) (fun w hSw hPw => by go_simp) ?_
      refine AllS.val (by rfl) (by rfl) (fun w hSw hPw => ?_) ?_
      · (try dsimp only at hSw)
        have hb := hSw.1 (leW (hPw.not (j := 7) rfl (by kernel_rfl)))
        have q0 := (hb.cell (p := ⟨g, 0, none⟩) hg2).trans d0
        go_simp
      refine AllS.val (by rfl) (by rfl) (fun w hSw hPw => ?_) ?_
      · (try dsimp only at hSw)
        have hb := hSw.1 (Nat.le_trans (leW (hPw.not (j := 6) rfl (by kernel_rfl))) (by decide))
        have q0 := (hb.cell (p := ⟨n0, 0, none⟩) hn2).trans c0
        have q1 := (hb.cell (p := ⟨n0, 1, none⟩) hn2).trans c1
        have q2 := (hb.cell (p := ⟨n0, 2, none⟩) hn2).trans c2
        have q3 := (hb.cell (p := ⟨n0, 3, none⟩) hn2).trans c3
        go_simp
      refine AllS.turn (fun _ _ => rfl) (by rfl) (fun w hSw hPw K hK => ?_) ?_
      · (try dsimp only at hSw)
        have h0 := leW (hPw.me rfl)
        have hb := hSw.1 (Nat.le_trans h0 (by decide))
        go_simp
        have hx0 : x.1 = 0 := Nat.le_zero.1 h0
        obtain ⟨p, y0⟩ := x
        (try dsimp only at hx0)
        subst hx0
        exact hK (1, w.heap.size, y0.2) _ (nxtL rfl (by decide)) ⟨fun _ => below_via hb (by go_grown), fun _ => cells_at rfl [.int .i64 o, .int .i64 a, .int .i64 b, .int .i64 v] _, fun h => absurd h (by simp), fun h => absurd h (by simp)⟩
      refine AllS.turn (fun _ _ => rfl) (by rfl) (fun w hSw hPw K hK => ?_) ?_
      · (try dsimp only at hSw)
        have h0 := leW (hPw.me rfl)
        have h1 := geW (hPw.need (k := 6) rfl (by kernel_rfl))
        have hx0 : x.1 = 1 := Nat.le_antisymm h0 h1
        have hb := hSw.1 (Nat.le_of_eq hx0)
        have hnw := hSw.2.1 hx0
        obtain ⟨p, y1, y2, y3⟩ := x
        (try dsimp only at hx0)
        subst hx0
        refine oper_app' (.tmp 34) (.tmp 36) 50 rfl base 56 4 32 termw_app (tv T) rfl (own_below HRW2.out hb) [.int .i64 o, .int .i64 a, .int .i64 b, .int .i64 v] rfl rfl (fun h => by cases h) hnw (tv1_one _ _ _ _) h63 hbig (Nat.le_trans hs2 hb.size) ?_
        intro A8 c8 w8 hown8 hg8 hb8 hbl8
        exact hK (2, y1, A8, c8) _ (nxtL rfl (by decide)) ⟨fun h => absurd h (by simp), fun h => absurd h (by simp), fun _ => ⟨hown8, fun i hi hne => (hg8.block i (Nat.lt_of_lt_of_le hi hb.size) (fun e => hne e.symm)).trans (hb.block i hi), Nat.le_trans hb.size hg8.size, hg8.os.trans hb.os, hg8.tape.trans hb.tape, hg8.output.trans hb.output, hbl8.imp id fun h => ⟨_, h, hb.size⟩⟩, fun h => absurd h (by simp)⟩
      refine AllS.val (by rfl) (by rfl) (fun w hSw hPw => by go_simp) ?_
      refine AllS.val (by rfl) (by rfl) (fun w hSw hPw => by go_simp) ?_
      refine AllS.turn (fun _ _ => rfl) (by rfl) (fun w hSw hPw K hK => ?_) ?_
      · (try dsimp only at hSw)
        have h0 := leW (hPw.me rfl)
        have h1 := geW (hPw.need (k := 7) rfl (by kernel_rfl))
        have hx0 : x.1 = 2 := Nat.le_antisymm h0 h1
        have hst8 := hSw.2.2.1 hx0
        have hg8 : w.heap[g]? = Y2.heap[g]? := hst8.kp g hg2 (fun e => by have := (HRW2.out.lt g e).1; omega)
        obtain ⟨p, y1, y2, y3⟩ := x
        (try dsimp only at hx0)
        subst hx0
        have hO8 : Own w g 108 [.slice A tl c, .map (some m)] := hg8.trans HBX2.out
        have k0 := hO8.cell (j := 0) rfl
        have k1 := hO8.frozen 0
        go_simp
        exact hK (3, y1, y2, y3) _ (nxtL rfl (by decide)) ⟨fun h => absurd h (by simp), fun h => absurd h (by simp), fun h => absurd h (by simp), fun _ => ⟨w, hst8, rfl⟩⟩
      exact AllS.nil
    obtain ⟨w8, hst8, rfl⟩ := hSz.2.2.2 (geW (hDz 10 (by decide) (by decide)))
    obtain ⟨p, y1, A8, c8⟩ := x
    (try dsimp only at hst8)
    have hlen : (T ++ [(⟨o, a, b, v⟩ : Tm)]).length = tl + 1 := by rw [List.length_append, HTL.out]; rfl
    have hg8 : w8.heap[g]? = Y2.heap[g]? := hst8.kp g hg2 (fun e => by have := (HRW2.out.lt g e).1; omega)
    have hm8 : w8.heap[m]? = Y2.heap[m]? := hst8.kp m HF3.out.lt (fun e => by have := (HRW2.out.lt m e).1; omega)
    have hgm2 : m ≠ g := fun e => HNE.out e.symm
    have HLS : Hid (LsAt base g m (T ++ [⟨o, a, b, v⟩]) A8 c8 (w8.setCell ⟨g, 0, none⟩ (.slice A8 (tl + 1) c8))) := Lib.hid (by
      refine ⟨?_, ?_, ⟨f', ?_, fun i t hi => ?_, fun t ht => ?_⟩, hgb, hmb, HNE.out⟩
      · rw [hlen]
        exact Own.set (show Own w8 g 108 [.slice A tl c, .map (some m)] from hg8.trans HBX2.out) 0 (.slice A8 (tl + 1) c8)
      · rw [hlen, tv_append]
        exact own_farW hst8.row (p := ⟨g, 0, none⟩) hgb _
      · exact HF3.out.keep ((Below.heap_setCell w8 ⟨g, 0, none⟩ _ m hgm2).trans hm8)
      · by_cases hil : i < T.length
        · rw [List.getElem?_append_left hil] at hi
          have hne : tmV t ≠ tmV ⟨o, a, b, v⟩ := fun e => HIN.out (by rw [← tmV_inj e]; exact List.mem_of_getElem? hi)
          rw [HG2.out _ hne]
          exact HA1.out i t hi
        · have hil2 := (List.getElem?_eq_some_iff.1 hi).1
          rw [hlen] at hil2
          have : i = T.length := by have := HTL.out; omega
          subst this
          simp at hi
          subst hi
          rw [HG1.out, HTL.out]
      · have hne : tmV t ≠ tmV ⟨o, a, b, v⟩ := fun e => ht (by rw [tmV_inj e]; simp)
        rw [HG2.out _ hne]
        exact HA2.out t fun h => ht (by simp [h]))
    have HKP : Hid (Kpt g m (Value.slice A T.length c).ownBlock (Value.slice A8 (T ++ [(⟨o, a, b, v⟩ : Tm)]).length c8).ownBlock X (w8.setCell ⟨g, 0, none⟩ (.slice A8 (tl + 1) c8))) := Lib.hid (by
      obtain ⟨z1, z2, z3, z4⟩ := HZ2.out
      rw [hlen, HTL.out]
      refine ⟨hst8.os.trans z1, hst8.tape.trans z2, hst8.output.trans z3, by simp; exact Nat.le_trans z4 hst8.size, fun i hi hg hm ho => ?_, hst8.own.imp id fun ⟨b, h1, h2⟩ => ⟨b, h1, Nat.le_trans z4 h2⟩⟩
      exact ((Below.heap_setCell w8 ⟨g, 0, none⟩ _ i hg).trans (hst8.kp i (Nat.lt_of_lt_of_le hi z4) ho)).trans (HB2.out i hi hm))
    have HPL : Hid (Plc T ⟨o, a, b, v⟩ (T ++ [⟨o, a, b, v⟩]) tl) := Lib.hid ⟨by rw [← HTL.out]; simp, .inr ⟨rfl, HTL.out.symm, HIN.out⟩⟩
    clear hst8 hSz hDz hg8 hm8 d0 c0 c1 c2 c3 HBX2 HT2 HF3 HRW2 HB2 HZ2 hlen
    go_wp2
    go_ret
    exact ⟨_, tl, A8, c8, rfl, HPL.out, HLS.out, HKP.out⟩

end Go.Proofs.Ytfhnhbkdhdocjaa

/-
  Package weak (S1): (*list).result, (*list).variables.
-/

namespace Go.Proofs.Ytfhnhbkdhdocjaa
open Go.RowKit
set_option linter.unusedSimpArgs false
set_option linter.unusedVariables false
set_option maxRecDepth 100000

theorem PlTo.pre {base g m c : Nat} {T : List Tm} {A : Option Addr} {P P' : List Tm → Nat → Prop} {X Y X' : World} {e : Ending} (h : PlTo base g m T A c P Y e X') (hb : Below X.heap.size X Y) (hP : ∀ T' r, P T' r → P' T' r) : PlTo base g m T A c P' X e X' := by
  obtain ⟨T', r, A', c', h1, h2, h3, h4⟩ := h
  exact ⟨T', r, A', c', h1, hP _ _ h2, h3, (Kpt.of_below _ hb).trans h4⟩

/-- on the way through an operation's operands: the term's box n0 stays as it is -/
def ReT (base g m n0 : Nat) (cs : List Value) (T : List Tm) (A : Option Addr) (c : Nat) (P : List Tm → Nat → Prop) (X : World) (x : Nat × Value × Value) (w : World) : Prop :=
  Own w n0 56 cs ∧ match x.1 with
  | 0 => Below X.heap.size X w
  | 1 => Below X.heap.size X w
  | 2 => ∃ (T' : List Tm) (r : Nat) (A' : Option Addr) (c' : Nat), x.2.1 = .int .i64 (r : Int) ∧ P T' r ∧ LsAt base g m T' A' c' w ∧ Kpt g m (Value.slice A T.length c).ownBlock (Value.slice A' T'.length c').ownBlock X w
  | _ => ∃ (T' : List Tm) (r : Nat) (A' : Option Addr) (c' : Nat), x.2.2 = .int .i64 (r : Int) ∧ P T' r ∧ LsAt base g m T' A' c' w ∧ Kpt g m (Value.slice A T.length c).ownBlock (Value.slice A' T'.length c').ownBlock X w

theorem key_nums {o a b v : Int} (h0 : -65536 ≤ o ∧ o ≤ 65536) (h1 : -65536 ≤ a ∧ a ≤ 65536) (h2 : -65536 ≤ b ∧ b ≤ 65536) (h3 : -65536 ≤ v ∧ v ≤ 65536) : KeyV Try.prog 56 (tmV ⟨o, a, b, v⟩) :=
  term_key (o := o) (a := a) (b := b) (v := v) (wf64 (x := o) (by omega) (by omega)) (wf64 (x := a) (by omega) (by omega)) (wf64 (x := b) (by omega) (by omega)) (wf64 (x := v) (by omega) (by omega))

set_option maxHeartbeats 8000000 in
theorem result_any (n base g m : Nat) (T : List Tm) (A : Option Addr) (c : Nat) (o a b v : Int) (A1 A2 : Option Addr) (n1 c1 n2 c2 : Nat) (at_ ops : List Nat) (X : World) (hl : LsAt base g m T A c X) (hT : T.length ≤ 100) (hs : base ≤ X.heap.size)
    (h1 : RdI X X.heap.size A1 (ni at_)) (hn1 : at_.length = n1) (h2 : RdI X X.heap.size A2 (ni ops)) (hn2 : ops.length = n2) (hm1 : n1 ≤ 65536) (hm2 : n2 ≤ 65536) (hk : ResOk n T at_ ops ⟨o, a, b, v⟩)
    (ho : (o = 1 ∧ 0 ≤ v ∧ v < 256) ∨ (o = 2 ∧ 0 ≤ v ∧ v < n1) ∨ (3 ≤ o ∧ o ≤ 6 ∧ 0 ≤ a ∧ a < n2 ∧ 0 ≤ b ∧ b < n2)) :
    Calls Try.prog 66 #[.pointer (some ⟨g, 0, none⟩), .agg #[.int .i64 o, .int .i64 a, .int .i64 b, .int .i64 v], .slice A1 n1 c1, .slice A2 n2 c2] X fun e X' => PlTo base g m T A c (ResT T at_ ops ⟨o, a, b, v⟩) X e X' := by
  have HLS := Lib.hid hl
  have HOP : Hid (3 ≤ o → ∀ r, ops[a.toNat]? = some r ∨ ops[b.toNat]? = some r → r < T.length) := Lib.hid hk.opr
  have HBX : Hid (Below X.heap.size X (X.alloc (.cells #[.int .i64 o, .int .i64 a, .int .i64 b, .int .i64 v] 56))) := Lib.hid (by go_grown)
  have HPL := Lib.hid (fun (Z : World) (o' a' b' v' : Int) (hZ : Below X.heap.size X Z) (hkey : KeyV Try.prog 56 (tmV ⟨o', a', b', v'⟩)) => (place_any base g m T A c o' a' b' v' Z (hl.quiet hZ) hT hkey (Nat.le_trans hs hZ.size)))
  have HX0 : Hid (Own (X.alloc (.cells #[.int .i64 o, .int .i64 a, .int .i64 b, .int .i64 v] 56)) X.heap.size 56 [.int .i64 o, .int .i64 a, .int .i64 b, .int .i64 v]) := Lib.hid (Own.new X _ _)
  clear hl hk
  rcases ho with ⟨rfl, hv0, hv1⟩ | ⟨rfl, hv0, hv1⟩ | ⟨ho0, ho1, ha0, ha1, hb0, hb1⟩
  · clear h1 h2
    go_enter Try.func66, Try.ntmps66
    go_wp2_with (go_at_call 92; (refine (HPL.out _ 1 0 0 v HBX.out (key_nums (by omega) (by omega) (by omega) (by omega))).mono ?_); rintro e w1 ⟨T', r, A', c', rfl, hp, hl', hk'⟩)
    go_ret
    exact ⟨T', r, A', c', rfl, .inl ⟨rfl, hp⟩, hl', (Kpt.of_below _ HBX.out).trans hk'⟩
  · obtain ⟨vn, rfl⟩ := Int.eq_ofNat_of_zero_le hv0
    have hvn : vn < n1 := by omega
    obtain ⟨r, hr⟩ : ∃ r, at_[vn]? = some r := ⟨_, List.getElem?_eq_getElem (by omega)⟩
    obtain ⟨ad, x, rfl, hbl, hx, hcx⟩ := h1.at_ (k := vn) (by unfold ni; rw [List.length_map]; omega)
    rw [ni_at hr] at hx
    injection hx with hx
    subst hx
    have HR := Lib.hid hr
    clear h1 h2 hr
    go_enter Try.func66, Try.ntmps66
    have q1 : (ad.add vn).block < X.heap.size + 1 := by omega
    go_wp2
    go_ret
    exact ⟨T, r, A, c, rfl, .inr (.inl ⟨rfl, rfl, by simp only [Int.toNat_natCast]; exact HR.out⟩), HLS.out.quiet HBX.out, Kpt.of_below _ HBX.out⟩
  · obtain ⟨an, rfl⟩ := Int.eq_ofNat_of_zero_le ha0
    obtain ⟨bn, rfl⟩ := Int.eq_ofNat_of_zero_le hb0
    have han : an < n2 := by omega
    have hbn : bn < n2 := by omega
    have e1 : (o == 1) = false := by simp; omega
    have e2 : (o == 2) = false := by simp; omega
    obtain ⟨xa, hx⟩ : ∃ x, ops[an]? = some x := ⟨_, List.getElem?_eq_getElem (by omega)⟩
    obtain ⟨yb, hy⟩ : ∃ y, ops[bn]? = some y := ⟨_, List.getElem?_eq_getElem (by omega)⟩
    have hxl := HOP.out ho0 xa (.inl (by simpa using hx))
    have hyl := HOP.out ho0 yb (.inr (by simpa using hy))
    have HX := Lib.hid hx
    have HY := Lib.hid hy
    obtain ⟨ad, x', rfl, hbx, hx', hcx⟩ := h2.at_ (k := an) (by unfold ni; rw [List.length_map]; omega)
    obtain ⟨ad', y', he, hby, hy', hcy⟩ := h2.at_ (k := bn) (by unfold ni; rw [List.length_map]; omega)
    injection he with he
    subst he
    rw [ni_at hx] at hx'
    rw [ni_at hy] at hy'
    injection hx' with hx'
    injection hy' with hy'
    subst hx' hy'
    have HKEY := Lib.hid (key_nums (o := o) (a := (xa : Int)) (b := (yb : Int)) (v := 0) (by omega) (by omega) (by omega) (by omega))
    have HCX := Lib.hid (fun (Z : World) (hZ : Below X.heap.size X Z) => show Z.cell? (ad.add an) = some (.int .i64 (xa : Int)) ∧ Z.cell? (ad.add bn) = some (.int .i64 (yb : Int)) from ⟨(hZ.cell hbx).trans hcx, (hZ.cell hby).trans hcy⟩)
    clear h1 h2 hx hy hcx hcy HOP
    go_enter Try.func66, Try.ntmps66
    go_upto_region 6 with fail
    obtain ⟨Y, hY⟩ : ∃ Y, Y = X.alloc (.cells #[.int .i64 o, .int .i64 (an : Int), .int .i64 (bn : Int), .int .i64 v] 56) := ⟨_, rfl⟩
    rw [← hY] at HX0 HBX ⊢
    clear hY
    obtain ⟨n0, hn0⟩ : ∃ n0, X.heap.size = n0 := ⟨_, rfl⟩
    have HN := Lib.hid hn0
    rw [hn0] at HX0
    simp only [hn0]
    have HAP : Hid (n0 ≠ g ∧ n0 ≠ m ∧ (Value.slice A T.length c).ownBlock ≠ some n0) := Lib.hid (by
      have h1 := HLS.out.gb
      have h2 := HLS.out.mb
      exact ⟨by omega, by omega, fun e => by have := (HLS.out.row.lt _ e).2; omega⟩)
    clear hn0
    refine wp_region_steps (X := Nat × (Value × Value)) (ReT base g m n0 [.int .i64 o, .int .i64 (an : Int), .int .i64 (bn : Int), .int .i64 v] T A c (Plc T ⟨o, xa, yb, 0⟩) Y) (fun x j => doneL [0, 0, 0, 0, 0, 0, 0, 0, 0, 0, 0, 0, 0, 1, 2, 3] x.1 j) (effL [0, 0, 0, 0, 0, 0, 0, 0, 0, 0, 0, 0, 0, 1, 2, 3]) (0, (undef, undef)) (fun x => [.pointer (some ⟨g, 0, none⟩), .pointer (some ⟨n0, 0, none⟩), .int .i64 o, .slice (some ad) n2 c2, .pointer (some ⟨n0, 1, none⟩), .int .i64 (an : Nat), .pointer (some (ad.add an)), .int .i64 (xa : Nat), .slice (some ad) n2 c2, .pointer (some ⟨n0, 2, none⟩), .int .i64 (bn : Nat), .pointer (some (ad.add bn)), .int .i64 (yb : Nat), .agg #[.int .i64 o, .int .i64 (xa : Nat), .int .i64 (yb : Nat), .int .i64 0], x.2.1, x.2.2]) _ (by kernel_rfl) (by kernel_rfl) (by kernel_rfl) (fun x => by simp only [putsD, Act.put, List.setIfInBounds_toArray, List.set_cons_zero, List.set_cons_succ]; exact rfl) h0L ⟨HX0.out, below_drewW (Below.refl _ _)⟩ (fun x => ?_) (fun x wz hDz hSz => ?_)
    · refine AllS.val (by rfl) (by rfl) (fun w hSw hPw => by go_simp) ?_
      refine AllS.val (by rfl) (by rfl) (fun w hSw hPw => by go_simp) ?_
      refine AllS.val (by rfl) (by rfl) (fun w hSw hPw => ?_) ?_
      · (try dsimp only at hSw)
        have q0 := hSw.1.cell (j := 0) rfl
        go_simp
      refine AllS.val (by rfl) (by rfl) (fun w hSw hPw => by go_simp) ?_
      refine AllS.val (by rfl) (by rfl) (fun w hSw hPw => by go_simp) ?_
      refine AllS.val (by rfl) (by rfl) (fun w hSw hPw => ?_) ?_
      · (try dsimp only at hSw)
        have q0 := hSw.1.cell (j := 1) rfl
        go_simp
      refine AllS.val (by rfl) (by rfl) (fun w hSw hPw => by go_simp) ?_
      refine AllS.val (by rfl) (by rfl) (fun w hSw hPw => ?_) ?_
      · (try dsimp only at hSw)
        have h0 := leW (hPw.not (j := 13) rfl (by kernel_rfl))
        have hx0 : x.1 = 0 := by exact Nat.le_zero.1 h0
        obtain ⟨p, y1, y2⟩ := x
        (try dsimp only at hx0)
        subst hx0
        obtain ⟨_, hq⟩ := hSw
        (try dsimp only at hq)
        have q0 := (HCX.out w (HBX.out.trans (hq.mono HBX.out.size))).1
        go_simp
      refine AllS.val (by rfl) (by rfl) (fun w hSw hPw => by go_simp) ?_
      refine AllS.val (by rfl) (by rfl) (fun w hSw hPw => by go_simp) ?_
      refine AllS.val (by rfl) (by rfl) (fun w hSw hPw => ?_) ?_
      · (try dsimp only at hSw)
        have q0 := hSw.1.cell (j := 2) rfl
        go_simp
      refine AllS.val (by rfl) (by rfl) (fun w hSw hPw => by go_simp) ?_
      refine AllS.val (by rfl) (by rfl) (fun w hSw hPw => ?_) ?_
      · (try dsimp only at hSw)
        have h0 := leW (hPw.not (j := 13) rfl (by kernel_rfl))
        have hx0 : x.1 = 0 := by exact Nat.le_zero.1 h0
        obtain ⟨p, y1, y2⟩ := x
        (try dsimp only at hx0)
        subst hx0
        obtain ⟨_, hq⟩ := hSw
        (try dsimp only at hq)
        have q0 := (HCX.out w (HBX.out.trans (hq.mono HBX.out.size))).2
        go_simp
      refine AllS.turn (fun _ _ => rfl) (by rfl) (fun w hSw hPw K hK => ?_) ?_
      · (try dsimp only at hSw)
        have h0 := leW (hPw.me rfl)
        have hx0 : x.1 = 0 := by exact Nat.le_zero.1 h0
        obtain ⟨p, y1, y2⟩ := x
        (try dsimp only at hx0)
        subst hx0
        obtain ⟨ho, hq⟩ := hSw
        go_simp
        exact hK (1, y1, y2) _ (nxtL rfl (by decide)) ⟨ho, hq⟩
      refine AllS.turn (fun _ _ => rfl) (by rfl) (fun w hSw hPw K hK => ?_) ?_
      · (try dsimp only at hSw)
        have h0 := leW (hPw.me rfl)
        have h1 := geW (hPw.need (k := 13) rfl (by kernel_rfl))
        have hx0 : x.1 = 1 := Nat.le_antisymm h0 h1
        obtain ⟨p, y1, y2⟩ := x
        (try dsimp only at hx0)
        subst hx0
        obtain ⟨ho, hq⟩ := hSw
        (try dsimp only at hq)
        go_simp
        go_at_call 92
        refine (HPL.out _ o xa yb 0 (HBX.out.trans (hq.mono HBX.out.size)) HKEY.out).mono ?_
        rintro e w7 ⟨T', r, A', c', rfl, hp, hl', hk'⟩
        go_simp
        exact hK (2, .int .i64 (r : Nat), y2) _ (nxtL rfl (by decide)) ⟨hk'.own_ ho HAP.out.1 HAP.out.2.1 HAP.out.2.2, T', r, A', c', rfl, hp, hl', (Kpt.of_below _ hq).trans hk'⟩
      refine AllS.turn (fun _ _ => rfl) (by rfl) (fun w hSw hPw K hK => ?_) ?_
      · (try dsimp only at hSw)
        have h0 := leW (hPw.me rfl)
        have h1 := geW (hPw.need (k := 14) rfl (by kernel_rfl))
        have hx0 : x.1 = 2 := Nat.le_antisymm h0 h1
        obtain ⟨p, y1, y2⟩ := x
        (try dsimp only at hx0)
        subst hx0
        obtain ⟨ho, T', r, A', c', hy, hp, hl', hk'⟩ := hSw
        (try dsimp only at hy)
        subst hy
        go_simp
        exact hK (3, _, .int .i64 (r : Nat)) _ (nxtL rfl (by decide)) ⟨ho, T', r, A', c', rfl, hp, hl', hk'⟩
      exact AllS.nil
    have hd4 := geW (hDz 15 (by decide) (by decide))
    obtain ⟨p, y1, y2⟩ := x
    (try dsimp only at hd4)
    obtain ⟨q, rfl⟩ : ∃ q, p = q + 3 := ⟨p - 3, by simp at hd4; omega⟩
    obtain ⟨_, T', r, A', c', hy, hp, hl', hk'⟩ := hSz
    (try dsimp only at hy)
    subst hy
    clear hDz hd4
    go_wp2
    go_ret
    exact ⟨T', r, A', c', rfl, .inr (.inr ⟨ho0, ho1, xa, yb, by simpa using HX.out, by simpa using HY.out, hp⟩), hl', (Kpt.of_below _ HBX.out).trans hk'⟩

theorem Kpt.setNew {g m : Nat} {o o' : Option Nat} {X X' : World} (h : Kpt g m o o' X X') {p : Addr} (hp : X.heap.size ≤ p.block) (u : Value) : Kpt g m o o' X (X'.setCell p u) :=
  ⟨h.os, h.tape, h.output, by simp; exact h.size, fun i hi h1 h2 h3 => (Below.heap_setCell X' p u i (by omega)).trans (h.block i hi h1 h2 h3), h.own⟩

theorem ni_setW (l : List Nat) (i r : Nat) : ni (l.set i r) = (ni l).set i (r : Int) := by unfold ni; rw [List.map_set]

theorem ni_repW (n : Nat) : ni (List.replicate n 0) = List.replicate n (0 : Int) := by unfold ni; rw [List.map_replicate]; rfl

/-- the variables' places, in a block of the call's own -/
structure VsAt (base g m n : Nat) (T : List Tm) (A : Option Addr) (c G : Nat) (at_ : List Nat) (X : World) : Prop where
  ls : LsAt base g m T A c X
  vs : Own X G 3 (iv (ni at_))
  gb : base ≤ G
  ap : (Value.slice A T.length c).ownBlock ≠ some G

theorem VsAt.quiet {base g m n c G : Nat} {T : List Tm} {A : Option Addr} {at_ : List Nat} {X X' : World} (h : VsAt base g m n T A c G at_ X) (hb : Below X.heap.size X X') : VsAt base g m n T A c G at_ X' :=
  ⟨h.ls.quiet hb, h.vs.below hb h.vs.lt, h.gb, h.ap⟩

/-- a place told, and laid in the variables' block -/
theorem VsAt.put {base g m n c c' G k r : Nat} {T T' : List Tm} {A A' : Option Addr} {at_ : List Nat} {X X' : World} (h : VsAt base g m n T A c G at_ X) (hl : LsAt base g m T' A' c' X') (hk : Kpt g m (Value.slice A T.length c).ownBlock (Value.slice A' T'.length c').ownBlock X X') :
    VsAt base g m n T' A' c' G (at_.set k r) (X'.setCell ⟨G, k, none⟩ (.int .i64 (r : Int))) := by
  have hgb := hl.gb
  have hmb := hl.mb
  have hg := h.gb
  obtain ⟨_, h2⟩ := hk.other h.vs.lt (by omega) (by omega) h.ap
  refine ⟨hl.set (p := ⟨G, k, none⟩) (by show g ≠ G; omega) (by show m ≠ G; omega) h2 _, ?_, hg, h2⟩
  rw [ni_setW]
  exact OwnI.set (hk.own_ h.vs (by omega) (by omega) h.ap) k _

/-- a place told -/
theorem VsAt.told {base g m n c c' G : Nat} {T T' : List Tm} {A A' : Option Addr} {at_ : List Nat} {X X' : World} (h : VsAt base g m n T A c G at_ X) (hl : LsAt base g m T' A' c' X') (hk : Kpt g m (Value.slice A T.length c).ownBlock (Value.slice A' T'.length c').ownBlock X X') : VsAt base g m n T' A' c' G at_ X' := by
  have hgb := hl.gb
  have hmb := hl.mb
  have hg := h.gb
  obtain ⟨_, h2⟩ := hk.other h.vs.lt (by omega) (by omega) h.ap
  exact ⟨hl, hk.own_ h.vs (by omega) (by omega) h.ap, hg, h2⟩

set_option maxHeartbeats 8000000 in
theorem variables_any (n base g m W : Nat) (X : World) (hl : LsAt base g m [] none 0 X) (hs : base ≤ X.heap.size) (hn1 : 1 ≤ n) (hn6 : n ≤ 6) (hW : W < 4294967296) :
    Calls Try.prog 65 #[.pointer (some ⟨g, 0, none⟩), .int .i64 n, .int .u32 (W : Nat)] X fun e X' => ∃ (T : List Tm) (A : Option Addr) (c G : Nat) (at_ : List Nat), e = .returned (.slice (some ⟨G, 0, none⟩) n n) ∧ WvI n W n T at_ ∧ VsAt base g m n T A c G at_ X' ∧ Kpt g m none (Value.slice A T.length c).ownBlock X X' := by
  have hmk := make_ints (P := Try.prog) 39 3 Try.underlying39 int_info n (by omega)
  have HV0 : Hid (VsAt base g m n [] none 0 X.heap.size (List.replicate n 0) (X.alloc (.cells (iv (List.replicate n 0)).toArray 3))) := Lib.hid ⟨hl.quiet (by go_grown), by rw [ni_repW]; exact Own.new _ _ _, hs, fun e => by cases e⟩
  have HK0 : Hid (Kpt g m none none X (X.alloc (.cells (iv (List.replicate n 0)).toArray 3))) := Lib.hid (Kpt.of_below _ (by go_grown))
  obtain ⟨G, hG⟩ : ∃ G, X.heap.size = G := ⟨_, rfl⟩
  have HG := Lib.hid hG
  clear hl
  go_enter Try.func65, Try.ntmps65
  go_wp2
  rw [hG] at HV0
  (try simp only [hG])
  clear hG hmk
  go_loopw [13] (fun i wr => ∃ (k : Nat) (T : List Tm) (A : Option Addr) (c : Nat) (at_ : List Nat), k ≤ n ∧ i = .int .i64 k ∧ Hid (WvI n W k T at_) ∧ Hid (VsAt base g m n T A c G at_ wr) ∧ Hid (Kpt g m none (Value.slice A T.length c).ownBlock X wr)) (fun i _ => n - (intOf i).toNat)
  case atStart => exact ⟨0, [], none, 0, _, Nat.zero_le _, rfl, Lib.hid (WvI.start n W), HV0, HK0⟩
  case round =>
    obtain ⟨k, T, A, c, at_, hk, rfl, HI, HV, HK⟩ := hrel
    by_cases hlt : k < n
    · have hal : k < at_.length := by rw [HI.out.len]; exact hlt
      cases hb : W.testBit k with
      | false =>
        go_wp2_with (go_at_call 76; (with_reducible refine (hasBit_any W k _ hW (by omega)).mono ?_); rw [hb]; rintro e w1 ⟨rfl, rfl⟩)
        go_round
        case rel => exact ⟨k + 1, T, A, c, at_, by omega, by go_num, Lib.hid (HI.out.no hb), HV, HK⟩
        case measure => (simp [intOf]; omega)
      | true =>
        have HPL := Lib.hid (place_any base g m T A c 2 0 0 (k : Int) wr HV.out.ls (by have := HI.out.tl; omega) (key_nums (by omega) (by omega) (by omega) (by omega)) (by have := HV.out.vs.lt; have := HV.out.gb; omega))
        go_wp2_with (first
          | (go_at_call 76; (with_reducible refine (hasBit_any W k _ hW (by omega)).mono ?_); rw [hb]; rintro e w1 ⟨rfl, rfl⟩)
          | (go_at_call 92; (refine HPL.out.mono ?_); rintro e w1 ⟨T', r, A', c', rfl, hp, hl', hk'⟩; have HP := Lib.hid hp; have HLS := Lib.hid hl'; have HKP := Lib.hid hk'; have hgo := (HV.out.told hl' hk').vs; have q0 := hgo.cell (iv_at (ni_at (List.getElem?_eq_getElem hal))); have q1 := hgo.frozen k; clear hp hl' hk' hgo))
        go_round
        case rel => exact ⟨k + 1, T', A', c', at_.set k r, by omega, by go_num, Lib.hid (HI.out.yes hb hlt HP.out), Lib.hid (HV.out.put HLS.out HKP.out), Lib.hid ((HK.out.trans HKP.out).setNew (p := ⟨G, k, none⟩) (by rw [HG.out]; exact Nat.le_refl _) _)⟩
        case measure => (simp [intOf]; omega)
    · have hkn : k = n := by omega
      subst hkn
      go_wp2
      go_ret
      exact ⟨T, A, c, G, at_, rfl, HI.out, HV.out, HK.out⟩

end Go.Proofs.Ytfhnhbkdhdocjaa

/-
  Package weak (S1): program, check; codemasonlaw.codeCode.
-/

namespace Go.Proofs.Ytfhnhbkdhdocjaa
open Go.RowKit
set_option linter.unusedSimpArgs false
set_option linter.unusedVariables false
set_option maxRecDepth 100000

theorem rdP_one {X w' : World} {A : Option Addr} {len cap G : Nat} {code : List St} (hG : Own w' G 79 [.slice A len cap, .int .i64 (-1), .int .i64 (-1), .int .i64 0]) (hx : RdS w' w'.heap.size A code) (hl : code.length = len) (hcap : len ≤ cap) : RdP w' w'.heap.size (some ⟨G, 0, none⟩) [bkS code] := fun _ => by
  refine ⟨⟨G, 0, none⟩, rfl, hG.lt, fun k b hk => ?_⟩
  have hk0 : k = 0 := by have := (List.getElem?_eq_some_iff.1 hk).1; simpa using this
  subst hk0
  simp at hk
  subst hk
  have ha : (⟨G, 0, none⟩ : Addr).add (0 * 4) = ⟨G, 0, none⟩ := by unfold Addr.add; simp
  rw [ha]
  exact ⟨A, cap, hx, by rw [show (bkS code).code.length = len from hl]; exact hG.cell (j := 0) rfl, hG.cell (j := 1) rfl, hG.cell (j := 2) rfl, hG.cell (j := 3) rfl, by rw [show (bkS code).code.length = len from hl]; exact hcap⟩

theorem inBk_one {code : List St} (h : code.length * 40 ≤ 140737488351232) : ∀ b ∈ [bkS code], InBk b := fun b hb => by
  rw [List.mem_singleton.1 hb]
  exact ⟨h, by unfold inI bkS; simp, by unfold inI bkS; simp, by unfold inI bkS; simp⟩

set_option maxHeartbeats 2000000 in
theorem program_any (A : Option Addr) (len cap : Nat) (code : List St) (w : World) (hx : RdS w w.heap.size A code) (hl : code.length = len) (hcap : len ≤ cap) :
    Calls Try.prog 64 #[.slice A len cap] w fun e w' => ∃ G, e = .returned (.slice (some ⟨G, 0, none⟩) 1 1) ∧ RdP w' w'.heap.size (some ⟨G, 0, none⟩) [bkS code] ∧ Below w.heap.size w w' := by
  have HP : Hid (RdP (w.alloc (.cells #[.slice A len cap, .int .i64 (-1), .int .i64 (-1), .int .i64 0] 79)) (w.heap.size + 1) (some ⟨w.heap.size, 0, none⟩) [bkS code]) := Lib.hid (by
    have h := rdP_one (X := w) (Own.new w 79 [.slice A len cap, .int .i64 (-1), .int .i64 (-1), .int .i64 0]) ((RdS.below hx (by go_grown : Below w.heap.size w _) (Nat.le_refl _)).more (by simp)) hl hcap
    simpa using h)
  clear hx hl
  go_enter Try.func64, Try.ntmps64
  go_wp2
  go_ret
  exact ⟨w.heap.size, rfl, by simpa using HP.out, by go_grown⟩

set_option maxHeartbeats 2000000 in
theorem codeCode_any (vars : Int) (A : Option Addr) (len cap : Nat) (code : List St) (w : World) (hx : RdS w w.heap.size A code) (hl : code.length = len) (hcap : len ≤ cap) (hm : len * 40 ≤ 140737488351232) :
    Calls Try.prog 31 #[.int .i64 vars, .slice A len cap] w fun e w' => e = .returned (.int .i64 (ckProg vars [bkS code])) ∧ Below w.heap.size w w' := by
  have HP : Hid (RdP (w.alloc (.cells #[.slice A len cap, .int .i64 (-1), .int .i64 (-1), .int .i64 0] 79)) (w.alloc (.cells #[.slice A len cap, .int .i64 (-1), .int .i64 (-1), .int .i64 0] 79)).heap.size (some ⟨w.heap.size, 0, none⟩) [bkS code]) := Lib.hid (rdP_one (X := w) (Own.new w 79 [.slice A len cap, .int .i64 (-1), .int .i64 (-1), .int .i64 0]) ((RdS.below hx (by go_grown : Below w.heap.size w _) (Nat.le_refl _)).more (by simp)) hl hcap)
  have HC := Lib.hid (refProgCheck_any vars (some ⟨w.heap.size, 0, none⟩) 1 1 [bkS code] _ HP.out rfl (by unfold maxLen; omega) (inBk_one (by rw [hl]; exact hm)))
  clear hx hl
  go_enter Try.func31, Try.ntmps31
  go_wp2_with (go_at_call 25; (with_reducible refine HC.out.mono ?_); rintro e w1 ⟨rfl, hb1⟩)
  go_ret
  exact ⟨rfl, Below.trans (by go_grown) (hb1.mono (by simp))⟩

/-- S1: the code of lists of terms -/
def ckLs (vars : Int) : List (List Tm) → Int
  | [] => 0
  | l :: r => if ckTerms vars l = 0 then ckLs vars r else ckTerms vars l

/-- S1: the code of steps and of lists of terms -/
def ckW (vars : Int) (code : List St) (ls : List (List Tm)) : Int := if ckProg vars [bkS code] = 0 then ckLs vars ls else ckProg vars [bkS code]

/-- a slice of slices of terms -/
def RdLs (w : World) (A : Option Addr) (q : List (List Tm × Option Addr × Nat)) : Prop :=
  ∀ (k : Nat) (x : List Tm × Option Addr × Nat), q[k]? = some x → ∃ ad : Addr, A = some ad ∧ (ad.add k).block < w.heap.size ∧ w.cell? (ad.add k) = some (.slice x.2.1 x.1.length x.2.2) ∧ RdT w w.heap.size x.2.1 x.1

theorem RdLs.below {w w' : World} {A : Option Addr} {q : List (List Tm × Option Addr × Nat)} (h : RdLs w A q) (hb : Below w.heap.size w w') : RdLs w' A q := fun k x hx => by
  obtain ⟨ad, h1, h2, h3, h4⟩ := h k x hx
  exact ⟨ad, h1, Nat.lt_of_lt_of_le h2 hb.size, (hb.cell h2).trans h3, (h4.below hb (Nat.le_refl _)).more hb.size⟩

theorem ckLs_drop {vars : Int} {q : List (List Tm × Option Addr × Nat)} {k : Nat} {x : List Tm × Option Addr × Nat} (h : q[k]? = some x) : ckLs vars ((q.drop k).map (·.1)) = if ckTerms vars x.1 = 0 then ckLs vars ((q.drop (k + 1)).map (·.1)) else ckTerms vars x.1 := by
  rw [drop_at h]
  rfl

set_option maxHeartbeats 4000000 in
theorem weakCheck_any (vars : Int) (A LA : Option Addr) (len cap m mc : Nat) (code : List St) (q : List (List Tm × Option Addr × Nat)) (w : World) (hx : RdS w w.heap.size A code) (hl : code.length = len) (hcap : len ≤ cap) (hm : len * 40 ≤ 140737488351232) (hq : RdLs w LA q) (hql : q.length = m) (hmm : m ≤ 65536) :
    Calls Try.prog 61 #[.int .i64 vars, .slice A len cap, .slice LA m mc] w fun e w' => e = .returned (.int .i64 (ckW vars code (q.map (·.1)))) ∧ Below w.heap.size w w' := by
  have HQ := Lib.hid hq
  have HQL := Lib.hid hql
  have HPR := Lib.hid (program_any A len cap code w hx hl hcap)
  have HIN := Lib.hid (inBk_one (by rw [hl]; exact hm))
  clear hx hl hq hql
  by_cases h1 : ckProg vars [bkS code] = 0
  · have HC := Lib.hid h1
    have HR : Hid (ckW vars code (q.map (·.1)) = ckLs vars (q.map (·.1))) := Lib.hid (by unfold ckW; rw [if_pos h1])
    clear h1
    go_enter Try.func61, Try.ntmps61
    go_wp2_with (first
      | (go_at_call 64; (with_reducible refine HPR.out.mono ?_); rintro e w1 ⟨G, rfl, hp1, hb1⟩)
      | (go_at_call 56; (with_reducible refine (blockIs.check vars (some ⟨G, 0, none⟩) 1 1 [bkS code] _ hp1 rfl (by unfold maxLen; omega) HIN.out).mono ?_); rw [HC.out]; rintro e w2 ⟨rfl, hb2⟩))
    have HB := Lib.hid (below_via hb1 hb2)
    clear hp1 hb1 hb2
    go_loopw [20] (fun i wr => ∃ k : Nat, k ≤ m ∧ i = .int .i64 k ∧ Hid (ckLs vars (q.map (·.1)) = ckLs vars ((q.drop k).map (·.1))) ∧ Hid (Below w.heap.size w wr)) (fun i _ => m - (intOf i).toNat)
    case atStart => exact ⟨0, Nat.zero_le _, rfl, Lib.hid rfl, HB⟩
    case round =>
      obtain ⟨k, hk, rfl, HK, HBR⟩ := hrel
      by_cases hlt : k < m
      · obtain ⟨x, hx⟩ : ∃ x, q[k]? = some x := ⟨_, List.getElem?_eq_getElem (by rw [HQL.out]; exact hlt)⟩
        obtain ⟨ad, rfl, hbl, hc0, hrd⟩ := (HQ.out.below HBR.out) k x hx
        have HD := Lib.hid (ckLs_drop (vars := vars) hx)
        obtain ⟨l, PA, pc⟩ := x
        obtain ⟨pl, hpl⟩ : ∃ pl, l.length = pl := ⟨_, rfl⟩
        have HCK := Lib.hid (fun (Z : World) (hZ : Below wr.heap.size wr Z) => check_any vars PA pl pc l Z ((hrd.below hZ (Nat.le_refl _)).more hZ.size) hpl)
        simp only [hpl] at hc0 HD
        clear hx hpl hrd
        by_cases h2 : ckTerms vars l = 0
        · have H2 := Lib.hid h2
          clear h2
          go_wp2_with (go_at_call 89; (refine (HCK.out _ (by go_grown)).mono ?_); rw [H2.out]; rintro e w3 ⟨rfl, hb3⟩)
          go_round
          case rel => exact ⟨k + 1, by omega, by go_num, Lib.hid (by rw [HK.out, HD.out, if_pos H2.out]), Lib.hid (below_via HBR.out hb3)⟩
          case measure => (simp [intOf]; omega)
        · have e2 : (ckTerms vars l != 0) = true := by simp [h2]
          have HV : Hid (ckLs vars (q.map (·.1)) = ckTerms vars l) := Lib.hid (by rw [HK.out, HD.out, if_neg h2])
          clear h2
          go_wp2_with (go_at_call 89; (refine (HCK.out _ (by go_grown)).mono ?_); rintro e w3 ⟨rfl, hb3⟩)
          go_ret
          exact ⟨ret_int (by rw [HR.out, HV.out]), below_via HBR.out hb3⟩
      · have hkm : m ≤ k := by omega
        have HZ : Hid (ckLs vars (q.map (·.1)) = 0) := Lib.hid (by rw [HK.out, List.drop_of_length_le (by rw [HQL.out]; exact hkm)]; rfl)
        clear hkm
        go_wp2
        go_ret
        exact ⟨ret_int (by rw [HR.out, HZ.out]), HBR.out⟩
  · have e1 : (ckProg vars [bkS code] != 0) = true := by simp [h1]
    have HR : Hid (ckW vars code (q.map (·.1)) = ckProg vars [bkS code]) := Lib.hid (by unfold ckW; rw [if_neg h1])
    clear h1
    go_enter Try.func61, Try.ntmps61
    go_wp2_with (first
      | (go_at_call 64; (with_reducible refine HPR.out.mono ?_); rintro e w1 ⟨G, rfl, hp1, hb1⟩)
      | (go_at_call 56; (with_reducible refine (blockIs.check vars (some ⟨G, 0, none⟩) 1 1 [bkS code] _ hp1 rfl (by unfold maxLen; omega) HIN.out).mono ?_); rintro e w2 ⟨rfl, hb2⟩))
    go_ret
    exact ⟨ret_int HR.out.symm, below_via hb1 hb2⟩

end Go.Proofs.Ytfhnhbkdhdocjaa

/-
  weak.Ahead (S1): its contract.
-/

namespace Go.Proofs.Ytfhnhbkdhdocjaa
open Go.RowKit
set_option linter.unusedSimpArgs false
set_option linter.unusedVariables false
set_option maxRecDepth 100000

theorem rdLs_own {w' : World} {G : Nat} {t : TypeId} {q : List (List Tm × Option Addr × Nat)} (h : Own w' G t (q.map fun x => .slice x.2.1 x.1.length x.2.2)) (hx : ∀ x ∈ q, RdT w' w'.heap.size x.2.1 x.1) : RdLs w' (some ⟨G, 0, none⟩) q := fun k x hk => by
  refine ⟨⟨G, 0, none⟩, rfl, by rw [addr_add_block]; exact h.lt, ?_, hx x (List.mem_of_getElem? hk)⟩
  have ha : (⟨G, 0, none⟩ : Addr).add k = ⟨G, k, none⟩ := by unfold Addr.add; split <;> simp_all
  rw [ha]
  exact h.cell (by rw [List.getElem?_map, hk]; rfl)

theorem usesW_fit {n : Nat} {l : List Tm} (hc : ckTerms n l = 0) : usesW l < 2 ^ n := Nat.lt_pow_two_of_testBit _ fun v hv => by
  cases h : (usesW l).testBit v with
  | false => rfl
  | true =>
    exfalso
    rcases usW_only (needL l) l 0 v h with h0 | ⟨j, t, _, ht, ho, he⟩
    · simp at h0
    · have := ckTerm_cases (ckTerms_at hc ht)
      omega

theorem add_zeroW (a : Addr) : a.add 0 = a := by unfold Addr.add; simp

/-- on the way through a step's round -/
def AtT (base g m s0 G kt : Nat) (cs : List Value) (T : List Tm) (A : Option Addr) (c : Nat) (P : List Tm → Nat → Prop) (Y : World) (x : Nat × Value) (w : World) : Prop :=
  (x.1 ≤ 1 → Own w s0 87 cs) ∧ match x.1 with
  | 0 => Below Y.heap.size Y w
  | 1 => ∃ (T' : List Tm) (r : Nat) (A' : Option Addr) (c' : Nat), x.2 = .int .i64 (r : Int) ∧ P T' r ∧ LsAt base g m T' A' c' w ∧ Kpt g m (Value.slice A T.length c).ownBlock (Value.slice A' T'.length c').ownBlock Y w
  | _ => ∃ (T' : List Tm) (r : Nat) (A' : Option Addr) (c' : Nat) (w8 : World), P T' r ∧ LsAt base g m T' A' c' w8 ∧ Kpt g m (Value.slice A T.length c).ownBlock (Value.slice A' T'.length c').ownBlock Y w8 ∧ w = w8.setCell ⟨G, kt, none⟩ (.int .i64 (r : Int))

/-- the variables' places, and those of the terms so far -/
structure PsAt (base g m n : Nat) (T : List Tm) (A : Option Addr) (c G : Nat) (at_ : List Nat) (k : Nat) (B : Option Addr) (d : Nat) (pl : List Nat) (X : World) : Prop where
  vs : VsAt base g m n T A c G at_ X
  pr : X.ownsRow base 3 1 (.slice B k d) k (iv (ni pl))
  ap : ∀ b, (Value.slice B k d).ownBlock = some b → b ≠ G ∧ (Value.slice A T.length c).ownBlock ≠ some b

theorem PsAt.quiet {base g m n c G k d : Nat} {T : List Tm} {A B : Option Addr} {at_ pl : List Nat} {X X' : World} (h : PsAt base g m n T A c G at_ k B d pl X) (hb : Below X.heap.size X X') : PsAt base g m n T A c G at_ k B d pl X' :=
  ⟨h.vs.quiet hb, own_below h.pr hb, h.ap⟩

theorem PsAt.told {base g m n c c' G k d : Nat} {T T' : List Tm} {A A' B : Option Addr} {at_ pl : List Nat} {X X' : World} (h : PsAt base g m n T A c G at_ k B d pl X) (hl : LsAt base g m T' A' c' X') (hk : Kpt g m (Value.slice A T.length c).ownBlock (Value.slice A' T'.length c').ownBlock X X') :
    PsAt base g m n T' A' c' G at_ k B d pl X' := by
  have hgb := hl.gb
  have hmb := hl.mb
  refine ⟨h.vs.told hl hk, hk.row h.pr fun b hb => ?_, fun b hb => ⟨(h.ap b hb).1, hk.apart h.pr (fun b hb => (h.ap b hb).2) b hb⟩⟩
  have := (h.pr.lt b hb).1
  exact ⟨by omega, by omega, (h.ap b hb).2⟩

/-- one more place appended -/
theorem PsAt.app {base g m n c G k d d' : Nat} {T : List Tm} {A B B' : Option Addr} {at_ pl : List Nat} {r : Nat} {X X' : World} (h : PsAt base g m n T A c G at_ k B d pl X) (hown : X'.ownsRow base 3 1 (.slice B' (k + 1) d') (k + 1) (iv (ni pl) ++ [.int .i64 (r : Int)]))
    (hg : X.grownBy X' (Value.slice B k d).ownBlock) (hbl : (Value.slice B' (k + 1) d').ownBlock = (Value.slice B k d).ownBlock ∨ (Value.slice B' (k + 1) d').ownBlock = some X.heap.size) : PsAt base g m n T A c G at_ (k + 1) B' d' (pl ++ [r]) X' := by
  have hlt := h.pr.lt
  have hG := h.vs.vs.lt
  have hgb := h.vs.ls.gb
  have hmb := h.vs.ls.mb
  obtain ⟨f, f1, f2, f3⟩ := h.vs.ls.mp
  have hkeep : ∀ b, b < X.heap.size → (∀ q, (Value.slice B k d).ownBlock = some q → b ≠ q) → X'.heap[b]? = X.heap[b]? := fun b hb hne => hg.block b hb fun e => hne b e.symm rfl
  have hlow : ∀ b, b < base → X.heap.size ≥ base → X'.heap[b]? = X.heap[b]? := fun b hb hs => hkeep b (by omega) fun q hq => by have := (hlt q hq).1; omega
  have hbs : base ≤ X.heap.size := by have := h.vs.gb; omega
  refine ⟨⟨⟨(hlow g hgb hbs).trans h.vs.ls.box, h.vs.ls.row.kept hg ?_, ⟨f, f1.keep (hlow m hmb hbs), f2, f3⟩, hgb, hmb, h.vs.ls.ne⟩, (hkeep G hG fun q hq => fun e => (h.ap q hq).1 e.symm).trans h.vs.vs, h.vs.gb, h.vs.ap⟩, by
    rw [ni_append]; unfold iv at hown ⊢; rw [List.map_append]; exact hown, fun b hb => ?_⟩
  · cases he : (Value.slice A T.length c).ownBlock with
    | none => exact .inl rfl
    | some q => exact .inr fun e => (h.ap q e.symm).2 he
  · rcases hbl with hbl | hbl
    · exact h.ap b (by rw [← hbl]; exact hb)
    · rw [hbl] at hb
      injection hb with hb
      exact ⟨by omega, fun e => by have := (h.vs.ls.row.lt b e).2; omega⟩

theorem Kpt.grown {g m : Nat} {o o' : Option Nat} {X X' X2 X3 : World} {row : Option Nat} (h : Kpt g m o o' X X') (hb : Below X'.heap.size X' X2) (hg : X2.grownBy X3 row) (hr : ∀ q, row = some q → X.heap.size ≤ q) : Kpt g m o o' X X3 := by
  have h1 := h.size
  have h2 := hb.size
  refine ⟨(hg.os.trans hb.os).trans h.os, (hg.tape.trans hb.tape).trans h.tape, (hg.output.trans hb.output).trans h.output, Nat.le_trans h1 (Nat.le_trans h2 hg.size), fun i hi q1 q2 q3 => ?_, h.own⟩
  exact ((hg.block i (by omega) fun e => by have := hr i e.symm; omega).trans (hb.block i (by omega))).trans (h.block i hi q1 q2 q3)

set_option maxHeartbeats 4000000 in
theorem ahead_bad (vars : Int) (A PA : Option Addr) (len cap pl pc : Nat) (code : List St) (post : List Tm) (w : World) (hx : RdS w w.heap.size A code) (hl : code.length = len) (hcap : len ≤ cap) (hm : len * 40 ≤ 140737488351232) (hp : RdT w w.heap.size PA post) (hpl : post.length = pl) (hc : ckW vars code [post] ≠ 0) :
    Calls Try.prog 30 #[.int .i64 vars, .slice A len cap, .slice PA pl pc] w fun e w' => e = .returned (.tuple #[.slice none 0 0, .int .i64 (ckW vars code [post])]) ∧ Below w.heap.size w w' := by
  have HB0 : Hid (Below w.heap.size w (w.alloc (.cells #[.slice PA pl pc] 50))) := Lib.hid (by go_grown)
  have HCK := Lib.hid (weakCheck_any vars A (some ⟨w.heap.size, 0, none⟩) len cap 1 1 code [(post, PA, pc)] (w.alloc (.cells #[.slice PA pl pc] 50)) ((RdS.below hx HB0.out (Nat.le_refl _)).more HB0.out.size) hl hcap hm
    (rdLs_own (t := 50) (by rw [← hpl]; exact Own.new w _ _) (fun x hx => by rw [List.mem_singleton.1 hx]; exact (hp.below HB0.out (Nat.le_refl _)).more HB0.out.size)) rfl (by omega))
  have e1 : (ckW vars code [post] != 0) = true := by simp [hc]
  clear hx hl hp hpl hc
  go_enter Try.func30, Try.ntmps30
  go_wp2_with (go_at_call 61; (with_reducible refine HCK.out.mono ?_); rintro e w1 ⟨rfl, hb1⟩; simp only [List.map_cons, List.map_nil])
  go_returns
  exact ⟨rfl, below_via HB0.out hb1⟩

set_option maxHeartbeats 16000000 in
theorem ahead_any (n : Nat) (A PA : Option Addr) (len cap pl pc : Nat) (code : List St) (post : List Tm) (w : World) (hx : RdS w w.heap.size A code) (hl : code.length = len) (hcap : len ≤ cap) (hm : len * 40 ≤ 140737488351232) (hp : RdT w w.heap.size PA post) (hpl : post.length = pl) (hcp : ckProg n [bkS code] = 0) (hct : ckTerms n post = 0) :
    Calls Try.prog 30 #[.int .i64 n, .slice A len cap, .slice PA pl pc] w fun e w' => ∃ (T : List Tm) (A' : Option Addr) (c' : Nat), e = .returned (.tuple #[.slice A' T.length c', .int .i64 0]) ∧ Ahd n code post T ∧ RdT w' w'.heap.size A' T ∧ Below w.heap.size w w' := by
  have HB0 : Hid (Below w.heap.size w (w.alloc (.cells #[.slice PA pl pc] 50))) := Lib.hid (by go_grown)
  have HW0 : Hid (ckW n code [post] = 0) := Lib.hid (by unfold ckW ckLs; rw [if_pos hcp, if_pos hct]; rfl)
  have HCK := Lib.hid (weakCheck_any n A (some ⟨w.heap.size, 0, none⟩) len cap 1 1 code [(post, PA, pc)] (w.alloc (.cells #[.slice PA pl pc] 50)) ((RdS.below hx HB0.out (Nat.le_refl _)).more HB0.out.size) hl hcap hm
    (rdLs_own (t := 50) (by rw [← hpl]; exact Own.new w _ _) (fun x hx => by rw [List.mem_singleton.1 hx]; exact (hp.below HB0.out (Nat.le_refl _)).more HB0.out.size)) rfl (by omega))
  have HCP := Lib.hid hcp
  have HCT := Lib.hid hct
  have HXS := Lib.hid (fun (Z : World) (hZ : Below w.heap.size w Z) => program_any A len cap code Z ((RdS.below hx hZ (Nat.le_refl _)).more hZ.size) hl hcap)
  have HPR := Lib.hid (fun (Z : World) (hZ : Below w.heap.size w Z) => prune_any n PA pl pc post Z ((hp.below hZ (Nat.le_refl _)).more hZ.size) hpl hct)
  have HPC := Lib.hid (pr_ck hct)
  have HUR : Hid (usesR n (prL post) = usesW (prL post)) := Lib.hid (by unfold usesR; rw [if_pos (pr_ck hct)])
  have HUF := Lib.hid (usesW_fit (pr_ck hct))
  obtain ⟨b1, b2, _⟩ := ckProg_bd hcp
  obtain ⟨ql, hql⟩ : ∃ ql, (prL post).length = ql := ⟨_, rfl⟩
  have HQL := Lib.hid hql
  have hq16 : ql ≤ 16 := by have := (ckTerms_bd (pr_ck hct)).2.2.2; omega
  have hmm := @run_makeMap Try.prog
  clear hx hl hp hpl hcp hct hql
  go_enter Try.func30, Try.ntmps30
  go_upto_region 8 with (first
    | (go_at_call 61; (with_reducible refine HCK.out.mono ?_); rintro e w1 ⟨rfl, hb1⟩; simp only [List.map_cons, List.map_nil]; rw [HW0.out]; have HB1 := Lib.hid (below_via HB0.out hb1); clear hb1)
    | (go_at_call 62; (refine (HPR.out _ HB1.out).mono ?_); rw [HQL.out]; rintro e w2 ⟨A1, c1, rfl, hx1, hb2⟩; have HX1 := Lib.hid hx1; have HB2 := Lib.hid (below_via HB1.out hb2); clear hx1 hb2)
    | (go_at_call 63; (refine (uses_any n A1 ql c1 (prL post) _ HX1.out HQL.out).mono ?_); rw [HUR.out, HPC.out]; rintro e w3 ⟨rfl, hb3⟩; have HX3 := Lib.hid ((HX1.out.below hb3 (Nat.le_refl _)).more hb3.size); have HB3 := Lib.hid (below_via HB2.out hb3); clear hb3)
    | (go_at_call 64; (refine (HXS.out _ HB3.out).mono ?_); rintro e w4 ⟨G, rfl, hp4, hb4⟩; have HP4 := Lib.hid hp4; have HX4 := Lib.hid ((HX3.out.below hb4 (Nat.le_refl _)).more hb4.size); have HB4 := Lib.hid (below_via HB3.out hb4); clear hp4 hb4)
    | (go_at_call 22; (refine (trimIs.trim n (usesW (prL post)) (some ⟨G, 0, none⟩) 1 1 [bkS code] _ HP4.out rfl HCP.out HUF.out).mono ?_); rintro e w5 ⟨A5, c5, p5, rfl, hp5, hcu, hnf, hb5⟩; have HP5 := Lib.hid hp5; have HCU := Lib.hid hcu; have HNF := Lib.hid hnf; have HX5 := Lib.hid ((HX4.out.below hb5 (Nat.le_refl _)).more hb5.size); have HB5 := Lib.hid (below_via HB4.out hb5); clear hp5 hcu hnf hb5)
    | (go_at_call 17; (refine (liveIs.in_ n (usesW (prL post)) A5 1 c5 p5 _ HP5.out (by rw [HCU.out.len]; rfl) (HCU.out.ok HCP.out) HUF.out).mono ?_); rintro e w6 ⟨A6, c6, L, rfl, hr6, hlv, hb6⟩; have HL6 := Lib.hid hr6; have HLV := Lib.hid hlv; have HP6 := Lib.hid ((HP5.out.below hb6 (Nat.le_refl _)).more hb6.size); have HX6 := Lib.hid ((HX5.out.below hb6 (Nat.le_refl _)).more hb6.size); have HB6 := Lib.hid (below_via HB5.out hb6); clear hr6 hlv hb6))
  go_upto_region 9 with fail
  obtain ⟨b, hpb, hbt, hbn, _, hbl⟩ := cuts_one' HCU.out rfl
  rw [hpb] at HCU HNF HLV HP6
  have hbl20 : b.code.length ≤ 20 := by
    obtain ⟨_, _, _, _, h5, _⟩ := ckProg_bd HCP.out
    have : manyS [bkS code] = code.length := by simp [manyS, bkS]
    have : (bkS code).code.length = code.length := rfl
    have : (bkS code).test = -1 := rfl
    omega
  have HBT : Hid (b.test = -1) := Lib.hid (hbt.trans rfl)
  have HBN : Hid (b.th = -1) := Lib.hid (hbn.trans rfl)
  have HOK : Hid (ckProg n [b] = 0) := Lib.hid (HCU.out.ok HCP.out)
  obtain ⟨ad6, W, hA6, hb6, hW0, hc6⟩ := HL6.out.at_ (k := 0) (by rw [HLV.out.len]; simp)
  obtain ⟨ad5, b', Ac, cc, hA5, hb5, hb0, hrs, hc5, _⟩ := HP6.out.atc (k := 0) (by simp)
  simp at hb0
  subst hb0
  have HWB : Hid (∀ v, v < n → (W.testBit v = true ↔ Lv [b] (usesW (prL post)) v (0, 0))) := Lib.hid (HLV.out.bit 0 W hW0)
  have hW32 : W < 4294967296 := want_small (HLV.out.lt 0 W hW0) (by omega)
  subst hA6 hA5
  rw [add_zeroW] at hb6 hc6
  rw [Nat.zero_mul, add_zeroW] at hb5 hc5
  have HC6 := Lib.hid (fun (Z : World) (hZ : Below w6.heap.size w6 Z) => show Z.cell? ad6 = some (.int .u32 (W : Int)) ∧ Z.cell? ad5 = some (.slice Ac b.code.length cc) from ⟨(hZ.cell hb6).trans hc6, (hZ.cell hb5).trans hc5⟩)
  have HRS := Lib.hid (fun (Z : World) (hZ : Below w6.heap.size w6 Z) => (RdS.below hrs hZ (Nat.le_refl _)).more hZ.size)
  obtain ⟨cl, hcl⟩ : ∃ cl, b.code.length = cl := ⟨_, rfl⟩
  have HCL := Lib.hid hcl
  rw [hcl] at hbl20 HC6
  have HL0 : Hid (LsAt (w6.heap.size + 2) (w6.heap.size + 1) w6.heap.size [] none 0 ((w6.alloc (.map #[] 0)).alloc (.cells #[.slice none 0 0, .map (some w6.heap.size)] 108))) := Lib.hid
    ⟨by simpa using Own.new (w6.alloc (.map #[] 0)) 108 [.slice none 0 0, .map (some w6.heap.size)], World.ownsRow_nil _ _ _ _, ⟨fun _ => none, (OwnF.new w6).alloc _, by simp, by simp⟩, by omega, by omega, by omega⟩
  have HBY : Hid (Below w6.heap.size w6 ((w6.alloc (.map #[] 0)).alloc (.cells #[.slice none 0 0, .map (some w6.heap.size)] 108))) := Lib.hid (by go_grown)
  have HSY : Hid (((w6.alloc (.map #[] 0)).alloc (.cells #[.slice none 0 0, .map (some w6.heap.size)] 108)).heap.size = w6.heap.size + 2) := Lib.hid (by simp)
  obtain ⟨Y, hY⟩ : ∃ Y, Y = (w6.alloc (.map #[] 0)).alloc (.cells #[.slice none 0 0, .map (some w6.heap.size)] 108) := ⟨_, rfl⟩
  rw [← hY] at HL0 HBY HSY ⊢
  clear hY hrs hc5 hc6 hpb hbt hbn hbl hmm hcl
  obtain ⟨S6, hS6⟩ : ∃ S6, w6.heap.size = S6 := ⟨_, rfl⟩
  have HS6 := Lib.hid hS6
  rw [hS6] at HL0 HSY hb6 hb5
  simp only [hS6]
  clear hS6
  have hSY := HSY.out
  have HLOW := Lib.hid (fun (o' : Option Nat) (Z : World) (hk : Kpt (S6 + 1) S6 none o' Y Z) => show Below w6.heap.size w6 Z from HBY.out.trans (by rw [HS6.out]; exact hk.below (by omega) (by omega) (fun b h => by cases h) (by omega)))
  have HVA := Lib.hid (variables_any n (S6 + 2) (S6 + 1) S6 W Y HL0.out (by omega) (by omega) (by omega) hW32)
  have d6 := (HC6.out Y HBY.out).1
  clear hSY
  go_upto_region 10 with (go_at_call 65; (refine HVA.out.mono ?_); rintro e w7 ⟨T0, A0, c0, G0, at0, rfl, hwv, hvs, hk0⟩)
  have HWS : Hid (WsI n [b] (usesW (prL post)) b.code 0 T0 at0) := Lib.hid (hwv.done HWB.out)
  have HVS := Lib.hid hvs
  have HK0 := Lib.hid hk0
  have d5 := (HC6.out w7 (HLOW.out _ _ hk0)).2
  have hb57 : ad5.block < w7.heap.size := by have := (HLOW.out _ _ hk0).size; have := HS6.out; omega
  clear hwv hvs hk0 d6
  go_wp2_with fail
  clear d5 hb57
  have hn6 : n ≤ 6 := by omega
  have HCODE : Hid (ckStepsF n n b.code = 0) := Lib.hid (ckProg_at HOK.out (k := 0) rfl).code
  go_loopw [69] (fun i wr => ∃ (k : Nat) (T : List Tm) (A : Option Addr) (c : Nat) (at_ : List Nat), k ≤ cl ∧ i = .int .i64 k ∧ Hid (WsI n [b] (usesW (prL post)) b.code k T at_) ∧ Hid (VsAt (S6 + 2) (S6 + 1) S6 n T A c G0 at_ wr) ∧ Hid (Kpt (S6 + 1) S6 none (Value.slice A T.length c).ownBlock Y wr)) (fun i _ => cl - (intOf i).toNat)
  case atStart => exact ⟨0, T0, A0, c0, at0, Nat.zero_le _, rfl, HWS, HVS, HK0⟩
  case round =>
    obtain ⟨k, T, AT, cT, at_, hk, rfl, HI, HV, HK⟩ := hrel
    have hBlow := HLOW.out _ _ HK.out
    by_cases hlt : k < cl
    · obtain ⟨ad, o, t, a, bb, v, rfl, hbl, hd, hc0, hc1, hc2, hc3, hc4⟩ := (HRS.out wr hBlow).at_ (k := k) (by rw [HCL.out]; exact hlt)
      have hcks := ckStepsF_at HCODE.out hd
      simp only [] at hcks
      obtain ⟨⟨ht0, ht1⟩, hcase⟩ := ckStep_cases hcks
      obtain ⟨tn, rfl⟩ := Int.eq_ofNat_of_zero_le ht0
      have htn : tn < n := by omega
      have HD := Lib.hid hd
      have HCKS := Lib.hid hcks
      have hal : at_.length = n := HI.out.len
      have HRO : Hid (ResOk n T at_ at_ ⟨o, a, bb, v⟩) := Lib.hid (HI.out.resOk rfl hd hcks)
      have hTl : T.length ≤ 100 := by have := HI.out.tl; omega
      have hcase2 : (o = 1 ∧ 0 ≤ v ∧ v < 256) ∨ (o = 2 ∧ 0 ≤ v ∧ v < n) ∨ (3 ≤ o ∧ o ≤ 6 ∧ 0 ≤ a ∧ a < n ∧ 0 ≤ bb ∧ bb < n) := by omega
      have HCS2 := Lib.hid hcase2
      have HX0 : Hid (Own (wr.alloc (.cells #[.int .i64 o, .int .i64 (tn : Int), .int .i64 a, .int .i64 bb, .int .i64 v] 87)) wr.heap.size 87 [.int .i64 o, .int .i64 (tn : Int), .int .i64 a, .int .i64 bb, .int .i64 v]) := Lib.hid (Own.new wr _ _)
      have HBX : Hid (Below wr.heap.size wr (wr.alloc (.cells #[.int .i64 o, .int .i64 (tn : Int), .int .i64 a, .int .i64 bb, .int .i64 v] 87))) := Lib.hid (by go_grown)
      clear hd hcks hcase hcase2 ht0 ht1 hBlow
      go_upto_region 13 with fail
      obtain ⟨Z, hZ⟩ : ∃ Z, Z = wr.alloc (.cells #[.int .i64 o, .int .i64 (tn : Int), .int .i64 a, .int .i64 bb, .int .i64 v] 87) := ⟨_, rfl⟩
      rw [← hZ] at HX0 HBX ⊢
      clear hZ hc0 hc1 hc2 hc3 hc4 hbl
      have HVZ := Lib.hid (HV.out.quiet HBX.out)
      have HKZ : Hid (Kpt (S6 + 1) S6 none (Value.slice AT T.length cT).ownBlock Y Z) := Lib.hid (HK.out.trans (Kpt.of_below _ HBX.out))
      have hsw : S6 + 2 ≤ wr.heap.size := by have := HV.out.vs.lt; have := HV.out.gb; omega
      have HAP : Hid (wr.heap.size ≠ S6 + 1 ∧ wr.heap.size ≠ S6 ∧ (Value.slice AT T.length cT).ownBlock ≠ some wr.heap.size ∧ G0 ≠ wr.heap.size) := Lib.hid ⟨by omega, by omega, fun e => by have := (HV.out.ls.row.lt _ e).2; omega, by have := HV.out.vs.lt; omega⟩
      have hsZ : S6 + 2 ≤ Z.heap.size := Nat.le_trans hsw HBX.out.size
      obtain ⟨s0, hs0⟩ : ∃ s0, wr.heap.size = s0 := ⟨_, rfl⟩
      have HS0 := Lib.hid hs0
      rw [hs0] at HX0 HAP
      simp only [hs0]
      clear hs0 hsw
      have HRES := Lib.hid (fun (Q : World) (hQ : Below Z.heap.size Z Q) => result_any n (S6 + 2) (S6 + 1) S6 T AT cT o a bb v (some ⟨G0, 0, none⟩) (some ⟨G0, 0, none⟩) n n n n at_ at_ Q (HVZ.out.quiet hQ).ls hTl (Nat.le_trans hsZ hQ.size)
        ((OwnI.rd (HVZ.out.quiet hQ).vs).more (HVZ.out.quiet hQ).vs.lt) hal ((OwnI.rd (HVZ.out.quiet hQ).vs).more (HVZ.out.quiet hQ).vs.lt) hal (by omega) (by omega) HRO.out HCS2.out)
      refine wp_region_steps (X := Nat × (Value)) (AtT (S6 + 2) (S6 + 1) S6 s0 G0 tn [.int .i64 o, .int .i64 (tn : Int), .int .i64 a, .int .i64 bb, .int .i64 v] T AT cT (ResT T at_ at_ ⟨o, a, bb, v⟩) Z) (fun x j => doneL [0, 0, 0, 0, 0, 0, 0, 0, 0, 0, 0, 0, 0, 0, 1, 0, 2] x.1 j) (effL [0, 0, 0, 0, 0, 0, 0, 0, 0, 0, 0, 0, 0, 0, 1, 0, 2]) (0, undef) (fun x => [.slice (some ⟨G0, 0, none⟩) n n, .pointer (some ⟨s0, 1, none⟩), .int .i64 (tn : Nat), .pointer (some ⟨s0, 0, none⟩), .int .i64 o, .pointer (some ⟨s0, 2, none⟩), .int .i64 a, .pointer (some ⟨s0, 3, none⟩), .int .i64 bb, .pointer (some ⟨s0, 4, none⟩), .int .i64 v, .agg #[.int .i64 o, .int .i64 a, .int .i64 bb, .int .i64 v], .slice (some ⟨G0, 0, none⟩) n n, .slice (some ⟨G0, 0, none⟩) n n, x.2, .pointer (some ⟨G0, tn, none⟩), undef]) _ (by kernel_rfl) (by kernel_rfl) (by kernel_rfl) (fun x => by simp only [putsD, Act.put, List.setIfInBounds_toArray, List.set_cons_zero, List.set_cons_succ]; exact rfl) h0L ⟨fun _ => HX0.out, below_drewW (Below.refl _ _)⟩ (fun x => ?_) (fun x wz hDz hSz => ?_)
      · refine AllS.val (by rfl) (by rfl) (fun w hSw hPw => by go_simp) ?_
        refine AllS.val (by rfl) (by rfl) (fun w hSw hPw => by go_simp) ?_
        refine AllS.val (by rfl) (by rfl) (fun w hSw hPw => ?_) ?_
        · (try dsimp only at hSw)
          have q0 := (hSw.1 (leW (hPw.not (j := 16) rfl (by kernel_rfl)))).cell (j := 1) rfl
          go_simp
        refine AllS.val (by rfl) (by rfl) (fun w hSw hPw => by go_simp) ?_
        refine AllS.val (by rfl) (by rfl) (fun w hSw hPw => ?_) ?_
        · (try dsimp only at hSw)
          have q0 := (hSw.1 (leW (hPw.not (j := 16) rfl (by kernel_rfl)))).cell (j := 0) rfl
          go_simp
        refine AllS.val (by rfl) (by rfl) (fun w hSw hPw => by go_simp) ?_
        refine AllS.val (by rfl) (by rfl) (fun w hSw hPw => ?_) ?_
        · (try dsimp only at hSw)
          have q0 := (hSw.1 (leW (hPw.not (j := 16) rfl (by kernel_rfl)))).cell (j := 2) rfl
          go_simp
        refine AllS.val (by rfl) (by rfl) (fun w hSw hPw => by go_simp) ?_
        refine AllS.val (by rfl) (by rfl) (fun w hSw hPw => ?_) ?_
        · (try dsimp only at hSw)
          have q0 := (hSw.1 (leW (hPw.not (j := 16) rfl (by kernel_rfl)))).cell (j := 3) rfl
          go_simp
        refine AllS.val (by rfl) (by rfl) (fun w hSw hPw => by go_simp) ?_
        refine AllS.val (by rfl) (by rfl) (fun w hSw hPw => ?_) ?_
        · (try dsimp only at hSw)
          have q0 := (hSw.1 (leW (hPw.not (j := 16) rfl (by kernel_rfl)))).cell (j := 4) rfl
          go_simp
        refine AllS.val (by rfl) (by rfl) (fun w hSw hPw => by go_simp) ?_
        refine AllS.val (by rfl) (by rfl) (fun w hSw hPw => by go_simp) ?_
        refine AllS.val (by rfl) (by rfl) (fun w hSw hPw => by go_simp) ?_
        refine AllS.turn (fun _ _ => rfl) (by rfl) (fun w hSw hPw K hK => ?_) ?_
        · (try dsimp only at hSw)
          have h0 := leW (hPw.me rfl)
          have hx0 : x.1 = 0 := by exact Nat.le_zero.1 h0
          obtain ⟨p, y⟩ := x
          (try dsimp only at hx0)
          subst hx0
          obtain ⟨ho, hq⟩ := hSw
          (try dsimp only at hq ho)
          go_simp
          go_at_call 66
          refine (HRES.out _ hq).mono ?_
          rintro e w7 ⟨T', r, A', c', rfl, hp, hl', hk'⟩
          go_simp
          exact hK (1, .int .i64 (r : Nat)) _ (nxtL rfl (by decide)) ⟨fun _ => hk'.own_ (ho (by decide)) HAP.out.1 HAP.out.2.1 HAP.out.2.2.1, T', r, A', c', rfl, hp, hl', (Kpt.of_below _ hq).trans hk'⟩
        refine AllS.val (by rfl) (by rfl) (fun w hSw hPw => by go_simp) ?_
        refine AllS.turn (fun _ _ => rfl) (by rfl) (fun w hSw hPw K hK => ?_) ?_
        · (try dsimp only at hSw)
          have h0 := leW (hPw.me rfl)
          have h1 := geW (hPw.need (k := 14) rfl (by kernel_rfl))
          have hx0 : x.1 = 1 := Nat.le_antisymm h0 h1
          obtain ⟨p, y⟩ := x
          (try dsimp only at hx0)
          subst hx0
          obtain ⟨_, T', r, A', c', hy, hp, hl', hk'⟩ := hSw
          (try dsimp only at hy)
          subst hy
          have hgo := (HVZ.out.told hl' hk').vs
          have k0 := hgo.cell (iv_at (ni_at (List.getElem?_eq_getElem (show tn < at_.length by omega))))
          have k1 := hgo.frozen tn
          go_simp
          exact hK (2, _) _ (nxtL rfl (by decide)) ⟨fun h => absurd h (by simp), T', r, A', c', w, hp, hl', hk', rfl⟩
        exact AllS.nil
      have hd4 := geW (hDz 16 (by decide) (by decide))
      obtain ⟨p, y⟩ := x
      (try dsimp only at hd4)
      obtain ⟨q, rfl⟩ : ∃ q, p = q + 2 := ⟨p - 2, by simp at hd4; omega⟩
      obtain ⟨_, T', r, A', c', w8, hp, hl', hk', rfl⟩ := hSz
      have HI2 : Hid (WsI n [b] (usesW (prL post)) b.code (k + 1) T' (at_.set tn r)) := Lib.hid (HI.out.step rfl HD.out HCKS.out HNF.out hp)
      have HV2 : Hid (VsAt (S6 + 2) (S6 + 1) S6 n T' A' c' G0 (at_.set tn r) (w8.setCell ⟨G0, tn, none⟩ (.int .i64 (r : Int)))) := Lib.hid (HVZ.out.put hl' hk')
      have HK2 : Hid (Kpt (S6 + 1) S6 none (Value.slice A' T'.length c').ownBlock Y (w8.setCell ⟨G0, tn, none⟩ (.int .i64 (r : Int)))) := Lib.hid ((HKZ.out.trans hk').setNew (p := ⟨G0, tn, none⟩) (by rw [HSY.out]; exact HV.out.gb) _)
      clear hDz hd4 hp hl' hk'
      go_wp2
      go_round
      case rel => exact ⟨k + 1, T', A', c', at_.set tn r, by omega, by go_num, HI2, HV2, HK2⟩
      case measure => (simp [intOf]; omega)
    · have hkc : k = cl := by omega
      subst hkc
      have HP0 : Hid (WpI n b.code (usesW (prL post)) (prL post) at_ 0 T []) := Lib.hid (WsI.done (by rw [HCL.out]; exact HI.out) rfl HBT.out HBN.out)
      have HS0 : Hid (PsAt (S6 + 2) (S6 + 1) S6 n T AT cT G0 at_ 0 none 0 [] wr) := Lib.hid ⟨HV.out, World.ownsRow_nil _ _ _ _, fun b h => by cases h⟩
      have HKL := HK
      have hal : at_.length = n := HI.out.len
      have HAL := Lib.hid hal
      have HXQ := Lib.hid (fun (Q : World) (hQ : Below w6.heap.size w6 Q) => (HX6.out.below hQ (Nat.le_refl _)).more hQ.size)
      clear hal hBlow HI HV HK hk
      obtain ⟨wo, rfl⟩ : ∃ wo : World, wo = wr := ⟨_, rfl⟩
      obtain ⟨T1, rfl⟩ : ∃ T1 : List Tm, T1 = T := ⟨_, rfl⟩
      obtain ⟨A2, rfl⟩ : ∃ A2 : Option Addr, A2 = AT := ⟨_, rfl⟩
      go_wp2_with fail
      go_loopw [19, 92] (fun s i wr => ∃ (k : Nat) (T : List Tm) (A : Option Addr) (c : Nat) (pl : List Nat) (B : Option Addr) (d : Nat), k ≤ ql ∧ i = .int .i64 k ∧ s = .slice B k d ∧ Hid (WpI n b.code (usesW (prL post)) (prL post) at_ k T pl) ∧ Hid (PsAt (S6 + 2) (S6 + 1) S6 n T A c G0 at_ k B d pl wr) ∧ Hid (Kpt (S6 + 1) S6 none (Value.slice A T.length c).ownBlock Y wr)) (fun _ i _ => ql - (intOf i).toNat)
      case atStart => exact ⟨0, T1, A2, cT, [], none, 0, Nat.zero_le _, rfl, rfl, HP0, HS0, HKL⟩
      case round =>
        obtain ⟨k, T, AT, cT, pl, B, d, hk, rfl, rfl, HI, HV, HK⟩ := hrel
        have hBlow := HLOW.out _ _ HK.out
        by_cases hlt : k < ql
        · obtain ⟨ad, o, a, bb, v, rfl, hbl, hd, hc0, hc1, hc2, hc3⟩ := (HXQ.out wr hBlow).at_ (k := k) (by rw [HQL.out]; exact hlt)
          have hcase := ckTerm_cases (ckTerms_at HPC.out hd)
          simp only [] at hcase
          have HD := Lib.hid hd
          have hpl : pl.length = k := HI.out.len
          have HRO : Hid (ResOk n T at_ pl ⟨o, a, bb, v⟩) := Lib.hid (HI.out.resOk HPC.out (fun r hr => pr_all HCT.out hr) hd)
          have hTl : T.length ≤ 100 := by have := HI.out.tl; rw [HCL.out] at this; omega
          have hcase2 : (o = 1 ∧ 0 ≤ v ∧ v < 256) ∨ (o = 2 ∧ 0 ≤ v ∧ v < n) ∨ (3 ≤ o ∧ o ≤ 6 ∧ 0 ≤ a ∧ a < k ∧ 0 ≤ bb ∧ bb < k) := by omega
          have HBX : Hid (Below wr.heap.size wr (wr.alloc (.cells #[.int .i64 o, .int .i64 a, .int .i64 bb, .int .i64 v] 56))) := Lib.hid (by go_grown)
          have hsw : S6 + 2 ≤ wr.heap.size := by have := HV.out.vs.vs.lt; have := HV.out.vs.gb; omega
          have HSW := Lib.hid hsw
          have HRES := Lib.hid (fun (Q : World) (hQ : Below wr.heap.size wr Q) => result_any n (S6 + 2) (S6 + 1) S6 T AT cT o a bb v (some ⟨G0, 0, none⟩) B n n k d at_ pl Q (HV.out.quiet hQ).vs.ls hTl (Nat.le_trans hsw hQ.size)
            ((OwnI.rd (HV.out.quiet hQ).vs.vs).more (HV.out.quiet hQ).vs.vs.lt) HAL.out (own_rdI (HV.out.quiet hQ).pr (by unfold ni; rw [List.length_map]; exact hpl)) hpl (by omega) (by omega) HRO.out hcase2)
          have h63 : k + 1 ≤ maxLen := by unfold maxLen; omega
          have hbig : (k + 1) * 8 ≤ 140737488355328 := by omega
          clear hd hcase hcase2 hBlow hsw hpl
          go_wp2_with (first
            | (go_at_call 66; (refine (HRES.out _ HBX.out).mono ?_); rintro e w8 ⟨T', r, A', c', rfl, hp, hl', hk'⟩; have HPP := Lib.hid hp; have HV8 := Lib.hid ((HV.out.quiet HBX.out).told hl' hk'); have HK8 := Lib.hid ((HK.out.trans (Kpt.of_below _ HBX.out)).trans hk'); have hs8 : S6 + 2 ≤ w8.heap.size := Nat.le_trans (Nat.le_trans HSW.out HBX.out.size) hk'.size; clear hp hl' hk')
            | (at_builtin; refine wpList_app' rfl (.tmp 96) (.tmp 101) 39 rfl (S6 + 2) 3 1 8 int_app _ rfl (HV8.out.quiet (by go_grown)).pr [.int .i64 (r : Nat)] rfl rfl (fun h => by cases h) (cells_at rfl _ _) (one_cell _) h63 hbig (by simp; omega) ?_; intro B' d' w9 hown9 hg9 hb9 hbl9; have HV9 := Lib.hid ((HV8.out.quiet (by go_grown)).app hown9 hg9 hbl9); have HK9 := Lib.hid (HK8.out.grown (by go_grown) hg9 (fun q hq => by rw [HSY.out]; exact (HV.out.pr.lt q hq).1)); clear hown9 hg9 hb9 hbl9))
          go_round
          case rel => exact ⟨k + 1, T', A', c', pl ++ [r], B', d', by omega, by go_num, rfl, Lib.hid (HI.out.step HPC.out (fun r hr => pr_all HCT.out hr) HD.out HPP.out), HV9, HK9⟩
          case measure => (simp [intOf]; omega)
        · have hkq : k = ql := by omega
          subst hkq
          have HAH : Hid (Ahd n code post T) := Lib.hid (ahd_of HCP.out HCT.out HCU.out HBT.out HBN.out (by rw [HQL.out]; exact HI.out))
          have HRT := Lib.hid (own_rdT HV.out.vs.ls.row rfl)
          have d0 := HV.out.vs.ls.box.cell (j := 0) rfl
          have hgl := HV.out.vs.ls.box.lt
          have HBF := Lib.hid (HB6.out.trans (hBlow.mono HB6.out.size))
          clear hBlow HI HV HK
          go_wp2
          go_returns
          exact ⟨T, AT, cT, rfl, HAH.out, HRT.out, HBF.out⟩

end Go.Proofs.Ytfhnhbkdhdocjaa

/-
  weak.Holds (S1): its contract.
-/

namespace Go.Proofs.Ytfhnhbkdhdocjaa
open Go.RowKit
set_option linter.unusedSimpArgs false
set_option linter.unusedVariables false
set_option maxRecDepth 100000

/-- S1: Holds' code -/
def ckH (vars : Int) (pre : List Tm) (code : List St) (post : List Tm) (hv : List Int) : Int := if ckW vars code [pre, post] = 0 then ckHave vars hv else ckW vars code [pre, post]

/-- S1: what Holds tells -/
def hdB (pre : List Tm) (code : List St) (post : List Tm) (hv : List Int) : Bool := valT pre hv == 0 || valT post (doS code hv) != 0

/-- what Holds hands back beside the code -/
def hdR (vars : Int) (pre : List Tm) (code : List St) (post : List Tm) (hv : List Int) : Bool := if ckH vars pre code post hv = 0 then hdB pre code post hv else false

theorem ckW_parts {vars : Int} {code : List St} {pre post : List Tm} (h : ckW vars code [pre, post] = 0) : ckProg vars [bkS code] = 0 ∧ ckTerms vars pre = 0 ∧ ckTerms vars post = 0 := by
  unfold ckW at h
  split at h
  · rename_i h1
    unfold ckLs at h
    split at h
    · rename_i h2
      unfold ckLs at h
      split at h
      · rename_i h3; exact ⟨h1, h2, h3⟩
      · rename_i h3; exact absurd h h3
    · rename_i h2; exact absurd h h2
  · rename_i h1; exact absurd h h1

set_option maxHeartbeats 8000000 in
theorem holds_any (vars : Int) (A PA QA HA : Option Addr) (len cap pl pc ql qc hl hc : Nat) (code : List St) (pre post : List Tm) (hv : List Int) (w : World) (hx : RdS w w.heap.size A code) (hlen : code.length = len) (hcap : len ≤ cap) (hm : len * 40 ≤ 140737488351232)
    (hp : RdT w w.heap.size PA pre) (hpl : pre.length = pl) (hq : RdT w w.heap.size QA post) (hql : post.length = ql) (hh : RdI w w.heap.size HA hv) (hhl : hv.length = hl) (hhm : hl ≤ maxLen) :
    Calls Try.prog 38 #[.int .i64 vars, .slice PA pl pc, .slice A len cap, .slice QA ql qc, .slice HA hl hc] w fun e w' => e = .returned (.tuple #[.bool (hdR vars pre code post hv), .int .i64 (ckH vars pre code post hv)]) ∧ Below w.heap.size w w' := by
  have HB0 : Hid (Below w.heap.size w (w.alloc (.cells #[.slice PA pl pc, .slice QA ql qc] 50))) := Lib.hid (by go_grown)
  have HCK := Lib.hid (weakCheck_any vars A (some ⟨w.heap.size, 0, none⟩) len cap 2 2 code [(pre, PA, pc), (post, QA, qc)] (w.alloc (.cells #[.slice PA pl pc, .slice QA ql qc] 50)) ((RdS.below hx HB0.out (Nat.le_refl _)).more HB0.out.size) hlen hcap hm
    (rdLs_own (t := 50) (by rw [← hpl, ← hql]; exact Own.new w _ _) (fun x hx => by
      simp at hx
      rcases hx with rfl | rfl
      · exact (hp.below HB0.out (Nat.le_refl _)).more HB0.out.size
      · exact (hq.below HB0.out (Nat.le_refl _)).more HB0.out.size)) rfl (by omega))
  by_cases h1 : ckW vars code [pre, post] = 0
  · obtain ⟨hcp, hc1, hc2⟩ := ckW_parts h1
    have HW0 := Lib.hid h1
    have HCP := Lib.hid hcp
    have HC1 := Lib.hid hc1
    have HC2 := Lib.hid hc2
    have HRP := Lib.hid (fun (Z : World) (hZ : Below w.heap.size w Z) => value_any vars PA HA pl pc hl hc pre hv Z ((hp.below hZ (Nat.le_refl _)).more hZ.size) ((hh.below hZ (Nat.le_refl _)).more hZ.size) hpl hhl hhm)
    have HCV : Hid (ckVal vars pre hv = ckHave vars hv) := Lib.hid (by unfold ckVal; rw [if_pos hc1])
    have HH : Hid (ckH vars pre code post hv = ckHave vars hv) := Lib.hid (by unfold ckH; rw [if_pos h1])
    by_cases h2 : ckHave vars hv = 0
    · have HH0 := Lib.hid h2
      obtain ⟨n, rfl, hn1, hn6⟩ := ckProg_nat hcp
      have hvo := valsOk_of h2
      have hln : hl = n := by rw [← hhl]; exact hvo.1
      subst hln
      have HVO := Lib.hid hvo
      have HVR : Hid (valR hl pre hv = valT pre hv) := Lib.hid (by unfold valR; rw [if_pos (by rw [HCV.out]; exact h2)])
      have HPG := Lib.hid (fun (Z : World) (hZ : Below w.heap.size w Z) => program_any A len cap code Z ((RdS.below hx hZ (Nat.le_refl _)).more hZ.size) hlen hcap)
      have HRH := Lib.hid (fun (Z : World) (hZ : Below w.heap.size w Z) => (hh.below hZ (Nat.le_refl _)).more hZ.size)
      have HRQ := Lib.hid (fun (Z : World) (hZ : Below w.heap.size w Z) => (hq.below hZ (Nat.le_refl _)).more hZ.size)
      have HQL := Lib.hid hql
      have hdo := doS_ok (ckProg_at hcp (k := 0) (b := bkS code) rfl).code hvo
      have HDO := Lib.hid hdo
      have HDV : Hid (valR hl post (doS code hv) = valT post (doS code hv) ∧ ckVal hl post (doS code hv) = 0) := Lib.hid (by
        have : ckVal hl post (doS code hv) = 0 := ckVal_of hc2 (ckHave_vals hdo)
        exact ⟨by unfold valR; rw [if_pos this], this⟩)
      have HDL : Hid ((doS code hv).length = hl) := Lib.hid hdo.1
      have HRES : Hid (hdR hl pre code post hv = (valT pre hv == 0 || valT post (doS code hv) != 0)) := Lib.hid (by unfold hdR; rw [HH.out, if_pos h2]; rfl)
      rw [HH.out, h2, HRES.out]
      clear hx hlen hp hpl hq hql hh hhl h1 h2 hcp hc1 hc2 hvo hdo
      obtain ⟨x1, hx1⟩ : ∃ x1, valT pre hv = x1 := ⟨_, rfl⟩
      obtain ⟨x2, hx2⟩ : ∃ x2, valT post (doS code hv) = x2 := ⟨_, rfl⟩
      rw [hx1] at HVR ⊢
      rw [hx2] at HDV ⊢
      clear hx1 hx2
      rcases Decidable.em (x1 = 0) with hz | hz
      all_goals
        have HZ := Lib.hid hz
        first | subst hz | (have e2 : (x1 == 0) = false := (by simp [hz]); clear hz)
        go_enter Try.func38, Try.ntmps38
        go_wp2_with (first
          | (go_at_call 61; (with_reducible refine HCK.out.mono ?_); rintro e w1 ⟨rfl, hb1⟩; simp only [List.map_cons, List.map_nil]; rw [HW0.out]; have HB1 := Lib.hid (below_via HB0.out hb1); clear hb1)
          | (go_at_call 64; (refine (HPG.out _ HB2.out).mono ?_); rintro e w3 ⟨G, rfl, hp3, hb3⟩; have HP3 := Lib.hid hp3; have HB3 := Lib.hid (below_via HB2.out hb3); clear hp3 hb3)
          | (go_at_call 27; (refine (blockIs.run hl (some ⟨G, 0, none⟩) HA 1 1 hc [bkS code] hv _ HP3.out (HRH.out _ HB3.out) rfl HCP.out HVO.out).mono ?_); rw [goP_one rfl rfl hv]; rintro e w4 ⟨hr, hb4⟩; obtain ⟨hr0, _⟩ | ⟨xs, l4, A4, A5, c4, c5, hr0, rfl, hr4, _⟩ := hr <;> (first | (cases hr0; done) | (injection hr0 with hr0; injection hr0 with hr1 hr2; subst hr1 hr2; have HR4 := Lib.hid hr4; have HB4 := Lib.hid (below_via HB3.out hb4); have HDL4 : Hid ((doS (bkS code).code hv).length = hl) := HDL; rw [HDL4.out]; clear hr4 hb4)))
          | (go_at_call 68; (refine (HRP.out _ HB1.out).mono ?_); rw [HVR.out, HCV.out, HH0.out]; rintro e w2 ⟨rfl, hb2⟩; have HB2 := Lib.hid (below_via HB1.out hb2); clear hb2 HRP)
          | (go_at_call 68; (refine (value_any hl QA A4 ql qc hl c4 post (doS code hv) _ (HRQ.out _ HB4.out) HR4.out HQL.out HDL.out hhm).mono ?_); rw [HDV.out.1, HDV.out.2]; rintro e w5 ⟨rfl, hb5⟩; have HB5 := Lib.hid (below_via HB4.out hb5); clear hb5))
        go_returns
        exact ⟨by first | rfl | simp [HZ.out], HB5.out⟩
    · have e1 : (ckHave vars hv != 0) = true := by simp [h2]
      have HRES : Hid (hdR vars pre code post hv = false) := Lib.hid (by unfold hdR; rw [HH.out, if_neg h2])
      rw [HH.out, HRES.out]
      clear hx hlen hp hpl hq hql hh hhl h1 h2 hcp hc1 hc2
      go_enter Try.func38, Try.ntmps38
      go_wp2_with (first
        | (go_at_call 61; (with_reducible refine HCK.out.mono ?_); rintro e w1 ⟨rfl, hb1⟩; simp only [List.map_cons, List.map_nil]; rw [HW0.out]; have HB1 := Lib.hid (below_via HB0.out hb1); clear hb1)
        | (go_at_call 68; (refine (HRP.out _ HB1.out).mono ?_); rw [HCV.out]; rintro e w2 ⟨rfl, hb2⟩; have HB2 := Lib.hid (below_via HB1.out hb2); clear hb2))
      go_returns
      exact ⟨rfl, HB2.out⟩
  · have e1 : (ckW vars code [pre, post] != 0) = true := by simp [h1]
    have HH : Hid (ckH vars pre code post hv = ckW vars code [pre, post]) := Lib.hid (by unfold ckH; rw [if_neg h1])
    have HRES : Hid (hdR vars pre code post hv = false) := Lib.hid (by unfold hdR; rw [HH.out, if_neg h1])
    rw [HH.out, HRES.out]
    clear hx hlen hp hpl hq hql hh hhl h1
    go_enter Try.func38, Try.ntmps38
    go_wp2_with (go_at_call 61; (with_reducible refine HCK.out.mono ?_); rintro e w1 ⟨rfl, hb1⟩; simp only [List.map_cons, List.map_nil])
    go_returns
    exact ⟨rfl, below_via HB0.out hb1⟩

end Go.Proofs.Ytfhnhbkdhdocjaa

/-
  codemasonref.Term reckons the value of a list of terms of any length.
-/

namespace Go.Proofs.Ytfhnhbkdhdocjaa
open Go.RowKit
set_option linter.unusedSimpArgs false
set_option linter.unusedVariables false
set_option maxRecDepth 100000

set_option maxHeartbeats 4000000 in
theorem refTermT_any (vn : Nat) (A HA : Option Addr) (len cap hcap : Nat) (l : List Tm) (xs0 : List Int) (w : World) (hx : RdT w w.heap.size A l) (hh : RdI w w.heap.size HA xs0) (hl : l.length = len) (hc : OkT vn l) (b3 : 0 < len) (b4 : len ≤ 4096) (hv : ckHave vn xs0 = 0) :
    Calls Try.prog 36 #[.slice A len cap, .slice HA xs0.length hcap] w fun e w' => e = .returned (.int .i64 (valT l xs0)) ∧ Below w.heap.size w w' := by
  obtain ⟨hv1, hv2⟩ := ckHave_ok hv
  have HV := Lib.hid hv1
  have HL := Lib.hid hl
  have HC := Lib.hid hc
  have hvl : (vn : Int) ≤ xs0.length := by omega
  clear hl hc hv hv1
  have hmk := make_ints (P := Try.prog) 39 3 Try.underlying39 int_info len (by omega)
  go_enter Try.func36, Try.ntmps36
  go_wp2
  go_loopw [13] (fun i wr => ∃ (k : Nat) (xs : List Int), k ≤ len ∧ i = .int .i64 k ∧ Vals xs0 l k xs ∧ Below w.heap.size w wr ∧ Own wr w.heap.size 3 (iv xs)) (fun i _ => len - (intOf i).toNat)
  case atStart => exact ⟨0, _, Nat.zero_le _, rfl, by rw [← HL.out]; exact Vals.start _ _, by go_grown, Own.new _ _ _⟩
  case round =>
    obtain ⟨k, xs, hk, rfl, hr, hb, hown⟩ := hrel
    have HR := Lib.hid hr
    clear hr
    have hsz := hown.lt
    by_cases hlt : k < len
    · obtain ⟨ad, o, a, b, v, rfl, hbl, hd, hc0, hc1, hc2, hc3⟩ := (hx.below hb (Nat.le_refl _)).at_ (k := k) (by rw [HL.out]; exact hlt)
      have hcase := ckTerm_cases (HC.out k _ hd)
      simp only at hcase
      have HD := Lib.hid hd
      clear hd
      have hfz := hown.frozen k
      have hxl : k < xs.length := by have := HR.out.1; rw [this, HL.out]; exact hlt
      have hcv : wr.cell? ⟨w.heap.size, k, none⟩ = some (.int .i64 (xs[k])) := hown.cell (iv_at (List.getElem?_eq_getElem hxl))
      rcases hcase with ⟨rfl, hv0, hv1⟩ | ⟨rfl, hv0, hv1⟩ | ⟨ho0, ho1, ha0, ha1, hb0, hb1⟩
      · go_wp2
        go_round
        case rel => exact ⟨k + 1, xs.set k v, by omega, by go_num, Vals.step HR.out HD.out evT_num (by omega), by go_grown, (OwnI.set hown k v).alloc _⟩
        case measure => (simp [intOf]; omega)
      · obtain ⟨vn, rfl⟩ := Int.eq_ofNat_of_zero_le hv0
        obtain ⟨hd2, x, rfl, hbl2, hx2, hcx⟩ := ((hh.below hb (Nat.le_refl _)).more (Nat.le_of_lt hsz)).at_ (k := vn) (by omega)
        have hxb := okVals_at hv2 hx2
        have HX := Lib.hid hx2
        clear hx2
        go_wp2
        go_round
        case rel => exact ⟨k + 1, xs.set k x, by omega, by go_num, Vals.step HR.out HD.out (evT_var HX.out) hxb, by go_grown, (OwnI.set hown k x).alloc _⟩
        case measure => (simp [intOf]; omega)
      · obtain ⟨an, rfl⟩ := Int.eq_ofNat_of_zero_le ha0
        obtain ⟨bn, rfl⟩ := Int.eq_ofNat_of_zero_le hb0
        have hcav := hown.cell (iv_at (List.getElem?_eq_getElem (show an < xs.length by omega)))
        have hcbv := hown.cell (iv_at (List.getElem?_eq_getElem (show bn < xs.length by omega)))
        have hav := HR.out.2.2 an _ (List.getElem?_eq_getElem (show an < xs.length by omega))
        have hbv := HR.out.2.2 bn _ (List.getElem?_eq_getElem (show bn < xs.length by omega))
        have HA1 := Lib.hid (List.getElem?_eq_getElem (show an < xs.length by omega))
        have HB1 := Lib.hid (List.getElem?_eq_getElem (show bn < xs.length by omega))
        generalize xs[an] = va at *
        generalize xs[bn] = vb at *
        go_wp2
        have han : an < len := by omega
        have hbn : bn < len := by omega
        (refine still_tail 16 (by kernel_rfl) (by kernel_rfl) ?_; simp only [List.take_succ_cons, List.take_zero, List.drop_succ_cons, List.drop_zero]; repeat still_step)
        still_call ((refOp_any _ _ _ _ (by omega) (by omega) (by omega) (by omega) (by omega) (by omega)).mono fun _ _ h => ⟨h.1, h.2.symm⟩)
        ((repeat still_step); refine wpStill_nil ?_)
        go_wp2
        go_round
        case rel => exact ⟨k + 1, xs.set k (opv o va vb), by omega, by go_num, Vals.step HR.out HD.out (evT_op ho0 (by omega) (by omega) HA1.out HB1.out) (opv_bd _ _ _), by go_grown, ((OwnI.set hown k _).alloc _).drew⟩
        case measure => (simp [intOf]; omega)
    · have hkl : k = len := by omega
      subst hkl
      have hxl : k - 1 < xs.length := by have := HR.out.1; rw [this, HL.out]; omega
      have hcv : wr.cell? ⟨w.heap.size, k - 1, none⟩ = some (.int .i64 (xs[k - 1])) := hown.cell (iv_at (List.getElem?_eq_getElem hxl))
      have HX := Lib.hid (List.getElem?_eq_getElem hxl)
      generalize xs[k - 1] = xl at *
      go_wp2
      go_ret
      exact ⟨ret_int (by have h1 := HR.out; have h2 := HX.out; rw [← HL.out] at h1 h2; exact h1.done _ h2), hb⟩

end Go.Proofs.Ytfhnhbkdhdocjaa
