/-
  Package weak (S1): its list of terms as it lies in memory; (*list).place.
-/
import Derived.Test.YtggekjccblblpaaPureWeak
import Derived.Test.YtggekjccblblpaaMapFun
import Derived.Test.YtggekjccblblpaaTermKey
import Derived.Test.YtggekjccblblpaaRegionLate
import Derived.Test.YtggekjccblblpaaMBase
import Derived.Deep.Cut
import Derived.BigQuiet
namespace Go.Proofs.Ytggekjccblblpaa
open Go.RowKit
set_option linter.unusedSimpArgs false
set_option linter.unusedVariables false
set_option maxRecDepth 100000

theorem leW {L : List Nat} {p j : Nat} (h : doneL L p j = false) : p ≤ L.getD j 0 - 1 := by
  unfold doneL at h
  simp only [decide_eq_false_iff_not] at h
  omega

theorem geW {L : List Nat} {p j : Nat} (h : doneL L p j = true) : L.getD j 0 ≤ p := by
  unfold doneL at h
  simpa using h

theorem termw_app : AppTy Try.prog 23 31 4 32 :=
  appTy_of (z := .agg #[.int .i64 0, .int .i64 0, .int .i64 0, .int .i64 0]) Try.underlying23 (by kernel_rfl) rfl (by omega)

/-! ### what may have changed -/

/-- blocks g, m and o are others, all else is as it was; o' is o, or new -/
structure Kpt (g m : Nat) (o o' : Option Nat) (X X' : World) : Prop where
  os : X'.os = X.os
  tape : X'.tape = X.tape
  output : X'.output = X.output
  size : X.heap.size ≤ X'.heap.size
  block : ∀ i, i < X.heap.size → i ≠ g → i ≠ m → o ≠ some i → X'.heap[i]? = X.heap[i]?
  own : o' = o ∨ ∃ b, o' = some b ∧ X.heap.size ≤ b

section
variable {g m : Nat} {o o' o'' : Option Nat} {X X' X'' : World}

theorem Kpt.of_below (o : Option Nat) (hb : Below X.heap.size X X') : Kpt g m o o X X' := ⟨hb.os, hb.tape, hb.output, hb.size, fun i hi _ _ _ => hb.block i hi, .inl rfl⟩

theorem Kpt.trans (h : Kpt g m o o' X X') (h2 : Kpt g m o' o'' X' X'') : Kpt g m o o'' X X'' := by
  refine ⟨h2.os.trans h.os, h2.tape.trans h.tape, h2.output.trans h.output, Nat.le_trans h.size h2.size, fun i hi hg hm ho => ?_, ?_⟩
  · refine (h2.block i (Nat.lt_of_lt_of_le hi h.size) hg hm ?_).trans (h.block i hi hg hm ho)
    rcases h.own with e | ⟨b, e, hb⟩
    · rw [e]; exact ho
    · rw [e]; intro e2; injection e2 with e2; omega
  · rcases h2.own with e | ⟨b, e, hb⟩
    · rw [e]; exact h.own
    · exact .inr ⟨b, e, Nat.le_trans h.size hb⟩

theorem Kpt.below {B : Nat} (h : Kpt g m o o' X X') (hg : B ≤ g) (hm : B ≤ m) (ho : ∀ b, o = some b → B ≤ b) (hB : B ≤ X.heap.size) : Below B X X' :=
  ⟨h.os, h.tape, h.output, h.size, fun i hi => h.block i (by omega) (by omega) (by omega) fun e => by have := ho i e; omega⟩

theorem Kpt.other (h : Kpt g m o o' X X') {b : Nat} (hb : b < X.heap.size) (hg : b ≠ g) (hm : b ≠ m) (ho : o ≠ some b) : X'.heap[b]? = X.heap[b]? ∧ o' ≠ some b := by
  refine ⟨h.block b hb hg hm ho, ?_⟩
  rcases h.own with e | ⟨c, e, hc⟩
  · rw [e]; exact ho
  · rw [e]; intro e2; injection e2 with e2; omega

theorem Kpt.own_ (h : Kpt g m o o' X X') {b : Nat} {t : TypeId} {cs : List Value} (hw : Own X b t cs) (hg : b ≠ g) (hm : b ≠ m) (ho : o ≠ some b) : Own X' b t cs := (h.other hw.lt hg hm ho).1.trans hw

theorem Kpt.row (h : Kpt g m o o' X X') {base size n : Nat} {e : TypeId} {v : Value} {xs : List Value} (hr : X.ownsRow base e size v n xs) (hne : ∀ b, v.ownBlock = some b → b ≠ g ∧ b ≠ m ∧ o ≠ some b) : X'.ownsRow base e size v n xs := by
  have hlt := hr.lt
  refine ⟨hr.1, ?_⟩
  rcases hr.2 with h' | ⟨b, cap, cur, rfl, h2, h3, h4⟩
  · exact .inl h'
  · obtain ⟨q1, q2, q3⟩ := hne b rfl
    exact .inr ⟨b, cap, cur, rfl, h2, (h.block b (hlt b rfl).2 q1 q2 q3).trans h3, h4⟩

theorem Kpt.apart (h : Kpt g m o o' X X') {base size n : Nat} {e : TypeId} {v : Value} {xs : List Value} (hr : X.ownsRow base e size v n xs) (hne : ∀ b, v.ownBlock = some b → o ≠ some b) : ∀ b, v.ownBlock = some b → o' ≠ some b := fun b hb => by
  have hlt := (hr.lt b hb).2
  rcases h.own with e | ⟨c, e, hc⟩
  · rw [e]; exact hne b hb
  · rw [e]; intro e2; injection e2 with e2; omega

end

/-! ### the list -/

/-- the list of terms: its box g, its map m, its terms from 'base' on -/
structure LsAt (base g m : Nat) (T : List Tm) (A : Option Addr) (c : Nat) (X : World) : Prop where
  box : Own X g 61 [.slice A T.length c, .map (some m)]
  row : X.ownsRow base 31 4 (.slice A T.length c) T.length (tv T)
  mp : ∃ f, OwnF Try.prog 31 X m f ∧ (∀ (i : Nat) (t : Tm), T[i]? = some t → f (tmV t) = some (.int .i64 (i : Int))) ∧ ∀ t, t ∉ T → f (tmV t) = none
  gb : g < base
  mb : m < base
  ne : g ≠ m

theorem LsAt.quiet {base g m c : Nat} {T : List Tm} {A : Option Addr} {X X' : World} (h : LsAt base g m T A c X) (hb : Below X.heap.size X X') : LsAt base g m T A c X' := by
  obtain ⟨f, h1, h2, h3⟩ := h.mp
  exact ⟨h.box.below hb h.box.lt, own_below h.row hb, ⟨f, h1.below hb h1.lt, h2, h3⟩, h.gb, h.mb, h.ne⟩

theorem LsAt.set {base g m c : Nat} {T : List Tm} {A : Option Addr} {X : World} (h : LsAt base g m T A c X) {p : Addr} (hg : g ≠ p.block) (hm : m ≠ p.block) (ho : (Value.slice A T.length c).ownBlock ≠ some p.block) (u : Value) : LsAt base g m T A c (X.setCell p u) := by
  obtain ⟨f, h1, h2, h3⟩ := h.mp
  refine ⟨h.box.far hg u, ?_, ⟨f, h1.keep (Below.heap_setCell X p u m hm), h2, h3⟩, h.gb, h.mb, h.ne⟩
  refine ⟨h.row.1, ?_⟩
  rcases h.row.2 with h' | ⟨b, cap, cur, hv, k2, k3, k4⟩
  · exact .inl h'
  · refine .inr ⟨b, cap, cur, hv, k2, (Below.heap_setCell X p u b ?_).trans k3, k4⟩
    intro e
    rw [hv] at ho
    exact ho (by rw [← e]; rfl)

/-- what a call that places a term answers -/
def PlTo (base g m : Nat) (T : List Tm) (A : Option Addr) (c : Nat) (P : List Tm → Nat → Prop) (X : World) (e : Ending) (X' : World) : Prop :=
  ∃ (T' : List Tm) (r : Nat) (A' : Option Addr) (c' : Nat), e = .returned (.int .i64 (r : Int)) ∧ P T' r ∧ LsAt base g m T' A' c' X' ∧ Kpt g m (Value.slice A T.length c).ownBlock (Value.slice A' T'.length c').ownBlock X X'

theorem below_drewW {B n : Nat} {w Y : World} (h : Below B w Y) : Below B w (Y.drewN n) := ⟨h.os, h.tape, h.output, h.size, h.block⟩

/-! ### a lookup, a store into a map, as one operation -/

section
variable {P : Program} {k : TypeId} {w : World} {o : Oper} {a : Act} {K : Act → World → Prop} {E : Exit → Act → World → Prop}

theorem quiet_hit {C : World → Prop} {K : Act → Prop} (m x : Operand) (t : TypeId) (hop : o.op = Op.lookup t m x true) {e : TypeId} (KD : Maps.Keyed P k) (ht : P.underlying t = some (.map k e)) {b : Nat} {f : Value → Option Value} (hm : a.eval m = .map (some b)) (h : ∀ w, C w → OwnF P k w b f) {key z v : Value} (hz : ∀ w, (zeroValue e).run P w = .ok z w) (hx : a.eval x = key) (hk : KeyV P k key) (hf : f key = some v)
    (hK : K (a.put o.dst (.tuple #[v, .bool true]))) : o.quiet P a C K :=
  ⟨_, fun w hw => by
    unfold Oper.quietAt
    simp only [execOp, hop, hm, hx, Sem.run_bind, run_look_fun KD ht (h w hw) (hz w) hk, hf, Sem.run_pure, Result.andThen]
    exact ⟨rfl, rfl⟩, hK⟩

theorem quiet_miss {C : World → Prop} {K : Act → Prop} (m x : Operand) (t : TypeId) (hop : o.op = Op.lookup t m x true) {e : TypeId} (KD : Maps.Keyed P k) (ht : P.underlying t = some (.map k e)) {b : Nat} {f : Value → Option Value} (hm : a.eval m = .map (some b)) (h : ∀ w, C w → OwnF P k w b f) {key z : Value} (hz : ∀ w, (zeroValue e).run P w = .ok z w) (hx : a.eval x = key) (hk : KeyV P k key) (hf : f key = none)
    (hK : K (a.put o.dst (.tuple #[z, .bool false]))) : o.quiet P a C K :=
  ⟨_, fun w hw => by
    unfold Oper.quietAt
    simp only [execOp, hop, hm, hx, Sem.run_bind, run_look_fun KD ht (h w hw) (hz w) hk, hf, Sem.run_pure, Result.andThen]
    exact ⟨rfl, rfl⟩, hK⟩

theorem oper_put (m x v : Operand) (t : TypeId) (hop : o.op = Op.mapUpdate t m x v) {e : TypeId} (KD : Maps.Keyed P k) (ht : P.underlying t = some (.map k e)) {b : Nat} {f f' : Value → Option Value} (hm : a.eval m = .map (some b)) (h : OwnF P k w b f) {key val : Value} (hx : a.eval x = key) (hvv : a.eval v = val) (hk : KeyV P k key) (h1 : f' key = some val) (h2 : ∀ x, x ≠ key → f' x = f x)
    (hK : ∀ w', OwnF P k w' b f' → Turned b w w' → K (a.put o.dst undef) w') : Oper.wp P o a w K E := by
  obtain ⟨w', hrun, r1, r2⟩ := run_put_fun (P := P) KD ht h hk h1 h2
  unfold Oper.wp
  simp [execOp, hop, hm, hx, hvv, hrun, Result.andThen]
  exact hK w' r1 r2

end

/-- a term appended: the terms' slice behind it -/
structure ApT (base n : Nat) (A : Option Addr) (c : Nat) (xs ys : List Value) (Y : World) (A' : Option Addr) (c' : Nat) (Z : World) : Prop where
  row : Z.ownsRow base 31 4 (.slice A' (n + 1) c') (n + 1) (xs ++ ys)
  kp : ∀ i, i < Y.heap.size → (Value.slice A n c).ownBlock ≠ some i → Z.heap[i]? = Y.heap[i]?
  size : Y.heap.size ≤ Z.heap.size
  os : Z.os = Y.os
  tape : Z.tape = Y.tape
  output : Z.output = Y.output
  own : (Value.slice A' (n + 1) c').ownBlock = (Value.slice A n c).ownBlock ∨ ∃ b, (Value.slice A' (n + 1) c').ownBlock = some b ∧ Y.heap.size ≤ b

set_option maxHeartbeats 8000000 in
theorem place_any (base g m : Nat) (T : List Tm) (A : Option Addr) (c : Nat) (o a b v : Int) (X : World) (hl : LsAt base g m T A c X) (hT : T.length ≤ 100) (hk : KeyV Try.prog 31 (tmV ⟨o, a, b, v⟩)) (hs : base ≤ X.heap.size) :
    Calls Try.prog 41 #[.pointer (some ⟨g, 0, none⟩), .agg #[.int .i64 o, .int .i64 a, .int .i64 b, .int .i64 v]] X fun e X' => PlTo base g m T A c (Plc T ⟨o, a, b, v⟩) X e X' := by
  obtain ⟨f, hf1, hf2, hf3⟩ := hl.mp
  obtain ⟨tl, htl⟩ : ∃ tl, T.length = tl := ⟨_, rfl⟩
  have HTL := Lib.hid htl
  have hlbox := hl.box
  have hlrow := hl.row
  have hgb := hl.gb
  have hmb := hl.mb
  have HNE := Lib.hid hl.ne
  rw [htl] at hlbox hlrow hT
  have HBX := Lib.hid hlbox
  have HRW := Lib.hid hlrow
  have HF1 := Lib.hid hf1
  have HK := Lib.hid hk
  have HX0 : Hid (Own (X.alloc (.cells #[.int .i64 o, .int .i64 a, .int .i64 b, .int .i64 v] 31)) X.heap.size 31 [.int .i64 o, .int .i64 a, .int .i64 b, .int .i64 v]) := Lib.hid (Own.new X _ _)
  have HB0 : Hid (Below X.heap.size X (X.alloc (.cells #[.int .i64 o, .int .i64 a, .int .i64 b, .int .i64 v] 31))) := Lib.hid (by go_grown)
  by_cases hin : (⟨o, a, b, v⟩ : Tm) ∈ T
  · obtain ⟨i, hi⟩ := List.getElem?_of_mem hin
    have HI := Lib.hid hi
    have HFI := Lib.hid (hf2 i _ hi)
    have HLS := Lib.hid hl
    clear hi hin hf1 hf2 hf3 hk hlbox hlrow hl htl
    go_enter Try.func41, Try.ntmps41
    go_upto_region 1 with fail
    obtain ⟨Y, hY⟩ : ∃ Y, Y = X.alloc (.cells #[.int .i64 o, .int .i64 a, .int .i64 b, .int .i64 v] 31) := ⟨_, rfl⟩
    rw [← hY] at HX0 HB0 ⊢
    clear hY
    obtain ⟨n0, hn0⟩ : ∃ n0, X.heap.size = n0 := ⟨_, rfl⟩
    have HN := Lib.hid hn0
    rw [hn0] at HX0
    simp only [hn0]
    clear hn0
    have c1 := (HBX.out.below HB0.out HBX.out.lt).cell (j := 1) rfl
    have c0 := HX0.out.cell (j := 0) rfl
    have c1' := HX0.out.cell (j := 1) rfl
    have c2 := HX0.out.cell (j := 2) rfl
    have c3 := HX0.out.cell (j := 3) rfl
    have hgY : g < Y.heap.size := (HBX.out.below HB0.out HBX.out.lt).lt
    have hnY : n0 < Y.heap.size := HX0.out.lt
    have hmY : m < Y.heap.size := (HF1.out.below HB0.out HF1.out.lt).lt
    have HFY := Lib.hid (HF1.out.below HB0.out HF1.out.lt)
    refine wp_region_quiet_lit (by kernel_rfl) (by kernel_rfl) ?_
    iterate 5 (go_big_quiet_step (fail))
    go_big_quiet_want
    refine quiet_hit (.tmp 12) (.tmp 13) 59 rfl term_keyed Try.underlying59 rfl (fun w hw => by obtain ⟨n, rfl⟩ := hw; exact HFY.out) zero_int rfl HK.out HFI.out ?_
    simp only [Act.put, List.setIfInBounds_toArray, List.set_cons_zero, List.set_cons_succ]
    go_big_quiet_on
    iterate 5 (go_big_quiet_step (fail))
    refine wpQuiet_nil ?_
    intro _ hw'
    obtain ⟨nq, hw''⟩ := hw'
    subst hw''
    have hSz : Below Y.heap.size Y (Y.drewN nq) := below_drewW (Below.refl _ _)
    obtain ⟨wz, hwz⟩ : ∃ Z, Z = Y.drewN nq := ⟨_, rfl⟩
    rw [← hwz] at hSz ⊢
    clear hwz
    have HBW := Lib.hid (HB0.out.trans (hSz.mono HB0.out.size))
    clear hSz c1 c0 c1' c2 c3 hgY hnY hmY HFY HX0 HB0
    go_wp2
    go_ret
    exact ⟨T, i, A, c, rfl, ⟨HI.out, .inl rfl⟩, HLS.out.quiet HBW.out, Kpt.of_below _ HBW.out⟩
  · have HIN := Lib.hid hin
    have HFI := Lib.hid (hf3 _ hin)
    obtain ⟨f', hf'1, hf'2⟩ : ∃ f' : Value → Option Value, f' (tmV ⟨o, a, b, v⟩) = some (.int .i64 (tl : Int)) ∧ ∀ x, x ≠ tmV ⟨o, a, b, v⟩ → f' x = f x := ⟨fun x => @ite _ (x = tmV ⟨o, a, b, v⟩) (Classical.propDecidable _) (some (.int .i64 (tl : Int))) (f x), by simp, fun x hx => by simp [hx]⟩
    have HG1 := Lib.hid hf'1
    have HG2 := Lib.hid hf'2
    have HA1 := Lib.hid hf2
    have HA2 := Lib.hid hf3
    clear hin hf1 hf2 hf3 hk hlbox hlrow hl htl hf'1 hf'2
    go_enter Try.func41, Try.ntmps41
    go_upto_region 1 with fail
    obtain ⟨Y, hY⟩ : ∃ Y, Y = X.alloc (.cells #[.int .i64 o, .int .i64 a, .int .i64 b, .int .i64 v] 31) := ⟨_, rfl⟩
    rw [← hY] at HX0 HB0 ⊢
    clear hY
    obtain ⟨n0, hn0⟩ : ∃ n0, X.heap.size = n0 := ⟨_, rfl⟩
    have HN := Lib.hid hn0
    rw [hn0] at HX0
    simp only [hn0]
    have hsn : base ≤ n0 := by omega
    clear hn0
    have HBXY := Lib.hid (HBX.out.below HB0.out HBX.out.lt)
    have c1 := HBXY.out.cell (j := 1) rfl
    have c0 := HX0.out.cell (j := 0) rfl
    have c1' := HX0.out.cell (j := 1) rfl
    have c2 := HX0.out.cell (j := 2) rfl
    have c3 := HX0.out.cell (j := 3) rfl
    have hgY : g < Y.heap.size := HBXY.out.lt
    have hnY : n0 < Y.heap.size := HX0.out.lt
    have hmY : m < Y.heap.size := (HF1.out.below HB0.out HF1.out.lt).lt
    have HFY := Lib.hid (HF1.out.below HB0.out HF1.out.lt)
    refine wp_region_quiet_lit (by kernel_rfl) (by kernel_rfl) ?_
    iterate 5 (go_big_quiet_step (fail))
    go_big_quiet_want
    refine quiet_miss (.tmp 12) (.tmp 13) 59 rfl term_keyed Try.underlying59 rfl (fun w hw => by obtain ⟨n, rfl⟩ := hw; exact HFY.out) zero_int rfl HK.out HFI.out ?_
    simp only [Act.put, List.setIfInBounds_toArray, List.set_cons_zero, List.set_cons_succ]
    go_big_quiet_on
    iterate 5 (go_big_quiet_step (fail))
    refine wpQuiet_nil ?_
    intro _ hw'
    obtain ⟨nq, hw''⟩ := hw'
    subst hw''
    have hSz : Below Y.heap.size Y (Y.drewN nq) := below_drewW (Below.refl _ _)
    obtain ⟨wz, hwz⟩ : ∃ Z, Z = Y.drewN nq := ⟨_, rfl⟩
    rw [← hwz] at hSz ⊢
    clear hwz
    have HB1 := Lib.hid (HB0.out.trans (hSz.mono HB0.out.size))
    have HBX1 := Lib.hid (HBXY.out.below hSz hgY)
    have HT1 := Lib.hid (HX0.out.below hSz hnY)
    have HF2 := Lib.hid (HFY.out.below hSz hmY)
    clear hSz c1 c0 c1' c2 c3 hgY hnY hmY HFY HX0 HBXY HB0
    obtain ⟨Y1, rfl⟩ : ∃ Z : World, Z = wz := ⟨_, rfl⟩
    have d0 := HBX1.out.cell (j := 0) rfl
    have hg1 := HBX1.out.lt
    go_upto_region 5 with fail
    have d1 := HBX1.out.cell (j := 1) rfl
    have c0 := HT1.out.cell (j := 0) rfl
    have c1 := HT1.out.cell (j := 1) rfl
    have c2 := HT1.out.cell (j := 2) rfl
    have c3 := HT1.out.cell (j := 3) rfl
    have hn1 := HT1.out.lt
    have hm1 := HF2.out.lt
    refine wp_region_steps (X := Nat × (Unit)) (fun x w' => (x.1 ≤ 0 → Below Y1.heap.size Y1 w') ∧ (1 ≤ x.1 → ∃ w5, Below Y1.heap.size Y1 w5 ∧ OwnF Try.prog 31 w' m f' ∧ Turned m w5 w')) (fun x j => doneL [0, 0, 0, 0, 0, 0, 1] x.1 j) (effL [0, 0, 0, 0, 0, 0, 1]) (0, ()) (fun x => [.pointer (some ⟨g, 0, none⟩), .pointer (some ⟨g, 0, none⟩), .pointer (some ⟨g, 1, none⟩), .map (some m), .agg #[.int .i64 o, .int .i64 a, .int .i64 b, .int .i64 v], .int .i64 (tl : Nat), undef]) _ (by kernel_rfl) (by kernel_rfl) (by kernel_rfl) (fun x => by simp only [putsD, Act.put, List.setIfInBounds_toArray, List.set_cons_zero, List.set_cons_succ]; exact rfl) h0L ⟨fun _ => Below.drew (Below.refl _ _), fun h => absurd h (by decide)⟩ (fun x => ?_) (fun x wz hDz hSz => ?_)
    · refine AllS.val (by rfl) (by rfl) (fun w hSw hPw => by go_simp) ?_
      refine AllS.val (by rfl) (by rfl) (fun w hSw hPw => by go_simp) ?_
      refine AllS.val (by rfl) (by rfl) (fun w hSw hPw => by go_simp) ?_
      refine AllS.val (by rfl) (by rfl) (fun w hSw hPw => ?_) ?_
      · (try dsimp only at hSw)
        have hb := hSw.1 (leW (hPw.not (j := 6) rfl (by kernel_rfl)))
        have q1 := (hb.cell (p := ⟨g, 1, none⟩) hg1).trans d1
        go_simp
      refine AllS.val (by rfl) (by rfl) (fun w hSw hPw => ?_) ?_
      · (try dsimp only at hSw)
        have hb := hSw.1 (leW (hPw.not (j := 6) rfl (by kernel_rfl)))
        have q0 := (hb.cell (p := ⟨n0, 0, none⟩) hn1).trans c0
        have q1 := (hb.cell (p := ⟨n0, 1, none⟩) hn1).trans c1
        have q2 := (hb.cell (p := ⟨n0, 2, none⟩) hn1).trans c2
        have q3 := (hb.cell (p := ⟨n0, 3, none⟩) hn1).trans c3
        go_simp
      refine AllS.val (by rfl) (by rfl) (fun w hSw hPw => by go_simp) ?_
      refine AllS.turn (fun _ _ => rfl) (by rfl) (fun w hSw hPw K hK => ?_) ?_
      · (try dsimp only at hSw)
        have h0 := leW (hPw.me rfl)
        have hb := hSw.1 h0
        have hx0 : x.1 = 0 := by exact Nat.le_zero.1 h0
        obtain ⟨p, y⟩ := x
        (try dsimp only at hx0)
        subst hx0
        refine oper_put (.tmp 27) (.tmp 28) (.tmp 29) 59 rfl term_keyed Try.underlying59 rfl (HF2.out.below hb hm1) rfl rfl HK.out HG1.out HG2.out ?_
        intro w6 ho6 ht6
        exact hK (1, y) _ (nxtL rfl (by decide)) ⟨fun h => absurd h (by simp), fun _ => ⟨w, hb, ho6, ht6⟩⟩
      exact AllS.nil
    obtain ⟨w5, hb5, ho6, ht6⟩ := hSz.2 (geW (hDz 6 (by decide) (by decide)))
    have hgm : g ≠ m := HNE.out
    have HB2 : Hid (∀ i, i < X.heap.size → i ≠ m → wz.heap[i]? = X.heap[i]?) := Lib.hid fun i hi hne => by
      have h1 := HB1.out.block i hi
      have h2 := hb5.block i (Nat.lt_of_lt_of_le hi HB1.out.size)
      exact ((ht6.block i hne).trans h2).trans h1
    have HZ2 : Hid (wz.os = X.os ∧ wz.tape = X.tape ∧ wz.output = X.output ∧ X.heap.size ≤ wz.heap.size) := Lib.hid ⟨(ht6.os.trans hb5.os).trans HB1.out.os, (ht6.tape.trans hb5.tape).trans HB1.out.tape, (ht6.output.trans hb5.output).trans HB1.out.output, by rw [ht6.size]; exact Nat.le_trans HB1.out.size hb5.size⟩
    have HBX2 := Lib.hid (ht6.own hgm (HBX1.out.below hb5 hg1))
    have HT2 := Lib.hid (ht6.own (by omega) (HT1.out.below hb5 hn1))
    have HF3 := Lib.hid ho6
    have HRW2 : Hid (wz.ownsRow base 31 4 (.slice A tl c) tl (tv T)) := Lib.hid (ht6.row (own_below (own_below HRW.out HB1.out) hb5) hmb)
    clear hSz hDz hb5 ho6 ht6 d0 d1 c0 c1 c2 c3 hg1 hn1 hm1 HF2 HT1 HBX1
    obtain ⟨Y2, rfl⟩ : ∃ Z : World, Z = wz := ⟨_, rfl⟩
    have hs2 : base ≤ Y2.heap.size := Nat.le_trans hs HZ2.out.2.2.2
    have d0 := HBX2.out.cell (j := 0) rfl
    have c0 := HT2.out.cell (j := 0) rfl
    have c1 := HT2.out.cell (j := 1) rfl
    have c2 := HT2.out.cell (j := 2) rfl
    have c3 := HT2.out.cell (j := 3) rfl
    have hg2 := HBX2.out.lt
    have hn2 := HT2.out.lt
    have h63 : tl + 1 ≤ maxLen := by unfold maxLen; omega
    have hbig : (tl + 1) * 32 ≤ 140737488355328 := by omega
    go_upto_region 6 with fail
    refine wp_region_steps (X := Nat × (Nat × Option Addr × Nat)) (fun x w' => (x.1 ≤ 1 → Below Y2.heap.size Y2 w') ∧ (x.1 = 1 → ∀ ad, some (⟨x.2.1, 0, none⟩ : Addr) = some ad → ∀ j u, ([.int .i64 o, .int .i64 a, .int .i64 b, .int .i64 v] : List Value)[j]? = some u → w'.cell? (ad.add j) = some u) ∧ (x.1 = 2 → ApT base tl A c (tv T) [.int .i64 o, .int .i64 a, .int .i64 b, .int .i64 v] Y2 x.2.2.1 x.2.2.2 w') ∧ (3 ≤ x.1 → ∃ w8, ApT base tl A c (tv T) [.int .i64 o, .int .i64 a, .int .i64 b, .int .i64 v] Y2 x.2.2.1 x.2.2.2 w8 ∧ w' = w8.setCell ⟨g, 0, none⟩ (.slice x.2.2.1 (tl + 1) x.2.2.2))) (fun x j => doneL [0, 0, 0, 0, 0, 0, 1, 2, 0, 0, 3] x.1 j) (effL [0, 0, 0, 0, 0, 0, 1, 2, 0, 0, 3]) (0, (0, none, 0)) (fun x => [.pointer (some ⟨g, 0, none⟩), .pointer (some ⟨g, 0, none⟩), .pointer (some ⟨g, 0, none⟩), .pointer (some ⟨g, 0, none⟩), .slice A tl c, .agg #[.int .i64 o, .int .i64 a, .int .i64 b, .int .i64 v], .slice (some ⟨x.2.1, 0, none⟩) 1 1, .slice x.2.2.1 (tl + 1) x.2.2.2, .pointer (some ⟨g, 0, none⟩), .pointer (some ⟨g, 0, none⟩), undef]) _ (by kernel_rfl) (by kernel_rfl) (by kernel_rfl) (fun x => by simp only [putsD, Act.put, List.setIfInBounds_toArray, List.set_cons_zero, List.set_cons_succ]; exact rfl) h0L ⟨fun _ => Below.drew (Below.refl _ _), fun h => absurd h (by decide), fun h => absurd h (by decide), fun h => absurd h (by decide)⟩ (fun x => ?_) (fun x wz hDz hSz => ?_)
    · refine AllS.val (by rfl) (by rfl) (fun w hSw hPw => by go_simp) ?_
      refine AllS.val (by rfl) (by rfl) (fun w hSw hPw => by go_simp) ?_
      refine AllS.val (by rfl) (by rfl) (fun w hSw hPw => by go_simp) ?_
      refine AllS.val (by rfl) (by rfl) (fun w hSw hPw => by go_simp) ?_
      refine AllS.val (by rfl) (by rfl) (fun w hSw hPw => ?_) ?_
      · (try dsimp only at hSw)
        have hb := hSw.1 (leW (hPw.not (j := 7) rfl (by kernel_rfl)))
        have q0 := (hb.cell (p := ⟨g, 0, none⟩) hg2).trans d0
        go_simp
      refine AllS.val (by rfl) (by rfl) (fun w hSw hPw => ?_) ?_
      · (try dsimp only at hSw)
        have hb := hSw.1 (Nat.le_trans (leW (hPw.not (j := 6) rfl (by kernel_rfl))) (by decide))
        have q0 := (hb.cell (p := ⟨n0, 0, none⟩) hn2).trans c0
        have q1 := (hb.cell (p := ⟨n0, 1, none⟩) hn2).trans c1
        have q2 := (hb.cell (p := ⟨n0, 2, none⟩) hn2).trans c2
        have q3 := (hb.cell (p := ⟨n0, 3, none⟩) hn2).trans c3
        go_simp
      refine AllS.turn (fun _ _ => rfl) (by rfl) (fun w hSw hPw K hK => ?_) ?_
      · (try dsimp only at hSw)
        have h0 := leW (hPw.me rfl)
        have hb := hSw.1 (Nat.le_trans h0 (by decide))
        go_simp
        have hx0 : x.1 = 0 := Nat.le_zero.1 h0
        obtain ⟨p, y0⟩ := x
        (try dsimp only at hx0)
        subst hx0
        exact hK (1, w.heap.size, y0.2) _ (nxtL rfl (by decide)) ⟨fun _ => below_via hb (by go_grown), fun _ => cells_at rfl [.int .i64 o, .int .i64 a, .int .i64 b, .int .i64 v] _, fun h => absurd h (by simp), fun h => absurd h (by simp)⟩
      refine AllS.turn (fun _ _ => rfl) (by rfl) (fun w hSw hPw K hK => ?_) ?_
      · (try dsimp only at hSw)
        have h0 := leW (hPw.me rfl)
        have h1 := geW (hPw.need (k := 6) rfl (by kernel_rfl))
        have hx0 : x.1 = 1 := Nat.le_antisymm h0 h1
        have hb := hSw.1 (Nat.le_of_eq hx0)
        have hnw := hSw.2.1 hx0
        obtain ⟨p, y1, y2, y3⟩ := x
        (try dsimp only at hx0)
        subst hx0
        refine oper_app' (.tmp 34) (.tmp 36) 23 rfl base 31 4 32 termw_app (tv T) rfl (own_below HRW2.out hb) [.int .i64 o, .int .i64 a, .int .i64 b, .int .i64 v] rfl rfl (fun h => by cases h) hnw (tv1_one _ _ _ _) h63 hbig (Nat.le_trans hs2 hb.size) ?_
        intro A8 c8 w8 hown8 hg8 hb8 hbl8
        exact hK (2, y1, A8, c8) _ (nxtL rfl (by decide)) ⟨fun h => absurd h (by simp), fun h => absurd h (by simp), fun _ => ⟨hown8, fun i hi hne => (hg8.block i (Nat.lt_of_lt_of_le hi hb.size) (fun e => hne e.symm)).trans (hb.block i hi), Nat.le_trans hb.size hg8.size, hg8.os.trans hb.os, hg8.tape.trans hb.tape, hg8.output.trans hb.output, hbl8.imp id fun h => ⟨_, h, hb.size⟩⟩, fun h => absurd h (by simp)⟩
      refine AllS.val (by rfl) (by rfl) (fun w hSw hPw => by go_simp) ?_
      refine AllS.val (by rfl) (by rfl) (fun w hSw hPw => by go_simp) ?_
      refine AllS.turn (fun _ _ => rfl) (by rfl) (fun w hSw hPw K hK => ?_) ?_
      · (try dsimp only at hSw)
        have h0 := leW (hPw.me rfl)
        have h1 := geW (hPw.need (k := 7) rfl (by kernel_rfl))
        have hx0 : x.1 = 2 := Nat.le_antisymm h0 h1
        have hst8 := hSw.2.2.1 hx0
        have hg8 : w.heap[g]? = Y2.heap[g]? := hst8.kp g hg2 (fun e => by have := (HRW2.out.lt g e).1; omega)
        obtain ⟨p, y1, y2, y3⟩ := x
        (try dsimp only at hx0)
        subst hx0
        have hO8 : Own w g 61 [.slice A tl c, .map (some m)] := hg8.trans HBX2.out
        have k0 := hO8.cell (j := 0) rfl
        have k1 := hO8.frozen 0
        go_simp
        exact hK (3, y1, y2, y3) _ (nxtL rfl (by decide)) ⟨fun h => absurd h (by simp), fun h => absurd h (by simp), fun h => absurd h (by simp), fun _ => ⟨w, hst8, rfl⟩⟩
      exact AllS.nil
    obtain ⟨w8, hst8, rfl⟩ := hSz.2.2.2 (geW (hDz 10 (by decide) (by decide)))
    obtain ⟨p, y1, A8, c8⟩ := x
    (try dsimp only at hst8)
    have hlen : (T ++ [(⟨o, a, b, v⟩ : Tm)]).length = tl + 1 := by rw [List.length_append, HTL.out]; rfl
    have hg8 : w8.heap[g]? = Y2.heap[g]? := hst8.kp g hg2 (fun e => by have := (HRW2.out.lt g e).1; omega)
    have hm8 : w8.heap[m]? = Y2.heap[m]? := hst8.kp m HF3.out.lt (fun e => by have := (HRW2.out.lt m e).1; omega)
    have hgm2 : m ≠ g := fun e => HNE.out e.symm
    have HLS : Hid (LsAt base g m (T ++ [⟨o, a, b, v⟩]) A8 c8 (w8.setCell ⟨g, 0, none⟩ (.slice A8 (tl + 1) c8))) := Lib.hid (by
      refine ⟨?_, ?_, ⟨f', ?_, fun i t hi => ?_, fun t ht => ?_⟩, hgb, hmb, HNE.out⟩
      · rw [hlen]
        exact Own.set (show Own w8 g 61 [.slice A tl c, .map (some m)] from hg8.trans HBX2.out) 0 (.slice A8 (tl + 1) c8)
      · rw [hlen, tv_append]
        exact own_farW hst8.row (p := ⟨g, 0, none⟩) hgb _
      · exact HF3.out.keep ((Below.heap_setCell w8 ⟨g, 0, none⟩ _ m hgm2).trans hm8)
      · by_cases hil : i < T.length
        · rw [List.getElem?_append_left hil] at hi
          have hne : tmV t ≠ tmV ⟨o, a, b, v⟩ := fun e => HIN.out (by rw [← tmV_inj e]; exact List.mem_of_getElem? hi)
          rw [HG2.out _ hne]
          exact HA1.out i t hi
        · have hil2 := (List.getElem?_eq_some_iff.1 hi).1
          rw [hlen] at hil2
          have : i = T.length := by have := HTL.out; omega
          subst this
          simp at hi
          subst hi
          rw [HG1.out, HTL.out]
      · have hne : tmV t ≠ tmV ⟨o, a, b, v⟩ := fun e => ht (by rw [tmV_inj e]; simp)
        rw [HG2.out _ hne]
        exact HA2.out t fun h => ht (by simp [h]))
    have HKP : Hid (Kpt g m (Value.slice A T.length c).ownBlock (Value.slice A8 (T ++ [(⟨o, a, b, v⟩ : Tm)]).length c8).ownBlock X (w8.setCell ⟨g, 0, none⟩ (.slice A8 (tl + 1) c8))) := Lib.hid (by
      obtain ⟨z1, z2, z3, z4⟩ := HZ2.out
      rw [hlen, HTL.out]
      refine ⟨hst8.os.trans z1, hst8.tape.trans z2, hst8.output.trans z3, by simp; exact Nat.le_trans z4 hst8.size, fun i hi hg hm ho => ?_, hst8.own.imp id fun ⟨b, h1, h2⟩ => ⟨b, h1, Nat.le_trans z4 h2⟩⟩
      exact ((Below.heap_setCell w8 ⟨g, 0, none⟩ _ i hg).trans (hst8.kp i (Nat.lt_of_lt_of_le hi z4) ho)).trans (HB2.out i hi hm))
    have HPL : Hid (Plc T ⟨o, a, b, v⟩ (T ++ [⟨o, a, b, v⟩]) tl) := Lib.hid ⟨by rw [← HTL.out]; simp, .inr ⟨rfl, HTL.out.symm, HIN.out⟩⟩
    clear hst8 hSz hDz hg8 hm8 d0 c0 c1 c2 c3 HBX2 HT2 HF3 HRW2 HB2 HZ2 hlen
    go_wp2
    go_ret
    exact ⟨_, tl, A8, c8, rfl, HPL.out, HLS.out, HKP.out⟩

end Go.Proofs.Ytggekjccblblpaa
