/-
  tile.leavesAt, tile.leavesOf, tile.matches, tile.costWith return what they say (W1).
-/
import Derived.Test.YteogdcjigigeeaaTiCk
import Derived.Test.YteogdcjigigeeaaMBase
import Derived.Test.YteogdcjigigeeaaMReg
import Derived.Deep.Cut
import Derived.BigQuiet
namespace Go.Proofs.Yteogdcjigigeeaa
open Go.RowKit
set_option linter.unusedSimpArgs false
set_option linter.unusedVariables false
set_option maxRecDepth 100000

theorem leTi {L : List Nat} {p j : Nat} (h : doneL L p j = false) : p ≤ L.getD j 0 - 1 := by
  unfold doneL at h
  simp only [decide_eq_false_iff_not] at h
  omega

theorem geTi {L : List Nat} {p j : Nat} (h : doneL L p j = true) : L.getD j 0 ≤ p := by
  unfold doneL at h
  simpa using h

theorem below_drewT {B : Nat} {w w' : World} (h : Below B w w') : Below B w.drew w' := ⟨h.os, h.tape, h.output, h.size, h.block⟩

theorem own_endT {X : World} {n : Nat} (h : X.heap.size = n) (t : TypeId) (cs : List Value) : Own (X.alloc (.cells cs.toArray t)) n t cs := by
  subst h
  exact Own.new X t cs

theorem own_lit {w : World} {base : Nat} (hb : base ≤ w.heap.size) (cs : List Value) (t : TypeId) (n : Nat) (hn : cs.length = n) (hm : n ≤ maxLen) : (w.alloc (.cells cs.toArray t)).ownsRow base t 1 (.slice (some ⟨w.heap.size, 0, none⟩) n n) n cs :=
  ⟨by rw [hn, Nat.mul_one], .inr ⟨w.heap.size, n, cs.toArray, rfl, hb, heap_alloc_new w _, Nat.le_refl _, hm, by simpa using hn, by subst hn; simp⟩⟩

/-- a slice of the call's own that holds these numbers -/
def LvOwn (w : World) (base : Nat) (A : Option Addr) (c : Nat) (js : List Nat) : Prop := w.ownsRow base 3 1 (.slice A js.length c) js.length (iv (ni js))

theorem LvOwn.below {w w' : World} {base : Nat} {A : Option Addr} {c : Nat} {js : List Nat} (h : LvOwn w base A c js) (hb : Below w.heap.size w w') : LvOwn w' base A c js := own_below h hb

theorem LvOwn.mono {w : World} {base base' : Nat} {A : Option Addr} {c : Nat} {js : List Nat} (h : LvOwn w base A c js) (hb : base' ≤ base) : LvOwn w base' A c js := own_mono h hb

theorem LvOwn.rd {w : World} {base : Nat} {A : Option Addr} {c : Nat} {js : List Nat} (h : LvOwn w base A c js) : RdI w w.heap.size A (ni js) := own_rdI h (by simp [ni])

set_option maxHeartbeats 1000000 in
theorem leavesAt_any {vars : Int} (A : Option Addr) (len cap : Nat) (l : List Tm) (w : World) (hx : RdT w w.heap.size A l) (hl : l.length = len) (hc : ckTerms vars l = 0) (j : Nat) (op : Int) (hj : j < len) :
    Calls Try.prog 28 #[.slice A len cap, .int .i64 (j : Nat), .int .i64 op] w fun e w' => ∃ A' c', e = .returned (.slice A' (lvAt l j op).length c') ∧ LvOwn w' w.heap.size A' c' (lvAt l j op) ∧ Below w.heap.size w w' := by
  by_cases h0 : op = 0
  · have HE : Hid (lvAt l j op = [j]) := Lib.hid (by unfold lvAt; rw [if_pos h0])
    have HO := Lib.hid (own_lit (w := w) (base := w.heap.size) (Nat.le_refl _) [.int .i64 (j : Nat)] 3 1 rfl (by unfold maxLen; omega))
    subst h0
    clear hx hl
    go_enter Try.func28, Try.ntmps28
    go_wp2
    go_ret
    rw [HE.out]
    exact ⟨_, _, rfl, HO.out, by go_grown⟩
  · obtain ⟨ad, o, a, b, v, rfl, hbl, hd, hc0, hc1, hc2, hc3⟩ := hx.at_ (k := j) (by omega)
    have ht := tmA_at hd
    have h0b : (op == 0) = false := by simp [h0]
    by_cases ho : o < 3
    · have HE : Hid (lvAt l j op = []) := Lib.hid (by unfold lvAt; rw [if_neg h0, if_pos (by rw [ht]; exact ho)])
      have hcs := ckTerms_cases hc hd
      have hlf : leafB' o = true := by unfold leafB'; simp; omega
      clear hx hl hcs hd ht
      go_enter Try.func28, Try.ntmps28
      go_wp2_with (go_at_call 27; (with_reducible refine (isLeaf_any _ _).mono ?_); rintro e w1 ⟨rfl, rfl⟩)
      go_ret
      rw [HE.out]
      exact ⟨none, 0, rfl, World.ownsRow_nil _ _ _ _, by go_grown⟩
    · have HE : Hid (lvAt l j op = [a.toNat, b.toNat]) := Lib.hid (by unfold lvAt; rw [if_neg h0, if_neg (by rw [ht]; exact ho), ht])
      have hcs := ckTerms_cases hc hd
      have hlf : leafB' o = false := by unfold leafB'; simp; omega
      obtain ⟨an, rfl⟩ := Int.eq_ofNat_of_zero_le (by omega : 0 ≤ a)
      obtain ⟨bn, rfl⟩ := Int.eq_ofNat_of_zero_le (by omega : 0 ≤ b)
      obtain ⟨W, hW⟩ : ∃ W, W = w.alloc (.cells #[.int .i64 o, .int .i64 (an : Int), .int .i64 (bn : Int), .int .i64 v] 39) := ⟨_, rfl⟩
      have HO := Lib.hid (own_lit (w := w.alloc (.cells #[.int .i64 o, .int .i64 (an : Int), .int .i64 (bn : Int), .int .i64 v] 39)) (base := w.heap.size) (by simp) [.int .i64 (an : Int), .int .i64 (bn : Int)] 3 2 rfl (by unfold maxLen; omega))
      clear hx hl hcs hd ht hW
      go_enter Try.func28, Try.ntmps28
      go_wp2_with (go_at_call 27; (with_reducible refine (isLeaf_any _ _).mono ?_); rintro e w1 ⟨rfl, rfl⟩)
      go_ret
      rw [HE.out]
      exact ⟨_, _, rfl, by unfold LvOwn; simpa [iv, ni] using HO.out, by go_grown⟩

theorem lv_len3 {L1 L2 L3 : List Nat} (h : L1 ++ L2 = L3) {A : Option Addr} {c : Nat} : Value.slice A (L1.length + L2.length) c = .slice A L3.length c := by
  rw [← h, List.length_append]

theorem lv_own3 {L1 L2 L3 : List Nat} (h : L1 ++ L2 = L3) {w : World} {base : Nat} {A : Option Addr} {c : Nat} (ho : w.ownsRow base 3 1 (.slice A (L1.length + L2.length) c) (L1.length + L2.length) (iv (ni L1) ++ iv (ni L2))) : LvOwn w base A c L3 := by
  subst h
  unfold LvOwn
  rw [List.length_append, show iv (ni (L1 ++ L2)) = iv (ni L1) ++ iv (ni L2) from by simp [iv, ni]]
  exact ho

/-- the region that puts two rows of leaves together -/
def LvS (Y : World) (base : Nat) (L1 L2 L3 : List Nat) (x : Nat × (Value × Value × Value × Value)) (w : World) : Prop :=
  Below base Y w ∧ match x.1 with
  | 0 => True
  | 1 => ∃ A c, x.2.1 = .slice A L1.length c ∧ LvOwn w base A c L1
  | 2 => (∃ A c, x.2.1 = .slice A L1.length c ∧ LvOwn w base A c L1) ∧ ∃ A c, x.2.2.1 = .slice A L2.length c ∧ RdI w w.heap.size A (ni L2)
  | 3 => ∃ A c, x.2.2.2.1 = .slice A L3.length c ∧ LvOwn w base A c L3
  | _ + 4 => ∃ A c, x.2.2.2.2 = .slice A L3.length c ∧ LvOwn w base A c L3

set_option maxHeartbeats 4000000 in
theorem leavesOf_any {vars : Int} (A : Option Addr) (len cap : Nat) (l : List Tm) (w : World) (hx : RdT w w.heap.size A l) (hl : l.length = len) (hc : ckTerms vars l = 0) (i : Nat) (o a b v : Int) (hd : l[i]? = some ⟨o, a, b, v⟩) (to tl tr tc : Int) :
    Calls Try.prog 19 #[.slice A len cap, .agg #[.int .i64 o, .int .i64 a, .int .i64 b, .int .i64 v], .agg #[.int .i64 to, .int .i64 tl, .int .i64 tr, .int .i64 tc]] w fun e w' => ∃ A' c', e = .returned (.slice A' (lvs l ⟨o, a, b, v⟩ ⟨to, tl, tr, tc⟩).length c') ∧ LvOwn w' w.heap.size A' c' (lvs l ⟨o, a, b, v⟩ ⟨to, tl, tr, tc⟩) ∧ Below w.heap.size w w' := by
  have hcs := ckTerms_cases hc hd
  have hi := (List.getElem?_eq_some_iff.1 hd).1
  by_cases ho : o < 3
  · have HE : Hid (lvs l ⟨o, a, b, v⟩ ⟨to, tl, tr, tc⟩ = []) := Lib.hid (by unfold lvs; rw [if_pos ho])
    have hlf : leafB' o = true := by unfold leafB'; simp; omega
    clear hx hl hcs hd
    go_enter Try.func19, Try.ntmps19
    go_wp2_with (go_at_call 27; (with_reducible refine (isLeaf_any _ _).mono ?_); rintro e w1 ⟨rfl, rfl⟩)
    go_ret
    rw [HE.out]
    exact ⟨none, 0, rfl, World.ownsRow_nil _ _ _ _, by go_grown⟩
  · have hlf : leafB' o = false := by unfold leafB'; simp; omega
    obtain ⟨an, rfl⟩ := Int.eq_ofNat_of_zero_le (by omega : 0 ≤ a)
    obtain ⟨bn, rfl⟩ := Int.eq_ofNat_of_zero_le (by omega : 0 ≤ b)
    have HE : Hid (lvs l ⟨o, (an : Int), (bn : Int), v⟩ ⟨to, tl, tr, tc⟩ = lvAt l an tl ++ lvAt l bn tr) := Lib.hid (by unfold lvs; rw [if_neg ho]; rfl)
    have hl1 := lvAt_len l an tl
    have hl2 := lvAt_len l bn tr
    have HA : Hid (∀ W : World, Below w.heap.size w W → Calls Try.prog 28 #[.slice A len cap, .int .i64 (an : Nat), .int .i64 tl] W fun e w' => ∃ A' c', e = .returned (.slice A' (lvAt l an tl).length c') ∧ LvOwn w' W.heap.size A' c' (lvAt l an tl) ∧ Below W.heap.size W w') :=
      Lib.hid fun W hW => leavesAt_any A len cap l W ((hx.below hW (Nat.le_refl _)).more hW.size) hl hc an tl (by omega)
    have HB : Hid (∀ W : World, Below w.heap.size w W → Calls Try.prog 28 #[.slice A len cap, .int .i64 (bn : Nat), .int .i64 tr] W fun e w' => ∃ A' c', e = .returned (.slice A' (lvAt l bn tr).length c') ∧ LvOwn w' W.heap.size A' c' (lvAt l bn tr) ∧ Below W.heap.size W w') :=
      Lib.hid fun W hW => leavesAt_any A len cap l W ((hx.below hW (Nat.le_refl _)).more hW.size) hl hc bn tr (by omega)
    obtain ⟨L1, hL1⟩ : ∃ L, lvAt l an tl = L := ⟨_, rfl⟩
    obtain ⟨L2, hL2⟩ : ∃ L, lvAt l bn tr = L := ⟨_, rfl⟩
    simp only [hL1] at hl1 HA HE
    simp only [hL2] at hl2 HB HE
    have h63 : L1.length + L2.length ≤ maxLen := by unfold maxLen; omega
    have hbig : (L1.length + L2.length) * 8 ≤ 140737488355328 := by omega
    have HL63 := Lib.hid (And.intro h63 hbig)
    obtain ⟨L3, hL3⟩ : ∃ L, L1 ++ L2 = L := ⟨_, rfl⟩
    rw [hL3] at HE
    have HL3 := Lib.hid hL3
    clear hL3
    have HBX : Below w.heap.size w ((w.alloc (.cells #[.int .i64 o, .int .i64 (an : Int), .int .i64 (bn : Int), .int .i64 v] 39)).alloc (.cells #[.int .i64 to, .int .i64 tl, .int .i64 tr, .int .i64 tc] 37)) := by go_grown
    have HX0 : Own ((w.alloc (.cells #[.int .i64 o, .int .i64 (an : Int), .int .i64 (bn : Int), .int .i64 v] 39)).alloc (.cells #[.int .i64 to, .int .i64 tl, .int .i64 tr, .int .i64 tc] 37)) w.heap.size 39 [.int .i64 o, .int .i64 (an : Int), .int .i64 (bn : Int), .int .i64 v] := (Own.new w _ [_, _, _, _]).alloc _
    have HX1 : Own ((w.alloc (.cells #[.int .i64 o, .int .i64 (an : Int), .int .i64 (bn : Int), .int .i64 v] 39)).alloc (.cells #[.int .i64 to, .int .i64 tl, .int .i64 tr, .int .i64 tc] 37)) (w.heap.size + 1) 37 [.int .i64 to, .int .i64 tl, .int .i64 tr, .int .i64 tc] := own_endT (by simp) _ [_, _, _, _]
    clear hx hl hcs hd hL1 hL2 hl1 hl2 h63 hbig ho
    go_enter Try.func19, Try.ntmps19
    go_upto_region 3 with (go_at_call 27; (with_reducible refine (isLeaf_any _ _).mono ?_); rintro e w1 ⟨rfl, rfl⟩)
    obtain ⟨Y, hY⟩ : ∃ Y, Y = (w.alloc (.cells #[.int .i64 o, .int .i64 (an : Int), .int .i64 (bn : Int), .int .i64 v] 39)).alloc (.cells #[.int .i64 to, .int .i64 tl, .int .i64 tr, .int .i64 tc] 37) := ⟨_, rfl⟩
    rw [← hY] at HBX HX0 HX1 ⊢
    have HF : Hid (∀ W : World, Below Y.heap.size Y W → W.cell? ⟨w.heap.size, 1, none⟩ = some (.int .i64 (an : Nat)) ∧ W.cell? ⟨w.heap.size, 2, none⟩ = some (.int .i64 (bn : Nat)) ∧ W.cell? ⟨w.heap.size + 1, 1, none⟩ = some (.int .i64 tl) ∧ W.cell? ⟨w.heap.size + 1, 2, none⟩ = some (.int .i64 tr)) :=
      Lib.hid fun W hW => ⟨(HX0.below hW HX0.lt).cell rfl, (HX0.below hW HX0.lt).cell rfl, (HX1.below hW HX1.lt).cell rfl, (HX1.below hW HX1.lt).cell rfl⟩
    have HB1 := Lib.hid HBX
    clear hY HBX HX0 HX1
    obtain ⟨n0, hn0⟩ : ∃ n0, w.heap.size = n0 := ⟨_, rfl⟩
    have HN := Lib.hid hn0
    rw [hn0] at HF
    simp only [hn0]
    clear hn0
    refine wp_region_steps (X := Nat × (Value × Value × Value × Value)) (LvS Y Y.heap.size L1 L2 L3) (fun x j => doneL [0, 0, 0, 0, 0, 1, 0, 0, 0, 0, 0, 2, 3, 4] x.1 j) (effL [0, 0, 0, 0, 0, 1, 0, 0, 0, 0, 0, 2, 3, 4]) (0, (undef, undef, undef, undef)) (fun x => [.slice A len cap, .pointer (some ⟨n0, 1, none⟩), .int .i64 (an : Nat), .pointer (some ⟨n0 + 1, 1, none⟩), .int .i64 tl, x.2.1, .slice A len cap, .pointer (some ⟨n0, 2, none⟩), .int .i64 (bn : Nat), .pointer (some ⟨n0 + 1, 2, none⟩), .int .i64 tr, x.2.2.1, x.2.2.2.1, x.2.2.2.2]) _ (by kernel_rfl) (by kernel_rfl) (by kernel_rfl) (fun x => by simp only [putsD, Act.put, List.setIfInBounds_toArray, List.set_cons_zero, List.set_cons_succ]; exact rfl) h0L ⟨Below.drew (Below.refl _ _), trivial⟩ (fun x => ?_) (fun x wz hDz hSz => ?_)
    · refine AllS.val (by rfl) (by rfl) (fun w hSw hPw => by go_simp) ?_
      refine AllS.val (by rfl) (by rfl) (fun w hSw hPw => by go_simp) ?_
      refine AllS.val (by rfl) (by rfl) (fun w hSw hPw => ?_) ?_
      · (try dsimp only at hSw)
        have q0 := (HF.out w hSw.1).1
        go_simp
      refine AllS.val (by rfl) (by rfl) (fun w hSw hPw => by go_simp) ?_
      refine AllS.val (by rfl) (by rfl) (fun w hSw hPw => ?_) ?_
      · (try dsimp only at hSw)
        have q0 := (HF.out w hSw.1).2.2.1
        go_simp
      refine AllS.turn (fun _ _ => rfl) (by rfl) (fun w hSw hPw K hK => ?_) ?_
      · (try dsimp only at hSw)
        have h0 := leTi (hPw.me rfl)
        have hx0 : x.1 = 0 := by exact Nat.le_zero.1 h0
        obtain ⟨p, y1, y2, y3, y4⟩ := x
        (try dsimp only at hx0)
        subst hx0
        obtain ⟨hb, _⟩ := hSw
        go_simp
        go_at_call 28
        (with_reducible refine (HA.out _ (HB1.out.trans (hb.mono HB1.out.size))).mono ?_)
        rintro e w7 ⟨A', c', rfl, ho7, hb7⟩
        go_simp
        exact hK (1, .slice A' L1.length c', y2, y3, y4) _ (nxtL rfl (by decide)) ⟨below_via hb hb7, A', c', rfl, ho7.mono hb.size⟩
      refine AllS.val (by rfl) (by rfl) (fun w hSw hPw => by go_simp) ?_
      refine AllS.val (by rfl) (by rfl) (fun w hSw hPw => by go_simp) ?_
      refine AllS.val (by rfl) (by rfl) (fun w hSw hPw => ?_) ?_
      · (try dsimp only at hSw)
        have q0 := (HF.out w hSw.1).2.1
        go_simp
      refine AllS.val (by rfl) (by rfl) (fun w hSw hPw => by go_simp) ?_
      refine AllS.val (by rfl) (by rfl) (fun w hSw hPw => ?_) ?_
      · (try dsimp only at hSw)
        have q0 := (HF.out w hSw.1).2.2.2
        go_simp
      refine AllS.turn (fun _ _ => rfl) (by rfl) (fun w hSw hPw K hK => ?_) ?_
      · (try dsimp only at hSw)
        have h0 := leTi (hPw.me rfl)
        have h1 := geTi (hPw.need (k := 5) rfl (by kernel_rfl))
        have hx0 : x.1 = 1 := Nat.le_antisymm h0 h1
        obtain ⟨p, y1, y2, y3, y4⟩ := x
        (try dsimp only at hx0)
        subst hx0
        obtain ⟨hb, A1, c1, hy1, ho1⟩ := hSw
        (try dsimp only at hy1)
        subst hy1
        go_simp
        go_at_call 28
        (with_reducible refine (HB.out _ (HB1.out.trans (hb.mono HB1.out.size))).mono ?_)
        rintro e w7 ⟨A', c', rfl, ho7, hb7⟩
        go_simp
        exact hK (2, .slice A1 L1.length c1, .slice A' L2.length c', y3, y4) _ (nxtL rfl (by decide)) ⟨below_via hb hb7, ⟨A1, c1, rfl, ho1.below hb7⟩, A', c', rfl, ho7.rd⟩
      refine AllS.turn (fun _ _ => rfl) (by rfl) (fun w hSw hPw K hK => ?_) ?_
      · (try dsimp only at hSw)
        have h0 := leTi (hPw.me rfl)
        have h1 := geTi (hPw.need (k := 11) rfl (by kernel_rfl))
        have hx0 : x.1 = 2 := Nat.le_antisymm h0 h1
        obtain ⟨p, y1, y2, y3, y4⟩ := x
        (try dsimp only at hx0)
        subst hx0
        obtain ⟨hb, ⟨A1, c1, hy1, ho1⟩, A2, c2, hy2, hr2⟩ := hSw
        (try dsimp only at hy1 hy2)
        subst hy1 hy2
        refine oper_app (.tmp 15) (.tmp 21) 30 rfl Y.heap.size 3 1 8 int_app (iv (ni L1)) (by rfl) ho1 (iv (ni L2)) (by rfl) (by simp [iv, ni]) (fun h => by simpa [ni] using hr2.nil h) hr2.news (iv_one _) HL63.out.1 HL63.out.2 hb.size ?_
        intro A8 c8 w8 hown8 hg8 hb8
        exact hK (3, .slice A1 L1.length c1, .slice A2 L2.length c2, .slice A8 (L1.length + L2.length) c8, y4) _ (nxtL rfl (by decide)) ⟨hb.trans hb8, A8, c8, lv_len3 HL3.out, lv_own3 HL3.out hown8⟩
      refine AllS.turn (fun _ _ => rfl) (by rfl) (fun w hSw hPw K hK => ?_) ?_
      · (try dsimp only at hSw)
        have h0 := leTi (hPw.me rfl)
        have h1 := geTi (hPw.need (k := 12) rfl (by kernel_rfl))
        have hx0 : x.1 = 3 := Nat.le_antisymm h0 h1
        obtain ⟨p, y1, y2, y3, y4⟩ := x
        (try dsimp only at hx0)
        subst hx0
        obtain ⟨hb, A3, c3, hy3, ho3⟩ := hSw
        (try dsimp only at hy3)
        subst hy3
        go_simp
        exact hK (4, y1, y2, .slice A3 L3.length c3, .slice A3 L3.length c3) _ (nxtL rfl (by decide)) ⟨hb, A3, c3, rfl, ho3⟩
      exact AllS.nil
    have hd4 := geTi (hDz 13 (by decide) (by decide))
    obtain ⟨p, y1, y2, y3, y4⟩ := x
    (try dsimp only at hd4)
    obtain ⟨q, rfl⟩ : ∃ q, p = q + 4 := ⟨p - 4, by simp at hd4; omega⟩
    obtain ⟨hb, A3, c3, hy, ho3⟩ := hSz
    (try dsimp only at hy)
    subst hy
    clear hDz hd4
    go_wp2
    go_ret
    rw [HE.out]
    have hs := HB1.out.size
    exact ⟨A3, c3, rfl, ho3.mono (by have := HN.out; omega), HB1.out.trans (hb.mono hs)⟩

end Go.Proofs.Yteogdcjigigeeaa
