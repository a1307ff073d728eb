/-
  Package weak (S1): (*list).result, (*list).variables.
-/
import Derived.Test.YtggekjccblblpaaWeakAt
import Derived.Test.YtggekjccblblpaaMBase
import Derived.Test.YtggekjccblblpaaLiveStep
namespace Go.Proofs.Ytggekjccblblpaa
open Go.RowKit
set_option linter.unusedSimpArgs false
set_option linter.unusedVariables false
set_option maxRecDepth 100000

theorem PlTo.pre {base g m c : Nat} {T : List Tm} {A : Option Addr} {P P' : List Tm → Nat → Prop} {X Y X' : World} {e : Ending} (h : PlTo base g m T A c P Y e X') (hb : Below X.heap.size X Y) (hP : ∀ T' r, P T' r → P' T' r) : PlTo base g m T A c P' X e X' := by
  obtain ⟨T', r, A', c', h1, h2, h3, h4⟩ := h
  exact ⟨T', r, A', c', h1, hP _ _ h2, h3, (Kpt.of_below _ hb).trans h4⟩

/-- on the way through an operation's operands: the term's box n0 stays as it is -/
def ReT (base g m n0 : Nat) (cs : List Value) (T : List Tm) (A : Option Addr) (c : Nat) (P : List Tm → Nat → Prop) (X : World) (x : Nat × Value × Value) (w : World) : Prop :=
  Own w n0 31 cs ∧ match x.1 with
  | 0 => Below X.heap.size X w
  | 1 => Below X.heap.size X w
  | 2 => ∃ (T' : List Tm) (r : Nat) (A' : Option Addr) (c' : Nat), x.2.1 = .int .i64 (r : Int) ∧ P T' r ∧ LsAt base g m T' A' c' w ∧ Kpt g m (Value.slice A T.length c).ownBlock (Value.slice A' T'.length c').ownBlock X w
  | _ => ∃ (T' : List Tm) (r : Nat) (A' : Option Addr) (c' : Nat), x.2.2 = .int .i64 (r : Int) ∧ P T' r ∧ LsAt base g m T' A' c' w ∧ Kpt g m (Value.slice A T.length c).ownBlock (Value.slice A' T'.length c').ownBlock X w

theorem key_nums {o a b v : Int} (h0 : -65536 ≤ o ∧ o ≤ 65536) (h1 : -65536 ≤ a ∧ a ≤ 65536) (h2 : -65536 ≤ b ∧ b ≤ 65536) (h3 : -65536 ≤ v ∧ v ≤ 65536) : KeyV Try.prog 31 (tmV ⟨o, a, b, v⟩) :=
  term_key (o := o) (a := a) (b := b) (v := v) (wf64 (x := o) (by omega) (by omega)) (wf64 (x := a) (by omega) (by omega)) (wf64 (x := b) (by omega) (by omega)) (wf64 (x := v) (by omega) (by omega))

set_option maxHeartbeats 8000000 in
theorem result_any (n base g m : Nat) (T : List Tm) (A : Option Addr) (c : Nat) (o a b v : Int) (A1 A2 : Option Addr) (n1 c1 n2 c2 : Nat) (at_ ops : List Nat) (X : World) (hl : LsAt base g m T A c X) (hT : T.length ≤ 100) (hs : base ≤ X.heap.size)
    (h1 : RdI X X.heap.size A1 (ni at_)) (hn1 : at_.length = n1) (h2 : RdI X X.heap.size A2 (ni ops)) (hn2 : ops.length = n2) (hm1 : n1 ≤ 65536) (hm2 : n2 ≤ 65536) (hk : ResOk n T at_ ops ⟨o, a, b, v⟩)
    (ho : (o = 1 ∧ 0 ≤ v ∧ v < 256) ∨ (o = 2 ∧ 0 ≤ v ∧ v < n1) ∨ (3 ≤ o ∧ o ≤ 6 ∧ 0 ≤ a ∧ a < n2 ∧ 0 ≤ b ∧ b < n2)) :
    Calls Try.prog 25 #[.pointer (some ⟨g, 0, none⟩), .agg #[.int .i64 o, .int .i64 a, .int .i64 b, .int .i64 v], .slice A1 n1 c1, .slice A2 n2 c2] X fun e X' => PlTo base g m T A c (ResT T at_ ops ⟨o, a, b, v⟩) X e X' := by
  have HLS := Lib.hid hl
  have HOP : Hid (3 ≤ o → ∀ r, ops[a.toNat]? = some r ∨ ops[b.toNat]? = some r → r < T.length) := Lib.hid hk.opr
  have HBX : Hid (Below X.heap.size X (X.alloc (.cells #[.int .i64 o, .int .i64 a, .int .i64 b, .int .i64 v] 31))) := Lib.hid (by go_grown)
  have HPL := Lib.hid (fun (Z : World) (o' a' b' v' : Int) (hZ : Below X.heap.size X Z) (hkey : KeyV Try.prog 31 (tmV ⟨o', a', b', v'⟩)) => (place_any base g m T A c o' a' b' v' Z (hl.quiet hZ) hT hkey (Nat.le_trans hs hZ.size)))
  have HX0 : Hid (Own (X.alloc (.cells #[.int .i64 o, .int .i64 a, .int .i64 b, .int .i64 v] 31)) X.heap.size 31 [.int .i64 o, .int .i64 a, .int .i64 b, .int .i64 v]) := Lib.hid (Own.new X _ _)
  clear hl hk
  rcases ho with ⟨rfl, hv0, hv1⟩ | ⟨rfl, hv0, hv1⟩ | ⟨ho0, ho1, ha0, ha1, hb0, hb1⟩
  · clear h1 h2
    go_enter Try.func25, Try.ntmps25
    go_wp2_with (go_at_call 41; (refine (HPL.out _ 1 0 0 v HBX.out (key_nums (by omega) (by omega) (by omega) (by omega))).mono ?_); rintro e w1 ⟨T', r, A', c', rfl, hp, hl', hk'⟩)
    go_ret
    exact ⟨T', r, A', c', rfl, .inl ⟨rfl, hp⟩, hl', (Kpt.of_below _ HBX.out).trans hk'⟩
  · obtain ⟨vn, rfl⟩ := Int.eq_ofNat_of_zero_le hv0
    have hvn : vn < n1 := by omega
    obtain ⟨r, hr⟩ : ∃ r, at_[vn]? = some r := ⟨_, List.getElem?_eq_getElem (by omega)⟩
    obtain ⟨ad, x, rfl, hbl, hx, hcx⟩ := h1.at_ (k := vn) (by unfold ni; rw [List.length_map]; omega)
    rw [ni_at hr] at hx
    injection hx with hx
    subst hx
    have HR := Lib.hid hr
    clear h1 h2 hr
    go_enter Try.func25, Try.ntmps25
    have q1 : (ad.add vn).block < X.heap.size + 1 := by omega
    go_wp2
    go_ret
    exact ⟨T, r, A, c, rfl, .inr (.inl ⟨rfl, rfl, by simp only [Int.toNat_natCast]; exact HR.out⟩), HLS.out.quiet HBX.out, Kpt.of_below _ HBX.out⟩
  · obtain ⟨an, rfl⟩ := Int.eq_ofNat_of_zero_le ha0
    obtain ⟨bn, rfl⟩ := Int.eq_ofNat_of_zero_le hb0
    have han : an < n2 := by omega
    have hbn : bn < n2 := by omega
    have e1 : (o == 1) = false := by simp; omega
    have e2 : (o == 2) = false := by simp; omega
    obtain ⟨xa, hx⟩ : ∃ x, ops[an]? = some x := ⟨_, List.getElem?_eq_getElem (by omega)⟩
    obtain ⟨yb, hy⟩ : ∃ y, ops[bn]? = some y := ⟨_, List.getElem?_eq_getElem (by omega)⟩
    have hxl := HOP.out ho0 xa (.inl (by simpa using hx))
    have hyl := HOP.out ho0 yb (.inr (by simpa using hy))
    have HX := Lib.hid hx
    have HY := Lib.hid hy
    obtain ⟨ad, x', rfl, hbx, hx', hcx⟩ := h2.at_ (k := an) (by unfold ni; rw [List.length_map]; omega)
    obtain ⟨ad', y', he, hby, hy', hcy⟩ := h2.at_ (k := bn) (by unfold ni; rw [List.length_map]; omega)
    injection he with he
    subst he
    rw [ni_at hx] at hx'
    rw [ni_at hy] at hy'
    injection hx' with hx'
    injection hy' with hy'
    subst hx' hy'
    have HKEY := Lib.hid (key_nums (o := o) (a := (xa : Int)) (b := (yb : Int)) (v := 0) (by omega) (by omega) (by omega) (by omega))
    have HCX := Lib.hid (fun (Z : World) (hZ : Below X.heap.size X Z) => show Z.cell? (ad.add an) = some (.int .i64 (xa : Int)) ∧ Z.cell? (ad.add bn) = some (.int .i64 (yb : Int)) from ⟨(hZ.cell hbx).trans hcx, (hZ.cell hby).trans hcy⟩)
    clear h1 h2 hx hy hcx hcy HOP
    go_enter Try.func25, Try.ntmps25
    go_upto_region 6 with fail
    obtain ⟨Y, hY⟩ : ∃ Y, Y = X.alloc (.cells #[.int .i64 o, .int .i64 (an : Int), .int .i64 (bn : Int), .int .i64 v] 31) := ⟨_, rfl⟩
    rw [← hY] at HX0 HBX ⊢
    clear hY
    obtain ⟨n0, hn0⟩ : ∃ n0, X.heap.size = n0 := ⟨_, rfl⟩
    have HN := Lib.hid hn0
    rw [hn0] at HX0
    simp only [hn0]
    have HAP : Hid (n0 ≠ g ∧ n0 ≠ m ∧ (Value.slice A T.length c).ownBlock ≠ some n0) := Lib.hid (by
      have h1 := HLS.out.gb
      have h2 := HLS.out.mb
      exact ⟨by omega, by omega, fun e => by have := (HLS.out.row.lt _ e).2; omega⟩)
    clear hn0
    refine wp_region_steps (X := Nat × (Value × Value)) (ReT base g m n0 [.int .i64 o, .int .i64 (an : Int), .int .i64 (bn : Int), .int .i64 v] T A c (Plc T ⟨o, xa, yb, 0⟩) Y) (fun x j => doneL [0, 0, 0, 0, 0, 0, 0, 0, 0, 0, 0, 0, 0, 1, 2, 3] x.1 j) (effL [0, 0, 0, 0, 0, 0, 0, 0, 0, 0, 0, 0, 0, 1, 2, 3]) (0, (undef, undef)) (fun x => [.pointer (some ⟨g, 0, none⟩), .pointer (some ⟨n0, 0, none⟩), .int .i64 o, .slice (some ad) n2 c2, .pointer (some ⟨n0, 1, none⟩), .int .i64 (an : Nat), .pointer (some (ad.add an)), .int .i64 (xa : Nat), .slice (some ad) n2 c2, .pointer (some ⟨n0, 2, none⟩), .int .i64 (bn : Nat), .pointer (some (ad.add bn)), .int .i64 (yb : Nat), .agg #[.int .i64 o, .int .i64 (xa : Nat), .int .i64 (yb : Nat), .int .i64 0], x.2.1, x.2.2]) _ (by kernel_rfl) (by kernel_rfl) (by kernel_rfl) (fun x => by simp only [putsD, Act.put, List.setIfInBounds_toArray, List.set_cons_zero, List.set_cons_succ]; exact rfl) h0L ⟨HX0.out, below_drewW (Below.refl _ _)⟩ (fun x => ?_) (fun x wz hDz hSz => ?_)
    · refine AllS.val (by rfl) (by rfl) (fun w hSw hPw => by go_simp) ?_
      refine AllS.val (by rfl) (by rfl) (fun w hSw hPw => by go_simp) ?_
      refine AllS.val (by rfl) (by rfl) (fun w hSw hPw => ?_) ?_
      · (try dsimp only at hSw)
        have q0 := hSw.1.cell (j := 0) rfl
        go_simp
      refine AllS.val (by rfl) (by rfl) (fun w hSw hPw => by go_simp) ?_
      refine AllS.val (by rfl) (by rfl) (fun w hSw hPw => by go_simp) ?_
      refine AllS.val (by rfl) (by rfl) (fun w hSw hPw => ?_) ?_
      · (try dsimp only at hSw)
        have q0 := hSw.1.cell (j := 1) rfl
        go_simp
      refine AllS.val (by rfl) (by rfl) (fun w hSw hPw => by go_simp) ?_
      refine AllS.val (by rfl) (by rfl) (fun w hSw hPw => ?_) ?_
      · (try dsimp only at hSw)
        have h0 := leW (hPw.not (j := 13) rfl (by kernel_rfl))
        have hx0 : x.1 = 0 := by exact Nat.le_zero.1 h0
        obtain ⟨p, y1, y2⟩ := x
        (try dsimp only at hx0)
        subst hx0
        obtain ⟨_, hq⟩ := hSw
        (try dsimp only at hq)
        have q0 := (HCX.out w (HBX.out.trans (hq.mono HBX.out.size))).1
        go_simp
      refine AllS.val (by rfl) (by rfl) (fun w hSw hPw => by go_simp) ?_
      refine AllS.val (by rfl) (by rfl) (fun w hSw hPw => by go_simp) ?_
      refine AllS.val (by rfl) (by rfl) (fun w hSw hPw => ?_) ?_
      · (try dsimp only at hSw)
        have q0 := hSw.1.cell (j := 2) rfl
        go_simp
      refine AllS.val (by rfl) (by rfl) (fun w hSw hPw => by go_simp) ?_
      refine AllS.val (by rfl) (by rfl) (fun w hSw hPw => ?_) ?_
      · (try dsimp only at hSw)
        have h0 := leW (hPw.not (j := 13) rfl (by kernel_rfl))
        have hx0 : x.1 = 0 := by exact Nat.le_zero.1 h0
        obtain ⟨p, y1, y2⟩ := x
        (try dsimp only at hx0)
        subst hx0
        obtain ⟨_, hq⟩ := hSw
        (try dsimp only at hq)
        have q0 := (HCX.out w (HBX.out.trans (hq.mono HBX.out.size))).2
        go_simp
      refine AllS.turn (fun _ _ => rfl) (by rfl) (fun w hSw hPw K hK => ?_) ?_
      · (try dsimp only at hSw)
        have h0 := leW (hPw.me rfl)
        have hx0 : x.1 = 0 := by exact Nat.le_zero.1 h0
        obtain ⟨p, y1, y2⟩ := x
        (try dsimp only at hx0)
        subst hx0
        obtain ⟨ho, hq⟩ := hSw
        go_simp
        exact hK (1, y1, y2) _ (nxtL rfl (by decide)) ⟨ho, hq⟩
      refine AllS.turn (fun _ _ => rfl) (by rfl) (fun w hSw hPw K hK => ?_) ?_
      · (try dsimp only at hSw)
        have h0 := leW (hPw.me rfl)
        have h1 := geW (hPw.need (k := 13) rfl (by kernel_rfl))
        have hx0 : x.1 = 1 := Nat.le_antisymm h0 h1
        obtain ⟨p, y1, y2⟩ := x
        (try dsimp only at hx0)
        subst hx0
        obtain ⟨ho, hq⟩ := hSw
        (try dsimp only at hq)
        go_simp
        go_at_call 41
        refine (HPL.out _ o xa yb 0 (HBX.out.trans (hq.mono HBX.out.size)) HKEY.out).mono ?_
        rintro e w7 ⟨T', r, A', c', rfl, hp, hl', hk'⟩
        go_simp
        exact hK (2, .int .i64 (r : Nat), y2) _ (nxtL rfl (by decide)) ⟨hk'.own_ ho HAP.out.1 HAP.out.2.1 HAP.out.2.2, T', r, A', c', rfl, hp, hl', (Kpt.of_below _ hq).trans hk'⟩
      refine AllS.turn (fun _ _ => rfl) (by rfl) (fun w hSw hPw K hK => ?_) ?_
      · (try dsimp only at hSw)
        have h0 := leW (hPw.me rfl)
        have h1 := geW (hPw.need (k := 14) rfl (by kernel_rfl))
        have hx0 : x.1 = 2 := Nat.le_antisymm h0 h1
        obtain ⟨p, y1, y2⟩ := x
        (try dsimp only at hx0)
        subst hx0
        obtain ⟨ho, T', r, A', c', hy, hp, hl', hk'⟩ := hSw
        (try dsimp only at hy)
        subst hy
        go_simp
        exact hK (3, _, .int .i64 (r : Nat)) _ (nxtL rfl (by decide)) ⟨ho, T', r, A', c', rfl, hp, hl', hk'⟩
      exact AllS.nil
    have hd4 := geW (hDz 15 (by decide) (by decide))
    obtain ⟨p, y1, y2⟩ := x
    (try dsimp only at hd4)
    obtain ⟨q, rfl⟩ : ∃ q, p = q + 3 := ⟨p - 3, by simp at hd4; omega⟩
    obtain ⟨_, T', r, A', c', hy, hp, hl', hk'⟩ := hSz
    (try dsimp only at hy)
    subst hy
    clear hDz hd4
    go_wp2
    go_ret
    exact ⟨T', r, A', c', rfl, .inr (.inr ⟨ho0, ho1, xa, yb, by simpa using HX.out, by simpa using HY.out, hp⟩), hl', (Kpt.of_below _ HBX.out).trans hk'⟩

theorem Kpt.setNew {g m : Nat} {o o' : Option Nat} {X X' : World} (h : Kpt g m o o' X X') {p : Addr} (hp : X.heap.size ≤ p.block) (u : Value) : Kpt g m o o' X (X'.setCell p u) :=
  ⟨h.os, h.tape, h.output, by simp; exact h.size, fun i hi h1 h2 h3 => (Below.heap_setCell X' p u i (by omega)).trans (h.block i hi h1 h2 h3), h.own⟩

theorem ni_setW (l : List Nat) (i r : Nat) : ni (l.set i r) = (ni l).set i (r : Int) := by unfold ni; rw [List.map_set]

theorem ni_repW (n : Nat) : ni (List.replicate n 0) = List.replicate n (0 : Int) := by unfold ni; rw [List.map_replicate]; rfl

/-- the variables' places, in a block of the call's own -/
structure VsAt (base g m n : Nat) (T : List Tm) (A : Option Addr) (c G : Nat) (at_ : List Nat) (X : World) : Prop where
  ls : LsAt base g m T A c X
  vs : Own X G 3 (iv (ni at_))
  gb : base ≤ G
  ap : (Value.slice A T.length c).ownBlock ≠ some G

theorem VsAt.quiet {base g m n c G : Nat} {T : List Tm} {A : Option Addr} {at_ : List Nat} {X X' : World} (h : VsAt base g m n T A c G at_ X) (hb : Below X.heap.size X X') : VsAt base g m n T A c G at_ X' :=
  ⟨h.ls.quiet hb, h.vs.below hb h.vs.lt, h.gb, h.ap⟩

/-- a place told, and laid in the variables' block -/
theorem VsAt.put {base g m n c c' G k r : Nat} {T T' : List Tm} {A A' : Option Addr} {at_ : List Nat} {X X' : World} (h : VsAt base g m n T A c G at_ X) (hl : LsAt base g m T' A' c' X') (hk : Kpt g m (Value.slice A T.length c).ownBlock (Value.slice A' T'.length c').ownBlock X X') :
    VsAt base g m n T' A' c' G (at_.set k r) (X'.setCell ⟨G, k, none⟩ (.int .i64 (r : Int))) := by
  have hgb := hl.gb
  have hmb := hl.mb
  have hg := h.gb
  obtain ⟨_, h2⟩ := hk.other h.vs.lt (by omega) (by omega) h.ap
  refine ⟨hl.set (p := ⟨G, k, none⟩) (by show g ≠ G; omega) (by show m ≠ G; omega) h2 _, ?_, hg, h2⟩
  rw [ni_setW]
  exact OwnI.set (hk.own_ h.vs (by omega) (by omega) h.ap) k _

/-- a place told -/
theorem VsAt.told {base g m n c c' G : Nat} {T T' : List Tm} {A A' : Option Addr} {at_ : List Nat} {X X' : World} (h : VsAt base g m n T A c G at_ X) (hl : LsAt base g m T' A' c' X') (hk : Kpt g m (Value.slice A T.length c).ownBlock (Value.slice A' T'.length c').ownBlock X X') : VsAt base g m n T' A' c' G at_ X' := by
  have hgb := hl.gb
  have hmb := hl.mb
  have hg := h.gb
  obtain ⟨_, h2⟩ := hk.other h.vs.lt (by omega) (by omega) h.ap
  exact ⟨hl, hk.own_ h.vs (by omega) (by omega) h.ap, hg, h2⟩

set_option maxHeartbeats 8000000 in
theorem variables_any (n base g m W : Nat) (X : World) (hl : LsAt base g m [] none 0 X) (hs : base ≤ X.heap.size) (hn1 : 1 ≤ n) (hn6 : n ≤ 6) (hW : W < 4294967296) :
    Calls Try.prog 24 #[.pointer (some ⟨g, 0, none⟩), .int .i64 n, .int .u32 (W : Nat)] X fun e X' => ∃ (T : List Tm) (A : Option Addr) (c G : Nat) (at_ : List Nat), e = .returned (.slice (some ⟨G, 0, none⟩) n n) ∧ WvI n W n T at_ ∧ VsAt base g m n T A c G at_ X' ∧ Kpt g m none (Value.slice A T.length c).ownBlock X X' := by
  have hmk := make_ints (P := Try.prog) 24 3 Try.underlying24 int_info n (by omega)
  have HV0 : Hid (VsAt base g m n [] none 0 X.heap.size (List.replicate n 0) (X.alloc (.cells (iv (List.replicate n 0)).toArray 3))) := Lib.hid ⟨hl.quiet (by go_grown), by rw [ni_repW]; exact Own.new _ _ _, hs, fun e => by cases e⟩
  have HK0 : Hid (Kpt g m none none X (X.alloc (.cells (iv (List.replicate n 0)).toArray 3))) := Lib.hid (Kpt.of_below _ (by go_grown))
  obtain ⟨G, hG⟩ : ∃ G, X.heap.size = G := ⟨_, rfl⟩
  have HG := Lib.hid hG
  clear hl
  go_enter Try.func24, Try.ntmps24
  go_wp2
  rw [hG] at HV0
  (try simp only [hG])
  clear hG hmk
  go_loopw [13] (fun i wr => ∃ (k : Nat) (T : List Tm) (A : Option Addr) (c : Nat) (at_ : List Nat), k ≤ n ∧ i = .int .i64 k ∧ Hid (WvI n W k T at_) ∧ Hid (VsAt base g m n T A c G at_ wr) ∧ Hid (Kpt g m none (Value.slice A T.length c).ownBlock X wr)) (fun i _ => n - (intOf i).toNat)
  case atStart => exact ⟨0, [], none, 0, _, Nat.zero_le _, rfl, Lib.hid (WvI.start n W), HV0, HK0⟩
  case round =>
    obtain ⟨k, T, A, c, at_, hk, rfl, HI, HV, HK⟩ := hrel
    by_cases hlt : k < n
    · have hal : k < at_.length := by rw [HI.out.len]; exact hlt
      cases hb : W.testBit k with
      | false =>
        go_wp2_with (go_at_call 40; (with_reducible refine (hasBit_any W k _ hW (by omega)).mono ?_); rw [hb]; rintro e w1 ⟨rfl, rfl⟩)
        go_round
        case rel => exact ⟨k + 1, T, A, c, at_, by omega, by go_num, Lib.hid (HI.out.no hb), HV, HK⟩
        case measure => (simp [intOf]; omega)
      | true =>
        have HPL := Lib.hid (place_any base g m T A c 2 0 0 (k : Int) wr HV.out.ls (by have := HI.out.tl; omega) (key_nums (by omega) (by omega) (by omega) (by omega)) (by have := HV.out.vs.lt; have := HV.out.gb; omega))
        go_wp2_with (first
          | (go_at_call 40; (with_reducible refine (hasBit_any W k _ hW (by omega)).mono ?_); rw [hb]; rintro e w1 ⟨rfl, rfl⟩)
          | (go_at_call 41; (refine HPL.out.mono ?_); rintro e w1 ⟨T', r, A', c', rfl, hp, hl', hk'⟩; have HP := Lib.hid hp; have HLS := Lib.hid hl'; have HKP := Lib.hid hk'; have hgo := (HV.out.told hl' hk').vs; have q0 := hgo.cell (iv_at (ni_at (List.getElem?_eq_getElem hal))); have q1 := hgo.frozen k; clear hp hl' hk' hgo))
        go_round
        case rel => exact ⟨k + 1, T', A', c', at_.set k r, by omega, by go_num, Lib.hid (HI.out.yes hb hlt HP.out), Lib.hid (HV.out.put HLS.out HKP.out), Lib.hid ((HK.out.trans HKP.out).setNew (p := ⟨G, k, none⟩) (by rw [HG.out]; exact Nat.le_refl _) _)⟩
        case measure => (simp [intOf]; omega)
    · have hkn : k = n := by omega
      subst hkn
      go_wp2
      go_ret
      exact ⟨T, A, c, G, at_, rfl, HI.out, HV.out, HK.out⟩

end Go.Proofs.Ytggekjccblblpaa
