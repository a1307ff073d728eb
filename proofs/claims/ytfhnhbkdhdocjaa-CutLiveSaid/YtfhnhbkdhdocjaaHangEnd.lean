/-
  hang.ends (H1): whether an exit is come to without passing what is to be avoided; slices.ContainsFunc with its closure, which marks what it has seen.
-/
import Derived.Test.YtfhnhbkdhdocjaaMWay
import Derived.Test.YtfhnhbkdhdocjaaMRuleR
import Derived.Test.YtfhnhbkdhdocjaaMHang
import Derived.BigQuiet
import Derived.Deep.RegionWith
namespace Go.Proofs.Ytfhnhbkdhdocjaa
open Go.RowKit
set_option linter.unusedSimpArgs false
set_option linter.unusedVariables false
set_option maxRecDepth 100000

/-- the search's three boxes, from block n on: the graph, what is avoided, the search itself -/
structure Ev (w : World) (n : Nat) (A : Option Addr) (len cap : Nat) (W : Nat) : Prop where
  gr : Own w n 80 [.slice A len cap]
  av : Own w (n + 1) 23 [.int .u32 (W : Nat)]
  fn : Own w (n + 2) 57 [.func (.func 123) #[] #[.pointer (some ⟨n + 1, 0, none⟩), .pointer (some ⟨n, 0, none⟩), .pointer (some ⟨n + 2, 0, none⟩)]]
  sz : n + 3 ≤ w.heap.size

section
variable {X Y : World} {n : Nat} {A : Option Addr} {len cap : Nat} {W : Nat}

theorem Ev.quiet (h : Ev X n A len cap W) (hb : Below X.heap.size X Y) : Ev Y n A len cap W :=
  ⟨h.gr.below hb h.gr.lt, h.av.below hb h.av.lt, h.fn.below hb h.fn.lt, Nat.le_trans h.sz hb.size⟩

theorem Ev.drew (h : Ev X n A len cap W) : Ev X.drew n A len cap W := ⟨h.gr, h.av, h.fn, h.sz⟩

theorem Ev.drewN (h : Ev X n A len cap W) (q : Nat) : Ev (X.drewN q) n A len cap W := ⟨h.gr, h.av, h.fn, h.sz⟩

theorem below_drewN {B : Nat} (h : Below B X Y) (q : Nat) : Below B X (Y.drewN q) := ⟨h.os, h.tape, h.output, h.size, h.block⟩

/-- one more was seen -/
theorem Ev.seen (h : Ev X n A len cap W) {V : Nat} {v : Int} (hv : v = (V : Int)) : Ev (X.setCell ⟨n + 1, 0, none⟩ (.int .u32 v)) n A len cap V := by
  subst hv
  exact ⟨h.gr.far (by simp) _, h.av.set 0 (.int .u32 ((V : Nat) : Int)), h.fn.far (by simp) _, by simpa using h.sz⟩

end

/-- what the search does with fuel f -/
def ExitsDo (A : Option Addr) (len cap : Nat) (nx : List (List Int)) (n f : Nat) : Prop := ∀ (v W : Nat) (w : World), RdG w n A nx → fvW W len ≤ f → v < len → W < 4294967296 → Ev w n A len cap W →
  Calls Try.prog 123 #[.int .i64 v, .pointer (some ⟨n + 1, 0, none⟩), .pointer (some ⟨n, 0, none⟩), .pointer (some ⟨n + 2, 0, none⟩)] w fun e w' => ∃ (b : Bool) (W' : Nat), e = .returned (.bool b) ∧ W' < 4294967296 ∧ Ev w' n A len cap W' ∧ (b = true ↔ ExW nx W v) ∧ (b = false → Dd nx W W') ∧ Below n w w'

set_option maxHeartbeats 4000000 in
theorem indexFunc_any (A : Option Addr) (len cap : Nat) (nx : List (List Int)) (n f : Nat) (IH : ExitsDo A len cap nx n f) (As : Option Addr) (sl cs : Nat) (ss : List Nat) (W : Nat) (w : World) (hx : RdG w n A nx) (hs : RdI w n As (ni ss)) (hl : ss.length = sl) (hlt : ∀ x ∈ ss, x < len) (hf : fvW W len ≤ f) (hW : W < 4294967296) (hsl : sl ≤ 3) (hev : Ev w n A len cap W) :
    Calls Try.prog 126 #[.slice As sl cs, .func (.func 123) #[] #[.pointer (some ⟨n + 1, 0, none⟩), .pointer (some ⟨n, 0, none⟩), .pointer (some ⟨n + 2, 0, none⟩)]] w fun e w' => ∃ (r : Int) (W' : Nat), e = .returned (.int .i64 r) ∧ W' < 4294967296 ∧ Ev w' n A len cap W' ∧ ((0 ≤ r ∧ r ≤ 3 ∧ ∃ c, c ∈ ss ∧ ExW nx W c) ∨ (r = -1 ∧ Dd nx W W' ∧ ∀ c, c ∈ ss → ¬ ExW nx W c)) ∧ Below n w w' := by
  have HIH := Lib.hid IH
  have HL := Lib.hid hl
  have HLT := Lib.hid hlt
  have HF := Lib.hid hf
  have HNL : Hid ((ni ss).length = sl) := Lib.hid (by simp [ni, hl])
  have HD0 := Lib.hid (Dd.refl nx W)
  clear IH hl hlt hf
  go_enter Try.func126, Try.ntmps126
  go_wp2
  go_loopw [8] (fun z wr => ∃ (k Wk : Nat), k ≤ sl ∧ z = .int .i64 k ∧ Wk < 4294967296 ∧ Ev wr n A len cap Wk ∧ Dd nx W Wk ∧ (∀ c ∈ ss.take k, ¬ ExW nx W c) ∧ Below n w wr) (fun z _ => sl - (intOf z).toNat)
  case atStart => exact ⟨0, W, Nat.zero_le _, rfl, hW, hev, HD0.out, fun c hc => by simp at hc, Below.refl _ _⟩
  case round =>
    obtain ⟨k, Wk, hk, rfl, hWk, hevk, hdk, hno, hb⟩ := hrel
    have HNO := Lib.hid hno
    have HDK := Lib.hid hdk
    clear hno hdk
    by_cases hkt : k < sl
    · obtain ⟨ad, x', rfl, hbl, hd, hcell⟩ := (hs.below hb (Nat.le_refl _)).at_ (k := k) (by rw [HNL.out]; exact hkt)
      obtain ⟨x, hxx⟩ : ∃ x, ss[k]? = some x := ⟨_, List.getElem?_eq_getElem (by rw [HL.out]; exact hkt)⟩
      rw [ni_at hxx] at hd
      injection hd with hd
      subst hd
      have hxm := List.mem_of_getElem? hxx
      have HXM := Lib.hid hxm
      have HTK := Lib.hid (fun y => take_mem (f := y) hxx)
      have hcall := HIH.out x Wk wr (hx.below hb (Nat.le_refl _)) (Nat.le_trans (fvW_sub HDK.out.sub len) HF.out) (HLT.out x hxm) hWk hevk
      have HCALL := Lib.hid hcall
      clear hxx hxm hcall
      go_wp2_with fail
      refine HCALL.out.mono ?_
      rintro e w5 ⟨b, W5, rfl, hW5, hev5, hb5, hd5, hbel5⟩
      have HB5 := Lib.hid hb5
      have HD5 := Lib.hid hd5
      clear hb5 hd5
      cases b with
      | true =>
        have HEX := Lib.hid (HDK.out.same.1 (HB5.out.1 rfl))
        clear HB5 HD5
        go_wp2
        go_ret
        exact ⟨_, W5, rfl, hW5, hev5, .inl ⟨by omega, by omega, x, HXM.out, HEX.out⟩, hb.trans hbel5⟩
      | false =>
        have HNX : Hid (¬ ExW nx W x) := Lib.hid fun hxy => by
          have := HB5.out.2 (HDK.out.same.2 hxy)
          cases this
        have HDT := Lib.hid (HDK.out.trans (HD5.out rfl))
        clear HB5 HD5
        go_wp2
        go_round
        case rel =>
          refine ⟨k + 1, W5, by omega, by go_num, hW5, hev5, HDT.out, fun y hy => ?_, hb.trans hbel5⟩
          rcases (HTK.out y).1 hy with hy | rfl
          · exact HNO.out y hy
          · exact HNX.out
        case measure => (simp [intOf]; omega)
    · have htk : ss.take k = ss := List.take_of_length_le (by rw [HL.out]; omega)
      rw [htk] at HNO
      clear htk
      go_wp2
      go_ret
      exact ⟨_, Wk, rfl, hWk, hevk, .inr ⟨rfl, HDK.out, HNO.out⟩, hb⟩

set_option maxHeartbeats 1000000 in
theorem containsFunc_any (A : Option Addr) (len cap : Nat) (nx : List (List Int)) (n f : Nat) (IH : ExitsDo A len cap nx n f) (As : Option Addr) (sl cs : Nat) (ss : List Nat) (W : Nat) (w : World) (hx : RdG w n A nx) (hs : RdI w n As (ni ss)) (hl : ss.length = sl) (hlt : ∀ x ∈ ss, x < len) (hf : fvW W len ≤ f) (hW : W < 4294967296) (hsl : sl ≤ 3) (hev : Ev w n A len cap W) :
    Calls Try.prog 124 #[.slice As sl cs, .func (.func 123) #[] #[.pointer (some ⟨n + 1, 0, none⟩), .pointer (some ⟨n, 0, none⟩), .pointer (some ⟨n + 2, 0, none⟩)]] w fun e w' => ∃ (b : Bool) (W' : Nat), e = .returned (.bool b) ∧ W' < 4294967296 ∧ Ev w' n A len cap W' ∧ (b = true ↔ ∃ c, c ∈ ss ∧ ExW nx W c) ∧ (b = false → Dd nx W W') ∧ Below n w w' := by
  have HC := Lib.hid (indexFunc_any A len cap nx n f IH As sl cs ss W w hx hs hl hlt hf hW hsl hev)
  clear IH hx hs hl hlt hf hev
  go_enter Try.func124, Try.ntmps124
  go_wp2_with fail
  refine HC.out.mono ?_
  rintro e w5 ⟨r, W5, rfl, hW5, hev5, hr5, hbel5⟩
  rcases hr5 with ⟨h0, h3, hex⟩ | ⟨rfl, hdd, hno⟩
  · have HEX := Lib.hid hex
    have hge : decide (0 ≤ r) = true := decide_eq_true h0
    clear hex
    go_wp2
    go_ret
    exact ⟨_, W5, rfl, hW5, hev5, ⟨fun _ => HEX.out, fun _ => by simp [h0]⟩, fun h => absurd h (by simp [h0]), hbel5⟩
  · have HDD := Lib.hid hdd
    have HNO := Lib.hid hno
    clear hdd hno
    go_wp2
    go_ret
    exact ⟨_, W5, rfl, hW5, hev5, ⟨fun h => by simp at h, fun ⟨c, h1, h2⟩ => absurd h2 (HNO.out c h1)⟩, fun _ => HDD.out, hbel5⟩

set_option maxHeartbeats 4000000 in
theorem exits_any (A : Option Addr) (len cap : Nat) (nx : List (List Int)) (n : Nat) (hl : nx.length = len) (hc : ckWay nx = 0) : ∀ f, ExitsDo A len cap nx n f := by
  intro f
  induction f with
  | zero =>
    intro v W w hx hf hv hW hev
    have HT : Hid (W.testBit v = true) := Lib.hid (by
      cases h : W.testBit v with
      | true => rfl
      | false => have := fvW_less h len hv; omega)
    have hd1 := hev.av.cell (j := 0) rfl
    obtain ⟨b1, b2, b3⟩ := ckWay_bd hc
    have hv32 : v < 32 := by omega
    have HN : Hid (¬ ExW nx W v) := Lib.hid fun h => by have := h.free; rw [HT.out] at this; cases this
    have HDR := Lib.hid (Dd.refl nx W)
    clear hl hc hf b1 b2 b3
    go_enter Try.func123, Try.ntmps123
    go_wp2_with (go_at_call 76; (with_reducible refine (wayHas_any W v _ hW hv32).mono ?_); rw [HT.out]; rintro e w5 ⟨rfl, rfl⟩)
    go_ret
    exact ⟨false, W, rfl, hW, hev, ⟨fun h => (by cases h), fun h => absurd h HN.out⟩, fun _ => HDR.out, Below.refl _ _⟩
  | succ f IH =>
    intro v W w hx hf hv hW hev
    obtain ⟨b1, b2, b3⟩ := ckWay_bd hc
    have hv32 : v < 32 := by omega
    have hd0 := hev.gr.cell (j := 0) rfl
    have hd1 := hev.av.cell (j := 0) rfl
    have hf1 := hev.av.frozen 0
    have hd2 := hev.fn.cell (j := 0) rfl
    have HX := Lib.hid hx
    cases hbit : W.testBit v with
    | true =>
      have HT := Lib.hid hbit
      have HN : Hid (¬ ExW nx W v) := Lib.hid fun h => by have := h.free; rw [HT.out] at this; cases this
      have HDR := Lib.hid (Dd.refl nx W)
      clear hl hc hf b1 b2 b3 hbit IH hx
      go_enter Try.func123, Try.ntmps123
      go_wp2_with (go_at_call 76; (with_reducible refine (wayHas_any W v _ hW hv32).mono ?_); rw [HT.out]; rintro e w5 ⟨rfl, rfl⟩)
      go_ret
      exact ⟨false, W, rfl, hW, hev, ⟨fun h => (by cases h), fun h => absurd h HN.out⟩, fun _ => HDR.out, Below.refl _ _⟩
    | false =>
      have HBIT := Lib.hid hbit
      have hp32 := pow_lt_32 hv32
      have hor : bits .or .u32 ((W : Nat) : Int) ((2 : Int) ^ v % 4294967296) = ((W ||| 2 ^ v : Nat) : Int) := by rw [pow_u32' hv32]; exact u32_or_nat _ _ hW hp32
      have hW1 : W ||| 2 ^ v < 4294967296 := Nat.or_lt_two_pow (n := 32) hW hp32
      have hfl := fvW_less hbit len hv
      have HIFF := Lib.hid (exW_iff (nx := nx) hbit)
      have HSEEN := Lib.hid (fun h1 h2 => Dd.seen (nx := nx) hbit h1 h2)
      have hw1 : Below n w ((w.setCell ⟨n + 1, 0, none⟩ (.int .u32 (bits .or .u32 ((W : Nat) : Int) ((2 : Int) ^ v % 4294967296)))).drew) := ((Below.refl n w).setCell (show n ≤ (⟨n + 1, 0, none⟩ : Addr).block by simp) _).drew
      have hev1 := (hev.seen hor).drew
      obtain ⟨ad, row, Ar, cr, rfl, hbl, hd, hcell, hrow⟩ := hx.at_ (k := v) (by rw [hl]; exact hv)
      have hrs := row_sc hc hd
      subst hrs
      have hsl3 := sc_len hc v
      have HSC := Lib.hid (fun x (hx : x ∈ sc nx v) => sc_lt hc hx)
      have hev2 := hev1.drew
      have hw2 := hw1.drew
      have hx1 := hx.below hw2 (Nat.le_refl _)
      have hrow1 := hrow.below hw2 (Nat.le_refl _)
      have q0 := hev1.gr.cell (j := 0) rfl
      have q2 := hev1.fn.cell (j := 0) rfl
      have hcell1 : (w.setCell ⟨n + 1, 0, none⟩ (.int .u32 (bits .or .u32 ((W : Nat) : Int) ((2 : Int) ^ v % 4294967296)))).cell? (ad.add v) = _ := (((Below.refl n w).setCell (show n ≤ (⟨n + 1, 0, none⟩ : Addr).block by simp) _).cell hbl).trans hcell
      have hcell2 := (hw2.cell hbl).trans hcell
      have HBW := Lib.hid (fun q => below_drewN hw1 q)
      have HEW := Lib.hid (fun q => hev1.drewN q)
      have HNL : (ni (sc nx v)).length = (sc nx v).length := by simp [ni]
      rw [HNL] at hcell hcell1 hcell2
      obtain ⟨ss, hss⟩ : ∃ ss, sc nx v = ss := ⟨_, rfl⟩
      rw [hss] at hcell hcell1 hcell2 hsl3 HIFF HSEEN HSC hrow1
      obtain ⟨sl, hsl⟩ : ∃ sl, ss.length = sl := ⟨_, rfl⟩
      rw [hsl] at hcell hcell1 hcell2 hsl3
      have HSL := Lib.hid hsl
      have HOR := Lib.hid hor
      have HEV1 := Lib.hid hev1
      have HW1 := Lib.hid hw1
      have HW2 := Lib.hid hw2
      have hgl := hev.sz
      have HC := Lib.hid (containsFunc_any (some ad) len cap nx n f IH Ar sl cr ss (W ||| 2 ^ v) _ hx1 hrow1 hsl (fun x hx => by have := HSC.out x hx; omega) (by omega) hW1 hsl3 hev2)
      have hz : sl = 0 ↔ ss = [] := by rw [← hsl]; exact List.length_eq_zero_iff
      have HZ := Lib.hid hz
      clear hl hc hf b1 b2 b3 hbit IH hx hor hsl hss hd HNL hx1 hrow hrow1 hev1 hev2 hw1 hw2 hz hfl
      go_enter Try.func123, Try.ntmps123
      go_wp2_with (go_at_call 76; (with_reducible refine (wayHas_any W v _ hW hv32).mono ?_); rw [HBIT.out]; rintro e w5 ⟨rfl, rfl⟩)
      go_region
      by_cases h0 : sl = 0
      · have HEX := Lib.hid (HIFF.out.2 (.inl (HZ.out.1 h0)))
        have hne : (((sl : Nat) : Int) == 0) = true := by simp; omega
        clear h0
        go_wp2
        go_quiet (fail)
        go_wp2
        go_ret
        exact ⟨true, W ||| 2 ^ v, rfl, hW1, HEW.out _, ⟨fun _ => HEX.out, fun _ => rfl⟩, fun h => (by cases h), HBW.out _⟩
      · have hne : (((sl : Nat) : Int) == 0) = false := by simp; omega
        have hnn : Hid (ss ≠ []) := Lib.hid fun h => h0 (HZ.out.2 h)
        clear h0
        go_wp2
        go_region_with (go_at_call 124; (with_reducible refine HC.out.mono ?_); rintro e w5 ⟨b, W5, rfl, hW5, hev5, hb5, hd5, hbel5⟩; have q5 := hev5.gr.cell (j := 0) rfl; have q6 := hev5.fn.cell (j := 0) rfl; have q7 := (hbel5.cell hbl).trans hcell2; have HB5 := Lib.hid hb5; have HD5 := Lib.hid hd5; clear hb5 hd5)
        all_goals
          go_wp2
          go_ret
          refine ⟨b, W5, rfl, hW5, hev5, ?_, fun h => (HSEEN.out hnn.out ?_).trans (HD5.out h), HW2.out.trans hbel5⟩
          · rw [HB5.out, HIFF.out]
            exact ⟨.inr, fun h => h.resolve_left hnn.out⟩
          · exact fun c hc hx => by
              have := HB5.out.2 ⟨c, hc, hx⟩
              rw [h] at this
              cases this

theorem ev_start (w : World) (A : Option Addr) (len cap W : Nat) : Ev (((w.alloc (.cells #[.slice A len cap] 80)).alloc (.cells #[.int .u32 (W : Nat)] 23)).alloc (.cells #[.func (.func 123) #[] #[.pointer (some ⟨w.heap.size + 1, 0, none⟩), .pointer (some ⟨w.heap.size, 0, none⟩), .pointer (some ⟨w.heap.size + 1 + 1, 0, none⟩)]] 57)) w.heap.size A len cap W :=
  ⟨((own_end rfl _ [_]).alloc _).alloc _, (own_end (by simp) _ [_]).alloc _, own_end (by simp) _ [_], by simp⟩

set_option maxHeartbeats 1000000 in
theorem ends_any (T : Bool) (A : Option Addr) (len cap : Nat) (nx : List (List Int)) (i W : Nat) (w : World) (hT : T = true ↔ ExW nx W i) (hx : RdG w w.heap.size A nx) (hl : nx.length = len) (hc : ckWay nx = 0) (hi : i < len) (hW : W < 4294967296) :
    Calls Try.prog 114 #[.slice A len cap, .int .i64 i, .int .u32 (W : Nat)] w fun e w' => e = .returned (.bool T) ∧ Below w.heap.size w w' := by
  have HE := Lib.hid (exits_any A len cap nx w.heap.size hl hc len)
  have HT := Lib.hid hT
  clear hl hc hT
  go_enter Try.func114, Try.ntmps114
  go_wp2_with fail
  refine (HE.out i W _ (hx.below (by go_grown : Below w.heap.size w _) (Nat.le_refl _)) (fvW_le W len) hi hW (ev_start w A len cap W)).mono ?_
  rintro e w1 ⟨b, W1, rfl, hW1, hev, hb, _, hbel⟩
  have hbw : Below w.heap.size w w1 := (by go_grown : Below w.heap.size w _).trans hbel
  have HB : Hid (b = T) := Lib.hid (by rw [Bool.eq_iff_iff, hb, HT.out])
  clear hb hev
  go_wp2
  go_ret
  exact ⟨ret_bool HB.out, hbw⟩

end Go.Proofs.Ytfhnhbkdhdocjaa
