/-
  (*shape.run).executeCode, repeat, executeStatement, execute; shape.Run (U1).
-/
import Derived.Test.YtniilhgcgcimgaaShKinds
import Derived.Test.YtniilhgcgcimgaaMBlkR
import Derived.Test.YtniilhgcgcimgaaMTerm
import Derived.Test.YtniilhgcgcimgaaMBlock
import Derived.Test.YtniilhgcgcimgaaRegionStepsB
import Derived.Test.YtniilhgcgcimgaaShMem
import Derived.BigQuiet
import Derived.IntWalk
namespace Go.Proofs.Ytniilhgcgcimgaa
open Go.RowKit
set_option linter.unusedSimpArgs false
set_option linter.unusedVariables false
set_option maxRecDepth 100000

/-- of what was there, blocks g and h alone may have changed -/
structure Two (g h : Nat) (w w' : World) : Prop where
  os : w'.os = w.os
  tape : w'.tape = w.tape
  output : w'.output = w.output
  size : w.heap.size ≤ w'.heap.size
  block : ∀ b, b < w.heap.size → b ≠ g → b ≠ h → w'.heap[b]? = w.heap[b]?

theorem Two.refl (g h : Nat) (w : World) : Two g h w w := ⟨rfl, rfl, rfl, Nat.le_refl _, fun _ _ _ _ => rfl⟩

theorem Two.trans {g h : Nat} {w w1 w2 : World} (h1 : Two g h w w1) (h2 : Two g h w1 w2) : Two g h w w2 :=
  ⟨h2.os.trans h1.os, h2.tape.trans h1.tape, h2.output.trans h1.output, Nat.le_trans h1.size h2.size, fun b hb n1 n2 => (h2.block b (Nat.lt_of_lt_of_le hb h1.size) n1 n2).trans (h1.block b hb n1 n2)⟩

theorem Two.of_below (g h : Nat) {w w' : World} (hb : Below w.heap.size w w') : Two g h w w' := ⟨hb.os, hb.tape, hb.output, hb.size, fun b hlt _ _ => hb.block b hlt⟩

theorem Two.via {g h : Nat} {w w1 w2 : World} (h1 : Two g h w w1) (h2 : Below w1.heap.size w1 w2) : Two g h w w2 := h1.trans (Two.of_below g h h2)

theorem Two.setg {g h : Nat} {w w1 : World} (h1 : Two g h w w1) (i : Nat) (v : Value) : Two g h w (w1.setCell ⟨g, i, none⟩ v) :=
  h1.trans ⟨rfl, rfl, rfl, by simp [World.setCell], fun b _ n1 _ => Below.heap_setCell w1 ⟨g, i, none⟩ v b (fun e => n1 e)⟩

theorem Two.seth {g h : Nat} {w w1 : World} (h1 : Two g h w w1) (i : Nat) (v : Value) : Two g h w (w1.setCell ⟨h, i, none⟩ v) :=
  h1.trans ⟨rfl, rfl, rfl, by simp [World.setCell], fun b _ _ n2 => Below.heap_setCell w1 ⟨h, i, none⟩ v b (fun e => n2 e)⟩

theorem Two.below {g h B : Nat} {w w' : World} (h1 : Two g h w w') (hg : B ≤ g) (hh : B ≤ h) (hs : B ≤ w.heap.size) : Below B w w' := ⟨h1.os, h1.tape, h1.output, h1.size, fun b hb => h1.block b (by omega) (by omega) (by omega)⟩

theorem Two.own {g h g' : Nat} {w w' : World} {t : TypeId} {cs : List Value} (h1 : Two g h w w') (ho : Own w g' t cs) (n1 : g' ≠ g) (n2 : g' ≠ h) : Own w' g' t cs := (h1.block g' ho.lt n1 n2).trans ho

/-- a run: its box, and the values: both of the call's own, apart -/
structure RnS (B n g h c t : Nat) (v : List Int) (w : World) : Prop where
  box : Own w g 53 [.slice (some ⟨h, 0, none⟩) n c, .int .i64 (t : Nat)]
  row : w.ownsRow B 3 1 (.slice (some ⟨h, 0, none⟩) n c) n (iv v)
  ne : h ≠ g
  bg : B ≤ g

section
variable {B n g h c t : Nat} {v : List Int} {w w' : World}

theorem RnS.bh (hr : RnS B n g h c t v w) : B ≤ h := (hr.row.lt h rfl).1

theorem RnS.lt (hr : RnS B n g h c t v w) : g < w.heap.size ∧ h < w.heap.size := ⟨hr.box.lt, (hr.row.lt h rfl).2⟩

theorem RnS.up (hr : RnS B n g h c t v w) (hb : Below w.heap.size w w') : RnS B n g h c t v w' := ⟨hr.box.below hb hr.box.lt, own_below hr.row hb, hr.ne, hr.bg⟩

theorem RnS.turn (hr : RnS B n g h c t v w) (t' : Nat) : RnS B n g h c t' v (w.setCell ⟨g, 1, none⟩ (.int .i64 (t' : Nat))) :=
  ⟨hr.box.set 1 _, own_wroteN hr.row ((Wrote.of_below (g := g) (Below.refl _ w)).set rfl _) (by simp [Value.ownBlock]; exact hr.ne), hr.ne, hr.bg⟩

theorem RnS.put (hr : RnS B n g h c t v w) (i : Nat) (x : Int) : RnS B n g h c t (v.set i x) (w.setCell ⟨h, i, none⟩ (.int .i64 x)) := by
  refine ⟨((Wrote.of_below (g := h) (Below.refl _ w)).set rfl _).block g hr.box.lt (fun e => hr.ne e.symm) |>.trans hr.box, ?_, hr.ne, hr.bg⟩
  have := (hr.row.stored i (.int .i64 x)).1
  rw [iv_set] at this
  exact this

theorem RnS.vals (hr : RnS B n g h c t v w) (hl : v.length = n) : RdI w w.heap.size (some ⟨h, 0, none⟩) v := own_rdI hr.row hl

end

/-- the region that executes a step -/
def CdS (Y : World) (h tn : Nat) (v : Int) (x : Nat × Unit) (w : World) : Prop := (x.1 ≤ 1 → Below Y.heap.size Y w) ∧ (2 ≤ x.1 → ∃ w5, Below Y.heap.size Y w5 ∧ w = w5.setCell ⟨h, tn, none⟩ (.int .i64 v))

theorem below_drewR {B : Nat} {X Y : World} (h : Below B X Y) (q : Nat) : Below B X (Y.drewN q) := ⟨h.os, h.tape, h.output, h.size, h.block⟩

theorem add_zeroN (h i : Nat) : (⟨h, 0, none⟩ : Addr).add i = ⟨h, i, none⟩ := by unfold Addr.add; split <;> simp_all

set_option maxHeartbeats 16000000 in
theorem executeCode_any (lo B n g h c t : Nat) (A : Option Addr) (len cap : Nat) (code : List St) (v : List Int) (w : World) (hx : RdS w B A code) (hl : code.length = len) (hm : len ≤ 65536) (hr : RnS B n g h c t v w) (hc : ckStepsF n n code = 0) (hok : ValsOk n v) (hn6 : n ≤ 65536) :
    Calls Try.prog 47 #[.pointer (some ⟨g, 0, none⟩), .slice A len cap] w fun e w' => e = .returned (.tuple #[]) ∧ RnS B n g h c t (doS code v) w' ∧ Two g h w w' := by
  have HL := Lib.hid hl
  have HC := Lib.hid hc
  have HX := Lib.hid hx
  have HR0 := Lib.hid hr
  have HD0 : Hid (DoAt n code v 0 v) := Lib.hid ⟨hok, rfl⟩
  have hbg := hr.bg
  have hbh := hr.bh
  have hneg := hr.ne
  clear hl hc hx hr hok
  go_enter Try.func47, Try.ntmps47
  go_wp2
  go_loopw [8] (fun z wr => ∃ (k : Nat) (r : List Int), k ≤ len ∧ z = .int .i64 k ∧ Hid (DoAt n code v k r) ∧ Hid (RnS B n g h c t r wr) ∧ Hid (Two g h w wr)) (fun z _ => len - (intOf z).toNat)
  case atStart => exact ⟨0, v, Nat.zero_le _, rfl, HD0, HR0, Lib.hid (Two.refl _ _ _)⟩
  case round =>
    obtain ⟨k, r, hk, rfl, HR, HS, HW⟩ := hrel
    have hgl := HS.out.lt.1
    have hhl := HS.out.lt.2
    by_cases hlt : k < len
    · obtain ⟨ad, o, ti, a, b, vv, rfl, hbl, hd, hc0, hc1, hc2, hc3, hc4⟩ := RdS.at_ (RdS.below HX.out (HW.out.below hbg hbh (by have := HR0.out.lt; omega)) (Nat.le_refl _)) (k := k) (by rw [HL.out]; exact hlt)
      have hcks := ckStepsF_at HC.out hd
      obtain ⟨⟨ht0, ht1⟩, hcase⟩ := ckStep_cases hcks
      simp only [] at ht0 ht1 hcks
      obtain ⟨tn, rfl⟩ := Int.eq_ofNat_of_zero_le ht0
      have htn : tn < n := by omega
      obtain ⟨vt, hvt⟩ : ∃ vt, r[tn]? = some vt := ⟨_, List.getElem?_eq_getElem (by rw [HR.out.1.1]; exact htn)⟩
      have HVT := Lib.hid hvt
      clear hvt
      obtain ⟨X, hX⟩ : ∃ X, stV r ⟨o, tn, a, b, vv⟩ r = X := ⟨_, rfl⟩
      have hXb : 0 ≤ X ∧ X ≤ 255 := by rw [← hX]; exact stV_val HR.out.1 hcks
      have HST : Hid (DoAt n code v (k + 1) (r.set tn X)) := Lib.hid (HR.out.step (drop_at hd) hX.symm hXb)
      have HSV := Lib.hid (fun (Z : World) (hZ : RnS B n g h c t r Z) => stepValue_any (some ⟨h, 0, none⟩) (some ⟨h, 0, none⟩) n c n c o tn a b vv r r Z (hZ.vals HR.out.1.1) (hZ.vals HR.out.1.1) HR.out.1.1 HR.out.1.1 hcks HR.out.1.2)
      rw [hX] at HSV
      have hblr : (ad.add (k * 5)).block < wr.heap.size := by omega
      have HOB : Hid (Own (wr.alloc (.cells #[.int .i64 o, .int .i64 (tn : Nat), .int .i64 a, .int .i64 b, .int .i64 vv] 66)) wr.heap.size 66 [.int .i64 o, .int .i64 (tn : Nat), .int .i64 a, .int .i64 b, .int .i64 vv]) := Lib.hid (Own.new wr _ _)
      have HBX : Hid (Below wr.heap.size wr (wr.alloc (.cells #[.int .i64 o, .int .i64 (tn : Nat), .int .i64 a, .int .i64 b, .int .i64 vv] 66))) := Lib.hid (by go_grown)
      clear hd hcks hcase hX ht0 ht1
      obtain ⟨wo, rfl⟩ : ∃ wo : World, wo = wr := ⟨_, rfl⟩
      go_upto_region 3 with fail
      obtain ⟨Y, hY⟩ : ∃ Y, Y = wo.alloc (.cells #[.int .i64 o, .int .i64 (tn : Nat), .int .i64 a, .int .i64 b, .int .i64 vv] 66) := ⟨_, rfl⟩
      rw [← hY] at HOB HBX ⊢
      clear hY hc0 hc1 hc2 hc3 hc4 hbl hblr hgl hhl
      obtain ⟨g0, hg0⟩ : ∃ g, wo.heap.size = g := ⟨_, rfl⟩
      rw [hg0] at HOB
      simp only [hg0]
      clear hg0
      have HSY := Lib.hid (HS.out.up HBX.out)
      have y0 := HSY.out.box.cell (j := 0) rfl
      have hgy := HSY.out.lt.1
      have s0 := HOB.out.cell (j := 0) rfl
      have s1 := HOB.out.cell (j := 1) rfl
      have s2 := HOB.out.cell (j := 2) rfl
      have s3 := HOB.out.cell (j := 3) rfl
      have s4 := HOB.out.cell (j := 4) rfl
      have hsl := HOB.out.lt
      refine wp_region_stepsB (X := Nat × (Unit)) (CdS Y h tn X) (fun x j => doneL [0, 0, 0, 0, 0, 0, 0, 0, 0, 0, 0, 0, 0, 0, 0, 1, 0, 0, 0, 0, 2] x.1 j) (effL [0, 0, 0, 0, 0, 0, 0, 0, 0, 0, 0, 0, 0, 0, 0, 1, 0, 0, 0, 0, 2]) (0, ()) (fun x => [.pointer (some ⟨g, 0, none⟩), .pointer (some ⟨g, 0, none⟩), .pointer (some ⟨g, 0, none⟩), .slice (some ⟨h, 0, none⟩) n c, .pointer (some ⟨g0, 1, none⟩), .int .i64 (tn : Nat), .agg #[.int .i64 o, .int .i64 (tn : Nat), .int .i64 a, .int .i64 b, .int .i64 vv], .pointer (some ⟨g, 0, none⟩), .pointer (some ⟨g, 0, none⟩), .pointer (some ⟨g, 0, none⟩), .slice (some ⟨h, 0, none⟩) n c, .pointer (some ⟨g, 0, none⟩), .pointer (some ⟨g, 0, none⟩), .pointer (some ⟨g, 0, none⟩), .slice (some ⟨h, 0, none⟩) n c, .tuple #[.int .i64 X, .int .i64 0], .tuple #[.int .i64 X, .int .i64 0], .int .i64 X, .int .i64 0, .pointer (some ⟨h, tn, none⟩), undef]) _ (by kernel_rfl) (by kernel_rfl) (by kernel_rfl) (fun x => by simp only [putsD, Act.put, List.setIfInBounds_toArray, List.set_cons_zero, List.set_cons_succ]; exact rfl) h0L ⟨fun _ => Below.drew (Below.refl _ _), fun h => absurd h (by show ¬ 2 ≤ 0; omega)⟩ (fun x => ?_) (fun x wz hDz hSz => ?_)
      · refine AllS.val (by rfl) (by rfl) (fun w hSw hPw => by go_simp) ?_
        refine AllS.val (by rfl) (by rfl) (fun w hSw hPw => by go_simp) ?_
        refine AllS.val (by rfl) (by rfl) (fun w hSw hPw => by go_simp) ?_
        refine AllS.val (by rfl) (by rfl) (fun w hSw hPw => ?_) ?_
        · (try dsimp only at hSw)
          have hq := hSw.1 (leH (hPw.not (j := 20) rfl (by kernel_rfl)))
          have c1 := (hq.cell (p := ⟨g, 0, none⟩) hgy).trans y0
          go_simp
        refine AllS.val (by rfl) (by rfl) (fun w hSw hPw => by go_simp) ?_
        refine AllS.val (by rfl) (by rfl) (fun w hSw hPw => ?_) ?_
        · (try dsimp only at hSw)
          have hq := hSw.1 (leH (hPw.not (j := 20) rfl (by kernel_rfl)))
          have c1 := (hq.cell (p := ⟨g0, 1, none⟩) hsl).trans s1
          go_simp
        refine AllS.val (by rfl) (by rfl) (fun w hSw hPw => ?_) ?_
        · (try dsimp only at hSw)
          have hq := hSw.1 (leH (hPw.not (j := 20) rfl (by kernel_rfl)))
          have c0 := (hq.cell (p := ⟨g0, 0, none⟩) hsl).trans s0
          have c1 := (hq.cell (p := ⟨g0, 1, none⟩) hsl).trans s1
          have c2 := (hq.cell (p := ⟨g0, 2, none⟩) hsl).trans s2
          have c3 := (hq.cell (p := ⟨g0, 3, none⟩) hsl).trans s3
          have c4 := (hq.cell (p := ⟨g0, 4, none⟩) hsl).trans s4
          go_simp
        refine AllS.val (by rfl) (by rfl) (fun w hSw hPw => by go_simp) ?_
        refine AllS.val (by rfl) (by rfl) (fun w hSw hPw => by go_simp) ?_
        refine AllS.val (by rfl) (by rfl) (fun w hSw hPw => by go_simp) ?_
        refine AllS.val (by rfl) (by rfl) (fun w hSw hPw => ?_) ?_
        · (try dsimp only at hSw)
          have hq := hSw.1 (leH (hPw.not (j := 20) rfl (by kernel_rfl)))
          have c1 := (hq.cell (p := ⟨g, 0, none⟩) hgy).trans y0
          go_simp
        refine AllS.val (by rfl) (by rfl) (fun w hSw hPw => by go_simp) ?_
        refine AllS.val (by rfl) (by rfl) (fun w hSw hPw => by go_simp) ?_
        refine AllS.val (by rfl) (by rfl) (fun w hSw hPw => by go_simp) ?_
        refine AllS.val (by rfl) (by rfl) (fun w hSw hPw => ?_) ?_
        · (try dsimp only at hSw)
          have hq := hSw.1 (leH (hPw.not (j := 20) rfl (by kernel_rfl)))
          have c1 := (hq.cell (p := ⟨g, 0, none⟩) hgy).trans y0
          go_simp
        refine AllS.turn (fun _ _ => rfl) (by rfl) (fun w hSw hPw K hK => ?_) ?_
        · (try dsimp only at hSw)
          have h0 := leH (hPw.me rfl)
          have hx0 : x.1 = 0 := by exact Nat.le_zero.1 h0
          obtain ⟨p, y⟩ := x
          (try dsimp only at hx0)
          subst hx0
          have hq := hSw.1 (Nat.zero_le _)
          go_simp
          go_at_call 32
          refine (HSV.out _ (HSY.out.up hq)).mono ?_
          rintro e w7 ⟨rfl, hb7⟩
          go_simp
          exact hK (1, y) _ (nxtL rfl (by decide)) ⟨fun _ => below_via hq hb7, fun h => absurd h (by show ¬ 2 ≤ 1; omega)⟩
        refine AllS.val (by rfl) (by rfl) (fun w hSw hPw => by go_simp) ?_
        refine AllS.val (by rfl) (by rfl) (fun w hSw hPw => by go_simp) ?_
        refine AllS.val (by rfl) (by rfl) (fun w hSw hPw => by go_simp) ?_
        refine AllS.val (by rfl) (by rfl) (fun w hSw hPw => by go_simp) ?_
        refine AllS.turn (fun _ _ => rfl) (by rfl) (fun w hSw hPw K hK => ?_) ?_
        · (try dsimp only at hSw)
          have h0 := leH (hPw.me rfl)
          have h1 := geH (hPw.need (k := 15) rfl (by kernel_rfl))
          have hx0 : x.1 = 1 := Nat.le_antisymm h0 h1
          obtain ⟨p, y⟩ := x
          (try dsimp only at hx0)
          subst hx0
          have hq := hSw.1 (Nat.le_refl _)
          have hr5 := (HSY.out.up hq).row
          have u1 := (hr5.cellAt tn (by omega)).trans (iv_at HVT.out)
          have v1 := hr5.frozenAt tn
          go_simp
          exact hK (2, y) _ (nxtL rfl (by decide)) ⟨fun h => absurd h (by show ¬ 2 ≤ 1; omega), fun _ => ⟨_, hq, rfl⟩⟩
        exact AllS.nil
      obtain ⟨w5, hq5, rfl⟩ := hSz.2 (geH (hDz 20 (by decide) (by decide)))
      have HS5 := Lib.hid ((HSY.out.up hq5).put tn X)
      have HW5 : Hid (Two g h w (w5.setCell ⟨h, tn, none⟩ (.int .i64 X))) := Lib.hid (((HW.out.via HBX.out).via hq5).seth _ _)
      clear hSz hDz hq5 y0 s0 s1 s2 s3 s4
      go_wp2
      go_round
      case rel => exact ⟨k + 1, r.set tn X, by omega, by go_num, HST, HS5, HW5⟩
      case measure => (simp [intOf]; omega)
    · have hkl : k = len := by omega
      have HE : Hid (doS code v = r) := Lib.hid (by rw [HR.out.2, List.drop_of_length_le (by rw [HL.out]; omega)]; rfl)
      go_wp2
      go_returns
      exact ⟨rfl, by rw [HE.out]; exact HS.out, HW.out⟩

/-- what execute answers: so many turns are left, and the values; or too few -/
def ExR (B n g h c : Nat) (r : Option (Nat × List Int)) (w : World) (e : Ending) (w' : World) : Prop :=
  Two g h w w' ∧ ((∃ x, r = some x ∧ x.1 ≤ 200 ∧ e = .returned (.bool true) ∧ RnS B n g h c (200 - x.1) x.2 w') ∨ (r = none ∧ e = .returned (.bool false)))

theorem ExR.yes {B n g h c : Nat} {x : Nat × List Int} {w w' : World} {e : Ending} (hr : ExR B n g h c (some x) w e w') : e = .returned (.bool true) ∧ x.1 ≤ 200 ∧ RnS B n g h c (200 - x.1) x.2 w' ∧ Two g h w w' := by
  obtain ⟨h1, ⟨y, h2, h3, h4, h5⟩ | ⟨h2, _⟩⟩ := hr
  · injection h2 with h2
    subst h2
    exact ⟨h4, h3, h5, h1⟩
  · cases h2

theorem ExR.no {B n g h c : Nat} {w w' : World} {e : Ending} (hr : ExR B n g h c none w e w') : e = .returned (.bool false) ∧ Two g h w w' := by
  obtain ⟨h1, ⟨y, h2, _⟩ | ⟨_, h2⟩⟩ := hr
  · cases h2
  · exact ⟨h2, h1⟩

/-- how many turns the box tells -/
def boxT (g : Nat) (w : World) : Nat := match w.cell? ⟨g, 1, none⟩ with
  | some (.int _ x) => x.toNat
  | _ => 0

theorem RnS.boxT_eq {B n g h c t : Nat} {v : List Int} {w : World} (hr : RnS B n g h c t v w) : boxT g w = t := by
  unfold boxT
  rw [hr.box.cell (j := 1) rfl]
  simp

/-- what a list does, wherever the run stands -/
def DoesE (B n g h c : Nat) (l : Sh) (A : Option Addr) (len cap : Nat) (w : World) : Prop := ∀ (Z : World) (u : Nat) (v : List Int), Two g h w Z → RnS B n g h c (200 - u) v Z → ValsOk n v → u ≤ 200 →
  Calls Try.prog 24 #[.pointer (some ⟨g, 0, none⟩), .slice A len cap] Z (ExR B n g h c (exSh l u v) Z)

set_option maxHeartbeats 16000000 in
theorem repeat_any (B n g h c u ts : Nat) (th : Sh) (At : Option Addr) (tl ct : Nat) (v : List Int) (w : World) (hr : RnS B n g h c (200 - u) v w) (hok : ValsOk n v) (hu : u ≤ 200) (hts : ts < n) (hT : Tame n (exSh th)) (hth : DoesE B n g h c th At tl ct w) :
    Calls Try.prog 48 #[.pointer (some ⟨g, 0, none⟩), .int .i64 ts, .slice At tl ct] w (ExR B n g h c (whW (exSh th) ts u v) w) := by
  have HR0 := Lib.hid hr
  have HOK := Lib.hid hok
  have HTM := Lib.hid hT
  have HTH := Lib.hid hth
  clear hr hok hT hth
  go_enter Try.func48, Try.ntmps48
  go_wp2
  go_loopw [] (fun wr => ∃ (u1 : Nat) (v1 : List Int), u1 ≤ 200 ∧ Hid (whW (exSh th) ts u v = whW (exSh th) ts u1 v1) ∧ Hid (ValsOk n v1) ∧ Hid (RnS B n g h c (200 - u1) v1 wr) ∧ Hid (Two g h w wr)) (fun wr => 200 - boxT g wr)
  case atStart => exact ⟨u, v, hu, Lib.hid rfl, HOK, HR0, Lib.hid (Two.refl _ _ _)⟩
  case round =>
    clear hu
    obtain ⟨u1, v1, hu, HW, HVO, HS, HK⟩ := hrel
    obtain ⟨vt, hvt⟩ : ∃ vt, v1[ts]? = some vt := ⟨_, List.getElem?_eq_getElem (by rw [HVO.out.1]; exact hts)⟩
    have HGD : Hid (v1.getD ts 0 = vt) := Lib.hid (by rw [List.getD_eq_getElem?_getD, hvt]; rfl)
    have hrow := HS.out.row
    have hcv := (hrow.cellAt ts (by omega)).trans (iv_at hvt)
    have hb0 := HS.out.box.cell (j := 0) rfl
    have hb1 := HS.out.box.cell (j := 1) rfl
    have hf1 := HS.out.box.frozen 1
    have hgl := HS.out.lt.1
    have HBT := Lib.hid HS.out.boxT_eq
    clear hvt hrow
    by_cases h0 : vt = 0
    · have hne : (vt != 0) = false := by simp [h0]
      have HE : Hid (whW (exSh th) ts u v = some (u1, v1)) := Lib.hid (by rw [HW.out, whW_end (by rw [HGD.out]; exact h0)])
      clear h0
      go_wp2
      go_ret
      exact ⟨HK.out, .inl ⟨(u1, v1), HE.out, hu, rfl, HS.out⟩⟩
    · have hne : (vt != 0) = true := by simp [h0]
      have HN0 : Hid (v1.getD ts 0 ≠ 0) := Lib.hid (by rw [HGD.out]; exact h0)
      clear h0
      cases u1 with
      | zero =>
        have HE : Hid (whW (exSh th) ts u v = none) := Lib.hid (by rw [HW.out, whW_over HN0.out])
        go_wp2
        go_ret
        exact ⟨HK.out, .inr ⟨HE.out, rfl⟩⟩
      | succ u1 =>
        obtain ⟨t1, ht1⟩ : ∃ t1, 200 - (u1 + 1) = t1 := ⟨_, rfl⟩
        have ht2 : 200 - u1 = t1 + 1 := by omega
        obtain ⟨t2, ht3⟩ : ∃ t2, t1 + 1 = t2 := ⟨_, rfl⟩
        have hne2 : ((t1 : Nat) == 200) = false := by simp; omega
        have hne3 : ((t1 : Int) == 200) = false := by simp; omega
        have hadd : (t1 : Int) + 1 = (t2 : Int) := by omega
        have hwt : IntKind.i64.wrap (t2 : Int) = (t2 : Int) := IntWalk.i64_in _ ⟨by omega, by omega⟩
        rw [ht1] at hb1 HBT HS
        have HSZ : Hid (RnS B n g h c (200 - u1) v1 (wr.setCell ⟨g, 1, none⟩ (.int .i64 (t2 : Nat)))) := Lib.hid (by rw [ht2, ht3]; exact HS.out.turn t2)
        have HKZ : Hid (Two g h w (wr.setCell ⟨g, 1, none⟩ (.int .i64 (t2 : Nat)))) := Lib.hid (HK.out.setg _ _)
        have HT2 : Hid (t1 < t2 ∧ t2 = 200 - u1 ∧ u1 ≤ 200) := Lib.hid ⟨by omega, by omega, by omega⟩
        cases hy : exSh th u1 v1 with
        | none =>
          have HE : Hid (whW (exSh th) ts u v = none) := Lib.hid (by rw [HW.out, whW_none HN0.out hy])
          have HCA := Lib.hid (HTH.out _ u1 v1 HKZ.out HSZ.out HVO.out HT2.out.2.2)
          rw [hy] at HCA
          clear hy ht1 ht2 ht3
          go_wp2_with (go_at_call 24; (with_reducible refine HCA.out.mono ?_); rintro e w7 hex; obtain ⟨rfl, hk7⟩ := hex.no; have HK7 := Lib.hid hk7; clear hk7 hex)
          go_ret
          exact ⟨HKZ.out.trans HK7.out, .inr ⟨HE.out, rfl⟩⟩
        | some y =>
          have HWS : Hid (whW (exSh th) ts u v = whW (exSh th) ts y.1 y.2) := Lib.hid (by rw [HW.out, whW_step HTM.out HVO.out HN0.out hy])
          have HY2 := Lib.hid (HTM.out u1 v1 y HVO.out hy)
          have HCA := Lib.hid (HTH.out _ u1 v1 HKZ.out HSZ.out HVO.out HT2.out.2.2)
          rw [hy] at HCA
          clear hy ht1 ht2 ht3
          go_wp2_with (go_at_call 24; (with_reducible refine HCA.out.mono ?_); rintro e w7 hex; obtain ⟨rfl, hy7, hr7, hk7⟩ := hex.yes; have HK7 := Lib.hid hk7; have HR7 := Lib.hid hr7; clear hk7 hr7 hex)
          go_round
          case rel => exact ⟨y.1, y.2, hy7, HWS, Lib.hid HY2.out.2, HR7, Lib.hid (HKZ.out.trans HK7.out)⟩
          case measure =>
            rw [HBT.out, HR7.out.boxT_eq]
            have := HY2.out.1
            have := HT2.out
            omega

set_option maxHeartbeats 16000000 in
theorem executeStatement_any (lo B n g h c u : Nat) (kd ts : Int) (cd : List St) (th el : Sh) (Ac At Ae : Option Addr) (cl cc tl ct el' ce : Nat) (v : List Int) (w : World) (hx : RdS w B Ac cd) (hcl : cd.length = cl) (hcm : cl ≤ 65536) (hone : ckOne n kd ts cd = 0) (hn6 : n ≤ 65536)
    (hr : RnS B n g h c (200 - u) v w) (hok : ValsOk n v) (hu : u ≤ 200) (hT : Tame n (exSh th)) (hth : DoesE B n g h c th At tl ct w) (hel : DoesE B n g h c el Ae el' ce w) :
    Calls Try.prog 36 #[.pointer (some ⟨g, 0, none⟩), .agg #[.int .i64 kd, .int .i64 ts, .slice Ac cl cc, .slice At tl ct, .slice Ae el' ce]] w (ExR B n g h c (exOne (exSh th) (exSh el) kd ts cd u v) w) := by
  have HR0 := Lib.hid hr
  have HOK := Lib.hid hok
  have HTM := Lib.hid hT
  have HTH := Lib.hid hth
  have HEL := Lib.hid hel
  have hcas := ckOne_cases hone
  have HBX : Hid (Below w.heap.size w (w.alloc (.cells #[.int .i64 kd, .int .i64 ts, .slice Ac cl cc, .slice At tl ct, .slice Ae el' ce] 57))) := Lib.hid (by go_grown)
  have HOB : Hid (Own (w.alloc (.cells #[.int .i64 kd, .int .i64 ts, .slice Ac cl cc, .slice At tl ct, .slice Ae el' ce] 57)) w.heap.size 57 [.int .i64 kd, .int .i64 ts, .slice Ac cl cc, .slice At tl ct, .slice Ae el' ce]) := Lib.hid (Own.new w _ _)
  have HRX := Lib.hid (hr.up HBX.out)
  have HKX : Hid (Two g h w (w.alloc (.cells #[.int .i64 kd, .int .i64 ts, .slice Ac cl cc, .slice At tl ct, .slice Ae el' ce] 57))) := Lib.hid (Two.of_below g h HBX.out)
  have HDX := Lib.hid (fun (l : Sh) (A : Option Addr) (m k : Nat) (hd : DoesE B n g h c l A m k w) => (fun Z u v hZ => hd Z u v (HKX.out.trans hZ) : DoesE B n g h c l A m k (w.alloc (.cells #[.int .i64 kd, .int .i64 ts, .slice Ac cl cc, .slice At tl ct, .slice Ae el' ce] 57))))
  have HXC : Hid (RdS (w.alloc (.cells #[.int .i64 kd, .int .i64 ts, .slice Ac cl cc, .slice At tl ct, .slice Ae el' ce] 57)) B Ac cd) := Lib.hid (hx.below HBX.out (by have := hr.bg; have := hr.lt; omega))
  clear hr hok hT hth hel hone hx
  rcases hcas with ⟨rfl, hcks⟩ | ⟨hkd, hts0, hts1⟩
  · have HCE := Lib.hid (executeCode_any lo B n g h c (200 - u) Ac cl cc cd v _ HXC.out hcl hcm HRX.out hcks HOK.out hn6)
    have HE : Hid (exOne (exSh th) (exSh el) 1 ts cd u v = some (u, doS cd v)) := Lib.hid exOne_code
    clear hcks hcl
    go_enter Try.func36, Try.ntmps36
    go_wp2_with (go_at_call 47; (with_reducible refine HCE.out.mono ?_); rintro e w7 ⟨rfl, hr7, hk7⟩; have HR7 := Lib.hid hr7; have HK7 := Lib.hid hk7; clear hr7 hk7)
    go_ret
    exact ⟨HKX.out.trans HK7.out, .inl ⟨(u, doS cd v), HE.out, hu, rfl, HR7.out⟩⟩
  · obtain ⟨tn, rfl⟩ := Int.eq_ofNat_of_zero_le hts0
    have htn : tn < n := by omega
    rcases hkd with rfl | rfl
    · obtain ⟨vt, hvt⟩ : ∃ vt, v[tn]? = some vt := ⟨_, List.getElem?_eq_getElem (by rw [HOK.out.1]; exact htn)⟩
      have HGD : Hid (v.getD tn 0 = vt) := Lib.hid (by rw [List.getD_eq_getElem?_getD, hvt]; rfl)
      have hcv := (HRX.out.row.cellAt tn (by omega)).trans (iv_at hvt)
      have hb0 := HRX.out.box.cell (j := 0) rfl
      have hgl := HRX.out.lt.1
      clear hvt hts0 hts1 hcl
      by_cases h0 : vt = 0
      · have hne : (vt != 0) = false := by simp [h0]
        have HE : Hid (exOne (exSh th) (exSh el) 2 (tn : Int) cd u v = exSh el u v) := Lib.hid (exOne_else (by rw [HGD.out]; exact h0))
        have HKD := Lib.hid (HDX.out el Ae el' ce HEL.out)
        clear h0
        rw [HE.out]
        go_enter Try.func36, Try.ntmps36
        go_upto_region 6 with fail
        obtain ⟨X, hX⟩ : ∃ X, X = w.alloc (.cells #[.int .i64 2, .int .i64 (tn : Nat), .slice Ac cl cc, .slice At tl ct, .slice Ae el' ce] 57) := ⟨_, rfl⟩
        rw [← hX] at HRX HKX HKD HOB hcv hb0 hgl ⊢
        clear hX HBX HXC HDX
        obtain ⟨g0, hg0⟩ : ∃ g, w.heap.size = g := ⟨_, rfl⟩
        rw [hg0] at HOB
        simp only [hg0]
        clear hg0
        have d1 := HOB.out.cell (j := 1) rfl
        go_quiet (fail)
        have HBQ : Hid (Below X.heap.size X (X.drewN nq)) := Lib.hid (below_drewR (Below.refl _ _) nq)
        obtain ⟨Z, hZ⟩ : ∃ Z, Z = X.drewN nq := ⟨_, rfl⟩
        have HOZ := Lib.hid (HOB.out.below (show Below X.heap.size X Z from by rw [hZ]; exact HBQ.out) HOB.out.lt)
        have HRZ := Lib.hid (HRX.out.up (show Below X.heap.size X Z from by rw [hZ]; exact HBQ.out))
        have HKZ : Hid (Two g h X Z) := Lib.hid (Two.of_below g h (show Below X.heap.size X Z from by rw [hZ]; exact HBQ.out))
        rw [← hZ]
        clear hZ HBQ hcv hb0 hgl d1
        have d3 := HOZ.out.cell (j := 3) rfl
        have d4 := HOZ.out.cell (j := 4) rfl
        have HCA := Lib.hid (HKD.out Z u v HKZ.out HRZ.out HOK.out hu)
        cases hy : exSh el u v with
        | none =>
          rw [hy] at HCA
          have HHY := Lib.hid hy
          clear hy
          go_wp2_with (go_at_call 24; (with_reducible refine HCA.out.mono ?_); rintro e w7 hex; obtain ⟨rfl, hk7⟩ := hex.no; have HK7 := Lib.hid hk7; clear hk7 hex)
          go_ret
          exact ⟨HKX.out.trans (HKZ.out.trans HK7.out), .inr ⟨HHY.out, rfl⟩⟩
        | some y =>
          rw [hy] at HCA
          have HHY := Lib.hid hy
          clear hy
          go_wp2_with (go_at_call 24; (with_reducible refine HCA.out.mono ?_); rintro e w7 hex; obtain ⟨rfl, hy7, hr7, hk7⟩ := hex.yes; have HK7 := Lib.hid hk7; have HR7 := Lib.hid hr7; clear hk7 hr7 hex)
          go_ret
          exact ⟨HKX.out.trans (HKZ.out.trans HK7.out), .inl ⟨y, HHY.out, hy7, rfl, HR7.out⟩⟩
      · have hne : (vt != 0) = true := by simp [h0]
        have HE : Hid (exOne (exSh th) (exSh el) 2 (tn : Int) cd u v = exSh th u v) := Lib.hid (exOne_then (by rw [HGD.out]; exact h0))
        have HKD := Lib.hid (HDX.out th At tl ct HTH.out)
        clear h0
        rw [HE.out]
        go_enter Try.func36, Try.ntmps36
        go_upto_region 6 with fail
        obtain ⟨X, hX⟩ : ∃ X, X = w.alloc (.cells #[.int .i64 2, .int .i64 (tn : Nat), .slice Ac cl cc, .slice At tl ct, .slice Ae el' ce] 57) := ⟨_, rfl⟩
        rw [← hX] at HRX HKX HKD HOB hcv hb0 hgl ⊢
        clear hX HBX HXC HDX
        obtain ⟨g0, hg0⟩ : ∃ g, w.heap.size = g := ⟨_, rfl⟩
        rw [hg0] at HOB
        simp only [hg0]
        clear hg0
        have d1 := HOB.out.cell (j := 1) rfl
        go_quiet (fail)
        have HBQ : Hid (Below X.heap.size X (X.drewN nq)) := Lib.hid (below_drewR (Below.refl _ _) nq)
        obtain ⟨Z, hZ⟩ : ∃ Z, Z = X.drewN nq := ⟨_, rfl⟩
        have HOZ := Lib.hid (HOB.out.below (show Below X.heap.size X Z from by rw [hZ]; exact HBQ.out) HOB.out.lt)
        have HRZ := Lib.hid (HRX.out.up (show Below X.heap.size X Z from by rw [hZ]; exact HBQ.out))
        have HKZ : Hid (Two g h X Z) := Lib.hid (Two.of_below g h (show Below X.heap.size X Z from by rw [hZ]; exact HBQ.out))
        rw [← hZ]
        clear hZ HBQ hcv hb0 hgl d1
        have d3 := HOZ.out.cell (j := 3) rfl
        have d4 := HOZ.out.cell (j := 4) rfl
        have HCA := Lib.hid (HKD.out Z u v HKZ.out HRZ.out HOK.out hu)
        cases hy : exSh th u v with
        | none =>
          rw [hy] at HCA
          have HHY := Lib.hid hy
          clear hy
          go_wp2_with (go_at_call 24; (with_reducible refine HCA.out.mono ?_); rintro e w7 hex; obtain ⟨rfl, hk7⟩ := hex.no; have HK7 := Lib.hid hk7; clear hk7 hex)
          go_ret
          exact ⟨HKX.out.trans (HKZ.out.trans HK7.out), .inr ⟨HHY.out, rfl⟩⟩
        | some y =>
          rw [hy] at HCA
          have HHY := Lib.hid hy
          clear hy
          go_wp2_with (go_at_call 24; (with_reducible refine HCA.out.mono ?_); rintro e w7 hex; obtain ⟨rfl, hy7, hr7, hk7⟩ := hex.yes; have HK7 := Lib.hid hk7; have HR7 := Lib.hid hr7; clear hk7 hr7 hex)
          go_ret
          exact ⟨HKX.out.trans (HKZ.out.trans HK7.out), .inl ⟨y, HHY.out, hy7, rfl, HR7.out⟩⟩
    · have HE : Hid (exOne (exSh th) (exSh el) 3 (tn : Int) cd u v = whW (exSh th) tn u v) := Lib.hid exOne_while
      have HCA := Lib.hid (repeat_any B n g h c u tn th At tl ct v _ HRX.out HOK.out hu htn HTM.out (HDX.out th At tl ct HTH.out))
      rw [HE.out]
      clear hts0 hts1 hcl
      go_enter Try.func36, Try.ntmps36
      cases hy : whW (exSh th) tn u v with
      | none =>
        rw [hy] at HCA
        clear hy
        go_wp2_with (go_at_call 48; (with_reducible refine HCA.out.mono ?_); rintro e w7 hex; obtain ⟨rfl, hk7⟩ := hex.no; have HK7 := Lib.hid hk7; clear hk7 hex)
        go_ret
        exact ⟨HKX.out.trans HK7.out, .inr ⟨rfl, rfl⟩⟩
      | some y =>
        rw [hy] at HCA
        clear hy
        go_wp2_with (go_at_call 48; (with_reducible refine HCA.out.mono ?_); rintro e w7 hex; obtain ⟨rfl, hy7, hr7, hk7⟩ := hex.yes; have HK7 := Lib.hid hk7; have HR7 := Lib.hid hr7; clear hk7 hr7 hex)
        go_ret
        exact ⟨HKX.out.trans HK7.out, .inl ⟨y, rfl, hy7, rfl, HR7.out⟩⟩

set_option maxHeartbeats 8000000 in
theorem execute_one (lo B n g h c u0 : Nat) (l : Sh) (A : Option Addr) (len cap : Nat) (v0 : List Int) (w : World) (hx : RdH w lo B l A 0) (hl : l.len = len) (hf : FitSh l) (hc : ckSh n l = 0) (hr : RnS B n g h c (200 - u0) v0 w) (hok : ValsOk n v0) (hu : u0 ≤ 200) (hn6 : n ≤ 65536)
    (hih : ∀ l' : Sh, l'.many < l.many → FitSh l' → ckSh n l' = 0 → ∀ (A' : Option Addr) (cap' u' : Nat) (v' : List Int) (Z : World), RdH Z lo B l' A' 0 → RnS B n g h c (200 - u') v' Z → ValsOk n v' → u' ≤ 200 →
      Calls Try.prog 24 #[.pointer (some ⟨g, 0, none⟩), .slice A' l'.len cap'] Z (ExR B n g h c (exSh l' u' v') Z)) :
    Calls Try.prog 24 #[.pointer (some ⟨g, 0, none⟩), .slice A len cap] w (ExR B n g h c (exSh l u0 v0) w) := by
  have HL := Lib.hid hl
  have HF := Lib.hid hf
  have HIH := Lib.hid hih
  have HX := Lib.hid hx
  have HC := Lib.hid hc
  have HR0 := Lib.hid hr
  have HOK := Lib.hid hok
  have HTM := Lib.hid (exSh_tame hc)
  have hlen : len ≤ 1000 := by rw [← hl]; exact hf.len
  have hbg := hr.bg
  have hbh := hr.bh
  have hbs : B ≤ w.heap.size := by have := hr.lt; omega
  clear hl hf hih hx hc hr hok
  go_enter Try.func24, Try.ntmps24
  go_wp2
  go_loopw [9] (fun z wr => ∃ (k u : Nat) (v : List Int), k ≤ len ∧ z = .int .i64 k ∧ u ≤ 200 ∧ Hid (exSh l u0 v0 = exSh (l.drop k) u v) ∧ Hid (ValsOk n v) ∧ Hid (RnS B n g h c (200 - u) v wr) ∧ Hid (Two g h w wr)) (fun z _ => len - (intOf z).toNat)
  case atStart => exact ⟨0, u0, v0, Nat.zero_le _, rfl, hu, Lib.hid (by rw [Sh.drop_zero]), HOK, HR0, Lib.hid (Two.refl _ _ _)⟩
  case round =>
    clear hu
    obtain ⟨k, u, v, hk, rfl, hu, HR, HVO, HS, HK⟩ := hrel
    have hgl := HS.out.lt.1
    by_cases hlt : k < len
    · obtain ⟨ad, kd, ts, cd, th, el, Ac, At, Ae, cc, ct, ce, rfl, hbl, hd, hc0, hc1, hc2, hc3, hc4, hrc, hrt, hre⟩ := (RdH.below (HK.out.below hbg hbh hbs) (Nat.le_refl _) HX.out).at_ (k := k) (by rw [HL.out]; exact hlt)
      obtain ⟨⟨hm1, hf1⟩, ⟨hm2, hf2⟩, hcl⟩ := HF.out.part hd
      have hck0 := ckSh_drop HC.out k
      rw [hd] at hck0
      obtain ⟨hone, hkt, hke, _⟩ := ckSh_cons hck0
      have HBX : Hid (Below wr.heap.size wr (wr.alloc (.cells #[.int .i64 kd, .int .i64 ts, .slice Ac cd.length cc, .slice At th.len ct, .slice Ae el.len ce] 57))) := Lib.hid (by go_grown)
      have HAT := Lib.hid (exSh_at' HR.out hd)
      have HBR := Lib.hid (show B ≤ wr.heap.size by have := HS.out.lt; omega)
      have HES := Lib.hid (executeStatement_any lo B n g h c u kd ts cd th el Ac At Ae _ cc _ ct _ ce v _ (hrc.below HBX.out HBR.out) rfl (by omega) hone hn6 (HS.out.up HBX.out) HVO.out hu (exSh_tame hkt)
        (fun Z u' v' hZ => HIH.out th hm1 hf1 hkt At ct u' v' Z (RdH.below (((Two.of_below g h HBX.out).trans hZ).below hbg hbh HBR.out) (Nat.le_refl _) hrt))
        (fun Z u' v' hZ => HIH.out el hm2 hf2 hke Ae ce u' v' Z (RdH.below (((Two.of_below g h HBX.out).trans hZ).below hbg hbh HBR.out) (Nat.le_refl _) hre)))
      have HTO := Lib.hid (exOne_tame hone (exSh_tame hkt) (exSh_tame hke))
      have hblr : (ad.add (k * 5)).block < wr.heap.size := by have := HBR.out; omega
      obtain ⟨tl, htl⟩ : ∃ x, th.len = x := ⟨_, rfl⟩
      obtain ⟨el', hel⟩ : ∃ x, el.len = x := ⟨_, rfl⟩
      obtain ⟨cl, hcle⟩ : ∃ x, cd.length = x := ⟨_, rfl⟩
      rw [htl, hel, hcle] at HES HBX
      rw [htl] at hc3
      rw [hel] at hc4
      rw [hcle] at hc2
      have HKX : Hid (Two g h w (wr.alloc (.cells #[.int .i64 kd, .int .i64 ts, .slice Ac cl cc, .slice At tl ct, .slice Ae el' ce] 57))) := Lib.hid (HK.out.via HBX.out)
      clear htl hel hcle hrt hre hrc hd hm1 hf1 hm2 hf2 hck0 hone hkt hke
      cases hy : exOne (exSh th) (exSh el) kd ts cd u v with
      | none =>
        have HN : Hid (exSh l u0 v0 = none) := Lib.hid (HAT.out.2 hy)
        rw [hy] at HES
        clear hy
        go_wp2_with (go_at_call 36; (with_reducible refine HES.out.mono ?_); rintro e w7 hex; obtain ⟨rfl, hk7⟩ := hex.no; have HK7 := Lib.hid hk7; clear hk7 hex)
        go_ret
        exact ⟨HKX.out.trans HK7.out, .inr ⟨HN.out, rfl⟩⟩
      | some y =>
        have HN : Hid (exSh l u0 v0 = exSh (l.drop (k + 1)) y.1 y.2) := Lib.hid (HAT.out.1 y hy)
        have HY2 := Lib.hid (HTO.out u v y HVO.out hy)
        rw [hy] at HES
        clear hy
        go_wp2_with (go_at_call 36; (with_reducible refine HES.out.mono ?_); rintro e w7 hex; obtain ⟨rfl, hy7, hr7, hk7⟩ := hex.yes; have HK7 := Lib.hid hk7; have HR7 := Lib.hid hr7; clear hk7 hr7 hex)
        go_round
        case rel => exact ⟨k + 1, y.1, y.2, by omega, by go_num, hy7, HN, Lib.hid HY2.out.2, HR7, Lib.hid (HKX.out.trans HK7.out)⟩
        case measure => (simp [intOf]; omega)
    · have hkl : k = len := by omega
      have HE : Hid (exSh l u0 v0 = some (u, v)) := Lib.hid (by rw [HR.out, Sh.drop_ge (by rw [HL.out]; omega)]; rfl)
      go_wp2
      go_ret
      exact ⟨HK.out, .inl ⟨(u, v), HE.out, hu, rfl, HS.out⟩⟩

theorem execute_any (lo B n g h c : Nat) (hn6 : n ≤ 65536) : ∀ (m : Nat) (l : Sh), l.many ≤ m → FitSh l → ckSh n l = 0 → ∀ (A : Option Addr) (cap u : Nat) (v : List Int) (w : World), RdH w lo B l A 0 → RnS B n g h c (200 - u) v w → ValsOk n v → u ≤ 200 →
    Calls Try.prog 24 #[.pointer (some ⟨g, 0, none⟩), .slice A l.len cap] w (ExR B n g h c (exSh l u v) w)
  | 0, l, hm, hf, hc, A, cap, u, v, w, hx, hr, hok, hu => execute_one lo B n g h c u l A _ cap v w hx rfl hf hc hr hok hu hn6 fun l' h => by omega
  | m + 1, l, hm, hf, hc, A, cap, u, v, w, hx, hr, hok, hu => execute_one lo B n g h c u l A _ cap v w hx rfl hf hc hr hok hu hn6 fun l' h' hf' hc' A' cap' u' v' Z h1 h2 h3 h4 => execute_any lo B n g h c hn6 m l' (by omega) hf' hc' A' cap' u' v' Z h1 h2 h3 h4

end Go.Proofs.Ytniilhgcgcimgaa
