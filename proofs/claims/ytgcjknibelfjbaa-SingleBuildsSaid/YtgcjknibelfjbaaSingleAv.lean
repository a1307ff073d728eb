/-
  codemasonref.OnceSet's closure (M3): is a name set ahead of so many steps of a block?
-/
import Derived.Test.YtgcjknibelfjbaaSingleSets
import Derived.Test.YtgcjknibelfjbaaRegionAll
import Derived.Test.YtgcjknibelfjbaaSingleFrom
import Derived.Test.YtgcjknibelfjbaaSingleCk
import Derived.Test.YtgcjknibelfjbaaRuleRef
import Derived.Test.YtgcjknibelfjbaaPureSnRun
import Derived.Deep.RegionHeld3
namespace Go.Proofs.Ytgcjknibelfjbaa
open Go.RowKit
set_option linter.unusedSimpArgs false
set_option linter.unusedVariables false
set_option maxRecDepth 100000

/-- what the closure holds: how many variables, the blocks, their graph -/
structure ClA (w : World) (B p2 p3 p5 : Nat) (nv : Nat) (A A4 : Option Addr) (len cap c4 : Nat) (l : List Sg) : Prop where
  v2 : w.cell? ⟨p2, 0, none⟩ = some (.int .i64 nv)
  v3 : w.cell? ⟨p3, 0, none⟩ = some (.slice A len cap)
  v5 : w.cell? ⟨p5, 0, none⟩ = some (.slice A4 len c4)
  b2 : p2 < B
  b3 : p3 < B
  b5 : p5 < B
  rd : RdN w B A l
  gr : RdG w B A4 (nxP (bareP l))
  le : B ≤ w.heap.size

theorem ClA.quiet {w w' : World} {B p2 p3 p5 nv : Nat} {A A4 : Option Addr} {len cap c4 : Nat} {l : List Sg} (h : ClA w B p2 p3 p5 nv A A4 len cap c4 l) (hb : Below w.heap.size w w') : ClA w' B p2 p3 p5 nv A A4 len cap c4 l :=
  ⟨(hb.cell (p := ⟨p2, 0, none⟩) (Nat.lt_of_lt_of_le h.b2 h.le)).trans h.v2, (hb.cell (p := ⟨p3, 0, none⟩) (Nat.lt_of_lt_of_le h.b3 h.le)).trans h.v3, (hb.cell (p := ⟨p5, 0, none⟩) (Nat.lt_of_lt_of_le h.b5 h.le)).trans h.v5, h.b2, h.b3, h.b5, h.rd.below (hb.mono h.le) (Nat.le_refl _), h.gr.below (hb.mono h.le) (Nat.le_refl _), Nat.le_trans h.le hb.size⟩

/-- a Bool that says so -/
def SaysB (e : Ending) (p : Prop) : Prop := ∃ b : Bool, e = .returned (.bool b) ∧ (b = true ↔ p)

/-- not found below j -/
def NoAv (l : List Sg) (n : Int) (i j : Nat) : Prop := ∀ j' : Nat, j' < j → ¬ (j' ≠ i ∧ Dom (nxP (bareP l)) j' i ∧ 0 < setN (l.getD j' sg0) n (l.getD j' sg0).code.length)

theorem NoAv.step {l : List Sg} {n : Int} {i j : Nat} (h : NoAv l n i j) (h2 : ¬ (j ≠ i ∧ Dom (nxP (bareP l)) j i ∧ 0 < setN (l.getD j sg0) n (l.getD j sg0).code.length)) : NoAv l n i (j + 1) := fun j' hj => by
  by_cases e : j' = j
  · subst e; exact h2
  · exact h j' (by omega)

set_option maxHeartbeats 16000000 in
theorem isSet_any (p2 p3 p5 B nv : Nat) (A A4 : Option Addr) (len cap c4 k : Nat) (l : List Sg) (n i : Int) (w : World) (hcl : ClA w B p2 p3 p5 nv A A4 len cap c4 l) (hl : l.length = len) (hc : ckSingle nv l = 0)
    (hi : i = -1 ∨ (0 ≤ i ∧ i < len ∧ k ≤ (l.getD i.toNat sg0).code.length)) :
    Calls Try.prog 38 #[.int .i64 n, .int .i64 i, .int .i64 k, .pointer (some ⟨p2, 0, none⟩), .pointer (some ⟨p3, 0, none⟩), .pointer (some ⟨p5, 0, none⟩)] w fun e w' => SaysB e (Av nv l n i k) ∧ Below w.heap.size w w' := by
  obtain ⟨b1, b2, b3, b4, b5, b6, b7, b8⟩ := ckSingle_bd hc
  have HMC := Lib.hid b5
  have HMJ := Lib.hid b6
  have HL := Lib.hid hl
  have HWAY : Hid (ckWay (nxP (bareP l)) = 0) := Lib.hid (bareP_way (vars := nv) b3 b4 b7)
  have HNL : Hid ((nxP (bareP l)).length = len) := Lib.hid (by rw [← hl]; simp [bareP, nxP])
  rw [hl] at b3 b4
  have HCL := Lib.hid hcl
  have q2 := hcl.v2
  have q3 := hcl.v3
  have q5 := hcl.v5
  have hB := hcl.le
  have g2 := hcl.b2
  have g3 := hcl.b3
  have g5 := hcl.b5
  clear hl hc b1 b2 b5 b6 b7 b8 hcl
  by_cases hn : n < nv
  · have f1 : decide (n < (nv : Int)) = true := by simp [hn]
    have HA : Hid (Av nv l n i k) := Lib.hid (.inl hn)
    clear hn
    go_enter Try.func38, Try.ntmps38
    go_wp2
    go_ret
    exact ⟨⟨true, rfl, fun _ => HA.out, fun _ => rfl⟩, Below.refl _ _⟩
  · have f1 : decide (n < (nv : Int)) = false := by simp; omega
    rcases hi with rfl | ⟨h0, h1, hk⟩
    · have HA : Hid (¬ Av nv l n (-1) k) := Lib.hid (fun h => by
        rcases h with h | ⟨h, _⟩
        · exact absurd h hn
        · omega)
      clear hn
      go_enter Try.func38, Try.ntmps38
      go_wp2
      go_ret
      exact ⟨⟨false, rfl, fun h => absurd h (by decide), fun h => absurd h HA.out⟩, Below.refl _ _⟩
    · obtain ⟨m, rfl⟩ := Int.eq_ofNat_of_zero_le h0
      have hm : m < len := by omega
      have hf2 : decide ((m : Int) < 0) = false := by simp
      obtain ⟨ad, ⟨js, co, te, th, el, la⟩, Aj, cj, Ac, cc, Al, cl, rfl, hbl, hd, hrj, hrc, hrl, e0, e1, e2, e3, e4, e5⟩ := HCL.out.rd.at_ (k := m) (by rw [HL.out]; exact hm)
      have hg : l.getD m sg0 = ⟨js, co, te, th, el, la⟩ := by rw [List.getD_eq_getElem?_getD, hd]; rfl
      have hm1 := manyC_le hd
      have hm2 := manyJ_le hd
      have hmc := HMC.out
      have hmj := HMJ.out
      rw [Int.toNat_natCast, hg] at hk
      simp only [] at e0 e1 e2 e3 e4 e5 hm1 hm2 hrj hrc hk
      have HAV : Hid (Av nv l n (m : Int) k ↔ (0 < setN ⟨js, co, te, th, el, la⟩ n k ∨ ¬ NoAv l n m len)) := Lib.hid (by
        unfold Av
        rw [Int.toNat_natCast, hg]
        constructor
        · rintro (h | ⟨_, h | ⟨j, h2, h3, h4⟩⟩)
          · exact absurd h hn
          · exact .inl h
          · refine .inr fun h => h j ?_ ⟨h2, h3, h4⟩
            have := (h3.lt HWAY.out).1
            rw [HNL.out] at this
            exact this
        · rintro (h | h)
          · exact .inr ⟨by omega, .inl h⟩
          · refine .inr ⟨by omega, .inr ?_⟩
            refine Classical.byContradiction fun h2 => h fun j _ h3 => h2 ⟨j, h3⟩)
      obtain ⟨n1, hn1⟩ : ∃ n, co.length = n := ⟨_, rfl⟩
      obtain ⟨n2, hn2⟩ : ∃ n, js.length = n := ⟨_, rfl⟩
      obtain ⟨n3, hn3⟩ : ∃ n, la.length = n := ⟨_, rfl⟩
      rw [hn1] at e1 hm1 hk
      rw [hn2] at e0 hm2
      rw [hn3] at e5
      have HSO := Lib.hid (setsOf_any Aj Ac Al n2 cj n1 cc n3 cl k js co te th el la n w (hrj.more hB) (RdS.more hrc hB) hn2 hn1 (by omega) (by omega) hk)
      have hsl := setN_len ⟨js, co, te, th, el, la⟩ n k
      obtain ⟨q, hq⟩ : ∃ q, setN ⟨js, co, te, th, el, la⟩ n k = q := ⟨_, rfl⟩
      rw [hq] at HSO HAV hsl
      simp only [hn1, hn2] at hsl
      have hblw : (ad.add (m * 6)).block < w.heap.size := by omega
      clear hd hn hg hn1 hn2 hn3 hrj hrc hrl hq
      by_cases hq0 : 0 < q
      · have f3 : decide (0 < (q : Int)) = true := by simp; omega
        have f4 : decide (0 < q) = true := by simp; omega
        have HA : Hid (Av nv l n (m : Int) k) := Lib.hid (HAV.out.2 (.inl hq0))
        clear hq0
        go_enter Try.func38, Try.ntmps38
        go_wp2_with (go_at_call 37; (with_reducible refine HSO.out.mono ?_); rintro e w5 ⟨A5, c5, rfl, hb5⟩)
        go_ret
        exact ⟨⟨true, rfl, fun _ => HA.out, fun _ => rfl⟩, hb5⟩
      · have f3 : decide (0 < (q : Int)) = false := by simp; omega
        have f4 : decide (0 < q) = false := by simp; omega
        have HAV2 : Hid (Av nv l n (m : Int) k ↔ ¬ NoAv l n m len) := Lib.hid (by rw [HAV.out]; exact ⟨fun h => h.elim (fun h => absurd h hq0) id, .inr⟩)
        have HN0 : Hid (NoAv l n m 0) := Lib.hid fun j hj => by omega
        obtain ⟨f, hf⟩ := dom_bool (nxP (bareP l))
        have HF := Lib.hid hf
        clear hq0 HAV hf
        go_enter Try.func38, Try.ntmps38
        go_wp2_with fail
        refine HSO.out.mono ?_
        rintro e w1 ⟨A5, c5, rfl, hb1⟩
        have HCL1 := Lib.hid (HCL.out.quiet hb1)
        have hs1 := hb1.size
        clear HSO q2 q3 q5
        go_wp2
        go_loopw [10] (fun z wr => ∃ j : Nat, j ≤ len ∧ z = .int .i64 j ∧ NoAv l n m j ∧ Below w1.heap.size w1 wr) (fun z _ => len - (intOf z).toNat)
        case atStart => exact ⟨0, Nat.zero_le _, rfl, HN0.out, Below.refl _ _⟩
        case round =>
          obtain ⟨j, hj, rfl, hno, hb⟩ := hrel
          have HNO := Lib.hid hno
          have HCLR := Lib.hid (HCL1.out.quiet hb)
          have hsz := hb.size
          have r3 := HCLR.out.v3
          have r5 := HCLR.out.v5
          clear hno
          by_cases hjt : j < len
          · obtain ⟨ad', ⟨js2, co2, te2, th2, el2, la2⟩, Bj, cj2, Bc, cc2, Bl, cl2, ead, hblj, hdj, hrj2, hrc2, _, d0, d1, d2, d3, d4, d5⟩ := HCLR.out.rd.at_ (k := j) (by rw [HL.out]; exact hjt)
            injection ead with ead
            subst ead
            have hgj : l.getD j sg0 = ⟨js2, co2, te2, th2, el2, la2⟩ := by rw [List.getD_eq_getElem?_getD, hdj]; rfl
            have hm3 := manyC_le hdj
            have hm4 := manyJ_le hdj
            simp only [] at d0 d1 d2 d3 d4 d5 hm3 hm4 hrj2 hrc2
            have HSTEP := Lib.hid (fun (h : ¬ (j ≠ m ∧ Dom (nxP (bareP l)) j m ∧ 0 < setN ⟨js2, co2, te2, th2, el2, la2⟩ n co2.length)) => HNO.out.step (by rw [hgj]; exact h))
            have HFND := Lib.hid (fun (h1 : j ≠ m) (h2 : Dom (nxP (bareP l)) j m) (h3 : 0 < setN ⟨js2, co2, te2, th2, el2, la2⟩ n co2.length) => show ¬ NoAv l n m len from fun h => h j hjt ⟨h1, h2, by rw [hgj]; exact h3⟩)
            obtain ⟨n4, hn4⟩ : ∃ n, co2.length = n := ⟨_, rfl⟩
            obtain ⟨n5, hn5⟩ : ∃ n, js2.length = n := ⟨_, rfl⟩
            obtain ⟨n6, hn6⟩ : ∃ n, la2.length = n := ⟨_, rfl⟩
            rw [hn4] at d1 hm3 HSTEP HFND
            rw [hn5] at d0 hm4
            rw [hn6] at d5
            have hBr := HCLR.out.le
            have HSO2 := Lib.hid (fun (Z : World) (hZ : Below wr.heap.size wr Z) => setsOf_any Bj Bc Bl n5 cj2 n4 cc2 n6 cl2 n4 js2 co2 te2 th2 el2 la2 n Z (((hrj2.more hBr).below hZ (Nat.le_refl _)).more hZ.size) ((RdS.below (RdS.more hrc2 hBr) hZ (Nat.le_refl _)).more hZ.size) hn5 hn4 (by omega) (by omega) (Nat.le_refl _))
            have hsl2 := setN_len ⟨js2, co2, te2, th2, el2, la2⟩ n n4
            obtain ⟨q2, hq2⟩ : ∃ q, setN ⟨js2, co2, te2, th2, el2, la2⟩ n n4 = q := ⟨_, rfl⟩
            rw [hq2] at HSO2 HSTEP HFND hsl2
            have hblr : (ad.add (j * 6)).block < wr.heap.size := by omega
            have hp3 : p3 < wr.heap.size := by omega
            have hp5 : p5 < wr.heap.size := by omega
            have HRU := Lib.hid (fun (Z : World) (hZ : Below wr.heap.size wr Z) => refRules_any f A4 len c4 (nxP (bareP l)) j m Z HF.out (((HCLR.out.gr.more hBr).below hZ (Nat.le_refl _)).more hZ.size) HNL.out HWAY.out hjt hm)
            have HSA : Hid (∀ w' : World, Below wr.heap.size wr w' → (fun w' => w'.cell? ⟨p3, 0, none⟩ = some (.slice (some ad) len cap) ∧ w'.cell? ⟨p5, 0, none⟩ = some (.slice A4 len c4) ∧ w'.cell? (ad.add (j * 6)) = some (.slice Bj n5 cj2) ∧ w'.cell? ⟨(ad.add (j * 6)).block, (ad.add (j * 6)).off + 1, none⟩ = some (.slice Bc n4 cc2) ∧ w'.cell? ⟨(ad.add (j * 6)).block, (ad.add (j * 6)).off + 2, none⟩ = some (.int .i64 te2) ∧ w'.cell? ⟨(ad.add (j * 6)).block, (ad.add (j * 6)).off + 3, none⟩ = some (.int .i64 th2) ∧ w'.cell? ⟨(ad.add (j * 6)).block, (ad.add (j * 6)).off + 4, none⟩ = some (.int .i64 el2) ∧ w'.cell? ⟨(ad.add (j * 6)).block, (ad.add (j * 6)).off + 5, none⟩ = some (.slice Bl n6 cl2)) w') := Lib.hid fun w' h =>
              ⟨(h.cell (p := ⟨p3, 0, none⟩) hp3).trans r3, (h.cell (p := ⟨p5, 0, none⟩) hp5).trans r5, (h.cell hblr).trans d0, (h.cell (p := ⟨(ad.add (j * 6)).block, (ad.add (j * 6)).off + 1, none⟩) hblr).trans d1, (h.cell (p := ⟨(ad.add (j * 6)).block, (ad.add (j * 6)).off + 2, none⟩) hblr).trans d2, (h.cell (p := ⟨(ad.add (j * 6)).block, (ad.add (j * 6)).off + 3, none⟩) hblr).trans d3, (h.cell (p := ⟨(ad.add (j * 6)).block, (ad.add (j * 6)).off + 4, none⟩) hblr).trans d4, (h.cell (p := ⟨(ad.add (j * 6)).block, (ad.add (j * 6)).off + 5, none⟩) hblr).trans d5⟩
            clear hdj hgj hn4 hn5 hn6 hq2 hrj2 hrc2
            by_cases hjm : j = m
            · have HN := Lib.hid (HSTEP.out fun h => h.1 hjm)
              have e9 : ((j : Int) != (m : Int)) = false := by simp [hjm]
              clear hjm
              go_wp2
              refine wp_region_each (X := Unit) (fun w' => Below wr.heap.size wr w' ∧ w'.cell? ⟨p3, 0, none⟩ = some (.slice (some ad) len cap) ∧ w'.cell? ⟨p5, 0, none⟩ = some (.slice A4 len c4) ∧ w'.cell? (ad.add (j * 6)) = some (.slice Bj n5 cj2) ∧ w'.cell? ⟨(ad.add (j * 6)).block, (ad.add (j * 6)).off + 1, none⟩ = some (.slice Bc n4 cc2) ∧ w'.cell? ⟨(ad.add (j * 6)).block, (ad.add (j * 6)).off + 2, none⟩ = some (.int .i64 te2) ∧ w'.cell? ⟨(ad.add (j * 6)).block, (ad.add (j * 6)).off + 3, none⟩ = some (.int .i64 th2) ∧ w'.cell? ⟨(ad.add (j * 6)).block, (ad.add (j * 6)).off + 4, none⟩ = some (.int .i64 el2) ∧ w'.cell? ⟨(ad.add (j * 6)).block, (ad.add (j * 6)).off + 5, none⟩ = some (.slice Bl n6 cl2)) () (fun x => [.int .i64 (j : Int), .int .i64 (m : Int), .bool false, .bool false, undef, undef, undef, undef, .bool false, .bool false, undef, undef, undef, undef, undef, undef, undef, undef, undef, undef, undef, undef, undef, undef, .bool false]) _ (by kernel_rfl) (by kernel_rfl) (by kernel_rfl) (fun x => by simp only [putsD, Act.put, List.setIfInBounds_toArray, List.set_cons_zero, List.set_cons_succ]; exact rfl) ⟨Below.drew (Below.refl _ _), HSA.out _ (Below.drew (Below.refl _ _))⟩ (fun x => ?_) (fun x w5 hS5 => ?_)
              · refine AllV.val (by rfl) (fun w hSw => by ((try dsimp only at hSw); go_simp)) ?_
                refine AllV.val (by rfl) (fun w hSw => by ((try dsimp only at hSw); go_simp)) ?_
                refine AllV.val (by rfl) (fun w hSw => by ((try dsimp only at hSw); go_simp)) ?_
                refine AllV.val (by rfl) (fun w hSw => by ((try dsimp only at hSw); go_simp)) ?_
                refine AllV.no (by rfl) ?_
                refine AllV.no (by rfl) ?_
                refine AllV.no (by rfl) ?_
                refine AllV.no (by rfl) ?_
                refine AllV.val (by rfl) (fun w hSw => by ((try dsimp only at hSw); go_simp)) ?_
                refine AllV.val (by rfl) (fun w hSw => by ((try dsimp only at hSw); go_simp)) ?_
                refine AllV.no (by rfl) ?_
                refine AllV.no (by rfl) ?_
                refine AllV.no (by rfl) ?_
                refine AllV.no (by rfl) ?_
                refine AllV.no (by rfl) ?_
                refine AllV.no (by rfl) ?_
                refine AllV.no (by rfl) ?_
                refine AllV.no (by rfl) ?_
                refine AllV.no (by rfl) ?_
                refine AllV.no (by rfl) ?_
                refine AllV.no (by rfl) ?_
                refine AllV.no (by rfl) ?_
                refine AllV.no (by rfl) ?_
                refine AllV.no (by rfl) ?_
                refine AllV.val (by rfl) (fun w hSw => by ((try dsimp only at hSw); go_simp)) ?_
                exact AllV.nil
              have hb5 := hS5.1
              clear hS5
              go_wp2
              go_round
              case rel => exact ⟨j + 1, by omega, by go_num, HN.out, hb.trans (hb5.mono hsz)⟩
              case measure => (simp [intOf]; omega)
            · have e9 : ((j : Int) != (m : Int)) = true := by simp; omega
              obtain ⟨b, hb9⟩ : ∃ b, f j m = b := ⟨_, rfl⟩
              have HDO : Hid (b = true ↔ Dom (nxP (bareP l)) j m) := Lib.hid (by rw [← hb9]; exact HF.out j m)
              rw [hb9] at HRU
              clear hb9
              cases b
              · have HN := Lib.hid (HSTEP.out fun h => absurd (HDO.out.2 h.2.1) (by decide))
                go_wp2
                refine wp_region_each (X := Unit) (fun w' => Below wr.heap.size wr w' ∧ w'.cell? ⟨p3, 0, none⟩ = some (.slice (some ad) len cap) ∧ w'.cell? ⟨p5, 0, none⟩ = some (.slice A4 len c4) ∧ w'.cell? (ad.add (j * 6)) = some (.slice Bj n5 cj2) ∧ w'.cell? ⟨(ad.add (j * 6)).block, (ad.add (j * 6)).off + 1, none⟩ = some (.slice Bc n4 cc2) ∧ w'.cell? ⟨(ad.add (j * 6)).block, (ad.add (j * 6)).off + 2, none⟩ = some (.int .i64 te2) ∧ w'.cell? ⟨(ad.add (j * 6)).block, (ad.add (j * 6)).off + 3, none⟩ = some (.int .i64 th2) ∧ w'.cell? ⟨(ad.add (j * 6)).block, (ad.add (j * 6)).off + 4, none⟩ = some (.int .i64 el2) ∧ w'.cell? ⟨(ad.add (j * 6)).block, (ad.add (j * 6)).off + 5, none⟩ = some (.slice Bl n6 cl2)) () (fun x => [.int .i64 (j : Int), .int .i64 (m : Int), .bool true, .bool true, .slice A4 len c4, .int .i64 (j : Int), .int .i64 (m : Int), .bool false, .bool false, .bool false, undef, undef, undef, undef, undef, undef, undef, undef, undef, undef, undef, undef, undef, undef, .bool false]) _ (by kernel_rfl) (by kernel_rfl) (by kernel_rfl) (fun x => by simp only [putsD, Act.put, List.setIfInBounds_toArray, List.set_cons_zero, List.set_cons_succ]; exact rfl) ⟨Below.drew (Below.refl _ _), HSA.out _ (Below.drew (Below.refl _ _))⟩ (fun x => ?_) (fun x w5 hS5 => ?_)
                · refine AllV.val (by rfl) (fun w hSw => by ((try dsimp only at hSw); go_simp)) ?_
                  refine AllV.val (by rfl) (fun w hSw => by ((try dsimp only at hSw); go_simp)) ?_
                  refine AllV.val (by rfl) (fun w hSw => by ((try dsimp only at hSw); go_simp)) ?_
                  refine AllV.val (by rfl) (fun w hSw => by ((try dsimp only at hSw); go_simp)) ?_
                  refine AllV.val (by rfl) (fun w hSw => by ((try dsimp only at hSw); go_simp)) ?_
                  refine AllV.val (by rfl) (fun w hSw => by ((try dsimp only at hSw); go_simp)) ?_
                  refine AllV.val (by rfl) (fun w hSw => by ((try dsimp only at hSw); go_simp)) ?_
                  refine AllV.call (fun _ _ => rfl) (by rfl) (fun w hSw K hK => ?_) ?_
                  · (try dsimp only at hSw)
                    go_simp
                    go_at_call 39
                    (with_reducible refine (HRU.out _ hSw.1).mono ?_)
                    rintro e w5 ⟨rfl, hb5⟩
                    go_simp
                    have hb6 : Below wr.heap.size wr w5 := hSw.1.trans (hb5.mono hSw.1.size)
                    exact hK x _ ⟨hb6, HSA.out _ hb6⟩
                  refine AllV.val (by rfl) (fun w hSw => by ((try dsimp only at hSw); go_simp)) ?_
                  refine AllV.val (by rfl) (fun w hSw => by ((try dsimp only at hSw); go_simp)) ?_
                  refine AllV.no (by rfl) ?_
                  refine AllV.no (by rfl) ?_
                  refine AllV.no (by rfl) ?_
                  refine AllV.no (by rfl) ?_
                  refine AllV.no (by rfl) ?_
                  refine AllV.no (by rfl) ?_
                  refine AllV.no (by rfl) ?_
                  refine AllV.no (by rfl) ?_
                  refine AllV.no (by rfl) ?_
                  refine AllV.no (by rfl) ?_
                  refine AllV.no (by rfl) ?_
                  refine AllV.no (by rfl) ?_
                  refine AllV.no (by rfl) ?_
                  refine AllV.no (by rfl) ?_
                  refine AllV.val (by rfl) (fun w hSw => by ((try dsimp only at hSw); go_simp)) ?_
                  exact AllV.nil
                have hb5 := hS5.1
                clear hS5
                go_wp2
                go_round
                case rel => exact ⟨j + 1, by omega, by go_num, HN.out, hb.trans (hb5.mono hsz)⟩
                case measure => (simp [intOf]; omega)
              · by_cases h0q : 0 < q2
                · have f5 : decide (0 < (q2 : Int)) = true := by simp; omega
                  have f6 : decide (0 < q2) = true := by simp; omega
                  have HA : Hid (Av nv l n (m : Int) k) := Lib.hid (HAV2.out.2 (HFND.out hjm (HDO.out.1 rfl) h0q))
                  clear h0q hjm
                  go_wp2
                  refine wp_region_each (X := Option Addr × Nat) (fun w' => Below wr.heap.size wr w' ∧ w'.cell? ⟨p3, 0, none⟩ = some (.slice (some ad) len cap) ∧ w'.cell? ⟨p5, 0, none⟩ = some (.slice A4 len c4) ∧ w'.cell? (ad.add (j * 6)) = some (.slice Bj n5 cj2) ∧ w'.cell? ⟨(ad.add (j * 6)).block, (ad.add (j * 6)).off + 1, none⟩ = some (.slice Bc n4 cc2) ∧ w'.cell? ⟨(ad.add (j * 6)).block, (ad.add (j * 6)).off + 2, none⟩ = some (.int .i64 te2) ∧ w'.cell? ⟨(ad.add (j * 6)).block, (ad.add (j * 6)).off + 3, none⟩ = some (.int .i64 th2) ∧ w'.cell? ⟨(ad.add (j * 6)).block, (ad.add (j * 6)).off + 4, none⟩ = some (.int .i64 el2) ∧ w'.cell? ⟨(ad.add (j * 6)).block, (ad.add (j * 6)).off + 5, none⟩ = some (.slice Bl n6 cl2)) (none, 0) (fun x => [.int .i64 (j : Int), .int .i64 (m : Int), .bool true, .bool true, .slice A4 len c4, .int .i64 (j : Int), .int .i64 (m : Int), .bool true, .bool true, .bool true, .slice (some ad) len cap, .int .i64 (j : Int), .pointer (some (ad.add (j * 6))), .agg #[.slice Bj n5 cj2, .slice Bc n4 cc2, .int .i64 te2, .int .i64 th2, .int .i64 el2, .slice Bl n6 cl2], .int .i64 n, .slice (some ad) len cap, .int .i64 (j : Int), .pointer (some (ad.add (j * 6))), .pointer (some ⟨(ad.add (j * 6)).block, (ad.add (j * 6)).off + 1, none⟩), .slice Bc n4 cc2, .int .i64 n4, .slice x.1 q2 x.2, .int .i64 q2, .bool true, .bool true]) _ (by kernel_rfl) (by kernel_rfl) (by kernel_rfl) (fun x => by simp only [putsD, Act.put, List.setIfInBounds_toArray, List.set_cons_zero, List.set_cons_succ]; exact rfl) ⟨Below.drew (Below.refl _ _), HSA.out _ (Below.drew (Below.refl _ _))⟩ (fun x => ?_) (fun x w5 hS5 => ?_)
                  · refine AllV.val (by rfl) (fun w hSw => by ((try dsimp only at hSw); go_simp)) ?_
                    refine AllV.val (by rfl) (fun w hSw => by ((try dsimp only at hSw); go_simp)) ?_
                    refine AllV.val (by rfl) (fun w hSw => by ((try dsimp only at hSw); go_simp)) ?_
                    refine AllV.val (by rfl) (fun w hSw => by ((try dsimp only at hSw); go_simp)) ?_
                    refine AllV.val (by rfl) (fun w hSw => by ((try dsimp only at hSw); go_simp)) ?_
                    refine AllV.val (by rfl) (fun w hSw => by ((try dsimp only at hSw); go_simp)) ?_
                    refine AllV.val (by rfl) (fun w hSw => by ((try dsimp only at hSw); go_simp)) ?_
                    refine AllV.call (fun _ _ => rfl) (by rfl) (fun w hSw K hK => ?_) ?_
                    · (try dsimp only at hSw)
                      go_simp
                      go_at_call 39
                      (with_reducible refine (HRU.out _ hSw.1).mono ?_)
                      rintro e w5 ⟨rfl, hb5⟩
                      go_simp
                      have hb6 : Below wr.heap.size wr w5 := hSw.1.trans (hb5.mono hSw.1.size)
                      exact hK x _ ⟨hb6, HSA.out _ hb6⟩
                    refine AllV.val (by rfl) (fun w hSw => by ((try dsimp only at hSw); go_simp)) ?_
                    refine AllV.val (by rfl) (fun w hSw => by ((try dsimp only at hSw); go_simp)) ?_
                    refine AllV.val (by rfl) (fun w hSw => by ((try dsimp only at hSw); go_simp)) ?_
                    refine AllV.val (by rfl) (fun w hSw => by ((try dsimp only at hSw); go_simp)) ?_
                    refine AllV.val (by rfl) (fun w hSw => by ((try dsimp only at hSw); go_simp)) ?_
                    refine AllV.val (by rfl) (fun w hSw => by ((try dsimp only at hSw); go_simp)) ?_
                    refine AllV.val (by rfl) (fun w hSw => by ((try dsimp only at hSw); go_simp)) ?_
                    refine AllV.val (by rfl) (fun w hSw => by ((try dsimp only at hSw); go_simp)) ?_
                    refine AllV.val (by rfl) (fun w hSw => by ((try dsimp only at hSw); go_simp)) ?_
                    refine AllV.val (by rfl) (fun w hSw => by ((try dsimp only at hSw); go_simp)) ?_
                    refine AllV.val (by rfl) (fun w hSw => by ((try dsimp only at hSw); go_simp)) ?_
                    refine AllV.val (by rfl) (fun w hSw => by ((try dsimp only at hSw); go_simp)) ?_
                    refine AllV.val (by rfl) (fun w hSw => by ((try dsimp only at hSw); go_simp)) ?_
                    refine AllV.call (fun _ _ => rfl) (by rfl) (fun w hSw K hK => ?_) ?_
                    · (try dsimp only at hSw)
                      go_simp
                      go_at_call 37
                      (with_reducible refine (HSO2.out _ hSw.1).mono ?_)
                      rintro e w5 ⟨A5, c5, rfl, hb5⟩
                      go_simp
                      have hb6 : Below wr.heap.size wr w5 := hSw.1.trans (hb5.mono hSw.1.size)
                      exact hK (A5, c5) _ ⟨hb6, HSA.out _ hb6⟩
                    refine AllV.val (by rfl) (fun w hSw => by ((try dsimp only at hSw); go_simp)) ?_
                    refine AllV.val (by rfl) (fun w hSw => by ((try dsimp only at hSw); go_simp)) ?_
                    refine AllV.val (by rfl) (fun w hSw => by ((try dsimp only at hSw); go_simp)) ?_
                    exact AllV.nil
                  have hb5 := hS5.1
                  clear hS5
                  go_wp2
                  go_ret
                  exact ⟨⟨true, rfl, fun _ => HA.out, fun _ => rfl⟩, hb1.trans ((hb.trans (hb5.mono hsz)).mono hs1)⟩
                · have f5 : decide (0 < (q2 : Int)) = false := by simp; omega
                  have f6 : decide (0 < q2) = false := by simp; omega
                  have HN := Lib.hid (HSTEP.out fun h => h0q h.2.2)
                  clear h0q hjm
                  go_wp2
                  refine wp_region_each (X := Option Addr × Nat) (fun w' => Below wr.heap.size wr w' ∧ w'.cell? ⟨p3, 0, none⟩ = some (.slice (some ad) len cap) ∧ w'.cell? ⟨p5, 0, none⟩ = some (.slice A4 len c4) ∧ w'.cell? (ad.add (j * 6)) = some (.slice Bj n5 cj2) ∧ w'.cell? ⟨(ad.add (j * 6)).block, (ad.add (j * 6)).off + 1, none⟩ = some (.slice Bc n4 cc2) ∧ w'.cell? ⟨(ad.add (j * 6)).block, (ad.add (j * 6)).off + 2, none⟩ = some (.int .i64 te2) ∧ w'.cell? ⟨(ad.add (j * 6)).block, (ad.add (j * 6)).off + 3, none⟩ = some (.int .i64 th2) ∧ w'.cell? ⟨(ad.add (j * 6)).block, (ad.add (j * 6)).off + 4, none⟩ = some (.int .i64 el2) ∧ w'.cell? ⟨(ad.add (j * 6)).block, (ad.add (j * 6)).off + 5, none⟩ = some (.slice Bl n6 cl2)) (none, 0) (fun x => [.int .i64 (j : Int), .int .i64 (m : Int), .bool true, .bool true, .slice A4 len c4, .int .i64 (j : Int), .int .i64 (m : Int), .bool true, .bool true, .bool true, .slice (some ad) len cap, .int .i64 (j : Int), .pointer (some (ad.add (j * 6))), .agg #[.slice Bj n5 cj2, .slice Bc n4 cc2, .int .i64 te2, .int .i64 th2, .int .i64 el2, .slice Bl n6 cl2], .int .i64 n, .slice (some ad) len cap, .int .i64 (j : Int), .pointer (some (ad.add (j * 6))), .pointer (some ⟨(ad.add (j * 6)).block, (ad.add (j * 6)).off + 1, none⟩), .slice Bc n4 cc2, .int .i64 n4, .slice x.1 q2 x.2, .int .i64 q2, .bool false, .bool false]) _ (by kernel_rfl) (by kernel_rfl) (by kernel_rfl) (fun x => by simp only [putsD, Act.put, List.setIfInBounds_toArray, List.set_cons_zero, List.set_cons_succ]; exact rfl) ⟨Below.drew (Below.refl _ _), HSA.out _ (Below.drew (Below.refl _ _))⟩ (fun x => ?_) (fun x w5 hS5 => ?_)
                  · refine AllV.val (by rfl) (fun w hSw => by ((try dsimp only at hSw); go_simp)) ?_
                    refine AllV.val (by rfl) (fun w hSw => by ((try dsimp only at hSw); go_simp)) ?_
                    refine AllV.val (by rfl) (fun w hSw => by ((try dsimp only at hSw); go_simp)) ?_
                    refine AllV.val (by rfl) (fun w hSw => by ((try dsimp only at hSw); go_simp)) ?_
                    refine AllV.val (by rfl) (fun w hSw => by ((try dsimp only at hSw); go_simp)) ?_
                    refine AllV.val (by rfl) (fun w hSw => by ((try dsimp only at hSw); go_simp)) ?_
                    refine AllV.val (by rfl) (fun w hSw => by ((try dsimp only at hSw); go_simp)) ?_
                    refine AllV.call (fun _ _ => rfl) (by rfl) (fun w hSw K hK => ?_) ?_
                    · (try dsimp only at hSw)
                      go_simp
                      go_at_call 39
                      (with_reducible refine (HRU.out _ hSw.1).mono ?_)
                      rintro e w5 ⟨rfl, hb5⟩
                      go_simp
                      have hb6 : Below wr.heap.size wr w5 := hSw.1.trans (hb5.mono hSw.1.size)
                      exact hK x _ ⟨hb6, HSA.out _ hb6⟩
                    refine AllV.val (by rfl) (fun w hSw => by ((try dsimp only at hSw); go_simp)) ?_
                    refine AllV.val (by rfl) (fun w hSw => by ((try dsimp only at hSw); go_simp)) ?_
                    refine AllV.val (by rfl) (fun w hSw => by ((try dsimp only at hSw); go_simp)) ?_
                    refine AllV.val (by rfl) (fun w hSw => by ((try dsimp only at hSw); go_simp)) ?_
                    refine AllV.val (by rfl) (fun w hSw => by ((try dsimp only at hSw); go_simp)) ?_
                    refine AllV.val (by rfl) (fun w hSw => by ((try dsimp only at hSw); go_simp)) ?_
                    refine AllV.val (by rfl) (fun w hSw => by ((try dsimp only at hSw); go_simp)) ?_
                    refine AllV.val (by rfl) (fun w hSw => by ((try dsimp only at hSw); go_simp)) ?_
                    refine AllV.val (by rfl) (fun w hSw => by ((try dsimp only at hSw); go_simp)) ?_
                    refine AllV.val (by rfl) (fun w hSw => by ((try dsimp only at hSw); go_simp)) ?_
                    refine AllV.val (by rfl) (fun w hSw => by ((try dsimp only at hSw); go_simp)) ?_
                    refine AllV.val (by rfl) (fun w hSw => by ((try dsimp only at hSw); go_simp)) ?_
                    refine AllV.val (by rfl) (fun w hSw => by ((try dsimp only at hSw); go_simp)) ?_
                    refine AllV.call (fun _ _ => rfl) (by rfl) (fun w hSw K hK => ?_) ?_
                    · (try dsimp only at hSw)
                      go_simp
                      go_at_call 37
                      (with_reducible refine (HSO2.out _ hSw.1).mono ?_)
                      rintro e w5 ⟨A5, c5, rfl, hb5⟩
                      go_simp
                      have hb6 : Below wr.heap.size wr w5 := hSw.1.trans (hb5.mono hSw.1.size)
                      exact hK (A5, c5) _ ⟨hb6, HSA.out _ hb6⟩
                    refine AllV.val (by rfl) (fun w hSw => by ((try dsimp only at hSw); go_simp)) ?_
                    refine AllV.val (by rfl) (fun w hSw => by ((try dsimp only at hSw); go_simp)) ?_
                    refine AllV.val (by rfl) (fun w hSw => by ((try dsimp only at hSw); go_simp)) ?_
                    exact AllV.nil
                  have hb5 := hS5.1
                  clear hS5
                  go_wp2
                  go_round
                  case rel => exact ⟨j + 1, by omega, by go_num, HN.out, hb.trans (hb5.mono hsz)⟩
                  case measure => (simp [intOf]; omega)
          · have HA : Hid (¬ Av nv l n (m : Int) k) := Lib.hid (fun h => absurd (by have := HNO.out; rwa [show j = len by omega] at this) (HAV2.out.1 h))
            have r3' : wr.cell? ⟨p3, 0, none⟩ = some (.slice (some ad) len cap) := r3
            go_wp2
            go_ret
            exact ⟨⟨false, rfl, fun h => absurd h (by decide), fun h => absurd h HA.out⟩, hb1.trans (hb.mono hs1)⟩

end Go.Proofs.Ytgcjknibelfjbaa
