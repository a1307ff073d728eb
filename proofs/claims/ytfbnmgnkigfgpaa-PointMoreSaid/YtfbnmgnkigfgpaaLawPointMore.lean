/-
  For any pointer assignments, and one more at either end: point.Within tells no less, and the order is no matter (V2).
-/
import Derived.Test.YtfbnmgnkigfgpaaLawPoint
import Derived.Test.YtfbnmgnkigfgpaaPtMore
namespace Go.Proofs.Ytfbnmgnkigfgpaa
open Go.RowKit Go.ChangeShapes Go.WideShapes Go.ChangeAt Go.Deep
set_option linter.unusedSimpArgs false
set_option linter.unusedVariables false
set_option maxRecDepth 100000

theorem below_drewNM {B : Nat} {X Y : World} (h : Below B X Y) (q : Nat) : Below B X (Y.drewN q) := ⟨h.os, h.tape, h.output, h.size, h.block⟩

theorem inM_true {a b : Nat} (h : a ||| b = b) (ha : a < 4294967296) (hb : b < 4294967296) (w : World) :
    Calls Try.prog 19 #[.int .u32 (a : Int), .int .u32 (b : Int)] w fun e w' => e = .returned (.bool true) ∧ w' = w := by
  have hor : bits .or .u32 ((a : Nat) : Int) ((b : Nat) : Int) = ((b : Nat) : Int) := by rw [u32_or_nat _ _ ha hb, h]
  have HOR := Lib.hid hor
  clear hor h
  go_enter Try.func19, Try.ntmps19
  go_wp2
  go_ret
  exact ⟨ret_bool (by rw [HOR.out]; simp), rfl⟩

theorem sub_orM {a b : Nat} (h : ∀ x, a.testBit x = true → b.testBit x = true) : a ||| b = b := by
  apply Nat.eq_of_testBit_eq
  intro x
  rw [Nat.testBit_or]
  cases ha : a.testBit x with
  | false => rfl
  | true => rw [h x ha]; rfl

theorem more_sets {n : Int} {l : List Pz} {p : Pz} {ma mb m7 : Nat} {Sa Sb S7 : List Nat} (c0 : ckPz n l = 0) (f0 : ckPz n (p :: l) = 0) (g0 : ckPz n (l ++ [p]) = 0) (ha : ToldS (fun q _ => An q) n l ma Sa) (hb : ToldS (fun q _ => An q) n (p :: l) mb Sb) (h7 : ToldS (fun q _ => An q) n (l ++ [p]) m7 S7) :
    ma ≤ 8 ∧ ma = mb ∧ ma = m7 ∧ Sb = S7 ∧ Sa.length = ma ∧ Sb.length = ma ∧ ∀ i W V : Nat, i < ma → Sa[i]? = some W → Sb[i]? = some V → W < 256 ∧ V < 256 ∧ W ||| V = V := by
  obtain ⟨k, q, rfl, k1, k8, hq, _, _⟩ := ckPz_ok f0
  cases q with
  | nil => simp [qI] at hq
  | cons a q0 =>
    have hq2 := hq
    unfold qI at hq2
    rw [List.map_cons] at hq2
    injection hq2 with e1 e2
    have e2 : l = qI q0 := e2
    have hl7 : l ++ [p] = qI (q0 ++ [a]) := by rw [e1, e2]; simp [qI]
    obtain ⟨b1, b2⟩ := hb.2.2 k (a :: q0) rfl hq f0
    obtain ⟨a1, a2⟩ := ha.2.2 k q0 rfl e2 c0
    obtain ⟨d1, d2⟩ := h7.2.2 k (q0 ++ [a]) rfl hl7 g0
    refine ⟨by omega, by omega, by omega, b2.one d2 (fun i x _ => ⟨fun h => An.mono (fun y hy => ?_) h, fun h => An.mono (fun y hy => ?_) h⟩), by rw [a1]; exact a2.len, by rw [a1]; exact b2.len, fun i W V hi hW hV => ⟨a2.lt i W hW, b2.lt i V hV, sub_orM fun x hx => ?_⟩⟩
    · rcases List.mem_cons.1 hy with rfl | h
      · exact List.mem_append_right _ (List.mem_cons_self ..)
      · exact List.mem_append_left _ h
    · rcases List.mem_append.1 hy with h | h
      · exact List.mem_cons_of_mem _ h
      · rw [List.mem_singleton.1 h]
        exact List.mem_cons_self ..
    · have h1 := (a2.bit i x (by omega)).1 (Bt.of hW hx)
      have h2 := (b2.bit i x (by omega)).2 (An.mono (fun y hy => List.mem_cons_of_mem _ hy) h1)
      unfold Bt at h2
      rw [getD_at hV] at h2
      exact h2

set_option maxHeartbeats 16000000 in
theorem lawPointMore_any (n : Int) (A : Option Addr) (cap : Nat) (l : List Pz) (pk pt pf : Int) (w : World) (hx : RdPz w w.heap.size A l) (hm : l.length ≤ maxLen) (hby : l.length * 24 ≤ 140737488351232) :
    Calls Try.prog 8 #[.int .i64 n, .slice A l.length cap, .agg #[.int .i64 pk, .int .i64 pt, .int .i64 pf]] w fun e w' => e = .returned (.bool true) ∧ Below w.heap.size w w' := by
  obtain ⟨len, hlen⟩ : ∃ len, l.length = len := ⟨_, rfl⟩
  have HLI := Lib.hid hlen
  rw [hlen] at hm hby ⊢
  have HM := Lib.hid hm
  have HL1 : Hid ((rv cPz l).length = len * 3) := Lib.hid (by rw [rv_len cPz_len, hlen])
  have HN1 : Hid (A = none → len = 0) := Lib.hid fun h => by rw [← hlen]; exact RdR.nil (by omega) hx h
  obtain ⟨p, hp⟩ : ∃ p : Pz, p = ⟨pk, pt, pf⟩ := ⟨_, rfl⟩
  have HPC : Hid (cPz p = [.int .i64 pk, .int .i64 pt, .int .i64 pf]) := Lib.hid (by rw [hp]; rfl)
  have hq0 := Own.new w 41 [.int .i64 pk, .int .i64 pt, .int .i64 pf]
  have hb0 : Below w.heap.size w (w.alloc (.cells #[.int .i64 pk, .int .i64 pt, .int .i64 pf] 41)) := by go_grown
  have HX := Lib.hid (fun (Z : World) (hZ : Below w.heap.size w Z) => (hx.below hZ (Nat.le_refl _)).more hZ.size)
  have HWA := Lib.hid (fun (Z : World) (hZ : Below w.heap.size w Z) => within_told n A len cap l Z (HX.out Z hZ) hlen hm)
  obtain ⟨c0, hc0⟩ : ∃ c, ckPz n l = c := ⟨_, rfl⟩
  obtain ⟨f, hf⟩ : ∃ c, ckPz n (p :: l) = c := ⟨_, rfl⟩
  obtain ⟨g, hg⟩ : ∃ c, ckPz n (l ++ [p]) = c := ⟨_, rfl⟩
  have HWB := Lib.hid (fun (A' : Option Addr) (c : Nat) (Z : World) (hr : RdPz Z Z.heap.size A' (p :: l)) => within_told n A' (1 + len) c (p :: l) Z hr (by simp [hlen]; omega) (by unfold maxLen at hm ⊢; omega))
  have HWC := Lib.hid (fun (A' : Option Addr) (c : Nat) (Z : World) (hr : RdPz Z Z.heap.size A' (l ++ [p])) => within_told n A' (len + 1) c (l ++ [p]) Z hr (by simp [hlen]) (by unfold maxLen at hm ⊢; omega))
  rw [hc0] at HWA
  rw [hf] at HWB
  rw [hg] at HWC
  have HC0 := Lib.hid hc0
  have HF := Lib.hid hf
  have HG := Lib.hid hg
  have ha1 : 1 + len ≤ maxLen := by unfold maxLen; omega
  have ha2 : (1 + len) * 24 ≤ 140737488355328 := by omega
  have hd1 : 0 + len ≤ maxLen := by unfold maxLen; omega
  have hd2 : (0 + len) * 24 ≤ 140737488355328 := by omega
  have hd3 : len + 1 ≤ maxLen := by unfold maxLen; omega
  have hd4 : (len + 1) * 24 ≤ 140737488355328 := by omega
  clear hx hlen hm hp hc0 hf hg
  go_enter Try.func8, Try.ntmps8
  go_wp2_with fail
  refine (HWA.out _ hb0).mono ?_
  rintro e w1 ⟨Sa, Aa, ma, ca, rfl, hra, hta, hb1⟩
  have hq1 := hq0.below hb1 hq0.lt
  have e0 := hq1.cell (j := 0) rfl
  have e1 := hq1.cell (j := 1) rfl
  have e2 := hq1.cell (j := 2) rfl
  have hbw1 : Below w.heap.size w w1 := below_viaM hb0 hb1
  have hs1 := hbw1.size
  have hql := hq1.lt
  have HTA := Lib.hid hta
  have hN := World.ownsRow_lit (base := w1.heap.size) (e := 41) (size := 3) w1 #[.int .i64 pk, .int .i64 pt, .int .i64 pf] 1 (Nat.le_refl _) (by omega) rfl
  have HNW := Lib.hid hN
  have hXA := HX.out _ (hbw1.alloc hs1 (.cells #[.int .i64 pk, .int .i64 pt, .int .i64 pf] 41))
  have HXA := Lib.hid hXA
  have HQ1 := Lib.hid hq1
  clear hta hb1 hN hXA hq0 hq1
  go_wp2_with (first
    | (at_builtin; refine wpList_app rfl (.tmp 23) (.tmp 24) 22 rfl w1.heap.size 41 3 24 point_appQ _ rfl HNW.out (rv cPz l) rfl HL1.out HN1.out (RdR.news cPz_len HXA.out) (rv_all cPz_one l) ha1 ha2 (by simp) ?_; intro A2 c2 w2 hown2 hg2 hb2))
  have hL2 : RdPz w2 w2.heap.size A2 (p :: l) := own_rdR (l := p :: l) (by rw [show rv cPz (p :: l) = cPz p ++ rv cPz l from rfl, HPC.out]; exact hown2) (by simp [HLI.out]; omega)
  have hb12 : Below w1.heap.size w1 w2 := ((Below.refl _ _).alloc (Nat.le_refl _) _).trans hb2
  clear hown2 hg2 hb2
  go_at_call 9
  refine (HWB.out _ _ _ hL2).mono ?_
  rintro e w3 ⟨Sb, Ab, mb, cb, rfl, hrb, htb, hb3⟩
  have hb13 : Below w1.heap.size w1 w3 := below_viaM hb12 hb3
  have HTB := Lib.hid htb
  have hra3 := (hra.below hb13 (Nat.le_refl _)).more hb13.size
  have HQ3 := Lib.hid (HQ1.out.below hb13 hql)
  have HBW := Lib.hid (below_viaM hbw1 hb13)
  have hs3 := hb13.size
  have hq3l := HQ3.out.lt
  have HX3 := Lib.hid (HX.out _ HBW.out)
  clear htb hb3 hb12 hL2 hra e0 e1 e2
  go_wp2
  refine wp_region_stepsB (X := MoY) (fun x w => MyS w3 n len l p x w) myD myE ⟨⟨none, none, none, none, none⟩, none, none, none⟩ (fun x => [.int .i64 n, .slice (some ⟨x.x.e.getD 0, 0, none⟩) 0 0, .slice A len cap, .slice (x.x.a.getD (none, 0)).1 len (x.x.a.getD (none, 0)).2, .agg #[.int .i64 pk, .int .i64 pt, .int .i64 pf], .slice (some ⟨x.x.x.getD 0, 0, none⟩) 1 1, .slice (x.x.b.getD (none, 0)).1 (len + 1) (x.x.b.getD (none, 0)).2, .tuple #[.slice (x.x.r.getD (none, 0, 0)).1 (x.x.r.getD (none, 0, 0)).2.1 (x.x.r.getD (none, 0, 0)).2.2, .int .i64 g], .tuple #[.slice (x.c8.getD (none, 0, 0)).1 (x.c8.getD (none, 0, 0)).2.1 (x.c8.getD (none, 0, 0)).2.2, .int .i64 g], .slice (x.c9.getD (none, 0, 0)).1 (x.c9.getD (none, 0, 0)).2.1 (x.c9.getD (none, 0, 0)).2.2, .int .i64 g, .slice (x.c11.getD (none, 0, 0)).1 (x.c11.getD (none, 0, 0)).2.1 (x.c11.getD (none, 0, 0)).2.2, .int .i64 g]) _ (by kernel_rfl) (by kernel_rfl) (by kernel_rfl) (fun x => by simp only [putsD, Act.put, List.setIfInBounds_toArray, List.set_cons_zero, List.set_cons_succ]; exact rfl) myH0 MyS.start (fun x => ?_) (fun x wz hDz hSz => ?_)
  · refine AllS.val (by rfl) (by rfl) (fun w hSw hPw => by go_simp) ?_
    refine AllS.turn (fun _ _ => rfl) (by rfl) (fun w hSw hPw K hK => ?_) ?_
    · (try dsimp only at hSw)
      have h0 := nO1 (hPw.me rfl)
      have h3 := nO3 (hPw.not (j := 3) rfl (by kernel_rfl))
      have ht := hSw.up (hSw.s.mk1 h0 h3 (hSw.s.o6 h3)) (fun _ e => e)
      clear h0 h3
      go_simp
      exact hK _ _ (nY rfl nx1) ht
    refine AllS.val (by rfl) (by rfl) (fun w hSw hPw => by go_simp) ?_
    refine AllS.turn (fun _ _ => rfl) (by rfl) (fun w hSw hPw K hK => ?_) ?_
    · (try dsimp only at hSw)
      have h0 := nO3 (hPw.me rfl)
      obtain ⟨b, hb⟩ := yE1 (hPw.need (k := 1) rfl (by kernel_rfl))
      have hb6 := hSw.s.o6 h0
      have h1 := hSw.s.s1 b hb h0
      refine oper_app' (.tmp 31) (.tmp 32) 22 rfl w3.heap.size 41 3 24 point_appQ (A := some ⟨b, 0, none⟩) (n := 0) (c := 0) [] (by show Value.slice (some ⟨x.x.e.getD 0, 0, none⟩) 0 0 = _; rw [hb]; rfl) h1.2 (rv cPz l) rfl HL1.out HN1.out (RdR.news cPz_len ((HX3.out.below hSw.s.be (Nat.le_refl _)).more hSw.s.be.size)) (rv_all cPz_one l) hd1 hd2 hSw.s.be.size ?_
      intro A8 c8 w8 hown8 hg8 hb8 hk8
      simp only [Nat.zero_add] at hown8 ⊢
      exact hK ⟨⟨x.x.e, some (A8, c8), x.x.x, x.x.b, x.x.r⟩, x.c8, x.c9, x.c11⟩ _ (nY rfl nx3) (hSw.up (hSw.s.mk3 hb h0 hb6 hown8 hg8 hb8) (fun _ e => e))
    refine AllS.val (by rfl) (by rfl) (fun w hSw hPw => ?_) ?_
    · (try dsimp only at hSw)
      have hq := HQ3.out.below hSw.s.be hq3l
      have f0 := hq.cell (j := 0) rfl
      have f1 := hq.cell (j := 1) rfl
      have f2 := hq.cell (j := 2) rfl
      go_simp
    refine AllS.turn (fun _ _ => rfl) (by rfl) (fun w hSw hPw K hK => ?_) ?_
    · (try dsimp only at hSw)
      have h0 := nO5 (hPw.me rfl)
      have h6 := nO6 (hPw.not (j := 6) rfl (by kernel_rfl))
      have ht := hSw.up (hSw.s.mk5 h0 h6) (fun _ e => e)
      rw [HPC.out] at ht
      clear h0 h6
      go_simp
      exact hK _ _ (nY rfl nx5) ht
    refine AllS.turn (fun _ _ => rfl) (by rfl) (fun w hSw hPw K hK => ?_) ?_
    · (try dsimp only at hSw)
      have h0 := nO6 (hPw.me rfl)
      obtain ⟨⟨A5, c5⟩, hq⟩ := yE3 (hPw.need (k := 3) rfl (by kernel_rfl))
      obtain ⟨b, hb⟩ := yE5 (hPw.need (k := 5) rfl (by kernel_rfl))
      have h3 := hSw.s.s3 A5 c5 hq h0
      have h5 := (hSw.s.s5 b hb h0).1
      refine oper_app' (.tmp 33) (.tmp 35) 22 rfl w3.heap.size 41 3 24 point_appQ (A := A5) (n := len) (c := c5) (rv cPz l) (by show Value.slice (x.x.a.getD (none, 0)).1 len (x.x.a.getD (none, 0)).2 = _; rw [hq]; rfl) h3 (A2 := some ⟨b, 0, none⟩) (m := 1) (c2 := 1) (cPz p) (by show Value.slice (some ⟨x.x.x.getD 0, 0, none⟩) 1 1 = _; rw [hb]; rfl) (cPz_len p) (fun h => by cases h) (own_newsM h5) (cPz_one p) hd3 hd4 hSw.s.be.size ?_
      intro A8 c8 w8 hown8 hg8 hb8 hk8
      exact hK ⟨⟨x.x.e, x.x.a, x.x.x, some (A8, c8), x.x.r⟩, x.c8, x.c9, x.c11⟩ _ (nY rfl nx6) (hSw.up (hSw.s.mk6 hq h0 HLI.out hown8 hb8) (fun _ e => e))
    refine AllS.turn (fun _ _ => rfl) (by rfl) (fun w hSw hPw K hK => ?_) ?_
    · (try dsimp only at hSw)
      have h0 := nO7 (hPw.me rfl)
      have H0 := Lib.hid h0
      obtain ⟨⟨A6, c6⟩, hq⟩ := yE6 (hPw.need (k := 6) rfl (by kernel_rfl))
      have h6 := hSw.s.s6 A6 c6 hq h0
      obtain ⟨q3, ha⟩ : ∃ q, x.x.a = some q := by {cases h : x.x.a with | none => rw [hSw.s.o6 h] at hq; cases hq | some q => exact ⟨q, rfl⟩}
      obtain ⟨⟨xe, xa, xx, xb, xr⟩, y8, y9, y11⟩ := x
      (try dsimp only at hq)
      subst hq
      have HA := Lib.hid ha
      clear h0 ha
      go_simp
      go_at_call 9
      (with_reducible refine (HWC.out A6 c6 _ h6).mono ?_)
      rintro e w5 ⟨S7, A7, m7, c7, rfl, hr7, ht7, hb7⟩
      go_simp
      exact hK ⟨⟨xe, xa, xx, some (A6, c6), some (A7, m7, c7)⟩, y8, y9, y11⟩ _ (nY rfl nx7) (hSw.up (hSw.s.mk7 HA.out rfl hr7 ht7 hb7) (fun _ e => by have := H0.out.symm.trans e; cases this))
    refine AllS.turn (fun _ _ => rfl) (by rfl) (fun w hSw hPw K hK => ?_) ?_
    · (try dsimp only at hSw)
      have h0 := nO8 (hPw.me rfl)
      obtain ⟨⟨A7, m7, k7⟩, hq⟩ := yE7 (hPw.need (k := 7) rfl (by kernel_rfl))
      have ht := hSw.mk8 h0 hq
      obtain ⟨⟨xe, xa, xx, xb, xr⟩, y8, y9, y11⟩ := x
      (try dsimp only at hq)
      subst hq
      clear h0
      go_simp
      exact hK _ _ nY8 ht
    refine AllS.turn (fun _ _ => rfl) (by rfl) (fun w hSw hPw K hK => ?_) ?_
    · (try dsimp only at hSw)
      have h0 := nO9 (hPw.me rfl)
      obtain ⟨⟨A7, m7, k7⟩, hq⟩ := yE8 (hPw.need (k := 8) rfl (by kernel_rfl))
      have ht := hSw.mk9 h0 hq
      obtain ⟨⟨xe, xa, xx, xb, xr⟩, y8, y9, y11⟩ := x
      (try dsimp only at hq)
      subst hq
      clear h0
      go_simp
      exact hK _ _ nY9 ht
    refine AllS.val (by rfl) (by rfl) (fun w hSw hPw => by go_simp) ?_
    refine AllS.turn (fun _ _ => rfl) (by rfl) (fun w hSw hPw K hK => ?_) ?_
    · (try dsimp only at hSw)
      obtain ⟨⟨A7, m7, k7⟩, hq⟩ := yE9 (hPw.need (k := 9) rfl (by kernel_rfl))
      have ht := hSw.mk11 hq
      obtain ⟨⟨xe, xa, xx, xb, xr⟩, y8, y9, y11⟩ := x
      (try dsimp only at hq)
      subst hq
      go_simp
      exact hK _ _ nY11 ht
    refine AllS.val (by rfl) (by rfl) (fun w hSw hPw => by go_simp) ?_
    exact AllS.nil
  obtain ⟨⟨A7, m7, c7⟩, h11⟩ := yE11 (hDz 11 (by simp) rfl)
  have h9 := hSz.k11 _ h11
  have h8 := hSz.k9 _ h9
  have hr := hSz.k8 _ h8
  obtain ⟨S7, hr7, ht7⟩ := hSz.s.s7 A7 m7 c7 hr
  have hb37 := hSz.s.be
  obtain ⟨⟨xe, xa, xx, xb, xr⟩, y8, y9, y11⟩ := x
  (try dsimp only at hr h8 h9 h11)
  subst hr h8 h9 h11
  clear hSz hDz
  have HT7 := Lib.hid ht7
  have hra7 := (hra3.below hb37 (Nat.le_refl _)).more hb37.size
  have hrb7 := (hrb.below hb37 (Nat.le_refl _)).more hb37.size
  have hx7 := (HX3.out.below hb37 (Nat.le_refl _)).more hb37.size
  have HBW7 := Lib.hid (below_viaM HBW.out hb37)
  clear ht7 hra3 hrb hb37
  simp only [Option.getD_some]
  go_wp2_with fail
  refine (pointCheck_nil n A len cap l _ hx7 HLI.out HM.out).mono ?_
  rintro e w8 ⟨rfl, hb8⟩
  rw [HC0.out]
  have hra8 := (hra7.below hb8 (Nat.le_refl _)).more hb8.size
  have hrb8 := (hrb7.below hb8 (Nat.le_refl _)).more hb8.size
  have hr78 := (hr7.below hb8 (Nat.le_refl _)).more hb8.size
  have HBW8 := Lib.hid (below_viaM HBW7.out hb8)
  clear hra7 hrb7 hr7 hb8 hx7
  by_cases hz : c0 = 0
  · subst hz
    have hfg : f = g := by rw [← HF.out, ← HG.out]; exact ckPz_more HC0.out
    subst hfg
    by_cases hf0 : f = 0
    · subst hf0
      obtain ⟨k8, e2, e3, e4, la, lb, hin⟩ := more_sets HC0.out HF.out HG.out HTA.out HTB.out HT7.out
      subst e2 e3 e4
      have HIN0 := Lib.hid hin
      have HLA := Lib.hid la
      have HLB := Lib.hid lb
      clear hin la lb
      go_wp2_with (go_at_call 11; (with_reducible refine (wordsQ_same Ab A7 ma cb c7 Sb _ hrb8 hr78 HLB.out (by unfold maxLen; omega)).mono ?_); rintro e w9 ⟨rfl, hb9⟩)
      have hra9 := (hra8.below hb9 (Nat.le_refl _)).more hb9.size
      have hrb9 := (hrb8.below hb9 (Nat.le_refl _)).more hb9.size
      have HBW9 := Lib.hid (below_viaM HBW8.out hb9)
      have hs9 := HBW9.out.size
      clear hra8 hrb8 hr78 hb9
      go_wp2
      go_loopw [76] (fun i wr => ∃ j : Nat, j ≤ ma ∧ i = .int .i64 j ∧ Below w9.heap.size w9 wr) (fun i _ => ma - (intOf i).toNat)
      case atStart => exact ⟨0, Nat.zero_le _, rfl, Below.refl _ _⟩
      case round =>
        obtain ⟨i, hi, rfl, hb⟩ := hrel
        by_cases hlt : i < ma
        · obtain ⟨ad, W, rfl, hbl, hW, hcW⟩ := (hra9.below hb (Nat.le_refl _)).at_ (k := i) (by rw [HLA.out]; exact hlt)
          obtain ⟨ad2, V, rfl, hbl2, hV, hcV⟩ := (hrb9.below hb (Nat.le_refl _)).at_ (k := i) (by rw [HLB.out]; exact hlt)
          obtain ⟨hW8, hV8, hsub⟩ := HIN0.out i W V hlt hW hV
          have HIN := Lib.hid (fun Z => inM_true hsub (by omega) (by omega) Z)
          have HB := Lib.hid hb
          clear hW hsub hV hb
          go_wp2
          go_quiet ((go_at_call 19; with_reducible exact Calls.quiet_of_same (HIN.out _)))
          go_wp2
          go_round
          case rel => exact ⟨i + 1, by omega, by go_num, below_drewNM HB.out _⟩
          case measure => (simp [intOf]; omega)
        · go_wp2
          go_ret
          exact ⟨rfl, HBW9.out.trans (hb.mono hs9)⟩
    · have hfn : (f != 0) = true := by simpa using hf0
      go_wp2
      go_ret
      exact ⟨ret_bool (by simp), HBW8.out⟩
  · have hfn : (c0 != 0) = true := by simpa using hz
    go_wp2
    go_ret
    exact ⟨ret_bool (by simp [hz]), HBW8.out⟩

set_option maxRecDepth 100000 in
theorem lawPointMore_lifted (os : Os) (started : os.Started) (H : Type) (enc : TypeId × Value → H) :
    ReturnsInHanded {} Try.checked os 8 .any (Rows.pointMoreSpec.pre6 enc Try.prog Try.f8 Rows.pointMoreRow.domain false) (Rows.pointMoreSpec.post enc Try.prog Try.f8 false true false false) := by
  refine returnsInHanded_of_change_sized (C := Try.checked) Try.own started (by kernel_rfl) Try.func8
    (ChangeSpec.witness6 (enc := enc) (C := Try.checked) false ⟨#[], #[.int .i64 0, .slice none 0 0, .agg #[.int .i64 0, .int .i64 0, .int .i64 0]], []⟩ 8 (by kernel_rfl) (by kernel_rfl) (by kernel_rfl) (by kernel_rfl)) ?_
  intro W base args ds gs before hval0 hW hcnd hsz _
  have hval : ∀ (j : Nat) t v, Try.f8.params[j]? = some t → args[j]? = some v → Value.okWide Try.prog W .any base t v := hval0
  have hW' := hW
  obtain ⟨p, q, hA0, hV, rfl, hfz, hnd⟩ := hW
  have hA : DataW.TrodAll enc Try.prog W 0 (fun _ => true) true Try.f8.params.toList args.toList ds p := hA0
  obtain ⟨hgs, _⟩ := trodVars_none hV
  rw [Try.params8] at hA hval
  obtain ⟨v0, vs0, d0, ds0, p0, q0, hargs, rfl, rfl, h0, r0⟩ := trodAll_cons hA
  obtain ⟨v1, vs1, d1, ds1, p1, q1, rfl, rfl, rfl, h1, r1⟩ := trodAll_cons r0
  obtain ⟨v2, vs2, d2, ds2, p2, q2, rfl, rfl, rfl, h2, r2⟩ := trodAll_cons r1
  obtain ⟨rfl, rfl, rfl⟩ := trodAll_nil r2
  have hargs2 : args = #[v0, v1, v2] := Array.toList_inj.1 hargs
  subst hargs2
  obtain ⟨a0, rfl, _, _, w0⟩ := open_int Try.underlying3 (hval 0 3 v0 rfl rfl) h0
  obtain ⟨A1, c1, l1, rfl, lc1, cm1, x1, r1⟩ := open_pointsA (hval 1 22 v1 rfl rfl) h1
  have b1 := len_reach Try.underlying22 (hval 1 22 _ rfl rfl) h1 hsz (j := 1) (by rw [Try.params8]; rfl) rfl
  rw [show Try.prog.bytesOf (Try.prog.elem 22) = 24 from by kernel_rfl] at b1
  obtain ⟨pk2, pt2, pf2, rfl⟩ := open_pointA (hval 2 41 v2 rfl rfl) h2
  refine (lawPointMore_any a0 A1 c1 l1 pk2 pt2 pf2 _ x1 (by unfold maxLen; omega) (by omega)).mono fun e W' ⟨he, hb⟩ => ?_
  subst he
  exact ⟨_, rfl, law_post Try.laidOut rfl (by kernel_rfl) Try.underlying4 ⟨rfl, rfl, rfl⟩ (by kernel_rfl) hW' hb⟩

theorem pointMore_holds : Rows.PointMoreSaid :=
  OpenClaim.holds_of_wide 8 Try.f8 rfl rfl rfl rfl rfl rfl rfl ⟨rfl, rfl, rfl, rfl, rfl⟩ rfl rfl rfl rfl rfl (by kernel_rfl) Try.func8 (show joinedFacts Try.prog 8 Try.f8 Rows.pointMoreSpec Rows.pointMoreRow = true from (by unfold joinedFacts; (repeat' (with_reducible refine and_both ?_ ?_)) <;> first | (with_reducible exact may_enter) | ((with_reducible refine make_ok ?_); rfl) | ((with_reducible refine lifts_ok ?_); rfl) | kernel_rfl))
    (of_decide_eq_true (by kernel_rfl)) (by unfold Func.isWrapper; rw [if_neg (of_decide_eq_false (by kernel_rfl))]; exact ⟨rfl, rfl⟩)
    (fun os started H enc _ => lawPointMore_lifted os started H enc)

end Go.Proofs.Ytfbnmgnkigfgpaa
