/-
  weak.Ahead (S1): its contract.
-/
import Derived.Test.YtggekjccblblpaaWeakRes
import Derived.Test.YtggekjccblblpaaWeakProg
import Derived.Test.YtggekjccblblpaaPrunePure
import Derived.Test.YtggekjccblblpaaUses
import Derived.Test.YtggekjccblblpaaLive
namespace Go.Proofs.Ytggekjccblblpaa
open Go.RowKit
set_option linter.unusedSimpArgs false
set_option linter.unusedVariables false
set_option maxRecDepth 100000

theorem rdLs_own {w' : World} {G : Nat} {t : TypeId} {q : List (List Tm × Option Addr × Nat)} (h : Own w' G t (q.map fun x => .slice x.2.1 x.1.length x.2.2)) (hx : ∀ x ∈ q, RdT w' w'.heap.size x.2.1 x.1) : RdLs w' (some ⟨G, 0, none⟩) q := fun k x hk => by
  refine ⟨⟨G, 0, none⟩, rfl, by rw [addr_add_block]; exact h.lt, ?_, hx x (List.mem_of_getElem? hk)⟩
  have ha : (⟨G, 0, none⟩ : Addr).add k = ⟨G, k, none⟩ := by unfold Addr.add; split <;> simp_all
  rw [ha]
  exact h.cell (by rw [List.getElem?_map, hk]; rfl)

theorem usesW_fit {n : Nat} {l : List Tm} (hc : ckTerms n l = 0) : usesW l < 2 ^ n := Nat.lt_pow_two_of_testBit _ fun v hv => by
  cases h : (usesW l).testBit v with
  | false => rfl
  | true =>
    exfalso
    rcases usW_only (needL l) l 0 v h with h0 | ⟨j, t, _, ht, ho, he⟩
    · simp at h0
    · have := ckTerm_cases (ckTerms_at hc ht)
      omega

theorem add_zeroW (a : Addr) : a.add 0 = a := by unfold Addr.add; simp

/-- on the way through a step's round -/
def AtT (base g m s0 G kt : Nat) (cs : List Value) (T : List Tm) (A : Option Addr) (c : Nat) (P : List Tm → Nat → Prop) (Y : World) (x : Nat × Value) (w : World) : Prop :=
  (x.1 ≤ 1 → Own w s0 66 cs) ∧ match x.1 with
  | 0 => Below Y.heap.size Y w
  | 1 => ∃ (T' : List Tm) (r : Nat) (A' : Option Addr) (c' : Nat), x.2 = .int .i64 (r : Int) ∧ P T' r ∧ LsAt base g m T' A' c' w ∧ Kpt g m (Value.slice A T.length c).ownBlock (Value.slice A' T'.length c').ownBlock Y w
  | _ => ∃ (T' : List Tm) (r : Nat) (A' : Option Addr) (c' : Nat) (w8 : World), P T' r ∧ LsAt base g m T' A' c' w8 ∧ Kpt g m (Value.slice A T.length c).ownBlock (Value.slice A' T'.length c').ownBlock Y w8 ∧ w = w8.setCell ⟨G, kt, none⟩ (.int .i64 (r : Int))

/-- the variables' places, and those of the terms so far -/
structure PsAt (base g m n : Nat) (T : List Tm) (A : Option Addr) (c G : Nat) (at_ : List Nat) (k : Nat) (B : Option Addr) (d : Nat) (pl : List Nat) (X : World) : Prop where
  vs : VsAt base g m n T A c G at_ X
  pr : X.ownsRow base 3 1 (.slice B k d) k (iv (ni pl))
  ap : ∀ b, (Value.slice B k d).ownBlock = some b → b ≠ G ∧ (Value.slice A T.length c).ownBlock ≠ some b

theorem PsAt.quiet {base g m n c G k d : Nat} {T : List Tm} {A B : Option Addr} {at_ pl : List Nat} {X X' : World} (h : PsAt base g m n T A c G at_ k B d pl X) (hb : Below X.heap.size X X') : PsAt base g m n T A c G at_ k B d pl X' :=
  ⟨h.vs.quiet hb, own_below h.pr hb, h.ap⟩

theorem PsAt.told {base g m n c c' G k d : Nat} {T T' : List Tm} {A A' B : Option Addr} {at_ pl : List Nat} {X X' : World} (h : PsAt base g m n T A c G at_ k B d pl X) (hl : LsAt base g m T' A' c' X') (hk : Kpt g m (Value.slice A T.length c).ownBlock (Value.slice A' T'.length c').ownBlock X X') :
    PsAt base g m n T' A' c' G at_ k B d pl X' := by
  have hgb := hl.gb
  have hmb := hl.mb
  refine ⟨h.vs.told hl hk, hk.row h.pr fun b hb => ?_, fun b hb => ⟨(h.ap b hb).1, hk.apart h.pr (fun b hb => (h.ap b hb).2) b hb⟩⟩
  have := (h.pr.lt b hb).1
  exact ⟨by omega, by omega, (h.ap b hb).2⟩

/-- one more place appended -/
theorem PsAt.app {base g m n c G k d d' : Nat} {T : List Tm} {A B B' : Option Addr} {at_ pl : List Nat} {r : Nat} {X X' : World} (h : PsAt base g m n T A c G at_ k B d pl X) (hown : X'.ownsRow base 3 1 (.slice B' (k + 1) d') (k + 1) (iv (ni pl) ++ [.int .i64 (r : Int)]))
    (hg : X.grownBy X' (Value.slice B k d).ownBlock) (hbl : (Value.slice B' (k + 1) d').ownBlock = (Value.slice B k d).ownBlock ∨ (Value.slice B' (k + 1) d').ownBlock = some X.heap.size) : PsAt base g m n T A c G at_ (k + 1) B' d' (pl ++ [r]) X' := by
  have hlt := h.pr.lt
  have hG := h.vs.vs.lt
  have hgb := h.vs.ls.gb
  have hmb := h.vs.ls.mb
  obtain ⟨f, f1, f2, f3⟩ := h.vs.ls.mp
  have hkeep : ∀ b, b < X.heap.size → (∀ q, (Value.slice B k d).ownBlock = some q → b ≠ q) → X'.heap[b]? = X.heap[b]? := fun b hb hne => hg.block b hb fun e => hne b e.symm rfl
  have hlow : ∀ b, b < base → X.heap.size ≥ base → X'.heap[b]? = X.heap[b]? := fun b hb hs => hkeep b (by omega) fun q hq => by have := (hlt q hq).1; omega
  have hbs : base ≤ X.heap.size := by have := h.vs.gb; omega
  refine ⟨⟨⟨(hlow g hgb hbs).trans h.vs.ls.box, h.vs.ls.row.kept hg ?_, ⟨f, f1.keep (hlow m hmb hbs), f2, f3⟩, hgb, hmb, h.vs.ls.ne⟩, (hkeep G hG fun q hq => fun e => (h.ap q hq).1 e.symm).trans h.vs.vs, h.vs.gb, h.vs.ap⟩, by
    rw [ni_append]; unfold iv at hown ⊢; rw [List.map_append]; exact hown, fun b hb => ?_⟩
  · cases he : (Value.slice A T.length c).ownBlock with
    | none => exact .inl rfl
    | some q => exact .inr fun e => (h.ap q e.symm).2 he
  · rcases hbl with hbl | hbl
    · exact h.ap b (by rw [← hbl]; exact hb)
    · rw [hbl] at hb
      injection hb with hb
      exact ⟨by omega, fun e => by have := (h.vs.ls.row.lt b e).2; omega⟩

theorem Kpt.grown {g m : Nat} {o o' : Option Nat} {X X' X2 X3 : World} {row : Option Nat} (h : Kpt g m o o' X X') (hb : Below X'.heap.size X' X2) (hg : X2.grownBy X3 row) (hr : ∀ q, row = some q → X.heap.size ≤ q) : Kpt g m o o' X X3 := by
  have h1 := h.size
  have h2 := hb.size
  refine ⟨(hg.os.trans hb.os).trans h.os, (hg.tape.trans hb.tape).trans h.tape, (hg.output.trans hb.output).trans h.output, Nat.le_trans h1 (Nat.le_trans h2 hg.size), fun i hi q1 q2 q3 => ?_, h.own⟩
  exact ((hg.block i (by omega) fun e => by have := hr i e.symm; omega).trans (hb.block i (by omega))).trans (h.block i hi q1 q2 q3)

set_option maxHeartbeats 4000000 in
theorem ahead_bad (vars : Int) (A PA : Option Addr) (len cap pl pc : Nat) (code : List St) (post : List Tm) (w : World) (hx : RdS w w.heap.size A code) (hl : code.length = len) (hcap : len ≤ cap) (hm : len * 40 ≤ 140737488351232) (hp : RdT w w.heap.size PA post) (hpl : post.length = pl) (hc : ckW vars code [post] ≠ 0) :
    Calls Try.prog 7 #[.int .i64 vars, .slice A len cap, .slice PA pl pc] w fun e w' => e = .returned (.tuple #[.slice none 0 0, .int .i64 (ckW vars code [post])]) ∧ Below w.heap.size w w' := by
  have HB0 : Hid (Below w.heap.size w (w.alloc (.cells #[.slice PA pl pc] 23))) := Lib.hid (by go_grown)
  have HCK := Lib.hid (weakCheck_any vars A (some ⟨w.heap.size, 0, none⟩) len cap 1 1 code [(post, PA, pc)] (w.alloc (.cells #[.slice PA pl pc] 23)) ((RdS.below hx HB0.out (Nat.le_refl _)).more HB0.out.size) hl hcap hm
    (rdLs_own (t := 23) (by rw [← hpl]; exact Own.new w _ _) (fun x hx => by rw [List.mem_singleton.1 hx]; exact (hp.below HB0.out (Nat.le_refl _)).more HB0.out.size)) rfl (by omega))
  have e1 : (ckW vars code [post] != 0) = true := by simp [hc]
  clear hx hl hp hpl hc
  go_enter Try.func7, Try.ntmps7
  go_wp2_with (go_at_call 18; (with_reducible refine HCK.out.mono ?_); rintro e w1 ⟨rfl, hb1⟩; simp only [List.map_cons, List.map_nil])
  go_returns
  exact ⟨rfl, below_via HB0.out hb1⟩

set_option maxHeartbeats 16000000 in
theorem ahead_any (n : Nat) (A PA : Option Addr) (len cap pl pc : Nat) (code : List St) (post : List Tm) (w : World) (hx : RdS w w.heap.size A code) (hl : code.length = len) (hcap : len ≤ cap) (hm : len * 40 ≤ 140737488351232) (hp : RdT w w.heap.size PA post) (hpl : post.length = pl) (hcp : ckProg n [bkS code] = 0) (hct : ckTerms n post = 0) :
    Calls Try.prog 7 #[.int .i64 n, .slice A len cap, .slice PA pl pc] w fun e w' => ∃ (T : List Tm) (A' : Option Addr) (c' : Nat), e = .returned (.tuple #[.slice A' T.length c', .int .i64 0]) ∧ Ahd n code post T ∧ RdT w' w'.heap.size A' T ∧ Below w.heap.size w w' := by
  have HB0 : Hid (Below w.heap.size w (w.alloc (.cells #[.slice PA pl pc] 23))) := Lib.hid (by go_grown)
  have HW0 : Hid (ckW n code [post] = 0) := Lib.hid (by unfold ckW ckLs; rw [if_pos hcp, if_pos hct]; rfl)
  have HCK := Lib.hid (weakCheck_any n A (some ⟨w.heap.size, 0, none⟩) len cap 1 1 code [(post, PA, pc)] (w.alloc (.cells #[.slice PA pl pc] 23)) ((RdS.below hx HB0.out (Nat.le_refl _)).more HB0.out.size) hl hcap hm
    (rdLs_own (t := 23) (by rw [← hpl]; exact Own.new w _ _) (fun x hx => by rw [List.mem_singleton.1 hx]; exact (hp.below HB0.out (Nat.le_refl _)).more HB0.out.size)) rfl (by omega))
  have HCP := Lib.hid hcp
  have HCT := Lib.hid hct
  have HXS := Lib.hid (fun (Z : World) (hZ : Below w.heap.size w Z) => program_any A len cap code Z ((RdS.below hx hZ (Nat.le_refl _)).more hZ.size) hl hcap)
  have HPR := Lib.hid (fun (Z : World) (hZ : Below w.heap.size w Z) => prune_any n PA pl pc post Z ((hp.below hZ (Nat.le_refl _)).more hZ.size) hpl hct)
  have HPC := Lib.hid (pr_ck hct)
  have HUR : Hid (usesR n (prL post) = usesW (prL post)) := Lib.hid (by unfold usesR; rw [if_pos (pr_ck hct)])
  have HUF := Lib.hid (usesW_fit (pr_ck hct))
  obtain ⟨b1, b2, _⟩ := ckProg_bd hcp
  obtain ⟨ql, hql⟩ : ∃ ql, (prL post).length = ql := ⟨_, rfl⟩
  have HQL := Lib.hid hql
  have hq16 : ql ≤ 16 := by have := (ckTerms_bd (pr_ck hct)).2.2.2; omega
  have hmm := @run_makeMap Try.prog
  clear hx hl hp hpl hcp hct hql
  go_enter Try.func7, Try.ntmps7
  go_upto_region 8 with (first
    | (go_at_call 18; (with_reducible refine HCK.out.mono ?_); rintro e w1 ⟨rfl, hb1⟩; simp only [List.map_cons, List.map_nil]; rw [HW0.out]; have HB1 := Lib.hid (below_via HB0.out hb1); clear hb1)
    | (go_at_call 19; (refine (HPR.out _ HB1.out).mono ?_); rw [HQL.out]; rintro e w2 ⟨A1, c1, rfl, hx1, hb2⟩; have HX1 := Lib.hid hx1; have HB2 := Lib.hid (below_via HB1.out hb2); clear hx1 hb2)
    | (go_at_call 20; (refine (uses_any n A1 ql c1 (prL post) _ HX1.out HQL.out).mono ?_); rw [HUR.out, HPC.out]; rintro e w3 ⟨rfl, hb3⟩; have HX3 := Lib.hid ((HX1.out.below hb3 (Nat.le_refl _)).more hb3.size); have HB3 := Lib.hid (below_via HB2.out hb3); clear hb3)
    | (go_at_call 22; (refine (HXS.out _ HB3.out).mono ?_); rintro e w4 ⟨G, rfl, hp4, hb4⟩; have HP4 := Lib.hid hp4; have HX4 := Lib.hid ((HX3.out.below hb4 (Nat.le_refl _)).more hb4.size); have HB4 := Lib.hid (below_via HB3.out hb4); clear hp4 hb4)
    | (go_at_call 21; (refine (trimIs.trim n (usesW (prL post)) (some ⟨G, 0, none⟩) 1 1 [bkS code] _ HP4.out rfl HCP.out HUF.out).mono ?_); rintro e w5 ⟨A5, c5, p5, rfl, hp5, hcu, hnf, hb5⟩; have HP5 := Lib.hid hp5; have HCU := Lib.hid hcu; have HNF := Lib.hid hnf; have HX5 := Lib.hid ((HX4.out.below hb5 (Nat.le_refl _)).more hb5.size); have HB5 := Lib.hid (below_via HB4.out hb5); clear hp5 hcu hnf hb5)
    | (go_at_call 23; (refine (liveIs.in_ n (usesW (prL post)) A5 1 c5 p5 _ HP5.out (by rw [HCU.out.len]; rfl) (HCU.out.ok HCP.out) HUF.out).mono ?_); rintro e w6 ⟨A6, c6, L, rfl, hr6, hlv, hb6⟩; have HL6 := Lib.hid hr6; have HLV := Lib.hid hlv; have HP6 := Lib.hid ((HP5.out.below hb6 (Nat.le_refl _)).more hb6.size); have HX6 := Lib.hid ((HX5.out.below hb6 (Nat.le_refl _)).more hb6.size); have HB6 := Lib.hid (below_via HB5.out hb6); clear hr6 hlv hb6))
  go_upto_region 9 with fail
  obtain ⟨b, hpb, hbt, hbn, _, hbl⟩ := cuts_one' HCU.out rfl
  rw [hpb] at HCU HNF HLV HP6
  have hbl20 : b.code.length ≤ 20 := by
    obtain ⟨_, _, _, _, h5, _⟩ := ckProg_bd HCP.out
    have : manyS [bkS code] = code.length := by simp [manyS, bkS]
    have : (bkS code).code.length = code.length := rfl
    have : (bkS code).test = -1 := rfl
    omega
  have HBT : Hid (b.test = -1) := Lib.hid (hbt.trans rfl)
  have HBN : Hid (b.th = -1) := Lib.hid (hbn.trans rfl)
  have HOK : Hid (ckProg n [b] = 0) := Lib.hid (HCU.out.ok HCP.out)
  obtain ⟨ad6, W, hA6, hb6, hW0, hc6⟩ := HL6.out.at_ (k := 0) (by rw [HLV.out.len]; simp)
  obtain ⟨ad5, b', Ac, cc, hA5, hb5, hb0, hrs, hc5, _⟩ := HP6.out.atc (k := 0) (by simp)
  simp at hb0
  subst hb0
  have HWB : Hid (∀ v, v < n → (W.testBit v = true ↔ Lv [b] (usesW (prL post)) v (0, 0))) := Lib.hid (HLV.out.bit 0 W hW0)
  have hW32 : W < 4294967296 := want_small (HLV.out.lt 0 W hW0) (by omega)
  subst hA6 hA5
  rw [add_zeroW] at hb6 hc6
  rw [Nat.zero_mul, add_zeroW] at hb5 hc5
  have HC6 := Lib.hid (fun (Z : World) (hZ : Below w6.heap.size w6 Z) => show Z.cell? ad6 = some (.int .u32 (W : Int)) ∧ Z.cell? ad5 = some (.slice Ac b.code.length cc) from ⟨(hZ.cell hb6).trans hc6, (hZ.cell hb5).trans hc5⟩)
  have HRS := Lib.hid (fun (Z : World) (hZ : Below w6.heap.size w6 Z) => (RdS.below hrs hZ (Nat.le_refl _)).more hZ.size)
  obtain ⟨cl, hcl⟩ : ∃ cl, b.code.length = cl := ⟨_, rfl⟩
  have HCL := Lib.hid hcl
  rw [hcl] at hbl20 HC6
  have HL0 : Hid (LsAt (w6.heap.size + 2) (w6.heap.size + 1) w6.heap.size [] none 0 ((w6.alloc (.map #[] 0)).alloc (.cells #[.slice none 0 0, .map (some w6.heap.size)] 61))) := Lib.hid
    ⟨by simpa using Own.new (w6.alloc (.map #[] 0)) 61 [.slice none 0 0, .map (some w6.heap.size)], World.ownsRow_nil _ _ _ _, ⟨fun _ => none, (OwnF.new w6).alloc _, by simp, by simp⟩, by omega, by omega, by omega⟩
  have HBY : Hid (Below w6.heap.size w6 ((w6.alloc (.map #[] 0)).alloc (.cells #[.slice none 0 0, .map (some w6.heap.size)] 61))) := Lib.hid (by go_grown)
  have HSY : Hid (((w6.alloc (.map #[] 0)).alloc (.cells #[.slice none 0 0, .map (some w6.heap.size)] 61)).heap.size = w6.heap.size + 2) := Lib.hid (by simp)
  obtain ⟨Y, hY⟩ : ∃ Y, Y = (w6.alloc (.map #[] 0)).alloc (.cells #[.slice none 0 0, .map (some w6.heap.size)] 61) := ⟨_, rfl⟩
  rw [← hY] at HL0 HBY HSY ⊢
  clear hY hrs hc5 hc6 hpb hbt hbn hbl hmm hcl
  obtain ⟨S6, hS6⟩ : ∃ S6, w6.heap.size = S6 := ⟨_, rfl⟩
  have HS6 := Lib.hid hS6
  rw [hS6] at HL0 HSY hb6 hb5
  simp only [hS6]
  clear hS6
  have hSY := HSY.out
  have HLOW := Lib.hid (fun (o' : Option Nat) (Z : World) (hk : Kpt (S6 + 1) S6 none o' Y Z) => show Below w6.heap.size w6 Z from HBY.out.trans (by rw [HS6.out]; exact hk.below (by omega) (by omega) (fun b h => by cases h) (by omega)))
  have HVA := Lib.hid (variables_any n (S6 + 2) (S6 + 1) S6 W Y HL0.out (by omega) (by omega) (by omega) hW32)
  have d6 := (HC6.out Y HBY.out).1
  clear hSY
  go_upto_region 10 with (go_at_call 24; (refine HVA.out.mono ?_); rintro e w7 ⟨T0, A0, c0, G0, at0, rfl, hwv, hvs, hk0⟩)
  have HWS : Hid (WsI n [b] (usesW (prL post)) b.code 0 T0 at0) := Lib.hid (hwv.done HWB.out)
  have HVS := Lib.hid hvs
  have HK0 := Lib.hid hk0
  have d5 := (HC6.out w7 (HLOW.out _ _ hk0)).2
  have hb57 : ad5.block < w7.heap.size := by have := (HLOW.out _ _ hk0).size; have := HS6.out; omega
  clear hwv hvs hk0 d6
  go_wp2_with fail
  clear d5 hb57
  have hn6 : n ≤ 6 := by omega
  have HCODE : Hid (ckStepsF n n b.code = 0) := Lib.hid (ckProg_at HOK.out (k := 0) rfl).code
  go_loopw [69] (fun i wr => ∃ (k : Nat) (T : List Tm) (A : Option Addr) (c : Nat) (at_ : List Nat), k ≤ cl ∧ i = .int .i64 k ∧ Hid (WsI n [b] (usesW (prL post)) b.code k T at_) ∧ Hid (VsAt (S6 + 2) (S6 + 1) S6 n T A c G0 at_ wr) ∧ Hid (Kpt (S6 + 1) S6 none (Value.slice A T.length c).ownBlock Y wr)) (fun i _ => cl - (intOf i).toNat)
  case atStart => exact ⟨0, T0, A0, c0, at0, Nat.zero_le _, rfl, HWS, HVS, HK0⟩
  case round =>
    obtain ⟨k, T, AT, cT, at_, hk, rfl, HI, HV, HK⟩ := hrel
    have hBlow := HLOW.out _ _ HK.out
    by_cases hlt : k < cl
    · obtain ⟨ad, o, t, a, bb, v, rfl, hbl, hd, hc0, hc1, hc2, hc3, hc4⟩ := (HRS.out wr hBlow).at_ (k := k) (by rw [HCL.out]; exact hlt)
      have hcks := ckStepsF_at HCODE.out hd
      simp only [] at hcks
      obtain ⟨⟨ht0, ht1⟩, hcase⟩ := ckStep_cases hcks
      obtain ⟨tn, rfl⟩ := Int.eq_ofNat_of_zero_le ht0
      have htn : tn < n := by omega
      have HD := Lib.hid hd
      have HCKS := Lib.hid hcks
      have hal : at_.length = n := HI.out.len
      have HRO : Hid (ResOk n T at_ at_ ⟨o, a, bb, v⟩) := Lib.hid (HI.out.resOk rfl hd hcks)
      have hTl : T.length ≤ 100 := by have := HI.out.tl; omega
      have hcase2 : (o = 1 ∧ 0 ≤ v ∧ v < 256) ∨ (o = 2 ∧ 0 ≤ v ∧ v < n) ∨ (3 ≤ o ∧ o ≤ 6 ∧ 0 ≤ a ∧ a < n ∧ 0 ≤ bb ∧ bb < n) := by omega
      have HCS2 := Lib.hid hcase2
      have HX0 : Hid (Own (wr.alloc (.cells #[.int .i64 o, .int .i64 (tn : Int), .int .i64 a, .int .i64 bb, .int .i64 v] 66)) wr.heap.size 66 [.int .i64 o, .int .i64 (tn : Int), .int .i64 a, .int .i64 bb, .int .i64 v]) := Lib.hid (Own.new wr _ _)
      have HBX : Hid (Below wr.heap.size wr (wr.alloc (.cells #[.int .i64 o, .int .i64 (tn : Int), .int .i64 a, .int .i64 bb, .int .i64 v] 66))) := Lib.hid (by go_grown)
      clear hd hcks hcase hcase2 ht0 ht1 hBlow
      go_upto_region 13 with fail
      obtain ⟨Z, hZ⟩ : ∃ Z, Z = wr.alloc (.cells #[.int .i64 o, .int .i64 (tn : Int), .int .i64 a, .int .i64 bb, .int .i64 v] 66) := ⟨_, rfl⟩
      rw [← hZ] at HX0 HBX ⊢
      clear hZ hc0 hc1 hc2 hc3 hc4 hbl
      have HVZ := Lib.hid (HV.out.quiet HBX.out)
      have HKZ : Hid (Kpt (S6 + 1) S6 none (Value.slice AT T.length cT).ownBlock Y Z) := Lib.hid (HK.out.trans (Kpt.of_below _ HBX.out))
      have hsw : S6 + 2 ≤ wr.heap.size := by have := HV.out.vs.lt; have := HV.out.gb; omega
      have HAP : Hid (wr.heap.size ≠ S6 + 1 ∧ wr.heap.size ≠ S6 ∧ (Value.slice AT T.length cT).ownBlock ≠ some wr.heap.size ∧ G0 ≠ wr.heap.size) := Lib.hid ⟨by omega, by omega, fun e => by have := (HV.out.ls.row.lt _ e).2; omega, by have := HV.out.vs.lt; omega⟩
      have hsZ : S6 + 2 ≤ Z.heap.size := Nat.le_trans hsw HBX.out.size
      obtain ⟨s0, hs0⟩ : ∃ s0, wr.heap.size = s0 := ⟨_, rfl⟩
      have HS0 := Lib.hid hs0
      rw [hs0] at HX0 HAP
      simp only [hs0]
      clear hs0 hsw
      have HRES := Lib.hid (fun (Q : World) (hQ : Below Z.heap.size Z Q) => result_any n (S6 + 2) (S6 + 1) S6 T AT cT o a bb v (some ⟨G0, 0, none⟩) (some ⟨G0, 0, none⟩) n n n n at_ at_ Q (HVZ.out.quiet hQ).ls hTl (Nat.le_trans hsZ hQ.size)
        ((OwnI.rd (HVZ.out.quiet hQ).vs).more (HVZ.out.quiet hQ).vs.lt) hal ((OwnI.rd (HVZ.out.quiet hQ).vs).more (HVZ.out.quiet hQ).vs.lt) hal (by omega) (by omega) HRO.out HCS2.out)
      refine wp_region_steps (X := Nat × (Value)) (AtT (S6 + 2) (S6 + 1) S6 s0 G0 tn [.int .i64 o, .int .i64 (tn : Int), .int .i64 a, .int .i64 bb, .int .i64 v] T AT cT (ResT T at_ at_ ⟨o, a, bb, v⟩) Z) (fun x j => doneL [0, 0, 0, 0, 0, 0, 0, 0, 0, 0, 0, 0, 0, 0, 1, 0, 2] x.1 j) (effL [0, 0, 0, 0, 0, 0, 0, 0, 0, 0, 0, 0, 0, 0, 1, 0, 2]) (0, undef) (fun x => [.slice (some ⟨G0, 0, none⟩) n n, .pointer (some ⟨s0, 1, none⟩), .int .i64 (tn : Nat), .pointer (some ⟨s0, 0, none⟩), .int .i64 o, .pointer (some ⟨s0, 2, none⟩), .int .i64 a, .pointer (some ⟨s0, 3, none⟩), .int .i64 bb, .pointer (some ⟨s0, 4, none⟩), .int .i64 v, .agg #[.int .i64 o, .int .i64 a, .int .i64 bb, .int .i64 v], .slice (some ⟨G0, 0, none⟩) n n, .slice (some ⟨G0, 0, none⟩) n n, x.2, .pointer (some ⟨G0, tn, none⟩), undef]) _ (by kernel_rfl) (by kernel_rfl) (by kernel_rfl) (fun x => by simp only [putsD, Act.put, List.setIfInBounds_toArray, List.set_cons_zero, List.set_cons_succ]; exact rfl) h0L ⟨fun _ => HX0.out, below_drewW (Below.refl _ _)⟩ (fun x => ?_) (fun x wz hDz hSz => ?_)
      · refine AllS.val (by rfl) (by rfl) (fun w hSw hPw => by go_simp) ?_
        refine AllS.val (by rfl) (by rfl) (fun w hSw hPw => by go_simp) ?_
        refine AllS.val (by rfl) (by rfl) (fun w hSw hPw => ?_) ?_
        · (try dsimp only at hSw)
          have q0 := (hSw.1 (leW (hPw.not (j := 16) rfl (by kernel_rfl)))).cell (j := 1) rfl
          go_simp
        refine AllS.val (by rfl) (by rfl) (fun w hSw hPw => by go_simp) ?_
        refine AllS.val (by rfl) (by rfl) (fun w hSw hPw => ?_) ?_
        · (try dsimp only at hSw)
          have q0 := (hSw.1 (leW (hPw.not (j := 16) rfl (by kernel_rfl)))).cell (j := 0) rfl
          go_simp
        refine AllS.val (by rfl) (by rfl) (fun w hSw hPw => by go_simp) ?_
        refine AllS.val (by rfl) (by rfl) (fun w hSw hPw => ?_) ?_
        · (try dsimp only at hSw)
          have q0 := (hSw.1 (leW (hPw.not (j := 16) rfl (by kernel_rfl)))).cell (j := 2) rfl
          go_simp
        refine AllS.val (by rfl) (by rfl) (fun w hSw hPw => by go_simp) ?_
        refine AllS.val (by rfl) (by rfl) (fun w hSw hPw => ?_) ?_
        · (try dsimp only at hSw)
          have q0 := (hSw.1 (leW (hPw.not (j := 16) rfl (by kernel_rfl)))).cell (j := 3) rfl
          go_simp
        refine AllS.val (by rfl) (by rfl) (fun w hSw hPw => by go_simp) ?_
        refine AllS.val (by rfl) (by rfl) (fun w hSw hPw => ?_) ?_
        · (try dsimp only at hSw)
          have q0 := (hSw.1 (leW (hPw.not (j := 16) rfl (by kernel_rfl)))).cell (j := 4) rfl
          go_simp
        refine AllS.val (by rfl) (by rfl) (fun w hSw hPw => by go_simp) ?_
        refine AllS.val (by rfl) (by rfl) (fun w hSw hPw => by go_simp) ?_
        refine AllS.val (by rfl) (by rfl) (fun w hSw hPw => by go_simp) ?_
        refine AllS.turn (fun _ _ => rfl) (by rfl) (fun w hSw hPw K hK => ?_) ?_
        · (try dsimp only at hSw)
          have h0 := leW (hPw.me rfl)
          have hx0 : x.1 = 0 := by exact Nat.le_zero.1 h0
          obtain ⟨p, y⟩ := x
          (try dsimp only at hx0)
          subst hx0
          obtain ⟨ho, hq⟩ := hSw
          (try dsimp only at hq ho)
          go_simp
          go_at_call 25
          refine (HRES.out _ hq).mono ?_
          rintro e w7 ⟨T', r, A', c', rfl, hp, hl', hk'⟩
          go_simp
          exact hK (1, .int .i64 (r : Nat)) _ (nxtL rfl (by decide)) ⟨fun _ => hk'.own_ (ho (by decide)) HAP.out.1 HAP.out.2.1 HAP.out.2.2.1, T', r, A', c', rfl, hp, hl', (Kpt.of_below _ hq).trans hk'⟩
        refine AllS.val (by rfl) (by rfl) (fun w hSw hPw => by go_simp) ?_
        refine AllS.turn (fun _ _ => rfl) (by rfl) (fun w hSw hPw K hK => ?_) ?_
        · (try dsimp only at hSw)
          have h0 := leW (hPw.me rfl)
          have h1 := geW (hPw.need (k := 14) rfl (by kernel_rfl))
          have hx0 : x.1 = 1 := Nat.le_antisymm h0 h1
          obtain ⟨p, y⟩ := x
          (try dsimp only at hx0)
          subst hx0
          obtain ⟨_, T', r, A', c', hy, hp, hl', hk'⟩ := hSw
          (try dsimp only at hy)
          subst hy
          have hgo := (HVZ.out.told hl' hk').vs
          have k0 := hgo.cell (iv_at (ni_at (List.getElem?_eq_getElem (show tn < at_.length by omega))))
          have k1 := hgo.frozen tn
          go_simp
          exact hK (2, _) _ (nxtL rfl (by decide)) ⟨fun h => absurd h (by simp), T', r, A', c', w, hp, hl', hk', rfl⟩
        exact AllS.nil
      have hd4 := geW (hDz 16 (by decide) (by decide))
      obtain ⟨p, y⟩ := x
      (try dsimp only at hd4)
      obtain ⟨q, rfl⟩ : ∃ q, p = q + 2 := ⟨p - 2, by simp at hd4; omega⟩
      obtain ⟨_, T', r, A', c', w8, hp, hl', hk', rfl⟩ := hSz
      have HI2 : Hid (WsI n [b] (usesW (prL post)) b.code (k + 1) T' (at_.set tn r)) := Lib.hid (HI.out.step rfl HD.out HCKS.out HNF.out hp)
      have HV2 : Hid (VsAt (S6 + 2) (S6 + 1) S6 n T' A' c' G0 (at_.set tn r) (w8.setCell ⟨G0, tn, none⟩ (.int .i64 (r : Int)))) := Lib.hid (HVZ.out.put hl' hk')
      have HK2 : Hid (Kpt (S6 + 1) S6 none (Value.slice A' T'.length c').ownBlock Y (w8.setCell ⟨G0, tn, none⟩ (.int .i64 (r : Int)))) := Lib.hid ((HKZ.out.trans hk').setNew (p := ⟨G0, tn, none⟩) (by rw [HSY.out]; exact HV.out.gb) _)
      clear hDz hd4 hp hl' hk'
      go_wp2
      go_round
      case rel => exact ⟨k + 1, T', A', c', at_.set tn r, by omega, by go_num, HI2, HV2, HK2⟩
      case measure => (simp [intOf]; omega)
    · have hkc : k = cl := by omega
      subst hkc
      have HP0 : Hid (WpI n b.code (usesW (prL post)) (prL post) at_ 0 T []) := Lib.hid (WsI.done (by rw [HCL.out]; exact HI.out) rfl HBT.out HBN.out)
      have HS0 : Hid (PsAt (S6 + 2) (S6 + 1) S6 n T AT cT G0 at_ 0 none 0 [] wr) := Lib.hid ⟨HV.out, World.ownsRow_nil _ _ _ _, fun b h => by cases h⟩
      have HKL := HK
      have hal : at_.length = n := HI.out.len
      have HAL := Lib.hid hal
      have HXQ := Lib.hid (fun (Q : World) (hQ : Below w6.heap.size w6 Q) => (HX6.out.below hQ (Nat.le_refl _)).more hQ.size)
      clear hal hBlow HI HV HK hk
      obtain ⟨wo, rfl⟩ : ∃ wo : World, wo = wr := ⟨_, rfl⟩
      obtain ⟨T1, rfl⟩ : ∃ T1 : List Tm, T1 = T := ⟨_, rfl⟩
      obtain ⟨A2, rfl⟩ : ∃ A2 : Option Addr, A2 = AT := ⟨_, rfl⟩
      go_wp2_with fail
      go_loopw [19, 92] (fun s i wr => ∃ (k : Nat) (T : List Tm) (A : Option Addr) (c : Nat) (pl : List Nat) (B : Option Addr) (d : Nat), k ≤ ql ∧ i = .int .i64 k ∧ s = .slice B k d ∧ Hid (WpI n b.code (usesW (prL post)) (prL post) at_ k T pl) ∧ Hid (PsAt (S6 + 2) (S6 + 1) S6 n T A c G0 at_ k B d pl wr) ∧ Hid (Kpt (S6 + 1) S6 none (Value.slice A T.length c).ownBlock Y wr)) (fun _ i _ => ql - (intOf i).toNat)
      case atStart => exact ⟨0, T1, A2, cT, [], none, 0, Nat.zero_le _, rfl, rfl, HP0, HS0, HKL⟩
      case round =>
        obtain ⟨k, T, AT, cT, pl, B, d, hk, rfl, rfl, HI, HV, HK⟩ := hrel
        have hBlow := HLOW.out _ _ HK.out
        by_cases hlt : k < ql
        · obtain ⟨ad, o, a, bb, v, rfl, hbl, hd, hc0, hc1, hc2, hc3⟩ := (HXQ.out wr hBlow).at_ (k := k) (by rw [HQL.out]; exact hlt)
          have hcase := ckTerm_cases (ckTerms_at HPC.out hd)
          simp only [] at hcase
          have HD := Lib.hid hd
          have hpl : pl.length = k := HI.out.len
          have HRO : Hid (ResOk n T at_ pl ⟨o, a, bb, v⟩) := Lib.hid (HI.out.resOk HPC.out (fun r hr => pr_all HCT.out hr) hd)
          have hTl : T.length ≤ 100 := by have := HI.out.tl; rw [HCL.out] at this; omega
          have hcase2 : (o = 1 ∧ 0 ≤ v ∧ v < 256) ∨ (o = 2 ∧ 0 ≤ v ∧ v < n) ∨ (3 ≤ o ∧ o ≤ 6 ∧ 0 ≤ a ∧ a < k ∧ 0 ≤ bb ∧ bb < k) := by omega
          have HBX : Hid (Below wr.heap.size wr (wr.alloc (.cells #[.int .i64 o, .int .i64 a, .int .i64 bb, .int .i64 v] 31))) := Lib.hid (by go_grown)
          have hsw : S6 + 2 ≤ wr.heap.size := by have := HV.out.vs.vs.lt; have := HV.out.vs.gb; omega
          have HSW := Lib.hid hsw
          have HRES := Lib.hid (fun (Q : World) (hQ : Below wr.heap.size wr Q) => result_any n (S6 + 2) (S6 + 1) S6 T AT cT o a bb v (some ⟨G0, 0, none⟩) B n n k d at_ pl Q (HV.out.quiet hQ).vs.ls hTl (Nat.le_trans hsw hQ.size)
            ((OwnI.rd (HV.out.quiet hQ).vs.vs).more (HV.out.quiet hQ).vs.vs.lt) HAL.out (own_rdI (HV.out.quiet hQ).pr (by unfold ni; rw [List.length_map]; exact hpl)) hpl (by omega) (by omega) HRO.out hcase2)
          have h63 : k + 1 ≤ maxLen := by unfold maxLen; omega
          have hbig : (k + 1) * 8 ≤ 140737488355328 := by omega
          clear hd hcase hcase2 hBlow hsw hpl
          go_wp2_with (first
            | (go_at_call 25; (refine (HRES.out _ HBX.out).mono ?_); rintro e w8 ⟨T', r, A', c', rfl, hp, hl', hk'⟩; have HPP := Lib.hid hp; have HV8 := Lib.hid ((HV.out.quiet HBX.out).told hl' hk'); have HK8 := Lib.hid ((HK.out.trans (Kpt.of_below _ HBX.out)).trans hk'); have hs8 : S6 + 2 ≤ w8.heap.size := Nat.le_trans (Nat.le_trans HSW.out HBX.out.size) hk'.size; clear hp hl' hk')
            | (at_builtin; refine wpList_app' rfl (.tmp 96) (.tmp 101) 24 rfl (S6 + 2) 3 1 8 int_app _ rfl (HV8.out.quiet (by go_grown)).pr [.int .i64 (r : Nat)] rfl rfl (fun h => by cases h) (cells_at rfl _ _) (one_cell _) h63 hbig (by simp; omega) ?_; intro B' d' w9 hown9 hg9 hb9 hbl9; have HV9 := Lib.hid ((HV8.out.quiet (by go_grown)).app hown9 hg9 hbl9); have HK9 := Lib.hid (HK8.out.grown (by go_grown) hg9 (fun q hq => by rw [HSY.out]; exact (HV.out.pr.lt q hq).1)); clear hown9 hg9 hb9 hbl9))
          go_round
          case rel => exact ⟨k + 1, T', A', c', pl ++ [r], B', d', by omega, by go_num, rfl, Lib.hid (HI.out.step HPC.out (fun r hr => pr_all HCT.out hr) HD.out HPP.out), HV9, HK9⟩
          case measure => (simp [intOf]; omega)
        · have hkq : k = ql := by omega
          subst hkq
          have HAH : Hid (Ahd n code post T) := Lib.hid (ahd_of HCP.out HCT.out HCU.out HBT.out HBN.out (by rw [HQL.out]; exact HI.out))
          have HRT := Lib.hid (own_rdT HV.out.vs.ls.row rfl)
          have d0 := HV.out.vs.ls.box.cell (j := 0) rfl
          have hgl := HV.out.vs.ls.box.lt
          have HBF := Lib.hid (HB6.out.trans (hBlow.mono HB6.out.size))
          clear hBlow HI HV HK
          go_wp2
          go_returns
          exact ⟨T, AT, cT, rfl, HAH.out, HRT.out, HBF.out⟩

end Go.Proofs.Ytggekjccblblpaa
