/-
  Several texts in one: SnBuild, SnMadeIs.
-/
import Derived.Test.YtgcjknibelfjbaaMFill
import Derived.Test.YtgcjknibelfjbaaMJoin
import Derived.Test.YtgcjknibelfjbaaSnFrom
import Derived.Test.YtgcjknibelfjbaaMRule
import Derived.Test.YtgcjknibelfjbaaMBlock
import Derived.Test.YtgcjknibelfjbaaLawBlock
import Derived.Test.YtgcjknibelfjbaaSingleFrom

/-
  single.Build: a program over names, in static single assignment form (M3).
-/

namespace Go.Proofs.Ytgcjknibelfjbaa
open Go.RowKit
set_option linter.unusedSimpArgs false
set_option linter.unusedVariables false
set_option maxRecDepth 100000

/-- what Build gives -/
def Made (n : Nat) (p : List Bk) (L : List Sg) : Prop := ∃ ts jv sw l t T, Ssa n p ts jv sw ∧ T ≤ 128 ∧ Bt n p.length ts jv p l t T ∧ L = fillL l (frG (nxP p)) jv

theorem ssa_of {n : Nat} {p : List Bk} {ts : List Int} {sw : Nat → Nat} {g : Nat → Nat → Bool} (hc : ckProg n p = 0) (hT : Tre (nxP p) ts) (hg : JvG (nxP p) p sw g) : Ssa n p ts (jvA g n p.length) sw := by
  refine ⟨hc, fun i hi => ?_, fun i => ?_, fun i v hi => ?_, fun i v hv => ?_, fun v i => (hg.swB v).2 i⟩
  · have hl : i < ts.length := by rw [hT.len, nx_len]; exact hi
    rw [List.getD_eq_getElem?_getD, List.getElem?_eq_getElem hl]
    exact hT.at_ i _ (List.getElem?_eq_getElem hl)
  · by_cases h : i < p.length
    · rw [jvA_at h]
      exact jvL_nodup _ _ _
    · rw [jvA_out h]
      exact List.nodup_nil
  · rw [jvA_at hi, jvL_mem, hg.gB]
  · by_cases h : i < p.length
    · rw [jvA_at h] at hv
      exact (jvL_mem.1 hv).1
    · rw [jvA_out h] at hv
      cases hv

/-- so many blocks named -/
structure BuI (n : Nat) (p : List Bk) (ts : List Int) (jv : List (List Nat)) (l0 : List Sg) (m : Nat) (l : List Sg) (T : Nat) : Prop where
  run : bldF n ts jv p ((ordS (nxP p)).drop m) l T = bldF n ts jv p (ordS (nxP p)) l0 n
  len : l.length = p.length
  lst : ∀ r ∈ (ordS (nxP p)).take m, (l.getD r sg0).last.length = n

theorem BuI.zero {n : Nat} {p : List Bk} {ts : List Int} {jv : List (List Nat)} {l0 : List Sg} (h : l0.length = p.length) : BuI n p ts jv l0 0 l0 n := ⟨rfl, h, fun r hr => absurd hr (by simp)⟩

theorem BuI.step {n m T i : Nat} {p : List Bk} {ts : List Int} {jv : List (List Nat)} {l0 l : List Sg} (h : BuI n p ts jv l0 m l T) (hi : (ordS (nxP p))[m]? = some i) (hil : i < p.length) (hb : (bef n ts l i).length = n) :
    BuI n p ts jv l0 (m + 1) (l.set i (nmB (jv.getD i []) (p.getD i bk0) (bef n ts l i) T)) (T + szB jv p i) := by
  refine ⟨?_, by simpa using h.len, fun r hr => ?_⟩
  · rw [← h.run, drop_at hi]
    rfl
  · rw [List.take_add_one, hi, Option.toList_some, List.mem_append, List.mem_singleton] at hr
    by_cases e : i = r
    · subst e
      rw [List.getD_eq_getElem?_getD, List.getElem?_set_self (by rw [h.len]; exact hil)]
      show (cdF _ _ (jnF _ _ _)).length = n
      rw [cdF_len, jnF_len]
      exact hb
    · rw [List.getD_eq_getElem?_getD, List.getElem?_set_ne e, ← List.getD_eq_getElem?_getD]
      rcases hr with hr | hr
      · exact h.lst r hr
      · exact absurd hr.symm e

theorem BuI.bef {n m T i : Nat} {p : List Bk} {ts : List Int} {jv : List (List Nat)} {l0 l : List Sg} {sw : Nat → Nat} (h : BuI n p ts jv l0 m l T) (hS : Ssa n p ts jv sw) (hi : (ordS (nxP p))[m]? = some i) : (bef n ts l i).length = n := by
  have hw : ckWay (nxP p) = 0 := nxP_way hS.ck
  have hsplit : ordS (nxP p) = (ordS (nxP p)).take m ++ i :: (ordS (nxP p)).drop (m + 1) := by
    rw [← drop_at hi, List.take_append_drop]
  unfold Go.Proofs.Ytgcjknibelfjbaa.bef
  split
  · simp [ni]
  · rename_i hne
    rcases ordS_par hw (fun i hi => hS.tree i (by rw [← nx_len p]; exact hi)) hsplit with h1 | ⟨d, hd, h1⟩
    · exact absurd h1 hne
    · rw [h1, Int.toNat_natCast]
      exact h.lst d hd

theorem BuI.names {n m T : Nat} {p : List Bk} {ts : List Int} {jv : List (List Nat)} {l0 l : List Sg} (h : BuI n p ts jv l0 m l T) (hT : (bldF n ts jv p (ordS (nxP p)) l0 n).2 ≤ 128) : T ≤ 128 := by
  rw [← h.run, bldF_snd] at hT
  omega

theorem BuI.done {n m T : Nat} {p : List Bk} {ts : List Int} {jv : List (List Nat)} {l0 l : List Sg} (h : BuI n p ts jv l0 m l T) (hm : (ordS (nxP p)).length ≤ m) : (bldF n ts jv p (ordS (nxP p)) l0 n).1 = l := by
  rw [← h.run, List.drop_of_length_le hm]
  rfl

theorem frG_ok {nx : List (List Int)} {len r : Nat} {row : List Int} (hl : nx.length = len) (h8 : len ≤ 8) (h : (frG nx)[r]? = some row) : row.length ≤ 9 ∧ ∀ f ∈ row, f = -1 ∨ (0 ≤ f ∧ f < len) := by
  refine ⟨?_, fun f hf => ?_⟩
  · rw [frG_row h, List.length_append]
    have h1 : (if r = 0 then [-1] else [] : List Int).length ≤ 1 := by split <;> simp
    have h2 := List.length_filter_le (fun i => decide (r ∈ sc nx i)) (List.range nx.length)
    rw [List.length_range] at h2
    have h3 : (ni ((List.range nx.length).filter fun i => decide (r ∈ sc nx i))).length = ((List.range nx.length).filter fun i => decide (r ∈ sc nx i)).length := by simp [ni]
    omega
  · rcases (frG_mem h).1 hf with ⟨_, rfl⟩ | ⟨i, rfl, hi, _⟩
    · exact .inl rfl
    · exact .inr ⟨by omega, by omega⟩

set_option maxHeartbeats 16000000 in
theorem build_any (n : Nat) (A : Option Addr) (len cap : Nat) (p : List Bk) (w : World) (hx : RdP w w.heap.size A p) (hl : p.length = len) (hc : ckProg n p = 0) :
    Calls Try.prog 16 #[.int .i64 n, .slice A len cap] w fun e w' => ∃ g L, Made n p L ∧ L.length = len ∧ e = .returned (.tuple #[.slice (some ⟨g, 0, none⟩) len len, .int .i64 0]) ∧ RdN w' w'.heap.size (some ⟨g, 0, none⟩) L ∧ Below w.heap.size w w' := by
  obtain ⟨c1, c2, c3, c4, c5, c6⟩ := ckProg_bd hc
  obtain ⟨sw, gf, hjvg⟩ := jvG_ex (nxP p) p
  have hw : ckWay (nxP p) = 0 := nxP_way hc
  have HX := Lib.hid hx
  have HL := Lib.hid hl
  have HC := Lib.hid hc
  have HJV := Lib.hid hjvg
  have HWAY := Lib.hid (blockWay_any n A len cap p w hx hl hc)
  have hnl : (nxP p).length = len := by rw [nx_len, hl]
  have HTREE := Lib.hid (fun (A1 : Option Addr) (c1 : Nat) (Z : World) (h : RdG Z Z.heap.size A1 (nxP p)) => ruleTree_any A1 len c1 (nxP p) Z h hnl hw)
  have HORD := Lib.hid (fun (A1 : Option Addr) (c1 : Nat) (Z : World) (h : RdG Z Z.heap.size A1 (nxP p)) => blocksInTurn_any A1 len c1 (nxP p) Z h hnl hw)
  have HSRC := Lib.hid (fun (A1 : Option Addr) (c1 : Nat) (Z : World) (h : RdG Z Z.heap.size A1 (nxP p)) => sourcesO_any A1 len c1 (nxP p) Z h hnl hw (nxP_nodup hw))
  have hco : ∀ b ∈ p, b.code.length ≤ 20 := fun b hb => by
    obtain ⟨k, hk, rfl⟩ := List.getElem_of_mem hb
    have := manyS_le (List.getElem?_eq_getElem hk)
    omega
  have HCO := Lib.hid hco
  have HNL := Lib.hid hnl
  have HW := Lib.hid hw
  have HBK := Lib.hid (fun (i : Nat) (b : Bk) (h : p[i]? = some b) => ckProg_at hc h)
  rw [hl] at c3 c4
  obtain ⟨jv, hjve⟩ : ∃ jv, jvA gf n len = jv := ⟨_, rfl⟩
  have HJ := Lib.hid (fun (A1 : Option Addr) (c1 : Nat) (Z : World) (h : RdP Z Z.heap.size A p) (h2 : RdG Z Z.heap.size A1 (nxP p)) => joinedVars_any n A A1 len cap c1 p (nxP p) sw gf Z h h2 hl hnl hw (by omega) hco hjvg)
  rw [hjve] at HJ
  have HJVE : Hid (jvA gf n p.length = jv) := Lib.hid (by rw [hl]; exact hjve)
  have HJL : Hid (jv.length = len) := Lib.hid (by rw [← hjve]; simp [jvA])
  have hmk := make_singles (P := Try.prog) 22 43 Try.underlying22 (by kernel_rfl) len (by omega)
  clear hx hl hc hjvg hw hnl hco hjve c5 c6
  go_enter Try.func16, Try.ntmps16
  go_wp2_with fail
  refine HWAY.out.mono ?_
  rintro e w1 ⟨A1, k1, rfl, hg1, hb1⟩
  have hs1 := hb1.size
  go_wp2_with fail
  refine (HTREE.out A1 k1 _ hg1).mono ?_
  rintro e w2 ⟨ts, A2, k2, hT, rfl, hts, hb2⟩
  have hb02 := hb1.trans (hb2.mono hs1)
  have hs2 := hb2.size
  have hS := ssa_of HC.out hT HJV.out
  rw [HJVE.out] at hS
  have HS := Lib.hid hS
  have HG2 := Lib.hid ((hg1.below hb2 (Nat.le_refl _)).more hs2)
  have HTS := Lib.hid hts
  have HX2 := Lib.hid (HX.out.below hb02 (Nat.le_refl _))
  have HTL : Hid (ts.length = len) := Lib.hid (by rw [hT.len, HNL.out])
  have hsz02 := hb02.size
  clear hg1 hT hts hS HWAY HTREE HJV
  go_wp2
  refine wp_region_steps (X := BdX × Option (Nat × Nat)) (fun x w => BdT w2 len n (jv.map ni) x w) bdD bdE (⟨none, none, none, false⟩, none) (fun x => [.int .i64 n, .slice A len cap, .slice A1 len k1, .slice (some ⟨(x.1.j.getD (0, 0, [])).1, 0, none⟩) len len, .slice A len cap, .int .i64 len, .slice (some ⟨x.1.g.getD 0, 0, none⟩) len len, .int .i64 n, .agg #[.slice (some ⟨(x.2.getD (0, 0)).1, 0, none⟩) len len, .slice (some ⟨(x.2.getD (0, 0)).2, 0, none⟩) len len, .int .i64 n], .pointer (some ⟨x.1.b.getD 0, 0, none⟩), undef]) _ (by kernel_rfl) (by kernel_rfl) (by kernel_rfl) (fun x => by simp only [putsD, Act.put, List.setIfInBounds_toArray, List.set_cons_zero, List.set_cons_succ]; exact rfl) bdH0 BdT.start (fun x => ?_) (fun x wz hDz hSz => ?_)
  · refine AllS.val (by rfl) (by rfl) (fun w hSw hPw => by go_simp) ?_
    refine AllS.val (by rfl) (by rfl) (fun w hSw hPw => by go_simp) ?_
    refine AllS.val (by rfl) (by rfl) (fun w hSw hPw => by go_simp) ?_
    refine AllS.turn (fun _ _ => rfl) (by rfl) (fun w hSw hPw K hK => ?_) ?_
    · (try dsimp only at hSw)
      have h0 := hPw.me rfl
      go_simp
      go_at_call 44
      (with_reducible refine (HJ.out A1 k1 _ ((HX2.out.more hsz02).below hSw.bs.bel (Nat.le_refl _) |>.more hSw.bs.bel.size) ((HG2.out.below hSw.bs.bel (Nat.le_refl _)).more hSw.bs.bel.size)).mono ?_)
      rintro e w5 ⟨cs, rfl, hro, hb5⟩
      go_simp
      obtain ⟨ht, hn⟩ := hSw.call h0 hb5 hro
      exact hK _ _ hn ht
    refine AllS.val (by rfl) (by rfl) (fun w hSw hPw => by go_simp) ?_
    refine AllS.val (by rfl) (by rfl) (fun w hSw hPw => by go_simp) ?_
    refine AllS.turn (fun _ _ => rfl) (by rfl) (fun w hSw hPw K hK => ?_) ?_
    · (try dsimp only at hSw)
      have h0 := hPw.me rfl
      obtain ⟨ht, hn⟩ := hSw.make h0
      go_simp
      exact hK _ _ hn ht
    refine AllS.val (by rfl) (by rfl) (fun w hSw hPw => by go_simp) ?_
    refine AllS.turn (fun _ _ => rfl) (by rfl) (fun w hSw hPw K hK => ?_) ?_
    · (try dsimp only at hSw)
      have h0 := hPw.me rfl
      obtain ⟨ht, hn⟩ := hSw.agg h0 (hPw.need (k := 3) rfl (by kernel_rfl)) (hPw.need (k := 6) rfl (by kernel_rfl))
      go_simp
      exact hK _ _ hn ht
    refine AllS.turn (fun _ _ => rfl) (by rfl) (fun w hSw hPw K hK => ?_) ?_
    · (try dsimp only at hSw)
      have h0 := hPw.me rfl
      obtain ⟨ht, hn⟩ := hSw.build h0
      go_simp
      exact hK _ _ hn ht
    refine AllS.turn (fun _ _ => rfl) (by rfl) (fun w hSw hPw K hK => ?_) ?_
    · (try dsimp only at hSw)
      have h0 := hPw.me rfl
      obtain ⟨⟨b, eb, hob⟩, ht, hn⟩ := hSw.store h0 (hPw.need (k := 8) rfl (by kernel_rfl)) (hPw.need (k := 9) rfl (by kernel_rfl))
      obtain ⟨⟨xj, xg, xb, xs⟩, xm⟩ := x
      (try dsimp only at eb)
      subst eb
      have z0 := hob.cell (j := 0) rfl
      have z1 := hob.cell (j := 1) rfl
      have z2 := hob.cell (j := 2) rfl
      have f0 := hob.frozen 0
      have f1 := hob.frozen 1
      have f2 := hob.frozen 2
      go_simp
      exact hK _ _ hn ht
    exact AllS.nil
  obtain ⟨bb, G, g, H, cs, eb, hO, hgO, hgb, hg2, hbb2, hbel, w5, hro, rfl, hHw, hsame, hgG, hbG⟩ := hSz.done (fun j hj => hDz j (by rcases bdE_cases hj with rfl | rfl | rfl | rfl | rfl <;> simp) hj)
  obtain ⟨⟨xj, xg, xb, xs⟩, xm⟩ := x
  (try dsimp only at eb)
  subst eb
  clear hSz hDz
  have HO := Lib.hid hO
  have HGO := Lib.hid hgO
  have HRO := Lib.hid hro
  have HSAME := Lib.hid hsame
  have hOl := hO.lt
  have hgOl := hgO.lt
  clear hO hgO hro hsame HJ
  simp only [Option.getD_some]
  go_wp2_with fail
  refine (HORD.out A1 k1 _ ((HG2.out.below hbel (Nat.le_refl _)).more hbel.size)).mono ?_
  rintro e w6 ⟨A3, k3, rfl, hord, hb6⟩
  have hs6 := hb6.size
  have hsb := hbel.size
  obtain ⟨S, hSe⟩ : ∃ S, w6.heap.size = S := ⟨_, rfl⟩
  have HHELD : Hid (∀ i, i < len → RowHeld (fun k => k = g ∨ k = bb ∨ S ≤ k) w6 (some ⟨G, 0, none⟩) i (jv.getD i [])) := Lib.hid fun i hi =>
    rowHeld_of HRO.out (by omega) (fun k h1 h2 => (hb6.block k (by omega)).trans (HSAME.out k h1 h2)) (fun k h1 h2 hp => by rcases hp with hp | hp | hp <;> omega) (by rw [HJL.out]; exact hi)
  have HRDO : Hid (∀ X, WrP (fun k => k = g ∨ k = bb ∨ S ≤ k) w6 X → RdI X X.heap.size A3 (ni (ordS (nxP p)))) := Lib.hid fun X hX => by
    have hol : (ni (ordS (nxP p))).length = len := by
      have := hord.1
      simpa [iv] using this
    exact own_rdI (hX.row hord (fun q hq => by have := hord.lt q hq; omega)) hol
  have HOL : Hid ((ordS (nxP p)).length = len) := Lib.hid (by
    have := hord.1
    simpa [iv, ni] using this)
  have HNM6 : Hid (∀ F, NmG w6 g S F (List.replicate len (nq0 S))) := Lib.hid fun F => NmG.start (HGO.out.below hb6 hgOl) (by omega) (by omega)
  have HO6 := Lib.hid (HO.out.below hb6 hOl)
  have hbel6 := hbel.trans (hb6.mono hsb)
  obtain ⟨l0, hl0⟩ : ∃ l0, (List.replicate len (nq0 S)).map Nq.sg = l0 := ⟨_, rfl⟩
  have hl0l : l0.length = p.length := by rw [← hl0, HL.out]; simp
  obtain ⟨t, TT, hT128, hTe, hBt⟩ := build_bt HS.out hl0l
  have HTE := Lib.hid hTe
  have HBT := Lib.hid hBt
  have HL0 := Lib.hid hl0
  have HBU0 := Lib.hid (BuI.zero (n := n) (ts := ts) (jv := jv) hl0l)
  clear hord hl0 hl0l hTe hBt HO HGO HRO HSAME HORD
  go_wp2
  go_loopw [40] (fun z wr => ∃ (m T : Nat) (qs : List Nq), m ≤ len ∧ z = .int .i64 m ∧ BuI n p ts jv l0 m (qs.map Nq.sg) T ∧ (∀ F, NmG wr g S F qs) ∧ Own wr bb 87 [.slice (some ⟨G, 0, none⟩) len len, .slice (some ⟨g, 0, none⟩) len len, .int .i64 T] ∧ WrP (fun k => k = g ∨ k = bb ∨ S ≤ k) w6 wr ∧ (∀ (r : Nat) (u : Nq), qs[r]? = some u → ∀ x ∈ u.js, x.2 = (none, 0) ∧ x.1.fr = [])) (fun z _ => len - (intOf z).toNat)
  case atStart => exact ⟨0, n, _, Nat.zero_le _, rfl, by rw [HL0.out]; exact HBU0.out, HNM6.out, HO6.out, WrP.of_below (Below.refl _ _), fun r u hu x hx => by
      rw [List.getElem?_replicate] at hu
      split at hu
      · injection hu with hu
        subst hu
        exact absurd hx (by simp [nq0])
      · cases hu⟩
  case round =>
    obtain ⟨m, T, qs, hm, rfl, hbu, hnm, hbo, hwr, hjz⟩ := hrel
    have HBU := Lib.hid hbu
    have HNM := Lib.hid hnm
    have HBO := Lib.hid hbo
    have HWR := Lib.hid hwr
    have HJZ := Lib.hid hjz
    have hwsz := hwr.size
    have hbr := hbo.lt
    have hgr := (hnm 0).own.lt
    have hqsl : qs.length = len := by
      have := hbu.len
      rw [List.length_map, HL.out] at this
      exact this
    have hb2r : Below w2.heap.size w6 wr := hwr.below (fun k hk => by omega) (by omega)
    have hB2 : Below w2.heap.size w2 wr := hbel6.trans hb2r
    have qb := hbo.cell (j := 1) rfl
    by_cases hmt : m < len
    · obtain ⟨ad, xi, rfl, hbl1, hxi, hci⟩ := (HRDO.out wr hwr).at_ (k := m) (by simp only [ni, List.length_map]; rw [HOL.out]; exact hmt)
      obtain ⟨i, rfl, hi⟩ := ni_get hxi
      have hil : i < len := by
        have := (ordS_mem HW.out i).1 (List.mem_of_getElem? hi)
        rwa [HNL.out] at this
      obtain ⟨ad2, tv, rfl, hbl2, htv, hct⟩ := (HTS.out.below hB2 (Nat.le_refl _)).at_ (k := i) (by rw [HTL.out]; exact hil)
      obtain ⟨ad3, ⟨co, te, th, el⟩, Ac, cc, rfl, hbl3, hd, hrc, e0, e1, e2, e3, hcc⟩ := (HX2.out.below hB2 hsz02).atc (k := i) (by rw [HL.out]; exact hil)
      have hbk := HBK.out i _ hd
      have hgd : p.getD i bk0 = ⟨co, te, th, el⟩ := by rw [List.getD_eq_getElem?_getD, hd]; rfl
      simp only [] at e0 e1 e2 e3 hrc hcc
      have hclen := HCO.out _ (List.mem_of_getElem? hd)
      simp only [] at hclen
      obtain ⟨cl, hcl⟩ : ∃ cl, co.length = cl := ⟨_, rfl⟩
      rw [hcl] at e0 hcc hclen
      have hbef := hbu.bef HS.out hi
      have hTn := hbu.names (by rw [HTE.out]; exact hT128)
      have hstep := hbu.step hi (by rw [HL.out]; exact hil) hbef
      rw [hgd] at hstep
      have hszb : szB jv p i = (jv.getD i []).length + cl := by unfold szB; rw [hgd, hcl]
      rw [hszb] at hstep
      have hjl6 : (jv.getD i []).length ≤ 6 := by
        have := nodup_len (n := n) (HS.out.jn i) fun x hx => HS.out.jl i x hx
        omega
      have HCALL := Lib.hid (fun (LA : Option Addr) (lc : Nat) (Z : World) (hZ : Below wr.heap.size wr Z) (be : List Int) (hbe : be = bef n ts (qs.map Nq.sg) i) (h : RdI Z Z.heap.size LA be) =>
        nameBlock_any n T g bb w.heap.size i len len (some ⟨G, 0, none⟩) (jv.getD i []) qs co Ac cl cc te th el LA lc be Z (hbo.below hZ hbr) ((hnm 0).own.below hZ hgr) hgb hqsl hil c4
          ((HHELD.out i hil).sub (hwr.andThen (hZ.mono hwsz)) (fun k hk => .inr (.inl hk))) (fun v hv => HS.out.jl i v hv) hjl6 (hrc.below (hZ.mono (by omega)) (Nat.le_refl _)) (by omega) hcl hclen hcc hbk.code hbk.test h (by rw [hbe]; exact hbef) (by omega) (by omega) (by omega))
      have HREL : Hid (∀ (Z w8 : World) (q : Nq), Below wr.heap.size wr Z → q.sg = nmB (jv.getD i []) ⟨co, te, th, el⟩ (bef n ts (qs.map Nq.sg) i) T → q.lo = Z.heap.size → (∀ S F, S ≤ Z.heap.size → RowQ w8 S F q) → (∀ x ∈ q.js, x.2 = (none, 0) ∧ x.1.fr = []) →
          Own w8 g 43 (rv cNq (qs.set i q)) → Own w8 bb 87 [.slice (some ⟨G, 0, none⟩) len len, .slice (some ⟨g, 0, none⟩) len len, .int .i64 ((T + ((jv.getD i []).length + cl) : Nat) : Int)] → WrP (fun k => k = g ∨ k = bb) Z w8 →
          ∃ (T' : Nat) (qs' : List Nq), BuI n p ts jv l0 (m + 1) (qs'.map Nq.sg) T' ∧ (∀ F, NmG w8 g S F qs') ∧ Own w8 bb 87 [.slice (some ⟨G, 0, none⟩) len len, .slice (some ⟨g, 0, none⟩) len len, .int .i64 T'] ∧ WrP (fun k => k = g ∨ k = bb ∨ S ≤ k) w6 w8 ∧ (∀ (r : Nat) (u : Nq), qs'[r]? = some u → ∀ x ∈ u.js, x.2 = (none, 0) ∧ x.1.fr = [])) := Lib.hid fun Z w8 q hZ y1 y2 y3 y4 y5 y6 y7 => by
        have hzs := hZ.size
        refine ⟨_, qs.set i q, ?_, fun F => ((hnm F).quiet hZ).put y7 (fun k hk => by omega) y5 (by omega) (y3 S F (by omega)) (by omega), y6, (hwr.andThen (hZ.mono hwsz)).trans (y7.imp fun k hk => by omega), fun r u hu => ?_⟩
        · rw [List.map_set, y1]
          exact hstep
        · by_cases e : i = r
          · subst e
            rw [List.getElem?_set_self (by omega)] at hu
            injection hu with hu
            subst hu
            exact y4
          · rw [List.getElem?_set_ne e] at hu
            exact hjz r u hu
      have hgt : ts.getD i (-1) = tv := by rw [List.getD_eq_getElem?_getD, htv]; rfl
      have HTR := Lib.hid (HS.out.tree i (by rw [HL.out]; exact hil))
      have HLD : Hid (∀ Z : World, Below wr.heap.size wr Z → Z.cell? (ad2.add i) = some (.int .i64 tv) ∧ Z.cell? ⟨bb, 1, none⟩ = some (.slice (some ⟨g, 0, none⟩) len len) ∧ Z.cell? (ad3.add (i * 4)) = some (.slice Ac cl cc) ∧ Z.cell? ⟨(ad3.add (i * 4)).block, (ad3.add (i * 4)).off + 1, none⟩ = some (.int .i64 te) ∧ Z.cell? ⟨(ad3.add (i * 4)).block, (ad3.add (i * 4)).off + 2, none⟩ = some (.int .i64 th) ∧ Z.cell? ⟨(ad3.add (i * 4)).block, (ad3.add (i * 4)).off + 3, none⟩ = some (.int .i64 el)) := Lib.hid fun Z hZ =>
        ⟨(hZ.cell (by omega)).trans hct, (hZ.cell (p := ⟨bb, 1, none⟩) hbr).trans qb, (hZ.cell (by omega)).trans e0, (hZ.cell (p := ⟨(ad3.add (i * 4)).block, (ad3.add (i * 4)).off + 1, none⟩) (by show (ad3.add (i * 4)).block < _; omega)).trans e1, (hZ.cell (p := ⟨(ad3.add (i * 4)).block, (ad3.add (i * 4)).off + 2, none⟩) (by show (ad3.add (i * 4)).block < _; omega)).trans e2, (hZ.cell (p := ⟨(ad3.add (i * 4)).block, (ad3.add (i * 4)).off + 3, none⟩) (by show (ad3.add (i * 4)).block < _; omega)).trans e3⟩
      by_cases htn : tv = -1
      · have HBE : Hid (ni (List.range n) = bef n ts (qs.map Nq.sg) i) := Lib.hid (by unfold bef; rw [if_pos (by rw [hgt]; exact htn)])
        subst htn
        clear hxi hi htv hd hrc hcc hcl hbk hgd hbef hstep hszb hbu hnm hbo hwr hjz e0 e1 e2 e3 hct hgt
        go_wp2_with fail
        refine (firstNames_any n _ (by omega)).mono ?_
        rintro e w7 ⟨A5, k5, rfl, hrd7, hb7⟩
        obtain ⟨d0, d1, d2, d3, d4, d5⟩ := HLD.out w7 hb7
        have hs7 := hb7.size
        go_wp2_with fail
        refine (HCALL.out A5 k5 _ (by go_grown) _ HBE.out (hrd7.below (by go_grown) (Nat.le_refl _))).mono ?_
        rintro e w8 ⟨rfl, q, y1, y2, y3, y4, y5, y6, y7⟩
        rw [HBE.out] at y1
        obtain ⟨T', qs', z1, z2, z3, z4, z5⟩ := HREL.out _ w8 q hb7 y1 y2 y3 y4 y5 y6 y7
        have HZ := Lib.hid (And.intro z1 (And.intro z2 (And.intro z3 (And.intro z4 z5))))
        clear y1 y2 y3 y4 y5 y6 y7 z1 z2 z3 z4 z5
        go_wp2
        go_round
        case rel => exact ⟨m + 1, T', qs', by omega, by go_num, HZ.out⟩
        case measure => (simp [intOf]; omega)
      · obtain ⟨d, rfl, hdl⟩ : ∃ d : Nat, tv = (d : Int) ∧ d < len := by
          rcases HTR.out with ⟨d, h1, h2⟩ | ⟨h1, _⟩
          · refine ⟨d, by rw [← hgt]; exact h1, ?_⟩
            have := (h2.2.1.lt HW.out).1
            rwa [HNL.out] at this
          · exact absurd (by rw [← hgt]; exact h1) htn
        obtain ⟨qd, hqd⟩ : ∃ qd, qs[d]? = some qd := ⟨_, List.getElem?_eq_getElem (by omega)⟩
        have HBE : Hid (qd.last = bef n ts (qs.map Nq.sg) i) := Lib.hid (by
          unfold bef
          rw [if_neg (by rw [hgt]; exact htn), hgt, Int.toNat_natCast, List.getD_eq_getElem?_getD, List.getElem?_map, hqd]
          rfl)
        have hld : qd.last.length = n := by rw [HBE.out]; exact hbef
        have cd := (hnm 0).cell (i := 5) hqd rfl
        rw [hld] at cd
        have HLA := Lib.hid (((hnm 0).rows d qd hqd).la)
        have HCD : Hid (∀ Z : World, Below wr.heap.size wr Z → Z.cell? ⟨g, d * 6 + 5, none⟩ = some (.slice qd.lA n qd.lc)) := Lib.hid fun Z hZ => (hZ.cell (p := ⟨g, d * 6 + 5, none⟩) hgr).trans cd
        have e9 : ((d : Int) != -1) = true := by simp
        clear hxi hi htv hd hrc hcc hcl hbk hgd hbef hstep hszb hbu hnm hbo hwr hjz e0 e1 e2 e3 hct hgt cd hld hqd
        go_wp2_with fail
        refine (firstNames_any n _ (by omega)).mono ?_
        rintro e w7 ⟨A5, k5, rfl, _, hb7⟩
        obtain ⟨d0, d1, d2, d3, d4, d5⟩ := HLD.out w7 hb7
        have dcd := HCD.out w7 hb7
        have hs7 := hb7.size
        go_wp2_with fail
        go_region
        all_goals
          go_wp2_with fail
          refine (HCALL.out qd.lA qd.lc _ (hb7.trans ((by go_grown : Below w7.heap.size w7 _).mono hs7)) _ HBE.out ((HLA.out.below (hb7.trans ((by go_grown : Below w7.heap.size w7 _).mono hs7)) (Nat.le_refl _)).more (Nat.le_trans hs7 (by go_grown : Below w7.heap.size w7 _).size))).mono ?_
          rintro e w8 ⟨rfl, q, y1, y2, y3, y4, y5, y6, y7⟩
          rw [HBE.out] at y1
          obtain ⟨T', qs', z1, z2, z3, z4, z5⟩ := HREL.out _ w8 q (hb7.trans ((by go_grown : Below w7.heap.size w7 _).mono hs7)) y1 y2 y3 y4 y5 y6 y7
          have HZ := Lib.hid (And.intro z1 (And.intro z2 (And.intro z3 (And.intro z4 z5))))
          clear y1 y2 y3 y4 y5 y6 y7 z1 z2 z3 z4 z5
          go_wp2
          go_round
          case rel => exact ⟨m + 1, T', qs', by omega, by go_num, HZ.out⟩
          case measure => (simp [intOf]; omega)
    · have hdone := hbu.done (by rw [HOL.out]; omega)
      have hBt2 := HBT.out
      rw [hdone] at hBt2
      have hat : ∀ (r : Nat) (q : Nq), qs[r]? = some q → r < len ∧ q.sg = nmB (jv.getD r []) (p.getD r bk0) (bef n ts (qs.map Nq.sg) r) (t r) ∧ q.last.length = n := fun r q hq => by
        have hrl : r < len := by rw [← hqsl]; exact (List.getElem?_eq_some_iff.1 hq).1
        have h1 := hBt2.at_ r (by rw [HL.out]; exact hrl)
        rw [List.getElem?_map, hq] at h1
        injection h1 with h1
        have h2 := (hBt2.last HS.out (i := r) (by rw [HL.out]; exact hrl)).1
        unfold laB at h2
        rw [List.getD_eq_getElem?_getD, List.getElem?_map, hq] at h2
        exact ⟨hrl, h1, h2⟩
      have HBT2 := Lib.hid hBt2
      have HFILL := Lib.hid (fun (cs2 : List Value) (w8 : World) (hb8 : Below wr.heap.size wr w8) (hso : RowsO w8 wr.heap.size (frG (nxP p)) cs2) =>
        fillJoins_any n T g bb len len S wr.heap.size wr.heap.size (some ⟨G, 0, none⟩) jv qs (frG (nxP p)) cs2 w8 (hbo.below hb8 hbr) (by omega) ((hnm wr.heap.size).quiet hb8) (fun r q hq => ((hnm 0).rows r q hq).hw) hb8.size (by omega) hqsl c3 c4
          (fun i hi => (HHELD.out i hi).sub (hwr.andThen (hb8.mono hwsz)) (fun k hk => .inr (.inr hk)))
          (fun i => by
            have := nodup_len (n := n) (HS.out.jn i) fun x hx => HS.out.jl i x hx
            omega)
          (fun r q hq => by
            obtain ⟨h1, h2, h3⟩ := hat r q hq
            refine ⟨?_, hjz r q hq, h3⟩
            have h4 := congrArg (fun s : Sg => s.joins.length) h2
            simp only [Nq.sg, nmB, List.length_map, jnT_len] at h4
            exact h4)
          (fun i v hv => HS.out.jl i v hv) (by omega) hso (Nat.le_refl _) (by rw [frG_len, HNL.out]) (fun r row hr => frG_ok HNL.out c4 hr))
      have HLL : Hid ((fillL (qs.map Nq.sg) (frG (nxP p)) jv).length = len) := Lib.hid (by rw [fillL_len, List.length_map, hqsl])
      have HG9 := Lib.hid ((HG2.out.below hB2 (Nat.le_refl _)).more hB2.size)
      clear hbu hnm hbo hjz hdone hBt2 hat
      go_wp2_with fail
      refine (HSRC.out A1 k1 _ HG9.out).mono ?_
      rintro e w8 ⟨cs2, rfl, hso, hb8⟩
      go_wp2_with fail
      refine (HFILL.out cs2 w8 hb8 hso).mono ?_
      rintro e w9 ⟨rfl, qs9, hnm9, hL9, hbb9, hb9⟩
      have c9 := hbb9.cell (j := 1) rfl
      have hbl9 := hbb9.lt
      have HRD9 := Lib.hid hnm9.rd
      rw [hL9] at HRD9
      have hbF : Below w.heap.size w w9 := hb02.trans ((hB2.trans ((hb8.mono hB2.size).trans (hb9.mono (by omega)))).mono hsz02)
      clear hnm9 hL9 hbb9 hso
      go_wp2
      go_ret2
      exact ⟨g, _, ⟨ts, jv, sw, _, t, TT, HS.out, hT128, HBT2.out, rfl⟩, HLL.out, rfl, HRD9.out, hbF⟩

end Go.Proofs.Ytgcjknibelfjbaa

/-
  What single.Build gives is valid, in static single assignment form, and runs as the program (M3).
-/

namespace Go.Proofs.Ytgcjknibelfjbaa
open Go.RowKit
set_option linter.unusedSimpArgs false
set_option linter.unusedVariables false
set_option maxRecDepth 100000

theorem Made.valid {n : Nat} {p : List Bk} {L : List Sg} (h : Made n p L) : ckSingle n L = 0 := by
  obtain ⟨ts, jv, sw, l, t, T, hS, hT, hB, rfl⟩ := h
  exact hB.valid hS hT

theorem Made.once {n : Nat} {p : List Bk} {L : List Sg} (h : Made n p L) : OnP n L := by
  obtain ⟨ts, jv, sw, l, t, T, hS, hT, hB, rfl⟩ := h
  exact hB.once hS

theorem Made.run {n : Nat} {p : List Bk} {L : List Sg} {hv : List Int} (h : Made n p L) (hc : ckProg n p = 0) (hok : ValsOk n hv) : runN L 200 0 (-1) (beginS hv) = (goP p 200 0 hv).map Prod.fst := by
  obtain ⟨ts, jv, sw, l, t, T, hS, hT, hB, rfl⟩ := h
  obtain ⟨c1, c2, c3, _⟩ := ckProg_bd hc
  refine hB.run hS hT 200 0 (-1) hv (beginS hv) (by omega) (Rea.me _ 0) hok (beginS_ok hok (by omega)).1 (.inl ⟨rfl, rfl, fun v hvl => ?_⟩)
  unfold beginS
  rw [List.getD_eq_getElem?_getD, List.getElem?_append_left (by rw [hok.1]; exact hvl), ← List.getD_eq_getElem?_getD]

theorem Made.ends {n : Nat} {p : List Bk} {L : List Sg} (h : Made n p L) {i : Nat} {s : Sg} {b : Bk} (hs : L[i]? = some s) (hb : p[i]? = some b) : s.th = b.th ∧ s.el = b.el := by
  obtain ⟨ts, jv, sw, l, t, T, hS, hT, hB, rfl⟩ := h
  have hi := (List.getElem?_eq_some_iff.1 hb).1
  rw [hB.fill hi] at hs
  injection hs with hs
  subst hs
  have hg : p.getD i bk0 = b := by rw [List.getD_eq_getElem?_getD, hb]; rfl
  unfold nmL
  rw [hg]
  exact ⟨rfl, rfl⟩

theorem Made.in {n : Nat} {p : List Bk} {L : List Sg} (h : Made n p L) (hl : L.length = p.length) (hin : ∀ b ∈ p, InBk b) : ∀ s ∈ L, InSg s := fun s hs => by
  have hc := h.valid
  obtain ⟨k, hk, rfl⟩ := List.getElem_of_mem hs
  obtain ⟨row, hr⟩ := frP_get hk
  obtain ⟨_, hn6, _, hl8, hC, hJ, _, _⟩ := ckSingle_bd hc
  have hok := ckSingle_at hc (List.getElem?_eq_getElem hk) hr
  have h1 := manyC_le (List.getElem?_eq_getElem hk)
  have h2 := manyJ_le (List.getElem?_eq_getElem hk)
  have hkp : k < p.length := by omega
  obtain ⟨e1, e2⟩ := h.ends (List.getElem?_eq_getElem hk) (List.getElem?_eq_getElem hkp)
  obtain ⟨_, _, g1, g2⟩ := hin _ (List.getElem_mem hkp)
  have ht := hok.test
  have hla := hok.len
  have hrl : row.length ≤ 9 := (frG_ok (nx := nxP (bareP L)) (len := L.length) (by simp [nxP, bareP]) hl8 hr).1
  refine ⟨by omega, by omega, by omega, ?_, by rw [e1]; exact g1, by rw [e2]; exact g2, fun j hj => ?_⟩
  · unfold inI
    omega
  · have := (ckJn_ok (hok.joins j hj)).1
    omega

set_option maxHeartbeats 4000000 in
theorem snBuild_bad (vars : Int) (A : Option Addr) (len cap : Nat) (p : List Bk) (w : World) (hx : RdP w w.heap.size A p) (hl : p.length = len) (hm : len ≤ maxLen) (hin : ∀ b ∈ p, InBk b) (hc : ckProg vars p ≠ 0) :
    Calls Try.prog 16 #[.int .i64 vars, .slice A len cap] w fun e w' => e = .returned (.tuple #[.slice none 0 0, .int .i64 (ckProg vars p)]) ∧ Below w.heap.size w w' := by
  have HB := Lib.hid (blockWay_bad vars A len cap p w hx hl hm hin hc)
  have e1 : (ckProg vars p != 0) = true := by simp [hc]
  obtain ⟨k, hk⟩ : ∃ k, ckProg vars p = k := ⟨_, rfl⟩
  rw [hk] at HB e1 ⊢
  clear hc hk hin hx
  go_enter Try.func16, Try.ntmps16
  go_wp2_with fail
  refine HB.out.mono ?_
  rintro e w1 ⟨A1, c1, rfl, hb1⟩
  go_wp2
  go_ret2
  exact ⟨rfl, hb1⟩

end Go.Proofs.Ytgcjknibelfjbaa
