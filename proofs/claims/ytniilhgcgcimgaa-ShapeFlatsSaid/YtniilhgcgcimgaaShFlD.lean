/-
  (*shape.flattener).add (U2).
-/
import Derived.Test.YtniilhgcgcimgaaShFlS
namespace Go.Proofs.Ytniilhgcgcimgaa
open Go.RowKit
set_option linter.unusedSimpArgs false
set_option linter.unusedVariables false
set_option maxRecDepth 100000

theorem FlQ.base {B g : Nat} {F : Nat → Prop} {p : List Bk} {w : World} (h : FlQ B g F p w) : (∀ b, F b → B ≤ b) ∧ B ≤ w.heap.size ∧ g < w.heap.size := by
  obtain ⟨A, c, qs, _, h⟩ := h
  have := h.bg
  have := h.lt
  exact ⟨fun b hb => (h.foot b hb).2, by omega, by omega⟩

theorem cSt_oneF (l : List St) : ∀ u ∈ rv cSt l, u.oneCell' = true := rv_all (fun x u hu => by
  simp [cSt] at hu
  rcases hu with rfl | rfl | rfl | rfl | rfl <;> rfl) l

theorem nxtLx {Y : Type} {L : List Nat} {i p : Nat} {x : Nat × Y} {y' : Y} (hx : x.1 = p) (h : L.getD i 0 = p + 1) (hL : ((List.range L.length).all fun j => L.getD j 0 != p + 1 || j == i) = true) : Nxt (effL L) (fun (x : Nat × Y) j => doneL L x.1 j) x (p + 1, y') i := by
  obtain ⟨k, y⟩ := x
  subst hx
  exact nxtL h hL

/-- the region that appends code to a block -/
def CdF (B g ga c : Nat) (F : Nat → Prop) (qs : List (Bk × Option Addr × Nat)) (i : Nat) (q : Bk × Option Addr × Nat) (cd : List St) (cl k8 : Nat) (Y : World) (x : Nat × (Option Addr × Nat × Option Addr × Nat)) (w : World) : Prop :=
  match x.1 with
  | 0 => Below Y.heap.size Y w
  | 1 => Below Y.heap.size Y w ∧ w.ownsRow Y.heap.size 66 5 (.slice x.2.1 cl x.2.2.1) cl (rv cSt (cpS cd))
  | 2 => ∃ X, Below Y.heap.size Y X ∧ w.ownsRow B 66 5 (.slice x.2.2.2.1 k8 x.2.2.2.2) k8 (rv cSt (q.1.code ++ cpS cd)) ∧ X.grownBy w (rowV q).ownBlock ∧ ((Value.slice x.2.2.2.1 k8 x.2.2.2.2).ownBlock = (rowV q).ownBlock ∨ (Value.slice x.2.2.2.1 k8 x.2.2.2.2).ownBlock = some X.heap.size)
  | _ => ∃ F2, FlQ B g F2 (cdB (qs.map (·.1)) i (cpS cd)) w ∧ Fr F F2 Y w

section
variable {B g ga c i cl k8 : Nat} {F : Nat → Prop} {qs : List (Bk × Option Addr × Nat)} {q : Bk × Option Addr × Nat} {cd : List St} {Y w : World} {x : Nat × (Option Addr × Nat × Option Addr × Nat)}

theorem CdF.keep (h : CdF B g ga c F qs i q cd cl k8 Y x w) (hx : x.1 ≤ 2) {b : Nat} (hb : b < Y.heap.size) (hr : (rowV q).ownBlock ≠ some b) : w.heap[b]? = Y.heap[b]? := by
  obtain ⟨k, y⟩ := x
  match k, hx with
  | 0, _ => exact Below.block (show Below Y.heap.size Y w from h) b hb
  | 1, _ => exact Below.block (show Below Y.heap.size Y w from h.1) b hb
  | 2, _ =>
    obtain ⟨X, h1, _, h2, _⟩ := h
    exact (h2.block b (by have := h1.size; omega) (fun e => hr e.symm)).trans (h1.block b hb)

theorem CdF.own (h : CdF B g ga c F qs i q cd cl k8 Y x w) (hx : x.1 ≤ 2) {b : Nat} {t : TypeId} {cs : List Value} (ho : Own Y b t cs) (hr : (rowV q).ownBlock ≠ some b) : Own w b t cs := (h.keep hx ho.lt hr).trans ho

theorem CdF.arr (h : CdF B g ga c F qs i q cd cl k8 Y x w) (hx : x.1 ≤ 2) (hp : FlP B g F (some ⟨ga, 0, none⟩) c qs Y) (hq : qs[i]? = some q) : w.ownsRow B 39 4 (.slice (some ⟨ga, 0, none⟩) qs.length c) qs.length (rv cBk qs) :=
  own_keptF hp.arr fun b hb => h.keep hx (ownBlock_lt hp.arr hb).2 fun e => (hp.nr i q hq).2 b e hb

theorem CdF.cell (h : CdF B g ga c F qs i q cd cl k8 Y x w) (hx : x.1 ≤ 2) (hp : FlP B g F (some ⟨ga, 0, none⟩) c qs Y) (hq : qs[i]? = some q) : w.cell? ⟨ga, i * 4, none⟩ = some (.slice q.2.1 q.1.code.length q.2.2) ∧ w.frozen? ⟨ga, i * 4, none⟩ = false := by
  have hl := (List.getElem?_eq_some_iff.1 hq).1
  have h1 := h.arr hx hp hq
  exact ⟨(h1.cellAt (i * 4) (by omega)).trans (by have := rv_at cBk_len hq (i := 0) (by omega); rw [Nat.add_zero] at this; rw [this]; rfl), h1.frozenAt _⟩

theorem own_newsR {base n c size : Nat} {e : TypeId} {A : Option Addr} {xs : List Value} (h : w.ownsRow base e size (.slice A n c) n xs) : ∀ ad, A = some ad → ∀ j u, xs[j]? = some u → w.cell? (ad.add j) = some u := by
  intro ad hA j u hu
  have hj := (List.getElem?_eq_some_iff.1 hu).1
  rcases h.2 with ⟨h1, _⟩ | ⟨k, cap, cur, h1, _⟩
  · injection h1 with h1
    rw [h1] at hA
    cases hA
  · injection h1 with h1
    rw [h1] at hA h
    injection hA with hA
    subst hA
    rw [add_zeroN, h.cellAt j (by rw [← h.1]; exact hj)]
    exact hu

theorem own_none0 {base n c size : Nat} {e : TypeId} {A : Option Addr} {xs : List Value} (h : w.ownsRow base e size (.slice A n c) n xs) : A = none → n = 0 := fun hA => by
  rcases h.2 with ⟨_, h1⟩ | ⟨k, cap, cur, h1, _⟩
  · exact h1
  · injection h1 with h1
    rw [hA] at h1
    cases h1

theorem FlP.cdQ (h : FlP B g F (some ⟨ga, 0, none⟩) c qs Y) (hq : qs[i]? = some q) (hk8 : q.1.code.length + (cpS cd).length = k8) (hs : CdF B g ga c F qs i q cd cl k8 Y x w) (hx : x.1 = 2) : ∃ F2, FlQ B g F2 (cdB (qs.map (·.1)) i (cpS cd)) (w.setCell ⟨ga, i * 4, none⟩ (.slice x.2.2.2.1 k8 x.2.2.2.2)) ∧ Fr F F2 Y (w.setCell ⟨ga, i * 4, none⟩ (.slice x.2.2.2.1 k8 x.2.2.2.2)) := by
  obtain ⟨k, y⟩ := x
  obtain rfl : k = 2 := hx
  obtain ⟨X, h1, h2, h3, h4⟩ := hs
  have hh := h.code hq h1 hk8 h2 h3 h4
  refine ⟨_, ⟨_, _, _, ?_, hh.1⟩, hh.2⟩
  have e2 : (qs.map (·.1)).getD i bk0 = q.1 := by rw [List.getD_eq_getElem?_getD, List.getElem?_map, hq]; rfl
  unfold cdB
  rw [e2, List.map_set]

end

set_option maxHeartbeats 16000000 in
theorem add_one (lo B g at0 len cap : Nat) (n : Int) (F : Nat → Prop) (l : Sh) (A : Option Addr) (p0 : List Bk) (w : World) (hx : RdH w lo B l A 0) (hl : l.len = len) (hf : FitSh l) (hc : ckSh n l = 0) (hq : FlQ B g F p0 w) (ha : at0 < p0.length) (hb : BdF p0 (3 * l.many) l.steps)
    (hih : ∀ l' : Sh, l'.many < l.many → FitSh l' → ckSh n l' = 0 → ∀ (A' : Option Addr) (cap' : Nat) (Z : World) (F' : Nat → Prop) (p : List Bk) (a : Nat), RdH Z lo B l' A' 0 → FlQ B g F' p Z → a < p.length → BdF p (3 * l'.many) l'.steps →
      Calls Try.prog 27 #[.pointer (some ⟨g, 0, none⟩), .slice A' l'.len cap', .int .i64 (a : Nat)] Z (FlR B g F' (flF l' p a) Z)) :
    Calls Try.prog 27 #[.pointer (some ⟨g, 0, none⟩), .slice A len cap, .int .i64 (at0 : Nat)] w (FlR B g F (flF l p0 at0) w) := by
  have HL := Lib.hid hl
  have HF := Lib.hid hf
  have HIH := Lib.hid hih
  have HX := Lib.hid hx
  have HC := Lib.hid hc
  have HQ0 := Lib.hid hq
  have HA0 := Lib.hid ha
  have HB0 := Lib.hid hb
  have hlen : len ≤ 1000 := by rw [← hl]; exact hf.len
  clear hl hf hih hx hc hq ha hb
  go_enter Try.func27, Try.ntmps27
  go_wp2
  go_loopw [2, 11] (fun s z wr => ∃ (k a : Nat) (p : List Bk) (F' : Nat → Prop), k ≤ len ∧ z = .int .i64 k ∧ s = .int .i64 (a : Nat) ∧ Hid (flF l p0 at0 = flF (l.drop k) p a) ∧ Hid (a < p.length) ∧ Hid (BdF p (3 * (l.drop k).many) (l.drop k).steps) ∧ Hid (FlQ B g F' p wr) ∧ Hid (Fr F F' w wr)) (fun _ z _ => len - (intOf z).toNat)
  case atStart => exact ⟨0, at0, p0, F, Nat.zero_le _, rfl, rfl, Lib.hid (by rw [Sh.drop_zero]), HA0, Lib.hid (by rw [Sh.drop_zero]; exact HB0.out), HQ0, Lib.hid (Fr.refl _ _)⟩
  case round =>
    obtain ⟨k, a, p, F', hk, rfl, rfl, HR, HAP, HBD, HS, HK⟩ := hrel
    have hgl := HS.out.base.2.2
    by_cases hlt : k < len
    · obtain ⟨ad, kd, ts, cd, th, el, Ac, At, Ae, cc, ct, ce, rfl, hbl, hd, hc0, hc1, hc2, hc3, hc4, hrc, hrt, hre⟩ := (RdH.below (HK.out.below HQ0.out.base.1 HQ0.out.base.2.1) (Nat.le_refl _) HX.out).at_ (k := k) (by rw [HL.out]; exact hlt)
      obtain ⟨⟨hm1, hf1⟩, ⟨hm2, hf2⟩, hcl⟩ := HF.out.part hd
      have hck0 := ckSh_drop HC.out k
      rw [hd] at hck0
      obtain ⟨hone, hkt, hke, _⟩ := ckSh_cons hck0
      have hkd := ckOne_cases hone
      have HBR := Lib.hid (HS.out.base.2.1)
      have HFB := Lib.hid (HS.out.base.1)
      have HAT : Hid (flF l p0 at0 = flF (l.drop (k + 1)) (fl1 kd ts cd th el p a).1 (fl1 kd ts cd th el p a).2) := Lib.hid (by rw [HR.out, hd, flF_cons])
      have hbd := HBD.out
      rw [hd] at hbd
      have HBD1 : Hid (BdF p ((3 + 3 * th.many + 3 * el.many) + 3 * (l.drop (k + 1)).many) ((cd.length + th.steps + el.steps) + (l.drop (k + 1)).steps)) := Lib.hid (hbd.less (by simp only [Sh.many]; omega) (by simp only [Sh.steps]; omega))
      have HG1 := Lib.hid (GrF.one (kd := kd) (ts := ts) (cd := cd) (GrF.all th) (GrF.all el) HAP.out)
      have HBD2 := Lib.hid (HBD1.out.grow HG1.out)
      have HBX : Hid (Below wr.heap.size wr (wr.alloc (.cells #[.int .i64 kd, .int .i64 ts, .slice Ac cd.length cc, .slice At th.len ct, .slice Ae el.len ce] 57))) := Lib.hid (by go_grown)
      have HOB : Hid (Own (wr.alloc (.cells #[.int .i64 kd, .int .i64 ts, .slice Ac cd.length cc, .slice At th.len ct, .slice Ae el.len ce] 57)) wr.heap.size 57 [.int .i64 kd, .int .i64 ts, .slice Ac cd.length cc, .slice At th.len ct, .slice Ae el.len ce]) := Lib.hid (Own.new wr _ _)
      have hblr : (ad.add (k * 5)).block < wr.heap.size := by have := HBR.out; omega
      rcases hkd with ⟨rfl, -⟩ | ⟨rfl | rfl, -, -⟩
      · obtain ⟨tl, htl⟩ : ∃ x, th.len = x := ⟨_, rfl⟩
        obtain ⟨el', hel⟩ : ∃ x, el.len = x := ⟨_, rfl⟩
        obtain ⟨cl, hcle⟩ : ∃ x, cd.length = x := ⟨_, rfl⟩
        have HRC := Lib.hid hrc
        have HCL := Lib.hid hcle
        have hcl6 : cl ≤ 65536 := by omega
        rw [htl, hel, hcle] at HBX HOB
        rw [htl] at hc3
        rw [hel] at hc4
        rw [hcle] at hc2
        clear htl hel hcle hrt hre hrc hd hm1 hf1 hm2 hf2 hck0 hone hkt hke hbd hcl
        obtain ⟨V, hV⟩ : ∃ V, V = wr.alloc (.cells #[.int .i64 1, .int .i64 ts, .slice Ac cl cc, .slice At tl ct, .slice Ae el' ce] 57) := ⟨_, rfl⟩
        rw [← hV] at HBX HOB
        obtain ⟨ga, c, qs, q, hqp, hp, hqi, hqa, hqn⟩ := (HS.out.up HBX.out).open_ HAP.out
        have HPY := Lib.hid hp
        have HQI := Lib.hid hqi
        have HQP := Lib.hid hqp
        have HNG := Lib.hid (hp.nr a q hqi).1
        have HNR : Hid ((rowV q).ownBlock ≠ some wr.heap.size) := Lib.hid fun e => by
          obtain ⟨A', c', qs', hqp', hp'⟩ := HS.out
          exact HS.out.fresh (hp.fr a q _ hqi e)
        have HRW := Lib.hid (hp.rows a q hqi)
        have HBY := Lib.hid hp.box
        have HBYS : Hid (B ≤ V.heap.size) := Lib.hid (Nat.le_trans HBR.out HBX.out.size)
        have HFX : Hid (Fr F' F' wr V) := Lib.hid (Fr.of_below F' HBX.out)
        have HCP := Lib.hid (fun (Z : World) (hZ : Below V.heap.size V Z) => copySteps_any Ac cl cc cd Z ((RdS.below (RdS.below HRC.out HBX.out HBR.out) hZ HBYS.out).more (Nat.le_trans HBYS.out hZ.size)) HCL.out hcl6)
        have hsz : q.1.code.length + cl ≤ 60000 := by
          have h1 := HBD1.out.2
          have h2 := manyS_leF (p := p) (i := a)
          rw [← hqa] at h2
          have := HCL.out
          omega
        obtain ⟨k0, hk0⟩ : ∃ k0, q.1.code.length = k0 := ⟨_, rfl⟩
        have HK0 := Lib.hid hk0
        obtain ⟨k8, hk8⟩ : ∃ k8, k0 + cl = k8 := ⟨_, rfl⟩
        have HK8 := Lib.hid hk8
        have HK9 : Hid (q.1.code.length + (cpS cd).length = k8) := Lib.hid (by rw [cpS_len, HCL.out, hk0, hk8])
        have HLC : Hid ((rv cSt (cpS cd)).length = cl * 5) := Lib.hid (by rw [rv_len cSt_len, cpS_len, HCL.out])
        have HRV : Hid (rowV q = .slice q.2.1 k0 q.2.2) := Lib.hid (by rw [← hk0]; rfl)
        rw [HRV.out, hk0] at HRW
        have hmx : k0 + cl ≤ maxLen := by unfold maxLen; omega
        have hbig : (k0 + cl) * 40 ≤ 140737488355328 := by omega
        obtain ⟨pn, hpn⟩ : ∃ pn, p.length = pn := ⟨_, rfl⟩
        have hapn : a < pn := by rw [← hpn]; exact HAP.out
        have hpn6 : pn ≤ 65536 := by have := HBD1.out.1; omega
        rw [hqn, hpn] at HBY
        have HE : Hid (fl1 1 ts cd th el p a = (cdB p a (cpS cd), a)) := Lib.hid rfl
        rw [HE.out] at HAT HG1 HBD2
        have HS0 : Hid (CdF B g ga c F' qs a q cd cl k8 V (0, (none, 0, none, 0)) V.drew) := Lib.hid (Below.drew (Below.refl _ _))
        have hgV := HBY.out.lt
        clear hp hqi hqp hqa hqn hk0 hk8 hpn
        go_upto_region 6 with fail
        rw [← hV]
        obtain ⟨g0, hg0⟩ : ∃ g0, wr.heap.size = g0 := ⟨_, rfl⟩
        rw [hg0] at HOB HNR
        simp only [hg0]
        clear hV hg0 hc0 hc1 hc2 hc3 hc4 hbl hblr
        obtain ⟨Y, rfl⟩ : ∃ Y : World, Y = V := ⟨_, rfl⟩
        refine wp_region_stepsB (X := Nat × (Option Addr × Nat × Option Addr × Nat)) (CdF B g ga c F' qs a q cd cl k8 Y) (fun x j => doneL [0, 0, 0, 0, 0, 0, 0, 0, 0, 0, 0, 0, 0, 0, 0, 1, 2, 0, 0, 3] x.1 j) (effL [0, 0, 0, 0, 0, 0, 0, 0, 0, 0, 0, 0, 0, 0, 0, 1, 2, 0, 0, 3]) (0, (none, 0, none, 0)) (fun x => [.pointer (some ⟨g, 0, none⟩), .pointer (some ⟨g, 0, none⟩), .pointer (some ⟨g, 0, none⟩), .slice (some ⟨ga, 0, none⟩) pn c, .int .i64 (a : Nat), .pointer (some ⟨g, 0, none⟩), .pointer (some ⟨g, 0, none⟩), .pointer (some ⟨g, 0, none⟩), .slice (some ⟨ga, 0, none⟩) pn c, .int .i64 (a : Nat), .pointer (some ⟨ga, a * 4, none⟩), .pointer (some ⟨ga, a * 4, none⟩), .slice q.2.1 k0 q.2.2, .pointer (some ⟨g0, 2, none⟩), .slice Ac cl cc, .slice x.2.1 cl x.2.2.1, .slice x.2.2.2.1 k8 x.2.2.2.2, .pointer (some ⟨ga, a * 4, none⟩), .pointer (some ⟨ga, a * 4, none⟩), undef]) _ (by kernel_rfl) (by kernel_rfl) (by kernel_rfl) (fun x => by simp only [putsD, Act.put, List.setIfInBounds_toArray, List.set_cons_zero, List.set_cons_succ]; exact rfl) h0L HS0.out (fun x => ?_) (fun x wz hDz hSz => ?_)
        · refine AllS.val (by rfl) (by rfl) (fun w hSw hPw => by go_simp) ?_
          refine AllS.val (by rfl) (by rfl) (fun w hSw hPw => by go_simp) ?_
          refine AllS.val (by rfl) (by rfl) (fun w hSw hPw => by go_simp) ?_
          refine AllS.val (by rfl) (by rfl) (fun w hSw hPw => ?_) ?_
          · (try dsimp only at hSw)
            have hx2 := leH (hPw.not (j := 19) rfl (by kernel_rfl))
            have c0 := (CdF.own hSw hx2 HBY.out HNG.out).cell (j := 0) rfl
            go_simp
          refine AllS.val (by rfl) (by rfl) (fun w hSw hPw => by go_simp) ?_
          refine AllS.val (by rfl) (by rfl) (fun w hSw hPw => by go_simp) ?_
          refine AllS.val (by rfl) (by rfl) (fun w hSw hPw => by go_simp) ?_
          refine AllS.val (by rfl) (by rfl) (fun w hSw hPw => by go_simp) ?_
          refine AllS.val (by rfl) (by rfl) (fun w hSw hPw => ?_) ?_
          · (try dsimp only at hSw)
            have hx2 := leH (hPw.not (j := 19) rfl (by kernel_rfl))
            have c0 := (CdF.own hSw hx2 HBY.out HNG.out).cell (j := 0) rfl
            go_simp
          refine AllS.val (by rfl) (by rfl) (fun w hSw hPw => by go_simp) ?_
          refine AllS.val (by rfl) (by rfl) (fun w hSw hPw => by go_simp) ?_
          refine AllS.val (by rfl) (by rfl) (fun w hSw hPw => by go_simp) ?_
          refine AllS.val (by rfl) (by rfl) (fun w hSw hPw => ?_) ?_
          · (try dsimp only at hSw)
            have hx2 := leH (hPw.not (j := 19) rfl (by kernel_rfl))
            have c1 := (CdF.cell hSw hx2 HPY.out HQI.out).1
            rw [HK0.out] at c1
            go_simp
          refine AllS.val (by rfl) (by rfl) (fun w hSw hPw => by go_simp) ?_
          refine AllS.val (by rfl) (by rfl) (fun w hSw hPw => ?_) ?_
          · (try dsimp only at hSw)
            have hx2 := leH (hPw.not (j := 19) rfl (by kernel_rfl))
            have c2 := (CdF.own hSw hx2 HOB.out HNR.out).cell (j := 2) rfl
            go_simp
          refine AllS.turn (fun _ _ => rfl) (by rfl) (fun w hSw hPw K hK => ?_) ?_
          · (try dsimp only at hSw)
            have h0 := leH (hPw.me rfl)
            have hx0 : x.1 = 0 := by exact Nat.le_zero.1 h0
            obtain ⟨k', y1, y2, y3, y4⟩ := x
            (try dsimp only at hx0)
            subst hx0
            have hq : Below Y.heap.size Y w := hSw
            go_simp
            go_at_call 38
            refine (HCP.out _ hq).mono ?_
            rintro e w7 ⟨A7, c7, rfl, ho7, hb7⟩
            go_simp
            exact hK (1, A7, c7, y3, y4) _ (nxtL rfl (by decide)) ⟨below_via hq hb7, own_mono ho7 hq.size⟩
          refine AllS.turn (fun _ _ => rfl) (by rfl) (fun w hSw hPw K hK => ?_) ?_
          · (try dsimp only at hSw)
            have h0 := leH (hPw.me rfl)
            have h1 := geH (hPw.need (k := 15) rfl (by kernel_rfl))
            have hx0 : x.1 = 1 := by exact Nat.le_antisymm h0 h1
            obtain ⟨k', y1, y2, y3, y4⟩ := x
            (try dsimp only at hx0)
            subst hx0
            obtain ⟨hq, ho⟩ := hSw
            (try dsimp only at ho)
            refine oper_app' (.tmp 31) (.tmp 34) 37 rfl B 66 5 40 step_appH _ rfl (own_below HRW.out hq) (rv cSt (cpS cd)) rfl HLC.out (own_none0 ho) (own_newsR ho) (cSt_oneF _) hmx hbig (Nat.le_trans HBYS.out hq.size) ?_
            intro A9 c9 w9 hown9 hg9 hb9 hbl9
            rw [HK8.out] at hown9 hbl9 ⊢
            rw [← rv_append] at hown9
            exact hK (2, y1, y2, A9, c9) _ (nxtL rfl (by decide)) ⟨w, hq, hown9, by rw [HRV.out]; exact hg9, by rw [HRV.out]; exact hbl9⟩
          refine AllS.val (by rfl) (by rfl) (fun w hSw hPw => by go_simp) ?_
          refine AllS.val (by rfl) (by rfl) (fun w hSw hPw => by go_simp) ?_
          refine AllS.turn (fun _ _ => rfl) (by rfl) (fun w hSw hPw K hK => ?_) ?_
          · (try dsimp only at hSw)
            have h0 := leH (hPw.me rfl)
            have h1 := geH (hPw.need (k := 16) rfl (by kernel_rfl))
            have hx0 : x.1 = 2 := by exact Nat.le_antisymm h0 h1
            have hc := CdF.cell hSw h0 HPY.out HQI.out
            have u1 := hc.1
            have v1 := hc.2
            have hcd := FlP.cdQ HPY.out HQI.out HK9.out hSw hx0
            go_simp
            exact hK (3, x.2) _ (nxtLx hx0 rfl (by decide)) hcd
          exact AllS.nil
        have hx3 := geH (hDz 19 (by decide) (by decide))
        obtain ⟨F2, HZQ, HZF⟩ : ∃ F2, Hid (FlQ B g F2 (cdB p a (cpS cd)) wz) ∧ Hid (Fr F' F2 Y wz) := by
          obtain ⟨k', y⟩ := x
          match k', hx3 with
          | k'' + 3, _ =>
            obtain ⟨F2, h1, h2⟩ := hSz
            rw [HQP.out] at h1
            exact ⟨F2, Lib.hid h1, Lib.hid h2⟩
        clear hSz hDz hx3
        go_wp2
        go_round
        case rel => exact ⟨k + 1, a, cdB p a (cpS cd), F2, by omega, by go_num, rfl, HAT, Lib.hid HG1.out.lt, HBD2, HZQ, Lib.hid (HK.out.trans (HFX.out.trans HZF.out))⟩
        case measure => (simp [intOf]; omega)
      · have HES := Lib.hid (addBoth_any B g a F' ts cd th el Ac At Ae cd.length cc _ ct _ ce p _ (HS.out.up HBX.out) HAP.out rfl rfl
          (fun Z F1 p1 a1 hZ => HIH.out th hm1 hf1 hkt At ct Z F1 p1 a1 (RdH.below (((Fr.of_below F' HBX.out).trans hZ).below HFB.out HBR.out) (Nat.le_refl _) hrt))
          (fun Z F1 p1 a1 hZ => HIH.out el hm2 hf2 hke Ae ce Z F1 p1 a1 (RdH.below (((Fr.of_below F' HBX.out).trans hZ).below HFB.out HBR.out) (Nat.le_refl _) hre))
          (HBD1.out.less (by omega) (by omega)))
        obtain ⟨tl, htl⟩ : ∃ x, th.len = x := ⟨_, rfl⟩
        obtain ⟨el', hel⟩ : ∃ x, el.len = x := ⟨_, rfl⟩
        obtain ⟨cl, hcle⟩ : ∃ x, cd.length = x := ⟨_, rfl⟩
        rw [htl, hel, hcle] at HES HBX
        rw [htl] at hc3
        rw [hel] at hc4
        rw [hcle] at hc2
        obtain ⟨y, hy⟩ : ∃ y, fl1 2 ts cd th el p a = y := ⟨_, rfl⟩
        rw [hy] at HES HAT HG1 HBD2
        clear htl hel hcle hrt hre hrc hd hm1 hf1 hm2 hf2 hck0 hone hkt hke hbd hcl hy HOB
        go_wp2_with (go_at_call 39; (with_reducible refine HES.out.mono ?_); rintro e w7 ⟨rfl, F7, h7, h8⟩; have H7 := Lib.hid h7; have H8 := Lib.hid ((Fr.of_below F' HBX.out).trans h8); clear h7 h8)
        go_round
        case rel => exact ⟨k + 1, y.2, y.1, F7, by omega, by go_num, rfl, HAT, Lib.hid HG1.out.lt, HBD2, H7, Lib.hid (HK.out.trans H8.out)⟩
        case measure => (simp [intOf]; omega)
      · have HES := Lib.hid (addWhile_any B g a F' ts cd th el Ac At Ae cd.length cc _ ct el.len ce p _ (HS.out.up HBX.out) HAP.out
          (fun Z F1 p1 a1 hZ => HIH.out th hm1 hf1 hkt At ct Z F1 p1 a1 (RdH.below (((Fr.of_below F' HBX.out).trans hZ).below HFB.out HBR.out) (Nat.le_refl _) hrt))
          (HBD1.out.less (by omega) (by omega)))
        obtain ⟨tl, htl⟩ : ∃ x, th.len = x := ⟨_, rfl⟩
        obtain ⟨el', hel⟩ : ∃ x, el.len = x := ⟨_, rfl⟩
        obtain ⟨cl, hcle⟩ : ∃ x, cd.length = x := ⟨_, rfl⟩
        rw [htl, hel, hcle] at HES HBX
        rw [htl] at hc3
        rw [hel] at hc4
        rw [hcle] at hc2
        obtain ⟨y, hy⟩ : ∃ y, fl1 3 ts cd th el p a = y := ⟨_, rfl⟩
        rw [hy] at HES HAT HG1 HBD2
        clear htl hel hcle hrt hre hrc hd hm1 hf1 hm2 hf2 hck0 hone hkt hke hbd hcl hy HOB
        go_wp2_with (go_at_call 40; (with_reducible refine HES.out.mono ?_); rintro e w7 ⟨rfl, F7, h7, h8⟩; have H7 := Lib.hid h7; have H8 := Lib.hid ((Fr.of_below F' HBX.out).trans h8); clear h7 h8)
        go_round
        case rel => exact ⟨k + 1, y.2, y.1, F7, by omega, by go_num, rfl, HAT, Lib.hid HG1.out.lt, HBD2, H7, Lib.hid (HK.out.trans H8.out)⟩
        case measure => (simp [intOf]; omega)
    · have hkl : k = len := by omega
      have HE : Hid (flF l p0 at0 = (p, a)) := Lib.hid (by rw [HR.out, Sh.drop_ge (by rw [HL.out]; omega)]; rfl)
      go_wp2
      go_returns
      rw [HE.out]
      exact ⟨rfl, F', HS.out, HK.out⟩

theorem add_any (lo B g : Nat) (n : Int) : ∀ (m : Nat) (l : Sh), l.many ≤ m → FitSh l → ckSh n l = 0 → ∀ (A : Option Addr) (cap : Nat) (w : World) (F : Nat → Prop) (p : List Bk) (a : Nat), RdH w lo B l A 0 → FlQ B g F p w → a < p.length → BdF p (3 * l.many) l.steps →
    Calls Try.prog 27 #[.pointer (some ⟨g, 0, none⟩), .slice A l.len cap, .int .i64 (a : Nat)] w (FlR B g F (flF l p a) w)
  | 0, l, hm, hf, hc, A, cap, w, F, p, a, hx, hq, ha, hb => add_one lo B g a _ cap n F l A p w hx rfl hf hc hq ha hb fun l' h => by omega
  | m + 1, l, hm, hf, hc, A, cap, w, F, p, a, hx, hq, ha, hb => add_one lo B g a _ cap n F l A p w hx rfl hf hc hq ha hb fun l' h' hf' hc' A' cap' Z F' p' a' h1 h2 h3 h4 => add_any lo B g n m l' (by omega) hf' hc' A' cap' Z F' p' a' h1 h2 h3 h4

end Go.Proofs.Ytniilhgcgcimgaa
