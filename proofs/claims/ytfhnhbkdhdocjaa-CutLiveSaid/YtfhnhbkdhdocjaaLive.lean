/-
  live.Trim (K2): package live keeps its contracts.
-/
import Derived.Test.YtfhnhbkdhdocjaaLiveTrimC
import Derived.Deep.RegionHeld
import Derived.BigQuiet
namespace Go.Proofs.Ytfhnhbkdhdocjaa
open Go.RowKit
set_option linter.unusedSimpArgs false
set_option linter.unusedVariables false
set_option maxRecDepth 100000

/-- a copy of a program in a block of its own, its steps elsewhere -/
structure KpT (w : World) (base g len c : Nat) (qs : List (Bk × Option Addr × Nat)) : Prop where
  ln : qs.length = len
  own : w.ownsRow base 79 4 (.slice (some ⟨g, 0, none⟩) len c) len (rv cBk qs)
  rows : ∀ (r : Nat) (q : Bk × Option Addr × Nat), qs[r]? = some q → RdS w w.heap.size q.2.1 q.1.code ∧ q.1.code.length ≤ q.2.2 ∧ (0 < q.1.code.length → ∀ ad, q.2.1 = some ad → ad.block ≠ g)

theorem KpT.quiet {w w' : World} {base g len c : Nat} {qs : List (Bk × Option Addr × Nat)} (h : KpT w base g len c qs) (hb : Below w.heap.size w w') : KpT w' base g len c qs :=
  ⟨h.ln, own_below h.own hb, fun r q hr => ⟨((h.rows r q hr).1.below hb (Nat.le_refl _)).more hb.size, (h.rows r q hr).2⟩⟩

theorem RdS.farW {w : World} {B : Nat} {A : Option Addr} {l : List St} (h : RdS w B A l) {p : Addr} (hp : 0 < l.length → ∀ ad, A = some ad → ad.block ≠ p.block) (v : Value) : RdS (w.setCell p v) B A l := fun hm => by
  obtain ⟨ad, e, hb, hc⟩ := h hm
  refine ⟨ad, e, hb, fun j hj => ?_⟩
  rw [← hc j hj]
  refine World.cell?_of_block (Below.heap_setCell _ _ _ _ ?_)
  rw [addr_add_block]
  exact hp (by omega) ad e

theorem KpT.set {w : World} {base g len c i n cc c' : Nat} {qs : List (Bk × Option Addr × Nat)} {b b' : Bk} {Ac A' : Option Addr} (h : KpT w base g len c qs) (hq : qs[i]? = some (b, Ac, cc)) (h1 : b'.test = b.test) (h2 : b'.th = b.th) (h3 : b'.el = b.el) (hn : b'.code.length = n)
    (hr : RdS w w.heap.size A' b'.code) (hcap : n ≤ c') (hne : 0 < n → ∀ ad, A' = some ad → ad.block ≠ g) : KpT (w.setCell ⟨g, i * 4, none⟩ (.slice A' n c')) base g len c (qs.set i (b', A', c')) := by
  have hil := (List.getElem?_eq_some_iff.1 hq).1
  refine ⟨by simp [h.ln], ?_, fun r q hr' => ?_⟩
  · rw [← rv_setB (n := n) hq h1 h2 h3 hn]
    exact (h.own.stored (i * 4) _).1
  · by_cases e : i = r
    · subst e
      rw [List.getElem?_set_self hil] at hr'
      injection hr' with hr'
      subst hr'
      refine ⟨?_, by rw [hn]; exact hcap, by rw [hn]; exact hne⟩
      have := hr.farW (p := ⟨g, i * 4, none⟩) (by rw [hn]; exact hne) (.slice A' n c')
      simpa using this
    · rw [List.getElem?_set_ne e] at hr'
      obtain ⟨k1, k2, k3⟩ := h.rows r q hr'
      refine ⟨?_, k2, k3⟩
      have := k1.farW (p := ⟨g, i * 4, none⟩) k3 (.slice A' n c')
      simpa using this

theorem KpT.rd {w : World} {base g len c : Nat} {qs : List (Bk × Option Addr × Nat)} (h : KpT w base g len c qs) : RdP w w.heap.size (some ⟨g, 0, none⟩) (qs.map (·.1)) :=
  rdP_of_raw (own_rdR h.own h.ln) fun k q hq => ⟨(h.rows k q hq).1, (h.rows k q hq).2.1⟩

theorem KpT.gt {w : World} {base g len c : Nat} {qs : List (Bk × Option Addr × Nat)} (h : KpT w base g len c qs) : base ≤ g ∧ g < w.heap.size := h.own.lt g rfl

theorem nxP_cuts {want : Nat} {p q : List Bk} (h : Cuts want p q) : nxP q = nxP p := by
  induction h with
  | done _ => rfl
  | more h1 _ ih =>
    obtain @⟨i, k, b, s, hb, hs, hd⟩ := h1
    rw [ih]
    unfold nxP
    rw [List.map_set, dropS_nx]
    apply List.ext_getElem?
    intro j
    by_cases e : i = j
    · subst e
      rw [List.getElem?_set_self (by rw [List.length_map]; exact (List.getElem?_eq_some_iff.1 hb).1), List.getElem?_map, hb]
      rfl
    · rw [List.getElem?_set_ne e]

theorem Cuts.le {want : Nat} {p q : List Bk} (h : Cuts want p q) : manyS q ≤ manyS p := by
  induction h with
  | done _ => exact Nat.le_refl _
  | more h1 _ ih => have := h1.less; omega

/-- whether something was left out -/
def flagN : Value → Nat
  | .bool true => 1
  | _ => 0

/-- a block's index in a row -/
theorem kp_at {w : World} {base g len c i : Nat} {qs : List (Bk × Option Addr × Nat)} (h : KpT w base g len c qs) {b : Bk} {Ac : Option Addr} {cc : Nat} (hq : qs[i]? = some (b, Ac, cc)) :
    w.cell? ⟨g, i * 4, none⟩ = some (.slice Ac b.code.length cc) ∧ w.cell? ⟨g, i * 4 + 1, none⟩ = some (.int .i64 b.test) ∧ w.cell? ⟨g, i * 4 + 2, none⟩ = some (.int .i64 b.th) ∧ w.cell? ⟨g, i * 4 + 3, none⟩ = some (.int .i64 b.el) := by
  have hil := (List.getElem?_eq_some_iff.1 hq).1
  have hl := h.ln
  have hc := fun k (hk : k < 4) => (h.own.cellAt (i * 4 + k) (by omega)).trans (rv_at cBk_len hq hk)
  exact ⟨hc 0 (by omega), hc 1 (by omega), hc 2 (by omega), hc 3 (by omega)⟩

set_option maxHeartbeats 4000000 in
theorem liveTrim_bad (vars : Int) (want : Nat) (A : Option Addr) (len cap : Nat) (p : List Bk) (w : World) (hx : RdP w w.heap.size A p) (hl : p.length = len) (hm : len ≤ maxLen) (hin : ∀ b ∈ p, InBk b) (hw : want < 4294967296) (hc : ckWant vars p want ≠ 0) :
    Calls Try.prog 22 #[.int .i64 vars, .slice A len cap, .int .u32 (want : Nat)] w fun e w' => ∃ A' c', e = .returned (.tuple #[.slice A' 0 c', .int .i64 (ckWant vars p want)]) ∧ Below w.heap.size w w' := by
  have HCK := Lib.hid (liveCheck_bad vars want A len cap p w hx hl hm hin hw hc)
  obtain ⟨c, hce⟩ : ∃ c, ckWant vars p want = c := ⟨_, rfl⟩
  rw [hce] at HCK hc ⊢
  have hne : (c != 0) = true := by simp [hc]
  clear hx hl hin hc hce
  go_enter Try.func22, Try.ntmps22
  go_wp2_with (go_at_call 46; (with_reducible refine HCK.out.mono ?_); rintro e w1 ⟨A1, c1, rfl, hb1⟩)
  go_returns
  exact ⟨_, _, rfl, hb1⟩

set_option maxHeartbeats 16000000 in
theorem liveTrim_any (n want : Nat) (A : Option Addr) (len cap : Nat) (p : List Bk) (w : World) (hx : RdP w w.heap.size A p) (hl : p.length = len) (hc : ckProg n p = 0) (hw : want < 2 ^ n) :
    Calls Try.prog 22 #[.int .i64 n, .slice A len cap, .int .u32 (want : Nat)] w fun e w' => ∃ A' c' q, e = .returned (.tuple #[.slice A' len c', .int .i64 0]) ∧ RdP w' w'.heap.size A' q ∧ Cuts want p q ∧ Nf want q ∧ Below w.heap.size w w' := by
  obtain ⟨b1, b2, b3, b4, b5, b6⟩ := ckProg_bd hc
  clear b6
  have HL := Lib.hid hl
  have HC := Lib.hid hc
  have hn6 : n ≤ 6 := by omega
  have h6 : 2 ^ n ≤ 2 ^ 6 := Nat.pow_le_pow_right (by omega) (by omega)
  rw [hl] at b3 b4
  obtain ⟨qs, hq1, hq2, hq3⟩ := rdP_raw hx
  have hql : qs.length = len := by rw [← hl, ← hq1, List.length_map]
  have HQ1 := Lib.hid hq1
  have HQL := Lib.hid hql
  have HCK := Lib.hid (liveCheck_any n want A len cap p w hx hl hc hw)
  have HQ2 := Lib.hid hq2
  have HQ3 := Lib.hid hq3
  clear hx hl hc hq1 hq2 hq3 hql
  go_enter Try.func22, Try.ntmps22
  go_wp2_with fail
  (with_reducible refine HCK.out.mono ?_)
  rintro e w1 ⟨AN, cN, rfl, hg1, hb1⟩
  go_wp2_with fail
  refine (cloneB_any A len cap qs _ (RdR.more (RdR.below HQ2.out hb1 (Nat.le_refl _)) hb1.size) HQL.out b3 b4).mono ?_
  rintro e w2 ⟨g, c0, rfl, hown2, hb2⟩
  have hgl := hown2.lt g rfl
  have hs1 := hb1.size
  have hs2 := hb2.size
  have hb12 := hb1.trans (hb2.mono hs1)
  have hg2 := (hg1.below hb2 (Nat.le_refl _))
  have hK0 : KpT w2 w1.heap.size g len c0 qs := ⟨HQL.out, hown2, fun r q hr => ⟨((HQ3.out r q hr).1.below hb12 (Nat.le_refl _)).more hb12.size, (HQ3.out r q hr).2, fun h0 ad hA => by
    obtain ⟨ad', e, hb, _⟩ := (HQ3.out r q hr).1 (by omega)
    rw [hA] at e
    injection e with e
    subst e
    omega⟩⟩
  have hCS0 := cntS_eq hK0.rd c0
  clear HCK HQ2 HQ3 hown2 hg1 hb2
  go_wp2_with fail
  go_loopw [11] (fun s wr => ∃ (ch : Bool) (q : List Bk) (qs' : List (Bk × Option Addr × Nat)), s = .bool ch ∧ qs'.map (·.1) = q ∧ KpT wr w1.heap.size g len c0 qs' ∧ Cuts want p q ∧ (ch = false → Nf want q) ∧ Below w1.heap.size w2 wr) (fun s wr => cntS wr (.slice (some ⟨g, 0, none⟩) len c0) + flagN s)
  case atStart => exact ⟨true, p, qs, rfl, HQ1.out, hK0, .done p, fun h => (by cases h), Below.refl _ _⟩
  case round =>
    obtain ⟨ch, q, qs', rfl, hq', hK, hcs, hnf, hb⟩ := hrel
    have hrd := hK.rd
    rw [hq'] at hrd
    have HRD := Lib.hid hrd
    have HCS := Lib.hid hcs
    have HNF := Lib.hid hnf
    have HK := Lib.hid hK
    have HQ' := Lib.hid hq'
    have hqn := hcs.len
    rw [HL.out] at hqn
    have HQN := Lib.hid hqn
    have HCQ := Lib.hid (hcs.ok HC.out)
    have hsz := hb.size
    have hcnt := cntS_eq hrd c0
    rw [hqn] at hcnt
    have HCNT := Lib.hid hcnt
    have HNX := Lib.hid (nxP_cuts hcs)
    clear hq' hrd hcs hnf hK hqn hcnt hCS0
    cases ch with
    | false =>
      go_wp2_with fail
      go_ret2
      exact ⟨_, ⟨c0, rfl⟩, q, HRD.out, HCS.out, HNF.out trivial, hb12.trans (hb.mono hs1)⟩
    | true =>
      obtain ⟨wo, rfl⟩ : ∃ wo : World, wo = wr := ⟨_, rfl⟩
      have HLB := Lib.hid (liveBefore_any n want (some ⟨g, 0, none⟩) AN len c0 cN q wo HRD.out (by rw [HNX.out]; exact (hg2.below hb (Nat.le_refl _)).more (by omega)) HQN.out HCQ.out hw)
      go_wp2_with fail
      refine HLB.out.mono ?_
      rintro e w3 ⟨F, rfl, hown3, hF, hb3⟩
      have HF := Lib.hid hF
      have hs3 := hb3.size
      have HP0 := Lib.hid (Pss.start want q)
      have hK3 := HK.out.quiet hb3
      have hb23 := hb.trans (hb3.mono (by omega))
      have hgK := HK.out.gt
      clear hF HLB hb3
      go_wp2_with fail
      go_loopw [11, 34] (fun s z wr => ∃ (i : Nat) (c2 : Bool) (r : List Bk) (qr : List (Bk × Option Addr × Nat)), i ≤ len ∧ z = .int .i64 i ∧ s = .bool c2 ∧ qr.map (·.1) = r ∧ KpT wr w1.heap.size g len c0 qr ∧ Pss want q i c2 r ∧ Own wr wo.heap.size 23 (uv F) ∧ Below w1.heap.size w2 wr) (fun _ z _ => len - (intOf z).toNat)
      case atStart => exact ⟨0, false, q, qs', Nat.zero_le _, rfl, rfl, HQ'.out, hK3, HP0.out, hown3, hb23⟩
      case round =>
        obtain ⟨i, c2, r, qr, hi, rfl, rfl, hqr, hKr, hps, hownF, hbr⟩ := hrel
        have HPS := Lib.hid hps
        have HQR := Lib.hid hqr
        have HKR := Lib.hid hKr
        have hszr := hbr.size
        have HRL : Hid (r.length = len) := Lib.hid (by rw [hps.cuts.len, HQN.out])
        have HFL : Hid (F.length = len) := Lib.hid (by rw [HF.out.len, HQN.out])
        clear hps hqr
        by_cases hlt : i < len
        · obtain ⟨⟨⟨code, te, th, el⟩, Ac, cc⟩, hqi⟩ : ∃ x, qr[i]? = some x := ⟨_, List.getElem?_eq_getElem (by rw [hKr.ln]; exact hlt)⟩
          obtain ⟨k0, k1, k2, k3⟩ := kp_at hKr hqi
          obtain ⟨hrow, hcap, hnotg⟩ := hKr.rows i _ hqi
          have hri : r[i]? = some ⟨code, te, th, el⟩ := by rw [← HQR.out, List.getElem?_map, hqi]; rfl
          have hpi : q[i]? = some ⟨code, te, th, el⟩ := by rw [← HPS.out.rest i (Nat.le_refl _)]; exact hri
          have hbk := ckProg_at HCQ.out hpi
          have hcm := manyS_le hpi
          have hle20 : manyS q ≤ manyS p := HCS.out.le
          simp only at k0 k1 k2 k3 hrow hcap hcm
          obtain ⟨cl, hcl⟩ : ∃ cl, code.length = cl := ⟨_, rfl⟩
          rw [hcl] at k0 hcap hcm
          have HCL := Lib.hid hcl
          have HQI := Lib.hid hqi
          have HPI := Lib.hid hpi
          have HBK := Lib.hid hbk
          have HROW := Lib.hid hrow
          obtain ⟨adn, row, Ar, cr, hAN, hbln, hdn, hcn, hrdn⟩ := (hg2.below hbr (Nat.le_refl _)).at_ (k := i) (by rw [nxP, List.length_map, HL.out]; exact hlt)
          subst hAN
          have hrw : row = nxB ⟨code, te, th, el⟩ := by
            rw [← HNX.out, nxP, List.getElem?_map, hpi] at hdn
            injection hdn with hdn
            exact hdn.symm
          subst hrw
          obtain ⟨fl, hfl⟩ : ∃ fl, (nxB ⟨code, te, th, el⟩).length = fl := ⟨_, rfl⟩
          rw [hfl] at hcn
          have HFL2 := Lib.hid hfl
          have HRDN := Lib.hid hrdn
          have hgr := hKr.gt
          have hFlt := hownF.lt
          obtain ⟨wq, hwq⟩ : ∃ wq, wq = wr.alloc (.cells #[.slice Ac cl cc, .int .i64 te, .int .i64 th, .int .i64 el] 79) := ⟨_, rfl⟩
          have hbq : Below wr.heap.size wr wq := by rw [hwq]; go_grown
          have hbxq : Own wq wr.heap.size 79 [.slice Ac cl cc, .int .i64 te, .int .i64 th, .int .i64 el] := by rw [hwq]; exact Own.new _ _ _
          have hsq : wq.heap.size = wr.heap.size + 1 := by rw [hwq]; simp
          clear hqi hri hpi hbk hcl hrow hdn hrdn hfl
          have x0 := hbxq.cell (j := 0) rfl
          have x1 := hbxq.cell (j := 1) rfl
          have x2 := hbxq.cell (j := 2) rfl
          have x3 := hbxq.cell (j := 3) rfl
          obtain ⟨S, hSd⟩ : ∃ S : World → Prop, S = fun Z : World => Z.cell? ⟨wr.heap.size, 0, none⟩ = some (.slice Ac cl cc) ∧ Z.cell? ⟨wr.heap.size, 1, none⟩ = some (.int .i64 te) ∧ Z.cell? ⟨wr.heap.size, 2, none⟩ = some (.int .i64 th) ∧ Z.cell? ⟨wr.heap.size, 3, none⟩ = some (.int .i64 el) ∧
              Z.cell? (adn.add i) = some (.slice Ar fl cr) := ⟨_, rfl⟩
          have HSI : Hid (∀ Z : World, Below wq.heap.size wq Z → S Z) := Lib.hid fun Z hZ => by
            rw [hSd]
            exact ⟨(hZ.cell (p := ⟨wr.heap.size, 0, none⟩) (by simp; omega)).trans x0, (hZ.cell (p := ⟨wr.heap.size, 1, none⟩) (by simp; omega)).trans x1, (hZ.cell (p := ⟨wr.heap.size, 2, none⟩) (by simp; omega)).trans x2, (hZ.cell (p := ⟨wr.heap.size, 3, none⟩) (by simp; omega)).trans x3,
              (hZ.cell (by omega)).trans ((hbq.cell (by omega)).trans hcn)⟩
          have HCELLS : Hid (∀ Z : World, S Z → Z.cell? ⟨wr.heap.size, 0, none⟩ = some (.slice Ac cl cc) ∧ Z.cell? ⟨wr.heap.size, 1, none⟩ = some (.int .i64 te) ∧ Z.cell? ⟨wr.heap.size, 2, none⟩ = some (.int .i64 th) ∧ Z.cell? ⟨wr.heap.size, 3, none⟩ = some (.int .i64 el) ∧
              Z.cell? (adn.add i) = some (.slice Ar fl cr)) := Lib.hid fun Z hZ => by rw [hSd] at hZ; exact hZ
          have HSS : Hid (∀ (Z : World) (v : Value), S Z → S (Z.setCell ⟨g, i * 4, none⟩ v)) := Lib.hid fun Z v hZ => by
            rw [hSd] at hZ ⊢
            obtain ⟨y0, y1, y2, y3, y4⟩ := hZ
            exact ⟨(World.cell?_setCell_far _ _ _ _ (by show g ≠ wr.heap.size; omega)).trans y0, (World.cell?_setCell_far _ _ _ _ (by show g ≠ wr.heap.size; omega)).trans y1, (World.cell?_setCell_far _ _ _ _ (by show g ≠ wr.heap.size; omega)).trans y2, (World.cell?_setCell_far _ _ _ _ (by show g ≠ wr.heap.size; omega)).trans y3, (World.cell?_setCell_far _ _ _ _ (by show g ≠ (adn.add i).block; omega)).trans y4⟩
          clear hSd
          have HLBC : Hid (∀ Z : World, Below wq.heap.size wq Z → Calls Try.prog 53 #[.agg #[.slice Ac cl cc, .int .i64 te, .int .i64 th, .int .i64 el], .slice Ar fl cr, .int .u32 (want : Nat), .slice (some ⟨wo.heap.size, 0, none⟩) len len] Z fun e w' => e = .returned (.int .u32 (lbW ⟨code, te, th, el⟩ F want : Nat)) ∧ Below Z.heap.size Z w') := Lib.hid fun Z hZ => by
            have hrZ : Below wr.heap.size wr Z := hbq.trans (hZ.mono (by omega))
            have hsZ := hZ.size
            exact liveBehind_any n q.length Ac Ar (some ⟨wo.heap.size, 0, none⟩) cl cc fl cr len len want 0 ⟨code, te, th, el⟩ F Z HBK.out hn6 HCL.out ((HRDN.out.below hrZ (by omega)).more (by omega)) HFL2.out ((OwnU.rd (hownF.below hrZ hFlt)).more (by omega)) HFL.out HQN.out.symm HF.out.lt hw
          obtain ⟨LB, hLB⟩ : ∃ LB, lbW ⟨code, te, th, el⟩ F want = LB := ⟨_, rfl⟩
          have hLBn : LB < 2 ^ n := by rw [← hLB]; exact lbW_lt HBK.out HF.out.lt hw
          rw [hLB] at HLBC
          have HLBE := Lib.hid hLB
          have HND : Hid (∀ Z : World, Below wq.heap.size wq Z → Calls Try.prog 52 #[.slice Ac cl cc, .int .u32 (LB : Nat)] Z fun e w' => ∃ A' c', e = .returned (.slice A' (nedL code LB).1.length c') ∧ w'.ownsRow Z.heap.size 87 5 (.slice A' (nedL code LB).1.length c') (nedL code LB).1.length (rv cSt (nedL code LB).1) ∧ Below Z.heap.size Z w') := Lib.hid fun Z hZ => by
            have hrZ : Below wr.heap.size wr Z := hbq.trans (hZ.mono (by omega))
            have hsZ := hZ.size
            exact neededSteps_any n Ac cl cc LB code Z ((HROW.out.below hrZ (Nat.le_refl _)).more (by omega)) HCL.out (by omega) (StOk.of HBK.out.code) hn6 hLBn
          have hB0 : Below wq.heap.size wq wq.drew := (Below.refl _ wq).drew
          have hS0 := HSI.out _ hB0
          clear hLB x0 x1 x2 x3 hcn
          go_wp2
          rw [← hwq]
          clear hwq
          refine wp_region_held_drew (S := S) (by kernel_rfl) hS0 (fun _ => ?_)
          refine wpAnyH_take (i := 0) (v := ?_) rfl (by kernel_rfl) (by kernel_rfl) (by kernel_rfl) (fun _ _ _ h => h) (Or.inl ⟨by rfl, ?_⟩) hS0 ?_
          rotate_left
          · intro Z hS
            obtain ⟨y0, y1, y2, y3, y4⟩ := HCELLS.out Z hS
            go_simp
            try with_reducible rfl
          simp only [Act.put, List.setIfInBounds_toArray, List.set_cons_zero, List.set_cons_succ]
          refine wpAnyH_take (i := 1) (v := ?_) rfl (by kernel_rfl) (by kernel_rfl) (by kernel_rfl) (fun _ _ _ h => h) (Or.inl ⟨by rfl, ?_⟩) hS0 ?_
          rotate_left
          · intro Z hS
            obtain ⟨y0, y1, y2, y3, y4⟩ := HCELLS.out Z hS
            go_simp
            try with_reducible rfl
          simp only [Act.put, List.setIfInBounds_toArray, List.set_cons_zero, List.set_cons_succ]
          refine wpAnyH_take (i := 2) (v := ?_) rfl (by kernel_rfl) (by kernel_rfl) (by kernel_rfl) (fun _ _ _ h => h) (Or.inl ⟨by rfl, ?_⟩) hS0 ?_
          rotate_left
          · intro Z hS
            obtain ⟨y0, y1, y2, y3, y4⟩ := HCELLS.out Z hS
            go_simp
            try with_reducible rfl
          simp only [Act.put, List.setIfInBounds_toArray, List.set_cons_zero, List.set_cons_succ]
          refine wpAnyH_take (i := 3) (v := ?_) rfl (by kernel_rfl) (by kernel_rfl) (by kernel_rfl) (fun _ _ _ h => h) (Or.inl ⟨by rfl, ?_⟩) hS0 ?_
          rotate_left
          · intro Z hS
            obtain ⟨y0, y1, y2, y3, y4⟩ := HCELLS.out Z hS
            go_simp
            try with_reducible rfl
          simp only [Act.put, List.setIfInBounds_toArray, List.set_cons_zero, List.set_cons_succ]
          refine wpAnyH_take (i := 4) (v := ?_) rfl (by kernel_rfl) (by kernel_rfl) (by kernel_rfl) (fun _ _ _ h => h) (Or.inl ⟨by rfl, ?_⟩) hS0 ?_
          rotate_left
          · intro Z hS
            obtain ⟨y0, y1, y2, y3, y4⟩ := HCELLS.out Z hS
            go_simp
            try with_reducible rfl
          simp only [Act.put, List.setIfInBounds_toArray, List.set_cons_zero, List.set_cons_succ]
          refine wpAnyH_take (i := 5) (v := ?_) rfl (by kernel_rfl) (by kernel_rfl) (by kernel_rfl) (fun _ _ _ h => h) (Or.inl ⟨by rfl, ?_⟩) hS0 ?_
          rotate_left
          · intro Z hS
            obtain ⟨y0, y1, y2, y3, y4⟩ := HCELLS.out Z hS
            go_simp
            try with_reducible rfl
          simp only [Act.put, List.setIfInBounds_toArray, List.set_cons_zero, List.set_cons_succ]
          refine wpAnyH_take (i := 6) (v := ?_) rfl (by kernel_rfl) (by kernel_rfl) (by kernel_rfl) (fun _ _ _ h => h) (Or.inl ⟨by rfl, ?_⟩) hS0 ?_
          rotate_left
          · intro Z hS
            obtain ⟨y0, y1, y2, y3, y4⟩ := HCELLS.out Z hS
            go_simp
            try with_reducible rfl
          simp only [Act.put, List.setIfInBounds_toArray, List.set_cons_zero, List.set_cons_succ]
          refine wpAnyH_take (i := 7) (v := ?_) rfl (by kernel_rfl) (by kernel_rfl) (by kernel_rfl) (fun _ _ _ h => h) (Or.inl ⟨by rfl, ?_⟩) hS0 ?_
          rotate_left
          · intro Z hS
            obtain ⟨y0, y1, y2, y3, y4⟩ := HCELLS.out Z hS
            go_simp
            try with_reducible rfl
          simp only [Act.put, List.setIfInBounds_toArray, List.set_cons_zero, List.set_cons_succ]
          refine wpAnyH_take (i := 8) (v := ?_) rfl (by kernel_rfl) (by kernel_rfl) (by kernel_rfl) (fun _ _ _ h => h) (Or.inl ⟨by rfl, ?_⟩) hS0 ?_
          rotate_left
          · intro Z hS
            obtain ⟨y0, y1, y2, y3, y4⟩ := HCELLS.out Z hS
            go_simp
            try with_reducible rfl
          simp only [Act.put, List.setIfInBounds_toArray, List.set_cons_zero, List.set_cons_succ]
          refine wpAnyH_take (i := 9) (v := ?_) rfl (by kernel_rfl) (by kernel_rfl) (by kernel_rfl) (fun _ _ _ h => h) (Or.inl ⟨by rfl, ?_⟩) hS0 ?_
          rotate_left
          · intro Z hS
            obtain ⟨y0, y1, y2, y3, y4⟩ := HCELLS.out Z hS
            go_simp
            try with_reducible rfl
          simp only [Act.put, List.setIfInBounds_toArray, List.set_cons_zero, List.set_cons_succ]
          refine wpAnyH_take (i := 10) (v := ?_) rfl (by kernel_rfl) (by kernel_rfl) (by kernel_rfl) (fun _ _ _ h => h) (Or.inl ⟨by rfl, ?_⟩) hS0 ?_
          rotate_left
          · intro Z hS
            obtain ⟨y0, y1, y2, y3, y4⟩ := HCELLS.out Z hS
            go_simp
            try with_reducible rfl
          simp only [Act.put, List.setIfInBounds_toArray, List.set_cons_zero, List.set_cons_succ]
          refine wpAnyH_ready (rs := [11]) (by kernel_rfl) (by simp) (AllReadyH.cons rfl (fun K hK' => ?_) AllReadyH.nil)
          go_simp
          refine (HLBC.out _ hB0).mono ?_
          rintro e w5 ⟨rfl, hb5⟩
          have hB5 : Below wq.heap.size wq w5 := hB0.trans hb5
          have hS5 := HSI.out _ hB5
          refine hK'.out _ _ hS5 (fun _ => ?_)
          clear hK' K
          refine wpAnyH_ready (rs := [12]) (by kernel_rfl) (by simp) (AllReadyH.cons rfl (fun K hK' => ?_) AllReadyH.nil)
          go_simp
          refine (HND.out _ hB5).mono ?_
          rintro e w6 ⟨A6, c6, rfl, hown6, hb6⟩
          have hB6 : Below wq.heap.size wq w6 := hB5.trans (hb6.mono hB5.size)
          have hS6 := HSI.out _ hB6
          refine hK'.out _ _ hS6 (fun _ => ?_)
          clear hK' K
          refine wpAnyH_take (i := 13) (v := ?_) rfl (by kernel_rfl) (by kernel_rfl) (by kernel_rfl) (fun _ _ _ h => h) (Or.inl ⟨by rfl, ?_⟩) hS6 ?_
          rotate_left
          · intro Z hS
            obtain ⟨y0, y1, y2, y3, y4⟩ := HCELLS.out Z hS
            go_simp
            try with_reducible rfl
          simp only [Act.put, List.setIfInBounds_toArray, List.set_cons_zero, List.set_cons_succ]
          refine wpAnyH_take (i := 14) (v := ?_) rfl (by kernel_rfl) (by kernel_rfl) (by kernel_rfl) (fun _ _ _ h => h) (Or.inl ⟨by rfl, ?_⟩) hS6 ?_
          rotate_left
          · intro Z hS
            obtain ⟨y0, y1, y2, y3, y4⟩ := HCELLS.out Z hS
            go_simp
            try with_reducible rfl
          simp only [Act.put, List.setIfInBounds_toArray, List.set_cons_zero, List.set_cons_succ]
          have hBr6 : Below wr.heap.size wr w6 := hbq.trans (hB6.mono (by omega))
          have hK6 := HKR.out.quiet hBr6
          obtain ⟨t0, _, _, _⟩ := kp_at hK6 HQI.out
          rw [show (⟨code, te, th, el⟩ : Bk).code.length = cl from HCL.out] at t0
          have t1 := hK6.own.frozenAt (i * 4)
          obtain ⟨R, hR⟩ : ∃ R, (nedL code LB).1 = R := ⟨_, rfl⟩
          rw [hR] at hown6
          obtain ⟨nl, hnl⟩ : ∃ nl, R.length = nl := ⟨_, rfl⟩
          rw [hnl] at hown6
          have HR := Lib.hid hR
          have HNL := Lib.hid hnl
          have hne6 : ∀ ad, A6 = some ad → ad.block ≠ g := fun ad hA e => by
            have hsz5 := hB5.size
            subst hA
            obtain ⟨h1, _⟩ := hown6.lt ad.block rfl
            omega
          have hkn := hK6.set (b' := ⟨R, te, th, el⟩) HQI.out rfl rfl rfl HNL.out (own_rdR hown6 HNL.out) (own_capB hown6) (fun _ => hne6)
          refine wpAnyH_ready (rs := [15]) (by kernel_rfl) (by simp) (AllReadyH.cons rfl (fun K hK' => ?_) AllReadyH.nil)
          rw [HR.out, HNL.out]
          go_simp
          refine hK'.out _ _ (HSS.out _ _ hS6) (fun _ => ?_)
          clear hK' K
          refine wpAnyH_done (by kernel_rfl) ?_ _
          have hnp : npB ⟨code, te, th, el⟩ F want = ⟨R, te, th, el⟩ := by unfold npB; rw [HLBE.out, HR.out]
          have hst := HPS.out.step HCQ.out (HPS.out.cuts.ok HCQ.out) HF.out HPI.out
          rw [hnp] at hst
          simp only at hst
          rw [HNL.out, HCL.out] at hst
          have HST := Lib.hid hst
          have hB7 : Below w1.heap.size w2 (w6.setCell ⟨g, i * 4, none⟩ (.slice A6 nl c6)) := (hbr.trans (hBr6.mono (by omega))).setCell (p := ⟨g, i * 4, none⟩) hgr.1 _
          have hF7 : Own (w6.setCell ⟨g, i * 4, none⟩ (.slice A6 nl c6)) wo.heap.size 23 (uv F) := (hownF.below hBr6 hFlt).far (by show wo.heap.size ≠ g; omega) _
          have hS7 := HSS.out _ (.slice A6 nl c6) hS6
          obtain ⟨y0, _, _, _, _⟩ := HCELLS.out _ hS7
          obtain ⟨z0, _, _, _⟩ := kp_at hkn (b := ⟨R, te, th, el⟩) (List.getElem?_set_self (by have := HKR.out.ln; omega))
          rw [show (⟨R, te, th, el⟩ : Bk).code.length = nl from HNL.out] at z0
          have HM : Hid ((qr.set i (⟨R, te, th, el⟩, A6, c6)).map (·.1) = r.set i ⟨R, te, th, el⟩) := Lib.hid (by rw [List.map_set, HQR.out])
          obtain ⟨w7, hw7⟩ : ∃ w7, w6.setCell ⟨g, i * 4, none⟩ (.slice A6 nl c6) = w7 := ⟨_, rfl⟩
          rw [hw7] at hkn hB7 hF7 y0 z0 ⊢
          have HKN := Lib.hid hkn
          clear hw7 hkn hst hnp hR hnl t0 t1 hK6 hS0 hS5 hS6 hS7 hown6 hb5 hb6 hne6
          cases c2 with
          | true =>
            go_wp2
            go_quiet (fail)
            go_wp2
            go_round
            case rel => exact ⟨i + 1, true, r.set i ⟨R, te, th, el⟩, _, by omega, by go_num, rfl, HM.out, HKN.out.quiet (below_drewL (Below.refl _ _) nq), HST.out, hF7.below (below_drewL (Below.refl _ _) nq) hF7.lt, below_drewL hB7 nq⟩
            case measure => (simp [intOf]; omega)
          | false =>
            rw [Bool.false_or] at HST
            obtain ⟨d, hd⟩ : ∃ d, decide (nl < cl) = d := ⟨_, rfl⟩
            rw [hd] at HST
            have HD := Lib.hid hd
            clear hd
            go_wp2
            go_quiet (fail)
            go_wp2
            go_round
            case rel => exact ⟨i + 1, d, r.set i ⟨R, te, th, el⟩, _, by omega, by go_num, by rw [HD.out], HM.out, HKN.out.quiet (below_drewL (Below.refl _ _) nq), HST.out, hF7.below (below_drewL (Below.refl _ _) nq) hF7.lt, below_drewL hB7 nq⟩
            case measure => (simp [intOf]; omega)
        · have hil : i = q.length := by rw [HQN.out]; omega
          have HEND := Lib.hid (by have := HPS.out; rw [hil] at this; exact this)
          have hcr := HPS.out.cuts.len
          rw [HQN.out] at hcr
          have hrdr := hKr.rd
          rw [HQR.out] at hrdr
          have hcnt := cntS_eq hrdr c0
          rw [hcr] at hcnt
          have HCN2 := Lib.hid hcnt
          clear hil hcr hrdr hcnt
          cases c2 with
          | true =>
            have hlt2 : manyS r < manyS q := by
              obtain ⟨r', h1, h2⟩ := HEND.out.yes rfl
              have := h1.less
              have := h2.le
              omega
            have HLT := Lib.hid hlt2
            clear hlt2
            go_wp2
            go_round
            case rel => exact ⟨true, r, qr, rfl, HQR.out, HKR.out, HCS.out.trans HEND.out.cuts, fun h => (by cases h), hbr⟩
            case measure => rw [HCNT.out, HCN2.out]; simp [flagN]; exact HLT.out
          | false =>
            obtain ⟨he, hnf⟩ := HEND.out.end_
            have HE := Lib.hid he
            have HNF2 := Lib.hid hnf
            clear he hnf
            go_wp2
            go_round
            case rel => exact ⟨false, r, qr, rfl, HQR.out, HKR.out, HCS.out.trans HEND.out.cuts, fun _ => by rw [HE.out]; exact HNF2.out, hbr⟩
            case measure => rw [HCNT.out, HCN2.out, HE.out]; simp [flagN]

theorem trimIs : TrimIs where
  trim := fun n want A len cap p w hx hl hc hw => liveTrim_any n want A len cap p w hx hl hc hw
  trimBad := fun vars want A len cap p w hx hl hm hin hw hc => liveTrim_bad vars want A len cap p w hx hl hm hin hw hc

end Go.Proofs.Ytfhnhbkdhdocjaa
