/-
  single.execute, follower, valuesOf; slices.Index over ints (M1).
-/
import Derived.Test.YtgcjknibelfjbaaSingleOpen
import Derived.Test.YtgcjknibelfjbaaMTerm
import Derived.Test.YtgcjknibelfjbaaMBlock
import Derived.Deep.RegionWith
import Derived.Deep.RegionLaw
import Derived.Laws.Rows
import Derived.BigRegion
namespace Go.Proofs.Ytgcjknibelfjbaa
open Go.RowKit
set_option linter.unusedSimpArgs false
set_option linter.unusedVariables false
set_option maxRecDepth 100000

/-- what joins hand over from one source, and what names have then -/
def jnV (v : List Int) (src : Nat) (js : List Jn) : List Int := js.map fun j => v.getD (j.fr.getD src 0).toNat 0

def jnX : List Jn → List Int → List Int → List Int
  | j :: r, x :: xs, w => jnX r xs (w.set j.to.toNat x)
  | _, _, w => w

theorem jnS_none {v w : List Int} {last : Int} {to : Nat} : ∀ {srcs fr : List Int}, last ∉ srcs → jnS v last to srcs fr w = w
  | [], _, _ => by unfold jnS; rfl
  | f :: ss, [], _ => by unfold jnS; rfl
  | f :: ss, n :: ns, h => by
    rw [List.mem_cons, not_or] at h
    rw [jnS, if_neg (fun e => h.1 e.symm), jnS_none h.2]

theorem jnS_at {v : List Int} {last : Int} {to : Nat} : ∀ {srcs fr : List Int} {src : Nat} {w : List Int}, srcs.Nodup → srcs[src]? = some last → fr.length = srcs.length → jnS v last to srcs fr w = w.set to (v.getD (fr.getD src 0).toNat 0)
  | [], _, _, _, _, h, _ => by simp at h
  | f :: ss, [], _, _, _, _, h => by simp at h
  | f :: ss, n :: ns, 0, w, hn, h, hl => by
    simp at h
    subst h
    rw [jnS, if_pos rfl, jnS_none (List.nodup_cons.1 hn).1]
    simp
  | f :: ss, n :: ns, s + 1, w, hn, h, hl => by
    have h2 : ss[s]? = some last := by simpa using h
    have hne : f ≠ last := fun e => (List.nodup_cons.1 hn).1 (by rw [e]; exact List.mem_of_getElem? h2)
    rw [jnS, if_neg hne, jnS_at (List.nodup_cons.1 hn).2 h2 (by simpa using hl)]
    simp

theorem jnsS_jnX {v : List Int} {last : Int} {srcs : List Int} {src : Nat} (hn : srcs.Nodup) (h : srcs[src]? = some last) : ∀ {js : List Jn} {w : List Int}, (∀ j ∈ js, j.fr.length = srcs.length) → jnsS v last srcs js w = jnX js (jnV v src js) w
  | [], _, _ => rfl
  | j :: r, w, hl => by
    rw [jnsS, jnS_at hn h (hl j (List.mem_cons_self ..)), jnsS_jnX hn h fun x hx => hl x (List.mem_cons_of_mem _ hx)]
    rfl

theorem jnX_drop {js : List Jn} {J w : List Int} {k : Nat} {j : Jn} {x : Int} (h : js[k]? = some j) (hx : J[k]? = some x) : jnX (js.drop k) (J.drop k) w = jnX (js.drop (k + 1)) (J.drop (k + 1)) (w.set j.to.toNat x) := by
  rw [drop_at h, drop_at hx]
  rfl

theorem jnX_done {js : List Jn} {J w : List Int} {k : Nat} (h : js.length ≤ k) : jnX (js.drop k) (J.drop k) w = w := by
  rw [List.drop_of_length_le h]
  unfold jnX
  rfl

theorem jnV_at {v : List Int} {src k : Nat} {js : List Jn} {j : Jn} (h : js[k]? = some j) : (jnV v src js)[k]? = some (v.getD (j.fr.getD src 0).toNat 0) := by
  unfold jnV
  rw [List.getElem?_map, h]
  rfl

theorem jnV_len (v : List Int) (src : Nat) (js : List Jn) : (jnV v src js).length = js.length := by simp [jnV]

theorem jnX_len : ∀ (js : List Jn) (J w : List Int), (jnX js J w).length = w.length
  | [], _, _ => by unfold jnX; rfl
  | _ :: _, [], _ => by unfold jnX; rfl
  | j :: r, x :: xs, w => by rw [jnX, jnX_len r xs]; simp

theorem jnX_ok {n : Nat} : ∀ {js : List Jn} {J w : List Int}, ValsOk n w → (∀ x ∈ J, 0 ≤ x ∧ x ≤ 255) → ValsOk n (jnX js J w)
  | [], _, _, h, _ => by unfold jnX; exact h
  | _ :: _, [], _, h, _ => by unfold jnX; exact h
  | j :: r, x :: xs, w, h, hJ => by
    rw [jnX]
    exact jnX_ok (h.set (hJ x (List.mem_cons_self ..))) fun y hy => hJ y (List.mem_cons_of_mem _ hy)

theorem vals_getD {n : Nat} {v : List Int} (h : ValsOk n v) (k : Nat) : 0 ≤ v.getD k 0 ∧ v.getD k 0 ≤ 255 := by
  rw [List.getD_eq_getElem?_getD]
  cases e : v[k]? with
  | none => simp
  | some x => exact h.2 k x e

theorem jnV_ok {n : Nat} {v : List Int} (h : ValsOk n v) (src : Nat) (js : List Jn) : ∀ x ∈ jnV v src js, 0 ≤ x ∧ x ≤ 255 := fun x hx => by
  obtain ⟨j, _, rfl⟩ := List.mem_map.1 hx
  exact vals_getD h _

/-- the first place of a number -/
theorem indexI_any (A : Option Addr) (n c : Nat) (xs : List Int) (x : Int) (p : Nat) (B : Nat) (w : World) (hx : RdI w B A xs) (hl : xs.length = n) (hm : n ≤ maxLen) (hp : xs[p]? = some x) (hn : xs.Nodup) :
    Calls Try.prog 29 #[.slice A n c, .int .i64 x] w fun e w' => e = .returned (.int .i64 p) ∧ w = w' := by
  unfold maxLen at hm
  have HL := Lib.hid hl
  have HP := Lib.hid hp
  have HN := Lib.hid hn
  have hpn : p < n := by rw [← hl]; exact (List.getElem?_eq_some_iff.1 hp).1
  clear hl hp hn
  go_enter Try.func29, Try.ntmps29
  go_wp2
  go_loop [8] (fun i => ∃ k : Nat, k ≤ p ∧ i = .int .i64 k) (fun i => n - (intOf i).toNat)
  case atStart => exact ⟨0, Nat.zero_le _, rfl⟩
  case round =>
    obtain ⟨k, hk, rfl⟩ := hrel
    obtain ⟨ad, y, rfl, hbl, hd, hcell⟩ := hx.at_ (k := k) (by rw [HL.out]; omega)
    have hlt : k < n := by omega
    by_cases hxy : k = p
    · subst hxy
      rw [HP.out] at hd
      injection hd with hd
      subst hd
      go_wp2
      go_ret
      exact ⟨rfl, rfl⟩
    · have hne : x ≠ y := fun e => hxy ((List.getElem?_inj (by rw [HL.out]; exact hlt) HN.out).1 (hd.trans (by rw [HP.out, e])))
      have hb : (x == y) = false := by simp [hne]
      clear hd hne
      go_wp2
      go_round
      case rel => exact ⟨k + 1, by omega, by go_num⟩
      case measure => (simp [intOf]; omega)

set_option maxHeartbeats 8000000 in
theorem execute_any (Aj Ac Al : Option Addr) (n2 cj n1 cc n3 cl g c0 src ns base : Nat) (js : List Jn) (co : List St) (te th el : Int) (v : List Int) (w : World)
    (hj : RdJ w base Aj js) (hc : RdS w base Ac co) (hjl : js.length = n2) (hcl : co.length = n1) (b2 : n2 ≤ 64) (b1 : n1 ≤ 20) (hns : src < ns) (hjs : ∀ j ∈ js, ckJn ns j = 0) (hco : ckStNs co = 0) (hok : ValsOk 128 v)
    (hbs : base ≤ w.heap.size) (hown : w.ownsRow base 3 1 (.slice (some ⟨g, 0, none⟩) 128 c0) 128 (iv v)) :
    Calls Try.prog 28 #[.agg #[.slice Aj n2 cj, .slice Ac n1 cc, .int .i64 te, .int .i64 th, .int .i64 el, .slice Al n3 cl], .int .i64 src, .slice (some ⟨g, 0, none⟩) 128 c0] w fun e w' =>
      e = .returned (.tuple #[]) ∧ w'.ownsRow base 3 1 (.slice (some ⟨g, 0, none⟩) 128 c0) 128 (iv (doS co (jnX js (jnV v src js) v))) ∧ Wrote g w w' := by
  have HN1 := Lib.hid hcl
  have HN2 := Lib.hid hjl
  have HRJ := Lib.hid hj
  have HRC := Lib.hid hc
  have HJS := Lib.hid hjs
  have HOK := Lib.hid hok
  have HCK := Lib.hid (ckStNs_steps hco)
  have HOWN := Lib.hid hown
  have hgb := (hown.lt g rfl).1
  have hgl := (hown.lt g rfl).2
  obtain ⟨J, hJ⟩ : ∃ J, jnV v src js = J := ⟨_, rfl⟩
  have HJ := Lib.hid hJ
  have HJL : Hid (J.length = n2) := Lib.hid (by rw [← hJ, jnV_len, hjl])
  have HJO := Lib.hid (jnV_ok hok src js)
  rw [hJ] at HJO ⊢
  obtain ⟨F, hF⟩ : ∃ F, doS co (jnX js J v) = F := ⟨_, rfl⟩
  have HF := Lib.hid hF
  rw [hF]
  clear hj hc hjl hcl hjs hok hco hown hJ hF
  have hbox := Own.new w 43 [.slice Aj n2 cj, .slice Ac n1 cc, .int .i64 te, .int .i64 th, .int .i64 el, .slice Al n3 cl]
  go_enter Try.func28, Try.ntmps28
  go_wp2
  go_loopw [6, 16] (fun s6 z wr => ∃ (k : Nat) (A : Option Addr) (c : Nat), k ≤ n2 ∧ z = .int .i64 k ∧ s6 = .slice A k c ∧ wr.ownsRow (w.heap.size + 1) 3 1 (.slice A k c) k (iv (J.take k)) ∧ Own wr w.heap.size 43 [.slice Aj n2 cj, .slice Ac n1 cc, .int .i64 te, .int .i64 th, .int .i64 el, .slice Al n3 cl] ∧ Below w.heap.size w wr) (fun _ z _ => n2 - (intOf z).toNat)
  case atStart => exact ⟨0, none, 0, Nat.zero_le _, rfl, rfl, World.ownsRow_nil _ _ _ _, hbox, by go_grown⟩
  case round =>
    obtain ⟨k, A, c, hk, rfl, rfl, hrow, hbx, hb⟩ := hrel
    have hsz := hb.size
    have hlt1 := hbx.lt
    have HBX := Lib.hid hbx
    have hvr := own_below HOWN.out hb
    by_cases hlt : k < n2
    · obtain ⟨ad2, ⟨to, fr⟩, Af, cf, rfl, hbl2, hd2, hrf, e0, e1, _⟩ := (HRJ.out.below hb hbs).at_ (k := k) (by rw [HN2.out]; exact hlt)
      have hjo := ckJn_ok (HJS.out _ (List.mem_of_getElem? hd2))
      simp only [] at e0 e1 hrf hjo
      obtain ⟨hfl, _, hfo⟩ := hjo
      obtain ⟨ad3, x, rfl, hbl3, hd3, hcell3⟩ := hrf.at_ (k := src) (by omega)
      have hx := nmsOk_at hfo (List.mem_of_getElem? hd3)
      obtain ⟨xn, rfl⟩ := Int.eq_ofNat_of_zero_le hx.1
      have hxn : xn < 128 := by omega
      have hxl : xn < v.length := by rw [HOK.out.1]; exact hxn
      have hcx := (hvr.cellAt xn (by omega)).trans (iv_at (List.getElem?_eq_getElem hxl))
      have hJk : J[k]? = some (v[xn]) := by
        rw [← HJ.out, jnV_at hd2, List.getD_eq_getElem?_getD, List.getD_eq_getElem?_getD, hd3]
        simp [hxl]
      have HJT : Hid (J.take (k + 1) = J.take k ++ [v[xn]]) := Lib.hid (by rw [List.take_add_one, hJk]; rfl)
      have hfl2 : fr.length = ns := hfl
      rw [hfl2] at e1
      generalize v[xn] = y at *
      have hc3 := hcell3
      have h63 : k + 1 ≤ maxLen := by unfold maxLen; omega
      have hbig : (k + 1) * 8 ≤ 140737488355328 := by omega
      have hb2r : (ad2.add (k * 2)).block < wr.heap.size := by omega
      have hb3r : (ad3.add src).block < wr.heap.size := by omega
      clear hd2 hd3 hfl hfl2 hfo hrf hJk hbx
      have hgr : g < wr.heap.size := by omega
      go_wp2_with (at_builtin; refine wpList_app' rfl (.tmp 20) (.tmp 29) 26 rfl (w.heap.size + 1) 3 1 8 int_app _ rfl (own_below hrow (by go_grown)) [.int .i64 y] rfl rfl (fun h => by cases h) (cells_at (by simp) _ _) (one_cell _) h63 hbig (by simp; omega) ?_; intro A5 c5 w5 hown5 hg5 hb5 hk5)
      go_round
      case rel => exact ⟨k + 1, A5, c5, by omega, by go_num, rfl, by rw [HJT.out, iv_append]; exact hown5, HBX.out.below ((by go_grown : Below (w.heap.size + 1) wr _).trans hb5) (Nat.lt_succ_self _), (by go_grown : Below w.heap.size w _).trans (hb5.mono (Nat.le_succ _))⟩
      case measure => (simp [intOf]; omega)
    · have HTK : Hid (J.take k = J) := Lib.hid (List.take_of_length_le (by rw [HJL.out]; omega))
      rw [HTK.out] at hrow
      have hrowJ := hrow
      obtain ⟨kJ, hkJ⟩ : ∃ kJ, kJ = k := ⟨_, rfl⟩
      rw [← hkJ] at hrow hrowJ hlt hk ⊢
      clear hkJ
      have h1 := hbx.cell (j := 1) rfl
      have h0 := hbx.cell (j := 0) rfl
      have hR0 : Hid (jnX js J v = jnX (js.drop 0) (J.drop 0) v) := Lib.hid rfl
      obtain ⟨wa, rfl⟩ : ∃ wa : World, wa = wr := ⟨_, rfl⟩
      clear hrow
      go_wp2
      go_loopw [35] (fun z wr => ∃ (k : Nat) (r : List Int), k ≤ n2 ∧ z = .int .i64 k ∧ ValsOk 128 r ∧ jnX js J v = jnX (js.drop k) (J.drop k) r ∧ wr.ownsRow (w.heap.size + 1) 3 1 (.slice A kJ c) kJ (iv J) ∧ wr.ownsRow base 3 1 (.slice (some ⟨g, 0, none⟩) 128 c0) 128 (iv r) ∧ Own wr w.heap.size 43 [.slice Aj n2 cj, .slice Ac n1 cc, .int .i64 te, .int .i64 th, .int .i64 el, .slice Al n3 cl] ∧ Wrote g w wr) (fun z _ => n2 - (intOf z).toNat)
      case atStart => exact ⟨0, v, Nat.zero_le _, rfl, HOK.out, hR0.out, hrowJ, hvr, HBX.out, Wrote.of_below hb⟩
      case round =>
        obtain ⟨k, r, hk, rfl, hro, hr, hrJ, hrv, hbx, hwr⟩ := hrel
        have hbw : Below base w wr := hwr.below hgb hbs
        have HRO := Lib.hid hro
        have HR := Lib.hid hr
        have HRJ2 := Lib.hid hrJ
        have HRV := Lib.hid hrv
        have hszw := hwr.size
        have HBX := Lib.hid hbx
        clear hro hr hrJ
        by_cases hlt : k < n2
        · obtain ⟨ad2, ⟨to, fr⟩, Af, cf, rfl, hbl2, hd2, hrf, e0, e1, _⟩ := (HRJ.out.below hbw (Nat.le_refl _)).at_ (k := k) (by rw [HN2.out]; exact hlt)
          have hjo := ckJn_ok (HJS.out _ (List.mem_of_getElem? hd2))
          simp only [] at e0 e1 hrf hjo
          obtain ⟨hfl, hto, hfo⟩ := hjo
          obtain ⟨tn, rfl⟩ := Int.eq_ofNat_of_zero_le hto.1
          have htn : tn < 128 := by omega
          have hJl : k < J.length := by rw [HJL.out]; exact hlt
          have hJk := List.getElem?_eq_getElem hJl
          have hxb := HJO.out _ (List.mem_of_getElem? hJk)
          have HSTEP := Lib.hid (jnX_drop (w := r) hd2 hJk)
          obtain ⟨gA, rfl, hgA, hgA2⟩ := own_form HRJ2.out (by omega)
          have hcx := (HRJ2.out.cellAt k (by omega)).trans (iv_at hJk)
          have hrtl : tn < r.length := by rw [HRO.out.1]; exact htn
          have hct := (hrv.cellAt tn (by omega)).trans (iv_at (List.getElem?_eq_getElem hrtl))
          have hfz := hrv.frozenAt tn
          have hgr : g < wr.heap.size := by omega
          have hb2r : (ad2.add (k * 2)).block < wr.heap.size := by omega
          have HST : Hid (∀ X : World, Below wr.heap.size wr X → (X.setCell ⟨g, tn, none⟩ (.int .i64 J[k])).ownsRow base 3 1 (.slice (some ⟨g, 0, none⟩) 128 c0) 128 (iv (r.set tn J[k]))) := Lib.hid fun X hX => by
            have := ((own_below HRV.out hX).stored tn (.int .i64 J[k])).1
            rw [iv_set] at this
            exact this
          have HXB := Lib.hid hxb
          generalize r[tn] = rt at *
          generalize J[k] = x at *
          clear hd2 hJk hfl hfo hrf hbx hrv hxb
          go_wp2
          go_region
          have hbZ : Below (wr.setCell ⟨g, tn, none⟩ (.int .i64 x)).heap.size (wr.setCell ⟨g, tn, none⟩ (.int .i64 x)) ((wr.setCell ⟨g, tn, none⟩ (.int .i64 x)).alloc (.cells #[.int .i64 tn, .slice Af fr.length cf] 59)).drew := by go_grown
          have z1 := own_below (HST.out wr (Below.refl _ _)) hbZ
          have z2 := own_below (own_farW HRJ2.out (p := ⟨g, tn, none⟩) (show g < w.heap.size + 1 by omega) (.int .i64 x)) hbZ
          have z3 := (HBX.out.far (p := ⟨g, tn, none⟩) (show w.heap.size ≠ g by omega) (.int .i64 x)).below hbZ (by simpa using HBX.out.lt)
          have z4 := (hwr.set (p := ⟨g, tn, none⟩) rfl (.int .i64 x)).andThen (hbZ.mono (by simpa using hszw))
          have HZ1 := Lib.hid z1
          have HZ2 := Lib.hid z2
          have HZ3 := Lib.hid z3
          have HZ4 := Lib.hid z4
          clear z1 z2 z3 z4 hbZ
          go_wp2
          go_round
          case rel => exact ⟨k + 1, r.set tn x, by omega, by go_num, HRO.out.set HXB.out, by rw [HR.out, HSTEP.out]; rfl, HZ2.out, HZ1.out, HZ3.out, HZ4.out⟩
          case measure => (simp [intOf]; omega)
        · have hkl : k = n2 := by omega
          have hrX : jnX js J v = r := by rw [HR.out, hkl]; exact jnX_done (by rw [HN2.out]; exact Nat.le_refl _)
          have HDA : Hid (DoAt 128 co r 0 r) := Lib.hid ⟨HRO.out, rfl⟩
          have HFR : Hid (F = doS co r) := Lib.hid (by rw [← HF.out, hrX])
          have h1 := hbx.cell (j := 1) rfl
          obtain ⟨wb, rfl⟩ : ∃ wb : World, wb = wr := ⟨_, rfl⟩
          clear hkl hrX hrv hbx h0
          go_wp2
          go_loopw [52] (fun z wr => ∃ (k : Nat) (q : List Int), k ≤ n1 ∧ z = .int .i64 k ∧ DoAt 128 co r k q ∧ wr.ownsRow base 3 1 (.slice (some ⟨g, 0, none⟩) 128 c0) 128 (iv q) ∧ Wrote g w wr) (fun z _ => n1 - (intOf z).toNat)
          case atStart => exact ⟨0, r, Nat.zero_le _, rfl, HDA.out, HRV.out, hwr⟩
          case round =>
            obtain ⟨k, q, hk, rfl, hq, hqv, hwq⟩ := hrel
            have hbq : Below base w wr := hwq.below hgb hbs
            have HQ := Lib.hid hq
            have HQV := Lib.hid hqv
            have hszq := hwq.size
            have HQL := Lib.hid hq.1.1
            clear hq
            by_cases hct : k < n1
            · obtain ⟨ad2, o, t, a, b, vv, rfl, hbl2, hd2, e0, e1, e2, e3, e4⟩ := (RdS.below HRC.out hbq (Nat.le_refl _)).at_ (k := k) (by rw [HN1.out]; exact hct)
              have hcks := ckStepsF_at HCK.out hd2
              simp only [] at hcks
              have hxb := stV_self HQ.out.1 hcks
              have hsv : ∀ Z : World, Below wr.heap.size wr Z → Calls Try.prog 53 #[.agg #[.int .i64 o, .int .i64 t, .int .i64 a, .int .i64 b, .int .i64 vv], .slice (some ⟨g, 0, none⟩) 128 c0, .slice (some ⟨g, 0, none⟩) 128 c0] Z fun e w' => e = .returned (.tuple #[.int .i64 (stV q ⟨o, t, a, b, vv⟩ q), .int .i64 0]) ∧ Below Z.heap.size Z w' := fun Z hZ =>
                stepValue_any _ _ 128 c0 128 c0 o t a b vv q q Z (((own_rdI HQV.out HQL.out).below hZ (Nat.le_refl _)).more hZ.size) (((own_rdI HQV.out HQL.out).below hZ (Nat.le_refl _)).more hZ.size) HQL.out HQL.out hcks HQ.out.1.2
              have HD := Lib.hid (drop_at hd2)
              obtain ⟨⟨ht0, ht1⟩, hcase⟩ := ckStep_cases hcks
              obtain ⟨x, hxe⟩ : ∃ x, stV q ⟨o, t, a, b, vv⟩ q = x := ⟨_, rfl⟩
              rw [hxe] at hsv hxb
              have HSV := Lib.hid hsv
              have HXB := Lib.hid hxb
              have HXE := Lib.hid hxe.symm
              clear hd2 hsv hcks hcase hxb hxe
              obtain ⟨tn, rfl⟩ := Int.eq_ofNat_of_zero_le ht0
              have htn : tn < 128 := by omega
              have htl : tn < q.length := by rw [HQL.out]; exact htn
              have HCT := Lib.hid (iv_at (List.getElem?_eq_getElem htl))
              have hgr : g < wr.heap.size := by omega
              have hb2r : (ad2.add (k * 5)).block < wr.heap.size := by omega
              generalize q[tn] = xt at *
              clear hqv htl
              go_wp2
              go_region_with (go_at_call 53; (with_reducible refine (HSV.out _ (by go_grown)).mono ?_); rintro e w5 ⟨rfl, hb5⟩; have hbr5 : Below wr.heap.size wr w5 := Below.trans (by go_grown) (hb5.mono (by go_size)); have q1 : w5.cell? ⟨wr.heap.size, 1, none⟩ = some (.int .i64 tn) := (hb5.cell (p := ⟨wr.heap.size, 1, none⟩) (by go_size)).trans (by simp); have hqv5 := own_below HQV.out hbr5; have hct5 := (hqv5.cellAt tn (by omega)).trans HCT.out; have hfz5 := hqv5.frozenAt tn)
              all_goals
                have hst5 := (hqv5.stored tn (.int .i64 x)).1
                rw [iv_set] at hst5
                have hwf := (hwq.andThen (hbr5.mono hszq)).set (p := ⟨g, tn, none⟩) rfl (.int .i64 x)
                go_wp2
                go_round
                case rel => exact ⟨k + 1, q.set tn x, by omega, by go_num, DoAt.step HQ.out HD.out HXE.out HXB.out, hst5, hwf⟩
                case measure => (simp [intOf]; omega)
            · have hkl : n1 = k := by omega
              have hqf : F = q := by
                rw [HFR.out, HQ.out.2, ← hkl, List.drop_of_length_le (by rw [HN1.out]; exact Nat.le_refl _)]
                rfl
              have HQF := Lib.hid hqf
              clear hqf hkl
              go_wp2
              go_returns
              exact ⟨rfl, by rw [HQF.out]; exact HQV.out, hwq⟩

set_option maxHeartbeats 4000000 in
theorem snFollower_any (Aj Ac Al VA : Option Addr) (n2 cj n1 cc n3 cl n vc : Nat) (te th el : Int) (js : List Jn) (co : List St) (la v : List Int) (w : World) (hv : RdI w w.heap.size VA v) (hl : v.length = n) (ht : te = -1 ∨ (0 ≤ te ∧ te < n)) :
    Calls Try.prog 30 #[.agg #[.slice Aj n2 cj, .slice Ac n1 cc, .int .i64 te, .int .i64 th, .int .i64 el, .slice Al n3 cl], .slice VA n vc] w fun e w' => e = .returned (.int .i64 (goB (bareS ⟨js, co, te, th, el, la⟩) v)) ∧ Below w.heap.size w w' := by
  rcases ht with rfl | ⟨h0, h1⟩
  · have hg : goB (bareS ⟨js, co, -1, th, el, la⟩) v = th := by unfold goB bareS; rw [if_neg (fun h => by have := h.1; simp at this)]
    rw [hg]
    clear hg hv hl
    go_enter Try.func30, Try.ntmps30
    go_wp2
    go_ret
    exact ⟨rfl, by go_grown⟩
  · obtain ⟨tn, rfl⟩ := Int.eq_ofNat_of_zero_le h0
    have htn : tn < n := by omega
    obtain ⟨ad, x, rfl, hbl, hx, hcx⟩ := hv.at_ (k := tn) (by rw [hl]; exact htn)
    have hgv : v.getD tn 0 = x := by rw [List.getD_eq_getElem?_getD, hx]; rfl
    have htm : (((tn : Int)) != -1) = true := by simp
    clear hx hl hv
    by_cases hx0 : x = 0
    · have hg : goB (bareS ⟨js, co, tn, th, el, la⟩) v = el := by unfold goB bareS; rw [if_pos ⟨by simp, by simp only [Int.toNat_natCast]; rw [hgv]; exact hx0⟩]
      rw [hg]
      have hx1 : (x == 0) = true := by simp [hx0]
      clear hg hgv hx0
      go_enter Try.func30, Try.ntmps30
      go_wp2
      go_ret
      exact ⟨rfl, by go_grown⟩
    · have hg : goB (bareS ⟨js, co, tn, th, el, la⟩) v = th := by unfold goB bareS; rw [if_neg (fun h => by have := h.2; simp only [Int.toNat_natCast] at this; rw [hgv] at this; exact hx0 this)]
      rw [hg]
      have hx1 : (x == 0) = false := by simp [hx0]
      clear hg hgv hx0
      go_enter Try.func30, Try.ntmps30
      go_wp2
      go_ret
      exact ⟨rfl, by go_grown⟩

set_option maxHeartbeats 4000000 in
theorem valuesOf_any (A VA : Option Addr) (m c n vc : Nat) (xs v : List Int) (w : World) (hx : RdI w w.heap.size A xs) (hv : RdI w w.heap.size VA v) (hxl : xs.length = m) (hvl : v.length = n) (hm : m ≤ 64) (hok : ∀ x ∈ xs, 0 ≤ x ∧ x < n) :
    Calls Try.prog 31 #[.slice A m c, .slice VA n vc] w fun e w' => ∃ A' c', e = .returned (.slice A' m c') ∧ RdI w' w'.heap.size A' (xs.map fun x => v.getD x.toNat 0) ∧ Below w.heap.size w w' := by
  have HXL := Lib.hid hxl
  have HVL := Lib.hid hvl
  have HOK := Lib.hid hok
  have HX := Lib.hid hx
  have HV := Lib.hid hv
  obtain ⟨Y, hY⟩ : ∃ Y, (xs.map fun x => v.getD x.toNat 0) = Y := ⟨_, rfl⟩
  have HY := Lib.hid hY
  have HYL : Hid (Y.length = m) := Lib.hid (by rw [← hY, List.length_map, hxl])
  rw [hY]
  clear hxl hvl hok hY hx hv
  go_enter Try.func31, Try.ntmps31
  go_wp2
  go_loopw [5, 10] (fun s5 z wr => ∃ (k : Nat) (A5 : Option Addr) (c5 : Nat), k ≤ m ∧ z = .int .i64 k ∧ s5 = .slice A5 k c5 ∧ wr.ownsRow w.heap.size 3 1 (.slice A5 k c5) k (iv (Y.take k)) ∧ Below w.heap.size w wr) (fun _ z _ => m - (intOf z).toNat)
  case atStart => exact ⟨0, none, 0, Nat.zero_le _, rfl, rfl, World.ownsRow_nil _ _ _ _, Below.refl _ _⟩
  case round =>
    obtain ⟨k, A5, c5, hk, rfl, rfl, hrow, hb⟩ := hrel
    have hsz := hb.size
    by_cases hlt : k < m
    · obtain ⟨ad, x, rfl, hbl, hd, hcell⟩ := (HX.out.below hb (Nat.le_refl _)).at_ (k := k) (by rw [HXL.out]; exact hlt)
      have hxb := HOK.out x (List.mem_of_getElem? hd)
      obtain ⟨xn, rfl⟩ := Int.eq_ofNat_of_zero_le hxb.1
      have hxn : xn < n := by omega
      obtain ⟨ad2, y, rfl, hbl2, hd2, hcell2⟩ := (HV.out.below hb (Nat.le_refl _)).at_ (k := xn) (by rw [HVL.out]; exact hxn)
      have HT : Hid (Y.take (k + 1) = Y.take k ++ [y]) := Lib.hid (by
        have : Y[k]? = some y := by
          rw [← HY.out, List.getElem?_map, hd]
          simp [List.getD_eq_getElem?_getD, hd2]
        rw [List.take_add_one, this]
        rfl)
      have h63 : k + 1 ≤ maxLen := by unfold maxLen; omega
      have hbig : (k + 1) * 8 ≤ 140737488355328 := by omega
      clear hd hd2
      go_wp2_with (at_builtin; refine wpList_app rfl (.tmp 14) (.tmp 19) 26 rfl w.heap.size 3 1 8 int_app _ rfl (own_below hrow (by go_grown)) [.int .i64 y] rfl rfl (fun h => by cases h) (cells_at (by simp) _ _) (one_cell _) h63 hbig (by simp; omega) ?_; intro A6 c6 w6 hown6 hg6 hb6)
      go_round
      case rel => exact ⟨k + 1, A6, c6, by omega, by go_num, rfl, by rw [HT.out, iv_append]; exact hown6, (by go_grown : Below w.heap.size w _).trans hb6⟩
      case measure => (simp [intOf]; omega)
    · have HT : Hid (Y.take k = Y) := Lib.hid (List.take_of_length_le (by rw [HYL.out]; omega))
      have hkm : k = m := by omega
      subst hkm
      rw [HT.out] at hrow
      have HR := Lib.hid (own_rdI hrow HYL.out)
      clear hrow
      go_wp2
      go_ret
      exact ⟨_, _, rfl, HR.out, hb⟩

end Go.Proofs.Ytgcjknibelfjbaa
