/-
  A program of one block, cut in two blocks at any place, stops with the same (J1, J2): codemasonkeep.BlockSplit returns true and leaves its arguments alone. No condition.
-/
import Derived.Test.YtfbpalgeajgbhaaLawBlock
import Derived.Test.YtfbpalgeajgbhaaBlock
import Derived.IntWalk
namespace Go.Proofs.Ytfbpalgeajgbhaa
open Go.RowKit Go.ChangeShapes Go.WideShapes Go.ChangeAt Go.Deep
set_option linter.unusedSimpArgs false
set_option linter.unusedVariables false
set_option maxRecDepth 100000

theorem rv_split {α : Type} (c : α → List Value) (l : List α) (i : Nat) : rv c l = rv c (l.take i) ++ rv c (l.drop i) := by rw [← rv_append, List.take_append_drop]

theorem RdS.take {w : World} {B : Nat} {A : Option Addr} {l : List St} (h : RdS w B A l) (i : Nat) : RdS w B A (l.take i) := fun hp => by
  have hle : (l.take i).length ≤ l.length := by rw [List.length_take]; omega
  obtain ⟨ad, e, hb, hc⟩ := h (by omega)
  refine ⟨ad, e, hb, fun j hj => ?_⟩
  rw [hc j (by omega)]
  show some ((rv cSt l).getD j undef) = some ((rv cSt (l.take i)).getD j undef)
  rw [List.getD_eq_getElem?_getD, List.getD_eq_getElem?_getD, rv_split cSt l i, List.getElem?_append_left (by rw [rv_len cSt_len]; exact hj)]

theorem RdS.drop {w : World} {B : Nat} {ad : Addr} {l : List St} (h : RdS w B (some ad) l) (i : Nat) : RdS w B (some (ad.add (i * 5))) (l.drop i) := fun hp => by
  have hi : i < l.length := by
    rcases Nat.lt_or_ge i l.length with h1 | h1
    · exact h1
    · rw [List.drop_of_length_le h1] at hp; simp at hp
  have hlt : (l.take i).length = i := by rw [List.length_take]; omega
  have hld : (l.drop i).length = l.length - i := by simp
  obtain ⟨ad', e, hb, hc⟩ := h (by omega)
  injection e with e
  subst e
  refine ⟨_, rfl, by rw [addr_add_block]; exact hb, fun j hj => ?_⟩
  rw [addr_add_add, hc _ (by omega)]
  show some ((rv cSt l).getD (i * 5 + j) undef) = some ((rv cSt (l.drop i)).getD j undef)
  rw [List.getD_eq_getElem?_getD, List.getD_eq_getElem?_getD, rv_split cSt l i, List.getElem?_append_right (by rw [rv_len cSt_len, hlt]; omega), rv_len cSt_len, hlt, Nat.add_sub_cancel_left]

theorem RdS.nil_drop {w : World} {B : Nat} {A A' : Option Addr} {l : List St} {i : Nat} (h : l.length ≤ i) : RdS w B A' (l.drop i) := fun hp => by
  rw [List.drop_of_length_le h] at hp
  simp at hp

theorem own_add {w : World} {g : Nat} {t : TypeId} {cs : List Value} (h : Own w g t cs) {k : Nat} {v : Value} (hv : cs[k]? = some v) : w.cell? ((⟨g, 0, none⟩ : Addr).add k) = some v := by
  have ha : (⟨g, 0, none⟩ : Addr).add k = ⟨g, k, none⟩ := by unfold Addr.add; split <;> simp_all
  rw [ha]
  exact h.cell hv

theorem own_add' {w : World} {g : Nat} {t : TypeId} {cs : List Value} (h : Own w g t cs) {k i : Nat} {v : Value} (hv : cs[k + i]? = some v) : w.cell? ⟨((⟨g, 0, none⟩ : Addr).add k).block, ((⟨g, 0, none⟩ : Addr).add k).off + i, none⟩ = some v := by
  have ha : (⟨g, 0, none⟩ : Addr).add k = ⟨g, k, none⟩ := by unfold Addr.add; split <;> simp_all
  rw [ha]
  exact h.cell hv

theorem rdP_one {w : World} {g B : Nat} {t : TypeId} {A : Option Addr} {n c : Nat} {code : List St} {te th el : Int} (h : Own w g t [.slice A n c, .int .i64 te, .int .i64 th, .int .i64 el]) (hB : g < B) (hr : RdS w B A code) (hn : code.length = n) : RdP w B (some ⟨g, 0, none⟩) [⟨code, te, th, el⟩] := fun _ => by
  subst hn
  refine ⟨_, rfl, hB, fun k b hk => ?_⟩
  cases k with
  | succ k => simp at hk
  | zero =>
    simp only [List.getElem?_cons_zero, Option.some.injEq] at hk
    subst hk
    exact ⟨A, c, hr, own_add h rfl, own_add' h rfl, own_add' h rfl, own_add' h rfl⟩

theorem rdP_two {w : World} {g B : Nat} {t : TypeId} {A A' : Option Addr} {n c n' c' : Nat} {code code' : List St} {te th el te' th' el' : Int} (h : Own w g t [.slice A n c, .int .i64 te, .int .i64 th, .int .i64 el, .slice A' n' c', .int .i64 te', .int .i64 th', .int .i64 el']) (hB : g < B) (hr : RdS w B A code) (hn : code.length = n) (hr' : RdS w B A' code') (hn' : code'.length = n') :
    RdP w B (some ⟨g, 0, none⟩) [⟨code, te, th, el⟩, ⟨code', te', th', el'⟩] := fun _ => by
  subst hn hn'
  refine ⟨_, rfl, hB, fun k b hk => ?_⟩
  rcases k with _ | _ | k
  · simp only [List.getElem?_cons_zero, Option.some.injEq] at hk
    subst hk
    exact ⟨A, c, hr, own_add h rfl, own_add' h rfl, own_add' h rfl, own_add' h rfl⟩
  · simp only [List.getElem?_cons_succ, List.getElem?_cons_zero, Option.some.injEq] at hk
    subst hk
    exact ⟨A', c', hr', own_add h rfl, own_add' h rfl, own_add' h rfl, own_add' h rfl⟩
  · simp at hk

/-- the two programs -/
def oneP (code : List St) : List Bk := [⟨code, -1, -1, 0⟩]

def twoP (code : List St) (i : Nat) : List Bk := [⟨code.take i, -1, 1, 0⟩, ⟨code.drop i, -1, -1, 0⟩]

theorem two_many (code : List St) (i : Nat) : manyS (twoP code i) = manyS (oneP code) := by
  simp only [twoP, oneP, manyS, List.length_take, List.length_drop]
  omega

theorem split_ck {vars : Int} {code : List St} {i : Nat} : ckProg vars (oneP code) = 0 ↔ ckProg vars (twoP code i) = 0 := by
  constructor
  · intro h
    obtain ⟨n, rfl, _, _⟩ := ckProg_nat h
    obtain ⟨h1, h2, _, _, h5, h6⟩ := ckProg_bd h
    have h7 := (ckProg_at h (k := 0) rfl).code
    simp only [] at h7
    have hall : ∀ s ∈ code, ckStep n n s.op s.to s.a s.b s.v = 0 := fun s hs => by
      obtain ⟨k, hk, e⟩ := List.getElem_of_mem hs
      exact ckStepsF_at h7 (i := k) (by rw [List.getElem?_eq_getElem hk, e])
    refine ckProg_of h1 h2 (by simp [twoP]) (by simp [twoP]) (by rw [two_many]; exact h5) (ckBks_of fun b hb => ?_)
    simp only [twoP, List.mem_cons, List.not_mem_nil, or_false] at hb
    rcases hb with rfl | rfl
    · exact ckBk_of ⟨ckStepsF_of fun s hs => hall s (List.mem_of_mem_take hs), .inl rfl, .inl ⟨by simp, by simp [twoP]⟩, fun h => by simp at h⟩
    · exact ckBk_of ⟨ckStepsF_of fun s hs => hall s (List.mem_of_mem_drop hs), .inl rfl, .inr ⟨rfl, rfl⟩, fun h => by simp at h⟩
  · intro h
    obtain ⟨n, rfl, _, _⟩ := ckProg_nat h
    obtain ⟨h1, h2, _, _, h5, h6⟩ := ckProg_bd h
    have h7 := (ckProg_at h (k := 0) rfl).code
    have h8 := (ckProg_at h (k := 1) rfl).code
    simp only [] at h7 h8
    have hall : ∀ s ∈ code, ckStep n n s.op s.to s.a s.b s.v = 0 := fun s hs => by
      rw [← List.take_append_drop i code, List.mem_append] at hs
      rcases hs with hs | hs
      · obtain ⟨k, hk, e⟩ := List.getElem_of_mem hs
        exact ckStepsF_at h7 (i := k) (by rw [List.getElem?_eq_getElem hk, e])
      · obtain ⟨k, hk, e⟩ := List.getElem_of_mem hs
        exact ckStepsF_at h8 (i := k) (by rw [List.getElem?_eq_getElem hk, e])
    refine ckProg_of h1 h2 (by simp [oneP]) (by simp [oneP]) (by rw [← two_many code i]; exact h5) (ckBks_of fun b hb => ?_)
    simp only [oneP, List.mem_cons, List.not_mem_nil, or_false] at hb
    subst hb
    exact ckBk_of ⟨ckStepsF_of hall, .inl rfl, .inr ⟨rfl, rfl⟩, fun h => by simp at h⟩

theorem split_go {vars : Int} {code : List St} {i : Nat} {hv : List Int} : ckGo vars (oneP code) hv = 0 ↔ ckGo vars (twoP code i) hv = 0 :=
  ⟨fun h => ckGo_of (split_ck.1 (ckGo_ok h).1) (ckGo_ok h).2, fun h => ckGo_of (split_ck.2 (ckGo_ok h).1) (ckGo_ok h).2⟩

theorem inBk_of {c : List St} {te th el : Int} (hc : c.length * 40 ≤ 140737488351232) (h1 : inI te) (h2 : inI th) (h3 : inI el) : InBk ⟨c, te, th, el⟩ := ⟨hc, h1, h2, h3⟩

theorem small_in {x : Int} (h : -1 ≤ x ∧ x ≤ 1) : inI x := ⟨by omega, by omega⟩

theorem one_in {code : List St} (hc : code.length * 40 ≤ 140737488351232) : ∀ b ∈ oneP code, InBk b := fun b hb => by
  simp only [oneP, List.mem_cons, List.not_mem_nil, or_false] at hb
  subst hb
  exact inBk_of hc (small_in (by omega)) (small_in (by omega)) (small_in (by omega))

theorem two_in {code : List St} {i : Nat} (hc : code.length * 40 ≤ 140737488351232) : ∀ b ∈ twoP code i, InBk b := fun b hb => by
  simp only [twoP, List.mem_cons, List.not_mem_nil, or_false] at hb
  rcases hb with rfl | rfl
  · exact inBk_of (by rw [List.length_take]; omega) (small_in (by omega)) (small_in (by omega)) (small_in (by omega))
  · exact inBk_of (by rw [List.length_drop]; omega) (small_in (by omega)) (small_in (by omega)) (small_in (by omega))

/-- where the two programs lie -/
theorem split_laid {w X : World} {A A2 : Option Addr} {cl cap i c2 n2 : Nat} {code : List St} (hx : RdS w w.heap.size A code) (hl : code.length = cl) (hil : i ≤ cl) (hn2 : cl - i = n2) (hr2 : RdS w w.heap.size A2 (code.drop i))
    (hX : X = ((w.alloc (.cells #[.slice A cl cap, .int .i64 (-1), .int .i64 (-1), .int .i64 0] 56)).alloc (.cells #[.slice A i cap, .int .i64 (-1), .int .i64 1, .int .i64 0, .slice A2 n2 c2, .int .i64 (-1), .int .i64 (-1), .int .i64 0] 56)).drew) :
    RdP X X.heap.size (some ⟨w.heap.size, 0, none⟩) (oneP code) ∧ RdP X X.heap.size (some ⟨w.heap.size + 1, 0, none⟩) (twoP code i) ∧ Below w.heap.size w X := by
  subst hX
  have hb : Below w.heap.size w (((w.alloc (.cells #[.slice A cl cap, .int .i64 (-1), .int .i64 (-1), .int .i64 0] 56)).alloc (.cells #[.slice A i cap, .int .i64 (-1), .int .i64 1, .int .i64 0, .slice A2 n2 c2, .int .i64 (-1), .int .i64 (-1), .int .i64 0] 56)).drew) := by go_grown
  have o1 : Own (((w.alloc (.cells #[.slice A cl cap, .int .i64 (-1), .int .i64 (-1), .int .i64 0] 56)).alloc (.cells #[.slice A i cap, .int .i64 (-1), .int .i64 1, .int .i64 0, .slice A2 n2 c2, .int .i64 (-1), .int .i64 (-1), .int .i64 0] 56)).drew) w.heap.size 56 [.slice A cl cap, .int .i64 (-1), .int .i64 (-1), .int .i64 0] := ((Own.new w _ _).alloc _).drew
  have o2 : Own (((w.alloc (.cells #[.slice A cl cap, .int .i64 (-1), .int .i64 (-1), .int .i64 0] 56)).alloc (.cells #[.slice A i cap, .int .i64 (-1), .int .i64 1, .int .i64 0, .slice A2 n2 c2, .int .i64 (-1), .int .i64 (-1), .int .i64 0] 56)).drew) (w.heap.size + 1) 56 [.slice A i cap, .int .i64 (-1), .int .i64 1, .int .i64 0, .slice A2 n2 c2, .int .i64 (-1), .int .i64 (-1), .int .i64 0] := by
    have := Own.new (w.alloc (.cells #[.slice A cl cap, .int .i64 (-1), .int .i64 (-1), .int .i64 0] 56)) 56 [.slice A i cap, .int .i64 (-1), .int .i64 1, .int .i64 0, .slice A2 n2 c2, .int .i64 (-1), .int .i64 (-1), .int .i64 0]
    have e : (w.alloc (.cells #[.slice A cl cap, .int .i64 (-1), .int .i64 (-1), .int .i64 0] 56)).heap.size = w.heap.size + 1 := by simp
    rw [e] at this
    exact this.drew
  have hx' := (hx.below hb (Nat.le_refl _)).more hb.size
  have hr2' := (hr2.below hb (Nat.le_refl _)).more hb.size
  exact ⟨rdP_one o1 o1.lt hx' hl, rdP_two o2 o2.lt (hx'.take i) (by rw [List.length_take]; omega) hr2' (by rw [List.length_drop]; omega), hb⟩

set_option maxHeartbeats 8000000 in
theorem lawBlockSplit_any (K : BlockIs) (vars : Int) (A HA : Option Addr) (cap kn hcap : Nat) (code : List St) (hv : List Int) (w : World) (hx : RdS w w.heap.size A code) (hh : RdI w w.heap.size HA hv) (hcm : code.length * 40 ≤ 140737488351232) (hcc : code.length ≤ cap) (hkn : kn ≤ 255) (hhm : hv.length ≤ maxLen) :
    Calls Try.prog 9 #[.int .i64 vars, .slice A code.length cap, .int .u8 (kn : Nat), .slice HA hv.length hcap] w fun e w' => e = .returned (.bool true) ∧ Below w.heap.size w w' := by
  have HIN1 := Lib.hid (one_in hcm)
  have HIN2 := Lib.hid (fun i => two_in (i := i) hcm)
  have HHM := Lib.hid hhm
  have HSP := Lib.hid (fun i => split_go (vars := vars) (code := code) (i := i) (hv := hv))
  have HRUN := Lib.hid (fun i => split_run (code := code) i hv)
  obtain ⟨cl, hl⟩ : ∃ cl, code.length = cl := ⟨_, rfl⟩
  rw [hl] at hcm hcc ⊢
  obtain ⟨hn, hhn⟩ : ∃ hn, hv.length = hn := ⟨_, rfl⟩
  have HHN := Lib.hid hhn
  rw [hhn] at HHM ⊢
  have hne : ((cl : Int) + 1 == 0) = false := by simp; omega
  have hpos : 0 < cl + 1 := by omega
  obtain ⟨i, hi⟩ : ∃ i, kn % (cl + 1) = i := ⟨_, rfl⟩
  have hil : i ≤ cl := by have := Nat.mod_lt kn hpos; omega
  have htm : ((kn : Int)).tmod ((cl : Int) + 1) = (i : Int) := by rw [← hi]; exact (Int.ofNat_tmod kn (cl + 1)).symm
  have hem : ((kn : Int)) % ((cl : Int) + 1) = (i : Int) := by rw [← hi]; exact (Int.natCast_emod kn (cl + 1)).symm
  have HL := Lib.hid hl
  have HSL := Lib.hid (fun X A2 c2 n2 hn2 hr2 => split_laid (X := X) (A2 := A2) (cap := cap) (c2 := c2) (n2 := n2) hx hl hil hn2 hr2)
  have HDR : Hid (RdS w w.heap.size (A.map (·.add (i * 5))) (code.drop i)) := Lib.hid (by
    cases A with
    | none => exact RdS.nil_drop (A := none) (by have := RdR.nil (by omega) hx rfl; omega)
    | some ad => exact hx.drop i)
  have HND : Hid (cl ≤ i → RdS w w.heap.size A (code.drop i)) := Lib.hid fun h => RdS.nil_drop (A := A) (by omega)
  clear hl hi hhn
  by_cases hci : cap = i
  · obtain rfl : cl = i := by omega
    subst hci
    obtain ⟨X, hX⟩ : ∃ X : World, X = ((w.alloc (.cells #[.slice A cap cap, .int .i64 (-1), .int .i64 (-1), .int .i64 0] 56)).alloc (.cells #[.slice A cap cap, .int .i64 (-1), .int .i64 1, .int .i64 0, .slice A 0 0, .int .i64 (-1), .int .i64 (-1), .int .i64 0] 56)).drew := ⟨_, rfl⟩
    obtain ⟨hp1, hp2, hbX⟩ := HSL.out X A 0 0 (by omega) (HND.out (Nat.le_refl _)) hX
    have hh1 := (hh.below hbX (Nat.le_refl _)).more hbX.size
    by_cases hc : ckGo vars (oneP code) hv = 0
    · obtain ⟨n, rfl, hn1, hn6⟩ := ckProg_nat (ckGo_ok hc).1
      · skip
        have HCH := Lib.hid hc
        have HC1 := Lib.hid (ckGo_ok hc).1
        have HC2 := Lib.hid (ckGo_ok ((HSP.out cap).1 hc)).1
        have HVO := Lib.hid (valsOk_of (ckGo_ok hc).2)
        have hnm : n ≤ maxLen := by unfold maxLen; omega
        have hhn2 := HVO.out.1
        rw [HHN.out] at hhn2
        subst hhn2
        clear hc
        go_enter Try.func9, Try.ntmps9
        go_wp2_with fail
        go_region
        go_wp2_with fail
        rw [← hX]
        refine (K.run hn _ HA 1 1 hcap (oneP code) hv _ hp1 hh1 rfl HC1.out HVO.out).mono ?_
        rintro e w1 ⟨hrt, hb1⟩
        rcases hrt with ⟨hr, _⟩ | ⟨x, l, A3, A4, c3, c4, hr, rfl, hr3, hr4⟩
        · exact absurd ((HRUN.out cap).1.symm.trans hr) (by simp)
        have hr := (HRUN.out cap).1.symm.trans hr
        simp only [Option.some.injEq, Prod.mk.injEq] at hr
        obtain ⟨rfl, rfl⟩ := hr
        have hb01 := hbX.trans (hb1.mono hbX.size)
        go_wp2_with fail
        refine (K.run hn _ HA 2 2 hcap (twoP code cap) hv _ ((hp2.below hb1 (Nat.le_refl _)).more hb1.size) ((hh1.below hb1 (Nat.le_refl _)).more hb1.size) rfl HC2.out HVO.out).mono ?_
        rintro e w2 ⟨hrt, hb2⟩
        rcases hrt with ⟨hr, _⟩ | ⟨x, l, A5, A6, c5, c6, hr, rfl, hr5, hr6⟩
        · exact absurd ((HRUN.out cap).2.symm.trans hr) (by simp)
        have hr := (HRUN.out cap).2.symm.trans hr
        simp only [Option.some.injEq, Prod.mk.injEq] at hr
        obtain ⟨rfl, rfl⟩ := hr
        have hb12 := hb1.trans (hb2.mono hb1.size)
        have hb02 := hb01.trans (hb2.mono hb01.size)
        have hr32 := (hr3.below hb2 (Nat.le_refl _)).more hb2.size
        go_wp2_with fail
        refine (runs_any hn _ HA 1 1 hn hcap (oneP code) hv _ ((hp1.below hb12 (Nat.le_refl _)).more hb12.size) ((hh1.below hb12 (Nat.le_refl _)).more hb12.size) rfl (by unfold maxLen; omega) HIN1.out HHN.out HHM.out).mono ?_
        rintro e w3 ⟨rfl, hb3⟩
        rw [decide_eq_true HCH.out]
        have hb03 := hb02.trans (hb3.mono hb02.size)
        have hr33 := (hr32.below hb3 (Nat.le_refl _)).more hb3.size
        have hr53 := (hr5.below hb3 (Nat.le_refl _)).more hb3.size
        have hr63 := (hr6.below hb3 (Nat.le_refl _)).more hb3.size
        have hdl : (doS code hv).length = hn := by rw [doS_len, HHN.out]
        rw [hdl]
        have HDL := Lib.hid hdl
        clear hdl
        go_wp2_with fail
        refine (ints_same A3 A5 _ c3 c5 (doS code hv) _ hr33 hr53 HDL.out HHM.out).mono ?_
        rintro e w4 ⟨rfl, hb4⟩
        have hb04 := hb03.trans (hb4.mono hb03.size)
        have hr64 := (hr63.below hb4 (Nat.le_refl _)).more hb4.size
        have hlit : RdI (w4.alloc (.cells #[.int .i64 0, .int .i64 1] 3)) (w4.alloc (.cells #[.int .i64 0, .int .i64 1] 3)).heap.size (some ⟨w4.heap.size, 0, none⟩) (ni [0, 1]) := (OwnI.rd (xs := [0, 1]) (Own.new w4 3 (iv [0, 1]))).more (by simp)
        have hr65 := (hr64.below (by go_grown : Below w4.heap.size w4 (w4.alloc (.cells #[.int .i64 0, .int .i64 1] 3))) (Nat.le_refl _)).more (B' := (w4.alloc (.cells #[.int .i64 0, .int .i64 1] 3)).heap.size) (by simp)
        go_wp2_with fail
        refine (ints_same A6 _ 2 c6 _ (ni [0, 1]) _ hr65 hlit rfl (by unfold maxLen; omega)).mono ?_
        rintro e w5 ⟨rfl, hb5⟩
        go_wp2
        go_ret
        exact ⟨ret_bool (by simp), (hb04.alloc hb04.size _).trans (hb5.mono (by have := hb04.size; simp; omega))⟩
    · · skip
        have hc2 : ckGo vars (twoP code cap) hv ≠ 0 := fun h => hc ((HSP.out cap).2 h)
        have HC1 := Lib.hid hc
        have HC2 := Lib.hid hc2
        have hne1 : (ckGo vars (oneP code) hv != 0) = true := by simp [hc]
        have hne2 : (ckGo vars (twoP code cap) hv != 0) = true := by simp [hc2]
        clear hc hc2
        go_enter Try.func9, Try.ntmps9
        go_wp2_with fail
        go_region
        go_wp2_with fail
        rw [← hX]
        refine (K.runBad vars _ HA 1 1 hn hcap (oneP code) hv _ hp1 hh1 rfl (by unfold maxLen; omega) HIN1.out HHN.out HHM.out HC1.out).mono ?_
        rintro e w1 ⟨A3, A4, c3, c4, rfl, hb1⟩
        have hb01 := hbX.trans (hb1.mono hbX.size)
        go_wp2_with fail
        refine (K.runBad vars _ HA 2 2 hn hcap (twoP code cap) hv _ ((hp2.below hb1 (Nat.le_refl _)).more hb1.size) ((hh1.below hb1 (Nat.le_refl _)).more hb1.size) rfl (by unfold maxLen; omega) (HIN2.out cap) HHN.out HHM.out HC2.out).mono ?_
        rintro e w2 ⟨A5, A6, c5, c6, rfl, hb2⟩
        have hb12 := hb1.trans (hb2.mono hb1.size)
        have hb02 := hb01.trans (hb2.mono hb01.size)
        go_wp2_with fail
        refine (runs_any vars _ HA 1 1 hn hcap (oneP code) hv _ ((hp1.below hb12 (Nat.le_refl _)).more hb12.size) ((hh1.below hb12 (Nat.le_refl _)).more hb12.size) rfl (by unfold maxLen; omega) HIN1.out HHN.out HHM.out).mono ?_
        rintro e w3 ⟨rfl, hb3⟩
        rw [decide_eq_false HC1.out]
        go_wp2
        go_ret
        exact ⟨ret_bool (by simp), hb02.trans (hb3.mono hb02.size)⟩
  · obtain ⟨X, hX⟩ : ∃ X : World, X = ((w.alloc (.cells #[.slice A cl cap, .int .i64 (-1), .int .i64 (-1), .int .i64 0] 56)).alloc (.cells #[.slice A i cap, .int .i64 (-1), .int .i64 1, .int .i64 0, .slice (A.map (·.add (i * 5))) (cl - i) (cap - i), .int .i64 (-1), .int .i64 (-1), .int .i64 0] 56)).drew := ⟨_, rfl⟩
    obtain ⟨hp1, hp2, hbX⟩ := HSL.out X (A.map (·.add (i * 5))) (cap - i) (cl - i) rfl HDR.out hX
    have hh1 := (hh.below hbX (Nat.le_refl _)).more hbX.size
    by_cases hc : ckGo vars (oneP code) hv = 0
    · obtain ⟨n, rfl, hn1, hn6⟩ := ckProg_nat (ckGo_ok hc).1
      · skip
        have HCH := Lib.hid hc
        have HC1 := Lib.hid (ckGo_ok hc).1
        have HC2 := Lib.hid (ckGo_ok ((HSP.out i).1 hc)).1
        have HVO := Lib.hid (valsOk_of (ckGo_ok hc).2)
        have hnm : n ≤ maxLen := by unfold maxLen; omega
        have hhn2 := HVO.out.1
        rw [HHN.out] at hhn2
        subst hhn2
        clear hc
        go_enter Try.func9, Try.ntmps9
        go_wp2_with fail
        go_region
        go_wp2_with fail
        rw [← hX]
        refine (K.run hn _ HA 1 1 hcap (oneP code) hv _ hp1 hh1 rfl HC1.out HVO.out).mono ?_
        rintro e w1 ⟨hrt, hb1⟩
        rcases hrt with ⟨hr, _⟩ | ⟨x, l, A3, A4, c3, c4, hr, rfl, hr3, hr4⟩
        · exact absurd ((HRUN.out i).1.symm.trans hr) (by simp)
        have hr := (HRUN.out i).1.symm.trans hr
        simp only [Option.some.injEq, Prod.mk.injEq] at hr
        obtain ⟨rfl, rfl⟩ := hr
        have hb01 := hbX.trans (hb1.mono hbX.size)
        go_wp2_with fail
        refine (K.run hn _ HA 2 2 hcap (twoP code i) hv _ ((hp2.below hb1 (Nat.le_refl _)).more hb1.size) ((hh1.below hb1 (Nat.le_refl _)).more hb1.size) rfl HC2.out HVO.out).mono ?_
        rintro e w2 ⟨hrt, hb2⟩
        rcases hrt with ⟨hr, _⟩ | ⟨x, l, A5, A6, c5, c6, hr, rfl, hr5, hr6⟩
        · exact absurd ((HRUN.out i).2.symm.trans hr) (by simp)
        have hr := (HRUN.out i).2.symm.trans hr
        simp only [Option.some.injEq, Prod.mk.injEq] at hr
        obtain ⟨rfl, rfl⟩ := hr
        have hb12 := hb1.trans (hb2.mono hb1.size)
        have hb02 := hb01.trans (hb2.mono hb01.size)
        have hr32 := (hr3.below hb2 (Nat.le_refl _)).more hb2.size
        go_wp2_with fail
        refine (runs_any hn _ HA 1 1 hn hcap (oneP code) hv _ ((hp1.below hb12 (Nat.le_refl _)).more hb12.size) ((hh1.below hb12 (Nat.le_refl _)).more hb12.size) rfl (by unfold maxLen; omega) HIN1.out HHN.out HHM.out).mono ?_
        rintro e w3 ⟨rfl, hb3⟩
        rw [decide_eq_true HCH.out]
        have hb03 := hb02.trans (hb3.mono hb02.size)
        have hr33 := (hr32.below hb3 (Nat.le_refl _)).more hb3.size
        have hr53 := (hr5.below hb3 (Nat.le_refl _)).more hb3.size
        have hr63 := (hr6.below hb3 (Nat.le_refl _)).more hb3.size
        have hdl : (doS code hv).length = hn := by rw [doS_len, HHN.out]
        rw [hdl]
        have HDL := Lib.hid hdl
        clear hdl
        go_wp2_with fail
        refine (ints_same A3 A5 _ c3 c5 (doS code hv) _ hr33 hr53 HDL.out HHM.out).mono ?_
        rintro e w4 ⟨rfl, hb4⟩
        have hb04 := hb03.trans (hb4.mono hb03.size)
        have hr64 := (hr63.below hb4 (Nat.le_refl _)).more hb4.size
        have hlit : RdI (w4.alloc (.cells #[.int .i64 0, .int .i64 1] 3)) (w4.alloc (.cells #[.int .i64 0, .int .i64 1] 3)).heap.size (some ⟨w4.heap.size, 0, none⟩) (ni [0, 1]) := (OwnI.rd (xs := [0, 1]) (Own.new w4 3 (iv [0, 1]))).more (by simp)
        have hr65 := (hr64.below (by go_grown : Below w4.heap.size w4 (w4.alloc (.cells #[.int .i64 0, .int .i64 1] 3))) (Nat.le_refl _)).more (B' := (w4.alloc (.cells #[.int .i64 0, .int .i64 1] 3)).heap.size) (by simp)
        go_wp2_with fail
        refine (ints_same A6 _ 2 c6 _ (ni [0, 1]) _ hr65 hlit rfl (by unfold maxLen; omega)).mono ?_
        rintro e w5 ⟨rfl, hb5⟩
        go_wp2
        go_ret
        exact ⟨ret_bool (by simp), (hb04.alloc hb04.size _).trans (hb5.mono (by have := hb04.size; simp; omega))⟩
    · · skip
        have hc2 : ckGo vars (twoP code i) hv ≠ 0 := fun h => hc ((HSP.out i).2 h)
        have HC1 := Lib.hid hc
        have HC2 := Lib.hid hc2
        have hne1 : (ckGo vars (oneP code) hv != 0) = true := by simp [hc]
        have hne2 : (ckGo vars (twoP code i) hv != 0) = true := by simp [hc2]
        clear hc hc2
        go_enter Try.func9, Try.ntmps9
        go_wp2_with fail
        go_region
        go_wp2_with fail
        rw [← hX]
        refine (K.runBad vars _ HA 1 1 hn hcap (oneP code) hv _ hp1 hh1 rfl (by unfold maxLen; omega) HIN1.out HHN.out HHM.out HC1.out).mono ?_
        rintro e w1 ⟨A3, A4, c3, c4, rfl, hb1⟩
        have hb01 := hbX.trans (hb1.mono hbX.size)
        go_wp2_with fail
        refine (K.runBad vars _ HA 2 2 hn hcap (twoP code i) hv _ ((hp2.below hb1 (Nat.le_refl _)).more hb1.size) ((hh1.below hb1 (Nat.le_refl _)).more hb1.size) rfl (by unfold maxLen; omega) (HIN2.out i) HHN.out HHM.out HC2.out).mono ?_
        rintro e w2 ⟨A5, A6, c5, c6, rfl, hb2⟩
        have hb12 := hb1.trans (hb2.mono hb1.size)
        have hb02 := hb01.trans (hb2.mono hb01.size)
        go_wp2_with fail
        refine (runs_any vars _ HA 1 1 hn hcap (oneP code) hv _ ((hp1.below hb12 (Nat.le_refl _)).more hb12.size) ((hh1.below hb12 (Nat.le_refl _)).more hb12.size) rfl (by unfold maxLen; omega) HIN1.out HHN.out HHM.out).mono ?_
        rintro e w3 ⟨rfl, hb3⟩
        rw [decide_eq_false HC1.out]
        go_wp2
        go_ret
        exact ⟨ret_bool (by simp), hb02.trans (hb3.mono hb02.size)⟩

theorem lawBlockSplit_int (K : BlockIs) (vars : Int) (A HA : Option Addr) (cap : Nat) (kn : Int) (hcap : Nat) (code : List St) (hv : List Int) (w : World) (hx : RdS w w.heap.size A code) (hh : RdI w w.heap.size HA hv) (hcm : code.length * 40 ≤ 140737488351232) (hcc : code.length ≤ cap) (hk : (Lit.int .u8 kn).wf = true) (hhm : hv.length ≤ maxLen) :
    Calls Try.prog 9 #[.int .i64 vars, .slice A code.length cap, .int .u8 kn, .slice HA hv.length hcap] w fun e w' => e = .returned (.bool true) ∧ Below w.heap.size w w' := by
  simp only [Lit.wf, Bool.and_eq_true, decide_eq_true_eq] at hk
  obtain ⟨h1, h2⟩ := hk
  have g1 : 0 ≤ kn := by simpa [IntKind.min, IntKind.bits, IntKind.signed] using h1
  have g2 : kn ≤ 255 := by simpa [IntKind.max, IntKind.bits, IntKind.signed] using h2
  obtain ⟨n, rfl⟩ := Int.eq_ofNat_of_zero_le g1
  exact lawBlockSplit_any K vars A HA cap n hcap code hv w hx hh hcm hcc (by omega) hhm

set_option maxRecDepth 100000 in
theorem lawBlockSplit_lifted (os : Os) (started : os.Started) (H : Type) (enc : TypeId × Value → H) :
    ReturnsInHanded {} Try.checked os 9 .any (Rows.blockSplitSpec.pre6 enc Try.prog Try.f9 Rows.blockSplitRow.domain false) (Rows.blockSplitSpec.post enc Try.prog Try.f9 false true false false) := by
  refine returnsInHanded_of_change_sized (C := Try.checked) Try.own started (by kernel_rfl) Try.func9
    (ChangeSpec.witness6 (enc := enc) (C := Try.checked) false ⟨#[], #[.int .i64 0, .slice none 0 0, .int .u8 0, .slice none 0 0], []⟩ 8 (by kernel_rfl) (by kernel_rfl) (by kernel_rfl) (by kernel_rfl)) ?_
  intro W base args ds gs before hval0 hW hcnd hsz _
  have hval : ∀ (j : Nat) t v, Try.f9.params[j]? = some t → args[j]? = some v → Value.okWide Try.prog W .any base t v := hval0
  have hW' := hW
  obtain ⟨p, q, hA0, hV, rfl, hfz, hnd⟩ := hW
  have hA : DataW.TrodAll enc Try.prog W 0 (fun _ => true) true Try.f9.params.toList args.toList ds p := hA0
  obtain ⟨hgs, _⟩ := trodVars_none hV
  rw [Try.params9] at hA hval
  obtain ⟨v0, vs0, d0, ds0, p0, q0, hargs, rfl, rfl, h0, r0⟩ := trodAll_cons hA
  obtain ⟨v1, vs1, d1, ds1, p1, q1, rfl, rfl, rfl, h1, r1⟩ := trodAll_cons r0
  obtain ⟨v2, vs2, d2, ds2, p2, q2, rfl, rfl, rfl, h2, r2⟩ := trodAll_cons r1
  obtain ⟨v3, vs3, d3, ds3, p3, q3, rfl, rfl, rfl, h3, r3⟩ := trodAll_cons r2
  obtain ⟨rfl, rfl, rfl⟩ := trodAll_nil r3
  have hargs2 : args = #[v0, v1, v2, v3] := Array.toList_inj.1 hargs
  subst hargs2
  obtain ⟨a0, rfl, _, _, w0⟩ := open_int Try.underlying3 (hval 0 3 v0 rfl rfl) h0
  obtain ⟨A1, c1, l1, rfl, lc1, cm1, x1, r1⟩ := open_stepsB (hval 1 22 v1 rfl rfl) h1
  have b1 := len_reach Try.underlying22 (hval 1 22 _ rfl rfl) h1 hsz (j := 1) (by rw [Try.params9]; rfl) rfl
  rw [show Try.prog.bytesOf (Try.prog.elem 22) = 40 from by kernel_rfl] at b1
  obtain ⟨a2, rfl, _, _, w2⟩ := open_int Try.underlying5 (hval 2 5 v2 rfl rfl) h2
  obtain ⟨A3, c3, l3, rfl, lc3, cm3, x3, r3⟩ := open_intsA (hval 3 23 v3 rfl rfl) h3
  have b3 := len_reach Try.underlying23 (hval 3 23 _ rfl rfl) h3 hsz (j := 3) (by rw [Try.params9]; rfl) rfl
  rw [show Try.prog.bytesOf (Try.prog.elem 23) = 8 from by kernel_rfl] at b3
  refine (lawBlockSplit_int blockIs a0 A1 A3 c1 a2 c3 l1 l3 _ x1 x3 (by omega) (by omega) w2 (by omega)).mono fun e W' ⟨he, hb⟩ => ?_
  subst he
  exact ⟨_, rfl, law_post Try.laidOut rfl (by kernel_rfl) Try.underlying4 ⟨rfl, rfl, rfl⟩ (by kernel_rfl) hW' hb⟩

theorem blockSplit_holds : Rows.BlockSplitSaid :=
  OpenClaim.holds_of_wide 9 Try.f9 rfl rfl rfl rfl rfl rfl rfl ⟨rfl, rfl, rfl, rfl, rfl⟩ rfl rfl rfl rfl rfl (by kernel_rfl) Try.func9 (show joinedFacts Try.prog 9 Try.f9 Rows.blockSplitSpec Rows.blockSplitRow = true from (by unfold joinedFacts; (repeat' (with_reducible refine and_both ?_ ?_)) <;> first | (with_reducible exact may_enter) | ((with_reducible refine make_ok ?_); rfl) | ((with_reducible refine lifts_ok ?_); rfl) | kernel_rfl))
    (of_decide_eq_true (by kernel_rfl)) (by unfold Func.isWrapper; rw [if_neg (of_decide_eq_false (by kernel_rfl))]; exact ⟨rfl, rfl⟩)
    (fun os started H enc _ => lawBlockSplit_lifted os started H enc)

end Go.Proofs.Ytfbpalgeajgbhaa
