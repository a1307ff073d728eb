/-
  codemasonref.trimmed, codemasonref.Trim (K2).
-/
import Derived.Test.YtfhnhbkdhdocjaaLiveLive
import Derived.Test.YtfhnhbkdhdocjaaMOpen
import Derived.Test.YtfhnhbkdhdocjaaMBlkR
import Derived.Test.YtfhnhbkdhdocjaaMBase
import Derived.Deep.RegionLaw
import Derived.Laws.Rows
import Derived.BigRegion
import Derived.IntWalk
namespace Go.Proofs.Ytfhnhbkdhdocjaa
open Go.RowKit
set_option linter.unusedSimpArgs false
set_option linter.unusedVariables false
set_option maxRecDepth 100000

theorem block_app : AppTy Try.prog 22 79 4 48 := appTy_of (z := .agg #[.slice none 0 0, .int .i64 0, .int .i64 0, .int .i64 0]) Try.underlying22 (by kernel_rfl) rfl (by omega)

theorem stepl_app : AppTy Try.prog 49 87 5 40 := appTy_of (z := .agg #[.int .i64 0, .int .i64 0, .int .i64 0, .int .i64 0, .int .i64 0]) Try.underlying49 (by kernel_rfl) rfl (by omega)

theorem own_empty_m (X : World) (base g m : Nat) (e : TypeId) (hg : g = X.heap.size) (hb : base ≤ X.heap.size) : (X.alloc (.cells #[] e)).ownsRow base e m (.slice (some ⟨g, 0, none⟩) 0 0) 0 [] := by
  subst hg
  exact World.ownsRow_made X #[] 0 hb (Nat.zero_le _) (by simp)

theorem own_capB {w : World} {base : Nat} {e : TypeId} {size : Nat} {A : Option Addr} {n c : Nat} {xs : List Value} (h : w.ownsRow base e size (.slice A n c) n xs) : n ≤ c := by
  rcases h.2 with ⟨hv, h0⟩ | ⟨g, cap, cur, hv, _, _, hnc, _⟩
  · omega
  · injection hv with _ _ hc
    omega

theorem cSt_oneL (l : List St) : ∀ u ∈ rv cSt l, u.oneCell' = true := rv_all (fun x u hu => by
  simp [cSt] at hu
  rcases hu with rfl | rfl | rfl | rfl | rfl <;> rfl) l

/-- up to a block, and to a step of it, every step is needed -/
def NfTo (want : Nat) (p : List Bk) (i k : Nat) : Prop := ∀ (i' k' : Nat) (b : Bk) (s : St), (i' < i ∨ (i' = i ∧ k' < k)) → p[i']? = some b → b.code[k']? = some s → Lv p want s.to.toNat (i', k' + 1)

theorem NfTo.step {want : Nat} {p : List Bk} {i k : Nat} {b : Bk} {s : St} (h : NfTo want p i k) (hb : p[i]? = some b) (hs : b.code[k]? = some s) (hl : Lv p want s.to.toNat (i, k + 1)) : NfTo want p i (k + 1) := fun i' k' b' s' hlt hb' hs' => by
  by_cases e : i' = i ∧ k' = k
  · obtain ⟨rfl, rfl⟩ := e
    rw [hb] at hb'
    injection hb' with hb'
    subst hb'
    rw [hs] at hs'
    injection hs' with hs'
    subst hs'
    exact hl
  · exact h i' k' b' s' (by omega) hb' hs'

theorem NfTo.block {want : Nat} {p : List Bk} {i : Nat} {b : Bk} (h : NfTo want p i b.code.length) (hb : p[i]? = some b) : NfTo want p (i + 1) 0 := fun i' k' b' s' hlt hb' hs' => by
  by_cases e : i' = i
  · subst e
    have hbb := hb'
    rw [hb] at hbb
    injection hbb with hbb
    subst hbb
    exact h i' k' b s' (.inr ⟨rfl, (List.getElem?_eq_some_iff.1 hs').1⟩) hb hs'
  · exact h i' k' b' s' (.inl (by omega)) hb' hs'

theorem NfTo.nf {want : Nat} {p : List Bk} (h : NfTo want p p.length 0) : Nf want p := fun i k b s hb hs => h i k b s (.inl (List.getElem?_eq_some_iff.1 hb).1) hb hs

/-- what trimmed answers -/
def TrimmedTo (want : Nat) (p : List Bk) (A : Option Addr) (len cap : Nat) (e : Ending) (w' : World) : Prop :=
  (Nf want p ∧ e = .returned (.tuple #[.slice A len cap, .bool false])) ∨ ∃ q A' c', Cut want p q ∧ e = .returned (.tuple #[.slice A' len c', .bool true]) ∧ RdP w' w'.heap.size A' q

/-- a copy of a program in which one block has its steps anew -/
theorem cut_laid {w W : World} {p : List Bk} {qs : List (Bk × Option Addr × Nat)} {i k len c6 g nn c8 B5 B6 : Nat} {A8 : Option Addr} {bk : Bk} (hq1 : qs.map (·.1) = p) (hq3 : RawOk w w.heap.size qs) (hd : p[i]? = some bk) (hl : p.length = len)
    (hO : W.ownsRow B5 79 4 (.slice (some ⟨g, 0, none⟩) len c6) len (rv cBk qs)) (hn : W.ownsRow B6 87 5 (.slice A8 nn c8) nn (rv cSt (bk.code.take k) ++ rv cSt (bk.code.drop (k + 1))))
    (hgB : g < B6) (hb : Below w.heap.size w W) (hg0 : w.heap.size ≤ g) (hk : k < bk.code.length) (hnn : nn = bk.code.length - 1) :
    RdP (W.setCell ⟨g, i * 4, none⟩ (.slice A8 nn c8)) (W.setCell ⟨g, i * 4, none⟩ (.slice A8 nn c8)).heap.size (some ⟨g, 0, none⟩) (p.set i (dropS bk k)) := by
  have he : bk.code.take k ++ bk.code.drop (k + 1) = (dropS bk k).code := (List.eraseIdx_eq_take_drop_succ ..).symm
  have hel : (dropS bk k).code.length = nn := by
    show (bk.code.eraseIdx k).length = nn
    rw [List.length_eraseIdx, if_pos hk, hnn]
  rw [← rv_append, he] at hn
  obtain ⟨q, hq, hqb⟩ : ∃ q, qs[i]? = some q ∧ q.1 = bk := by
    rw [← hq1, List.getElem?_map] at hd
    exact Option.map_eq_some_iff.1 hd
  obtain ⟨b0, Ac, cc⟩ := q
  simp only [] at hqb
  subst hqb
  have hst := (hO.stored (i * 4) (.slice A8 nn c8)).1
  rw [rv_setB (b' := dropS b0 k) hq rfl rfl rfl hel] at hst
  have hil := (List.getElem?_eq_some_iff.1 hq).1
  have hql : qs.length = len := by rw [← hl, ← hq1, List.length_map]
  have hrd := own_rdR (c := cBk) hst (by rw [List.length_set]; exact hql)
  have hfar := own_farW hn (p := ⟨g, i * 4, none⟩) hgB (.slice A8 nn c8)
  have hbW : Below w.heap.size w (W.setCell ⟨g, i * 4, none⟩ (.slice A8 nn c8)) := hb.setCell (show w.heap.size ≤ (⟨g, i * 4, none⟩ : Addr).block from hg0) _
  have hP := rdP_of_raw hrd (fun r q' hq' => by
    by_cases e : i = r
    · subst e
      rw [List.getElem?_set_self hil] at hq'
      injection hq' with hq'
      subst hq'
      exact ⟨own_rdR (c := cSt) hfar hel, by show (dropS b0 k).code.length ≤ c8; rw [hel]; exact own_capB hfar⟩
    · rw [List.getElem?_set_ne e] at hq'
      exact ⟨((hq3 r q' hq').1.below hbW (Nat.le_refl _)).more hbW.size, (hq3 r q' hq').2⟩)
  rw [List.map_set, hq1] at hP
  exact hP

set_option maxHeartbeats 16000000 in
theorem refTrimmed_any (n want : Nat) (A : Option Addr) (len cap : Nat) (p : List Bk) (w : World) (hx : RdP w w.heap.size A p) (hl : p.length = len) (hc : ckProg n p = 0) (hw : want < 4294967296) :
    Calls Try.prog 54 #[.slice A len cap, .int .u32 (want : Nat)] w fun e w' => TrimmedTo want p A len cap e w' ∧ Below w.heap.size w w' := by
  obtain ⟨b1, b2, b3, b4, b5, _⟩ := ckProg_bd hc
  have HC := Lib.hid hc
  have HL := Lib.hid hl
  rw [hl] at b3 b4
  obtain ⟨qs, hq1, hq2, hq3⟩ := rdP_raw hx
  have HQ1 := Lib.hid hq1
  have HQ2 := Lib.hid hq2
  have HQ3 := Lib.hid hq3
  clear hl hc b1 b2 hq1 hq2 hq3
  go_enter Try.func54, Try.ntmps54
  go_wp2
  go_loopw [13] (fun z wr => ∃ i : Nat, i ≤ len ∧ z = .int .i64 i ∧ NfTo want p i 0 ∧ Below w.heap.size w wr) (fun z _ => len - (intOf z).toNat)
  case atStart => exact ⟨0, Nat.zero_le _, rfl, fun i' k' b s h => by omega, Below.refl _ _⟩
  case round =>
    obtain ⟨i, hi, rfl, hnf, hb⟩ := hrel
    have HNF := Lib.hid hnf
    have hsz := hb.size
    clear hnf
    by_cases hlt : i < len
    · obtain ⟨ad, bk, Ac, cc, rfl, hbl, hd, hrow, hc0, hc1, hc2, hc3, hcc⟩ := (hx.below hb (Nat.le_refl _)).atc (k := i) (by rw [HL.out]; exact hlt)
      have hok := ckProg_at HC.out hd
      have hcm := manyS_le hd
      have HD := Lib.hid hd
      have HCD := Lib.hid hok.code
      obtain ⟨code, te, th, el⟩ := bk
      simp only [] at hc0 hc1 hc2 hc3 hrow hcc hcm
      obtain ⟨cl, hcl⟩ : ∃ cl, code.length = cl := ⟨_, rfl⟩
      have HCL := Lib.hid hcl
      rw [hcl] at hc0 hcc hcm
      have hblr : (ad.add (i * 4)).block < wr.heap.size := by omega
      have hrow0 : RdS w w.heap.size Ac code := by
        obtain ⟨ad', b', Ac', cc', e1, _, e2, e3, e4, _⟩ := hx.at_ (k := i) (by rw [HL.out]; exact hlt)
        rw [HD.out] at e2
        injection e2 with e2
        subst e2
        injection e1 with e1
        subst e1
        have e5 := (hb.cell hbl).trans e4
        rw [hc0] at e5
        injection e5 with e5
        injection e5 with e6 _ _
        subst e6
        exact e3
      obtain ⟨wo, rfl⟩ : ∃ wo : World, wo = wr := ⟨_, rfl⟩
      have hob := Own.new wo 79 [.slice Ac cl cc, .int .i64 te, .int .i64 th, .int .i64 el]
      have hbb : Below w.heap.size w (wo.alloc (.cells #[.slice Ac cl cc, .int .i64 te, .int .i64 th, .int .i64 el] 79)) := by go_grown
      clear hd hok hcl hrow
      go_wp2
      go_loopw [21] (fun z wr => ∃ k : Nat, k ≤ cl ∧ z = .int .i64 k ∧ NfTo want p i k ∧ Own wr wo.heap.size 79 [.slice Ac cl cc, .int .i64 te, .int .i64 th, .int .i64 el] ∧ Below w.heap.size w wr) (fun z _ => cl - (intOf z).toNat)
      case atStart => exact ⟨0, Nat.zero_le _, rfl, HNF.out, hob, hbb⟩
      case round =>
        obtain ⟨k, hk, rfl, hnf, hown, hb2⟩ := hrel
        have HNF2 := Lib.hid hnf
        have hsz2 := hb2.size
        have hgl := hown.lt
        clear hnf
        by_cases hct : k < cl
        · obtain ⟨ad3, o, t, a, bb, vv, rfl, hbl3, hd3, e0, e1, e2, e3, e4⟩ := (hrow0.below hb2 (Nat.le_refl _)).at_ (k := k) (by rw [HCL.out]; exact hct)
          have hcks := ckStepsF_at HCD.out hd3
          simp only [] at hcks
          obtain ⟨⟨ht0, ht1⟩, _⟩ := ckStep_cases hcks
          obtain ⟨tn, rfl⟩ := Int.eq_ofNat_of_zero_le ht0
          have htn : tn < n := by omega
          have hspin : SpIn p (i, k + 1) := ⟨_, HD.out, by show k + 1 ≤ code.length; rw [HCL.out]; omega⟩
          have HD3 := Lib.hid hd3
          have hbl3r : (ad3.add (k * 5)).block < wr.heap.size := by omega
          by_cases hlv : Lv p want tn (i, k + 1)
          · have HLI : Hid (∀ Z : World, Below w.heap.size w Z → Calls Try.prog 20 #[.slice (some ad) len cap, .int .u32 (want : Nat), .int .i64 (tn : Int), .agg #[.int .i64 (i : Int), .int .i64 ((k : Int) + 1)]] Z fun e w' => e = .returned (.bool true) ∧ Below Z.heap.size Z w') := Lib.hid fun Z hZ =>
              (refLive_any n want tn (some ad) len cap p i (k + 1) Z ((hx.below hZ (Nat.le_refl _)).more hZ.size) HL.out HC.out hw htn hspin).mono fun e w' ⟨b, h1, h2, h3⟩ => by
                rw [h2.2 hlv] at h1
                exact ⟨h1, h3⟩
            have HNF3 : Hid (NfTo want p i (k + 1)) := Lib.hid (HNF2.out.step HD.out HD3.out (by simpa using hlv))
            clear hlv hspin hcks ht0 ht1 hd3
            go_wp2_with (go_at_call 20; (with_reducible refine (HLI.out _ (by go_grown)).mono ?_); rintro e w5 ⟨rfl, hb5⟩)
            have hbr5 : Below wr.heap.size wr w5 := (by go_grown : Below wr.heap.size wr _).trans (hb5.mono (by simp))
            go_round
            case rel => exact ⟨k + 1, by omega, by go_num, HNF3.out, hown.below hbr5 hgl, hb2.trans (hbr5.mono hsz2)⟩
            case measure => (simp [intOf]; omega)
          · have HLI : Hid (∀ Z : World, Below w.heap.size w Z → Calls Try.prog 20 #[.slice (some ad) len cap, .int .u32 (want : Nat), .int .i64 (tn : Int), .agg #[.int .i64 (i : Int), .int .i64 ((k : Int) + 1)]] Z fun e w' => e = .returned (.bool false) ∧ Below Z.heap.size Z w') := Lib.hid fun Z hZ =>
              (refLive_any n want tn (some ad) len cap p i (k + 1) Z ((hx.below hZ (Nat.le_refl _)).more hZ.size) HL.out HC.out hw htn hspin).mono fun e w' ⟨b, h1, h2, h3⟩ => by
                cases b with
                | true => exact absurd (h2.1 rfl) hlv
                | false => exact ⟨h1, h3⟩
            have HCUT : Hid (Cut want p (p.set i (dropS ⟨code, te, th, el⟩ k))) := Lib.hid (.mk HD.out HD3.out (by simpa using hlv))
            have HLEN : Hid ((rv cBk qs).length = len * 4) := Lib.hid (by rw [rv_len cBk_len, ← HL.out, ← HQ1.out, List.length_map])
            have h63 : 0 + len ≤ maxLen := by unfold maxLen; omega
            have hbig : (0 + len) * 48 ≤ 140737488355328 := by omega
            clear hlv hspin hcks ht0 ht1 hd3
            go_wp2_with (first
              | (go_at_call 20; (with_reducible refine (HLI.out _ (by go_grown)).mono ?_); rintro e w5 ⟨rfl, hb5⟩; have hbr5 : Below wr.heap.size wr w5 := (by go_grown : Below wr.heap.size wr _).trans (hb5.mono (by simp)); have hbw5 := hb2.trans (hbr5.mono hsz2); have hs5 := hbw5.size)
              | (at_builtin; refine wpList_app rfl (.tmp 36) (.tmp 37) 22 rfl w5.heap.size 79 4 48 block_app [] rfl (own_empty_m _ _ _ _ _ (by simp) (by simp)) (rv cBk qs) rfl HLEN.out (fun h => by cases h) ((HQ2.out.below (hbw5.alloc hs5 _) (Nat.le_refl _)).newsB cBk_len) (cBk_one _) h63 hbig (by simp) ?_; intro A6 c6 w6 hown6 hg6 hb6; rw [Nat.zero_add, List.nil_append] at hown6))
            have hb56 : Below w5.heap.size w5 w6 := (by go_grown : Below w5.heap.size w5 (w5.alloc (.cells #[] 79))).trans hb6
            have hbw6 := hbw5.trans (hb56.mono hs5)
            have hob6 := (hown.below hbr5 hgl).below hb56 (by have := hbr5.size; omega)
            obtain ⟨g, rfl, hg0, hg1⟩ := own_form hown6 (by omega)
            have HOB6 := Lib.hid hob6
            have HOW6 := Lib.hid hown6
            have hq0 := hob6.cell (j := 0) rfl
            have hwo6 := hob6.lt
            have hw6s := hbw6.size
            have hi4 : i * 4 < len * 4 := by omega
            obtain ⟨u6, hu6⟩ : ∃ u, (rv cBk qs)[i * 4]? = some u := ⟨_, List.getElem?_eq_getElem (by rw [HLEN.out]; exact hi4)⟩
            have HU6 := Lib.hid hu6
            have hkc : k ≤ cc := by omega
            have hcc0 : cc ≠ 0 := by omega
            have hk1c : (k : Int) + 1 ≤ (cl : Int) := by omega
            have hk1d : (0 : Int) ≤ (k : Int) + 1 := by omega
            have hk1e : (cl : Int) ≤ (cc : Int) := by omega
            have hk1f : (k : Int) ≤ (cc : Int) := by omega
            have hwr1 : IntKind.i64.wrap ((k : Int) + 1) = (k : Int) + 1 := IntWalk.i64_in _ ⟨by omega, by omega⟩
            have HT1 : Hid ((rv cSt (code.take k)).length = k * 5) := Lib.hid (by rw [rv_len cSt_len, List.length_take, HCL.out, Nat.min_eq_left (by omega)])
            have HT2 : Hid ((rv cSt (code.drop (k + 1))).length = (cl - (k + 1)) * 5) := Lib.hid (by rw [rv_len cSt_len, List.length_drop, HCL.out])
            have HN1 : Hid (∀ Z : World, Below w.heap.size w Z → ∀ a, some ad3 = some a → ∀ j u, (rv cSt (code.take k))[j]? = some u → Z.cell? (a.add j) = some u) := Lib.hid fun Z hZ => RdR.newsB cSt_len ((hrow0.take k).below hZ (Nat.le_refl _))
            have HE0 : Hid ((w6.alloc (.cells #[] 87)).ownsRow w6.heap.size 87 5 (.slice (some ⟨w6.heap.size, 0, none⟩) 0 0) 0 []) := Lib.hid (own_empty_m w6 _ _ _ _ rfl (Nat.le_refl _))
            have h63a : 0 + k ≤ maxLen := by unfold maxLen; omega
            have hbiga : (0 + k) * 40 ≤ 140737488355328 := by omega
            have h63b : k + (cl - (k + 1)) ≤ maxLen := by unfold maxLen; omega
            have hbigb : (k + (cl - (k + 1))) * 40 ≤ 140737488355328 := by omega
            clear hob6 hown6 hu6 hb6 hg6 hown
            by_cases hcc1 : cc = k + 1
            · obtain rfl : cl = k + 1 := by omega
              subst hcc1
              have hk2 : (k : Int) ≤ (k : Int) + 1 := by omega
              have hd0 : rv cSt (code.drop (k + 1)) = [] := by rw [List.drop_of_length_le (by rw [HCL.out]; exact Nat.le_refl _)]; rfl
              have HT2z : Hid ((rv cSt (code.drop (k + 1))).length = 0 * 5) := Lib.hid (by rw [hd0]; rfl)
              have HN2 : Hid (∀ (Z : World) (a : Addr) (j : Nat) (u : Value), (rv cSt (code.drop (k + 1)))[j]? = some u → Z.cell? (a.add j) = some u) := Lib.hid fun Z a j u hu => by rw [hd0] at hu; simp at hu
              have h63c : k + 0 ≤ maxLen := by unfold maxLen; omega
              have hbigc : (k + 0) * 40 ≤ 140737488355328 := by omega
              clear hd0
              go_wp2
              go_region_law (first
                | (refine step_app_any rfl (.tmp 41) (.tmp 45) 49 rfl w6.heap.size 87 5 40 stepl_app [] rfl (own_below HE0.out (by go_grown)) (rv cSt (code.take k)) rfl HT1.out (fun h => by cases h) (HN1.out _ (by go_grown)) (cSt_oneL _) h63a hbiga (by simp) ?_; intro A7 c7 w7 hown7 hg7 hb7; rw [Nat.zero_add, List.nil_append] at hown7; have hb67 : Below w6.heap.size w6 w7 := (by go_grown : Below w6.heap.size w6 _).trans hb7; have hq7 := (HOB6.out.below hb67 (by omega)).cell (j := 0) rfl; have hbw7 : Below w.heap.size w w7 := hbw6.trans (hb67.mono hw6s))
                | (refine step_app_any rfl (.tmp 46) (.tmp 51) 49 rfl w6.heap.size 87 5 40 stepl_app _ rfl (own_below hown7 (by go_grown)) (rv cSt (code.drop (k + 1))) rfl HT2z.out (fun _ => rfl) (fun a _ j u hu => HN2.out _ a j u hu) (cSt_oneL _) h63c hbigc (by have := hb67.size; simp; omega) ?_; intro A8 c8 w8 hown8 hg8 hb8; have hb68 : Below w6.heap.size w6 w8 := hb67.trans ((by go_grown : Below w6.heap.size w7 _).trans hb8); have hO8 := own_below HOW6.out hb68; have hc8 := (hO8.cellAt (i * 4) hi4).trans HU6.out; have hf8 := hO8.frozenAt (i * 4)))
              all_goals
                have hb08 := hbw6.trans (hb68.mono hw6s)
                have hlaid := cut_laid (k := k) HQ1.out HQ3.out HD.out HL.out hO8 hown8 hg1 hb08 (by omega) (by show k < code.length; rw [HCL.out]; omega) (by show _ = code.length - 1; rw [HCL.out]; omega)
                have hbW := hb08.setCell (show w.heap.size ≤ (⟨g, i * 4, none⟩ : Addr).block from Nat.le_trans hs5 hg0) (.slice A8 k c8)
                go_wp2
                go_ret2
                exact ⟨.inr ⟨_, _, _, HCUT.out, rfl, hlaid⟩, hbW⟩
            · have HN2 : Hid (∀ Z : World, Below w.heap.size w Z → ∀ a, some (ad3.add ((k + 1) * 5)) = some a → ∀ j u, (rv cSt (code.drop (k + 1)))[j]? = some u → Z.cell? (a.add j) = some u) := Lib.hid fun Z hZ => RdR.newsB cSt_len ((hrow0.drop (k + 1)).below hZ (Nat.le_refl _))
              go_wp2
              go_region_law (first
                | (refine step_app_any rfl (.tmp 41) (.tmp 45) 49 rfl w6.heap.size 87 5 40 stepl_app [] rfl (own_below HE0.out (by go_grown)) (rv cSt (code.take k)) rfl HT1.out (fun h => by cases h) (HN1.out _ (by go_grown)) (cSt_oneL _) h63a hbiga (by simp) ?_; intro A7 c7 w7 hown7 hg7 hb7; rw [Nat.zero_add, List.nil_append] at hown7; have hb67 : Below w6.heap.size w6 w7 := (by go_grown : Below w6.heap.size w6 _).trans hb7; have hq7 := (HOB6.out.below hb67 (by omega)).cell (j := 0) rfl; have hbw7 : Below w.heap.size w w7 := hbw6.trans (hb67.mono hw6s))
                | (refine step_app_any rfl (.tmp 46) (.tmp 51) 49 rfl w6.heap.size 87 5 40 stepl_app _ rfl (own_below hown7 (by go_grown)) (rv cSt (code.drop (k + 1))) rfl HT2.out (fun h => by cases h) (HN2.out _ (by go_grown)) (cSt_oneL _) h63b hbigb (by have := hb67.size; simp; omega) ?_; intro A8 c8 w8 hown8 hg8 hb8; have hb68 : Below w6.heap.size w6 w8 := hb67.trans ((by go_grown : Below w6.heap.size w7 _).trans hb8); have hO8 := own_below HOW6.out hb68; have hc8 := (hO8.cellAt (i * 4) hi4).trans HU6.out; have hf8 := hO8.frozenAt (i * 4)))
              all_goals
                have hb08 := hbw6.trans (hb68.mono hw6s)
                have hlaid := cut_laid (k := k) HQ1.out HQ3.out HD.out HL.out hO8 hown8 hg1 hb08 (by omega) (by show k < code.length; rw [HCL.out]; omega) (by show _ = code.length - 1; rw [HCL.out]; omega)
                have hbW := hb08.setCell (show w.heap.size ≤ (⟨g, i * 4, none⟩ : Addr).block from Nat.le_trans hs5 hg0) (.slice A8 (k + (cl - (k + 1))) c8)
                go_wp2
                go_ret2
                exact ⟨.inr ⟨_, _, _, HCUT.out, rfl, hlaid⟩, hbW⟩
        · have hkc : k = cl := by omega
          have HNF4 : Hid (NfTo want p (i + 1) 0) := Lib.hid (by
            refine NfTo.block (b := ⟨code, te, th, el⟩) ?_ HD.out
            show NfTo want p i code.length
            rw [HCL.out, ← hkc]
            exact HNF2.out)
          clear hkc
          go_wp2
          go_round
          case rel => exact ⟨i + 1, by omega, by go_num, HNF4.out, hb2⟩
          case measure => (simp [intOf]; omega)
    · have hil : i = len := by omega
      have HNFF : Hid (Nf want p) := Lib.hid (NfTo.nf (by rw [HL.out, ← hil]; exact HNF.out))
      clear hil
      go_wp2
      go_ret2
      exact ⟨.inl ⟨HNFF.out, rfl⟩, hb⟩

end Go.Proofs.Ytfhnhbkdhdocjaa
