/-
  shape.Build gives shapes that may be, of which at most one goes round, and that end with what the program stops with (U2: Boehm and Jacopini), or the specified error, for all arguments: codemasonlaw.ShapeBuilds returns true and leaves its arguments alone. No condition.
-/
import Derived.Test.YtlfmofhimkndoaaShDue
import Derived.Test.YtlfmofhimkndoaaShWhiles
import Derived.Test.YtlfmofhimkndoaaShShaped
import Derived.Test.YtlfmofhimkndoaaMBlkR
import Derived.Test.YtlfmofhimkndoaaIntsSame
namespace Go.Proofs.Ytlfmofhimkndoaa
open Go.RowKit Go.ChangeShapes Go.WideShapes Go.ChangeAt Go.Deep
set_option linter.unusedSimpArgs false
set_option linter.unusedVariables false
set_option maxRecDepth 100000

theorem RdP.up {w w' : World} {A : Option Addr} {p : List Bk} (h : RdP w w.heap.size A p) (hb : Below w.heap.size w w') : RdP w' w'.heap.size A p := (h.below hb (Nat.le_refl _)).more hb.size

/-- the first of them -/
theorem RdI.first {w : World} {B : Nat} {A : Option Addr} {x r : List Int} (h : RdI w B A (x ++ r)) : RdI w B A x := fun hm => by
  obtain ⟨ad, e, hb, hc⟩ := h (by rw [List.length_append]; omega)
  refine ⟨ad, e, hb, fun j hj => ?_⟩
  rw [hc j (by rw [List.length_append]; omega)]
  unfold ic
  simp [List.getElem?_append_left hj, List.getD_eq_getElem?_getD]

theorem GoesTo.none {e : Ending} {w w' : World} (h : GoesTo Option.none e w w') : e = .returned (.tuple #[.slice Option.none 0 0, .slice Option.none 0 0, .bool false]) := by
  rcases h with ⟨_, h⟩ | ⟨_, _, _, _, _, _, h, _⟩
  · exact h
  · cases h

theorem GoesTo.some {x : List Int} {l : List Nat} {e : Ending} {w w' : World} (h : GoesTo (some (x, l)) e w w') : ∃ A1 A2 c1 c2, e = .returned (.tuple #[.slice A1 x.length c1, .slice A2 l.length c2, .bool true]) ∧ RdI w' w'.heap.size A1 x := by
  rcases h with ⟨h, _⟩ | ⟨x2, l2, A1, A2, c1, c2, h, h2, h3, _⟩
  · cases h
  · injection h with h
    injection h with h1 h4
    subst h1 h4
    exact ⟨A1, A2, c1, c2, h2, h3⟩

theorem iv_tw (v : List Int) (d g : Int) : iv (tw v d g) = iv v ++ [.int .i64 d, .int .i64 g] := by simp [tw, iv]

set_option maxHeartbeats 16000000 in
theorem lawShapeBuilds_any (vars : Int) (A HA : Option Addr) (cap hcap : Nat) (p : List Bk) (hv : List Int) (w : World) (hx : RdP w w.heap.size A p) (hh : RdI w w.heap.size HA hv) (hm : p.length ≤ maxLen) (hin : ∀ b ∈ p, InBk b) (hhm : hv.length ≤ maxLen) :
    Calls Try.prog 4 #[.int .i64 vars, .slice A p.length cap, .slice HA hv.length hcap] w fun e w' => e = .returned (.bool true) ∧ Below w.heap.size w w' := by
  obtain ⟨len, hl⟩ : ∃ len, p.length = len := ⟨_, rfl⟩
  have HL := Lib.hid hl
  rw [hl] at hm ⊢
  obtain ⟨hn, hhl⟩ : ∃ k, hv.length = k := ⟨_, rfl⟩
  have HHL := Lib.hid hhl
  rw [hhl] at hhm ⊢
  have HPC := Lib.hid (fun (Z : World) (hZ : Below w.heap.size w Z) => refProgCheck_any vars A len cap p Z (hx.up hZ) hl hm hin)
  by_cases hc : ckBld vars p = 0
  · have hc1 : ckProg vars p = 0 := by
      unfold ckBld at hc
      split at hc
      · assumption
      · rename_i h; exact absurd hc h
    have hv4 : vars ≤ 4 := by
      unfold ckBld at hc
      rw [if_pos hc1] at hc
      split at hc <;> omega
    obtain ⟨b1, b2, b3, b4, b5, _⟩ := ckProg_bd hc1
    rw [hl] at b3 b4
    obtain ⟨n, rfl⟩ := Int.eq_ofNat_of_zero_le (show 0 ≤ vars by omega)
    have hn4 : n ≤ 4 := by omega
    have hn1 : 1 ≤ n := by omega
    have HC1 := Lib.hid hc1
    rw [hc1] at HPC
    have hgt : decide (4 < n) = false := by simp; omega
    have hgt' : decide ((4 : Int) < (n : Int)) = false := by simp; omega
    have HOKS : Hid (∀ b ∈ p, BkOk n p.length b) := Lib.hid fun b hb => by
      obtain ⟨k, hk, rfl⟩ := List.getElem_of_mem hb
      exact ckProg_at hc1 (List.getElem?_eq_getElem hk)
    have HCB : Hid (ckSh (n + 2 : Nat) (blSh n p) = 0) := Lib.hid (ck_bl HOKS.out (by rw [hl]; exact b4))
    have HFT : Hid (FitSh (blSh n p)) := Lib.hid (fit_bl n p (by rw [hl]; exact b4) b5)
    have HWH := Lib.hid (wh_bl n p)
    have HBD := Lib.hid (build_any A len cap n p w hx hl hc1 hn4)
    have HXX := Lib.hid hx
    have HHC := Lib.hid (fun (Z : World) (hZ : Below w.heap.size w Z) => haveCheck_any n HA hn hcap hv _ Z (hh.up hZ) hhl hhm)
    have HXB : Hid (ValsOk n hv → ∀ x l, goP p 200 0 hv = some (x, l) → ∃ t2 d, exSh (blSh n p) 200 (tw hv 0 0) = some (t2, tw x d 0)) := Lib.hid fun h1 x l h2 => ex_bl HOKS.out (by rw [hl]; exact b4) (by rw [hl]; omega) h1 h2
    have HHH := Lib.hid hh
    have HVX : Hid (ValsOk n hv → ∀ x l, goP p 200 0 hv = some (x, l) → ValsOk n x) := Lib.hid fun h1 x l h2 => (goP_way hc1 200 0 hv x l (by rw [hl]; omega) h1 h2).choose_spec.2.2.2
    obtain ⟨S, hS⟩ : ∃ S, blSh n p = S := ⟨_, rfl⟩
    rw [hS] at HCB HFT HWH HBD HXB
    have hadd : IntKind.i64.wrap ((n : Int) + 2) = (n : Int) + 2 := IntWalk.i64_in _ ⟨by omega, by omega⟩
    have HRT := Lib.hid (fun (lo : Nat) (A1 : Option Addr) (c1 : Nat) (Z : World) (h : RdH Z lo Z.heap.size S A1 0) => refRight_any ((n : Int) + 2) lo S HFT.out A1 S.len c1 Z h rfl)
    have hcb2 : (ckSh ((n : Int) + 2) S == 0) = true := by
      have := HCB.out
      rw [show ((n + 2 : Nat) : Int) = (n : Int) + 2 by omega] at this
      simp [this]
    rw [hcb2] at HRT
    have HWC := Lib.hid (fun (lo : Nat) (A1 : Option Addr) (c1 : Nat) (Z : World) (h : RdH Z lo Z.heap.size S A1 0) => refWhiles_any lo _ S (Nat.le_refl _) HFT.out A1 c1 Z h)
    rw [HWH.out] at HWC
    clear hc hc1 hx hh hin b1 b2 b5 hS hcb2
    by_cases hck : ckHave n hv = 0
    · have hvo := valsOk_of hck
      have HVO := Lib.hid hvo
      obtain rfl : n = hn := by rw [← hhl]; exact hvo.1.symm
      rw [hck] at HHC
      have HGO : Hid (∀ Z : World, Below w.heap.size w Z → Calls Try.prog 15 #[.slice A len cap, .slice HA n hcap, .int .i64 200] Z fun e w' => GoesTo (goP p 200 0 hv) e Z w' ∧ Below Z.heap.size Z w') := Lib.hid fun Z hZ => refGoes_any n 200 A HA len cap hcap p hv Z (HXX.out.up hZ) (HHH.out.up hZ) HL.out HC1.out HVO.out (by omega)
      clear hck hvo hhl hl
      cases hg : goP p 200 0 hv with
      | none =>
        rw [hg] at HGO
        go_enter Try.func4, Try.ntmps4
        go_wp2_with (first
          | (go_at_call 11; (with_reducible refine HBD.out.mono ?_); rintro e w1 ⟨v1, rfl, hv1, hb1⟩; have HB1 := Lib.hid hb1; have HV1 := Lib.hid hv1; obtain ⟨A1, c1, rfl, hr1⟩ := hv1; have HR1 := Lib.hid hr1; clear hr1 hb1)
          | (go_at_call 12; (with_reducible refine (HPC.out _ HB1.out).mono ?_); rintro e w2 ⟨rfl, hb2⟩; have HB2 := Lib.hid (below_via HB1.out hb2); have HR2 := Lib.hid (HR1.out.up hb2); clear hb2)
          | (go_at_call 13; (with_reducible refine (HRT.out _ A1 c1 _ HR2.out).mono ?_); rintro e w3 ⟨rfl, hb3⟩; have HB3 := Lib.hid (below_via HB2.out hb3); have HR3 := Lib.hid (HR2.out.up hb3); clear hb3)
          | (go_at_call 14; (with_reducible refine (HWC.out _ A1 c1 _ HR3.out).mono ?_); rintro e w4 ⟨rfl, hb4⟩; have HB4 := Lib.hid (below_via HB3.out hb4); have HR4 := Lib.hid (HR3.out.up hb4); clear hb4)
          | (go_at_call 8; (with_reducible refine (HHC.out _ HB4.out).mono ?_); rintro e w5 ⟨rfl, rfl⟩)
          | (go_at_call 15; (with_reducible refine (HGO.out _ HB4.out).mono ?_); rintro e w6 ⟨hgt6, hb6⟩; have HB6 := Lib.hid (below_via HB4.out hb6); clear hb6; obtain rfl := hgt6.none))
        go_ret
        exact ⟨rfl, HB6.out⟩
      | some y =>
        obtain ⟨x, pl⟩ := y
        rw [hg] at HGO
        obtain ⟨t2, d, hex⟩ := HXB.out HVO.out x pl hg
        have HEX := Lib.hid hex
        have HVX2 := Lib.hid (HVX.out HVO.out x pl hg)
        have HTW := Lib.hid (tw_ok (d := 0) (g := 0) HVO.out (by omega) (by omega))
        have HNW : Hid (∀ Z : World, Below w.heap.size w Z → ∀ ad, HA = some ad → ∀ j u, (iv hv)[j]? = some u → Z.cell? (ad.add j) = some u) := Lib.hid fun Z hZ => (HHH.out.up hZ).news
        have HL1 : Hid ((iv hv).length = n * 1) := Lib.hid (by simp [iv, HVO.out.1])
        have HN1 : Hid (HA = none → n = 0) := Lib.hid fun h => by have := HHH.out.nil h; rw [HVO.out.1] at this; exact this
        have HGS : Hid (∀ Z : World, Below w.heap.size w Z → Calls Try.prog 15 #[.slice A len cap, .slice HA n hcap, .int .i64 200] Z fun e w' => (∃ A1 A2 c1 c2, e = .returned (.tuple #[.slice A1 n c1, .slice A2 pl.length c2, .bool true]) ∧ RdI w' w'.heap.size A1 x) ∧ Below Z.heap.size Z w') := Lib.hid fun Z hZ => (HGO.out Z hZ).mono fun e w' ⟨h, hb⟩ => ⟨by
          obtain ⟨A1, A2, c1, c2, h1, h2⟩ := h.some
          rw [HVX2.out.1] at h1
          exact ⟨A1, A2, c1, c2, h1, h2⟩, hb⟩
        have HSD : Hid (∀ (lo : Nat) (A1 A9 : Option Addr) (c1 c9 : Nat) (Z : World), RdH Z lo Z.heap.size S A1 0 → RdI Z Z.heap.size A9 (tw hv 0 0) → n + 2 ≤ c9 → Calls Try.prog 9 #[.slice A1 S.len c1, .slice A9 (n + 2) c9, .int .i64 200] Z fun e w' => (∃ A2 c2, e = .returned (.tuple #[.slice A2 (n + 2) c2, .int .i64 (t2 : Nat)]) ∧ RdI w' w'.heap.size A2 (tw x d 0) ∧ n + 2 ≤ c2) ∧ Below Z.heap.size Z w') := Lib.hid fun lo A1 A9 c1 c9 Z h1 h2 h3 => (refShaped_any (n + 2) lo (by omega) (by omega) _ S (Nat.le_refl _) HFT.out HCB.out A1 A9 c1 c9 200 (tw hv 0 0) Z h1 h2 HTW.out h3 (by omega)).mono fun e w' ⟨h, hb⟩ => ⟨by
          rw [HEX.out] at h
          exact h.some, hb⟩
        have hge : decide ((0 : Int) ≤ (t2 : Int)) = true := by simp
        have hxm : n ≤ maxLen := by unfold maxLen; omega
        have HXL := Lib.hid HVX2.out.1
        clear hex hg
        go_enter Try.func4, Try.ntmps4
        go_upto_region 14 with (first
          | (go_at_call 11; (with_reducible refine HBD.out.mono ?_); rintro e w1 ⟨v1, rfl, hv1, hb1⟩; have HB1 := Lib.hid hb1; have HV1 := Lib.hid hv1; obtain ⟨A1, c1, rfl, hr1⟩ := hv1; have HR1 := Lib.hid hr1; clear hr1 hb1)
          | (go_at_call 12; (with_reducible refine (HPC.out _ HB1.out).mono ?_); rintro e w2 ⟨rfl, hb2⟩; have HB2 := Lib.hid (below_via HB1.out hb2); have HR2 := Lib.hid (HR1.out.up hb2); clear hb2)
          | (go_at_call 13; (with_reducible refine (HRT.out _ A1 c1 _ HR2.out).mono ?_); rintro e w3 ⟨rfl, hb3⟩; have HB3 := Lib.hid (below_via HB2.out hb3); have HR3 := Lib.hid (HR2.out.up hb3); clear hb3)
          | (go_at_call 14; (with_reducible refine (HWC.out _ A1 c1 _ HR3.out).mono ?_); rintro e w4 ⟨rfl, hb4⟩; have HB4 := Lib.hid (below_via HB3.out hb4); have HR4 := Lib.hid (HR3.out.up hb4); clear hb4)
          | (go_at_call 8; (with_reducible refine (HHC.out _ HB4.out).mono ?_); rintro e w5 ⟨rfl, rfl⟩)
          | (go_at_call 15; (with_reducible refine (HGS.out _ HB4.out).mono ?_); rintro e w6 ⟨⟨A5, A6, c5, c6, rfl, hrx⟩, hb6⟩; have HB6 := Lib.hid (below_via HB4.out hb6); have HR6 := Lib.hid (HR4.out.up hb6); have HRX := Lib.hid hrx; clear hb6 hrx))
        have hs6 := HB6.out.size
        go_wp2_with (first
          | (at_builtin; refine wpList_app' rfl (.tmp 69) (.tmp 70) 23 rfl w6.heap.size 3 1 8 int_app [] rfl (own_empty_at _ _ _ _ (by simp) (by simp)) (iv hv) rfl HL1.out HN1.out (HNW.out _ (below_via HB6.out (by go_grown))) (iv_one _) (by unfold maxLen; omega) (by omega) (by simp) ?_; intro A8 c8 w8 hown8 hg8 hb8 hp8; rw [Nat.zero_add, List.nil_append] at hown8; have HB8 : Hid (Below w6.heap.size w6 w8) := Lib.hid ((by go_grown : Below w6.heap.size w6 (w6.alloc (.cells #[] 3))).trans hb8); have hs8 := HB8.out.size; clear hb8 hg8 hp8)
          | (at_builtin; refine wpList_app' rfl (.tmp 71) (.tmp 72) 23 rfl w6.heap.size 3 1 8 int_app (iv hv) rfl (hown8.alloc _) [.int .i64 0, .int .i64 0] rfl rfl (fun h => by cases h) (cells_at rfl _ _) (fun u hu => by simp at hu; subst hu; rfl) (by unfold maxLen; omega) (by omega) (by simp; omega) ?_; intro A9 c9 w9 hown9 hg9 hb9 hp9; rw [← iv_tw] at hown9; have HB9 : Hid (Below w6.heap.size w6 w9) := Lib.hid (HB8.out.trans (((by go_grown : Below w8.heap.size w8 _).mono hs8).trans hb9)); have HR9 := Lib.hid (HR6.out.up HB9.out); have HRX9 := Lib.hid (HRX.out.up HB9.out); have hcap9 := own_capS hown9; have HV9 := Lib.hid (own_rdI hown9 HTW.out.1); clear hown8 hown9 hb9 hg9 hp9)
          | (go_at_call 9; (with_reducible refine (HSD.out _ A1 A9 c1 c9 _ HR9.out HV9.out hcap9).mono ?_); rintro e w10 ⟨⟨A10, c10, rfl, hr10, hc10⟩, hb10⟩; have HR10 := Lib.hid hr10.first; have HX10 := Lib.hid (HRX9.out.up hb10); have HB10 := Lib.hid (below_via (below_via HB6.out HB9.out) hb10); have hc10' : n ≤ c10 := by omega)
          | (go_at_call 10; (with_reducible refine (ints_same A10 A5 n c10 c5 x _ HR10.out HX10.out HXL.out hxm).mono ?_); rintro e w11 ⟨rfl, hb11⟩))
        go_ret
        exact ⟨ret_bool (by simp), below_via HB10.out hb11⟩
    · obtain ⟨ch, hch⟩ : ∃ x, ckHave n hv = x := ⟨_, rfl⟩
      rw [hch] at HHC hck
      have hne : (ch != 0) = true := by simp [hck]
      clear hch hck hhl hl
      go_enter Try.func4, Try.ntmps4
      go_wp2_with (first
        | (go_at_call 11; (with_reducible refine HBD.out.mono ?_); rintro e w1 ⟨v1, rfl, hv1, hb1⟩; have HB1 := Lib.hid hb1; have HV1 := Lib.hid hv1; obtain ⟨A1, c1, rfl, hr1⟩ := hv1; have HR1 := Lib.hid hr1; clear hr1 hb1)
        | (go_at_call 12; (with_reducible refine (HPC.out _ HB1.out).mono ?_); rintro e w2 ⟨rfl, hb2⟩; have HB2 := Lib.hid (below_via HB1.out hb2); have HR2 := Lib.hid (HR1.out.up hb2); clear hb2)
        | (go_at_call 13; (with_reducible refine (HRT.out _ A1 c1 _ HR2.out).mono ?_); rintro e w3 ⟨rfl, hb3⟩; have HB3 := Lib.hid (below_via HB2.out hb3); have HR3 := Lib.hid (HR2.out.up hb3); clear hb3)
        | (go_at_call 14; (with_reducible refine (HWC.out _ A1 c1 _ HR3.out).mono ?_); rintro e w4 ⟨rfl, hb4⟩; have HB4 := Lib.hid (below_via HB3.out hb4); have HR4 := Lib.hid (HR3.out.up hb4); clear hb4)
        | (go_at_call 8; (with_reducible refine (HHC.out _ HB4.out).mono ?_); rintro e w5 ⟨rfl, rfl⟩))
      go_ret
      exact ⟨rfl, HB4.out⟩
  · have HBD := Lib.hid (build_bad A len cap vars p w hx hl hm hin hc)
    by_cases h0 : ckProg vars p = 0
    · have h4 : 4 < vars := by
        unfold ckBld at hc
        rw [if_pos h0] at hc
        rcases Int.lt_or_le 4 vars with h | h
        · exact h
        · rw [if_neg (by omega)] at hc; exact absurd rfl hc
      have hce : ckBld vars p = 1 := by unfold ckBld; rw [if_pos h0, if_pos h4]
      rw [hce] at HBD
      rw [h0] at HPC
      have hgt : decide (4 < vars) = true := by simp; omega
      clear hx hin hc h0 hce hl hhl
      go_enter Try.func4, Try.ntmps4
      go_wp2_with (first
        | (go_at_call 11; (with_reducible refine HBD.out.mono ?_); rintro e w1 ⟨rfl, hb1⟩; have HB1 := Lib.hid hb1; clear hb1)
        | (go_at_call 12; (with_reducible refine (HPC.out _ HB1.out).mono ?_); rintro e w2 ⟨rfl, hb2⟩; have HB2 := Lib.hid (below_via HB1.out hb2); clear hb2))
      go_ret
      exact ⟨rfl, HB2.out⟩
    · have hce : ckBld vars p = ckProg vars p := by unfold ckBld; rw [if_neg h0]
      rw [hce] at HBD
      obtain ⟨c, hc1⟩ : ∃ c, ckProg vars p = c := ⟨_, rfl⟩
      rw [hc1] at HBD HPC h0
      have hne : (c != 0) = true := by simp [h0]
      have hnq : (c == 0) = false := by simp [h0]
      clear hx hin hc h0 hce hl hhl hc1
      go_enter Try.func4, Try.ntmps4
      go_wp2_with (first
        | (go_at_call 11; (with_reducible refine HBD.out.mono ?_); rintro e w1 ⟨rfl, hb1⟩; have HB1 := Lib.hid hb1; clear hb1)
        | (go_at_call 12; (with_reducible refine (HPC.out _ HB1.out).mono ?_); rintro e w2 ⟨rfl, hb2⟩; have HB2 := Lib.hid (below_via HB1.out hb2); clear hb2))
      go_ret
      exact ⟨ret_bool (by simp), HB2.out⟩

set_option maxRecDepth 100000 in
theorem lawShapeBuilds_lifted (os : Os) (started : os.Started) (H : Type) (enc : TypeId × Value → H) :
    ReturnsInHanded {} Try.checked os 4 .any (Rows.shapeBuildsSpec.pre6 enc Try.prog Try.f4 Rows.shapeBuildsRow.domain false) (Rows.shapeBuildsSpec.post enc Try.prog Try.f4 false true false false) := by
  refine returnsInHanded_of_change_sized (C := Try.checked) Try.own started (by kernel_rfl) Try.func4
    (ChangeSpec.witness6 (enc := enc) (C := Try.checked) false ⟨#[], #[.int .i64 0, .slice none 0 0, .slice none 0 0], []⟩ 8 (by kernel_rfl) (by kernel_rfl) (by kernel_rfl) (by kernel_rfl)) ?_
  intro W base args ds gs before hval0 hW hcnd hsz _
  have hval : ∀ (j : Nat) t v, Try.f4.params[j]? = some t → args[j]? = some v → Value.okWide Try.prog W .any base t v := hval0
  have hW' := hW
  obtain ⟨p, q, hA0, hV, rfl, hfz, hnd⟩ := hW
  have hA : DataW.TrodAll enc Try.prog W 0 (fun _ => true) true Try.f4.params.toList args.toList ds p := hA0
  obtain ⟨hgs, _⟩ := trodVars_none hV
  rw [Try.params4] at hA hval
  obtain ⟨v0, vs0, d0, ds0, p0, q0, hargs, rfl, rfl, h0, r0⟩ := trodAll_cons hA
  obtain ⟨v1, vs1, d1, ds1, p1, q1, rfl, rfl, rfl, h1, r1⟩ := trodAll_cons r0
  obtain ⟨v2, vs2, d2, ds2, p2, q2, rfl, rfl, rfl, h2, r2⟩ := trodAll_cons r1
  obtain ⟨rfl, rfl, rfl⟩ := trodAll_nil r2
  have hargs2 : args = #[v0, v1, v2] := Array.toList_inj.1 hargs
  subst hargs2
  obtain ⟨a0, rfl, _, _, w0⟩ := open_int Try.underlying3 (hval 0 3 v0 rfl rfl) h0
  obtain ⟨A1, c1, l1, rfl, lc1, cm1, x1, g1⟩ := open_progA (reach_at hsz (j := 1) (t := 33) (by rw [Try.params4]; rfl) rfl) (hval 1 33 v1 rfl rfl) h1
  have b1 := len_reach Try.underlying33 (hval 1 33 _ rfl rfl) h1 hsz (j := 1) (by rw [Try.params4]; rfl) rfl
  rw [show Try.prog.bytesOf (Try.prog.elem 33) = 48 from by kernel_rfl] at b1
  obtain ⟨A2, c2, l2, rfl, lc2, cm2, x2, r2⟩ := open_intsA (hval 2 23 v2 rfl rfl) h2
  have b2 := len_reach Try.underlying23 (hval 2 23 _ rfl rfl) h2 hsz (j := 2) (by rw [Try.params4]; rfl) rfl
  rw [show Try.prog.bytesOf (Try.prog.elem 23) = 8 from by kernel_rfl] at b2
  refine (lawShapeBuilds_any a0 A1 A2 c1 c2 l1 l2 _ x1 x2 (by omega) g1 (by omega)).mono fun e W' ⟨he, hb⟩ => ?_
  subst he
  exact ⟨_, rfl, law_post Try.laidOut rfl (by kernel_rfl) Try.underlying4 ⟨rfl, rfl, rfl⟩ (by kernel_rfl) hW' hb⟩

theorem shapeBuilds_holds : Rows.ShapeBuildsSaid :=
  OpenClaim.holds_of_wide 4 Try.f4 rfl rfl rfl rfl rfl rfl rfl ⟨rfl, rfl, rfl, rfl, rfl⟩ rfl rfl rfl rfl rfl (by kernel_rfl) Try.func4 (show joinedFacts Try.prog 4 Try.f4 Rows.shapeBuildsSpec Rows.shapeBuildsRow = true from (by unfold joinedFacts; (repeat' (with_reducible refine and_both ?_ ?_)) <;> first | (with_reducible exact may_enter) | ((with_reducible refine make_ok ?_); rfl) | ((with_reducible refine lifts_ok ?_); rfl) | kernel_rfl))
    (of_decide_eq_true (by kernel_rfl)) (by unfold Func.isWrapper; rw [if_neg (of_decide_eq_false (by kernel_rfl))]; exact ⟨rfl, rfl⟩)
    (fun os started H enc _ => lawShapeBuilds_lifted os started H enc)

end Go.Proofs.Ytlfmofhimkndoaa
