/-
  For any tree: with a tile of cost 1 for each operation alone it costs as many as it has terms, and each term has its operation's tile (W1, W2).
-/
import Derived.Test.YteogdcjigigeeaaLawTile
import Derived.Test.YteogdcjigigeeaaLawTree
import Derived.Test.YteogdcjigigeeaaTiMore
import Derived.Test.YteogdcjigigeeaaTiCov
import Derived.Test.YteogdcjigigeeaaMOpen
namespace Go.Proofs.Yteogdcjigigeeaa
open Go.RowKit Go.ChangeShapes Go.WideShapes Go.ChangeAt Go.Deep
set_option linter.unusedSimpArgs false
set_option linter.unusedVariables false
set_option maxRecDepth 100000

theorem unit6_next {k : Nat} (hk : k < 6) : unit6.take (k + 1) = unit6.take k ++ [⟨((k : Nat) : Int) + 1, 0, 0, 1⟩] := by
  have h : k = 0 ∨ k = 1 ∨ k = 2 ∨ k = 3 ∨ k = 4 ∨ k = 5 := by omega
  rcases h with rfl | rfl | rfl | rfl | rfl | rfl <;> rfl

theorem unit6_len {k : Nat} (hk : k ≤ 6) : (unit6.take k).length = k := by
  rw [List.length_take]
  show min k 6 = k
  omega

theorem unit_ck {vars : Int} {l : List Tm} (h : ckTree vars l = 0) : ckTl vars l unit6 = 0 ∧ coA l unit6 (l.length - 1) = l.length := by
  obtain ⟨h1, _, h3⟩ := ckTree_ok h
  have hbd := ckTerms_bd h1
  have hc := (unit_cho h1 (l.length - 1) (by omega)).1
  have h4 : ckTT vars l unit6 = 0 := by unfold ckTT; rw [if_pos h]; exact unit6_ck
  refine ⟨by unfold ckTl; rw [h4, if_pos rfl, hc, if_neg (by intro q; cases q)], ?_⟩
  rw [coA_of hc, sz_root h1 h3]

theorem unit_no {vars : Int} {l : List Tm} (h : ckTree vars l ≠ 0) : ckTl vars l unit6 ≠ 0 := by
  have h4 : ckTT vars l unit6 = ckTree vars l := by unfold ckTT; rw [if_neg h]
  unfold ckTl
  rw [h4, if_neg h]
  exact h

set_option maxHeartbeats 8000000 in
theorem lawTilePlain_any (vars : Int) (A : Option Addr) (cap : Nat) (l : List Tm) (w : World) (hx : RdT w w.heap.size A l) :
    Calls Try.prog 6 #[.int .i64 vars, .slice A l.length cap] w fun e w' => e = .returned (.bool true) ∧ Below w.heap.size w w' := by
  obtain ⟨len, hlen⟩ : ∃ n, l.length = n := ⟨_, rfl⟩
  rw [hlen]
  have HL := Lib.hid hlen
  have HX := Lib.hid (fun (Z : World) (hZ : Below w.heap.size w Z) => (hx.below hZ (Nat.le_refl _)).more hZ.size)
  have HCO := Lib.hid (fun (E : Option Addr) (te : Nat) (Z : World) (hZ : Below w.heap.size w Z) (ht : RdTi Z Z.heap.size E unit6) => tileCost_any vars A len cap l Z (HX.out Z hZ) hlen E 6 te unit6 ht rfl)
  have HTR := Lib.hid (fun (Z : World) (hZ : Below w.heap.size w Z) => treed_any vars A len cap l Z (HX.out Z hZ) hlen)
  clear hx
  go_enter Try.func6, Try.ntmps6
  go_wp2
  go_loopw [5, 6] (fun st so wr => ∃ (k : Nat) (A' : Option Addr) (c' : Nat), k ≤ 6 ∧ so = .int .i64 ((k : Int) + 1) ∧ st = .slice A' k c' ∧ wr.ownsRow w.heap.size 37 4 (.slice A' k c') k (rv cTi (unit6.take k)) ∧ Below w.heap.size w wr) (fun _ so _ => 7 - (intOf so).toNat)
  case atStart => exact ⟨0, none, 0, by omega, rfl, rfl, World.ownsRow_nil _ _ _ _, Below.refl _ _⟩
  case round =>
    obtain ⟨k, A', c', hk, rfl, rfl, hrow, hbr⟩ := hrel
    have HROW := Lib.hid hrow
    have hsr := hbr.size
    by_cases hlt : k < 6
    · have HNX := Lib.hid (unit6_next hlt)
      have h63 : k + 1 ≤ maxLen := by unfold maxLen; omega
      have hbig : (k + 1) * 32 ≤ 140737488355328 := by omega
      have H63 := Lib.hid (And.intro h63 hbig)
      have ht6 : (k : Int) + 1 ≤ 6 := by omega
      clear hrow h63 hbig
      go_wp2_with (at_builtin; refine wpList_app rfl (.tmp 17) (.tmp 20) 23 rfl w.heap.size 37 4 32 tile_app (rv cTi (unit6.take k)) rfl (own_below HROW.out (by go_grown)) (cTi ⟨((k : Nat) : Int) + 1, 0, 0, 1⟩) rfl rfl (fun h => by cases h) (cells_at rfl (cTi ⟨((k : Nat) : Int) + 1, 0, 0, 1⟩) _) (cTi_one _) H63.out.1 H63.out.2 (by simp; omega) ?_; intro A8 c8 w8 hown8 hg8 hb8)
      have hbq : Below w.heap.size w w8 := hbr.trans (Below.trans ((by go_grown : Below wr.heap.size wr _).mono hsr) hb8)
      go_round
      case rel =>
        refine ⟨k + 1, A8, c8, by omega, by go_num, rfl, ?_, hbq⟩
        rw [HNX.out, rv_append, rv_one]
        exact hown8
      case measure => (simp [intOf]; omega)
    · have hk6 : k = 6 := by omega
      subst hk6
      have HT : Hid (∀ Z : World, Below wr.heap.size wr Z → RdTi Z Z.heap.size A' unit6) := Lib.hid fun Z hZ => own_rdR (l := unit6) (own_below HROW.out hZ) rfl
      have HBR := Lib.hid hbr
      clear hrow
      by_cases hck : ckTree vars l = 0
      · obtain ⟨hck0, hco⟩ := unit_ck hck
        obtain ⟨hct0, _, htree⟩ := ckTree_ok hck
        have hbt := ckTerms_bd hct0
        have hcvd := cvL_done (ts := unit6) hct0 (by rw [(unit_cho hct0 (l.length - 1) (by omega)).1]; intro h; cases h)
        have HAT : Hid (∀ j, j < l.length → (cvL l unit6)[j]? = some ((tmA l j).op - 1)) := Lib.hid fun j hj => unit_at hct0 htree hcvd hj
        have htc : tcR vars l unit6 = (len : Nat) := by unfold tcR; rw [if_pos hck0, hco, hlen]
        have HTC := Lib.hid htc
        have HCK0 := Lib.hid hck0
        have HCK := Lib.hid hck
        have HTD := Lib.hid hct0
        have HCV : Hid (∀ (E : Option Addr) (te : Nat) (Z : World) (hZ : Below w.heap.size w Z) (ht : RdTi Z Z.heap.size E unit6), Calls Try.prog 10 #[.int .i64 vars, .slice A len cap, .slice E 6 te] Z fun e w' => ∃ g, e = .returned (.tuple #[.slice (some ⟨g, 0, none⟩) len len, .int .i64 0]) ∧ Z.heap.size ≤ g ∧ Own w' g 3 (iv (cvL l unit6)) ∧ Below Z.heap.size Z w') :=
          Lib.hid fun E te Z hZ ht => cover_ok A len cap l Z (HX.out Z hZ) hlen E 6 te unit6 ht rfl hck0
        have hCA := HCO.out A' c' wr hbr (HT.out wr (Below.refl _ _))
        rw [htc, hck0] at hCA
        have HCA := Lib.hid hCA
        have hl16 : len ≤ 16 := by omega
        have hlp : 0 < len := by omega
        clear hck hck0 hco hct0 htree hbt hcvd htc hCA
        go_wp2_with fail
        refine HCA.out.mono ?_
        rintro e w1 ⟨rfl, hb1⟩
        have hbw1 := HBR.out.trans (hb1.mono hsr)
        go_wp2_with fail
        refine (HCV.out A' c' w1 hbw1 (HT.out w1 hb1)).mono ?_
        rintro e w2 ⟨g, rfl, hg, hO, hb2⟩
        have hbw2 := hbw1.trans (hb2.mono hbw1.size)
        go_wp2_with fail
        refine (HTR.out w2 hbw2).mono ?_
        rintro e w3 ⟨rfl, hb3⟩
        have hbw3 := hbw2.trans (hb3.mono hbw2.size)
        have HO3 := Lib.hid (hO.below hb3 hO.lt)
        have hgl := HO3.out.lt
        have HX3 := Lib.hid (HX.out w3 hbw3)
        have hb0 : (ckTree vars l == 0) = true := by simp [HCK.out]
        rw [hb0]
        have hs3 := hbw3.size
        clear hb1 hb2 hb3 hbw1 hbw2 hO hb0
        have hll : ((len : Int) != (len : Int)) = false := by simp
        go_wp2
        go_loopw [67] (fun z wr => ∃ k : Nat, k ≤ len ∧ z = .int .i64 k ∧ Below w3.heap.size w3 wr) (fun z _ => len - (intOf z).toNat)
        case atStart => exact ⟨0, Nat.zero_le _, rfl, Below.refl _ _⟩
        case round =>
          obtain ⟨q, hq, rfl, hbq⟩ := hrel
          have hsq := hbq.size
          by_cases hlt2 : q < len
          · obtain ⟨ad, o, a, b, v, rfl, hbl, hd, hc0, hc1, hc2, hc3⟩ := (HX3.out.below hbq (Nat.le_refl _)).at_ (k := q) (by rw [HL.out]; exact hlt2)
            have hat := HAT.out q (by rw [HL.out]; exact hlt2)
            rw [tmA_at hd] at hat
            have hcq := (HO3.out.below hbq hgl).cell (iv_at hat)
            have hcs := ckTerms_cases HTD.out hd
            have ho1 : 1 ≤ o ∧ o ≤ 6 := by omega
            have hw1 : IntKind.i64.wrap (o - 1) = o - 1 := by rw [IntKind.wrap_i64]; omega
            have hne : (o - 1 != o - 1) = false := by simp
            obtain ⟨ho1, ho6⟩ := ho1
            simp only at hcq
            have hgr : g < wr.heap.size := by omega
            clear hat hd hcs
            go_wp2
            go_region
            all_goals
              go_wp2
              go_round
              case rel => exact ⟨q + 1, by omega, by go_num, Below.drew (hbq.alloc hsq _)⟩
              case measure => (simp [intOf]; omega)
          · go_wp2
            go_ret
            exact ⟨rfl, hbw3.trans (hbq.mono hs3)⟩
      · have hno := unit_no hck
        have HCV : Hid (∀ (E : Option Addr) (te : Nat) (Z : World) (hZ : Below w.heap.size w Z) (ht : RdTi Z Z.heap.size E unit6), Calls Try.prog 10 #[.int .i64 vars, .slice A len cap, .slice E 6 te] Z fun e w' => e = .returned (.tuple #[.slice none 0 0, .int .i64 (ckTl vars l unit6)]) ∧ Below Z.heap.size Z w') :=
          Lib.hid fun E te Z hZ ht => cover_no A len cap l Z (HX.out Z hZ) hlen E 6 te unit6 ht rfl hno
        have hne : (ckTl vars l unit6 != 0) = true := by simp [hno]
        have hb0 : (ckTree vars l == 0) = false := by simp [hck]
        have HB0 := Lib.hid hb0
        have HCA := Lib.hid (HCO.out A' c' wr hbr (HT.out wr (Below.refl _ _)))
        clear hck hno hb0
        go_wp2_with fail
        refine HCA.out.mono ?_
        rintro e w1 ⟨rfl, hb1⟩
        have hbw1 := HBR.out.trans (hb1.mono hsr)
        go_wp2_with fail
        refine (HCV.out A' c' w1 hbw1 (HT.out w1 hb1)).mono ?_
        rintro e w2 ⟨rfl, hb2⟩
        have hbw2 := hbw1.trans (hb2.mono hbw1.size)
        go_wp2_with fail
        refine (HTR.out w2 hbw2).mono ?_
        rintro e w3 ⟨rfl, hb3⟩
        rw [HB0.out]
        go_wp2
        go_ret
        exact ⟨ret_bool (by simp), hbw2.trans (hb3.mono hbw2.size)⟩

set_option maxRecDepth 100000 in
theorem lawTilePlain_lifted (os : Os) (started : os.Started) (H : Type) (enc : TypeId × Value → H) :
    ReturnsInHanded {} Try.checked os 6 .any (Rows.tilePlainSpec.pre6 enc Try.prog Try.f6 Rows.tilePlainRow.domain false) (Rows.tilePlainSpec.post enc Try.prog Try.f6 false true false false) := by
  refine returnsInHanded_of_change_sized (C := Try.checked) Try.own started (by kernel_rfl) Try.func6
    (ChangeSpec.witness6 (enc := enc) (C := Try.checked) false ⟨#[], #[.int .i64 0, .slice none 0 0], []⟩ 8 (by kernel_rfl) (by kernel_rfl) (by kernel_rfl) (by kernel_rfl)) ?_
  intro W base args ds gs before hval0 hW hcnd hsz _
  have hval : ∀ (j : Nat) t v, Try.f6.params[j]? = some t → args[j]? = some v → Value.okWide Try.prog W .any base t v := hval0
  have hW' := hW
  obtain ⟨p, q, hA0, hV, rfl, hfz, hnd⟩ := hW
  have hA : DataW.TrodAll enc Try.prog W 0 (fun _ => true) true Try.f6.params.toList args.toList ds p := hA0
  obtain ⟨hgs, _⟩ := trodVars_none hV
  rw [Try.params6] at hA hval
  obtain ⟨v0, vs0, d0, ds0, p0, q0, hargs, rfl, rfl, h0, r0⟩ := trodAll_cons hA
  obtain ⟨v1, vs1, d1, ds1, p1, q1, rfl, rfl, rfl, h1, r1⟩ := trodAll_cons r0
  obtain ⟨rfl, rfl, rfl⟩ := trodAll_nil r1
  have hargs2 : args = #[v0, v1] := Array.toList_inj.1 hargs
  subst hargs2
  obtain ⟨a0, rfl, _, _, w0⟩ := open_int Try.underlying3 (hval 0 3 v0 rfl rfl) h0
  obtain ⟨A1, c1, l1, rfl, lc1, cm1, x1, r1⟩ := open_termsA (hval 1 22 v1 rfl rfl) h1
  have b1 := len_reach Try.underlying22 (hval 1 22 _ rfl rfl) h1 hsz (j := 1) (by rw [Try.params6]; rfl) rfl
  rw [show Try.prog.bytesOf (Try.prog.elem 22) = 32 from by kernel_rfl] at b1
  refine (lawTilePlain_any a0 A1 c1 l1 _ x1).mono fun e W' ⟨he, hb⟩ => ?_
  subst he
  exact ⟨_, rfl, law_post Try.laidOut rfl (by kernel_rfl) Try.underlying4 ⟨rfl, rfl, rfl⟩ (by kernel_rfl) hW' hb⟩

theorem tilePlain_holds : Rows.TilePlainSaid :=
  OpenClaim.holds_of_wide 6 Try.f6 rfl rfl rfl rfl rfl rfl rfl ⟨rfl, rfl, rfl, rfl, rfl⟩ rfl rfl rfl rfl rfl (by kernel_rfl) Try.func6 (show joinedFacts Try.prog 6 Try.f6 Rows.tilePlainSpec Rows.tilePlainRow = true from (by unfold joinedFacts; (repeat' (with_reducible refine and_both ?_ ?_)) <;> first | (with_reducible exact may_enter) | ((with_reducible refine make_ok ?_); rfl) | ((with_reducible refine lifts_ok ?_); rfl) | kernel_rfl))
    (of_decide_eq_true (by kernel_rfl)) (by unfold Func.isWrapper; rw [if_neg (of_decide_eq_false (by kernel_rfl))]; exact ⟨rfl, rfl⟩)
    (fun os started H enc _ => lawTilePlain_lifted os started H enc)

end Go.Proofs.Yteogdcjigigeeaa
