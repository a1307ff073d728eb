/-
  slices.Max over ints; plan.Levels (Q1).
-/
import Derived.Test.YthmcigdoaededaaPureRelax
import Derived.Test.YthmcigdoaededaaPlanIs
import Derived.Test.YthmcigdoaededaaRepeat
import Derived.Deep.Cut
namespace Go.Proofs.Ythmcigdoaededaa
open Go.RowKit
set_option linter.unusedSimpArgs false
set_option linter.unusedVariables false
set_option maxRecDepth 100000

set_option maxHeartbeats 2000000 in
theorem maxI_any (A : Option Addr) (n c : Nat) (L : List Int) (B : Nat) (w : World) (hx : RdI w B A L) (hl : L.length = n) (h1 : 1 ≤ n) (hm : n ≤ maxLen) :
    Calls Try.prog 24 #[.slice A n c] w fun e w' => (∃ m : Int, e = .returned (.int .i64 m) ∧ m ∈ L ∧ ∀ x ∈ L, x ≤ m) ∧ w = w' := by
  unfold maxLen at hm
  obtain ⟨ad0, y0, rfl, hbl0, hd0, hcell0⟩ := hx.at_ (k := 0) (by omega)
  have hz : ad0.add 0 = ad0 := by unfold Addr.add; split <;> simp_all
  rw [hz] at hcell0 hbl0
  have HL := Lib.hid hl
  have HD0 := Lib.hid hd0
  have HX := Lib.hid hx
  clear hl hd0 hz hx
  go_enter Try.func24, Try.ntmps24
  go_wp2
  go_loop [3, 4] (fun m i => ∃ (k : Nat) (mm : Int), 1 ≤ k ∧ k ≤ n ∧ i = .int .i64 k ∧ m = .int .i64 mm ∧ Hid (mm ∈ L ∧ ∀ x ∈ L.take k, x ≤ mm)) (fun _ i => n - (intOf i).toNat)
  case atStart => exact ⟨1, y0, Nat.le_refl _, h1, rfl, rfl, Lib.hid ⟨List.mem_of_getElem? HD0.out, fun x hx => by
    rw [List.take_add_one, HD0.out] at hx
    simp at hx
    omega⟩⟩
  case round =>
    obtain ⟨k, mm, hk1, hk, rfl, rfl, HM⟩ := hrel
    by_cases hlt : k < n
    · obtain ⟨ad, y, he, hbl, hd, hcell⟩ := HX.out.at_ (k := k) (by rw [HL.out]; exact hlt)
      injection he with he
      subst he
      have HD := Lib.hid hd
      clear hd
      by_cases hmy : mm ≤ y
      · have HM2 : Hid (y ∈ L ∧ ∀ x ∈ L.take (k + 1), x ≤ y) := Lib.hid ⟨List.mem_of_getElem? HD.out, fun x hx => by
          rw [List.take_add_one, HD.out, Option.toList_some, List.mem_append] at hx
          rcases hx with h | h
          · have := HM.out.2 x h; omega
          · rw [List.mem_singleton.1 h]; exact Int.le_refl _⟩
        go_wp2
        go_round
        case rel => exact ⟨k + 1, y, by omega, by omega, by go_num, by first | rfl | go_num, HM2⟩
        case measure => (simp [intOf]; omega)
      · have HM2 : Hid (mm ∈ L ∧ ∀ x ∈ L.take (k + 1), x ≤ mm) := Lib.hid ⟨HM.out.1, fun x hx => by
          rw [List.take_add_one, HD.out, Option.toList_some, List.mem_append] at hx
          rcases hx with h | h
          · exact HM.out.2 x h
          · rw [List.mem_singleton.1 h]; omega⟩
        go_wp2
        go_round
        case rel => exact ⟨k + 1, mm, by omega, by omega, by go_num, by first | rfl | go_num, HM2⟩
        case measure => (simp [intOf]; omega)
    · go_wp2
      go_ret
      have h := HM.out
      rw [List.take_of_length_le (by rw [HL.out]; omega)] at h
      exact ⟨⟨mm, rfl, h.1, h.2⟩, rfl⟩

theorem rep_one (n : Nat) : List.replicate n (1 : Int) = ni (tabN n fun _ => 1) := by
  apply List.ext_getElem?
  intro i
  unfold ni tabN
  rw [List.getElem?_replicate, List.getElem?_map, List.getElem?_map]
  by_cases h : i < n
  · rw [if_pos h, List.getElem?_range h]; rfl
  · rw [if_neg h, List.getElem?_eq_none (by simp; omega)]; rfl

theorem lv_set {n a b : Nat} (f : Nat → Nat) (h : f a < f b + 1) : (ni (tabN n f)).set a ((f b : Nat) + 1 : Int) = ni (tabN n (rlxF f a b)) := by
  have := ni_tab_set (n := n) (F := f) (G := rlxF f a b) (x := a) (y := f b + 1) (by unfold rlxF; rw [if_pos rfl]; omega) fun k _ hk => by unfold rlxF; rw [if_neg hk]
  rw [← this]
  rfl

theorem lv_set' {n a b : Nat} (f : Nat → Nat) (h : ¬ f a < f b + 1) : (ni (tabN n f)).set a ((f a : Nat) : Int) = ni (tabN n (rlxF f a b)) :=
  ni_tab_set (n := n) (F := f) (G := rlxF f a b) (x := a) (y := f a) (by unfold rlxF; rw [if_pos rfl]; omega) fun k _ hk => by unfold rlxF; rw [if_neg hk]

set_option maxHeartbeats 8000000 in
theorem levels_in (n : Nat) (A : Option Addr) (len cap : Nat) (ps : List (Nat × Nat)) (w : World) (hx : RdM w w.heap.size A (mvI ps)) (hl : ps.length = len) (h1 : 1 ≤ n) (h8 : n ≤ 8) (hl8 : len ≤ 28) (hin : ∀ p ∈ ps, p.1 < n ∧ p.2 < n) :
    Calls Try.prog 10 #[.int .i64 n, .slice A len cap] w fun e w' => (∃ f, RlxI n ps n 0 f ∧ ((∀ i, i < n → f i ≤ n) ∧ (∃ A' c', e = .returned (.tuple #[.slice A' n c', .int .i64 0]) ∧ RdI w' w'.heap.size A' (ni (tabN n f))) ∨ (∃ i, i < n ∧ n < f i) ∧ e = .returned (.tuple #[.slice none 0 0, .int .i64 3]))) ∧ Below w.heap.size w w' := by
  have HL := Lib.hid hl
  have HIN := Lib.hid hin
  have g1 : ¬ (n : Int) < 1 := by omega
  have g2 : ¬ (8 : Int) < n := by omega
  have g3 : ¬ (28 : Int) < (len : Int) := by omega
  have HREP := Lib.hid (repeat_any 1 n h1 h8)
  clear hl hin
  go_enter Try.func10, Try.ntmps10
  go_wp2
  go_loopw [24] (fun i wr => ∃ k : Nat, k ≤ len ∧ i = .int .i64 k ∧ Below w.heap.size w wr) (fun i _ => len - (intOf i).toNat)
  case atStart => exact ⟨0, Nat.zero_le _, rfl, Below.refl _ _⟩
  case round =>
    obtain ⟨k, hk, rfl, hb⟩ := hrel
    have hsz := hb.size
    by_cases hlt : k < len
    · obtain ⟨ad, a, b, rfl, hbl, hd, hc0, hc1⟩ := RdN.at_ (hx.below hb (Nat.le_refl _)) (k := k) (by rw [HL.out]; exact hlt)
      obtain ⟨e2, e4⟩ := HIN.out _ (List.mem_of_getElem? hd)
      simp only at e2 e4
      have e5 : (a : Int) < n := by omega
      have e6 : (b : Int) < n := by omega
      clear hd
      rcases Int.lt_or_le (b : Int) a with f1 | f1
      all_goals (
        go_wp2
        all_goals (
          go_round
          case rel => exact ⟨k + 1, by omega, by go_num, hb.trans (by go_grown)⟩
          case measure => (simp [intOf]; omega)))
    · obtain ⟨w1, rfl⟩ : ∃ w1 : World, w1 = wr := ⟨_, rfl⟩
      have hx1 := (hx.below hb (Nat.le_refl _)).more hsz
      clear hx
      go_wp2_with (go_at_call 23; refine (HREP.out ⟨w1.heap.size, 0, none⟩ 1 _ (by simp) (by simp)).mono ?_; rintro e w2 ⟨rfl, hO2, hb2⟩)
      have hO3 : Own w2 (w1.heap.size + 1) 3 (iv (ni (tabN n fun _ => 1))) := by rw [← rep_one]; simpa using hO2
      obtain ⟨g, hg⟩ : ∃ g, w1.heap.size + 1 = g := ⟨_, rfl⟩
      have hb12 : Below w1.heap.size w1 w2 := (by go_grown : Below w1.heap.size w1 _).trans (hb2.mono (by simp))
      have hg1 : w1.heap.size ≤ g := by omega
      rw [hg] at hO3
      simp only [hg]
      clear hO2 hb2 hg
      go_loopw [48] (fun z wr => ∃ (r : Nat) (f : Nat → Nat), r ≤ n ∧ z = .int .i64 r ∧ Hid (RlxI n ps r 0 f) ∧ Own wr g 3 (iv (ni (tabN n f))) ∧ Below w1.heap.size w1 wr) (fun z _ => n - (intOf z).toNat)
      case atStart => exact ⟨0, _, Nat.zero_le _, rfl, Lib.hid (RlxI.start n ps), hO3, hb12⟩
      case round =>
        obtain ⟨r, f, hr, rfl, HF, hown, hb3⟩ := hrel
        have hs3 := hb3.size
        by_cases hrn : r < n
        · obtain ⟨wm, rfl⟩ : ∃ wm : World, wm = wr := ⟨_, rfl⟩
          go_wp2
          go_loopw [52] (fun z wr => ∃ (k : Nat) (f : Nat → Nat), k ≤ len ∧ z = .int .i64 k ∧ Hid (RlxI n ps r k f) ∧ Own wr g 3 (iv (ni (tabN n f))) ∧ Below w1.heap.size w1 wr) (fun z _ => len - (intOf z).toNat)
          case atStart => exact ⟨0, _, Nat.zero_le _, rfl, HF, hown, hb3⟩
          case round =>
            obtain ⟨k, f, hk, rfl, HF, hown, hb4⟩ := hrel
            have hs4 := hb4.size
            by_cases hkl : k < len
            · obtain ⟨ad, a, b, rfl, hbl, hd, hc0, hc1⟩ := RdN.at_ (hx1.below hb4 (Nat.le_refl _)) (k := k) (by rw [HL.out]; exact hkl)
              obtain ⟨e2, e4⟩ := HIN.out _ (List.mem_of_getElem? hd)
              simp only at e2 e4
              have HST := Lib.hid (HF.out.step HIN.out hd)
              have hta := HF.out.top a e2
              have htb := HF.out.top b e4
              have hrl : r * ps.length ≤ 8 * 28 := Nat.mul_le_mul (by omega) (by rw [HL.out]; exact hl8)
              have hfa : f a ≤ 300 := by omega
              have hfb : f b ≤ 300 := by omega
              have hcA := hown.cell (iv_at (ni_tab_at f e2))
              have hfA := hown.frozen a
              have hcB := hown.cell (iv_at (ni_tab_at f e4))
              have hgl := hown.lt
              clear hd hta htb hrl
              by_cases hlt2 : f a < f b + 1
              · have HOW : Hid (Own (wr.setCell ⟨g, a, none⟩ (.int .i64 ((f b : Nat) + 1 : Int))) g 3 (iv (ni (tabN n (rlxF f a b))))) := Lib.hid (by rw [← lv_set f hlt2]; exact OwnI.set hown a _)
                obtain ⟨x, hxa⟩ : ∃ x, f a = x := ⟨_, rfl⟩
                obtain ⟨y, hyb⟩ : ∃ y, f b = y := ⟨_, rfl⟩
                rw [hxa] at hcA hfa hlt2
                rw [hyb] at hcB hfb hlt2 HOW
                have hmx : (x : Int) ≤ (y : Int) + 1 := by omega
                clear hown hxa hyb
                go_upto_region 15 with fail
                go_region
                all_goals (
                  go_wp2
                  go_round
                  case rel => exact ⟨k + 1, _, by omega, by go_num, HST, HOW.out.alloc _, by go_grown⟩
                  case measure => (simp [intOf]; omega))
              · have HOW : Hid (Own (wr.setCell ⟨g, a, none⟩ (.int .i64 ((f a : Nat) : Int))) g 3 (iv (ni (tabN n (rlxF f a b))))) := Lib.hid (by rw [← lv_set' f hlt2]; exact OwnI.set hown a _)
                obtain ⟨x, hxa⟩ : ∃ x, f a = x := ⟨_, rfl⟩
                obtain ⟨y, hyb⟩ : ∃ y, f b = y := ⟨_, rfl⟩
                rw [hxa] at hcA hfa hlt2 HOW
                rw [hyb] at hcB hfb hlt2
                have hmx : ¬ (x : Int) ≤ (y : Int) + 1 ∨ (x : Int) = (y : Int) + 1 := by omega
                clear hown hxa hyb
                rcases hmx with hmx | hmx
                all_goals (
                  have HO3 := HOW.out
                  try rw [hmx] at HO3
                  have HOW3 := Lib.hid HO3
                  clear HO3
                  go_upto_region 15 with fail
                  go_region
                  all_goals (
                    go_wp2
                    go_round
                    case rel => exact ⟨k + 1, _, by omega, by go_num, HST, HOW3.out.alloc _, by go_grown⟩
                    case measure => (simp [intOf]; omega)))
            · have hkl2 : k = len := by omega
              subst hkl2
              have HF2 : Hid (RlxI n ps (r + 1) 0 f) := Lib.hid (RlxI.next (by rw [HL.out]; exact HF.out) HIN.out)
              go_wp2
              go_round
              case rel => exact ⟨r + 1, f, by omega, by go_num, HF2, hown, hb4⟩
              case measure => (simp [intOf]; omega)
        · have hrn2 : r = n := by omega
          subst hrn2
          have HRD := Lib.hid (OwnI.rd hown)
          have hgl := hown.lt
          have HMX := Lib.hid (maxI_any (some ⟨g, 0, none⟩) r r (ni (tabN r f)) (g + 1) wr HRD.out (by simp [ni, tabN]) h1 (by unfold maxLen; omega))
          clear hown
          go_wp2_with fail
          refine HMX.out.mono ?_
          rintro e w5 ⟨⟨m, rfl, hm1, hm2⟩, rfl⟩
          obtain ⟨q, hq1, hq2⟩ := List.mem_map.1 hm1
          subst hq2
          obtain ⟨i, hi, hfi⟩ := tabN_mem.1 hq1
          subst hfi
          have HF3 := HF
          by_cases hgt : r < f i
          · have HGT : Hid (∃ i, i < r ∧ r < f i) := Lib.hid ⟨i, hi, hgt⟩
            obtain ⟨x, hxx⟩ : ∃ x, f i = x := ⟨_, rfl⟩
            rw [hxx] at hgt ⊢
            clear hm1 hm2 hq1 hxx
            go_wp2
            go_ret2
            exact ⟨⟨f, HF.out, .inr ⟨HGT.out, rfl⟩⟩, hb.trans (hb3.mono hsz)⟩
          · have HLE : Hid (∀ j, j < r → f j ≤ r) := Lib.hid fun j hj => by
              have := hm2 _ (List.mem_of_getElem? (ni_tab_at f hj))
              omega
            obtain ⟨x, hxx⟩ : ∃ x, f i = x := ⟨_, rfl⟩
            rw [hxx] at hgt ⊢
            clear hm1 hm2 hq1 hxx
            go_wp2
            go_ret2
            exact ⟨⟨f, HF.out, .inl ⟨HLE.out, _, _, rfl, HRD.out.more (by omega)⟩⟩, hb.trans (hb3.mono hsz)⟩

set_option maxHeartbeats 1000000 in
theorem levels_large (n : Int) (A : Option Addr) (len cap : Nat) (l : List (Int × Int)) (w : World) (hl : l.length = len) (hm : len ≤ maxLen) (hz : ¬ sizesK n l) :
    Calls Try.prog 10 #[.int .i64 n, .slice A len cap] w fun e w' => e = .returned (.tuple #[.slice none 0 0, .int .i64 1]) ∧ Below w.heap.size w w' := by
  unfold maxLen at hm
  have g : n < 1 ∨ 8 < n ∨ 28 < len := by
    unfold sizesK at hz
    rw [hl] at hz
    omega
  clear hz hl
  by_cases g1 : n < 1
  · go_enter Try.func10, Try.ntmps10
    go_wp2
    go_ret2
    exact ⟨rfl, Below.refl _ _⟩
  · by_cases g2 : 8 < n
    · go_enter Try.func10, Try.ntmps10
      go_wp2
      go_ret2
      exact ⟨rfl, Below.refl _ _⟩
    · have g3 : (28 : Int) < (len : Int) := by omega
      go_enter Try.func10, Try.ntmps10
      go_wp2
      go_ret2
      exact ⟨rfl, Below.refl _ _⟩

set_option maxHeartbeats 4000000 in
theorem levels_arg (n : Int) (A : Option Addr) (len cap : Nat) (l : List (Int × Int)) (w : World) (hx : RdM w w.heap.size A l) (hl : l.length = len) (hz : sizesK n l) (hin : allM n l = false) :
    Calls Try.prog 10 #[.int .i64 n, .slice A len cap] w fun e w' => e = .returned (.tuple #[.slice none 0 0, .int .i64 2]) ∧ Below w.heap.size w w' := by
  obtain ⟨h1, h8, hl8⟩ := hz
  rw [hl] at hl8
  have HL := Lib.hid hl
  have HIN := Lib.hid hin
  have g1 : ¬ n < 1 := by omega
  have g2 : ¬ 8 < n := by omega
  have g3 : ¬ (28 : Int) < (len : Int) := by omega
  clear hl hin
  go_enter Try.func10, Try.ntmps10
  go_wp2
  go_loopw [24] (fun i wr => ∃ k : Nat, k ≤ len ∧ i = .int .i64 k ∧ allM n l = allM n (l.drop k) ∧ Below w.heap.size w wr) (fun i _ => len - (intOf i).toNat)
  case atStart => exact ⟨0, Nat.zero_le _, rfl, rfl, Below.refl _ _⟩
  case round =>
    obtain ⟨k, hk, rfl, hr, hb⟩ := hrel
    have HR := Lib.hid hr
    have hsz := hb.size
    clear hr
    by_cases hlt : k < len
    · obtain ⟨ad, a, b, rfl, hbl, hd, hc0, hc1⟩ := RdM.at_ (hx.below hb (Nat.le_refl _)) (k := k) (by rw [HL.out]; exact hlt)
      have HD := Lib.hid (allM_drop (n := n) hd)
      clear hd
      by_cases he : inM n (a, b) = true
      · have HE := Lib.hid he
        obtain ⟨e1, e2, e3, e4⟩ := inM_iff.1 he
        simp only at e1 e2 e3 e4
        clear he
        rcases Int.lt_or_le b a with f1 | f1
        all_goals (
          go_wp2
          all_goals (
            go_round
            case rel => exact ⟨k + 1, by omega, by go_num, by rw [HR.out, HD.out, HE.out, Bool.true_and], hb.trans (by go_grown)⟩
            case measure => (simp [intOf]; omega)))
      · have he2 : ¬ (0 ≤ a ∧ a < n ∧ 0 ≤ b ∧ b < n) := fun h => he (inM_iff.2 h)
        clear he
        rcases Int.lt_or_le b a with f1 | f1
        all_goals (
          rcases Int.lt_or_le a 0 with f2 | f2
          all_goals (
            rcases Int.lt_or_le b 0 with f3 | f3
            all_goals (
              go_wp2
              all_goals first
                | (exfalso; omega)
                | (go_ret2; exact ⟨rfl, hb.trans (by go_grown)⟩))))
    · exfalso
      have := HR.out
      rw [List.drop_of_length_le (by rw [HL.out]; omega), HIN.out] at this
      cases this

theorem levelsIs : LevelsIs := by
  refine ⟨fun n A len cap ps w hx hl hk => ?_, fun n A len cap l z w hx hl hm hz h0 => ?_⟩
  · refine (levels_in n A len cap ps w hx hl hk.pos hk.small (by rw [← hl]; exact hk.short) hk.ins).mono ?_
    rintro e w' ⟨⟨f, hf, ⟨_, A', c', he, hr⟩ | ⟨⟨i, hi, hgt⟩, _⟩⟩, hb⟩
    · have ht : tabN n f = (List.range n).map (lvT n ps) := List.map_congr_left fun i hi => hf.same hk (List.mem_range.1 hi)
      rw [ht] at hr
      exact ⟨⟨A', c', he, hr⟩, hb⟩
    · have := hf.none hk hi
      omega
  · cases hz with
    | large h1 => exact levels_large n A len cap l w hl hm h1
    | arg h1 h2 => exact levels_arg n A len cap l w hx hl h1 h2
    | form m ps e1 e2 a1 a2 a3 a4 a5 =>
      subst e1 e2
      rw [mvI_len] at hl
      refine (levels_in m A len cap ps w hx hl a1 a2 (by rw [← hl]; exact a3) a4).mono ?_
      rintro e w' ⟨⟨f, hf, ⟨hle, _⟩ | ⟨_, he⟩⟩, hb⟩
      · obtain ⟨i, hi, hgt⟩ := hf.round a4 a5
        have := hle i hi
        omega
      · exact ⟨he, hb⟩
    | ok => exact absurd rfl h0

end Go.Proofs.Ythmcigdoaededaa
