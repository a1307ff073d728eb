/-
  For any tasks, any hands and any list: plan.List's turns keep the pairs and the hands, are no fewer than what plan.Best tells, and by hands at most (2 * hands - 1) times as many: GRAHAM'S BOUND (Q1).
-/
import Derived.Test.YthmcigdoaededaaLawTasks
import Derived.Test.YthmcigdoaededaaPlanList
import Derived.Test.YthmcigdoaededaaPlanBest
namespace Go.Proofs.Ythmcigdoaededaa
open Go.RowKit Go.ChangeShapes Go.WideShapes Go.ChangeAt Go.Deep
set_option linter.unusedSimpArgs false
set_option linter.unusedVariables false
set_option maxRecDepth 100000

theorem grd_len {n m L : Nat} {pr : Nat → Nat → Prop} {F : Nat → Nat} (h : Grd n m pr L F) : L ≤ n := by
  have := inj_len (R := fun t i => F i = t) (a := List.range L) (b := List.range n) List.nodup_range (fun t ht => by
    obtain ⟨i, hi, he⟩ := h.some t (List.mem_range.1 ht)
    exact ⟨i, List.mem_range.2 hi, he⟩) (fun t t' i _ _ h1 h2 => h1.symm.trans h2)
  rwa [List.length_range, List.length_range] at this

theorem grd_most {n m L : Nat} {pr : Nat → Nat → Prop} {F : Nat → Nat} (h : Grd n m pr L F) : moT ((List.range n).map F) = L := by
  have h1 : moT ((List.range n).map F) ≤ L := moT_le fun x hx => by
    obtain ⟨i, hi, rfl⟩ := List.mem_map.1 hx
    exact h.sch.lt i (List.mem_range.1 hi)
  rcases Nat.eq_zero_or_pos L with h0 | h0
  · omega
  · obtain ⟨i, hi, he⟩ := h.some (L - 1) (by omega)
    have h2 := moT_ge (List.mem_map.2 ⟨i, List.mem_range.2 hi, rfl⟩ : F i ∈ (List.range n).map F)
    omega

theorem at_succ (F : Nat → Nat) (t j : Nat) : (atL F t (List.range (j + 1))).length = (atL F t (List.range j)).length + if F j = t then 1 else 0 := by
  unfold atL
  rw [List.range_succ, List.filter_append, List.length_append]
  by_cases h : F j = t
  · rw [if_pos h, List.filter_cons_of_pos (by simpa using h)]; rfl
  · rw [if_neg h, List.filter_cons_of_neg (by simpa using h)]; rfl

theorem rowF_at {n i : Nat} (F : Nat → Nat) (h : i < n) : (ni ((List.range n).map F))[i]? = some ((F i : Nat) : Int) := ni_at (by rw [List.getElem?_map, List.getElem?_range h]; rfl)

theorem at_le (F : Nat → Nat) (t j : Nat) : (atL F t (List.range j)).length ≤ j := by
  have := (List.filter_sublist (l := List.range j) (p := fun i => decide (F i = t))).length_le
  rwa [List.length_range] at this

set_option maxHeartbeats 1000000 in
theorem lawPlanGraham_tasks (I : ListIs) (B : BestIs) (n : Int) (A : Option Addr) (len cap : Nat) (l : List (Int × Int)) (m : Int) (A2 : Option Addr) (len2 cap2 : Nat) (od : List Int) (z : Int) (w : World) (hx : RdM w w.heap.size A l) (hl : l.length = len) (hm : len ≤ maxLen) (hxo : RdI w w.heap.size A2 od) (hlo : od.length = len2) (hmo : len2 ≤ maxLen) (hz : TkCode n l z) (h0 : z ≠ 0) :
    Calls Try.prog 6 #[.int .i64 n, .slice A len cap, .int .i64 m, .slice A2 len2 cap2] w fun e w' => e = .returned (.bool true) ∧ Below w.heap.size w w' := by
  have HTK := Lib.hid (fun w hx => tasks_any n A len cap l z w hx hl hm hz)
  have HL := Lib.hid (I.bad n A len cap l m A2 len2 cap2 od z w hx hl hm hxo hlo hmo hz h0)
  have HB := Lib.hid (fun w hx => B.bad n A len cap l m z w hx hl hm hz h0)
  have hne : (z == 0) = false := by simpa using h0
  have hne2 : (z != 0) = true := by simpa using h0
  rw [hne] at HTK
  clear hz h0 hxo hlo hmo hl hm
  go_enter Try.func6, Try.ntmps6
  go_wp2_with fail
  refine HL.out.mono ?_
  rintro e w1 ⟨rfl, hb1⟩
  have hx1 := (hx.below hb1 (Nat.le_refl _)).more hb1.size
  go_wp2_with fail
  refine (HB.out _ hx1).mono ?_
  rintro e w2 ⟨rfl, hb2⟩
  have hb12 : Below w.heap.size w w2 := hb1.trans (hb2.mono hb1.size)
  have hx2 := (hx1.below hb2 (Nat.le_refl _)).more hb2.size
  go_wp2_with fail
  refine (HTK.out _ hx2).mono ?_
  rintro e w3 ⟨rfl, hb3⟩
  go_wp2
  go_ret
  exact ⟨ret_bool (by simp), hb12.trans (hb3.mono hb12.size)⟩

set_option maxHeartbeats 1000000 in
theorem lawPlanGraham_range (I : ListIs) (B : BestIs) (n : Nat) (A : Option Addr) (len cap : Nat) (ps : List (Nat × Nat)) (m : Int) (A2 : Option Addr) (len2 cap2 : Nat) (od : List Int) (w : World) (hx : RdM w w.heap.size A (mvI ps)) (hl : ps.length = len) (hk : TkOk n ps) (hxo : RdI w w.heap.size A2 od) (hlo : od.length = len2) (hmo : len2 ≤ maxLen) (hmr : m < 1 ∨ 8 < m) :
    Calls Try.prog 6 #[.int .i64 n, .slice A len cap, .int .i64 m, .slice A2 len2 cap2] w fun e w' => e = .returned (.bool true) ∧ Below w.heap.size w w' := by
  have hl28 := hk.short
  have HTK := Lib.hid (fun w hx => tasks_any n A len cap (mvI ps) 0 w hx (by rw [mvI_len, hl]) (by unfold maxLen; omega) hk.code)
  have HL := Lib.hid (I.range n A len cap ps m A2 len2 cap2 od w hx hl hk hxo hlo hmo hmr)
  have HB := Lib.hid (fun w hx => B.range n A len cap ps m w hx hl hk hmr)
  rw [show ((0 : Int) == 0) = true from rfl] at HTK
  clear hxo hlo hmo hl hk
  have hmr2 : m < 1 ∨ (¬ m < 1 ∧ 8 < m) := by omega
  clear hmr
  rcases hmr2 with g1 | ⟨g1, g2⟩
  all_goals (
    go_enter Try.func6, Try.ntmps6
    go_wp2_with fail
    refine HL.out.mono ?_
    rintro e w1 ⟨rfl, hb1⟩
    have hx1 := (hx.below hb1 (Nat.le_refl _)).more hb1.size
    go_wp2_with fail
    refine (HB.out _ hx1).mono ?_
    rintro e w2 ⟨rfl, hb2⟩
    have hb12 : Below w.heap.size w w2 := hb1.trans (hb2.mono hb1.size)
    have hx2 := (hx1.below hb2 (Nat.le_refl _)).more hb2.size
    go_wp2_with fail
    refine (HTK.out _ hx2).mono ?_
    rintro e w3 ⟨rfl, hb3⟩
    go_wp2
    go_ret
    exact ⟨ret_bool (by simp), hb12.trans (hb3.mono hb12.size)⟩)

set_option maxHeartbeats 1000000 in
theorem lawPlanGraham_form (I : ListIs) (B : BestIs) (n : Nat) (A : Option Addr) (len cap : Nat) (ps : List (Nat × Nat)) (m : Nat) (A2 : Option Addr) (len2 cap2 : Nat) (od : List Int) (w : World) (hx : RdM w w.heap.size A (mvI ps)) (hl : ps.length = len) (hk : TkOk n ps) (hm1 : 1 ≤ m) (hm8 : m ≤ 8) (hxo : RdI w w.heap.size A2 od) (hlo : od.length = len2) (hmo : len2 ≤ maxLen) (hno : ¬ ∃ q, od = ni q ∧ AllOnce n q) :
    Calls Try.prog 6 #[.int .i64 n, .slice A len cap, .int .i64 m, .slice A2 len2 cap2] w fun e w' => e = .returned (.bool true) ∧ Below w.heap.size w w' := by
  have hl28 := hk.short
  have HTK := Lib.hid (fun w hx => tasks_any n A len cap (mvI ps) 0 w hx (by rw [mvI_len, hl]) (by unfold maxLen; omega) hk.code)
  have HL := Lib.hid (I.form n A len cap ps m A2 len2 cap2 od w hx hl hk hm1 hm8 hxo hlo hmo hno)
  have HB := Lib.hid (fun w hx => B.ok n A len cap ps m w hx hl hk hm1 hm8)
  rw [show ((0 : Int) == 0) = true from rfl] at HTK
  have HON : Hid (onceB n od = false) := Lib.hid (onceB_no fun h => hno (once_natP h))
  have HLO := Lib.hid hlo
  clear hk hl hno hlo
  go_enter Try.func6, Try.ntmps6
  go_wp2_with fail
  refine HL.out.mono ?_
  rintro e w1 ⟨rfl, hb1⟩
  have hx1 := (hx.below hb1 (Nat.le_refl _)).more hb1.size
  go_wp2_with fail
  refine (HB.out _ hx1).mono ?_
  rintro e w2 ⟨⟨b, hbf, rfl⟩, hb2⟩
  have hb12 : Below w.heap.size w w2 := hb1.trans (hb2.mono hb1.size)
  have hx2 := (hx1.below hb2 (Nat.le_refl _)).more hb2.size
  clear hbf
  go_wp2_with fail
  refine (HTK.out _ hx2).mono ?_
  rintro e w3 ⟨rfl, hb3⟩
  have hb13 : Below w.heap.size w w3 := hb12.trans (hb3.mono hb12.size)
  have HONC := Lib.hid (refOnce_any n A2 len2 cap2 od w3.heap.size w3 ((hxo.below hb13 (Nat.le_refl _)).more hb13.size) HLO.out hmo)
  rw [HON.out] at HONC
  go_wp2_with (go_at_call 16; (with_reducible refine HONC.out.mono ?_); rintro e w4 ⟨rfl, rfl⟩)
  go_ret
  exact ⟨ret_bool (by simp), hb13⟩

set_option maxHeartbeats 8000000 in
theorem lawPlanGraham_ok (I : ListIs) (B : BestIs) (n : Nat) (A : Option Addr) (len cap : Nat) (ps : List (Nat × Nat)) (m : Nat) (A2 : Option Addr) (cap2 : Nat) (od : List Nat) (w : World) (hx : RdM w w.heap.size A (mvI ps)) (hl : ps.length = len) (hk : TkOk n ps) (hm1 : 1 ≤ m) (hm8 : m ≤ 8) (hxo : RdI w w.heap.size A2 (ni od)) (ho : AllOnce n od) :
    Calls Try.prog 6 #[.int .i64 n, .slice A len cap, .int .i64 m, .slice A2 n cap2] w fun e w' => e = .returned (.bool true) ∧ Below w.heap.size w w' := by
  obtain ⟨T, hT⟩ := trn_ex (ho.ord (m := m) hk hm1) n [] (DoneI.nil n ps) (by simp)
  have hl28 := hk.short
  rw [hl] at hl28
  have HTK := Lib.hid (fun w hx => tasks_any n A len cap (mvI ps) 0 w hx (by rw [mvI_len, hl]) (by unfold maxLen; omega) hk.code)
  have HL := Lib.hid (I.ok n A len cap ps m A2 cap2 od T w hx hl hk hm1 hm8 hxo ho hT)
  have HB := Lib.hid (fun w hx => B.ok n A len cap ps m w hx hl hk hm1 hm8)
  rw [show ((0 : Int) == 0) = true from rfl] at HTK
  have HON : Hid (onceB n (ni od) = true) := Lib.hid (onceB_iff.2 ho.once)
  have HLEN := Lib.hid ho.len
  have h8 := hk.small
  have HIN := Lib.hid hk.ins
  have HPL := Lib.hid hl
  have hgrd := hT.grd (ho.ord hk hm1)
  have HGR := Lib.hid hgrd
  have hLn := grd_len hgrd
  have HMT := Lib.hid (grd_most hgrd)
  have HPOS := Lib.hid hk.pos
  obtain ⟨F, hF⟩ : ∃ F, turnOf T = F := ⟨_, rfl⟩
  obtain ⟨L, hL⟩ : ∃ L, T.length = L := ⟨_, rfl⟩
  rw [hF] at HL HGR HMT
  rw [hL] at HGR hLn HMT
  have HRL : Hid (((List.range n).map F).length = n) := Lib.hid (by simp)
  clear hk hl ho hT hF hL hgrd
  go_enter Try.func6, Try.ntmps6
  go_wp2_with fail
  refine HL.out.mono ?_
  rintro e w1 ⟨⟨Ar, cr, rfl, hrd⟩, hb1⟩
  have hx1 := (hx.below hb1 (Nat.le_refl _)).more hb1.size
  go_wp2_with fail
  refine (HB.out _ hx1).mono ?_
  rintro e w2 ⟨⟨b, hbf, rfl⟩, hb2⟩
  have hb12 : Below w.heap.size w w2 := hb1.trans (hb2.mono hb1.size)
  have hx2 := (hx1.below hb2 (Nat.le_refl _)).more hb2.size
  have hrd2 := (hrd.below hb2 (Nat.le_refl _)).more hb2.size
  have hbL : b ≤ L := HGR.out.least hbf
  have HG : Hid (m * L ≤ (2 * m - 1) * b) := Lib.hid (by
    obtain ⟨f, hf⟩ := hbf.can
    exact HGR.out.graham hf hm1)
  clear hbf
  go_wp2_with fail
  refine (HTK.out _ hx2).mono ?_
  rintro e w3 ⟨rfl, hb3⟩
  have hb13 : Below w.heap.size w w3 := hb12.trans (hb3.mono hb12.size)
  have hs13 := hb13.size
  have hx3 := (hx2.below hb3 (Nat.le_refl _)).more hb3.size
  have hrd3 := (hrd2.below hb3 (Nat.le_refl _)).more hb3.size
  have HONC := Lib.hid (refOnce_any n A2 n cap2 (ni od) w3.heap.size w3 ((hxo.below hb13 (Nat.le_refl _)).more hb13.size) (by simp [ni, HLEN.out]) (by unfold maxLen; omega))
  rw [HON.out] at HONC
  clear hx hx1 hx2 hxo hrd hrd2 hb1 hb2 hb3 hb12
  go_wp2_with (go_at_call 16; (with_reducible refine HONC.out.mono ?_); rintro e w4 ⟨rfl, rfl⟩)
  go_loopw [68] (fun z wr => ∃ j : Nat, j ≤ len ∧ z = .int .i64 j ∧ Below w3.heap.size w3 wr) (fun z _ => len - (intOf z).toNat)
  case atStart => exact ⟨0, Nat.zero_le _, rfl, Below.refl _ _⟩
  case round =>
    obtain ⟨j, hj, rfl, hb4⟩ := hrel
    have hs4 := hb4.size
    by_cases hjl : j < len
    · obtain ⟨ad, a, c, rfl, hbl, hd, hc0, hc1⟩ := RdN.at_ (hx3.below hb4 (Nat.le_refl _)) (k := j) (by rw [HPL.out]; exact hjl)
      have hmem := List.mem_of_getElem? hd
      obtain ⟨e2, e4⟩ := HIN.out _ hmem
      simp only at e2 e4
      have hlt := HGR.out.sch.before a c e2 e4 hmem
      obtain ⟨adr, x1, rfl, hbr1, hr1, hcr1⟩ := (hrd3.below hb4 (Nat.le_refl _)).at_ (k := a) (by simp [ni]; exact e2)
      obtain ⟨adr2, x2, he, hbr2, hr2, hcr2⟩ := (hrd3.below hb4 (Nat.le_refl _)).at_ (k := c) (by simp [ni]; exact e4)
      injection he with he
      subst he
      rw [rowF_at F e2] at hr1
      rw [rowF_at F e4] at hr2
      injection hr1 with hr1
      injection hr2 with hr2
      subst hr1 hr2
      obtain ⟨x, hxa⟩ : ∃ x, F a = x := ⟨_, rfl⟩
      obtain ⟨y, hya⟩ : ∃ y, F c = y := ⟨_, rfl⟩
      rw [hxa] at hcr1 hlt
      rw [hya] at hcr2 hlt
      have hltI : (x : Int) < (y : Int) := by omega
      have hbr3 : (adr.add a).block < wr.heap.size := by omega
      have hbr4 : (adr.add c).block < wr.heap.size := by omega
      clear hd hmem hxa hya
      go_wp2
      go_region
      all_goals (
        go_wp2
        go_round
        case rel => exact ⟨j + 1, by omega, by go_num, hb4.trans (by go_grown)⟩
        case measure => (simp [intOf]; omega))
    · obtain ⟨wm, rfl⟩ : ∃ wm : World, wm = wr := ⟨_, rfl⟩
      have hrd4 := (hrd3.below hb4 (Nat.le_refl _)).more hs4
      clear hx3
      go_wp2
      go_loopw [15] (fun z wr => ∃ t : Nat, t ≤ n ∧ z = .int .i64 t ∧ wm = wr) (fun z _ => n - (intOf z).toNat)
      case atStart => exact ⟨0, Nat.zero_le _, rfl, rfl⟩
      case round =>
        obtain ⟨t, ht, rfl, rfl⟩ := hrel
        by_cases htn : t < n
        · go_wp2
          go_loopw [16, 91] (fun q z wr => ∃ j c : Nat, j ≤ n ∧ c ≤ j ∧ z = .int .i64 j ∧ q = .int .i64 c ∧ Hid ((atL F t (List.range j)).length = c) ∧ wm = wr) (fun _ z _ => n - (intOf z).toNat)
          case atStart => exact ⟨0, 0, Nat.zero_le _, Nat.le_refl _, rfl, rfl, Lib.hid rfl, rfl⟩
          case round =>
            obtain ⟨j, c, hj, hcj, rfl, rfl, HC, rfl⟩ := hrel
            by_cases hjn : j < n
            · obtain ⟨adr, x1, rfl, hbr1, hr1, hcr1⟩ := hrd4.at_ (k := j) (by simp [ni]; exact hjn)
              rw [rowF_at F hjn] at hr1
              injection hr1 with hr1
              subst hr1
              have HSU := Lib.hid (at_succ F t j)
              obtain ⟨x, hxa⟩ : ∃ x, F j = x := ⟨_, rfl⟩
              rw [hxa] at hcr1 HSU
              clear hxa
              by_cases hxt : x = t
              · have hbe : ((x : Int) == (t : Int)) = true := by simp [hxt]
                have HC2 : Hid ((atL F t (List.range (j + 1))).length = c + 1) := Lib.hid (by rw [HSU.out, if_pos hxt, HC.out])
                clear hxt
                go_wp2
                go_round
                case rel => exact ⟨j + 1, c + 1, by omega, by omega, by go_num, by go_num, HC2, trivial⟩
                case measure => (simp [intOf]; omega)
              · have hbe : ((x : Int) == (t : Int)) = false := by simp only [beq_eq_false_iff_ne, ne_eq]; omega
                have HC2 : Hid ((atL F t (List.range (j + 1))).length = c) := Lib.hid (by rw [HSU.out, if_neg hxt, HC.out]; rfl)
                clear hxt
                go_wp2
                go_round
                case rel => exact ⟨j + 1, c, by omega, by omega, by go_num, rfl, HC2, trivial⟩
                case measure => (simp [intOf]; omega)
            · have hjn2 : j = n := by omega
              subst hjn2
              have hcm : c ≤ m := by rw [← HC.out]; exact HGR.out.sch.few t
              have hcmI : ¬ (m : Int) < (c : Int) := by omega
              go_wp2
              go_round
              case rel => exact ⟨t + 1, by omega, by go_num, trivial⟩
              case measure => (simp [intOf]; omega)
        · have hL8 : L ≤ 8 := by omega
          have HMO := Lib.hid (most_any Ar n cr ((List.range n).map F) wm.heap.size wm hrd4 HRL.out (by unfold maxLen; omega) (fun x hx => by
            obtain ⟨i, hi, rfl⟩ := List.mem_map.1 hx
            have := HGR.out.sch.lt i (List.mem_range.1 hi)
            omega))
          rw [HMT.out] at HMO
          have hml : m * L ≤ 64 := Nat.mul_le_mul hm8 hL8
          have hmb : (2 * m - 1) * b ≤ 15 * 8 := Nat.mul_le_mul (by omega) (by omega)
          have hw1 : IntKind.i64.wrap ((m : Int) * (L : Int)) = ((m * L : Nat) : Int) := by
            rw [← Int.natCast_mul]
            exact IntWalk.i64_in _ ⟨by omega, by omega⟩
          have hw2 : IntKind.i64.wrap ((2 * (m : Int) - 1) * (b : Int)) = (((2 * m - 1) * b : Nat) : Int) := by
            rw [show (2 * (m : Int) - 1) = ((2 * m - 1 : Nat) : Int) by omega, ← Int.natCast_mul]
            exact IntWalk.i64_in _ ⟨by omega, by omega⟩
          have hg := HG.out
          obtain ⟨X, hX⟩ : ∃ X, m * L = X := ⟨_, rfl⟩
          obtain ⟨Y, hY⟩ : ∃ Y, (2 * m - 1) * b = Y := ⟨_, rfl⟩
          rw [hX] at hml hw1 hg
          rw [hY] at hmb hw2 hg
          clear hX hY
          go_wp2_with (go_at_call 22; (with_reducible refine HMO.out.mono ?_); rintro e w5 ⟨rfl, rfl⟩)
          go_ret
          exact ⟨ret_bool (by simp), hb13.trans (hb4.mono hs13)⟩

theorem lawPlanGraham_any (I : ListIs) (B : BestIs) (n : Int) (A : Option Addr) (cap : Nat) (l : List (Int × Int)) (m : Int) (A2 : Option Addr) (cap2 : Nat) (od : List Int) (w : World) (hx : RdM w w.heap.size A l) (hm : l.length ≤ maxLen) (hxo : RdI w w.heap.size A2 od) (hmo : od.length ≤ maxLen) :
    Calls Try.prog 6 #[.int .i64 n, .slice A l.length cap, .int .i64 m, .slice A2 od.length cap2] w fun e w' => e = .returned (.bool true) ∧ Below w.heap.size w w' := by
  obtain ⟨z, hz⟩ := tk_ex n l
  by_cases h0 : z = 0
  · subst h0
    obtain ⟨k, ps, rfl, rfl, hok⟩ := hz.zero
    by_cases hr : m < 1 ∨ 8 < m
    · exact lawPlanGraham_range I B k A _ cap ps m A2 _ cap2 od w hx (by rw [mvI_len]) hok hxo rfl hmo hr
    · obtain ⟨q, rfl⟩ : ∃ q : Nat, m = q := ⟨m.toNat, by omega⟩
      by_cases hon : ∃ q, od = ni q ∧ AllOnce k q
      · obtain ⟨q', rfl, hao⟩ := hon
        have : (ni q').length = k := by simp [ni, hao.len]
        rw [this]
        exact lawPlanGraham_ok I B k A _ cap ps q A2 cap2 q' w hx (by rw [mvI_len]) hok (by omega) (by omega) hxo hao
      · exact lawPlanGraham_form I B k A _ cap ps q A2 _ cap2 od w hx (by rw [mvI_len]) hok (by omega) (by omega) hxo rfl hmo hon
  · exact lawPlanGraham_tasks I B n A _ cap l m A2 _ cap2 od z w hx rfl hm hxo rfl hmo hz h0

set_option maxRecDepth 100000 in
theorem lawPlanGraham_lifted (os : Os) (started : os.Started) (H : Type) (enc : TypeId × Value → H) :
    ReturnsInHanded {} Try.checked os 6 .any (Rows.planGrahamSpec.pre6 enc Try.prog Try.f6 Rows.planGrahamRow.domain false) (Rows.planGrahamSpec.post enc Try.prog Try.f6 false true false false) := by
  refine returnsInHanded_of_change_sized (C := Try.checked) Try.own started (by kernel_rfl) Try.func6
    (ChangeSpec.witness6 (enc := enc) (C := Try.checked) false ⟨#[], #[.int .i64 0, .slice none 0 0, .int .i64 0, .slice none 0 0], []⟩ 8 (by kernel_rfl) (by kernel_rfl) (by kernel_rfl) (by kernel_rfl)) ?_
  intro W base args ds gs before hval0 hW hcnd hsz _
  have hval : ∀ (j : Nat) t v, Try.f6.params[j]? = some t → args[j]? = some v → Value.okWide Try.prog W .any base t v := hval0
  have hW' := hW
  obtain ⟨p, q, hA0, hV, rfl, hfz, hnd⟩ := hW
  have hA : DataW.TrodAll enc Try.prog W 0 (fun _ => true) true Try.f6.params.toList args.toList ds p := hA0
  obtain ⟨hgs, _⟩ := trodVars_none hV
  rw [Try.params6] at hA hval
  obtain ⟨v0, vs0, d0, ds0, p0, q0, hargs, rfl, rfl, h0, r0⟩ := trodAll_cons hA
  obtain ⟨v1, vs1, d1, ds1, p1, q1, rfl, rfl, rfl, h1, r1⟩ := trodAll_cons r0
  obtain ⟨v2, vs2, d2, ds2, p2, q2, rfl, rfl, rfl, h2, r2⟩ := trodAll_cons r1
  obtain ⟨v3, vs3, d3, ds3, p3, q3, rfl, rfl, rfl, h3, r3⟩ := trodAll_cons r2
  obtain ⟨rfl, rfl, rfl⟩ := trodAll_nil r3
  have hargs2 : args = #[v0, v1, v2, v3] := Array.toList_inj.1 hargs
  subst hargs2
  obtain ⟨a0, rfl, _, _, w0⟩ := open_int Try.underlying3 (hval 0 3 v0 rfl rfl) h0
  obtain ⟨A1, c1, l1, rfl, lc1, cm1, x1, r1⟩ := open_pairsA (hval 1 22 v1 rfl rfl) h1
  have b1 := len_reach Try.underlying22 (hval 1 22 _ rfl rfl) h1 hsz (j := 1) (by rw [Try.params6]; rfl) rfl
  rw [show Try.prog.bytesOf (Try.prog.elem 22) = 16 from by kernel_rfl] at b1
  obtain ⟨a2, rfl, _, _, w2⟩ := open_int Try.underlying3 (hval 2 3 v2 rfl rfl) h2
  obtain ⟨A3, c3, l3, rfl, lc3, cm3, x3, r3⟩ := open_intsA (hval 3 23 v3 rfl rfl) h3
  have b3 := len_reach Try.underlying23 (hval 3 23 _ rfl rfl) h3 hsz (j := 3) (by rw [Try.params6]; rfl) rfl
  rw [show Try.prog.bytesOf (Try.prog.elem 23) = 8 from by kernel_rfl] at b3
  refine (lawPlanGraham_any listIs bestIs a0 A1 c1 l1 a2 A3 c3 l3 _ x1 (by omega) x3 (by omega)).mono fun e W' ⟨he, hb⟩ => ?_
  subst he
  exact ⟨_, rfl, law_post Try.laidOut rfl (by kernel_rfl) Try.underlying4 ⟨rfl, rfl, rfl⟩ (by kernel_rfl) hW' hb⟩

theorem planGraham_holds : Rows.PlanGrahamSaid :=
  OpenClaim.holds_of_wide 6 Try.f6 rfl rfl rfl rfl rfl rfl rfl ⟨rfl, rfl, rfl, rfl, rfl⟩ rfl rfl rfl rfl rfl (by kernel_rfl) Try.func6 (show joinedFacts Try.prog 6 Try.f6 Rows.planGrahamSpec Rows.planGrahamRow = true from (by unfold joinedFacts; (repeat' (with_reducible refine and_both ?_ ?_)) <;> first | (with_reducible exact may_enter) | ((with_reducible refine make_ok ?_); rfl) | ((with_reducible refine lifts_ok ?_); rfl) | kernel_rfl))
    (of_decide_eq_true (by kernel_rfl)) (by unfold Func.isWrapper; rw [if_neg (of_decide_eq_false (by kernel_rfl))]; exact ⟨rfl, rfl⟩)
    (fun os started H enc _ => lawPlanGraham_lifted os started H enc)

end Go.Proofs.Ythmcigdoaededaa
