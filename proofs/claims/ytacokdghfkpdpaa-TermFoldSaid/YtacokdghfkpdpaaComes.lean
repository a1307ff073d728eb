/-
  codemasonref.Has and codemasonref.Comes: the terms by which the last one comes about, in their order.
-/
import Derived.Test.YtacokdghfkpdpaaInts
import Derived.Test.YtacokdghfkpdpaaApp
namespace Go.Proofs.Ytacokdghfkpdpaa
open Go.RowKit
set_option linter.unusedSimpArgs false
set_option linter.unusedVariables false
set_option maxRecDepth 100000

def hasB : List Int → Int → Bool
  | [], _ => false
  | y :: r, x => if x = y then true else hasB r x

theorem hasB_iff : ∀ {xs : List Int} {x : Int}, hasB xs x = true ↔ x ∈ xs
  | [], x => by simp [hasB]
  | y :: r, x => by
    unfold hasB
    split
    · simp [*]
    · rw [hasB_iff]; simp [*]

theorem hasB_go {x y : Int} {r : List Int} (h : (x == y) = false) : hasB (y :: r) x = hasB r x := by
  have : ¬ x = y := by simpa using h
  simp only [hasB, if_neg this]

theorem hasB_stop {x y : Int} {r : List Int} (h : (x == y) = true) : hasB (y :: r) x = true := by
  have : x = y := by simpa using h
  simp only [hasB, if_pos this]

set_option maxHeartbeats 1000000 in
theorem has_any (x : Int) (A : Option Addr) (len cap : Nat) (xs : List Int) (B : Nat) (w : World) (hx : RdI w B A xs) (hl : xs.length = len) (hm : len ≤ maxLen) :
    Calls Try.prog 29 #[.slice A len cap, .int .i64 x] w fun e w' => e = .returned (.bool (hasB xs x)) ∧ w = w' := by
  unfold maxLen at hm
  have HL := Lib.hid hl
  clear hl
  go_enter Try.func29, Try.ntmps29
  go_wp2
  go_loop [9] (fun i => ∃ k : Nat, k ≤ len ∧ i = .int .i64 k ∧ hasB xs x = hasB (xs.drop k) x) (fun i => len - (intOf i).toNat)
  case atStart => exact ⟨0, Nat.zero_le _, rfl, rfl⟩
  case round =>
    obtain ⟨k, hk, rfl, hr⟩ := hrel
    have HR := Lib.hid hr
    clear hr
    by_cases hlt : k < len
    · obtain ⟨ad, y, rfl, _, hd, hcell⟩ := hx.at_ (k := k) (by rw [HL.out]; exact hlt)
      have HD := Lib.hid (drop_at hd)
      clear hd
      by_cases hxy : x = y
      · have hb : (x == y) = true := by simp [hxy]
        have HB := Lib.hid hb
        clear hxy
        go_wp2
        go_ret
        exact ⟨ret_bool (by rw [HR.out, HD.out, hasB_stop HB.out]), rfl⟩
      · have hb : (x == y) = false := by simp [hxy]
        have HB := Lib.hid hb
        clear hxy
        go_wp2
        go_round
        case rel => exact ⟨k + 1, by omega, by go_num, by rw [HR.out, HD.out]; exact hasB_go HB.out⟩
        case measure => (simp [intOf]; omega)
    · go_wp2
      go_ret
      exact ⟨ret_bool (by rw [HR.out, List.drop_of_length_le (by rw [HL.out]; omega)]; rfl), rfl⟩

def lenOf : Value → Nat
  | .slice _ n _ => n
  | _ => 0

set_option maxHeartbeats 4000000 in
theorem comes_at (vars : Int) (A : Option Addr) (len lenF cap : Nat) (l : List Tm) (i : Int) (w : World) (hx : RdT w w.heap.size A l) (hl : l.length = len) (hle : len ≤ lenF) (hc : ckTerms vars l = 0) (hi : i = (len : Int) - 1) :
    Calls Try.prog 11 #[.slice A lenF cap, .int .i64 i] w fun e w' => ∃ A' c', e = .returned (.slice A' (comesL l).length c') ∧ RdI w' w'.heap.size A' (ni (comesL l)) ∧ Below w.heap.size w w' := by
  obtain ⟨_, _, b3, b4⟩ := ckTerms_bd hc
  have HL := Lib.hid hl
  have HC := Lib.hid hc
  rw [hl] at b3 b4
  obtain ⟨m, hm⟩ : ∃ m : Nat, i = (m : Int) := ⟨len - 1, by omega⟩
  subst hm
  have hml : m + 1 = len := by omega
  have HM := Lib.hid hml
  have hml2 : m < len := by omega
  have hml3 : len ≤ m + 1 := by omega
  clear hl hc hi hml
  go_enter Try.func11, Try.ntmps11
  go_wp2
  go_loopw [5, 6] (fun s z wr => ∃ (hs : List Nat) (k : Nat) (A2 : Option Addr) (c2 : Nat), k ≤ hs.length ∧ z = .int .i64 k ∧ s = .slice A2 hs.length c2 ∧ wr.ownsRow w.heap.size 3 1 (.slice A2 hs.length c2) hs.length (iv (ni hs)) ∧ Below w.heap.size w wr ∧ CIn l hs ∧ CDone l hs k)
    (fun s z _ => 2 * (len - lenOf s) + (lenOf s - (intOf z).toNat))
  case atStart =>
    refine ⟨[m], 0, _, _, by simp, rfl, rfl, ⟨rfl, .inr ⟨w.heap.size, 1, #[.int .i64 m], rfl, Nat.le_refl _, heap_alloc_new _ _, Nat.le_refl _, by simp [maxLen], rfl, rfl⟩⟩, by go_grown, ?_, fun p j t hp => by omega⟩
    have := CIn.start (l := l) (by rw [HL.out]; exact b3)
    rwa [show l.length - 1 = m from by have := HL.out; have := HM.out; omega] at this
  case round =>
    obtain ⟨hs, k, A2, c2, hk, rfl, rfl, hown, hb, hci, hcd⟩ := hrel
    have hhl := hci.len
    rw [HL.out] at hhl
    have HCI := Lib.hid hci
    have HCD := Lib.hid hcd
    have hsz := hb.size
    clear hci hcd
    by_cases hlt : k < hs.length
    · obtain ⟨j, hj⟩ : ∃ j, hs[k]? = some j := ⟨_, List.getElem?_eq_getElem hlt⟩
      have hjm : j ∈ hs := List.mem_of_getElem? hj
      obtain ⟨hjl, hjn⟩ := HCI.out.2.1 j hjm
      rw [HL.out] at hjl
      have hjF : j < lenF := by omega
      obtain ⟨ad2, z, rfl, hbl2, hz, hcz⟩ := (own_rdI hown (by simp [ni])).at_ (k := k) (by simpa [ni] using hlt)
      obtain rfl : z = (j : Int) := by rw [ni_at hj] at hz; injection hz with hz; exact hz.symm
      obtain ⟨ad, o, a, b, v, rfl, hbl, hd, hc0, hc1, hc2, hc3⟩ := ((hx.below hb (Nat.le_refl _)).more hb.size).at_ (k := j) (by rw [HL.out]; exact hjl)
      have hcase := ckTerms_cases HC.out hd
      by_cases ho : o < 3
      · have hcd2 := HCD.out.leaf hj hd (by simp only []; omega)
        have HCD2 := Lib.hid hcd2
        clear hcd2 hcase hd hjn hjm hz hj
        go_wp2
        go_round
        case rel => exact ⟨hs, k + 1, some ad2, c2, by omega, by go_num, rfl, hown.alloc _, by go_grown, HCI.out, HCD2.out⟩
        case measure => simp [intOf, lenOf]; omega
      · obtain ⟨ha0, ha1, hb0, hb1⟩ : 0 ≤ a ∧ a < j ∧ 0 ≤ b ∧ b < j := by omega
        obtain ⟨an, rfl⟩ := Int.eq_ofNat_of_zero_le ha0
        obtain ⟨bn, rfl⟩ := Int.eq_ofNat_of_zero_le hb0
        have hncl := need_closed HC.out hjn hd (by simp only []; omega)
        have hst := HCD.out.step hj hlt hd
        simp only [Int.toNat_natCast] at hncl hst
        have HN := Lib.hid hncl
        have HST := Lib.hid hst
        clear hst hncl hcase hd hjn hjm hz hj
        have ho3 : 3 ≤ o := by omega
        obtain ⟨wo, rfl⟩ : ∃ wo : World, wo = wr := ⟨_, rfl⟩
        have hbA := hown.lt
        have hg2 : (Value.slice (some ad2) hs.length c2).ownBlock ≠ some (wo.heap.size + 1) := by
          intro h
          have := (hown.lt _ h).2
          omega
        have hg2n : wo.heap.size + 1 < ((wo.alloc (Obj.cells #[.int .i64 o, .int .i64 an, .int .i64 bn, .int .i64 v] 30)).alloc (Obj.cells #[.int .i64 an, .int .i64 bn] 3)).heap.size := by simp
        go_wp2
        go_loopw [5, 36] (fun s z wi => ∃ (c : Nat) (A3 : Option Addr) (c3 : Nat), c ≤ 2 ∧ z = .int .i64 c ∧ s = .slice A3 (([an, bn].take c).foldl addH hs).length c3 ∧
            wi.ownsRow w.heap.size 3 1 (.slice A3 (([an, bn].take c).foldl addH hs).length c3) (([an, bn].take c).foldl addH hs).length (iv (ni (([an, bn].take c).foldl addH hs))) ∧ Below w.heap.size w wi ∧ Below wo.heap.size wo wo ∧
            Own wi (wo.heap.size + 1) 3 (iv [(an : Int), bn]) ∧ (Value.slice A3 (([an, bn].take c).foldl addH hs).length c3).ownBlock ≠ some (wo.heap.size + 1))
          (fun _ z _ => 2 - (intOf z).toNat)
        case atStart =>
          refine ⟨0, some ad2, c2, by omega, rfl, rfl, (hown.alloc _).alloc _, by go_grown, Below.refl _ _, ?_, hg2⟩
          have h := Own.new (wo.alloc (Obj.cells #[.int .i64 o, .int .i64 an, .int .i64 bn, .int .i64 v] 30)) 3 (iv [(an : Int), bn])
          rwa [World.size_alloc] at h
        case round =>
          obtain ⟨c, A3, c3, hc2, rfl, rfl, howni, hbi, _, hcells, hnb⟩ := hrel
          have hszi := hbi.size
          have hxs : ∀ x ∈ [an, bn], x < l.length ∧ (needL l).getD x false = true := by
            intro x hx
            simp at hx
            rcases hx with rfl | rfl
            · exact ⟨by rw [HL.out]; omega, HN.out.1⟩
            · exact ⟨by rw [HL.out]; omega, HN.out.2⟩
          have hcic := CIn.fold ([an, bn].take c) hs (fun x hx => hxs x (List.mem_of_mem_take hx)) HCI.out
          have hcl := hcic.len
          have hge := addH_ge (hs := hs) ([an, bn].take c)
          rw [HL.out] at hcl
          by_cases hclt : c < 2
          · obtain ⟨x, hxc⟩ : ∃ x, [an, bn][c]? = some x := ⟨_, List.getElem?_eq_getElem (by simpa using hclt)⟩
            obtain ⟨hxl, hxn⟩ := hxs x (List.mem_of_getElem? hxc)
            have hnx := fold_next (hs := hs) hxc
            have hcx : wr.cell? ⟨wo.heap.size + 1, c, none⟩ = some (.int .i64 (x : Int)) := hcells.cell (iv_at (ni_at (hs := [an, bn]) hxc))
            generalize List.foldl addH hs (List.take c [an, bn]) = cur at *
            have hgl := hcells.lt
            have h63 : cur.length + 1 ≤ maxLen := by unfold maxLen; omega
            have h63' : cur.length ≤ maxLen := by unfold maxLen; omega
            have hbig : (cur.length + 1) * 8 ≤ 140737488355328 := by omega
            have hrd := own_rdI howni (by simp [ni])
            have hbs : w.heap.size ≤ (wr.alloc (.cells #[.int .i64 (x : Int)] 3)).heap.size := by simp; omega
            have HX := Lib.hid hxc
            have HXS := Lib.hid hxs
            have HCC := Lib.hid hcic
            clear hxc hxs hcic hxn
            by_cases hin : x ∈ cur
            · have hb1 : hasB (ni cur) (x : Int) = true := hasB_iff.2 (ni_mem.2 hin)
              rw [show addH cur x = cur from by unfold addH; rw [if_pos hin]] at hnx
              have HNX := Lib.hid hnx
              have HI := Lib.hid hin
              clear hnx hin
              go_wp2_with (go_at_call 29; (with_reducible refine (has_any _ _ _ _ (ni cur) _ _ hrd ?_ h63').mono ?_); (· (simp [ni]; done)); rintro e w5 ⟨rfl, rfl⟩)
              go_round
              case rel => exact ⟨c + 1, A3, c3, by omega, by go_num, by rw [HNX.out], by rw [HNX.out]; exact howni, hbi, Below.refl _ _, hcells, by rw [HNX.out]; exact hnb⟩
              case measure => (simp [intOf]; omega)
            · have hb1 : hasB (ni cur) (x : Int) = false := by
                cases h : hasB (ni cur) (x : Int) with
                | false => rfl
                | true => exact absurd (ni_mem.1 (hasB_iff.1 h)) hin
              rw [show addH cur x = cur ++ [x] from by unfold addH; rw [if_neg hin]] at hnx
              have HNX := Lib.hid hnx
              have HI := Lib.hid hin
              clear hnx hin
              go_wp2_with (first
                | (go_at_call 29; (with_reducible refine (has_any _ _ _ _ (ni cur) _ _ hrd ?_ h63').mono ?_); (· (simp [ni]; done)); rintro e w5 ⟨rfl, rfl⟩)
                | (at_builtin; refine wpList_app' rfl (.tmp 44) (.tmp 46) 23 rfl w.heap.size 3 1 8 int_app _ rfl (howni.alloc _) [.int .i64 (x : Int)] rfl rfl (fun h => by cases h) (cells_at rfl _ _) (one_cell _) h63 hbig hbs ?_; intro A4 c4 w4 hown4 hg4 hb4 hnew4))
              go_round
              case rel =>
                have hlx : (List.foldl addH hs (List.take (c + 1) [an, bn])).length = cur.length + 1 := by rw [HNX.out]; simp
                refine ⟨c + 1, A4, c4, by omega, by go_num, by rw [hlx], ?_, (hbi.alloc hszi _).trans hb4, Below.refl _ _, (hg4.block _ (by simp; omega) (Ne.symm hnb)).trans (hcells.alloc _), ?_⟩
                · rw [hlx, HNX.out, ni_append, iv_append]; exact hown4
                · rw [hlx]
                  rcases hnew4 with e | e
                  · rw [e]; exact hnb
                  · rw [e]; intro h; injection h with h; simp at h; omega
              case measure => (simp [intOf]; omega)
          · have hc2' : c = 2 := by omega
            subst hc2'
            have hge2 : hs.length ≤ (addH (addH hs an) bn).length := hge
            have hcl2 : (addH (addH hs an) bn).length ≤ len := hcl
            have HC2 : Hid (CIn l (addH (addH hs an) bn)) := Lib.hid hcic
            have howni2 : wr.ownsRow w.heap.size 3 1 (.slice A3 (addH (addH hs an) bn).length c3) (addH (addH hs an) bn).length (iv (ni (addH (addH hs an) bn))) := howni
            clear hcic hxs hcells hge hcl howni hnb
            show Code.wp _ _ _ _ _
            go_wp2
            go_round
            case rel => exact ⟨addH (addH hs an) bn, k + 1, A3, c3, by omega, by go_num, rfl, howni2, hbi, HC2.out, HST.out⟩
            case measure => simp [intOf, lenOf]; omega
    · have hkn : k = hs.length := by omega
      subst hkn
      have hall := fun j => CDone.all (j := j) HCD.out HCI.out
      have HALL := Lib.hid hall
      have hrd0 := own_rdI hown (by simp [ni])
      obtain ⟨wo, rfl⟩ : ∃ wo : World, wo = wr := ⟨_, rfl⟩
      have hmx : hs.length ≤ maxLen := by unfold maxLen; omega
      clear hall hlt hk hown
      go_wp2
      go_loopw [10, 11] (fun s z wr => ∃ (j : Nat) (A3 : Option Addr) (c3 : Nat), j ≤ len ∧ z = .int .i64 j ∧ s = .slice A3 (outL l j).length c3 ∧ wr.ownsRow wo.heap.size 3 1 (.slice A3 (outL l j).length c3) (outL l j).length (iv (ni (outL l j))) ∧ Below wo.heap.size wo wr)
        (fun _ z _ => len - (intOf z).toNat)
      case atStart => exact ⟨0, none, 0, Nat.zero_le _, rfl, rfl, World.ownsRow_nil _ _ _ _, Below.refl _ _⟩
      case round =>
        obtain ⟨j, A3, c3, hj, rfl, rfl, howno, hbo⟩ := hrel
        have hszo := hbo.size
        by_cases hlt : j < len
        · have hjm : (j : Int) ≤ (m : Int) := by omega
          have hrd := hrd0.below hbo (Nat.le_refl _)
          have hol := outL_len (l := l) (j := j)
          have h63 : (outL l j).length + 1 ≤ maxLen := by unfold maxLen; omega
          have hbig : ((outL l j).length + 1) * 8 ≤ 140737488355328 := by omega
          have hbs : wo.heap.size ≤ (wr.alloc (.cells #[.int .i64 (j : Int)] 3)).heap.size := by simp; omega
          cases hmk : (needL l).getD j false with
          | true =>
            have hb1 : hasB (ni hs) (j : Int) = true := hasB_iff.2 (ni_mem.2 ((HALL.out j).2 hmk))
            have hy := outL_yes hmk
            have HY := Lib.hid hy
            clear hy hmk
            go_wp2_with (first
              | (go_at_call 29; (with_reducible refine (has_any _ _ _ _ (ni hs) _ _ hrd ?_ hmx).mono ?_); (· (simp [ni]; done)); rintro e w5 ⟨rfl, rfl⟩)
              | (at_builtin; refine wpList_app rfl (.tmp 57) (.tmp 59) 23 rfl wo.heap.size 3 1 8 int_app _ rfl (howno.alloc _) [.int .i64 (j : Int)] rfl rfl (fun h => by cases h) (cells_at rfl _ _) (one_cell _) h63 hbig hbs ?_; intro A4 c4 w4 hown4 hg4 hb4))
            go_round
            case rel =>
              have hlx : (outL l (j + 1)).length = (outL l j).length + 1 := by rw [HY.out]; simp
              exact ⟨j + 1, A4, c4, by omega, by go_num, by rw [hlx], by rw [hlx, HY.out, ni_append, iv_append]; exact hown4, (hbo.alloc hszo _).trans hb4⟩
            case measure => (simp [intOf]; omega)
          | false =>
            have hb1 : hasB (ni hs) (j : Int) = false := by
              cases h : hasB (ni hs) (j : Int) with
              | false => rfl
              | true => rw [(HALL.out j).1 (ni_mem.1 (hasB_iff.1 h))] at hmk; cases hmk
            have hy := outL_no hmk
            have HY := Lib.hid hy
            clear hy hmk
            go_wp2_with (go_at_call 29; (with_reducible refine (has_any _ _ _ _ (ni hs) _ _ hrd ?_ hmx).mono ?_); (· (simp [ni]; done)); rintro e w5 ⟨rfl, rfl⟩)
            go_round
            case rel => exact ⟨j + 1, A3, c3, by omega, by go_num, by rw [HY.out], by rw [HY.out]; exact howno, hbo⟩
            case measure => (simp [intOf]; omega)
        · have hjl : j = len := by omega
          have hjm : (m : Int) < (j : Int) := by omega
          have hcj : outL l j = comesL l := by rw [hjl, ← HL.out]; rfl
          have HJ := Lib.hid hcj
          clear hcj hjl
          go_wp2
          go_ret
          refine ⟨A3, c3, by rw [← HJ.out]; rfl, ?_, hb.trans (hbo.mono hsz)⟩
          rw [← HJ.out]
          exact own_rdI howno (by simp [ni])

theorem comes_any (vars : Int) (A : Option Addr) (len cap : Nat) (l : List Tm) (i : Int) (w : World) (hx : RdT w w.heap.size A l) (hl : l.length = len) (hc : ckTerms vars l = 0) (hi : i = (len : Int) - 1) :
    Calls Try.prog 11 #[.slice A len cap, .int .i64 i] w fun e w' => ∃ A' c', e = .returned (.slice A' (comesL l).length c') ∧ RdI w' w'.heap.size A' (ni (comesL l)) ∧ Below w.heap.size w w' :=
  comes_at vars A len len cap l i w hx hl (Nat.le_refl _) hc hi

end Go.Proofs.Ytacokdghfkpdpaa
