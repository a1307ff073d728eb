/-
  For any tasks of each of which one other at the most must be behind it, and any hands: plan.List over all tasks by falling levels takes as many turns as plan.Best tells: HU'S THEOREM (Q1).
-/
import Derived.Test.YthmcigdoaededaaLawPlanGraham
namespace Go.Proofs.Ythmcigdoaededaa
open Go.RowKit Go.ChangeShapes Go.WideShapes Go.ChangeAt Go.Deep
set_option linter.unusedSimpArgs false
set_option linter.unusedVariables false
set_option maxRecDepth 100000

/-- by falling levels: those of the highest q levels -/
def ordQ (lv : Nat → Nat) (n : Nat) : Nat → List Nat
  | 0 => []
  | q + 1 => ordQ lv n q ++ (List.range n).filter fun i => decide (lv i = n - q)

theorem mem_ordQ {lv : Nat → Nat} {n : Nat} (hlv : ∀ i, i < n → lv i ≤ n) {i : Nat} : ∀ {q : Nat}, q ≤ n → (i ∈ ordQ lv n q ↔ i < n ∧ n < lv i + q)
  | 0, _ => ⟨fun h => absurd h (by simp [ordQ]), fun ⟨h1, h2⟩ => by have := hlv i h1; omega⟩
  | q + 1, hq => by
    rw [ordQ, List.mem_append, mem_ordQ hlv (by omega), List.mem_filter, List.mem_range, decide_eq_true_eq]
    constructor
    · rintro (⟨h1, h2⟩ | ⟨h1, h2⟩)
      · exact ⟨h1, by omega⟩
      · exact ⟨h1, by omega⟩
    · rintro ⟨h1, h2⟩
      by_cases h3 : n < lv i + q
      · exact .inl ⟨h1, h3⟩
      · exact .inr ⟨h1, by omega⟩

theorem ordQ_nd {lv : Nat → Nat} {n : Nat} (hlv : ∀ i, i < n → lv i ≤ n) : ∀ {q : Nat}, q ≤ n → (ordQ lv n q).Nodup
  | 0, _ => List.nodup_nil
  | q + 1, hq => by
    rw [ordQ, List.nodup_append]
    refine ⟨ordQ_nd hlv (by omega), List.nodup_range.sublist List.filter_sublist, fun a ha b hb e => ?_⟩
    subst e
    have h1 := ((mem_ordQ hlv (by omega)).1 ha).2
    have h2 := of_decide_eq_true (List.mem_filter.1 hb).2
    omega

theorem ordQ_fall {lv : Nat → Nat} {n : Nat} (hlv : ∀ i, i < n → lv i ≤ n) : ∀ {q : Nat}, q ≤ n → (ordQ lv n q).Pairwise fun a b => lv b ≤ lv a
  | 0, _ => List.Pairwise.nil
  | q + 1, hq => by
    rw [ordQ, List.pairwise_append]
    refine ⟨ordQ_fall hlv (by omega), ?_, fun a ha b hb => ?_⟩
    · refine List.Pairwise.imp_of_mem (fun {a b} ha hb _ => ?_) (List.nodup_range.sublist List.filter_sublist : ((List.range n).filter fun i => decide (lv i = n - q)).Nodup)
      have h1 := of_decide_eq_true (List.mem_filter.1 ha).2
      have h2 := of_decide_eq_true (List.mem_filter.1 hb).2
      omega
    · have h1 := ((mem_ordQ hlv (by omega)).1 ha).2
      have h2 := of_decide_eq_true (List.mem_filter.1 hb).2
      omega

theorem ordQ_all {lv : Nat → Nat} {n : Nat} (hlv : ∀ i, i < n → lv i ≤ n) (hpos : ∀ i, i < n → 1 ≤ lv i) : AllOnce n (ordQ lv n n) :=
  ⟨ordQ_nd hlv (Nat.le_refl _), fun i => by
    rw [mem_ordQ hlv (Nat.le_refl _)]
    exact ⟨fun h => h.1, fun h => ⟨h, by have := hpos i h; omega⟩⟩⟩

theorem filt_succ (lv : Nat → Nat) (kk j : Nat) : (List.range (j + 1)).filter (fun i => decide (lv i = kk)) = if lv j = kk then (List.range j).filter (fun i => decide (lv i = kk)) ++ [j] else (List.range j).filter (fun i => decide (lv i = kk)) := by
  rw [List.range_succ, List.filter_append]
  by_cases h : lv j = kk
  · rw [if_pos h, List.filter_cons_of_pos (by simpa using h)]; rfl
  · rw [if_neg h, List.filter_cons_of_neg (by simpa using h)]; simp

/-- among the first k pairs none clash -/
def OneK (ps : List (Nat × Nat)) (k : Nat) : Prop := ∀ i j a b c, i < k → j < i → ps[i]? = some (a, b) → ps[j]? = some (a, c) → b = c

theorem OneK.all {ps : List (Nat × Nat)} (h : OneK ps ps.length) : ∀ a b c, (a, b) ∈ ps → (a, c) ∈ ps → b = c := by
  intro a b c hb hc
  obtain ⟨i, hi, hib⟩ := List.getElem_of_mem hb
  obtain ⟨j, hj, hjc⟩ := List.getElem_of_mem hc
  have h1 : ps[i]? = some (a, b) := by rw [List.getElem?_eq_getElem hi, hib]
  have h2 : ps[j]? = some (a, c) := by rw [List.getElem?_eq_getElem hj, hjc]
  rcases Nat.lt_trichotomy i j with e | e | e
  · exact (h j i a c b hj e h2 h1).symm
  · subst e
    rw [h1] at h2
    injection h2 with h2
    injection h2
  · exact h i j a b c hi e h1 h2

set_option maxHeartbeats 1000000 in
theorem lawPlanHu_tasks (V : LevelsIs) (n : Int) (A : Option Addr) (len cap : Nat) (l : List (Int × Int)) (m : Int) (z : Int) (w : World) (hx : RdM w w.heap.size A l) (hl : l.length = len) (hm : len ≤ maxLen) (hz : TkCode n l z) (h0 : z ≠ 0) :
    Calls Try.prog 8 #[.int .i64 n, .slice A len cap, .int .i64 m] w fun e w' => e = .returned (.bool true) ∧ Below w.heap.size w w' := by
  have HTK := Lib.hid (fun w hx => tasks_any n A len cap l z w hx hl hm hz)
  have HV := Lib.hid (V.bad n A len cap l z w hx hl hm hz h0)
  have hne : (z == 0) = false := by simpa using h0
  have hne2 : (z != 0) = true := by simpa using h0
  rw [hne] at HTK
  clear hz h0 hl hm
  go_enter Try.func8, Try.ntmps8
  go_wp2_with fail
  refine HV.out.mono ?_
  rintro e w1 ⟨rfl, hb1⟩
  have hx1 := (hx.below hb1 (Nat.le_refl _)).more hb1.size
  go_wp2_with fail
  refine (HTK.out _ hx1).mono ?_
  rintro e w2 ⟨rfl, hb2⟩
  go_wp2
  go_ret
  exact ⟨ret_bool (by simp), hb1.trans (hb2.mono hb1.size)⟩

set_option maxHeartbeats 16000000 in
theorem lawPlanHu_ok (V : LevelsIs) (I : ListIs) (B : BestIs) (n : Nat) (A : Option Addr) (len cap : Nat) (ps : List (Nat × Nat)) (m : Int) (w : World) (hx : RdM w w.heap.size A (mvI ps)) (hl : ps.length = len) (hk : TkOk n ps) (hlc : len ≤ cap) (hcm : cap ≤ maxLen) :
    Calls Try.prog 8 #[.int .i64 n, .slice A len cap, .int .i64 m] w fun e w' => e = .returned (.bool true) ∧ Below w.heap.size w w' := by
  have hl28 := hk.short
  rw [hl] at hl28
  unfold maxLen at hcm
  have HTK := Lib.hid (fun w hx => tasks_any n A len cap (mvI ps) 0 w hx (by rw [mvI_len, hl]) (by unfold maxLen; omega) hk.code)
  have HV := Lib.hid (V.ok n A len cap ps w hx hl hk)
  rw [show ((0 : Int) == 0) = true from rfl] at HTK
  have h8 := hk.small
  have HK := Lib.hid hk
  have HPL := Lib.hid hl
  have HLP : Hid (∀ i, i < n → 1 ≤ lvT n ps i ∧ lvT n ps i ≤ n) := Lib.hid fun i hi => ⟨hk.lev.pos i hi, hk.lev_le hi⟩
  clear hl hk
  go_enter Try.func8, Try.ntmps8
  go_wp2_with fail
  refine HV.out.mono ?_
  rintro e w1 ⟨⟨Al, cl, rfl, hrd⟩, hb1⟩
  have hx1 := (hx.below hb1 (Nat.le_refl _)).more hb1.size
  go_wp2_with fail
  refine (HTK.out _ hx1).mono ?_
  rintro e w2 ⟨rfl, hb2⟩
  have hb12 : Below w.heap.size w w2 := hb1.trans (hb2.mono hb1.size)
  have hs12 := hb12.size
  have hx2 := (hx1.below hb2 (Nat.le_refl _)).more hb2.size
  have hrd2 := (hrd.below hb2 (Nat.le_refl _)).more hb2.size
  clear hx hx1 hrd hb1 hb2
  go_wp2
  go_loopw [42] (fun z wr => ∃ k : Nat, k ≤ len ∧ z = .int .i64 k ∧ Hid (OneK ps k) ∧ Below w2.heap.size w2 wr) (fun z _ => len - (intOf z).toNat)
  case atStart => exact ⟨0, Nat.zero_le _, rfl, Lib.hid (fun i j a b c h => by omega), Below.refl _ _⟩
  case round =>
    obtain ⟨k, hkl, rfl, HO, hb3⟩ := hrel
    have hs3 := hb3.size
    by_cases hlt : k < len
    · obtain ⟨ad, a, b, rfl, hbl, hd, hc0, hc1⟩ := RdN.at_ (hx2.below hb3 (Nat.le_refl _)) (k := k) (by rw [HPL.out]; exact hlt)
      have HD := Lib.hid hd
      have hcp : cap ≠ 0 := by omega
      have f1 : (k : Int) ≤ (cap : Int) := by omega
      have f2 : (k : Int) ≤ (len : Int) := by omega
      clear hd
      obtain ⟨wo, rfl⟩ : ∃ wo : World, wo = wr := ⟨_, rfl⟩
      have hN := Own.new wo 36 [.int .i64 (a : Nat), .int .i64 (b : Nat)]
      have hbo : Below wo.heap.size wo (wo.alloc (.cells #[.int .i64 (a : Nat), .int .i64 (b : Nat)] 36)) := by go_grown
      have hso : (wo.alloc (.cells #[.int .i64 (a : Nat), .int .i64 (b : Nat)] 36)).heap.size = wo.heap.size + 1 := by simp
      go_wp2
      obtain ⟨wm, hwm⟩ : ∃ wm, wo.alloc (.cells #[.int .i64 (a : Nat), .int .i64 (b : Nat)] 36) = wm := ⟨_, rfl⟩
      try rw [hwm]
      rw [hwm] at hbo hso
      have hN2 : Own wm wo.heap.size 36 [.int .i64 (a : Nat), .int .i64 (b : Nat)] := by rw [← hwm]; exact hN
      clear hwm hN
      go_loopw [51] (fun z wr => ∃ j : Nat, j ≤ k ∧ z = .int .i64 j ∧ Hid (∀ i c, i < j → ps[i]? = some (a, c) → b = c) ∧ Below wm.heap.size wm wr) (fun z _ => k - (intOf z).toNat)
      case atStart => exact ⟨0, Nat.zero_le _, rfl, Lib.hid (fun i c h => by omega), Below.refl _ _⟩
      case round =>
        obtain ⟨j, hj, rfl, HJ, hb4⟩ := hrel
        have hs4 := hb4.size
        have hb24 : Below w2.heap.size w2 wr := hb3.trans ((hbo.mono hs3).trans (hb4.mono (by omega)))
        have hN4 := hN2.below hb4 (by omega)
        have hn0 := hN4.cell (j := 0) rfl
        have hn1 := hN4.cell (j := 1) rfl
        have hnl := hN4.lt
        by_cases hjk : j < k
        · obtain ⟨ad2, a2, b2, he, hbl2, hd2, hc20, hc21⟩ := RdN.at_ (hx2.below hb24 (Nat.le_refl _)) (k := j) (by rw [HPL.out]; omega)
          injection he with he
          subst he
          have HD2 := Lib.hid hd2
          clear hd2
          by_cases ha : a = a2
          · subst ha
            by_cases hbb : b = b2
            · subst hbb
              have HJ2 : Hid (∀ i c, i < j + 1 → ps[i]? = some (a, c) → b = c) := Lib.hid fun i c hi hc => by
                by_cases e : i = j
                · subst e; rw [HD2.out] at hc; injection hc with hc; injection hc
                · exact HJ.out i c (by omega) hc
              go_wp2
              go_round
              case rel => exact ⟨j + 1, by omega, by go_num, HJ2, hb4.trans (by go_grown)⟩
              case measure => (simp [intOf]; omega)
            · have hbI : ((b : Int) != (b2 : Int)) = true := by simp only [bne_iff_ne, ne_eq]; omega
              have hbI2 : ((b : Int) == (b2 : Int)) = false := by simp only [beq_eq_false_iff_ne, ne_eq]; omega
              go_wp2
              go_ret
              exact ⟨rfl, hb12.trans ((hb24.trans (by go_grown)).mono hs12)⟩
          · have haI : ((a : Int) == (a2 : Int)) = false := by simp only [beq_eq_false_iff_ne, ne_eq]; omega
            have HJ2 : Hid (∀ i c, i < j + 1 → ps[i]? = some (a, c) → b = c) := Lib.hid fun i c hi hc => by
              by_cases e : i = j
              · subst e; rw [HD2.out] at hc; injection hc with hc; injection hc with e1 e2; exact absurd e1.symm ha
              · exact HJ.out i c (by omega) hc
            go_wp2
            go_round
            case rel => exact ⟨j + 1, by omega, by go_num, HJ2, hb4.trans (by go_grown)⟩
            case measure => (simp [intOf]; omega)
        · have hjk2 : j = k := by omega
          subst hjk2
          have HO2 : Hid (OneK ps (j + 1)) := Lib.hid fun i i2 a' b' c' hi hi2 h1 h2 => by
            by_cases e : i = j
            · subst e
              rw [HD.out] at h1
              injection h1 with h1
              injection h1 with e1 e2
              subst e1 e2
              exact HJ.out i2 c' hi2 h2
            · exact HO.out i i2 a' b' c' (by omega) hi2 h1 h2
          go_wp2
          go_round
          case rel => exact ⟨j + 1, by omega, by go_num, HO2, hb24⟩
          case measure => (simp [intOf]; omega)
    · have hkl2 : k = len := by omega
      subst hkl2
      have HONE : Hid (∀ a b c, (a, b) ∈ ps → (a, c) ∈ ps → b = c) := Lib.hid (OneK.all (by rw [HPL.out]; exact HO.out))
      obtain ⟨w3, rfl⟩ : ∃ w3 : World, w3 = wr := ⟨_, rfl⟩
      have hx3 := (hx2.below hb3 (Nat.le_refl _)).more hs3
      have hrd3 := (hrd2.below hb3 (Nat.le_refl _)).more hs3
      have hb03 : Below w.heap.size w w3 := hb12.trans (hb3.mono hs12)
      have hs03 := hb03.size
      clear hx2 hrd2 HO hb12 hb3
      by_cases hr : m < 1 ∨ 8 < m
      · have hr2 : m < 1 ∨ (¬ m < 1 ∧ 8 < m) := by omega
        clear hr
        rcases hr2 with g1 | ⟨g1, g2⟩
        all_goals (
          go_wp2
          go_ret
          exact ⟨rfl, hb03⟩)
      · obtain ⟨q, rfl⟩ : ∃ q : Nat, m = q := ⟨m.toNat, by omega⟩
        have hq1 : 1 ≤ q := by omega
        have hq8 : q ≤ 8 := by omega
        clear hr
        go_wp2
        go_loopw [13, 14] (fun x z wr => ∃ (p kk c : Nat) (A3 : Option Addr) (c3 : Nat), kk + p = n ∧ c ≤ p * 8 ∧ z = .int .i64 kk ∧ x = .slice A3 c c3 ∧ Hid ((ordQ (lvT n ps) n p).length = c) ∧ wr.ownsRow w3.heap.size 3 1 (.slice A3 c c3) c (iv (ni (ordQ (lvT n ps) n p))) ∧ Below w3.heap.size w3 wr) (fun _ z _ => (intOf z).toNat)
        case atStart => exact ⟨0, n, 0, none, 0, by omega, by omega, rfl, rfl, Lib.hid rfl, World.ownsRow_nil _ _ _ _, Below.refl _ _⟩
        case round =>
          obtain ⟨p, kk, c, A3, c3, hkp, hcp, rfl, rfl, HC, hrow, hb4⟩ := hrel
          have hs4 := hb4.size
          by_cases hk0 : 0 < kk
          · have HNP : Hid (n - p = kk) := Lib.hid (by omega)
            go_wp2
            go_loopw [13, 15] (fun x z wr => ∃ (j c : Nat) (A3 : Option Addr) (c3 : Nat), j ≤ n ∧ c ≤ p * 8 + j ∧ z = .int .i64 j ∧ x = .slice A3 c c3 ∧ Hid ((ordQ (lvT n ps) n p ++ (List.range j).filter (fun i => decide (lvT n ps i = kk))).length = c) ∧ wr.ownsRow w3.heap.size 3 1 (.slice A3 c c3) c (iv (ni (ordQ (lvT n ps) n p ++ (List.range j).filter (fun i => decide (lvT n ps i = kk))))) ∧ Below w3.heap.size w3 wr) (fun _ z _ => n - (intOf z).toNat)
            case atStart => exact ⟨0, c, A3, c3, Nat.zero_le _, by omega, rfl, rfl, by simpa using HC, by simpa using hrow, hb4⟩
            case round =>
              obtain ⟨j, c, A3, c3, hj, hcj, rfl, rfl, HC, hrow, hb5⟩ := hrel
              have hs5 := hb5.size
              by_cases hjn : j < n
              · obtain ⟨ad, x1, rfl, hbl, hr1, hcr1⟩ := (hrd3.below hb5 (Nat.le_refl _)).at_ (k := j) (by simp [ni]; exact hjn)
                rw [rowF_at (lvT n ps) hjn] at hr1
                injection hr1 with hr1
                subst hr1
                have HFS := Lib.hid (filt_succ (lvT n ps) kk j)
                obtain ⟨x, hxa⟩ : ∃ x, lvT n ps j = x := ⟨_, rfl⟩
                rw [hxa] at hcr1 HFS
                clear hxa
                by_cases hxk : x = kk
                · have hbe : ((x : Int) == (kk : Int)) = true := by simp [hxk]
                  have HF2 : Hid (ordQ (lvT n ps) n p ++ (List.range (j + 1)).filter (fun i => decide (lvT n ps i = kk)) = (ordQ (lvT n ps) n p ++ (List.range j).filter (fun i => decide (lvT n ps i = kk))) ++ [j]) := Lib.hid (by rw [HFS.out, if_pos hxk, List.append_assoc])
                  obtain ⟨Q, hQ⟩ : ∃ Q, ordQ (lvT n ps) n p ++ (List.range j).filter (fun i => decide (lvT n ps i = kk)) = Q := ⟨_, rfl⟩
                  rw [hQ] at HC hrow HF2
                  have h63 : c + 1 ≤ maxLen := by unfold maxLen; omega
                  have hbg : (c + 1) * 8 ≤ 140737488355328 := by omega
                  clear hxk hQ
                  go_wp2_with (at_builtin; refine wpList_app' rfl (.tmp 91) (.tmp 93) 23 rfl w3.heap.size 3 1 8 int_app (iv (ni Q)) rfl (own_below hrow (by go_grown)) [.int .i64 j] rfl rfl (fun h => by cases h) (cells_at (by simp) _ _) (one_cell _) h63 hbg (by simp; omega) ?_; intro A5 c5 w6 hown6 hg6 hb6 hk6)
                  go_round
                  case rel => exact ⟨j + 1, c + 1, A5, c5, by omega, by omega, by go_num, rfl, by rw [HF2.out]; exact Lib.hid (by rw [List.length_append, HC.out]; rfl), by rw [HF2.out, show iv (ni (Q ++ [j])) = iv (ni Q) ++ [.int .i64 j] by simp [iv, ni]]; exact hown6, hb5.trans ((by go_grown : Below w3.heap.size wr _).trans hb6)⟩
                  case measure => (simp [intOf]; omega)
                · have hbe : ((x : Int) == (kk : Int)) = false := by simp only [beq_eq_false_iff_ne, ne_eq]; omega
                  have HF2 : Hid ((List.range (j + 1)).filter (fun i => decide (lvT n ps i = kk)) = (List.range j).filter (fun i => decide (lvT n ps i = kk))) := Lib.hid (by rw [HFS.out, if_neg hxk])
                  rw [← HF2.out] at HC hrow
                  clear hxk
                  go_wp2
                  go_round
                  case rel => exact ⟨j + 1, c, A3, c3, by omega, by omega, by go_num, rfl, HC, hrow, hb5⟩
                  case measure => (simp [intOf]; omega)
              · have hjn2 : j = n := by omega
                subst hjn2
                have HQ2 : Hid (ordQ (lvT j ps) j (p + 1) = ordQ (lvT j ps) j p ++ (List.range j).filter (fun i => decide (lvT j ps i = kk))) := Lib.hid (by rw [ordQ, HNP.out])
                rw [← HQ2.out] at HC hrow
                go_wp2
                go_round
                case rel => exact ⟨p + 1, kk - 1, c, A3, c3, by omega, by omega, by go_num, rfl, HC, hrow, hb5⟩
                case measure => (simp [intOf]; omega)
          · have hk00 : kk = 0 := by omega
            have hpn : p = n := by omega
            subst hk00 hpn
            have hall := ordQ_all (lv := lvT p ps) (n := p) (fun i hi => (HLP.out i hi).2) (fun i hi => (HLP.out i hi).1)
            have hcn : c = p := by rw [← HC.out]; exact hall.len
            have HALL := Lib.hid hall
            have hord := hall.ord (m := q) HK.out hq1
            obtain ⟨T, hT⟩ := trn_ex hord p [] (DoneI.nil p ps) (by simp)
            have hgrd := hT.grd hord
            have hfall := hT.fall hord (ordQ_fall (lv := lvT p ps) (n := p) (fun i hi => (HLP.out i hi).2) (Nat.le_refl _))
            have HT := Lib.hid hT
            have HGR := Lib.hid hgrd
            have HMT := Lib.hid (grd_most hgrd)
            have hLn := grd_len hgrd
            have HEQ : Hid (∀ b, Fewest p q (fun a b => (a, b) ∈ ps) b → T.length = b) := Lib.hid fun b hb => by
              obtain ⟨s, hs⟩ := hb.can
              have h1 := hgrd.least hb
              have h2 := hgrd.sch.lt 0 HK.out.pos
              have h3 := hu hgrd HK.out.lev hfall (fun a b c _ _ _ h1 h2 => HONE.out a b c h1 h2) hs (by omega)
              omega
            rw [hcn] at hrow ⊢
            have hRI := own_rdI hrow (by simp [ni, hall.len])
            have hx4 := (hx3.below hb4 (Nat.le_refl _)).more hs4
            have HL := Lib.hid (I.ok p A k cap ps q A3 c3 (ordQ (lvT p ps) p p) T _ hx4 HPL.out HK.out hq1 hq8 hRI hall hT)
            clear hall hord hT hgrd hfall hcn
            go_wp2_with fail
            refine HL.out.mono ?_
            rintro e w5 ⟨⟨Ax, cx, rfl, hrx⟩, hb5⟩
            have hx5 := (hx4.below hb5 (Nat.le_refl _)).more hb5.size
            go_wp2_with fail
            refine (B.ok p A k cap ps q _ hx5 HPL.out HK.out hq1 hq8).mono ?_
            rintro e w6 ⟨⟨b, hbf, rfl⟩, hb6⟩
            have hbe := HEQ.out b hbf
            have hrx6 := (hrx.below hb6 (Nat.le_refl _)).more hb6.size
            have hMO := most_any Ax p cx ((List.range p).map (turnOf T)) w6.heap.size w6 hrx6 (by simp) (by unfold maxLen; omega) (fun x hx => by
              obtain ⟨i, hi, rfl⟩ := List.mem_map.1 hx
              have := HGR.out.sch.lt i (List.mem_range.1 hi)
              omega)
            rw [HMT.out, hbe] at hMO
            have HMO := Lib.hid hMO
            have hb8 : b ≤ 8 := by omega
            clear hbf hbe hMO
            go_wp2_with (go_at_call 22; (with_reducible refine HMO.out.mono ?_); rintro e w7 ⟨rfl, rfl⟩)
            go_ret
            exact ⟨ret_bool (by simp), hb03.trans ((hb4.trans ((hb5.trans (hb6.mono hb5.size)).mono hs4)).mono hs03)⟩

theorem lawPlanHu_any (V : LevelsIs) (I : ListIs) (B : BestIs) (n : Int) (A : Option Addr) (cap : Nat) (l : List (Int × Int)) (m : Int) (w : World) (hx : RdM w w.heap.size A l) (hlc : l.length ≤ cap) (hcm : cap ≤ maxLen) :
    Calls Try.prog 8 #[.int .i64 n, .slice A l.length cap, .int .i64 m] w fun e w' => e = .returned (.bool true) ∧ Below w.heap.size w w' := by
  obtain ⟨z, hz⟩ := tk_ex n l
  by_cases h0 : z = 0
  · subst h0
    obtain ⟨k, ps, rfl, rfl, hok⟩ := hz.zero
    exact lawPlanHu_ok V I B k A _ cap ps m w hx (by rw [mvI_len]) hok hlc hcm
  · exact lawPlanHu_tasks V n A _ cap l m z w hx rfl (by omega) hz h0

set_option maxRecDepth 100000 in
theorem lawPlanHu_lifted (os : Os) (started : os.Started) (H : Type) (enc : TypeId × Value → H) :
    ReturnsInHanded {} Try.checked os 8 .any (Rows.planHuSpec.pre6 enc Try.prog Try.f8 Rows.planHuRow.domain false) (Rows.planHuSpec.post enc Try.prog Try.f8 false true false false) := by
  refine returnsInHanded_of_change_sized (C := Try.checked) Try.own started (by kernel_rfl) Try.func8
    (ChangeSpec.witness6 (enc := enc) (C := Try.checked) false ⟨#[], #[.int .i64 0, .slice none 0 0, .int .i64 0], []⟩ 8 (by kernel_rfl) (by kernel_rfl) (by kernel_rfl) (by kernel_rfl)) ?_
  intro W base args ds gs before hval0 hW hcnd hsz _
  have hval : ∀ (j : Nat) t v, Try.f8.params[j]? = some t → args[j]? = some v → Value.okWide Try.prog W .any base t v := hval0
  have hW' := hW
  obtain ⟨p, q, hA0, hV, rfl, hfz, hnd⟩ := hW
  have hA : DataW.TrodAll enc Try.prog W 0 (fun _ => true) true Try.f8.params.toList args.toList ds p := hA0
  obtain ⟨hgs, _⟩ := trodVars_none hV
  rw [Try.params8] at hA hval
  obtain ⟨v0, vs0, d0, ds0, p0, q0, hargs, rfl, rfl, h0, r0⟩ := trodAll_cons hA
  obtain ⟨v1, vs1, d1, ds1, p1, q1, rfl, rfl, rfl, h1, r1⟩ := trodAll_cons r0
  obtain ⟨v2, vs2, d2, ds2, p2, q2, rfl, rfl, rfl, h2, r2⟩ := trodAll_cons r1
  obtain ⟨rfl, rfl, rfl⟩ := trodAll_nil r2
  have hargs2 : args = #[v0, v1, v2] := Array.toList_inj.1 hargs
  subst hargs2
  obtain ⟨a0, rfl, _, _, w0⟩ := open_int Try.underlying3 (hval 0 3 v0 rfl rfl) h0
  obtain ⟨A1, c1, l1, rfl, lc1, cm1, x1, r1⟩ := open_pairsA (hval 1 22 v1 rfl rfl) h1
  have b1 := len_reach Try.underlying22 (hval 1 22 _ rfl rfl) h1 hsz (j := 1) (by rw [Try.params8]; rfl) rfl
  rw [show Try.prog.bytesOf (Try.prog.elem 22) = 16 from by kernel_rfl] at b1
  obtain ⟨a2, rfl, _, _, w2⟩ := open_int Try.underlying3 (hval 2 3 v2 rfl rfl) h2
  refine (lawPlanHu_any levelsIs listIs bestIs a0 A1 c1 l1 a2 _ x1 lc1 cm1).mono fun e W' ⟨he, hb⟩ => ?_
  subst he
  exact ⟨_, rfl, law_post Try.laidOut rfl (by kernel_rfl) Try.underlying4 ⟨rfl, rfl, rfl⟩ (by kernel_rfl) hW' hb⟩

theorem planHu_holds : Rows.PlanHuSaid :=
  OpenClaim.holds_of_wide 8 Try.f8 rfl rfl rfl rfl rfl rfl rfl ⟨rfl, rfl, rfl, rfl, rfl⟩ rfl rfl rfl rfl rfl (by kernel_rfl) Try.func8 (show joinedFacts Try.prog 8 Try.f8 Rows.planHuSpec Rows.planHuRow = true from (by unfold joinedFacts; (repeat' (with_reducible refine and_both ?_ ?_)) <;> first | (with_reducible exact may_enter) | ((with_reducible refine make_ok ?_); rfl) | ((with_reducible refine lifts_ok ?_); rfl) | kernel_rfl))
    (of_decide_eq_true (by kernel_rfl)) (by unfold Func.isWrapper; rw [if_neg (of_decide_eq_false (by kernel_rfl))]; exact ⟨rfl, rfl⟩)
    (fun os started H enc _ => lawPlanHu_lifted os started H enc)

end Go.Proofs.Ythmcigdoaededaa
