/-
  codemasonref.Least: the least terms (D1).
-/
import Derived.Test.YtacokdghfkpdpaaFirsts
import Derived.Test.YtacokdghfkpdpaaComes
import Derived.Test.YtacokdghfkpdpaaPureLeast
namespace Go.Proofs.Ytacokdghfkpdpaa
open Go.RowKit
set_option linter.unusedSimpArgs false
set_option linter.unusedVariables false
set_option maxRecDepth 100000

set_option maxHeartbeats 1000000 in
theorem atN_any (i : Nat) (pn : Addr) (NA : Option Addr) (nn nc : Nat) (need : List Nat) (w : World) (hp : w.cell? pn = some (.slice NA nn nc)) (hr : RdI w w.heap.size NA (ni need)) (hl : need.length = nn) (hm : nn ≤ 65536) :
    Calls Try.prog 33 #[.int .i64 i, .pointer (some pn)] w fun e w' => e = .returned (.int .i64 (atN need i : Nat)) ∧ w = w' := by
  have hpb := World.block_lt_of_cell? w pn hp
  have HL := Lib.hid hl
  clear hl
  go_enter Try.func33, Try.ntmps33
  go_wp2
  go_loop [4, 9] (fun c z => ∃ k : Nat, k ≤ nn ∧ z = .int .i64 k ∧ c = .int .i64 (atN (need.take k) i : Nat)) (fun _ z => nn - (intOf z).toNat)
  case atStart => exact ⟨0, Nat.zero_le _, rfl, rfl⟩
  case round =>
    obtain ⟨k, hk, rfl, rfl⟩ := hrel
    have hcl : atN (need.take k) i ≤ k := by
      unfold atN
      exact Nat.le_trans (List.length_filter_le _ _) (by simp; omega)
    by_cases hlt : k < nn
    · obtain ⟨x, hx⟩ : ∃ x, need[k]? = some x := ⟨_, List.getElem?_eq_getElem (by rw [HL.out]; exact hlt)⟩
      obtain ⟨ad, z, rfl, hbl, hz, hcz⟩ := hr.at_ (k := k) (by simp [ni]; rw [HL.out]; exact hlt)
      obtain rfl : z = (x : Int) := by rw [ni_at hx] at hz; injection hz with hz; exact hz.symm
      have ht : need.take (k + 1) = need.take k ++ [x] := by
        obtain ⟨h1, h2⟩ := List.getElem?_eq_some_iff.1 hx
        rw [List.take_succ_eq_append_getElem h1, h2]
      have hs : atN (need.take (k + 1)) i = if x < i then atN (need.take k) i + 1 else atN (need.take k) i := by
        unfold atN
        rw [ht, List.filter_append, List.length_append]
        split
        · rw [List.filter_cons_of_pos (by simp; assumption)]; simp
        · rw [List.filter_cons_of_neg (by simp; omega)]; simp
      have HS := Lib.hid hs
      clear hs ht hz hx
      generalize atN (need.take k) i = cn at *
      by_cases hxi : x < i
      · rw [if_pos hxi] at HS
        have hxi' : (x : Int) < (i : Int) := by omega
        go_wp2
        go_round
        case rel => exact ⟨k + 1, by omega, by go_num, by rw [HS.out]; go_num⟩
        case measure => (simp [intOf]; omega)
      · rw [if_neg hxi] at HS
        have hxi' : ¬ (x : Int) < (i : Int) := by omega
        go_wp2
        go_round
        case rel => exact ⟨k + 1, by omega, by go_num, by rw [HS.out]⟩
        case measure => (simp [intOf]; omega)
    · have hkn : k = nn := by omega
      subst hkn
      go_wp2
      go_ret
      exact ⟨ret_int (by rw [List.take_of_length_le (by rw [HL.out]; omega)]), rfl⟩

theorem nr_leaf {need : List Nat} {o a b v : Int} (h : o < 3) : nmT (rnT need ⟨o, a, b, v⟩) = ⟨o, 0, 0, v⟩ := by
  have e : rnT need ⟨o, a, b, v⟩ = ⟨o, a, b, v⟩ := by unfold rnT; rw [if_neg (by simp only []; omega)]
  rw [e]
  unfold nmT
  rw [if_neg (by simp only []; omega)]

theorem nr_op {need : List Nat} {o v : Int} {an bn : Nat} (h : 3 ≤ o) : nmT (rnT need ⟨o, an, bn, v⟩) = if (o = 3 ∨ o = 5) ∧ atN need bn < atN need an then ⟨o, (atN need bn : Int), (atN need an : Int), 0⟩ else ⟨o, (atN need an : Int), (atN need bn : Int), 0⟩ := by
  have e : rnT need ⟨o, an, bn, v⟩ = ⟨o, (atN need an : Int), (atN need bn : Int), v⟩ := by unfold rnT; rw [if_pos (by simp only []; exact h)]; simp only [Int.toNat_natCast]
  rw [e]
  unfold nmT
  simp only []
  rw [if_pos h]
  by_cases h2 : (o = 3 ∨ o = 5) ∧ atN need bn < atN need an
  · rw [if_pos h2, if_pos (by omega)]
  · rw [if_neg h2, if_neg (by omega)]

/-- the reference's list -/
def outF (l : List Tm) : List Tm := (comesL (lcL l)).map fun i => nmT (rnT (comesL (lcL l)) ((ftL l).getD i tz))

theorem ls_out {vars : Int} {l : List Tm} (hc : ckTerms vars l = 0) : outF l = lsL l := by
  unfold lsL
  rw [prL_out (lc_ck hc), List.map_map]
  unfold outF
  apply List.map_congr_left
  intro i hi
  have h1 := comesL_lt hi
  rw [lc_len hc] at h1
  have e : (lcL l).getD i tz = (ftL l).getD i tz := by unfold lcL; exact getD_take h1
  simp only [Function.comp]
  rw [e]

theorem termb_app2 : AppTy Try.prog 22 30 4 32 := appTy_of (z := .agg #[.int .i64 0, .int .i64 0, .int .i64 0, .int .i64 0]) Try.underlying22 (by kernel_rfl) rfl (by omega)

theorem tv4_one (o a b v : Int) : ∀ u ∈ ([.int .i64 o, .int .i64 a, .int .i64 b, .int .i64 v] : List Value), u.oneCell' = true := fun u hu => by
  simp at hu
  rcases hu with rfl | rfl | rfl | rfl <;> rfl

theorem ft_take {l : List Tm} {k : Nat} {t : Tm} (h : l[k]? = some t) : (ftL l).take (k + 1) = (ftL l).take k ++ [ftT (fsL l) t] := by
  have hk := (List.getElem?_eq_some_iff.1 h).1
  have h2 : (ftL l)[k]? = some (ftT (fsL l) t) := by unfold ftL; rw [List.getElem?_map, h]; rfl
  obtain ⟨h3, h4⟩ := List.getElem?_eq_some_iff.1 h2
  rw [List.take_succ_eq_append_getElem h3, h4]

theorem tv_single (t : Tm) : tv [t] = [.int .i64 t.op, .int .i64 t.a, .int .i64 t.b, .int .i64 t.v] := rfl

theorem tv_app (a b : List Tm) : tv (a ++ b) = tv a ++ tv b := by simp [tv]

set_option maxHeartbeats 8000000 in
theorem refLeast_any (vars : Int) (A : Option Addr) (len cap : Nat) (l : List Tm) (w : World) (hx : RdT w w.heap.size A l) (hl : l.length = len) (hc : ckTerms vars l = 0) :
    Calls Try.prog 19 #[.slice A len cap] w fun e w' => ∃ A' c', e = .returned (.slice A' (lsL l).length c') ∧ RdT w' w'.heap.size A' (lsL l) ∧ Below w.heap.size w w' := by
  obtain ⟨_, _, b3, b4⟩ := ckTerms_bd hc
  have hlk := lc_ck hc
  have hll := lc_len hc
  have hrt := rt_lt hc
  have hfl : (fsL l).length = len := by rw [fsL_len, hl]
  have HL := Lib.hid hl
  have HC := Lib.hid hc
  have HLK := Lib.hid hlk
  have HLL := Lib.hid hll
  have HFL := Lib.hid hfl
  rw [hl] at b3 b4 hrt
  have hlast : (len : Int) - 1 = ((len - 1 : Nat) : Int) := by omega
  clear hl hc hlk hll hfl
  go_enter Try.func19, Try.ntmps19
  go_wp2_with fail
  refine (firsts_any vars A len cap l _ hx HL.out HC.out).mono ?_
  rintro e w1 ⟨FA, fc, rfl, hfr, hb1⟩
  have hx1 := (hx.below hb1 (Nat.le_refl _)).more hb1.size
  go_wp2_with fail
  go_loopw [4, 17] (fun sv i wr => ∃ (k : Nat) (TA : Option Addr) (tc : Nat), k ≤ len ∧ i = .int .i64 k ∧ sv = .slice TA k tc ∧ wr.ownsRow w1.heap.size 30 4 (.slice TA k tc) k (tv ((ftL l).take k)) ∧ Below w1.heap.size w1 wr) (fun _ i _ => len - (intOf i).toNat)
  case atStart => exact ⟨0, none, 0, Nat.zero_le _, rfl, rfl, World.ownsRow_nil _ _ _ _, Below.refl _ _⟩
  case round =>
    obtain ⟨k, TA, tc, hk, rfl, rfl, hown, hb⟩ := hrel
    have hsz := hb.size
    by_cases hlt : k < len
    · obtain ⟨ad, o, a, b, v, rfl, hbl, hd, hc0, hc1, hc2, hc3⟩ := (hx1.below hb (Nat.le_refl _)).at_ (k := k) (by rw [HL.out]; exact hlt)
      have hcase := ckTerms_cases HC.out hd
      have HT := Lib.hid (ft_take hd)
      have h63 : k + 1 ≤ maxLen := by unfold maxLen; omega
      have hbig : (k + 1) * 32 ≤ 140737488355328 := by omega
      clear hd
      by_cases ho : 3 ≤ o
      · obtain ⟨ha0, ha1, hb0, hb1'⟩ : 0 ≤ a ∧ a < k ∧ 0 ≤ b ∧ b < k := by omega
        obtain ⟨an, rfl⟩ := Int.eq_ofNat_of_zero_le ha0
        obtain ⟨bn, rfl⟩ := Int.eq_ofNat_of_zero_le hb0
        have g : ∀ x : Nat, x < len → (ni (fsL l))[x]? = some ((fg (fsL l) (x : Int) : Nat) : Int) := by
          intro x hx
          have := List.getElem?_eq_getElem (show x < (fsL l).length by rw [HFL.out]; exact hx)
          rw [ni_at this]
          unfold fg
          rw [Int.toNat_natCast, List.getD_eq_getElem?_getD, this]
          rfl
        obtain ⟨fa, x1, rfl, m1, y1, z1⟩ := (hfr.below hb (Nat.le_refl _)).at_ (k := an) (by simp [ni]; rw [HFL.out]; omega)
        obtain ⟨fa2, x2, hA2, m2, y2, z2⟩ := (hfr.below hb (Nat.le_refl _)).at_ (k := bn) (by simp [ni]; rw [HFL.out]; omega)
        injection hA2 with hA2
        subst hA2
        rw [g an (by omega)] at y1
        rw [g bn (by omega)] at y2
        injection y1 with y1
        injection y2 with y2
        have he : ftT (fsL l) ⟨o, an, bn, v⟩ = ⟨o, x1, x2, v⟩ := by unfold ftT; rw [if_pos (by simp only []; exact ho)]; simp only []; rw [y1, y2]
        rw [he] at HT
        have hanl : an < len := by omega
        have hbnl : bn < len := by omega
        have n01 : (fa.add an).block < wr.heap.size := by omega
        have n02 : (fa.add bn).block < wr.heap.size := by omega
        have n1 : (fa.add an).block < wr.heap.size + 1 := by omega
        have n2 : (fa.add bn).block < wr.heap.size + 1 := by omega
        clear y1 y2 g he hcase
        go_wp2_with (at_builtin; refine wpList_app rfl (.tmp 36) (.tmp 38) 22 rfl w1.heap.size 30 4 32 termb_app2 _ rfl (own_below hown (by go_grown)) [.int .i64 o, .int .i64 x1, .int .i64 x2, .int .i64 v] rfl rfl (fun h => by cases h) (cells_at (by simp) _ _) (tv4_one _ _ _ _) h63 hbig (by simp; omega) ?_; intro A4 c4 w4 hown4 hg4 hb4)
        go_round
        case rel => exact ⟨k + 1, A4, c4, by omega, by go_num, rfl, by rw [HT.out, tv_app, tv_single]; exact hown4, (by go_grown : Below w1.heap.size w1 _).trans hb4⟩
        case measure => (simp [intOf]; omega)
      · have he : ftT (fsL l) ⟨o, a, b, v⟩ = ⟨o, a, b, v⟩ := by unfold ftT; rw [if_neg (by simp only []; exact ho)]
        rw [he] at HT
        clear he hcase
        go_wp2_with (at_builtin; refine wpList_app rfl (.tmp 36) (.tmp 38) 22 rfl w1.heap.size 30 4 32 termb_app2 _ rfl (own_below hown (by go_grown)) [.int .i64 o, .int .i64 a, .int .i64 b, .int .i64 v] rfl rfl (fun h => by cases h) (cells_at (by simp) _ _) (tv4_one _ _ _ _) h63 hbig (by simp; omega) ?_; intro A4 c4 w4 hown4 hg4 hb4)
        go_round
        case rel => exact ⟨k + 1, A4, c4, by omega, by go_num, rfl, by rw [HT.out, tv_app, tv_single]; exact hown4, (by go_grown : Below w1.heap.size w1 _).trans hb4⟩
        case measure => (simp [intOf]; omega)
    · have hkl : k = len := by omega
      subst hkl
      have hftl : (ftL l).length = k := by unfold ftL; rw [List.length_map]; exact HL.out
      rw [List.take_of_length_le (by omega)] at hown
      have hB : Below w.heap.size w wr := hb1.trans (hb.mono hb1.size)
      have htr := own_rdT hown hftl
      have hfr2 := (hfr.below hb (Nat.le_refl _)).more hsz
      have hlast2 : (ni (fsL l))[k - 1]? = some ((rtL l : Nat) : Int) := by
        have := List.getElem?_eq_getElem (show k - 1 < (fsL l).length by rw [HFL.out]; omega)
        rw [ni_at this]
        unfold rtL fv
        rw [HL.out, List.getD_eq_getElem?_getD, this]
        rfl
      obtain ⟨fa, x1, rfl, m1, y1, z1⟩ := hfr2.at_ (k := k - 1) (by simp [ni]; rw [HFL.out]; omega)
      rw [hlast2] at y1
      injection y1 with y1
      subst y1
      have hk1 : k - 1 < k := by omega
      have HTR := Lib.hid htr
      have HFT := Lib.hid hftl
      have hrt2 : Hid (RdT wr wr.heap.size TA (lcL l)) := Lib.hid (htr.take (rtL l + 1))
      have hri : ((rtL l : Nat) : Int) = ((rtL l + 1 : Nat) : Int) - 1 := by omega
      have HRI := Lib.hid hri
      clear hlast2 htr hftl hri hb hsz hb1 hfr hfr2 hx1 hown
      obtain ⟨wo, rfl⟩ : ∃ wo : World, wo = wr := ⟨_, rfl⟩
      go_wp2_with fail
      refine (comes_at vars TA (rtL l + 1) k tc (lcL l) _ _ hrt2.out HLL.out (by omega) HLK.out HRI.out).mono ?_
      rintro e w2 ⟨NA, nc, rfl, hnr, hb2⟩
      have hcl : (comesL (lcL l)).length ≤ rtL l + 1 := by have := outL_len (l := lcL l) (j := (lcL l).length); unfold comesL; rw [HLL.out] at this ⊢; exact this
      have HNE : Hid (outF l = lsL l) := Lib.hid (ls_out HC.out)
      have HCT : Hid (∀ x ∈ comesL (lcL l), x ≤ rtL l) := Lib.hid fun x hx => by have := comesL_lt hx; rw [HLL.out] at this; omega
      have HFC : Hid (ckTerms vars (lcL l) = 0) := HLK
      have hs2 := hb2.size
      have htr2 := (HTR.out.below hb2 (Nat.le_refl _)).more hs2
      have hnn : (comesL (lcL l)).length ≤ 16 := by omega
      obtain ⟨need, hneed⟩ : ∃ need, comesL (lcL l) = need := ⟨_, rfl⟩
      have HND := Lib.hid hneed
      rw [hneed] at hnr hcl hnn HCT ⊢
      obtain ⟨nn, hnl⟩ : ∃ nn, need.length = nn := ⟨_, rfl⟩
      have HNL := Lib.hid hnl
      rw [hnl] at hnn hcl ⊢
      have HOF : Hid (∀ (q i : Nat) (t : Tm), need[q]? = some i → (ftL l)[i]? = some t → (outF l).take (q + 1) = (outF l).take q ++ [nmT (rnT need t)]) := Lib.hid fun q i t hq ht => by
        have h2 : (outF l)[q]? = some (nmT (rnT need t)) := by
          unfold outF
          rw [hneed, List.getElem?_map, hq, Option.map_some, List.getD_eq_getElem?_getD, ht]
          rfl
        obtain ⟨h3, h4⟩ := List.getElem?_eq_some_iff.1 h2
        rw [List.take_succ_eq_append_getElem h3, h4]
      have HOL : Hid ((outF l).length = nn) := Lib.hid (by unfold outF; rw [List.length_map, hneed, hnl])
      clear hneed hnl
      go_wp2_with fail
      have hBS : Below w.heap.size w (w2.alloc (.cells #[.slice NA nn nc] 23)) := (hB.trans (hb2.mono hB.size)).trans ((by go_grown : Below w2.heap.size w2 _).mono (by have := hB.size; omega))
      have hp7 : (w2.alloc (.cells #[.slice NA nn nc] 23)).cell? ⟨w2.heap.size, 0, none⟩ = some (.slice NA nn nc) := by simp
      have hs7 : w2.heap.size < (w2.alloc (.cells #[.slice NA nn nc] 23)).heap.size := by simp
      have hnrS := (hnr.below (by go_grown : Below w2.heap.size w2 (w2.alloc (.cells #[.slice NA nn nc] 23))) (Nat.le_refl _)).more (Nat.le_of_lt hs7)
      have htrS := (htr2.below (by go_grown : Below w2.heap.size w2 (w2.alloc (.cells #[.slice NA nn nc] 23))) (Nat.le_refl _)).more (Nat.le_of_lt hs7)
      clear hnr htr2 hb2 hB
      generalize w2.alloc (.cells #[.slice NA nn nc] 23) = wS at *
      go_loopw [9, 52] (fun sv z wr => ∃ (q : Nat) (OA : Option Addr) (oc : Nat), q ≤ nn ∧ z = .int .i64 q ∧ sv = .slice OA q oc ∧ wr.ownsRow wS.heap.size 30 4 (.slice OA q oc) q (tv ((outF l).take q)) ∧ Below wS.heap.size wS wr) (fun _ z _ => nn - (intOf z).toNat)
      case atStart => exact ⟨0, none, 0, Nat.zero_le _, rfl, rfl, World.ownsRow_nil _ _ _ _, Below.refl _ _⟩
      case round =>
        obtain ⟨q, OA, oc, hq, rfl, rfl, hown, hb⟩ := hrel
        have hsz := hb.size
        by_cases hlt : q < nn
        · obtain ⟨i, hi⟩ : ∃ i, need[q]? = some i := ⟨_, List.getElem?_eq_getElem (by rw [HNL.out]; exact hlt)⟩
          have hir := HCT.out i (List.mem_of_getElem? hi)
          have hik : i < k := by omega
          obtain ⟨na, z, rfl, hbn, hz, hcz⟩ := (hnrS.below hb (Nat.le_refl _)).at_ (k := q) (by simp [ni]; rw [HNL.out]; exact hlt)
          obtain rfl : z = (i : Int) := by rw [ni_at hi] at hz; injection hz with hz; exact hz.symm
          obtain ⟨ad, o, a, b, v, rfl, hbl, hd, hc0, hc1, hc2, hc3⟩ := (htrS.below hb (Nat.le_refl _)).at_ (k := i) (by rw [HFT.out]; exact hik)
          have hlc : (lcL l)[i]? = some ⟨o, a, b, v⟩ := by unfold lcL; rw [List.getElem?_take, if_pos (by omega)]; exact hd
          have hcase := ckTerms_cases HLK.out hlc
          have HT := Lib.hid (HOF.out q i _ hi hd)
          have hblr : (ad.add (i * 4)).block < wr.heap.size := by omega
          have hbl1 : (ad.add (i * 4)).block < wr.heap.size + 1 := by omega
          have hp7' := (hb.cell hs7).trans hp7
          have hs7' : w2.heap.size < wr.heap.size := by omega
          have hs71 : w2.heap.size < wr.heap.size + 1 := by omega
          have hnr' := (hnrS.below hb (Nat.le_refl _)).more hsz
          have h63 : q + 1 ≤ maxLen := by unfold maxLen; omega
          have hbig : (q + 1) * 32 ≤ 140737488355328 := by omega
          clear hd hlc hi hz
          by_cases ho : 3 ≤ o
          · obtain ⟨ha0, ha1, hb0, hb1'⟩ : 0 ≤ a ∧ a < i ∧ 0 ≤ b ∧ b < i := by omega
            obtain ⟨an, rfl⟩ := Int.eq_ofNat_of_zero_le ha0
            obtain ⟨bn, rfl⟩ := Int.eq_ofNat_of_zero_le hb0
            rw [nr_op ho] at HT
            have HAT : Hid (∀ (x : Nat) (Z : World), Below wr.heap.size wr Z → Calls Try.prog 33 #[.int .i64 x, .pointer (some ⟨w2.heap.size, 0, none⟩)] Z fun e w' => e = .returned (.int .i64 (atN need x : Nat)) ∧ w' = Z) :=
              Lib.hid fun x Z hZ => (atN_any x ⟨w2.heap.size, 0, none⟩ (some na) nn nc need Z ((hZ.cell hs7').trans hp7') ((hnr'.below hZ (Nat.le_refl _)).more hZ.size) HNL.out (by omega)).mono fun _ _ h => ⟨h.1, h.2.symm⟩
            clear hcase hp7' hnr'
            generalize hpa : atN need an = pa at *
            generalize hpb : atN need bn = pb at *
            have HPA := Lib.hid hpa
            have HPB := Lib.hid hpb
            clear hpa hpb
            by_cases C : (o = 3 ∨ o = 5) ∧ pb < pa
            · rw [if_pos C] at HT
              have hgt : (pb : Int) < (pa : Int) := by omega
              obtain ⟨C1, _⟩ := C
              rcases C1 with rfl | rfl
              all_goals
                go_wp2_with fail
                go_region
                all_goals
                  go_wp2_with fail
                  (refine still_tail 17 (by kernel_rfl) (by kernel_rfl) ?_; simp only [List.take_succ_cons, List.take_zero, List.drop_succ_cons, List.drop_zero]; repeat still_step)
                  still_call ((HAT.out an _ (Below.drew (Below.drew ((Below.refl _ _).alloc (Nat.le_refl _) _)))).mono fun _ _ h => h)
                  (repeat still_step)
                  still_call ((HAT.out bn _ (Below.drew (Below.drew ((Below.refl _ _).alloc (Nat.le_refl _) _)))).mono fun _ _ h => h)
                  ((repeat still_step); refine wpStill_nil ?_)
                  rw [HPA.out, HPB.out]
                  go_wp2_with (at_builtin; refine wpList_app rfl (.tmp 108) (.tmp 110) 22 rfl wS.heap.size 30 4 32 termb_app2 _ rfl (own_below hown (by go_grown)) [.int .i64 _, .int .i64 (pb : Nat), .int .i64 (pa : Nat), .int .i64 0] rfl rfl (fun h => by cases h) (cells_at (by simp) _ _) (tv4_one _ _ _ _) h63 hbig (by simp; omega) ?_; intro A4 c4 w4 hown4 hg4 hb4)
                  go_round
                  case rel => exact ⟨q + 1, A4, c4, by omega, by go_num, rfl, by rw [HT.out, tv_app, tv_single]; exact hown4, (by go_grown : Below wS.heap.size wS _).trans hb4⟩
                  case measure => (simp [intOf]; omega)
            · rw [if_neg C] at HT
              by_cases hgt : (pb : Int) < (pa : Int)
              · have h3 : o ≠ 3 := fun h => C ⟨.inl h, by omega⟩
                have h5 : o ≠ 5 := fun h => C ⟨.inr h, by omega⟩
                have g3 : (o == 3) = false := by simp; omega
                have g5 : (o == 5) = false := by simp; omega
                clear C h3 h5
                go_wp2_with fail
                go_region
                all_goals
                  go_wp2_with fail
                  (refine still_tail 17 (by kernel_rfl) (by kernel_rfl) ?_; simp only [List.take_succ_cons, List.take_zero, List.drop_succ_cons, List.drop_zero]; repeat still_step)
                  still_call ((HAT.out an _ (Below.drew (Below.drew ((Below.refl _ _).alloc (Nat.le_refl _) _)))).mono fun _ _ h => h)
                  (repeat still_step)
                  still_call ((HAT.out bn _ (Below.drew (Below.drew ((Below.refl _ _).alloc (Nat.le_refl _) _)))).mono fun _ _ h => h)
                  ((repeat still_step); refine wpStill_nil ?_)
                  rw [HPA.out, HPB.out]
                  go_wp2_with (at_builtin; refine wpList_app rfl (.tmp 108) (.tmp 110) 22 rfl wS.heap.size 30 4 32 termb_app2 _ rfl (own_below hown (by go_grown)) [.int .i64 _, .int .i64 (pa : Nat), .int .i64 (pb : Nat), .int .i64 0] rfl rfl (fun h => by cases h) (cells_at (by simp) _ _) (tv4_one _ _ _ _) h63 hbig (by simp; omega) ?_; intro A4 c4 w4 hown4 hg4 hb4)
                  go_round
                  case rel => exact ⟨q + 1, A4, c4, by omega, by go_num, rfl, by rw [HT.out, tv_app, tv_single]; exact hown4, (by go_grown : Below wS.heap.size wS _).trans hb4⟩
                  case measure => (simp [intOf]; omega)
              · clear C
                go_wp2_with fail
                go_region
                all_goals
                  go_wp2_with fail
                  (refine still_tail 17 (by kernel_rfl) (by kernel_rfl) ?_; simp only [List.take_succ_cons, List.take_zero, List.drop_succ_cons, List.drop_zero]; repeat still_step)
                  still_call ((HAT.out an _ (Below.drew (Below.drew ((Below.refl _ _).alloc (Nat.le_refl _) _)))).mono fun _ _ h => h)
                  (repeat still_step)
                  still_call ((HAT.out bn _ (Below.drew (Below.drew ((Below.refl _ _).alloc (Nat.le_refl _) _)))).mono fun _ _ h => h)
                  ((repeat still_step); refine wpStill_nil ?_)
                  rw [HPA.out, HPB.out]
                  go_wp2_with (at_builtin; refine wpList_app rfl (.tmp 108) (.tmp 110) 22 rfl wS.heap.size 30 4 32 termb_app2 _ rfl (own_below hown (by go_grown)) [.int .i64 _, .int .i64 (pa : Nat), .int .i64 (pb : Nat), .int .i64 0] rfl rfl (fun h => by cases h) (cells_at (by simp) _ _) (tv4_one _ _ _ _) h63 hbig (by simp; omega) ?_; intro A4 c4 w4 hown4 hg4 hb4)
                  go_round
                  case rel => exact ⟨q + 1, A4, c4, by omega, by go_num, rfl, by rw [HT.out, tv_app, tv_single]; exact hown4, (by go_grown : Below wS.heap.size wS _).trans hb4⟩
                  case measure => (simp [intOf]; omega)
          · rw [nr_leaf (by omega)] at HT
            clear hcase
            go_wp2_with fail
            go_region
            all_goals
              go_wp2_with (at_builtin; refine wpList_app rfl (.tmp 108) (.tmp 110) 22 rfl wS.heap.size 30 4 32 termb_app2 _ rfl (own_below hown (by go_grown)) [.int .i64 o, .int .i64 0, .int .i64 0, .int .i64 v] rfl rfl (fun h => by cases h) (cells_at (by simp) _ _) (tv4_one _ _ _ _) h63 hbig (by simp; omega) ?_; intro A4 c4 w4 hown4 hg4 hb4)
              go_round
              case rel => exact ⟨q + 1, A4, c4, by omega, by go_num, rfl, by rw [HT.out, tv_app, tv_single]; exact hown4, (by go_grown : Below wS.heap.size wS _).trans hb4⟩
              case measure => (simp [intOf]; omega)
        · have hqn : q = nn := by omega
          subst hqn
          rw [List.take_of_length_le (by rw [HOL.out]; exact Nat.le_refl _), HNE.out] at hown
          have hlen : Hid ((lsL l).length = q) := Lib.hid (by rw [← HNE.out]; exact HOL.out)
          go_wp2
          go_ret
          refine ⟨OA, oc, ?_, own_rdT hown hlen.out, hBS.trans (hb.mono hBS.size)⟩
          rw [hlen.out]
          rfl

end Go.Proofs.Ytacokdghfkpdpaa
