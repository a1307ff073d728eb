/-
  way.Has, way.Union; slices.Clone and slices.Equal of words and of ints return what they say.
-/
import Derived.Test.YtfbnmgnkigfgpaaPurePoint
import Derived.Test.YtfbnmgnkigfgpaaMBase
import Derived.Test.YtfbnmgnkigfgpaaWordsOwn
import Derived.Laws.BitsAllLaws
import Derived.BigQuiet
import Derived.Lib.SliceRun
namespace Go.Proofs.Ytfbnmgnkigfgpaa
open Go.RowKit
set_option linter.unusedSimpArgs false
set_option linter.unusedVariables false
set_option maxRecDepth 100000

theorem below_drewNQ {B : Nat} {X Y : World} (h : Below B X Y) (q : Nat) : Below B X (Y.drewN q) := ⟨h.os, h.tape, h.output, h.size, h.block⟩

theorem shr_bitQ (W j : Nat) (hW : W < 4294967296) : (bits .and .u32 (((W : Nat) : Int) / 2 ^ j) 1 != 0) = W.testBit j := by
  have h : ((W : Nat) : Int) / 2 ^ j = ((W / 2 ^ j : Nat) : Int) := by simp
  have h2 : bits .and .u32 ((W / 2 ^ j : Nat) : Int) ((1 : Nat) : Int) = ((W / 2 ^ j &&& 1 : Nat) : Int) := u32_and_nat _ _ (Nat.lt_of_le_of_lt (Nat.div_le_self ..) hW) (by omega)
  rw [h]
  change (bits .and .u32 ((W / 2 ^ j : Nat) : Int) ((1 : Nat) : Int) != 0) = _
  rw [h2, Nat.and_one_is_mod, Nat.testBit_eq_decide_div_mod_eq]
  by_cases e : W / 2 ^ j % 2 = 1
  · rw [e]; rfl
  · have e0 : W / 2 ^ j % 2 = 0 := by omega
    rw [e0]; rfl

theorem hasQ_any (W j : Nat) (w : World) (hW : W < 4294967296) (hj : j < 32) :
    Calls Try.prog 37 #[.int .u32 (W : Nat), .int .i64 j] w fun e w' => e = .returned (.bool (W.testBit j)) ∧ w' = w := by
  have HR := Lib.hid (shr_bitQ W j hW)
  go_enter Try.func37, Try.ntmps37
  go_wp2
  go_ret
  exact ⟨ret_bool HR.out, rfl⟩

theorem or_powQ {L t : Nat} (hL : L < 4294967296) (ht : t < 32) : bits .or .u32 ((L : Nat) : Int) ((2 : Int) ^ t % 4294967296) = ((L ||| 2 ^ t : Nat) : Int) := by
  rw [pow_u32' ht]
  exact u32_or_nat _ _ hL (pow_lt_32 ht)

set_option maxHeartbeats 1000000 in
theorem unionQ_any (A : Option Addr) (n c : Nat) (eg : List Nat) (s B : Nat) (w : World) (hx : RdU w B A eg) (hl : eg.length = n) (hlt : ∀ (i W : Nat), eg[i]? = some W → W < 256) (hs : s < 4294967296) (hm : n ≤ 8) :
    Calls Try.prog 36 #[.slice A n c, .int .u32 (s : Nat)] w fun e w' => e = .returned (.int .u32 (frW eg s n : Nat)) ∧ w' = w := by
  have HL := Lib.hid hl
  have HLT := Lib.hid hlt
  have HFL := Lib.hid (fun k => frW_lt (n := 8) (s := s) hlt k)
  clear hl hlt
  go_enter Try.func36, Try.ntmps36
  go_wp2
  go_loop [5, 10] (fun z i => ∃ k m : Nat, k ≤ n ∧ i = .int .i64 k ∧ z = .int .u32 (m : Nat) ∧ m = frW eg s k) (fun _ i => n - (intOf i).toNat)
  case atStart => exact ⟨0, 0, Nat.zero_le _, rfl, rfl, rfl⟩
  case round =>
    obtain ⟨k, m, hk, rfl, rfl, hm0⟩ := hrel
    have hml := HFL.out k
    rw [← hm0] at hml
    have HM := Lib.hid hm0
    clear hm0
    by_cases hlt : k < n
    · obtain ⟨ad, W, rfl, hbl, hd, hcell⟩ := hx.at_ (k := k) (by rw [HL.out]; exact hlt)
      have hW := HLT.out k W hd
      have hk32 : k < 32 := by omega
      have hg : eg.getD k 0 = W := by rw [List.getD_eq_getElem?_getD, hd]; rfl
      have hor : bits .or .u32 ((m : Nat) : Int) ((W : Nat) : Int) = ((m ||| W : Nat) : Int) := u32_or_nat _ _ (by omega) (by omega)
      have hnx := frW_succ eg s k
      rw [hg, ← HM.out] at hnx
      obtain ⟨b, hb⟩ : ∃ b, s.testBit k = b := ⟨_, rfl⟩
      rw [hb] at hnx
      have HB := Lib.hid hb
      have HOR := Lib.hid hor
      clear hd hg hor hb
      cases b with
      | true =>
        rw [if_pos rfl] at hnx
        have HNX := Lib.hid hnx
        clear hnx
        go_wp2_with (go_at_call 37; (with_reducible refine (hasQ_any s k _ hs hk32).mono ?_); rw [HB.out]; rintro e w5 ⟨rfl, rfl⟩)
        go_round
        case rel => exact ⟨k + 1, m ||| W, by omega, by go_num, by rw [HOR.out], HNX.out.symm⟩
        case measure => (simp [intOf]; omega)
      | false =>
        rw [if_neg (by simp)] at hnx
        have HNX := Lib.hid hnx
        clear hnx
        go_wp2_with (go_at_call 37; (with_reducible refine (hasQ_any s k _ hs hk32).mono ?_); rw [HB.out]; rintro e w5 ⟨rfl, rfl⟩)
        go_round
        case rel => exact ⟨k + 1, m, by omega, by go_num, rfl, HNX.out.symm⟩
        case measure => (simp [intOf]; omega)
    · have hkn : k = n := by omega
      have hmn : m = frW eg s n := by rw [HM.out, hkn]
      have HMN := Lib.hid hmn
      clear hkn hmn
      go_wp2
      go_ret
      exact ⟨ret_int (congrArg _ HMN.out), rfl⟩

theorem own_emptyQ (X : World) (base g : Nat) (e : TypeId) (hg : g = X.heap.size) (hb : base ≤ X.heap.size) : (X.alloc (.cells #[] e)).ownsRow base e 1 (.slice (some ⟨g, 0, none⟩) 0 0) 0 [] := by
  subst hg
  exact World.ownsRow_made X #[] 0 hb (Nat.zero_le _) rfl

theorem own_formQ {w : World} {base : Nat} {e : TypeId} {size : Nat} {A : Option Addr} {n c : Nat} {xs : List Value} (h : w.ownsRow base e size (.slice A n c) n xs) (hn : 0 < n) : ∃ g, A = some ⟨g, 0, none⟩ ∧ base ≤ g ∧ g < w.heap.size := by
  rcases h.2 with ⟨hv, h0⟩ | ⟨g, cap, cur, hv, h1, h2, _⟩
  · omega
  · injection hv with hv
    exact ⟨g, hv, h1, (Array.getElem?_eq_some_iff.1 h2).1⟩

theorem uv_oneQ (xs : List Nat) : ∀ u ∈ uv xs, u.oneCell' = true := by
  intro u hu
  simp only [uv, List.mem_map] at hu
  obtain ⟨x, _, rfl⟩ := hu
  rfl

theorem uv_appendQ (a b : List Nat) : uv (a ++ b) = uv a ++ uv b := by simp [uv]

theorem uv1_oneQ (x : Nat) : ∀ u ∈ ([.int .u32 ((x : Nat) : Int)] : List Value), u.oneCell' = true := uv_oneQ [x]

theorem word_appQ : AppTy Try.prog 23 38 1 4 := appTy_of (z := .int .u32 0) Try.underlying23 (by kernel_rfl) rfl (by omega)

theorem RdU.newsQ {w : World} {B : Nat} {A : Option Addr} {xs : List Nat} (h : RdU w B A xs) : ∀ ad, A = some ad → ∀ j u, (uv xs)[j]? = some u → w.cell? (ad.add j) = some u := by
  intro ad hA j u hu
  have hj : j < xs.length := by
    have := (List.getElem?_eq_some_iff.1 hu).1
    simpa [uv] using this
  obtain ⟨ad', e, _, hc⟩ := h (by omega)
  rw [hA] at e
  injection e with e
  subst e
  rw [hc j hj]
  simp [uv, hj] at hu
  simp [hj, hu]

theorem own_rdUQ {w : World} {base : Nat} {e : TypeId} {A : Option Addr} {c n : Nat} {xs : List Nat} (h : w.ownsRow base e 1 (.slice A n c) n (uv xs)) (hn : xs.length = n) : RdU w w.heap.size A xs := by
  subst hn
  intro hm
  obtain ⟨ad, e, hb, hc⟩ := own_rd h (by omega)
  refine ⟨ad, e, hb, fun j hj => ?_⟩
  rw [hc j (by omega)]
  simp [uv, hj]

theorem ext_upto {α : Type} {a b : List α} {n : Nat} (ha : a.length = n) (hb : b.length = n) (h : ∀ j, j < n → a[j]? = b[j]?) : a = b := by
  apply List.ext_getElem?
  intro j
  rcases Nat.lt_or_ge j n with hj | hj
  · exact h j hj
  · rw [List.getElem?_eq_none (by omega), List.getElem?_eq_none (by omega)]

set_option maxHeartbeats 4000000 in
theorem cloneUQ_any (VA : Option Addr) (n vcap : Nat) (v : List Nat) (w : World) (hv : RdU w w.heap.size VA v) (hl : v.length = n) (hn : 1 ≤ n) (hn6 : n ≤ 65536) :
    Calls Try.prog 21 #[.slice VA n vcap] w fun e w' => ∃ g c', e = .returned (.slice (some ⟨g, 0, none⟩) n c') ∧ w'.ownsRow w.heap.size 38 1 (.slice (some ⟨g, 0, none⟩) n c') n (uv v) ∧ Below w.heap.size w w' := by
  obtain ⟨ad, x, rfl, _, _, _⟩ := hv.at_ (k := 0) (by omega)
  have HL1 : Hid ((uv v).length = n * 1) := Lib.hid (by simp [uv, hl])
  have HNW : Hid (∀ Z : World, Below w.heap.size w Z → ∀ a, some ad = some a → ∀ j u, (uv v)[j]? = some u → Z.cell? (a.add j) = some u) := Lib.hid fun Z hZ => (hv.below hZ (Nat.le_refl _)).newsQ
  have ha_ : 0 + n ≤ maxLen := by unfold maxLen; omega
  have hb_ : (0 + n) * 4 ≤ 140737488355328 := by omega
  have qT : ∀ (w : World) (a : Option Addr) (n c n' c' : Nat), (binOp .eql 23 (.slice a n c) (.slice none n' c')).run Try.prog w = .ok (.bool a.isNone) w := fun w a n c n' c' => Lib.run_eql_slice_nil w _ _ a n c n' c' Try.underlying23
  clear hl hv
  go_enter Try.func21, Try.ntmps21
  go_wp2_with (at_builtin; refine wpList_app rfl (.tmp 5) (.tmp 6) 23 rfl w.heap.size 38 1 4 word_appQ [] rfl (own_emptyQ _ _ _ _ (by simp) (by simp)) (uv v) rfl HL1.out (fun h => by cases h) (HNW.out _ (by go_grown)) (uv_oneQ _) ha_ hb_ (by simp) ?_; intro A1 c1 w1 hown1 hg1 hb1; rw [Nat.zero_add, List.nil_append] at hown1)
  obtain ⟨g, rfl, hg0, hg1'⟩ := own_formQ hown1 (by omega)
  have hbw : Below w.heap.size w w1 := ((by go_grown : Below w.heap.size w (w.alloc (.cells #[] 38)))).trans hb1
  clear hg1 hb1
  go_ret
  exact ⟨g, c1, rfl, by simpa using hown1, hbw⟩

set_option maxHeartbeats 4000000 in
theorem equalUQ_any (VA VB : Option Addr) (n ca cb : Nat) (a b : List Nat) (w : World) (ha : RdU w w.heap.size VA a) (hb : RdU w w.heap.size VB b) (hla : a.length = n) (hlb : b.length = n) (hn6 : n ≤ 65536) :
    Calls Try.prog 23 #[.slice VA n ca, .slice VB n cb] w fun e w' => e = .returned (.bool (decide (a = b))) ∧ Below w.heap.size w w' := by
  have HLA := Lib.hid hla
  have HLB := Lib.hid hlb
  clear hla hlb
  go_enter Try.func23, Try.ntmps23
  go_wp2
  go_loopw [13] (fun i wr => ∃ k : Nat, k ≤ n ∧ i = .int .i64 k ∧ Hid (∀ j, j < k → a[j]? = b[j]?) ∧ Below w.heap.size w wr) (fun i _ => n - (intOf i).toNat)
  case atStart => exact ⟨0, Nat.zero_le _, rfl, Lib.hid fun j h => by omega, Below.refl _ _⟩
  case round =>
    obtain ⟨k, hk, rfl, HJ, hbw⟩ := hrel
    have hsz := hbw.size
    by_cases hlt : k < n
    · obtain ⟨ad, x, rfl, hbl, hd, hcx⟩ := (ha.below hbw (Nat.le_refl _)).at_ (k := k) (by rw [HLA.out]; exact hlt)
      obtain ⟨ad2, y, rfl, hbl2, hd2, hcy⟩ := (hb.below hbw (Nat.le_refl _)).at_ (k := k) (by rw [HLB.out]; exact hlt)
      have HD := Lib.hid hd
      have HD2 := Lib.hid hd2
      clear hd hd2
      by_cases hxy : x = y
      · subst hxy
        go_wp2
        go_region
        all_goals
          go_wp2
          go_round
          case rel =>
            refine ⟨k + 1, by omega, by go_num, Lib.hid fun j hj => ?_, by go_grown⟩
            by_cases e : j = k
            · subst e; rw [HD.out, HD2.out]
            · exact HJ.out j (by omega)
          case measure => (simp [intOf]; omega)
      · have hne : (((x : Nat) : Int) != ((y : Nat) : Int)) = true := by simp; omega
        have HN : Hid (decide (a = b) = false) := Lib.hid (decide_eq_false fun e => by
          have h := HD.out
          rw [e, HD2.out] at h
          injection h with h
          exact hxy h.symm)
        clear hxy
        go_wp2
        go_region
        all_goals
          go_wp2
          go_ret
          exact ⟨ret_bool HN.out.symm, by go_grown⟩
    · have HN : Hid (decide (a = b) = true) := Lib.hid (decide_eq_true (ext_upto HLA.out HLB.out fun j hj => HJ.out j (by omega)))
      go_wp2
      go_ret
      exact ⟨ret_bool HN.out.symm, hbw⟩

set_option maxHeartbeats 4000000 in
theorem cloneIQ_any (VA : Option Addr) (n vcap : Nat) (v : List Int) (w : World) (hv : RdI w w.heap.size VA v) (hl : v.length = n) (hn : 1 ≤ n) (hn6 : n ≤ 65536) :
    Calls Try.prog 38 #[.slice VA n vcap] w fun e w' => ∃ g c', e = .returned (.slice (some ⟨g, 0, none⟩) n c') ∧ w'.ownsRow w.heap.size 3 1 (.slice (some ⟨g, 0, none⟩) n c') n (iv v) ∧ Below w.heap.size w w' := by
  obtain ⟨ad, x, rfl, _, _, _⟩ := hv.at_ (k := 0) (by omega)
  have HL1 : Hid ((iv v).length = n * 1) := Lib.hid (by simp [iv, hl])
  have HNW : Hid (∀ Z : World, Below w.heap.size w Z → ∀ a, some ad = some a → ∀ j u, (iv v)[j]? = some u → Z.cell? (a.add j) = some u) := Lib.hid fun Z hZ => (hv.below hZ (Nat.le_refl _)).news
  have ha_ : 0 + n ≤ maxLen := by unfold maxLen; omega
  have hb_ : (0 + n) * 8 ≤ 140737488355328 := by omega
  have qT : ∀ (w : World) (a : Option Addr) (n c n' c' : Nat), (binOp .eql 31 (.slice a n c) (.slice none n' c')).run Try.prog w = .ok (.bool a.isNone) w := fun w a n c n' c' => Lib.run_eql_slice_nil w _ _ a n c n' c' Try.underlying31
  clear hl hv
  go_enter Try.func38, Try.ntmps38
  go_wp2_with (at_builtin; refine wpList_app rfl (.tmp 5) (.tmp 6) 31 rfl w.heap.size 3 1 8 int_app [] rfl (own_emptyQ _ _ _ _ (by simp) (by simp)) (iv v) rfl HL1.out (fun h => by cases h) (HNW.out _ (by go_grown)) (iv_one _) ha_ hb_ (by simp) ?_; intro A1 c1 w1 hown1 hg1 hb1; rw [Nat.zero_add, List.nil_append] at hown1)
  obtain ⟨g, rfl, hg0, hg1'⟩ := own_formQ hown1 (by omega)
  have hbw : Below w.heap.size w w1 := ((by go_grown : Below w.heap.size w (w.alloc (.cells #[] 3)))).trans hb1
  clear hg1 hb1
  go_ret
  exact ⟨g, c1, rfl, by simpa using hown1, hbw⟩

set_option maxHeartbeats 4000000 in
theorem equalIQ_any (VA VB : Option Addr) (n ca cb : Nat) (a b : List Int) (w : World) (ha : RdI w w.heap.size VA a) (hb : RdI w w.heap.size VB b) (hla : a.length = n) (hlb : b.length = n) (hn6 : n ≤ 65536) :
    Calls Try.prog 42 #[.slice VA n ca, .slice VB n cb] w fun e w' => e = .returned (.bool (decide (a = b))) ∧ Below w.heap.size w w' := by
  have HLA := Lib.hid hla
  have HLB := Lib.hid hlb
  clear hla hlb
  go_enter Try.func42, Try.ntmps42
  go_wp2
  go_loopw [13] (fun i wr => ∃ k : Nat, k ≤ n ∧ i = .int .i64 k ∧ Hid (∀ j, j < k → a[j]? = b[j]?) ∧ Below w.heap.size w wr) (fun i _ => n - (intOf i).toNat)
  case atStart => exact ⟨0, Nat.zero_le _, rfl, Lib.hid fun j h => by omega, Below.refl _ _⟩
  case round =>
    obtain ⟨k, hk, rfl, HJ, hbw⟩ := hrel
    have hsz := hbw.size
    by_cases hlt : k < n
    · obtain ⟨ad, x, rfl, hbl, hd, hcx⟩ := (ha.below hbw (Nat.le_refl _)).at_ (k := k) (by rw [HLA.out]; exact hlt)
      obtain ⟨ad2, y, rfl, hbl2, hd2, hcy⟩ := (hb.below hbw (Nat.le_refl _)).at_ (k := k) (by rw [HLB.out]; exact hlt)
      have HD := Lib.hid hd
      have HD2 := Lib.hid hd2
      clear hd hd2
      by_cases hxy : x = y
      · subst hxy
        go_wp2
        go_region
        all_goals
          go_wp2
          go_round
          case rel =>
            refine ⟨k + 1, by omega, by go_num, Lib.hid fun j hj => ?_, by go_grown⟩
            by_cases e : j = k
            · subst e; rw [HD.out, HD2.out]
            · exact HJ.out j (by omega)
          case measure => (simp [intOf]; omega)
      · have hne : (x != y) = true := by simp; omega
        have HN : Hid (decide (a = b) = false) := Lib.hid (decide_eq_false fun e => by
          have h := HD.out
          rw [e, HD2.out] at h
          injection h with h
          exact hxy h.symm)
        clear hxy
        go_wp2
        go_region
        all_goals
          go_wp2
          go_ret
          exact ⟨ret_bool HN.out.symm, by go_grown⟩
    · have HN : Hid (decide (a = b) = true) := Lib.hid (decide_eq_true (ext_upto HLA.out HLB.out fun j hj => HJ.out j (by omega)))
      go_wp2
      go_ret
      exact ⟨ret_bool HN.out.symm, hbw⟩

end Go.Proofs.Ytfbnmgnkigfgpaa
