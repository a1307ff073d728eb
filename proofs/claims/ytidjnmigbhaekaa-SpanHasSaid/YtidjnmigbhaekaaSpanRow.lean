/-
  codemasonref.SpanLists, spanPut, SpanSteps (R2).
-/
import Derived.Test.YtidjnmigbhaekaaSpanRef
import Derived.Test.YtidjnmigbhaekaaBlockDo
namespace Go.Proofs.Ytidjnmigbhaekaa
open Go.RowKit
set_option linter.unusedSimpArgs false
set_option linter.unusedVariables false
set_option maxRecDepth 100000

set_option maxHeartbeats 4000000 in
theorem spanLists_any (A B : Option Addr) (n m ca cb : Nat) (a b : List (Int × Int)) (w : World) (hx : RdM w w.heap.size A a) (hy : RdM w w.heap.size B b) (hl : a.length = n) (hl2 : b.length = m) (hm : n ≤ maxLen) (hm2 : m ≤ maxLen) :
    Calls Try.prog 13 #[.slice A n ca, .slice B m cb] w fun e w' => e = .returned (.bool (decide (a = b))) ∧ Below w.heap.size w w' := by
  unfold maxLen at hm hm2
  have HL := Lib.hid hl
  have HL2 := Lib.hid hl2
  by_cases hnm : n = m
  · subst hnm
    have hb : ((n : Int) != (n : Int)) = false := by simp
    clear hl hl2
    go_enter Try.func13, Try.ntmps13
    go_wp2
    go_loopw [5] (fun i wr => ∃ k : Nat, k ≤ n ∧ i = .int .i64 k ∧ Hid (a.take k = b.take k) ∧ Below w.heap.size w wr) (fun i _ => n - (intOf i).toNat)
    case atStart => exact ⟨0, Nat.zero_le _, rfl, Lib.hid (by simp), Below.refl _ _⟩
    case round =>
      obtain ⟨k, hk, rfl, HR, hb⟩ := hrel
      have hsz := hb.size
      by_cases hlt : k < n
      · obtain ⟨ad, x0, x1, rfl, hbl, hd, hc0, hc1⟩ := RdM.at_ (hx.below hb (Nat.le_refl _)) (k := k) (by rw [HL.out]; exact hlt)
        obtain ⟨ad2, y0, y1, rfl, hbl2, hd2, hc2, hc3⟩ := RdM.at_ (hy.below hb (Nat.le_refl _)) (k := k) (by rw [HL2.out]; exact hlt)
        have HD := Lib.hid hd
        have HD2 := Lib.hid hd2
        clear hd hd2
        by_cases e0 : x0 = y0
        · by_cases e1 : x1 = y1
          · subst e0 e1
            have HR2 : Hid (a.take (k + 1) = b.take (k + 1)) := Lib.hid (by rw [List.take_add_one, List.take_add_one, HR.out, HD.out, HD2.out])
            go_wp2
            go_region
            all_goals (
              go_wp2
              go_round
              case rel => exact ⟨k + 1, by omega, by go_num, HR2, by go_grown⟩
              case measure => (simp [intOf]; omega))
          · have HN : Hid (decide (a = b) = false) := Lib.hid (decide_eq_false fun e => by
              have h1 := HD.out
              rw [e, HD2.out] at h1
              injection h1 with h1
              injection h1 with _ h1
              exact e1 h1.symm)
            go_wp2
            go_region
            all_goals (
              go_wp2
              go_ret
              exact ⟨ret_bool HN.out.symm, by go_grown⟩)
        · have HN : Hid (decide (a = b) = false) := Lib.hid (decide_eq_false fun e => by
            have h1 := HD.out
            rw [e, HD2.out] at h1
            injection h1 with h1
            injection h1 with h1 _
            exact e0 h1.symm)
          go_wp2
          go_region
          all_goals (
            go_wp2
            go_ret
            exact ⟨ret_bool HN.out.symm, by go_grown⟩)
      · have HY : Hid (decide (a = b) = true) := Lib.hid (decide_eq_true (by
          have := HR.out
          rwa [List.take_of_length_le (by rw [HL.out]; omega), List.take_of_length_le (by rw [HL2.out]; omega)] at this))
        go_wp2
        go_ret
        exact ⟨ret_bool HY.out.symm, hb⟩
  · have hb : ((n : Int) != (m : Int)) = true := by simp only [bne_iff_ne, ne_eq]; omega
    have HN : Hid (decide (a = b) = false) := Lib.hid (decide_eq_false fun e => hnm (by rw [← hl, ← hl2, e]))
    clear hl hl2 hnm
    go_enter Try.func13, Try.ntmps13
    go_wp2
    go_ret
    exact ⟨ret_bool HN.out.symm, Below.refl _ _⟩

theorem rv2_set : ∀ {l : List (Int × Int)} {i : Nat} {x : Int × Int}, i < l.length → ((rv cMv l).set (i * 2) (.int .i64 x.1)).set (i * 2 + 1) (.int .i64 x.2) = rv cMv (l.set i x)
  | [], _, _, h => by simp at h
  | q :: l, 0, x, _ => by
    show (([_, _] ++ rv cMv l).set 0 _).set 1 _ = cMv x ++ rv cMv l
    simp [cMv]
  | q :: l, i + 1, x, h => by
    have ih := rv2_set (l := l) (i := i) (x := x) (by simpa using h)
    have e1 : rv cMv (q :: l) = cMv q ++ rv cMv l := rfl
    have e2 : rv cMv ((q :: l).set (i + 1) x) = cMv q ++ rv cMv (l.set i x) := rfl
    have far : ∀ (l : List Value) (k : Nat) (u : Value), (cMv q ++ l).set ((i + 1) * 2 + k) u = cMv q ++ l.set (i * 2 + k) u := fun l k u => by
      rw [List.set_append, if_neg (by rw [cMv_len]; omega), cMv_len, show (i + 1) * 2 + k - 2 = i * 2 + k by omega]
    rw [e1, e2, ← ih]
    have f0 := far (rv cMv l) 0 (.int .i64 x.1)
    rw [Nat.add_zero, Nat.add_zero] at f0
    rw [f0, far]
    simp only [Nat.add_zero]

theorem rv2_cell {l : List (Int × Int)} {i : Nat} {x : Int × Int} (h : l[i]? = some x) : (rv cMv l)[i * 2]? = some (.int .i64 x.1) ∧ (rv cMv l)[i * 2 + 1]? = some (.int .i64 x.2) :=
  ⟨by have := rv_at (c := cMv) cMv_len h (i := 0) (by omega); simpa [cMv] using this, by have := rv_at (c := cMv) cMv_len h (i := 1) (by omega); simpa [cMv] using this⟩

theorem list_set_same {α : Type} {l : List α} {i : Nat} {x : α} (h : l[i]? = some x) : l.set i x = l := by
  apply List.ext_getElem?
  intro j
  rw [List.getElem?_set]
  split
  · rename_i e
    subst e
    rw [if_pos (List.getElem?_eq_some_iff.1 h).1, h]
  · rfl

theorem rv2_set0 {l : List (Int × Int)} {i : Nat} {x : Int × Int} {u : Int} (h : l[i]? = some x) : (rv cMv l).set (i * 2) (.int .i64 u) = rv cMv (l.set i (u, x.2)) := by
  rw [← rv2_set (List.getElem?_eq_some_iff.1 h).1]
  have h2 : ((rv cMv l).set (i * 2) (.int .i64 u))[i * 2 + 1]? = some (.int .i64 x.2) := by rw [List.getElem?_set_ne (by omega)]; exact (rv2_cell h).2
  exact (list_set_same h2).symm

theorem rv2_set1 {l : List (Int × Int)} {i : Nat} {x : Int × Int} {u : Int} (h : l[i]? = some x) : (rv cMv l).set (i * 2 + 1) (.int .i64 u) = rv cMv (l.set i (x.1, u)) := by
  rw [← rv2_set (List.getElem?_eq_some_iff.1 h).1]
  rw [list_set_same (rv2_cell h).1]

/-- rows of spans of the call's own -/
def OwnSp (w : World) (base h n c : Nat) (l : List (Int × Int)) : Prop := w.ownsRow base 23 2 (.slice (some ⟨h, 0, none⟩) n c) n (rv cMv l) ∧ l.length = n

theorem OwnSp.rd {w : World} {base h n c : Nat} {l : List (Int × Int)} (ho : OwnSp w base h n c l) : RdM w w.heap.size (some ⟨h, 0, none⟩) l := own_rdM ho.1 ho.2

theorem OwnSp.lt {w : World} {base h n c : Nat} {l : List (Int × Int)} (ho : OwnSp w base h n c l) : base ≤ h ∧ h < w.heap.size := ho.1.lt h rfl

theorem OwnSp.below {w w' : World} {base h n c : Nat} {l : List (Int × Int)} (ho : OwnSp w base h n c l) (hb : Below w.heap.size w w') : OwnSp w' base h n c l := ⟨own_below ho.1 hb, ho.2⟩

theorem OwnSp.cells {w : World} {base h n c i : Nat} {l : List (Int × Int)} {x : Int × Int} (ho : OwnSp w base h n c l) (hx : l[i]? = some x) : w.cell? ⟨h, i * 2, none⟩ = some (.int .i64 x.1) ∧ w.cell? ⟨h, i * 2 + 1, none⟩ = some (.int .i64 x.2) := by
  have hi : i < l.length := (List.getElem?_eq_some_iff.1 hx).1
  obtain ⟨ad, e, _, hc⟩ := ho.rd (by omega)
  injection e with e
  subst e
  have h0 := hc (i * 2) (by omega)
  have h1 := hc (i * 2 + 1) (by omega)
  have a0 : (⟨h, 0, none⟩ : Addr).add (i * 2) = ⟨h, i * 2, none⟩ := by unfold Addr.add; split <;> simp_all
  have a1 : (⟨h, 0, none⟩ : Addr).add (i * 2 + 1) = ⟨h, i * 2 + 1, none⟩ := by unfold Addr.add; split <;> simp_all
  rw [a0] at h0
  rw [a1] at h1
  rw [h0, h1]
  obtain ⟨c0, c1⟩ := rv2_cell hx
  simp only [List.getD_eq_getElem?_getD, c0, c1, Option.getD_some, and_self]

theorem OwnSp.frozen {w : World} {base h n c : Nat} {l : List (Int × Int)} (ho : OwnSp w base h n c l) (j : Nat) : w.frozen? ⟨h, j, none⟩ = false := ho.1.frozenAt j

theorem OwnSp.put0 {w : World} {base h n c i : Nat} {l : List (Int × Int)} {x : Int × Int} (ho : OwnSp w base h n c l) (hx : l[i]? = some x) (u : Int) : OwnSp (w.setCell ⟨h, i * 2, none⟩ (.int .i64 u)) base h n c (l.set i (u, x.2)) :=
  ⟨by rw [← rv2_set0 hx]; exact (ho.1.stored (i * 2) _).1, by rw [List.length_set]; exact ho.2⟩

theorem OwnSp.put1 {w : World} {base h n c i : Nat} {l : List (Int × Int)} {x : Int × Int} (ho : OwnSp w base h n c l) (hx : l[i]? = some x) (u : Int) : OwnSp (w.setCell ⟨h, i * 2 + 1, none⟩ (.int .i64 u)) base h n c (l.set i (x.1, u)) :=
  ⟨by rw [← rv2_set1 hx]; exact (ho.1.stored (i * 2 + 1) _).1, by rw [List.length_set]; exact ho.2⟩

theorem OwnSp.put {w : World} {base h n c i : Nat} {l : List (Int × Int)} (ho : OwnSp w base h n c l) (hi : i < l.length) (x : Int × Int) : OwnSp ((w.setCell ⟨h, i * 2, none⟩ (.int .i64 x.1)).setCell ⟨h, i * 2 + 1, none⟩ (.int .i64 x.2)) base h n c (l.set i x) :=
  ⟨by rw [← rv2_set hi]; exact (((ho.1.stored (i * 2) _).1).stored (i * 2 + 1) _).1, by rw [List.length_set]; exact ho.2⟩

theorem OwnSp.far {w : World} {base h n c : Nat} {l : List (Int × Int)} {p : Addr} (ho : OwnSp w base h n c l) (hp : h ≠ p.block) (u : Value) : OwnSp (w.setCell p u) base h n c l := ⟨ownsRow_setCell_other ho.1 (fun e => hp (by simpa [Value.ownBlock] using e)) u, ho.2⟩

theorem own_empty2 (X : World) (base g : Nat) (e : TypeId) (hg : g = X.heap.size) (hb : base ≤ X.heap.size) : (X.alloc (.cells #[] e)).ownsRow base e 2 (.slice (some ⟨g, 0, none⟩) 0 0) 0 [] := by
  subst hg
  exact World.ownsRow_made X #[] 0 hb (Nat.zero_le _) rfl

/-- what spanPut answers: a row of its own -/
def PutTo (w : World) (n : Nat) (r : List (Int × Int)) (e : Ending) (w' : World) : Prop := ∃ h c, e = .returned (.slice (some ⟨h, 0, none⟩) n c) ∧ OwnSp w' w.heap.size h n c r ∧ Below w.heap.size w w'

set_option maxHeartbeats 4000000 in
theorem spanPut_nil (B : Option Addr) (n cb : Nat) (b : List (Int × Int)) (w : World) (hy : RdM w w.heap.size B b) (hl : b.length = n) (hn : 1 ≤ n) (hn6 : n ≤ 6) :
    Calls Try.prog 40 #[.slice none 0 0, .slice B n cb] w fun e w' => PutTo w n b e w' := by
  have HL := Lib.hid hl
  have qT : ∀ (w : World) (a : Option Addr) (n c n' c' : Nat), (binOp .eql 31 (.slice a n c) (.slice none n' c')).run Try.prog w = .ok (.bool a.isNone) w := fun w a n c n' c' => Lib.run_eql_slice_nil w _ _ a n c n' c' Try.underlying31
  have HO1C : Hid (∀ u ∈ rv cMv b, u.oneCell' = true) := Lib.hid (rv_all (p := fun u => u.oneCell' = true) cMv_one b)
  have HL1 : Hid ((rv cMv b).length = n * 2) := Lib.hid (by rw [rv_len cMv_len, hl])
  have HN1 : Hid (B = none → n = 0) := Lib.hid fun h => by have := RdR.nil (by omega) hy h; omega
  have HNW : Hid (∀ Z : World, Below w.heap.size w Z → ∀ ad, B = some ad → ∀ j u, (rv cMv b)[j]? = some u → Z.cell? (ad.add j) = some u) := Lib.hid fun Z hZ => (RdM.below hy hZ (Nat.le_refl _)).news cMv_len
  have ha_ : 0 + n ≤ maxLen := by unfold maxLen; omega
  have hb_ : (0 + n) * 16 ≤ 140737488355328 := by omega
  clear hl hy
  go_enter Try.func40, Try.ntmps40
  go_wp2_with (at_builtin; refine wpList_app rfl (.tmp 9) (.tmp 10) 31 rfl w.heap.size 23 2 16 span_app [] rfl (own_empty2 _ _ _ _ (by simp) (by simp)) (rv cMv b) rfl HL1.out HN1.out (HNW.out _ (by go_grown)) HO1C.out ha_ hb_ (by simp) ?_; intro A1 c1 w1 hown1 hg1 hb1; rw [Nat.zero_add, List.nil_append] at hown1)
  obtain ⟨g, rfl, hg0, hg1'⟩ := own_form hown1 (by omega)
  have hbw : Below w.heap.size w w1 := ((by go_grown : Below w.heap.size w (w.alloc (.cells #[] 23)))).trans hb1
  go_ret
  exact ⟨g, c1, by simp, ⟨hown1, HL.out⟩, hbw⟩

/-- on the way: the first k are put together -/
def JoAt (a b : List (Int × Int)) (k : Nat) (q : List (Int × Int)) : Prop := q.length = a.length ∧ ∀ v, v < a.length → q[v]? = if v < k then some (joSp (a.getD v spD) (b.getD v spD)) else a[v]?

theorem JoAt.start (a b : List (Int × Int)) : JoAt a b 0 a := ⟨rfl, fun v _ => by rw [if_neg (by omega)]⟩

theorem JoAt.step {a b q : List (Int × Int)} {k : Nat} {x y : Int × Int} (h : JoAt a b k q) (hk : k < a.length) (hx : a[k]? = some x) (hy : b[k]? = some y) : q[k]? = some x ∧ JoAt a b (k + 1) (q.set k (joSp x y)) := by
  have hq := h.2 k hk
  rw [if_neg (by omega)] at hq
  refine ⟨hq.trans hx, by rw [List.length_set]; exact h.1, fun v hv => ?_⟩
  rw [List.getElem?_set]
  by_cases e : k = v
  · subst e
    rw [if_pos rfl, if_pos (by rw [h.1]; exact hk), if_pos (by omega), List.getD_eq_getElem?_getD, List.getD_eq_getElem?_getD, hx, hy]
    rfl
  · rw [if_neg e, h.2 v hv]
    by_cases h1 : v < k
    · rw [if_pos h1, if_pos (by omega)]
    · rw [if_neg h1, if_neg (by omega)]

theorem JoAt.done {a b q : List (Int × Int)} (h : JoAt a b a.length q) (hl : a.length = b.length) : q = joRow a b := by
  refine row_ext (by rw [h.1, joRow_len hl]) fun v hv => ?_
  rw [h.1] at hv
  rw [joRow_at hl hv, List.getD_eq_getElem?_getD, h.2 v hv, if_pos hv]
  rfl

set_option maxHeartbeats 8000000 in
theorem spanPut_row (ad : Addr) (B : Option Addr) (n ca cb : Nat) (a b : List (Int × Int)) (w : World) (hx : RdM w w.heap.size (some ad) a) (hy : RdM w w.heap.size B b) (hl : a.length = n) (hl2 : b.length = n) (hn : 1 ≤ n) (hn6 : n ≤ 6) :
    Calls Try.prog 40 #[.slice (some ad) n ca, .slice B n cb] w fun e w' => PutTo w n (joRow a b) e w' := by
  have HL := Lib.hid hl
  have HL2 := Lib.hid hl2
  have qT : ∀ (w : World) (a : Option Addr) (n c n' c' : Nat), (binOp .eql 31 (.slice a n c) (.slice none n' c')).run Try.prog w = .ok (.bool a.isNone) w := fun w a n c n' c' => Lib.run_eql_slice_nil w _ _ a n c n' c' Try.underlying31
  have HO1C : Hid (∀ u ∈ rv cMv a, u.oneCell' = true) := Lib.hid (rv_all (p := fun u => u.oneCell' = true) cMv_one a)
  have HL1 : Hid ((rv cMv a).length = n * 2) := Lib.hid (by rw [rv_len cMv_len, hl])
  have HNW : Hid (∀ Z : World, Below w.heap.size w Z → ∀ x, some ad = some x → ∀ j u, (rv cMv a)[j]? = some u → Z.cell? (x.add j) = some u) := Lib.hid fun Z hZ => (RdM.below hx hZ (Nat.le_refl _)).news cMv_len
  have ha_ : 0 + n ≤ maxLen := by unfold maxLen; omega
  have hb_ : (0 + n) * 16 ≤ 140737488355328 := by omega
  clear hl hl2 hx
  go_enter Try.func40, Try.ntmps40
  go_wp2_with (at_builtin; refine wpList_app rfl (.tmp 12) (.tmp 13) 31 rfl w.heap.size 23 2 16 span_app [] rfl (own_empty2 _ _ _ _ (by simp) (by simp)) (rv cMv a) rfl HL1.out (fun h => by cases h) (HNW.out _ (by go_grown)) HO1C.out ha_ hb_ (by simp) ?_; intro A1 c1 w1 hown1 hg1 hb1; rw [Nat.zero_add, List.nil_append] at hown1)
  obtain ⟨g, rfl, hg0, hg1'⟩ := own_form hown1 (by omega)
  have hbw : Below w.heap.size w w1 := ((by go_grown : Below w.heap.size w (w.alloc (.cells #[] 23)))).trans hb1
  have HO1 : Hid (OwnSp w1 w.heap.size g n c1 a) := Lib.hid ⟨hown1, HL.out⟩
  clear hown1 hg1 hb1
  go_loopw [6] (fun i wr => ∃ (k : Nat) (q : List (Int × Int)), k ≤ n ∧ i = .int .i64 k ∧ Hid (JoAt a b k q) ∧ OwnSp wr w.heap.size g n c1 q ∧ Below w.heap.size w wr) (fun i _ => n - (intOf i).toNat)
  case atStart => exact ⟨0, a, Nat.zero_le _, by first | rfl | simp, Lib.hid (JoAt.start a b), HO1.out, hbw⟩
  case round =>
    obtain ⟨k, q, hk, rfl, HJ, ho, hb⟩ := hrel
    have hsz := hb.size
    by_cases hlt : k < n
    · obtain ⟨adb, y0, y1, rfl, hbl, hd, hc0, hc1⟩ := RdM.at_ (hy.below hb (Nat.le_refl _)) (k := k) (by rw [HL2.out]; exact hlt)
      obtain ⟨⟨x0, x1⟩, hxk⟩ : ∃ x, a[k]? = some x := ⟨_, List.getElem?_eq_getElem (by rw [HL.out]; exact hlt)⟩
      obtain ⟨hqk, hj2⟩ := HJ.out.step (by rw [HL.out]; exact hlt) hxk hd
      have HJ2 := Lib.hid hj2
      have HQ := Lib.hid hqk
      obtain ⟨q0, q1⟩ := ho.cells hqk
      simp only at q0 q1
      have fz := ho.frozen
      have fz0 := fz (k * 2)
      have fz1 := fz (k * 2 + 1)
      have hgl := ho.lt.2
      have hblw : (adb.add (k * 2)).block < wr.heap.size := by omega
      have hne : (adb.add (k * 2)).block ≠ g := by omega
      have HO := Lib.hid ho
      clear hd hxk hqk hj2 fz ho
      have HQS : Hid (∀ u, (q.set k u)[k]? = some u) := Lib.hid fun u => List.getElem?_set_self (List.getElem?_eq_some_iff.1 HQ.out).1
      have HSS : Hid (∀ u v, (q.set k u).set k v = q.set k v) := Lib.hid fun u v => List.set_set _
      by_cases d1 : y0 < x0
      · by_cases d2 : x1 < y1
        · have HE : Hid (joSp (x0, x1) (y0, y1) = (y0, y1)) := Lib.hid (Prod.ext (by show min x0 y0 = y0; omega) (by show max x1 y1 = y1; omega))
          go_upto_region 7 with fail
          go_region
          all_goals (
            go_upto_region 9 with fail
            go_region
            all_goals (
              go_wp2
              go_round
              case rel =>
                refine ⟨k + 1, q.set k (joSp (x0, x1) (y0, y1)), by omega, by go_num, HJ2, ?_, ?_⟩
                · have h1 := ((HO.out.below (w' := wr.drew) (by go_grown)).put0 HQ.out y0)
                  have h2 := (h1.below (Below.refl _ _).drew).put1 (HQS.out _) y1
                  rw [HSS.out] at h2
                  rw [HE.out]
                  exact h2
                · exact hb.trans (by go_grown)
              case measure => (simp [intOf]; omega)))
        · have HE : Hid (joSp (x0, x1) (y0, y1) = (y0, x1)) := Lib.hid (Prod.ext (by show min x0 y0 = y0; omega) (by show max x1 y1 = x1; omega))
          go_upto_region 7 with fail
          go_region
          all_goals (
            go_upto_region 9 with fail
            go_region
            all_goals (
              go_wp2
              go_round
              case rel =>
                refine ⟨k + 1, q.set k (joSp (x0, x1) (y0, y1)), by omega, by go_num, HJ2, ?_, ?_⟩
                · have h1 := ((HO.out.below (w' := wr.drew) (by go_grown)).put0 HQ.out y0)
                  have h2 := (h1.below (Below.refl _ _).drew)
                  rw [HE.out]
                  exact h2
                · exact hb.trans (by go_grown)
              case measure => (simp [intOf]; omega)))
      · by_cases d2 : x1 < y1
        · have HE : Hid (joSp (x0, x1) (y0, y1) = (x0, y1)) := Lib.hid (Prod.ext (by show min x0 y0 = x0; omega) (by show max x1 y1 = y1; omega))
          go_upto_region 7 with fail
          go_region
          all_goals (
            go_upto_region 9 with fail
            go_region
            all_goals (
              go_wp2
              go_round
              case rel =>
                refine ⟨k + 1, q.set k (joSp (x0, x1) (y0, y1)), by omega, by go_num, HJ2, ?_, ?_⟩
                · have h2 := (HO.out.below (w' := wr.drew.drew) (by go_grown)).put1 HQ.out y1
                  rw [HE.out]
                  exact h2
                · exact hb.trans (by go_grown)
              case measure => (simp [intOf]; omega)))
        · have HE : Hid (joSp (x0, x1) (y0, y1) = (x0, x1)) := Lib.hid (Prod.ext (by show min x0 y0 = x0; omega) (by show max x1 y1 = x1; omega))
          have HSA : Hid (q.set k (x0, x1) = q) := Lib.hid (list_set_same HQ.out)
          go_upto_region 7 with fail
          go_region
          all_goals (
            go_upto_region 9 with fail
            go_region
            all_goals (
              go_wp2
              go_round
              case rel =>
                refine ⟨k + 1, q.set k (joSp (x0, x1) (y0, y1)), by omega, by go_num, HJ2, ?_, ?_⟩
                · rw [HE.out, HSA.out]
                  exact HO.out.below (by go_grown)
                · exact hb.trans (by go_grown)
              case measure => (simp [intOf]; omega)))
    · have hkn : k = n := by omega
      have HD : Hid (q = joRow a b) := Lib.hid (JoAt.done (by rw [HL.out, ← hkn]; exact HJ.out) (by rw [HL.out, HL2.out]))
      clear hkn
      go_wp2
      go_ret
      exact ⟨g, _, rfl, by rw [← HD.out]; exact ho, hb⟩

end Go.Proofs.Ytidjnmigbhaekaa
