/-
  shape.codeOf (U2): steps and one more, as a shape.
-/
import Derived.Test.YtlfmofhimkndoaaShBld
import Derived.Test.YtlfmofhimkndoaaMBase
namespace Go.Proofs.Ytlfmofhimkndoaa
open Go.RowKit
set_option linter.unusedSimpArgs false
set_option linter.unusedVariables false
set_option maxRecDepth 100000

/-- what is done in codeOf's region: the copy and the literal in either order, then the rest in turn -/
def doneC (p j : Nat) : Bool := match p with
  | 0 => false
  | 1 => j == 1
  | 2 => j == 3
  | 3 => j == 1 || j == 3
  | 4 => j == 1 || j == 3 || j == 4
  | 5 => j == 1 || j == 3 || j == 4 || j == 5
  | _ => true

def effC (j : Nat) : Bool := j == 1 || j == 3 || j == 4 || j == 5 || j == 6

theorem effC_cases {j : Nat} (h : effC j = true) : j = 1 ∨ j = 3 ∨ j = 4 ∨ j = 5 ∨ j = 6 := by
  unfold effC at h
  simp only [Bool.or_eq_true, beq_iff_eq] at h
  omega

theorem dC1 {p : Nat} (h : doneC p 1 = false) : p = 0 ∨ p = 2 := by
  rcases p with _ | _ | _ | _ | _ | _ | p <;> simp [doneC] at h ⊢

theorem dC3 {p : Nat} (h : doneC p 3 = false) : p = 0 ∨ p = 1 := by
  rcases p with _ | _ | _ | _ | _ | _ | p <;> simp [doneC] at h ⊢

theorem dC4 {p : Nat} (h : doneC p 4 = false) (h1 : doneC p 1 = true) (h3 : doneC p 3 = true) : p = 3 := by
  rcases p with _ | _ | _ | _ | _ | _ | p <;> simp [doneC] at h h1 h3 ⊢

theorem dC5 {p : Nat} (h : doneC p 5 = false) (h1 : doneC p 4 = true) : p = 4 := by
  rcases p with _ | _ | _ | _ | _ | _ | p <;> simp [doneC] at h h1 ⊢

theorem dC6 {p : Nat} (h : doneC p 6 = false) (h1 : doneC p 5 = true) : p = 5 := by
  rcases p with _ | _ | _ | _ | _ | _ | p <;> simp [doneC] at h h1 ⊢

theorem dCn {p : Nat} (h : doneC p 6 = false) : p ≤ 5 := by
  rcases p with _ | _ | _ | _ | _ | _ | p <;> simp [doneC] at h ⊢

theorem dCe {p : Nat} (h : doneC p 6 = true) : ∃ q, p = q + 6 := by
  rcases p with _ | _ | _ | _ | _ | _ | p <;> simp [doneC] at h ⊢

theorem nxtC {Y : Type} {p p' i : Nat} {y y' : Y} (h : ([1, 3, 4, 5, 6].all fun j => doneC p' j == (j == i || doneC p j)) = true) : Nxt effC (fun (x : Nat × Y) j => doneC x.1 j) (p, y) (p', y') i := fun j hj => by
  have h2 := List.all_eq_true.1 h j (by have := effC_cases hj; simp; omega)
  simp only [beq_iff_eq] at h2
  show doneC p' j = true ↔ j = i ∨ doneC p j = true
  rw [h2, Bool.or_eq_true, beq_iff_eq]

theorem h0C {Y : Type} {y : Y} {n : Nat} : ∀ i, i < n → effC i = true → (fun (x : Nat × Y) j => doneC x.1 j) (0, y) i = false := fun _ _ _ => rfl

/-- a literal of one step -/
def LitS (s : St) (v : Value) (w : World) : Prop := ∃ g, v = .slice (some ⟨g, 0, none⟩) 1 1 ∧ g < w.heap.size ∧ ∀ ad : Addr, some (⟨g, 0, none⟩ : Addr) = some ad → ∀ j u, (cSt s)[j]? = some u → w.cell? (ad.add j) = some u

theorem LitS.below {s : St} {v : Value} {w w' : World} (h : LitS s v w) (hb : Below w.heap.size w w') : LitS s v w' := by
  obtain ⟨g, e, h1, h2⟩ := h
  refine ⟨g, e, Nat.lt_of_lt_of_le h1 hb.size, fun ad ha j u hu => (hb.cell ?_).trans (h2 ad ha j u hu)⟩
  injection ha with ha
  subst ha
  rw [addr_add_block]
  exact h1

/-- steps in a row of the call's own -/
def RowS (B n : Nat) (l : List St) (v : Value) (w : World) : Prop := ∃ A c, v = .slice A n c ∧ w.ownsRow B 61 5 (.slice A n c) n (rv cSt l)

theorem RowS.below {B n : Nat} {l : List St} {v : Value} {w w' : World} (h : RowS B n l v w) (hb : Below w.heap.size w w') : RowS B n l v w' := by
  obtain ⟨A, c, e, h1⟩ := h
  exact ⟨A, c, e, own_below h1 hb⟩

/-- codeOf's region, value by value -/
def CoS (X : World) (G n : Nat) (code : List St) (s : St) (x : Nat × Value × Value × Value × Value) (w : World) : Prop := (x.1 ≤ 5 → Below X.heap.size X w) ∧ match x.1 with
  | 0 => True
  | 1 => RowS X.heap.size n (cpS code) x.2.1 w
  | 2 => LitS s x.2.2.1 w
  | 3 => RowS X.heap.size n (cpS code) x.2.1 w ∧ LitS s x.2.2.1 w
  | 4 => RowS X.heap.size (n + 1) (cpS code ++ [s]) x.2.2.2.1 w
  | 5 => ∃ v, x.2.2.2.2 = .agg #[.int .i64 1, .int .i64 0, v, .slice none 0 0, .slice none 0 0] ∧ RowS X.heap.size (n + 1) (cpS code ++ [s]) v w
  | _ => ∃ v w5, RowS X.heap.size (n + 1) (cpS code ++ [s]) v w5 ∧ Below X.heap.size X w5 ∧ w = ((((w5.setCell ⟨G, 0, none⟩ (.int .i64 1)).setCell ⟨G, 1, none⟩ (.int .i64 0)).setCell ⟨G, 2, none⟩ v).setCell ⟨G, 3, none⟩ (.slice none 0 0)).setCell ⟨G, 4, none⟩ (.slice none 0 0)

theorem RowS.far {B n : Nat} {l : List St} {v : Value} {w : World} (h : RowS B n l v w) {G i : Nat} (hG : G < B) (u : Value) : RowS B n l v (w.setCell ⟨G, i, none⟩ u) := by
  obtain ⟨A, c, e, h1⟩ := h
  exact ⟨A, c, e, own_farW h1 (p := ⟨G, i, none⟩) hG u⟩

set_option maxHeartbeats 16000000 in
theorem codeOf_any (A : Option Addr) (len cap : Nat) (code : List St) (so st sa sb sv : Int) (w : World) (hx : RdS w w.heap.size A code) (hl : code.length = len) (hm : len ≤ 65535) :
    Calls Try.prog 27 #[.slice A len cap, .agg #[.int .i64 so, .int .i64 st, .int .i64 sa, .int .i64 sb, .int .i64 sv]] w fun e w' => ∃ A' c', e = .returned (.agg #[.int .i64 1, .int .i64 0, .slice A' (len + 1) c', .slice none 0 0, .slice none 0 0]) ∧ RdSL w' w.heap.size w'.heap.size A' (cpS code ++ [⟨so, st, sa, sb, sv⟩]) ∧ Below w.heap.size w w' := by
  have HL := Lib.hid hl
  have HO : Hid (Own ((w.alloc (.cells #[.int .i64 so, .int .i64 st, .int .i64 sa, .int .i64 sb, .int .i64 sv] 61)).alloc (.cells #[.int .i64 0, .int .i64 0, .slice none 0 0, .slice none 0 0, .slice none 0 0] 55)) (w.heap.size + 1) 55 [.int .i64 0, .int .i64 0, .slice none 0 0, .slice none 0 0, .slice none 0 0]) := Lib.hid (own_two w _ 55 [.int .i64 0, .int .i64 0, .slice none 0 0, .slice none 0 0, .slice none 0 0])
  have HS : Hid (Own ((w.alloc (.cells #[.int .i64 so, .int .i64 st, .int .i64 sa, .int .i64 sb, .int .i64 sv] 61)).alloc (.cells #[.int .i64 0, .int .i64 0, .slice none 0 0, .slice none 0 0, .slice none 0 0] 55)) w.heap.size 61 [.int .i64 so, .int .i64 st, .int .i64 sa, .int .i64 sb, .int .i64 sv]) := Lib.hid ((Own.new w 61 [.int .i64 so, .int .i64 st, .int .i64 sa, .int .i64 sb, .int .i64 sv]).alloc _)
  have HB : Hid (Below w.heap.size w ((w.alloc (.cells #[.int .i64 so, .int .i64 st, .int .i64 sa, .int .i64 sb, .int .i64 sv] 61)).alloc (.cells #[.int .i64 0, .int .i64 0, .slice none 0 0, .slice none 0 0, .slice none 0 0] 55))) := Lib.hid (by go_grown)
  go_enter Try.func27, Try.ntmps27
  go_upto_region 1 with fail
  obtain ⟨X, hX⟩ : ∃ X, X = (w.alloc (.cells #[.int .i64 so, .int .i64 st, .int .i64 sa, .int .i64 sb, .int .i64 sv] 61)).alloc (.cells #[.int .i64 0, .int .i64 0, .slice none 0 0, .slice none 0 0, .slice none 0 0] 55) := ⟨_, rfl⟩
  rw [← hX] at HO HS HB ⊢
  clear hX
  have HCP := Lib.hid (fun (Z : World) (hZ : Below X.heap.size X Z) => copySteps_any A len cap code Z (hx.up (below_via HB.out hZ)) HL.out (by omega))
  have HSL := Lib.hid hx
  obtain ⟨n0, hn0⟩ : ∃ n0, w.heap.size = n0 := ⟨_, rfl⟩
  have HN := Lib.hid hn0
  rw [hn0] at HO HS
  simp only [hn0]
  clear hn0 hx hl
  have hG := HO.out.lt
  have s0 := HS.out.cell (j := 0) rfl
  have s1 := HS.out.cell (j := 1) rfl
  have s2 := HS.out.cell (j := 2) rfl
  have s3 := HS.out.cell (j := 3) rfl
  have s4 := HS.out.cell (j := 4) rfl
  have hSl := HS.out.lt
  refine wp_region_steps (X := Nat × (Value × Value × Value × Value)) (CoS X (n0 + 1) len code ⟨so, st, sa, sb, sv⟩) (fun x j => doneC x.1 j) effC (0, undef, undef, undef, undef) (fun x => [.slice A len cap, x.2.1, .agg #[.int .i64 so, .int .i64 st, .int .i64 sa, .int .i64 sb, .int .i64 sv], x.2.2.1, x.2.2.2.1, x.2.2.2.2, undef]) _ (by kernel_rfl) (by kernel_rfl) (by kernel_rfl) (fun x => by simp only [putsD, Act.put, List.setIfInBounds_toArray, List.set_cons_zero, List.set_cons_succ]; exact rfl) h0C ⟨fun _ => Below.drew (Below.refl _ _), trivial⟩ (fun x => ?_) (fun x wz hDz hSz => ?_)
  · refine AllS.val (by rfl) (by rfl) (fun w hSw hPw => by go_simp) ?_
    refine AllS.turn (fun _ _ => rfl) (by rfl) (fun w hSw hPw K hK => ?_) ?_
    · (try dsimp only at hSw)
      have h0 := dC1 (hPw.me rfl)
      obtain ⟨p, y1, y2, y3, y4⟩ := x
      (try dsimp only at h0)
      have hq := hSw.1 (by show p ≤ 5; omega)
      go_simp
      go_at_call 43
      refine (HCP.out _ hq).mono ?_
      rintro e w7 ⟨A7, c7, rfl, ho7, hb7⟩
      go_simp
      rcases h0 with rfl | rfl
      · exact hK (1, .slice A7 len c7, y2, y3, y4) _ (nxtC (by decide)) ⟨fun _ => below_via hq hb7, A7, c7, rfl, own_mono ho7 hq.size⟩
      · exact hK (3, .slice A7 len c7, y2, y3, y4) _ (nxtC (by decide)) ⟨fun _ => below_via hq hb7, ⟨A7, c7, rfl, own_mono ho7 hq.size⟩, hSw.2.below hb7⟩
    refine AllS.val (by rfl) (by rfl) (fun w hSw hPw => ?_) ?_
    · (try dsimp only at hSw)
      have hq := hSw.1 (dCn (hPw.not (j := 6) rfl (by kernel_rfl)))
      have c0 := (hq.cell (p := ⟨n0, 0, none⟩) hSl).trans s0
      have c1 := (hq.cell (p := ⟨n0, 1, none⟩) hSl).trans s1
      have c2 := (hq.cell (p := ⟨n0, 2, none⟩) hSl).trans s2
      have c3 := (hq.cell (p := ⟨n0, 3, none⟩) hSl).trans s3
      have c4 := (hq.cell (p := ⟨n0, 4, none⟩) hSl).trans s4
      go_simp
    refine AllS.turn (fun _ _ => rfl) (by rfl) (fun w hSw hPw K hK => ?_) ?_
    · (try dsimp only at hSw)
      have h0 := dC3 (hPw.me rfl)
      obtain ⟨p, y1, y2, y3, y4⟩ := x
      (try dsimp only at h0)
      have hq := hSw.1 (by show p ≤ 5; omega)
      have HLT : LitS ⟨so, st, sa, sb, sv⟩ (.slice (some ⟨w.heap.size, 0, none⟩) 1 1) (w.alloc (.cells #[.int .i64 so, .int .i64 st, .int .i64 sa, .int .i64 sb, .int .i64 sv] 61)) := ⟨_, rfl, by simp, cells_at rfl _ _⟩
      go_simp
      rcases h0 with rfl | rfl
      · exact hK (2, y1, .slice (some ⟨w.heap.size, 0, none⟩) 1 1, y3, y4) _ (nxtC (by decide)) ⟨fun _ => below_via hq (by go_grown), HLT⟩
      · exact hK (3, y1, .slice (some ⟨w.heap.size, 0, none⟩) 1 1, y3, y4) _ (nxtC (by decide)) ⟨fun _ => below_via hq (by go_grown), hSw.2.below (by go_grown), HLT⟩
    refine AllS.turn (fun _ _ => rfl) (by rfl) (fun w hSw hPw K hK => ?_) ?_
    · (try dsimp only at hSw)
      have h0 := dC4 (hPw.me rfl) (hPw.need (k := 1) rfl (by kernel_rfl)) (hPw.need (k := 3) rfl (by kernel_rfl))
      obtain ⟨p, y1, y2, y3, y4⟩ := x
      (try dsimp only at h0)
      subst h0
      obtain ⟨hq, ⟨A7, c7, hy, ho7⟩, g8, hy8, hg8, hc8⟩ := hSw
      (try dsimp only at hy)
      (try dsimp only at hy8)
      subst hy
      subst hy8
      have hq := hq (by show (3 : Nat) ≤ 5; omega)
      refine oper_app' (.tmp 6) (.tmp 8) 53 rfl X.heap.size 61 5 40 step_appH _ rfl ho7 (cSt ⟨so, st, sa, sb, sv⟩) rfl rfl (fun h => by cases h) hc8 (cSt_one _) (by unfold maxLen; omega) (by omega) hq.size ?_
      intro A9 c9 w9 hown9 hg9 hb9 hbl9
      exact hK (4, _, _, .slice A9 (len + 1) c9, y4) _ (nxtC (by decide)) ⟨fun _ => hq.trans hb9, A9, c9, rfl, by rw [rv_append, rv_one]; exact hown9⟩
    refine AllS.turn (fun _ _ => rfl) (by rfl) (fun w hSw hPw K hK => ?_) ?_
    · (try dsimp only at hSw)
      have h0 := dC5 (hPw.me rfl) (hPw.need (k := 4) rfl (by kernel_rfl))
      obtain ⟨p, y1, y2, y3, y4⟩ := x
      (try dsimp only at h0)
      subst h0
      obtain ⟨hq, A7, c7, hy, ho7⟩ := hSw
      (try dsimp only at hy)
      subst hy
      go_simp
      exact hK (5, _, _, _, .agg #[.int .i64 1, .int .i64 0, .slice A7 (len + 1) c7, .slice none 0 0, .slice none 0 0]) _ (nxtC (by decide)) ⟨fun _ => hq (by show (4 : Nat) ≤ 5; omega), _, rfl, A7, c7, rfl, ho7⟩
    refine AllS.turn (fun _ _ => rfl) (by rfl) (fun w hSw hPw K hK => ?_) ?_
    · (try dsimp only at hSw)
      have h0 := dC6 (hPw.me rfl) (hPw.need (k := 5) rfl (by kernel_rfl))
      obtain ⟨p, y1, y2, y3, y4⟩ := x
      (try dsimp only at h0)
      subst h0
      obtain ⟨hq, v, hy, A9, c9, hv, ho9⟩ := hSw
      (try dsimp only at hy)
      subst hv
      subst hy
      have hq := hq (by show (5 : Nat) ≤ 5; omega)
      have hO5 := HO.out.below hq hG
      have u0 := hO5.cell (j := 0) rfl
      have u1 := hO5.cell (j := 1) rfl
      have u2 := hO5.cell (j := 2) rfl
      have u3 := hO5.cell (j := 3) rfl
      have u4 := hO5.cell (j := 4) rfl
      have v0 := hO5.frozen 0
      have v1 := hO5.frozen 1
      have v2 := hO5.frozen 2
      have v3 := hO5.frozen 3
      have v4 := hO5.frozen 4
      go_simp
      exact hK (6, y1, y2, y3, .agg #[.int .i64 1, .int .i64 0, .slice A9 (len + 1) c9, .slice none 0 0, .slice none 0 0]) _ (nxtC (by decide)) ⟨fun h => absurd h (by simp), _, _, ⟨A9, c9, rfl, ho9⟩, hq, rfl⟩
    exact AllS.nil
  have hd := hDz 6 (by decide) rfl
  obtain ⟨p, y1, y2, y3, y4⟩ := x
  (try dsimp only at hd)
  obtain ⟨q, rfl⟩ := dCe hd
  obtain ⟨_, v, w5, hr, hq, rfl⟩ := hSz
  clear hDz hd
  have hO5 := HO.out.below hq hG
  have hR := ((((hr.far hG (i := 0) (.int .i64 1)).far hG (i := 1) (.int .i64 0)).far hG (i := 2) v).far hG (i := 3) (.slice none 0 0)).far hG (i := 4) (.slice none 0 0)
  obtain ⟨A7, c7, rfl, ho7⟩ := hR
  have HO7 := Lib.hid ho7
  have HB7 := Lib.hid (below_via HB.out hq)
  have HOF := Lib.hid (own_step5 hO5 (.int .i64 1) (.int .i64 0) (.slice A7 (len + 1) c7) (.slice none 0 0) (.slice none 0 0))
  have hb8 := HB7.out
  rw [HN.out] at hb8
  have HB9 : Hid (Below n0 w (((((w5.setCell ⟨n0 + 1, 0, none⟩ (.int .i64 1)).setCell ⟨n0 + 1, 1, none⟩ (.int .i64 0)).setCell ⟨n0 + 1, 2, none⟩ (.slice A7 (len + 1) c7)).setCell ⟨n0 + 1, 3, none⟩ (.slice none 0 0)).setCell ⟨n0 + 1, 4, none⟩ (.slice none 0 0))) := Lib.hid
    (Below.setCell (p := ⟨n0 + 1, 4, none⟩) (Below.setCell (p := ⟨n0 + 1, 3, none⟩) (Below.setCell (p := ⟨n0 + 1, 2, none⟩) (Below.setCell (p := ⟨n0 + 1, 1, none⟩) (Below.setCell (p := ⟨n0 + 1, 0, none⟩) hb8 (by show n0 ≤ n0 + 1; omega) _) (by show n0 ≤ n0 + 1; omega) _) (by show n0 ≤ n0 + 1; omega) _) (by show n0 ≤ n0 + 1; omega) _) (by show n0 ≤ n0 + 1; omega) _)
  clear hO5 ho7 hr hq s0 s1 s2 s3 s4 hb8
  go_wp2
  (try simp only [Exit.inBlock, Exit.then])
  exact bodyPost_ret (v := .agg #[.int .i64 1, .int .i64 0, .slice A7 (len + 1) c7, .slice none 0 0, .slice none 0 0]) (results_cell_row rfl _ _ (n0 + 1) 55 _ _ _ rfl HOF.out Try.underlying55 rfl (by kernel_rfl)) rfl ⟨A7, ⟨c7, rfl⟩, RdSL.more (rdSL_own HO7.out (by rw [List.length_append, cpS_len, HL.out]; rfl)) HB.out.size (Nat.le_refl _), by have h := HB9.out; rw [← HN.out] at h ⊢; exact h⟩

end Go.Proofs.Ytlfmofhimkndoaa
