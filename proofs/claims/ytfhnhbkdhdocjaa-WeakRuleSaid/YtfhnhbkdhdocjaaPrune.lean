/-
  term.Prune: the terms that the last one needs, renumbered.
-/
import Derived.Test.YtfhnhbkdhdocjaaComb
import Derived.Test.YtfhnhbkdhdocjaaUses
import Derived.Test.YtfhnhbkdhdocjaaMTerm
namespace Go.Proofs.Ytfhnhbkdhdocjaa
open Go.RowKit
set_option linter.unusedSimpArgs false
set_option linter.unusedVariables false
set_option maxRecDepth 100000

/-- a term with its operands renumbered -/
def renT (p : List Int) (t : Tm) : Tm := if t.op = 1 ∨ t.op = 2 then t else ⟨t.op, p.getD t.a.toNat 0, p.getD t.b.toNat 0, t.v⟩

/-- kept terms and places before round k of term.prune -/
def prS (l : List Tm) : Nat → List Tm × List Int
  | 0 => ([], List.replicate l.length 0)
  | k + 1 => if (needL l).getD k false = true then ((prS l k).1 ++ [renT (prS l k).2 (l.getD k tz)], (prS l k).2.set k ((prS l k).1.length : Int)) else prS l k

theorem prS_len (l : List Tm) : ∀ k, (prS l k).1.length ≤ k ∧ (prS l k).2.length = l.length
  | 0 => by simp [prS]
  | k + 1 => by
    have ih := prS_len l k
    unfold prS
    split
    · simp; omega
    · omega

/-- what term.prune makes of a list -/
def prL (l : List Tm) : List Tm := (prS l l.length).1

theorem own_far {w : World} {base size n : Nat} {e : TypeId} {v : Value} {xs : List Value} (h : w.ownsRow base e size v n xs) {p : Addr} (hp : p.block < base) (u : Value) : (w.setCell p u).ownsRow base e size v n xs := by
  refine ⟨h.1, ?_⟩
  rcases h.2 with h' | ⟨g, cap, cur, h1, h2, h3, h4⟩
  · exact .inl h'
  · exact .inr ⟨g, cap, cur, h1, h2, (Below.heap_setCell w p u g (by omega)).trans h3, h4⟩

theorem termp_app : AppTy Try.prog 50 56 4 32 :=
  appTy_of (z := .agg #[.int .i64 0, .int .i64 0, .int .i64 0, .int .i64 0]) Try.underlying50 (by kernel_rfl) rfl (by omega)

set_option maxHeartbeats 4000000 in
theorem prune_any (vars : Int) (A : Option Addr) (len cap : Nat) (l : List Tm) (w0 : World) (hx : RdT w0 w0.heap.size A l) (hl : l.length = len) (hc : ckTerms vars l = 0) :
    Calls Try.prog 62 #[.int .i64 vars, .slice A len cap] w0 fun e w' => ∃ A' c', e = .returned (.tuple #[.slice A' (prL l).length c', .int .i64 0]) ∧ RdT w' w'.heap.size A' (prL l) ∧ Below w0.heap.size w0 w' := by
  obtain ⟨b1, b2, b3, b4⟩ := ckTerms_bd hc
  have HL := Lib.hid hl
  have HC := Lib.hid hc
  rw [hl] at b3 b4
  clear hl hc
  have hmk := make_ints (P := Try.prog) 39 3 Try.underlying39 int_info len (by omega)
  go_enter Try.func62, Try.ntmps62
  go_wp2_with fail
  refine (check_any vars A len cap l _ hx HL.out).mono ?_
  rintro e w ⟨rfl, hb00⟩
  rw [HC.out]
  replace hx : RdT w w.heap.size A l := (hx.below hb00 (Nat.le_refl _)).more hb00.size
  go_wp2_with (go_at_call 90; (with_reducible refine (needs_any vars A len cap l _ ?_ HL.out HC.out).mono ?_); (· exact (hx.below (B' := w.heap.size) (by go_grown) (Nat.le_refl _)).more (by simp)); rintro e wo ⟨g, rfl, hog, hbo, hgw⟩)
  rw [World.size_alloc] at hgw
  have hpl0 := (Own.new w 3 (iv (List.replicate len 0))).below hbo (by simp)
  have hb0 : Below w.heap.size w wo := (by go_grown : Below w.heap.size w (w.alloc (.cells (iv (List.replicate len 0)).toArray 3))).trans (hbo.mono (by simp))
  clear hbo hmk
  go_loopw [7, 24] (fun s i wr => ∃ (k : Nat) (A1 : Option Addr) (c1 : Nat), k ≤ len ∧ i = .int .i64 k ∧ s = .slice A1 (prS l k).1.length c1 ∧ wr.ownsRow wo.heap.size 56 4 (.slice A1 (prS l k).1.length c1) (prS l k).1.length (tv (prS l k).1) ∧ Own wr w.heap.size 3 (iv (prS l k).2) ∧ Own wr g 4 (bv (needL l)) ∧ Below w.heap.size w wr ∧ wo.heap.size ≤ wr.heap.size) (fun _ i _ => len - (intOf i).toNat)
  case atStart => exact ⟨0, none, 0, Nat.zero_le _, rfl, rfl, World.ownsRow_nil _ _ _ _, by simp only [prS, HL.out]; exact hpl0, hog, hb0, Nat.le_refl _⟩
  case round =>
    obtain ⟨k, A1, c1, hk, rfl, rfl, hown, hpl, hnd, hb, hs⟩ := hrel
    have hpo := hpl0.lt
    have hgo := hog.lt
    have hpr := hpl.lt
    have hgr := hnd.lt
    clear hpl0 hog hb0
    by_cases hlt : k < len
    · obtain ⟨ad, o, a, b, v, rfl, hbl, hd, hc0, hc1, hc2, hc3⟩ := ((hx.below hb (Nat.le_refl _)).more hb.size).at_ (k := k) (by rw [HL.out]; exact hlt)
      have hcase := ckTerms_cases HC.out hd
      obtain ⟨hkl, hpn⟩ := prS_len l k
      rw [HL.out] at hpn
      obtain ⟨bb, hbb⟩ : ∃ bb, (needL l)[k]? = some bb := ⟨_, List.getElem?_eq_getElem (by rw [needL_len, HL.out]; exact hlt)⟩
      have hcn := hnd.cell (bv_at hbb)
      have hps : prS l (k + 1) = if bb = true then ((prS l k).1 ++ [renT (prS l k).2 ⟨o, a, b, v⟩], (prS l k).2.set k ((prS l k).1.length : Int)) else prS l k := by
        rw [prS, show (needL l).getD k false = bb from by simp [hbb], show l.getD k tz = ⟨o, a, b, v⟩ from by simp [hd]]
      clear hbb hd
      generalize prS l k = s at *
      obtain ⟨K, p⟩ := s
      simp only at hps hown hpl hkl hpn ⊢
      cases bb with
      | false =>
        rw [if_neg (by simp)] at hps
        have HPS := Lib.hid hps
        clear hps
        go_wp2
        go_round
        case rel => exact ⟨k + 1, A1, c1, by omega, by go_num, by rw [HPS.out], by rw [HPS.out]; exact hown, by rw [HPS.out]; exact hpl, hnd, hb, hs⟩
        case measure => (simp [intOf]; omega)
      | true =>
        rw [if_pos rfl] at hps
        have HPS := Lib.hid hps
        have h63 : K.length + 1 ≤ maxLen := by unfold maxLen; omega
        have hbig : (K.length + 1) * 32 ≤ 140737488355328 := by omega
        have hfz := hpl.frozen k
        have hck := hpl.cell (iv_at (List.getElem?_eq_getElem (show k < p.length by omega)))
        have hne : wr.heap.size ≠ w.heap.size := by omega
        have hgne : g ≠ w.heap.size := by omega
        clear hps
        by_cases hop : o = 1 ∨ o = 2
        · have hlf : leafB' o = true := by unfold leafB'; simp; exact hop
          have hrt : renT p ⟨o, a, b, v⟩ = ⟨o, a, b, v⟩ := by unfold renT; rw [if_pos hop]
          have HRT := Lib.hid hrt
          clear hrt hop hcase
          go_wp2_with (first
            | (go_at_call 91; (with_reducible refine (isLeaf_any _ _).mono ?_); rintro e w1 ⟨rfl, rfl⟩)
            | (at_builtin; refine wpList_app rfl (.tmp 56) (.tmp 58) 50 rfl wo.heap.size 56 4 32 termp_app _ rfl (own_below (own_far hown (p := ⟨w.heap.size, k, none⟩) hpo (.int .i64 (K.length : Int))) (by go_grown)) [.int .i64 o, .int .i64 a, .int .i64 b, .int .i64 v] rfl rfl (fun h => by cases h) (cells_at (by simp) _ _) (tv1_one _ _ _ _) h63 hbig (by simp; omega) ?_; intro A4 c4 w4 hown4 hg4 hb4))
          go_round
          case rel =>
            have hlen : (K ++ [(⟨o, a, b, v⟩ : Tm)]).length = K.length + 1 := by simp
            refine ⟨k + 1, A4, c4, by omega, by go_num, by rw [HPS.out, HRT.out]; simp only [hlen], by rw [HPS.out, HRT.out]; simp only [hlen, tv_append]; exact hown4, ?_, (((hnd.far hgne _).alloc _).alloc _).below hb4 hgo, Below.trans (by go_grown) (hb4.mono (by omega)), by have := hb4.size; simp at this; omega⟩
            rw [HPS.out]
            exact (((OwnI.set hpl k _).alloc _).alloc _).below hb4 hpo
          case measure => (simp [intOf]; omega)
        · have hlf : leafB' o = false := by unfold leafB'; simp; omega
          obtain ⟨ha0, ha1, hbb0, hbb1⟩ : 0 ≤ a ∧ a < k ∧ 0 ≤ b ∧ b < k := by omega
          obtain ⟨an, rfl⟩ := Int.eq_ofNat_of_zero_le ha0
          obtain ⟨bn, rfl⟩ := Int.eq_ofNat_of_zero_le hbb0
          have han : an < len := by omega
          have hbn : bn < len := by omega
          obtain ⟨x, hxa⟩ : ∃ x, p[an]? = some x := ⟨_, List.getElem?_eq_getElem (by omega)⟩
          obtain ⟨y, hxb⟩ : ∃ x, p[bn]? = some x := ⟨_, List.getElem?_eq_getElem (by omega)⟩
          have hca := hpl.cell (iv_at hxa)
          have hcb := hpl.cell (iv_at hxb)
          have hrt : renT p ⟨o, an, bn, v⟩ = ⟨o, x, y, v⟩ := by unfold renT; rw [if_neg hop]; simp [hxa, hxb]
          have HRT := Lib.hid hrt
          clear hrt hop hcase hxa hxb
          have r1 : w.heap.size < wr.heap.size + 1 := by omega
          have r2 : w.heap.size < wr.heap.size + 1 + 1 := by omega
          go_wp2_with (go_at_call 91; (with_reducible refine (isLeaf_any _ _).mono ?_); rintro e w1 ⟨rfl, rfl⟩)
          go_region
          all_goals
            go_wp2_with (at_builtin; refine wpList_app rfl (.tmp 56) (.tmp 58) 50 rfl wo.heap.size 56 4 32 termp_app _ rfl (own_below (own_far hown (p := ⟨w.heap.size, k, none⟩) hpo (.int .i64 (K.length : Int))) (by go_grown)) [.int .i64 o, .int .i64 x, .int .i64 y, .int .i64 v] rfl rfl (fun h => by cases h) (cells_at (by simp) _ _) (tv1_one _ _ _ _) h63 hbig (by simp; omega) ?_; intro A4 c4 w4 hown4 hg4 hb4)
            go_round
            case rel =>
              have hlen : (K ++ [(⟨o, x, y, v⟩ : Tm)]).length = K.length + 1 := by simp
              refine ⟨k + 1, A4, c4, by omega, by go_num, by rw [HPS.out, HRT.out]; simp only [hlen], by rw [HPS.out, HRT.out]; simp only [hlen, tv_append]; exact hown4, ?_, (((hnd.far hgne _).alloc _).alloc _).drew.below hb4 hgo, Below.trans (by go_grown) (hb4.mono (by omega)), by have := hb4.size; simp at this; omega⟩
              rw [HPS.out]
              exact (((OwnI.set hpl k _).alloc _).alloc _).drew.below hb4 hpo
            case measure => (simp [intOf]; omega)
    · have : k = len := by omega
      subst this
      go_wp2
      go_returns
      have hpe : prS l k = ((prL l), (prS l k).2) := by unfold prL; rw [HL.out]
      rw [hpe] at hown ⊢
      exact ⟨A1, c1, rfl, own_rdT hown rfl, hb00.trans (hb.mono hb00.size)⟩

end Go.Proofs.Ytfhnhbkdhdocjaa
