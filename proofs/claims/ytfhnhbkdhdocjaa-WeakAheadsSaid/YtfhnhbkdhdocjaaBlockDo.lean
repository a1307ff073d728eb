/-
  codemasonref.Doing (J1): what variables have behind steps.
-/
import Derived.Test.YtfhnhbkdhdocjaaBlockRef
import Derived.Test.YtfhnhbkdhdocjaaMTerm
import Derived.Test.YtfhnhbkdhdocjaaMBase
namespace Go.Proofs.Ytfhnhbkdhdocjaa
open Go.RowKit
set_option linter.unusedSimpArgs false
set_option linter.unusedVariables false
set_option maxRecDepth 100000

/-- on the way: all that is left gives what the whole gives -/
def DoAt (n : Nat) (code : List St) (v : List Int) (k : Nat) (r : List Int) : Prop := ValsOk n r ∧ doS code v = doS (code.drop k) r

theorem DoAt.step {n : Nat} {code : List St} {v r : List Int} {k : Nat} {o t a b vv x : Int} (h : DoAt n code v k r) (hd : code.drop k = ⟨o, t, a, b, vv⟩ :: code.drop (k + 1)) (hx : x = stV r ⟨o, t, a, b, vv⟩ r) (hb : 0 ≤ x ∧ x ≤ 255) : DoAt n code v (k + 1) (r.set t.toNat x) := by
  refine ⟨h.1.set hb, ?_⟩
  rw [h.2, hd, doS, hx]

theorem stv_num {r : List Int} {t a b v : Int} : v = stV r ⟨1, t, a, b, v⟩ r := by simp [stV]

theorem stv_var {r : List Int} {t a b x : Int} {v : Nat} (h : r[v]? = some x) : x = stV r ⟨2, t, a, b, v⟩ r := by simp [stV, h]

theorem stv_op {r : List Int} {o t v x y : Int} {a b : Nat} (ho : 3 ≤ o) (hx : r[a]? = some x) (hy : r[b]? = some y) : opv o x y = stV r ⟨o, t, a, b, v⟩ r := by
  have h1 : ¬ o = 1 := by omega
  have h2 : ¬ o = 2 := by omega
  simp [stV, h1, h2, hx, hy]

theorem own_empty_at (X : World) (base g : Nat) (e : TypeId) (hg : g = X.heap.size) (hb : base ≤ X.heap.size) : (X.alloc (.cells #[] e)).ownsRow base e 1 (.slice (some ⟨g, 0, none⟩) 0 0) 0 [] := by
  subst hg
  exact World.ownsRow_made X #[] 0 hb (Nat.zero_le _) rfl

theorem own_form {w : World} {base : Nat} {e : TypeId} {size : Nat} {A : Option Addr} {n c : Nat} {xs : List Value} (h : w.ownsRow base e size (.slice A n c) n xs) (hn : 0 < n) : ∃ g, A = some ⟨g, 0, none⟩ ∧ base ≤ g ∧ g < w.heap.size := by
  rcases h.2 with ⟨hv, h0⟩ | ⟨g, cap, cur, hv, h1, h2, _⟩
  · omega
  · injection hv with hv
    exact ⟨g, hv, h1, (Array.getElem?_eq_some_iff.1 h2).1⟩

set_option maxHeartbeats 4000000 in
theorem refDoing_any (n : Nat) (A VA : Option Addr) (cl cap vcap : Nat) (code : List St) (v : List Int) (w : World) (hx : RdS w w.heap.size A code) (hv : RdI w w.heap.size VA v) (hl : code.length = cl) (hm : cl ≤ 65536) (hc : ckStepsF n n code = 0) (hok : ValsOk n v) (hn : 1 ≤ n) (hn6 : n ≤ 65536) :
    Calls Try.prog 37 #[.slice A cl cap, .slice VA n vcap] w fun e w' => ∃ g c', e = .returned (.slice (some ⟨g, 0, none⟩) n c') ∧ w'.ownsRow w.heap.size 3 1 (.slice (some ⟨g, 0, none⟩) n c') n (iv (doS code v)) ∧ Below w.heap.size w w' := by
  have HL := Lib.hid hl
  have HC := Lib.hid hc
  have HD0 : Hid (DoAt n code v 0 v) := Lib.hid ⟨hok, rfl⟩
  have HL1 : Hid ((iv v).length = n * 1) := Lib.hid (by simp [iv, hok.1])
  have HN1 : Hid (VA = none → n = 0) := Lib.hid fun h => by have := hv.nil h; rw [hok.1] at this; exact this
  have HNW : Hid (∀ Z : World, Below w.heap.size w Z → ∀ ad, VA = some ad → ∀ j u, (iv v)[j]? = some u → Z.cell? (ad.add j) = some u) := Lib.hid fun Z hZ => (hv.below hZ (Nat.le_refl _)).news
  have ha_ : 0 + n ≤ maxLen := by unfold maxLen; omega
  have hb_ : (0 + n) * 8 ≤ 140737488355328 := by omega
  clear hl hc hok hv
  go_enter Try.func37, Try.ntmps37
  go_wp2_with (at_builtin; refine wpList_app rfl (.tmp 8) (.tmp 9) 39 rfl w.heap.size 3 1 8 int_app [] rfl (own_empty_at _ _ _ _ (by simp) (by simp)) (iv v) rfl HL1.out HN1.out (HNW.out _ (by go_grown)) (iv_one _) ha_ hb_ (by simp) ?_; intro A1 c1 w1 hown1 hg1 hb1; rw [Nat.zero_add, List.nil_append] at hown1)
  obtain ⟨g, rfl, hg0, hg1'⟩ := own_form hown1 (by omega)
  have hbw : Below w.heap.size w w1 := ((by go_grown : Below w.heap.size w (w.alloc (.cells #[] 3)))).trans hb1
  clear hg1 hb1
  go_loopw [13] (fun i wr => ∃ (k : Nat) (r : List Int), k ≤ cl ∧ i = .int .i64 k ∧ DoAt n code v k r ∧ wr.ownsRow w.heap.size 3 1 (.slice (some ⟨g, 0, none⟩) n c1) n (iv r) ∧ Below w.heap.size w wr) (fun i _ => cl - (intOf i).toNat)
  case atStart => exact ⟨0, v, Nat.zero_le _, rfl, HD0.out, hown1, hbw⟩
  case round =>
    obtain ⟨k, r, hk, rfl, hr, hown, hb⟩ := hrel
    have HR := Lib.hid hr
    have hrl := hr.1.1
    have HRL := Lib.hid hrl
    have hsz := hb.size
    have hgs := (hown.lt g rfl).2
    clear hr hrl
    by_cases hlt : k < cl
    · obtain ⟨ad, o, t, a, b, vv, rfl, hbl, hd, hc0, hc1, hc2, hc3, hc4⟩ := (RdS.below hx hb (Nat.le_refl _)).at_ (k := k) (by rw [HL.out]; exact hlt)
      have hcase := ckStep_cases (ckStepsF_at HC.out hd)
      have HD := Lib.hid (drop_at hd)
      clear hd
      obtain ⟨⟨ht0, ht1⟩, hcase⟩ := hcase
      simp only [] at ht0 ht1 hcase
      obtain ⟨tn, rfl⟩ := Int.eq_ofNat_of_zero_le ht0
      have htn : tn < n := by omega
      have hfz := hown.frozenAt tn
      have htl : tn < r.length := by rw [HRL.out]; exact htn
      have hct := (hown.cellAt tn (by omega)).trans (iv_at (List.getElem?_eq_getElem htl))
      have HST : Hid (∀ x : Int, (w0 : World) → w0.ownsRow w.heap.size 3 1 (.slice (some ⟨g, 0, none⟩) n c1) n (iv r) → (w0.setCell ⟨g, tn, none⟩ (.int .i64 x)).ownsRow w.heap.size 3 1 (.slice (some ⟨g, 0, none⟩) n c1) n (iv (r.set tn x))) := Lib.hid fun x w0 h => by
        have := (h.stored tn (.int .i64 x)).1
        rw [iv_set] at this
        exact this
      generalize r[tn] = xt at *
      rcases hcase with ⟨rfl, hv0, hv1⟩ | ⟨rfl, hv0, hv1⟩ | ⟨ho0, ho1, ha0, ha1, hb0, hb1⟩
      · go_wp2
        go_round
        case rel => exact ⟨k + 1, r.set tn vv, by omega, by go_num, DoAt.step HR.out HD.out stv_num (by omega), (HST.out _ _ hown).alloc _, (hb.setCell (show w.heap.size ≤ (⟨g, tn, none⟩ : Addr).block from hg0) _).alloc (by simpa using hsz) _⟩
        case measure => (simp [intOf]; omega)
      · obtain ⟨vn, rfl⟩ := Int.eq_ofNat_of_zero_le hv0
        have hvn : vn < n := by omega
        have hvl : vn < r.length := by rw [HRL.out]; exact hvn
        have hcx := (hown.cellAt vn (by omega)).trans (iv_at (List.getElem?_eq_getElem hvl))
        have hxb := HR.out.1.2 vn _ (List.getElem?_eq_getElem hvl)
        have HX := Lib.hid (List.getElem?_eq_getElem hvl)
        generalize r[vn] = x at *
        go_wp2
        go_round
        case rel => exact ⟨k + 1, r.set tn x, by omega, by go_num, DoAt.step HR.out HD.out (stv_var HX.out) hxb, (HST.out _ _ hown).alloc _, (hb.setCell (show w.heap.size ≤ (⟨g, tn, none⟩ : Addr).block from hg0) _).alloc (by simpa using hsz) _⟩
        case measure => (simp [intOf]; omega)
      · obtain ⟨an, rfl⟩ := Int.eq_ofNat_of_zero_le ha0
        obtain ⟨bn, rfl⟩ := Int.eq_ofNat_of_zero_le hb0
        have han : an < n := by omega
        have hbn : bn < n := by omega
        have hal : an < r.length := by rw [HRL.out]; exact han
        have hbl' : bn < r.length := by rw [HRL.out]; exact hbn
        have hcav := (hown.cellAt an (by omega)).trans (iv_at (List.getElem?_eq_getElem hal))
        have hcbv := (hown.cellAt bn (by omega)).trans (iv_at (List.getElem?_eq_getElem hbl'))
        have hav := HR.out.1.2 an _ (List.getElem?_eq_getElem hal)
        have hbv := HR.out.1.2 bn _ (List.getElem?_eq_getElem hbl')
        have HA1 := Lib.hid (List.getElem?_eq_getElem hal)
        have HB1 := Lib.hid (List.getElem?_eq_getElem hbl')
        generalize r[an] = va at *
        generalize r[bn] = vb at *
        go_wp2
        (refine still_tail 13 (by kernel_rfl) (by kernel_rfl) ?_; simp only [List.take_succ_cons, List.take_zero, List.drop_succ_cons, List.drop_zero]; repeat still_step)
        still_call ((refOp_any _ _ _ _ (by omega) (by omega) (by omega) (by omega) (by omega) (by omega)).mono fun _ _ h => ⟨h.1, h.2.symm⟩)
        ((repeat still_step); refine wpStill_nil ?_)
        go_wp2
        go_round
        case rel => exact ⟨k + 1, r.set tn (opv o va vb), by omega, by go_num, DoAt.step HR.out HD.out (stv_op ho0 HA1.out HB1.out) (opv_bd _ _ _), ((HST.out _ _ hown).alloc _).drew, ((hb.setCell (show w.heap.size ≤ (⟨g, tn, none⟩ : Addr).block from hg0) _).alloc (by simpa using hsz) _).drew⟩
        case measure => (simp [intOf]; omega)
    · have hkl : cl = k := by omega
      subst hkl
      have hq : doS code v = r := by rw [HR.out.2, List.drop_of_length_le (by rw [HL.out]; exact Nat.le_refl _)]; rfl
      have HQ := Lib.hid hq
      clear hq
      go_wp2
      go_ret
      exact ⟨g, c1, rfl, by rw [HQ.out]; exact hown, hb⟩

end Go.Proofs.Ytfhnhbkdhdocjaa
