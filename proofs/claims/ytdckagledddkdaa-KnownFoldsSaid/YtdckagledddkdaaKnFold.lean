/-
  known.foldBlock (L1, L2).
-/
import Derived.Test.YtdckagledddkdaaKnParts
import Derived.Test.YtdckagledddkdaaBlockOpen
import Derived.Test.YtdckagledddkdaaBlockDo
import Derived.Laws.Rows
import Derived.BigRegion
namespace Go.Proofs.Ytdckagledddkdaa
open Go.RowKit
set_option linter.unusedSimpArgs false
set_option linter.unusedVariables false
set_option maxRecDepth 100000

theorem stepk_app : AppTy Try.prog 42 52 5 40 := appTy_of (z := .agg #[.int .i64 0, .int .i64 0, .int .i64 0, .int .i64 0, .int .i64 0]) Try.underlying42 (by kernel_rfl) rfl (by omega)

theorem own_capK {w : World} {base : Nat} {e : TypeId} {size : Nat} {A : Option Addr} {n c : Nat} {xs : List Value} (h : w.ownsRow base e size (.slice A n c) n xs) : n ≤ c := by
  rcases h.2 with ⟨hv, h0⟩ | ⟨g, cap, cur, hv, _, _, h4⟩
  · omega
  · injection hv with _ _ hc
    omega

theorem cellsK_at {X : World} {k : Nat} (hk : k = X.heap.size) (s : St) (cs : Array Value) (hcs : cs = (cSt s).toArray) (t : TypeId) : ∀ ad : Addr, some (⟨k, 0, none⟩ : Addr) = some ad → ∀ j u, (cSt s)[j]? = some u → (X.alloc (.cells cs t)).cell? (ad.add j) = some u := by
  subst hcs
  exact cells_at hk (cSt s) t

theorem ob_eq {h n c g : Nat} (hg : (Value.slice (some ⟨h, 0, none⟩) n c).ownBlock = some g) : h = g := by
  have e : (Value.slice (some ⟨h, 0, none⟩) n c).ownBlock = some h := rfl
  rw [e] at hg
  injection hg

/-- a row under a bound stands where all below it does -/
theorem own_under {w w' : World} {base : Nat} {e : TypeId} {size : Nat} {v : Value} {n : Nat} {xs : List Value} {B : Nat} (h : w.ownsRow base e size v n xs) (hb : Below B w w') (hv : ∀ g, v.ownBlock = some g → g < B) : w'.ownsRow base e size v n xs := by
  refine ⟨h.1, ?_⟩
  rcases h.2 with h' | ⟨k, cap, cur, h1, h2, h3, h4⟩
  · exact .inl h'
  · exact .inr ⟨k, cap, cur, h1, h2, (hb.block k (hv k (by rw [h1]; rfl))).trans h3, h4⟩

/-- folding on the way: with what the steps are made of -/
structure FdK (n : Nat) (code : List St) (a : List Int) (k : Nat) (r : List St) (v : List Int) : Prop where
  ok : KOk n v
  len : r.length = k
  all : fdC code a = r ++ fdC (code.drop k) v
  beh : bhK code a = bhK (code.drop k) v

theorem FdK.start {n : Nat} {code : List St} {a : List Int} (h : KOk n a) : FdK n code a 0 [] a := ⟨h, rfl, rfl, rfl⟩

theorem FdK.step {n : Nat} {code : List St} {a : List Int} {k : Nat} {r : List St} {v : List Int} {s : St} (h : FdK n code a k r v) (hc : ckStepsF n n code = 0) (hs : code[k]? = some s) : FdK n code a (k + 1) (r ++ [fdS s v]) (v.set s.to.toNat (mkK s v)) := by
  refine ⟨h.ok.set (mkK_bd (ckStepsF_at hc hs) h.ok), by simp [h.len], ?_, by rw [h.beh, bhK_drop hs]⟩
  rw [h.all, drop_at hs, fdC, List.append_assoc]
  rfl

theorem FdK.done {n : Nat} {code : List St} {a : List Int} {k : Nat} {r : List St} {v : List Int} (h : FdK n code a k r v) (hk : code.length ≤ k) : fdC code a = r ∧ bhK code a = v := by
  refine ⟨?_, ?_⟩
  · rw [h.all, List.drop_of_length_le hk, fdC, List.append_nil]
  · rw [h.beh, List.drop_of_length_le hk, bhK]

/-- what foldBlock answers -/
structure Fdd (n : Nat) (code : List St) (te th el : Int) (a : List Int) (h c cl base : Nat) (w : World) (e : Ending) (w' : World) : Prop where
  ret : ∃ A' c' te' th' el', e = .returned (.agg #[.slice A' cl c', .int .i64 te', .int .i64 th', .int .i64 el']) ∧ fdB ⟨code, te, th, el⟩ a = ⟨fdC code a, te', th', el'⟩ ∧ RdS w' w'.heap.size A' (fdC code a) ∧ cl ≤ c' ∧ (∀ ad, A' = some ad → w.heap.size ≤ ad.block ∧ ad.block < w'.heap.size)
  own : w'.ownsRow base 3 1 (.slice (some ⟨h, 0, none⟩) n c) n (iv (bhK code a))
  wr : Wrote h w w'

set_option maxHeartbeats 8000000 in
theorem foldBlock_any (n m B base h c cl cc : Nat) (Ac : Option Addr) (code : List St) (te th el : Int) (a : List Int) (w : World) (hx : RdS w B Ac code) (hl : code.length = cl) (h20 : cl ≤ 20) (hB : B ≤ base) (hBs : B ≤ w.heap.size) (ho : w.ownsRow base 3 1 (.slice (some ⟨h, 0, none⟩) n c) n (iv a)) (hk : KOk n a) (hb : BkOk n m ⟨code, te, th, el⟩) (hn : 1 ≤ n) (hn6 : n ≤ 6) :
    Calls Try.prog 26 #[.agg #[.slice Ac cl cc, .int .i64 te, .int .i64 th, .int .i64 el], .slice (some ⟨h, 0, none⟩) n c] w fun e w' => Fdd n code te th el a h c cl base w e w' := by
  have hBh : B ≤ h := Nat.le_trans hB (ho.lt h rfl).1
  have hhs := (ho.lt h rfl).2
  have HL := Lib.hid hl
  have HB := Lib.hid hb
  have HC := Lib.hid hb.code
  have HF0 := Lib.hid (FdK.start (code := code) hk)
  have HTE := Lib.hid hb.test
  have HEL := Lib.hid hb.el
  have hO1 : Own ((w.alloc (.cells #[.slice Ac cl cc, .int .i64 te, .int .i64 th, .int .i64 el] 44)).alloc (.cells #[.slice none 0 0, .int .i64 0, .int .i64 0, .int .i64 0] 44)) w.heap.size 44 [.slice Ac cl cc, .int .i64 te, .int .i64 th, .int .i64 el] := (Own.new w _ [_, _, _, _]).alloc _
  have hO2 : Own ((w.alloc (.cells #[.slice Ac cl cc, .int .i64 te, .int .i64 th, .int .i64 el] 44)).alloc (.cells #[.slice none 0 0, .int .i64 0, .int .i64 0, .int .i64 0] 44)) (w.heap.size + 1) 44 [.slice none 0 0, .int .i64 0, .int .i64 0, .int .i64 0] := by
    have h := Own.new (w.alloc (.cells #[.slice Ac cl cc, .int .i64 te, .int .i64 th, .int .i64 el] 44)) 44 [.slice none 0 0, .int .i64 0, .int .i64 0, .int .i64 0]
    have e : (w.alloc (.cells #[.slice Ac cl cc, .int .i64 te, .int .i64 th, .int .i64 el] 44)).heap.size = w.heap.size + 1 := by simp
    rw [e] at h
    exact h
  have hb0 : Below w.heap.size w ((w.alloc (.cells #[.slice Ac cl cc, .int .i64 te, .int .i64 th, .int .i64 el] 44)).alloc (.cells #[.slice none 0 0, .int .i64 0, .int .i64 0, .int .i64 0] 44)) := by go_grown
  have hoA := own_below ho hb0
  have hW0 : Wrote h w ((w.alloc (.cells #[.slice Ac cl cc, .int .i64 te, .int .i64 th, .int .i64 el] 44)).alloc (.cells #[.slice none 0 0, .int .i64 0, .int .i64 0, .int .i64 0] 44)) := Wrote.of_below hb0
  clear hl hk hb ho
  go_enter Try.func26, Try.ntmps26
  go_wp2
  obtain ⟨wo, hwo⟩ : ∃ wo, wo = ((w.alloc (.cells #[.slice Ac cl cc, .int .i64 te, .int .i64 th, .int .i64 el] 44)).alloc (.cells #[.slice none 0 0, .int .i64 0, .int .i64 0, .int .i64 0] 44)) := ⟨_, rfl⟩
  rw [← hwo] at hO1 hO2 hoA hW0 ⊢
  clear hwo hb0
  go_loopw [5, 12] (fun z5 z12 wr => ∃ (k : Nat) (r : List St) (v : List Int) (A5 : Option Addr) (c5 : Nat), k ≤ cl ∧ z12 = .int .i64 k ∧ z5 = .slice A5 k c5 ∧ FdK n code a k r v ∧ wr.ownsRow (w.heap.size + 2) 52 5 (.slice A5 k c5) k (rv cSt r) ∧ wr.ownsRow base 3 1 (.slice (some ⟨h, 0, none⟩) n c) n (iv v) ∧ Own wr w.heap.size 44 [.slice Ac cl cc, .int .i64 te, .int .i64 th, .int .i64 el] ∧ Own wr (w.heap.size + 1) 44 [.slice none 0 0, .int .i64 0, .int .i64 0, .int .i64 0] ∧ Wrote h w wr) (fun _ z12 _ => cl - (intOf z12).toNat)
  case atStart => exact ⟨0, [], a, none, 0, Nat.zero_le _, rfl, rfl, HF0.out, World.ownsRow_nil _ _ _ _, hoA, hO1, hO2, hW0⟩
  case round =>
    obtain ⟨k, r, v, A5, c5, hk, rfl, rfl, hfd, hcr, hown, hp1, hp2, hwr⟩ := hrel
    have HFD := Lib.hid hfd
    have HCR := Lib.hid hcr
    have HOW := Lib.hid hown
    have HP1 := Lib.hid hp1
    have HP2 := Lib.hid hp2
    have HVL : Hid (v.length = n) := Lib.hid hfd.ok.1
    have hs1 := hp1.lt
    have hs2 := hp2.lt
    have hsz := hwr.size
    have hgs := (hown.lt h rfl).2
    clear hfd
    by_cases hlt : k < cl
    · obtain ⟨ad, o, t, x1, x2, vv, rfl, hbl, hd, hc0, hc1, hc2, hc3, hc4⟩ := (RdS.below hx (hwr.below hBh hBs) (Nat.le_refl _)).at_ (k := k) (by rw [HL.out]; exact hlt)
      have hcks := ckStepsF_at HC.out hd
      simp only [] at hcks
      have hxb := mkK_bd (s := ⟨o, t, x1, x2, vv⟩) hcks HFD.out.ok
      have hmk : ∀ Z : World, Below wr.heap.size wr Z → Calls Try.prog 40 #[.agg #[.int .i64 o, .int .i64 t, .int .i64 x1, .int .i64 x2, .int .i64 vv], .slice (some ⟨h, 0, none⟩) n c] Z fun e w' => e = .returned (.int .i64 (mkK ⟨o, t, x1, x2, vv⟩ v)) ∧ Below Z.heap.size Z w' := fun Z hZ =>
        resultK_any n _ c o t x1 x2 vv v Z (((own_rdI HOW.out HVL.out).below hZ (Nat.le_refl _)).more hZ.size) HFD.out.ok hcks (by omega)
      have hstep := HFD.out.step HC.out hd
      have hto : (fdS ⟨o, t, x1, x2, vv⟩ v) = if 0 ≤ mkK ⟨o, t, x1, x2, vv⟩ v then ⟨1, t, 0, 0, mkK ⟨o, t, x1, x2, vv⟩ v⟩ else ⟨o, t, x1, x2, vv⟩ := rfl
      obtain ⟨⟨ht0, ht1⟩, hcase⟩ := ckStep_cases hcks
      obtain ⟨x, hxe⟩ : ∃ x, mkK ⟨o, t, x1, x2, vv⟩ v = x := ⟨_, rfl⟩
      rw [hxe] at hmk hxb hstep hto
      have HMK := Lib.hid hmk
      have HST := Lib.hid hstep
      have HTO := Lib.hid hto
      clear hd hmk hcks hcase hxe hstep hto
      obtain ⟨tn, rfl⟩ := Int.eq_ofNat_of_zero_le ht0
      simp only [Int.toNat_natCast] at HST
      have htn : tn < n := by omega
      have htl : tn < v.length := by rw [HVL.out]; exact htn
      have HCT := Lib.hid (iv_at (List.getElem?_eq_getElem htl))
      generalize v[tn] = xt at *
      have hblr : (ad.add (k * 5)).block < wr.heap.size := by omega
      clear hown htl hcr hp1 hp2
      go_wp2
      go_region_with (go_at_call 40; (with_reducible refine (HMK.out _ (by go_grown)).mono ?_); rintro e w5 ⟨rfl, hb5⟩; have hbr5 : Below wr.heap.size wr w5 := Below.trans (by go_grown) (hb5.mono (by go_size)); have hS5 : Own w5 wr.heap.size 52 [.int .i64 o, .int .i64 (tn : Nat), .int .i64 x1, .int .i64 x2, .int .i64 vv] := Own.below (Own.drew (Own.new wr _ [_, _, _, _, _])) hb5 (by simp); have q1 : w5.cell? ⟨wr.heap.size, 1, none⟩ = some (.int .i64 tn) := hS5.cell (j := 1) rfl; have hO5 := own_below HOW.out hbr5; have hct5 := (hO5.cellAt tn (by omega)).trans HCT.out; have hfz5 := hO5.frozenAt tn)
      all_goals
        have hst6 : (w5.setCell ⟨h, tn, none⟩ (.int .i64 x)).ownsRow base 3 1 (.slice (some ⟨h, 0, none⟩) n c) n (iv (v.set tn x)) := by
          have := (hO5.stored tn (.int .i64 x)).1
          rwa [iv_set] at this
        have hS6 := hS5.far (p := ⟨h, tn, none⟩) (by show wr.heap.size ≠ h; omega) (.int .i64 x)
        have hcr6 := own_farW (own_below HCR.out hbr5) (p := ⟨h, tn, none⟩) (show h < w.heap.size + 2 by omega) (.int .i64 x)
        have hp61 := (HP1.out.below hbr5 hs1).far (p := ⟨h, tn, none⟩) (by show w.heap.size ≠ h; omega) (.int .i64 x)
        have hp62 := (HP2.out.below hbr5 hs2).far (p := ⟨h, tn, none⟩) (by show w.heap.size + 1 ≠ h; omega) (.int .i64 x)
        have hwr6 := (hwr.andThen (hbr5.mono hsz)).set (p := ⟨h, tn, none⟩) rfl (.int .i64 x)
        have hct6 := (hst6.cellAt tn (by omega)).trans (iv_at (List.getElem?_set_self (by rw [HVL.out]; exact htn)))
        obtain ⟨w6, hw6⟩ : ∃ w6, w6 = w5.setCell ⟨h, tn, none⟩ (.int .i64 x) := ⟨_, rfl⟩
        rw [← hw6] at hst6 hS6 hcr6 hp61 hp62 hwr6 hct6 ⊢
        clear hw6 hS5 q1 hO5 hct5 hfz5 hbr5 hb5
        have hsS := hS6.lt
        have hgs6 := (hst6.lt h rfl).2
        have k0 := hS6.cell (j := 0) rfl
        have k1 := hS6.cell (j := 1) rfl
        have k2 := hS6.cell (j := 2) rfl
        have k3 := hS6.cell (j := 3) rfl
        have k4 := hS6.cell (j := 4) rfl
        have HST6 := Lib.hid hst6
        have HS6 := Lib.hid hS6
        have HCR6 := Lib.hid hcr6
        have HP61 := Lib.hid hp61
        have HP62 := Lib.hid hp62
        clear hst6 hS6 hcr6 hp61 hp62
        by_cases hx1 : x = -1
        · have f1 : (x != -1) = false := by simp [hx1]
          have HTE : Hid (fdS ⟨o, tn, x1, x2, vv⟩ v = ⟨o, tn, x1, x2, vv⟩) := Lib.hid (by rw [HTO.out, if_neg (by omega)])
          have h63 : k + 1 ≤ maxLen := by unfold maxLen; omega
          have hbig : (k + 1) * 40 ≤ 140737488355328 := by omega
          clear hx1
          go_wp2_with (at_builtin; refine wpList_app' rfl (.tmp 37) (.tmp 39) 42 rfl (w.heap.size + 2) 52 5 40 stepk_app (rv cSt r) rfl (own_below HCR6.out (by go_grown)) (cSt ⟨o, tn, x1, x2, vv⟩) rfl rfl (fun h => by cases h) (cellsK_at (by simp) ⟨o, tn, x1, x2, vv⟩ _ rfl _) (cSt_one _) h63 hbig (by simp; omega) ?_; intro A4 c4 w4 hown4 hg4 hb4 hk4)
          have hbX : Below (w.heap.size + 2) w6 w4 := (Below.mono (by go_grown : Below w6.heap.size w6 _) (by omega)).trans hb4
          go_round
          case rel => exact ⟨k + 1, _, _, A4, c4, by omega, by go_num, rfl, HST.out, by rw [HTE.out, rv_append, rv_one]; exact hown4, own_under HST6.out hbX (fun g hg => by have := ob_eq hg; omega), HP61.out.below hbX (by omega), HP62.out.below hbX (by omega), hwr6.andThen (hbX.mono (by omega))⟩
          case measure => (simp [intOf]; omega)
        · have f1 : (x != -1) = true := by simp [hx1]
          have m0 := HS6.out.frozen 0
          have m1 := HS6.out.frozen 1
          have m2 := HS6.out.frozen 2
          have m3 := HS6.out.frozen 3
          have m4 := HS6.out.frozen 4
          have HTE : Hid (fdS ⟨o, tn, x1, x2, vv⟩ v = ⟨1, tn, 0, 0, x⟩) := Lib.hid (by rw [HTO.out, if_pos (by omega)])
          have h63 : k + 1 ≤ maxLen := by unfold maxLen; omega
          have hbig : (k + 1) * 40 ≤ 140737488355328 := by omega
          clear hx1
          go_wp2
          go_region
          have hb67 : Below wr.heap.size w6 ((((((w6.setCell ⟨wr.heap.size, 0, none⟩ (.int .i64 1)).setCell ⟨wr.heap.size, 1, none⟩ (.int .i64 (tn : Nat))).setCell ⟨wr.heap.size, 2, none⟩ (.int .i64 0)).setCell ⟨wr.heap.size, 3, none⟩ (.int .i64 0)).setCell ⟨wr.heap.size, 4, none⟩ (.int .i64 x)).drew) := ((((((Below.refl wr.heap.size w6).setCell (Nat.le_refl _) _).setCell (Nat.le_refl _) _).setCell (Nat.le_refl _) _).setCell (Nat.le_refl _) _).setCell (Nat.le_refl _) _).drew
          have hS7 : Own ((((((w6.setCell ⟨wr.heap.size, 0, none⟩ (.int .i64 1)).setCell ⟨wr.heap.size, 1, none⟩ (.int .i64 (tn : Nat))).setCell ⟨wr.heap.size, 2, none⟩ (.int .i64 0)).setCell ⟨wr.heap.size, 3, none⟩ (.int .i64 0)).setCell ⟨wr.heap.size, 4, none⟩ (.int .i64 x)).drew) wr.heap.size 52 [.int .i64 1, .int .i64 (tn : Nat), .int .i64 0, .int .i64 0, .int .i64 x] := (((((HS6.out.set 0 (.int .i64 1)).set 1 (.int .i64 (tn : Nat))).set 2 (.int .i64 0)).set 3 (.int .i64 0)).set 4 (.int .i64 x)).drew
          obtain ⟨w7, hw7⟩ : ∃ w7, w7 = ((((((w6.setCell ⟨wr.heap.size, 0, none⟩ (.int .i64 1)).setCell ⟨wr.heap.size, 1, none⟩ (.int .i64 (tn : Nat))).setCell ⟨wr.heap.size, 2, none⟩ (.int .i64 0)).setCell ⟨wr.heap.size, 3, none⟩ (.int .i64 0)).setCell ⟨wr.heap.size, 4, none⟩ (.int .i64 x)).drew) := ⟨_, rfl⟩
          rw [← hw7] at hb67 hS7 ⊢
          clear hw7 k0 k1 k2 k3 k4 m0 m1 m2 m3 m4 hct6
          have hsS7 := hS7.lt
          have k0 := hS7.cell (j := 0) rfl
          have k1 := hS7.cell (j := 1) rfl
          have k2 := hS7.cell (j := 2) rfl
          have k3 := hS7.cell (j := 3) rfl
          have k4 := hS7.cell (j := 4) rfl
          have HCR7 := Lib.hid (own_under HCR6.out hb67 (fun g hg => (HCR.out.lt g hg).2))
          have HST7 := Lib.hid (own_under HST6.out hb67 (fun g hg => by have := ob_eq hg; omega))
          have HP71 := Lib.hid (HP61.out.below hb67 hs1)
          have HP72 := Lib.hid (HP62.out.below hb67 hs2)
          have hwr7 := hwr6.andThen (hb67.mono hsz)
          clear hS7
          go_wp2_with (at_builtin; refine wpList_app' rfl (.tmp 37) (.tmp 39) 42 rfl (w.heap.size + 2) 52 5 40 stepk_app (rv cSt r) rfl (own_below HCR7.out (by go_grown)) (cSt ⟨1, tn, 0, 0, x⟩) rfl rfl (fun h => by cases h) (cellsK_at (by simp) ⟨1, tn, 0, 0, x⟩ _ rfl _) (cSt_one _) h63 hbig (by simp; omega) ?_; intro A4 c4 w4 hown4 hg4 hb4 hk4)
          have hbX : Below (w.heap.size + 2) w7 w4 := (Below.mono (by go_grown : Below w7.heap.size w7 _) (by omega)).trans hb4
          go_round
          case rel => exact ⟨k + 1, _, _, A4, c4, by omega, by go_num, rfl, HST.out, by rw [HTE.out, rv_append, rv_one]; exact hown4, own_under HST7.out hbX (fun g hg => by have := ob_eq hg; omega), HP71.out.below hbX (by omega), HP72.out.below hbX (by omega), hwr7.andThen (hbX.mono (by omega))⟩
          case measure => (simp [intOf]; omega)
    · have hkl : k = cl := by omega
      subst hkl
      obtain ⟨hd1, hd2⟩ := HFD.out.done (by rw [HL.out]; exact Nat.le_refl _)
      have hvb := HFD.out.ok
      have HFDD : Hid (∀ (F : World) (te' th' el' : Int), Below w.heap.size wr F → F.ownsRow (w.heap.size + 2) 52 5 (.slice A5 k c5) k (rv cSt r) → fdB ⟨code, te, th, el⟩ a = ⟨fdC code a, te', th', el'⟩ → Fdd n code te th el a h c k base w (.returned (.agg #[.slice A5 k c5, .int .i64 te', .int .i64 th', .int .i64 el'])) F) := Lib.hid fun F te' th' el' hF hrow he =>
        ⟨⟨A5, c5, te', th', el', rfl, he, by rw [hd1]; exact own_rdR hrow HFD.out.len, own_capK hrow, fun ad hA => by subst hA; have := hrow.lt ad.block rfl; omega⟩, by rw [hd2]; exact own_under HOW.out hF (fun g hg => by have := ob_eq hg; omega), hwr.andThen hF⟩
      have HV2 : Hid (bhK code a = v) := Lib.hid hd2
      have HVB := Lib.hid hvb
      have HNE : Hid (a ≠ []) := Lib.hid fun e => by have := HF0.out.ok.1; rw [e] at this; simp at this; omega
      clear hd1 hd2 hvb hcr
      have a0 := hp1.cell (j := 0) rfl
      have a1 := hp1.cell (j := 1) rfl
      have a2 := hp1.cell (j := 2) rfl
      have a3 := hp1.cell (j := 3) rfl
      have g0 := hp1.frozen 0
      have d0 := hp2.frozen 0
      have d1 := hp2.frozen 1
      have d2 := hp2.frozen 2
      have d3 := hp2.frozen 3
      have b0 := hp2.cell (j := 0) rfl
      have b1 := hp2.cell (j := 1) rfl
      have b2 := hp2.cell (j := 2) rfl
      have b3 := hp2.cell (j := 3) rfl
      have HFIN : Hid (∀ te' th' el' : Int, Own (((((wr.setCell ⟨w.heap.size, 0, none⟩ (.slice A5 k c5)).setCell ⟨w.heap.size + 1, 0, none⟩ (.slice A5 k c5)).setCell ⟨w.heap.size + 1, 1, none⟩ (.int .i64 te')).setCell ⟨w.heap.size + 1, 2, none⟩ (.int .i64 th')).setCell ⟨w.heap.size + 1, 3, none⟩ (.int .i64 el')) (w.heap.size + 1) 44 [.slice A5 k c5, .int .i64 te', .int .i64 th', .int .i64 el'] ∧ Below w.heap.size wr (((((wr.setCell ⟨w.heap.size, 0, none⟩ (.slice A5 k c5)).setCell ⟨w.heap.size + 1, 0, none⟩ (.slice A5 k c5)).setCell ⟨w.heap.size + 1, 1, none⟩ (.int .i64 te')).setCell ⟨w.heap.size + 1, 2, none⟩ (.int .i64 th')).setCell ⟨w.heap.size + 1, 3, none⟩ (.int .i64 el')) ∧ (((((wr.setCell ⟨w.heap.size, 0, none⟩ (.slice A5 k c5)).setCell ⟨w.heap.size + 1, 0, none⟩ (.slice A5 k c5)).setCell ⟨w.heap.size + 1, 1, none⟩ (.int .i64 te')).setCell ⟨w.heap.size + 1, 2, none⟩ (.int .i64 th')).setCell ⟨w.heap.size + 1, 3, none⟩ (.int .i64 el')).ownsRow (w.heap.size + 2) 52 5 (.slice A5 k c5) k (rv cSt r)) := Lib.hid fun te' th' el' => by
        refine ⟨?_, ?_, ?_⟩
        · exact (((((HP2.out.far (p := ⟨w.heap.size, 0, none⟩) (by simp) (.slice A5 k c5)).set 0 (.slice A5 k c5)).set 1 (.int .i64 te')).set 2 (.int .i64 th')).set 3 (.int .i64 el'))
        · exact (((((Below.refl w.heap.size wr).setCell (by simp) _).setCell (by simp) _).setCell (by simp) _).setCell (by simp) _).setCell (by simp) _
        · exact own_farW (own_farW (own_farW (own_farW (own_farW HCR.out (by simp) _) (by simp) _) (by simp) _) (by simp) _) (by simp) _
      clear hp1 hp2
      rcases HTE.out with hte | hte
      · have HQ : Hid (fdB ⟨code, te, th, el⟩ a = ⟨fdC code a, te, th, el⟩) := Lib.hid (by unfold fdB; rw [if_neg HNE.out, if_neg (fun h => by simp only [] at h; omega)])
        have f1 : (te == -1) = true := by simp [hte]
        clear hte
        go_wp2
        try simp only [Exit.inBlock, Exit.then]
        exact bodyPost_ret (v := .agg #[.slice A5 k c5, .int .i64 te, .int .i64 th, .int .i64 el]) (results_cell_row rfl _ _ (w.heap.size + 1) 44 _ _ _ rfl (HFIN.out te th el).1 Try.underlying44 rfl (by kernel_rfl)) rfl (HFDD.out _ te th el (HFIN.out te th el).2.1 (HFIN.out te th el).2.2 HQ.out)
      · obtain ⟨tn, rfl⟩ := Int.eq_ofNat_of_zero_le hte.1
        have htn : tn < n := by omega
        have htl : tn < v.length := by rw [HVL.out]; exact htn
        obtain ⟨x, hx'⟩ : ∃ x, v[tn]? = some x := ⟨_, List.getElem?_eq_getElem htl⟩
        have hct := (hown.cellAt tn (by omega)).trans (iv_at hx')
        have hxb := HVB.out.2 _ _ hx'
        have hgx : (bhK code a).getD ((tn : Int)).toNat 0 = x := by rw [HV2.out, Int.toNat_natCast]; exact getD_at hx'
        have f1 : ((tn : Int) == -1) = false := by simp
        have HGX := Lib.hid hgx
        clear hte hx' htl hgx hown
        by_cases hx1 : x = -1
        · have HQ : Hid (fdB ⟨code, (tn : Int), th, el⟩ a = ⟨fdC code a, (tn : Int), th, el⟩) := Lib.hid (by unfold fdB; rw [if_neg HNE.out, if_neg (fun h => by simp only [HGX.out] at h; omega)])
          have f2 : (x == -1) = true := by simp [hx1]
          clear hx1
          go_wp2
          try simp only [Exit.inBlock, Exit.then]
          exact bodyPost_ret (v := .agg #[.slice A5 k c5, .int .i64 (tn : Nat), .int .i64 th, .int .i64 el]) (results_cell_row rfl _ _ (w.heap.size + 1) 44 _ _ _ rfl (HFIN.out tn th el).1 Try.underlying44 rfl (by kernel_rfl)) rfl (HFDD.out _ tn th el (HFIN.out tn th el).2.1 (HFIN.out tn th el).2.2 HQ.out)
        · have f2 : (x == -1) = false := by simp [hx1]
          by_cases hx0 : x = 0
          · have HQ : Hid (fdB ⟨code, (tn : Int), th, el⟩ a = ⟨fdC code a, -1, el, 0⟩) := Lib.hid (by
              unfold fdB
              rw [if_neg HNE.out, if_pos (by simp only [HGX.out]; omega)]
              have : goK ⟨code, (tn : Int), th, el⟩ (bhK code a) = [el] := by
                unfold goK
                simp only [HGX.out]
                rw [if_neg (by omega), if_neg (by omega), if_pos hx0]
              simp only [this, List.getD_cons_zero])
            have f3 : (x == 0) = true := by simp [hx0]
            clear hx1 hx0
            go_wp2
            try simp only [Exit.inBlock, Exit.then]
            exact bodyPost_ret (v := .agg #[.slice A5 k c5, .int .i64 (-1), .int .i64 el, .int .i64 0]) (results_cell_row rfl _ _ (w.heap.size + 1) 44 _ _ _ rfl (HFIN.out (-1) el 0).1 Try.underlying44 rfl (by kernel_rfl)) rfl (HFDD.out _ (-1) el 0 (HFIN.out (-1) el 0).2.1 (HFIN.out (-1) el 0).2.2 HQ.out)
          · have HQ : Hid (fdB ⟨code, (tn : Int), th, el⟩ a = ⟨fdC code a, -1, th, 0⟩) := Lib.hid (by
              unfold fdB
              rw [if_neg HNE.out, if_pos (by simp only [HGX.out]; omega)]
              have : goK ⟨code, (tn : Int), th, el⟩ (bhK code a) = [th] := by
                unfold goK
                simp only [HGX.out]
                rw [if_neg (by omega), if_pos (by omega)]
              simp only [this, List.getD_cons_zero])
            have f3 : (x == 0) = false := by simp [hx0]
            clear hx1 hx0
            go_wp2
            try simp only [Exit.inBlock, Exit.then]
            exact bodyPost_ret (v := .agg #[.slice A5 k c5, .int .i64 (-1), .int .i64 th, .int .i64 0]) (results_cell_row rfl _ _ (w.heap.size + 1) 44 _ _ _ rfl (HFIN.out (-1) th 0).1 Try.underlying44 rfl (by kernel_rfl)) rfl (HFDD.out _ (-1) th 0 (HFIN.out (-1) th 0).2.1 (HFIN.out (-1) th 0).2.2 HQ.out)

end Go.Proofs.Ytdckagledddkdaa
