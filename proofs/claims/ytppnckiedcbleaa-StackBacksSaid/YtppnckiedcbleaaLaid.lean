/-
  codemasonref.Laid: the stack code of a tree (C2).
-/
import Derived.Test.YtppnckiedcbleaaSo
import Derived.Test.YtppnckiedcbleaaTree2
import Derived.Deep.RegionHeld3
namespace Go.Proofs.Ytppnckiedcbleaa
open Go.RowKit
set_option linter.unusedSimpArgs false
set_option linter.unusedVariables false
set_option maxRecDepth 100000

theorem so_app : AppTy Try.prog 66 77 2 16 := appTy_of (z := .agg #[.int .i64 0, .int .i64 0]) Try.underlying66 (by kernel_rfl) rfl (by omega)

theorem tree_ne {vars : Int} {l : List Tm} (hc : ckTerms vars l = 0) (ht : treeL l) {i : Nat} {t : Tm} (h : l[i]? = some t) (ho : 3 ≤ t.op) : t.a ≠ t.b := by
  intro e
  have hcs := ckTerm_cases (ckTerms_at hc h)
  have hi := (List.getElem?_eq_some_iff.1 h).1
  have hu := ht t.a.toNat (by omega)
  have hs : l = l.take i ++ ([t] ++ l.drop (i + 1)) := by
    have h1 := List.take_append_drop i l
    rw [drop_at h] at h1
    simpa using h1.symm
  rw [hs, usedN_append, usedN_append] at hu
  simp only [usedN, if_pos ho] at hu
  rw [if_pos (by omega), if_pos (by omega)] at hu
  omega

/-- a code laid -/
def Laid (n : Nat) (cs : List So) (w : World) (e : Ending) (w' : World) : Prop :=
  ∃ A' c', e = .returned (.slice A' n c') ∧ w'.ownsRow w.heap.size 77 2 (.slice A' n c') n (rv cSo cs) ∧ Below w.heap.size w w'

theorem lit_news {Z : World} {g : Nat} {o : Int} (h0 : Z.cell? ⟨g, 0, none⟩ = some (.int .i64 o)) (h1 : Z.cell? ⟨g, 1, none⟩ = some (.int .i64 0)) : ∀ ad, some (⟨g, 0, none⟩ : Addr) = some ad → ∀ j u, (cSo ⟨o, 0⟩)[j]? = some u → Z.cell? (ad.add j) = some u := by
  intro ad h j u hu
  injection h with h
  subst h
  have hj : j < 2 := (List.getElem?_eq_some_iff.1 hu).1
  have hc : j = 0 ∨ j = 1 := by omega
  rcases hc with rfl | rfl
  · simp [cSo] at hu; subst hu; exact h0
  · simp [cSo] at hu; subst hu; exact h1

theorem ne_own {w : World} {base g : Nat} {e : TypeId} {size : Nat} {v : Value} {n : Nat} {xs : List Value} (h : w.ownsRow base e size v n xs) (hg : g < base) : some g ≠ v.ownBlock := fun he => by
  have := (h.lt g he.symm).1
  omega

theorem own_ne2 {w : World} {base g : Nat} {e : TypeId} {size : Nat} {v : Value} {n : Nat} {xs : List Value} (h : w.ownsRow base e size v n xs) (hg : w.heap.size ≤ g) : some g ≠ v.ownBlock := fun he => by
  have := (h.lt g he.symm).2
  omega

set_option maxHeartbeats 4000000 in
theorem refLaid_any (vars : Int) (lA : Option Addr) (lcap : Nat) (l : List Tm) (hc : ckTerms vars l = 0) (ht : treeL l) : ∀ i, i < l.length → ∀ (n : Nat) (w : World), RdT w w.heap.size lA l → (ldA l i).length = n → n ≤ 65536 →
    Calls Try.prog 52 #[.slice lA l.length lcap, .int .i64 (i : Nat)] w fun e w' => Laid n (ldA l i) w e w' := by
  refine tm_ind hc (fun i t h ho => ?_) fun i t h ho h1 h2 h3 h4 => ?_
  · intro n w hx hn hn2
    have hi := (List.getElem?_eq_some_iff.1 h).1
    obtain ⟨ad, o, a, b, v, rfl, hbl, hd, hc0, hc1, hc2, hc3⟩ := hx.at_ (k := i) hi
    rw [h] at hd
    injection hd with hd
    subst hd
    have hE := ldA_at hc h
    rw [if_pos ho] at hE
    have hn1 : n = 1 := by rw [← hn, hE]; rfl
    subst hn1
    rw [hE]
    simp only [] at ho ⊢
    clear h hx hn hc hE ht
    generalize l.length = len at *
    go_enter Try.func52, Try.ntmps52
    go_wp2
    go_ret
    refine ⟨some ⟨w.heap.size + 1, 0, none⟩, 1, rfl, ⟨rfl, .inr ⟨w.heap.size + 1, 1, #[.int .i64 o, .int .i64 v], rfl, by omega, ?_, Nat.le_refl _, by simp [maxLen], rfl, rfl⟩⟩, by go_grown⟩
    have hz : w.heap.size + 1 = (w.alloc (.cells #[.int .i64 o, .int .i64 a, .int .i64 b, .int .i64 v] 37)).heap.size := by simp
    rw [hz]
    exact heap_alloc_new _ _
  · intro n w hx hn hn2
    have hi := (List.getElem?_eq_some_iff.1 h).1
    obtain ⟨ad, o, a, b, v, rfl, hbl, hd, hc0, hc1, hc2, hc3⟩ := hx.at_ (k := i) hi
    rw [h] at hd
    injection hd with hd
    subst hd
    have hne := tree_ne hc ht h ho
    have hE := ldA_at hc h
    rw [if_neg (by omega)] at hE
    have hcs := ckTerm_cases (ckTerms_at hc h)
    simp only [] at ho h1 h2 h3 h4 hcs hE hne
    obtain ⟨ha0, ha1, hb0, hb1⟩ : 0 ≤ a ∧ a < i ∧ 0 ≤ b ∧ b < i := by omega
    obtain ⟨an, rfl⟩ := Int.eq_ofNat_of_zero_le ha0
    obtain ⟨bn, rfl⟩ := Int.eq_ofNat_of_zero_le hb0
    simp only [Int.toNat_natCast] at h1 h2 h3 h4 hE
    obtain ⟨ma, hma⟩ : ∃ k, (ldA l an).length = k := ⟨_, rfl⟩
    obtain ⟨mb, hmb⟩ : ∃ k, (ldA l bn).length = k := ⟨_, rfl⟩
    have hmm : n = ma + mb + 1 := by rw [← hn, hE, List.length_append, List.length_append, hma, hmb]; rfl
    subst hmm
    have HMA := Lib.hid hma
    have HMB := Lib.hid hmb
    have HE := Lib.hid hE
    have H3 := Lib.hid h3
    have H4 := Lib.hid h4
    have HX := Lib.hid hx
    have ha1 : ma + mb ≤ maxLen := by unfold maxLen; omega
    have ha2 : (ma + mb) * 16 ≤ 140737488355328 := by omega
    have ha3 : ma + mb + 1 ≤ maxLen := by unfold maxLen; omega
    have ha4 : (ma + mb + 1) * 16 ≤ 140737488355328 := by omega
    clear h hx hn hc hE ht hma hmb hcs h3 h4
    generalize l.length = len at *
    go_enter Try.func52, Try.ntmps52
    go_wp2
    have d0 : (w.alloc (.cells #[.int .i64 o, .int .i64 an, .int .i64 bn, .int .i64 v] 37)).cell? ⟨w.heap.size, 0, none⟩ = some (.int .i64 o) := by simp
    have d1 : (w.alloc (.cells #[.int .i64 o, .int .i64 an, .int .i64 bn, .int .i64 v] 37)).cell? ⟨w.heap.size, 1, none⟩ = some (.int .i64 an) := by simp
    have d2 : (w.alloc (.cells #[.int .i64 o, .int .i64 an, .int .i64 bn, .int .i64 v] 37)).cell? ⟨w.heap.size, 2, none⟩ = some (.int .i64 bn) := by simp
    have hbo : Below w.heap.size w (w.alloc (.cells #[.int .i64 o, .int .i64 an, .int .i64 bn, .int .i64 v] 37)) := by go_grown
    have hso : w.heap.size < (w.alloc (.cells #[.int .i64 o, .int .i64 an, .int .i64 bn, .int .i64 v] 37)).heap.size := by simp
    generalize w.alloc (.cells #[.int .i64 o, .int .i64 an, .int .i64 bn, .int .i64 v] 37) = wo at *
    have HX1 := Lib.hid ((HX.out.below hbo (Nat.le_refl _)).more hbo.size)
    have HK : ∀ Z : World, Below wo.heap.size wo Z → Z.cell? ⟨w.heap.size, 0, none⟩ = some (.int .i64 o) ∧ Z.cell? ⟨w.heap.size, 1, none⟩ = some (.int .i64 an) ∧ Z.cell? ⟨w.heap.size, 2, none⟩ = some (.int .i64 bn) :=
      fun Z hZ => ⟨(hZ.cell hso).trans d0, (hZ.cell hso).trans d1, (hZ.cell hso).trans d2⟩
    have HKK := Lib.hid HK
    have HRA : ∀ Z : World, Below wo.heap.size wo Z → RdT Z Z.heap.size (some ad) l := fun Z hZ => (HX1.out.below hZ (Nat.le_refl _)).more hZ.size
    have HRR := Lib.hid HRA
    clear HK HRA d0 d1 d2 hc0 hc1 hc2 hc3
    have HL : Hid (∀ Z : World, (Z.alloc (.cells #[.int .i64 o, .int .i64 0] 77)).cell? ⟨Z.heap.size, 0, none⟩ = some (.int .i64 o) ∧ (Z.alloc (.cells #[.int .i64 o, .int .i64 0] 77)).cell? ⟨Z.heap.size, 1, none⟩ = some (.int .i64 0) ∧ Z.heap.size < (Z.alloc (.cells #[.int .i64 o, .int .i64 0] 77)).heap.size) := Lib.hid fun Z => ⟨by simp, by simp, by simp⟩
    go_region_held3 (fun w' => w'.cell? ⟨w.heap.size, 0, none⟩ = some (.int .i64 o) ∧ w'.cell? ⟨w.heap.size, 1, none⟩ = some (.int .i64 an) ∧ w'.cell? ⟨w.heap.size, 2, none⟩ = some (.int .i64 bn))
      (exact HKK.out _ (by go_grown))
      (first
        | (go_at_call 52; (with_reducible refine (H3.out ma _ (HRR.out _ (by go_grown)) HMA.out (by omega)).mono ?_); rintro e w2 ⟨A1, c1, rfl, hown1, hb1⟩; have hbA : Below wo.heap.size wo w2 := below_via (by go_grown) hb1; have hsA := hbA.size; have hownA := own_mono hown1 (show wo.heap.size ≤ _ from (by go_grown : Below wo.heap.size wo _).size)
           try (have l0 := lit_below (U := (wo.alloc (.cells #[.int .i64 o, .int .i64 0] 77)).drew) (HL.out wo).1 hb1; have l1 := lit_below (U := (wo.alloc (.cells #[.int .i64 o, .int .i64 0] 77)).drew) (HL.out wo).2.1 hb1; have l2 := ne_own (base := ((wo.alloc (.cells #[.int .i64 o, .int .i64 0] 77)).drew).heap.size) hown1 (HL.out wo).2.2))
        | (go_at_call 52; (with_reducible refine (H4.out mb _ (HRR.out _ (by go_grown)) HMB.out (by omega)).mono ?_); rintro e w3 ⟨A2, c2, rfl, hown2, hb2⟩; have hbB : Below wo.heap.size wo w3 := below_via (by go_grown) hb2; have hsB := hbB.size; have hownA2 := own_below (own_below hownA (by go_grown)) hb2; have hrB := own_rdR hown2 HMB.out
           first
             | (have m0 := lit_below l0 hb2; have m1 := lit_below l1 hb2; have m2 := l2)
             | (have m0 := lit_below (U := w2.alloc (.cells #[.int .i64 o, .int .i64 0] 77)) (HL.out w2).1 hb2; have m1 := lit_below (U := w2.alloc (.cells #[.int .i64 o, .int .i64 0] 77)) (HL.out w2).2.1 hb2; have m2 := own_ne2 (g := w2.heap.size) hownA (Nat.le_refl _))
             | skip)
        | (refine step_app_any rfl (.tmp 22) (.tmp 26) 66 rfl wo.heap.size 77 2 16 so_app (rv cSo (ldA l an)) rfl (own_below hownA2 (by go_grown)) (rv cSo (ldA l bn)) rfl (by rw [rv_len cSo_len, HMB.out]) (fun h => by have := hrB.nil (by omega) h; rw [HMB.out] at this; exact this) (RdR.news cSo_len (RdR.below hrB (by go_grown : Below w3.heap.size w3 _) (Nat.le_refl _))) (rv_all cSo_one _) ha1 ha2 (show Below wo.heap.size wo _ by go_grown).size ?_; intro A3 c3 w4 hown3 hg3 hb3; have hbC : Below wo.heap.size wo w4 := Below.trans (by go_grown) hb3; have hsC := hbC.size
           first
             | (have n0 := hg3.cell m0 m2; have n1 := hg3.cell m1 m2)
             | (have n0 := World.grownBy.cell (w := w3.alloc (.cells #[.int .i64 o, .int .i64 0] 77)) hg3 (HL.out w3).1 (own_ne2 hownA2 (Nat.le_refl _)); have n1 := World.grownBy.cell (w := w3.alloc (.cells #[.int .i64 o, .int .i64 0] 77)) hg3 (HL.out w3).2.1 (own_ne2 hownA2 (Nat.le_refl _)))
             | skip)
        | (refine step_app_any rfl (.tmp 27) (.tmp 31) 66 rfl wo.heap.size 77 2 16 so_app _ rfl (own_below hown3 (by go_grown)) (cSo ⟨o, 0⟩) rfl rfl (fun h => by cases h) (lit_news n0 n1) (cSo_one _) ha3 ha4 (show Below wo.heap.size wo _ by go_grown).size ?_; intro A5 c5 w5 hown5 hg5 hb5; have hbD : Below wo.heap.size wo w5 := Below.trans (by go_grown) hb5)
        | (refine step_app_any rfl (.tmp 27) (.tmp 31) 66 rfl wo.heap.size 77 2 16 so_app _ rfl (own_below hown3 (by go_grown)) (cSo ⟨o, 0⟩) rfl rfl (fun h => by cases h) (lit_news (HL.out w4).1 (HL.out w4).2.1) (cSo_one _) ha3 ha4 (show Below wo.heap.size wo _ by go_grown).size ?_; intro A5 c5 w5 hown5 hg5 hb5; have hbD : Below wo.heap.size wo w5 := Below.trans (by go_grown) hb5))
    all_goals
      go_wp2
      go_ret
      refine ⟨A5, c5, rfl, ?_, hbo.trans (hbD.mono hbo.size)⟩
      rw [HE.out, rv_append, rv_append, rv_one]
      exact own_mono hown5 hbo.size

end Go.Proofs.Ytppnckiedcbleaa
