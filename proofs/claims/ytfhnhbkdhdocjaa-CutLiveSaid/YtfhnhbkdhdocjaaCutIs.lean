/-
  What package cut's functions do (T1, T2): their contracts in one word; codemasonlaw.cutCode.
-/
import Derived.Test.YtfhnhbkdhdocjaaLawLive
import Derived.Test.YtfhnhbkdhdocjaaMRuleR
import Derived.Test.YtfhnhbkdhdocjaaMCut
import Derived.Test.YtfhnhbkdhdocjaaMarks
import Derived.Test.YtfhnhbkdhdocjaaMBlkR
namespace Go.Proofs.Ytfhnhbkdhdocjaa
open Go.RowKit
set_option linter.unusedSimpArgs false
set_option linter.unusedVariables false
set_option maxRecDepth 100000

/-- T1, T2: the code; T: from all that is reached one comes to an end -/
def ckCut (vars : Int) (p : List Bk) (want : Nat) (T : Bool) : Int := if ckWant vars p want = 0 then (if T = true then 0 else 5) else ckWant vars p want

theorem ckCut_ok {vars : Int} {p : List Bk} {want : Nat} {T : Bool} (h : ckCut vars p want T = 0) : T = true ∧ ∃ n : Nat, vars = (n : Int) ∧ 1 ≤ n ∧ n ≤ 6 ∧ ckProg n p = 0 ∧ want < 2 ^ n := by
  unfold ckCut at h
  split at h
  · rename_i h1
    split at h
    · rename_i h2
      exact ⟨h2, ckWant_ok h1⟩
    · cases h
  · rename_i h1; exact absurd h h1

/-- T1: marks told -/
structure NdW (p : List Bk) (want : Nat) (ms : List (List Bool)) (t : Nat) : Prop where
  sl : ms.length = p.length
  rl : ∀ (i : Nat) (b : Bk) (r : List Bool), p[i]? = some b → ms[i]? = some r → r.length = b.code.length
  lt : t < 4294967296
  nd : Ndd p want (mkS ms) (mkT t)

theorem NdS.w {p : List Bk} {want t : Nat} {ms : List (List Bool)} (h : NdS p want ms t) (h8 : p.length ≤ 8) (hn : Ndd p want (mkS ms) (mkT t)) : NdW p want ms t := ⟨h.sl, h.rl, by have := h.t8 h8; omega, hn⟩

/-- told alike: the same -/
theorem NdW.one {p : List Bk} {want t1 t2 : Nat} {m1 m2 : List (List Bool)} (h1 : NdW p want m1 t1) (h2 : NdW p want m2 t2) : m1 = m2 ∧ t1 = t2 := by
  obtain ⟨hs, ht⟩ := h1.nd.same h2.nd
  constructor
  · apply List.ext_getElem?
    intro i
    rcases Nat.lt_or_ge i p.length with hi | hi
    · have hb := List.getElem?_eq_getElem hi
      obtain ⟨r1, e1⟩ : ∃ r, m1[i]? = some r := ⟨_, List.getElem?_eq_getElem (by rw [h1.sl]; exact hi)⟩
      obtain ⟨r2, e2⟩ : ∃ r, m2[i]? = some r := ⟨_, List.getElem?_eq_getElem (by rw [h2.sl]; exact hi)⟩
      have l1 := h1.rl i _ r1 hb e1
      have l2 := h2.rl i _ r2 hb e2
      rw [e1, e2]
      congr 1
      apply List.ext_getElem?
      intro k
      rcases Nat.lt_or_ge k r1.length with hk | hk
      · have hk2 : k < r2.length := by omega
        have := hs i k
        unfold mkS at this
        rw [show m1.getD i [] = r1 by rw [List.getD_eq_getElem?_getD, e1]; rfl, show m2.getD i [] = r2 by rw [List.getD_eq_getElem?_getD, e2]; rfl, List.getD_eq_getElem?_getD, List.getD_eq_getElem?_getD, List.getElem?_eq_getElem hk, List.getElem?_eq_getElem hk2, Option.getD_some, Option.getD_some] at this
        rw [List.getElem?_eq_getElem hk, List.getElem?_eq_getElem hk2, Bool.eq_iff_iff.2 this]
      · rw [List.getElem?_eq_none hk, List.getElem?_eq_none (by omega)]
    · rw [List.getElem?_eq_none (by rw [h1.sl]; exact hi), List.getElem?_eq_none (by rw [h2.sl]; exact hi)]
  · apply Nat.eq_of_testBit_eq
    intro i
    exact Bool.eq_iff_iff.2 (ht i)

structure CutIs : Prop where
  needs : ∀ (n want : Nat) (A : Option Addr) (len cap : Nat) (p : List Bk) (w : World), RdP w w.heap.size A p → p.length = len → ckProg n p = 0 → want < 2 ^ n → StopsP (nxP p) →
    Calls Try.prog 40 #[.int .i64 n, .slice A len cap, .int .u32 (want : Nat)] w fun e w' => ∃ (A' : Option Addr) (c' t : Nat) (ms : List (List Bool)), e = .returned (.tuple #[.slice A' len c', .int .u32 (t : Nat), .int .i64 0]) ∧ NdW p want ms t ∧ RdM2 w' w'.heap.size A' ms ∧ Below w.heap.size w w'
  needsBad : ∀ (vars : Int) (want : Nat) (A : Option Addr) (len cap : Nat) (p : List Bk) (T : Bool) (w : World), RdP w w.heap.size A p → p.length = len → len ≤ maxLen → (∀ b ∈ p, InBk b) → want < 4294967296 → (T = true ↔ StopsP (nxP p)) → ckCut vars p want T ≠ 0 →
    Calls Try.prog 40 #[.int .i64 vars, .slice A len cap, .int .u32 (want : Nat)] w fun e w' => ∃ A' c', e = .returned (.tuple #[.slice A' 0 c', .int .u32 0, .int .i64 (ckCut vars p want T)]) ∧ Below w.heap.size w w'
  slice : ∀ (n want : Nat) (A : Option Addr) (len cap : Nat) (p : List Bk) (w : World), RdP w w.heap.size A p → p.length = len → ckProg n p = 0 → want < 2 ^ n → StopsP (nxP p) →
    Calls Try.prog 43 #[.int .i64 n, .slice A len cap, .int .u32 (want : Nat)] w fun e w' => ∃ (A' : Option Addr) (c' : Nat) (q : List Bk) (MS : Nat → Nat → Prop) (MT : Nat → Prop), e = .returned (.tuple #[.slice A' len c', .int .i64 0]) ∧ Ndd p want MS MT ∧ SlP p MS MT q ∧ RdP w' w'.heap.size A' q ∧ Below w.heap.size w w'
  sliceBad : ∀ (vars : Int) (want : Nat) (A : Option Addr) (len cap : Nat) (p : List Bk) (T : Bool) (w : World), RdP w w.heap.size A p → p.length = len → len ≤ maxLen → (∀ b ∈ p, InBk b) → want < 4294967296 → (T = true ↔ StopsP (nxP p)) → ckCut vars p want T ≠ 0 →
    Calls Try.prog 43 #[.int .i64 vars, .slice A len cap, .int .u32 (want : Nat)] w fun e w' => ∃ A' c', e = .returned (.tuple #[.slice A' 0 c', .int .i64 (ckCut vars p want T)]) ∧ Below w.heap.size w w'

/-- what is told, once it is written down twice -/
theorem slP_same {p q1 q2 : List Bk} {want : Nat} {MS MS' : Nat → Nat → Prop} {MT MT' : Nat → Prop} (h1 : Ndd p want MS MT) (h2 : Ndd p want MS' MT') (s1 : SlP p MS MT q1) (s2 : SlP p MS' MT' q2) : q1 = q2 := by
  obtain ⟨e1, e2⟩ := h1.same h2
  have e3 : MS = MS' := by funext i k; exact propext (e1 i k)
  have e4 : MT = MT' := by funext i; exact propext (e2 i)
  subst e3 e4
  exact s1.one s2

set_option maxHeartbeats 2000000 in
theorem cutCode_any (vars : Int) (want : Nat) (A : Option Addr) (len cap : Nat) (p : List Bk) (T : Bool) (w : World) (hx : RdP w w.heap.size A p) (hl : p.length = len) (hm : len ≤ maxLen) (hin : ∀ b ∈ p, InBk b) (hw : want < 4294967296) (hT : T = true ↔ StopsP (nxP p)) :
    Calls Try.prog 41 #[.int .i64 vars, .slice A len cap, .int .u32 (want : Nat)] w fun e w' => e = .returned (.int .i64 (ckCut vars p want T)) ∧ Below w.heap.size w w' := by
  have HP := Lib.hid (wantCode_any vars want A len cap p w hx hl hm hin hw)
  by_cases h1 : ckWant vars p want = 0
  · obtain ⟨n, rfl, hn1, hn6, hc1, hc2⟩ := ckWant_ok h1
    obtain ⟨_, _, b3, b4, _⟩ := ckProg_bd hc1
    rw [hl] at b3 b4
    have HNX := Lib.hid (fun (Z : World) (hZ : Below w.heap.size w Z) => refNexts_any A len cap p Z ((RdP.below hx hZ (Nat.le_refl _)).more hZ.size) hl b4)
    have HNL : Hid ((nxP p).length = len) := Lib.hid (by unfold nxP; rw [List.length_map]; exact hl)
    have HWAY := Lib.hid (nxP_way hc1)
    have HSC := Lib.hid (fun (NA : Option Addr) (nc : Nat) (Z : World) (hg : RdG Z Z.heap.size NA (nxP p)) => refStops_any T NA len nc (nxP p) Z hT hg HNL.out HWAY.out)
    have HCC : Hid (ckCut n p want T = if T = true then 0 else 5) := Lib.hid (by unfold ckCut; rw [if_pos h1])
    rw [HCC.out]
    rw [h1] at HP
    clear h1 hx hin hc1 hl hT
    cases T with
    | true =>
      go_enter Try.func41, Try.ntmps41
      go_wp2_with (first
        | (go_at_call 18; (with_reducible refine HP.out.mono ?_); rintro e w1 ⟨rfl, hb1⟩)
        | (go_at_call 50; (with_reducible refine (HNX.out _ hb1).mono ?_); rintro e w2 ⟨NA, nc, rfl, hrg, hb2⟩)
        | (go_at_call 72; (with_reducible refine (HSC.out NA nc _ hrg).mono ?_); rintro e w3 ⟨rfl, hb3⟩))
      go_ret
      exact ⟨rfl, below_via (below_via hb1 hb2) hb3⟩
    | false =>
      go_enter Try.func41, Try.ntmps41
      go_wp2_with (first
        | (go_at_call 18; (with_reducible refine HP.out.mono ?_); rintro e w1 ⟨rfl, hb1⟩)
        | (go_at_call 50; (with_reducible refine (HNX.out _ hb1).mono ?_); rintro e w2 ⟨NA, nc, rfl, hrg, hb2⟩)
        | (go_at_call 72; (with_reducible refine (HSC.out NA nc _ hrg).mono ?_); rintro e w3 ⟨rfl, hb3⟩))
      go_ret
      exact ⟨rfl, below_via (below_via hb1 hb2) hb3⟩
  · have HCC : Hid (ckCut vars p want T = ckWant vars p want) := Lib.hid (by unfold ckCut; rw [if_neg h1])
    rw [HCC.out]
    have e1 : (ckWant vars p want == 0) = false := by simp [h1]
    obtain ⟨c, hce⟩ : ∃ c, ckWant vars p want = c := ⟨_, rfl⟩
    rw [hce] at HP e1 ⊢
    clear h1 hx hin hce
    go_enter Try.func41, Try.ntmps41
    go_wp2_with (go_at_call 18; (with_reducible refine HP.out.mono ?_); rintro e w1 ⟨rfl, hb1⟩)
    go_ret
    exact ⟨rfl, hb1⟩

end Go.Proofs.Ytfhnhbkdhdocjaa
