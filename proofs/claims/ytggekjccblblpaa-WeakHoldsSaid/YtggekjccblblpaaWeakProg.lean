/-
  Package weak (S1): program, check; codemasonlaw.codeCode.
-/
import Derived.Test.YtggekjccblblpaaPureWeak
import Derived.Test.YtggekjccblblpaaMTerm
import Derived.Test.YtggekjccblblpaaBlockRef
import Derived.Test.YtggekjccblblpaaMBlock
namespace Go.Proofs.Ytggekjccblblpaa
open Go.RowKit
set_option linter.unusedSimpArgs false
set_option linter.unusedVariables false
set_option maxRecDepth 100000

theorem rdP_one {X w' : World} {A : Option Addr} {len cap G : Nat} {code : List St} (hG : Own w' G 64 [.slice A len cap, .int .i64 (-1), .int .i64 (-1), .int .i64 0]) (hx : RdS w' w'.heap.size A code) (hl : code.length = len) (hcap : len ≤ cap) : RdP w' w'.heap.size (some ⟨G, 0, none⟩) [bkS code] := fun _ => by
  refine ⟨⟨G, 0, none⟩, rfl, hG.lt, fun k b hk => ?_⟩
  have hk0 : k = 0 := by have := (List.getElem?_eq_some_iff.1 hk).1; simpa using this
  subst hk0
  simp at hk
  subst hk
  have ha : (⟨G, 0, none⟩ : Addr).add (0 * 4) = ⟨G, 0, none⟩ := by unfold Addr.add; simp
  rw [ha]
  exact ⟨A, cap, hx, by rw [show (bkS code).code.length = len from hl]; exact hG.cell (j := 0) rfl, hG.cell (j := 1) rfl, hG.cell (j := 2) rfl, hG.cell (j := 3) rfl, by rw [show (bkS code).code.length = len from hl]; exact hcap⟩

theorem inBk_one {code : List St} (h : code.length * 40 ≤ 140737488351232) : ∀ b ∈ [bkS code], InBk b := fun b hb => by
  rw [List.mem_singleton.1 hb]
  exact ⟨h, by unfold inI bkS; simp, by unfold inI bkS; simp, by unfold inI bkS; simp⟩

set_option maxHeartbeats 2000000 in
theorem program_any (A : Option Addr) (len cap : Nat) (code : List St) (w : World) (hx : RdS w w.heap.size A code) (hl : code.length = len) (hcap : len ≤ cap) :
    Calls Try.prog 22 #[.slice A len cap] w fun e w' => ∃ G, e = .returned (.slice (some ⟨G, 0, none⟩) 1 1) ∧ RdP w' w'.heap.size (some ⟨G, 0, none⟩) [bkS code] ∧ Below w.heap.size w w' := by
  have HP : Hid (RdP (w.alloc (.cells #[.slice A len cap, .int .i64 (-1), .int .i64 (-1), .int .i64 0] 64)) (w.heap.size + 1) (some ⟨w.heap.size, 0, none⟩) [bkS code]) := Lib.hid (by
    have h := rdP_one (X := w) (Own.new w 64 [.slice A len cap, .int .i64 (-1), .int .i64 (-1), .int .i64 0]) ((RdS.below hx (by go_grown : Below w.heap.size w _) (Nat.le_refl _)).more (by simp)) hl hcap
    simpa using h)
  clear hx hl
  go_enter Try.func22, Try.ntmps22
  go_wp2
  go_ret
  exact ⟨w.heap.size, rfl, by simpa using HP.out, by go_grown⟩

set_option maxHeartbeats 2000000 in
theorem codeCode_any (vars : Int) (A : Option Addr) (len cap : Nat) (code : List St) (w : World) (hx : RdS w w.heap.size A code) (hl : code.length = len) (hcap : len ≤ cap) (hm : len * 40 ≤ 140737488351232) :
    Calls Try.prog 8 #[.int .i64 vars, .slice A len cap] w fun e w' => e = .returned (.int .i64 (ckProg vars [bkS code])) ∧ Below w.heap.size w w' := by
  have HP : Hid (RdP (w.alloc (.cells #[.slice A len cap, .int .i64 (-1), .int .i64 (-1), .int .i64 0] 64)) (w.alloc (.cells #[.slice A len cap, .int .i64 (-1), .int .i64 (-1), .int .i64 0] 64)).heap.size (some ⟨w.heap.size, 0, none⟩) [bkS code]) := Lib.hid (rdP_one (X := w) (Own.new w 64 [.slice A len cap, .int .i64 (-1), .int .i64 (-1), .int .i64 0]) ((RdS.below hx (by go_grown : Below w.heap.size w _) (Nat.le_refl _)).more (by simp)) hl hcap)
  have HC := Lib.hid (refProgCheck_any vars (some ⟨w.heap.size, 0, none⟩) 1 1 [bkS code] _ HP.out rfl (by unfold maxLen; omega) (inBk_one (by rw [hl]; exact hm)))
  clear hx hl
  go_enter Try.func8, Try.ntmps8
  go_wp2_with (go_at_call 26; (with_reducible refine HC.out.mono ?_); rintro e w1 ⟨rfl, hb1⟩)
  go_ret
  exact ⟨rfl, Below.trans (by go_grown) (hb1.mono (by simp))⟩

/-- S1: the code of lists of terms -/
def ckLs (vars : Int) : List (List Tm) → Int
  | [] => 0
  | l :: r => if ckTerms vars l = 0 then ckLs vars r else ckTerms vars l

/-- S1: the code of steps and of lists of terms -/
def ckW (vars : Int) (code : List St) (ls : List (List Tm)) : Int := if ckProg vars [bkS code] = 0 then ckLs vars ls else ckProg vars [bkS code]

/-- a slice of slices of terms -/
def RdLs (w : World) (A : Option Addr) (q : List (List Tm × Option Addr × Nat)) : Prop :=
  ∀ (k : Nat) (x : List Tm × Option Addr × Nat), q[k]? = some x → ∃ ad : Addr, A = some ad ∧ (ad.add k).block < w.heap.size ∧ w.cell? (ad.add k) = some (.slice x.2.1 x.1.length x.2.2) ∧ RdT w w.heap.size x.2.1 x.1

theorem RdLs.below {w w' : World} {A : Option Addr} {q : List (List Tm × Option Addr × Nat)} (h : RdLs w A q) (hb : Below w.heap.size w w') : RdLs w' A q := fun k x hx => by
  obtain ⟨ad, h1, h2, h3, h4⟩ := h k x hx
  exact ⟨ad, h1, Nat.lt_of_lt_of_le h2 hb.size, (hb.cell h2).trans h3, (h4.below hb (Nat.le_refl _)).more hb.size⟩

theorem ckLs_drop {vars : Int} {q : List (List Tm × Option Addr × Nat)} {k : Nat} {x : List Tm × Option Addr × Nat} (h : q[k]? = some x) : ckLs vars ((q.drop k).map (·.1)) = if ckTerms vars x.1 = 0 then ckLs vars ((q.drop (k + 1)).map (·.1)) else ckTerms vars x.1 := by
  rw [drop_at h]
  rfl

set_option maxHeartbeats 4000000 in
theorem weakCheck_any (vars : Int) (A LA : Option Addr) (len cap m mc : Nat) (code : List St) (q : List (List Tm × Option Addr × Nat)) (w : World) (hx : RdS w w.heap.size A code) (hl : code.length = len) (hcap : len ≤ cap) (hm : len * 40 ≤ 140737488351232) (hq : RdLs w LA q) (hql : q.length = m) (hmm : m ≤ 65536) :
    Calls Try.prog 18 #[.int .i64 vars, .slice A len cap, .slice LA m mc] w fun e w' => e = .returned (.int .i64 (ckW vars code (q.map (·.1)))) ∧ Below w.heap.size w w' := by
  have HQ := Lib.hid hq
  have HQL := Lib.hid hql
  have HPR := Lib.hid (program_any A len cap code w hx hl hcap)
  have HIN := Lib.hid (inBk_one (by rw [hl]; exact hm))
  clear hx hl hq hql
  by_cases h1 : ckProg vars [bkS code] = 0
  · have HC := Lib.hid h1
    have HR : Hid (ckW vars code (q.map (·.1)) = ckLs vars (q.map (·.1))) := Lib.hid (by unfold ckW; rw [if_pos h1])
    clear h1
    go_enter Try.func18, Try.ntmps18
    go_wp2_with (first
      | (go_at_call 22; (with_reducible refine HPR.out.mono ?_); rintro e w1 ⟨G, rfl, hp1, hb1⟩)
      | (go_at_call 31; (with_reducible refine (blockIs.check vars (some ⟨G, 0, none⟩) 1 1 [bkS code] _ hp1 rfl (by unfold maxLen; omega) HIN.out).mono ?_); rw [HC.out]; rintro e w2 ⟨rfl, hb2⟩))
    have HB := Lib.hid (below_via hb1 hb2)
    clear hp1 hb1 hb2
    go_loopw [20] (fun i wr => ∃ k : Nat, k ≤ m ∧ i = .int .i64 k ∧ Hid (ckLs vars (q.map (·.1)) = ckLs vars ((q.drop k).map (·.1))) ∧ Hid (Below w.heap.size w wr)) (fun i _ => m - (intOf i).toNat)
    case atStart => exact ⟨0, Nat.zero_le _, rfl, Lib.hid rfl, HB⟩
    case round =>
      obtain ⟨k, hk, rfl, HK, HBR⟩ := hrel
      by_cases hlt : k < m
      · obtain ⟨x, hx⟩ : ∃ x, q[k]? = some x := ⟨_, List.getElem?_eq_getElem (by rw [HQL.out]; exact hlt)⟩
        obtain ⟨ad, rfl, hbl, hc0, hrd⟩ := (HQ.out.below HBR.out) k x hx
        have HD := Lib.hid (ckLs_drop (vars := vars) hx)
        obtain ⟨l, PA, pc⟩ := x
        obtain ⟨pl, hpl⟩ : ∃ pl, l.length = pl := ⟨_, rfl⟩
        have HCK := Lib.hid (fun (Z : World) (hZ : Below wr.heap.size wr Z) => check_any vars PA pl pc l Z ((hrd.below hZ (Nat.le_refl _)).more hZ.size) hpl)
        simp only [hpl] at hc0 HD
        clear hx hpl hrd
        by_cases h2 : ckTerms vars l = 0
        · have H2 := Lib.hid h2
          clear h2
          go_wp2_with (go_at_call 32; (refine (HCK.out _ (by go_grown)).mono ?_); rw [H2.out]; rintro e w3 ⟨rfl, hb3⟩)
          go_round
          case rel => exact ⟨k + 1, by omega, by go_num, Lib.hid (by rw [HK.out, HD.out, if_pos H2.out]), Lib.hid (below_via HBR.out hb3)⟩
          case measure => (simp [intOf]; omega)
        · have e2 : (ckTerms vars l != 0) = true := by simp [h2]
          have HV : Hid (ckLs vars (q.map (·.1)) = ckTerms vars l) := Lib.hid (by rw [HK.out, HD.out, if_neg h2])
          clear h2
          go_wp2_with (go_at_call 32; (refine (HCK.out _ (by go_grown)).mono ?_); rintro e w3 ⟨rfl, hb3⟩)
          go_ret
          exact ⟨ret_int (by rw [HR.out, HV.out]), below_via HBR.out hb3⟩
      · have hkm : m ≤ k := by omega
        have HZ : Hid (ckLs vars (q.map (·.1)) = 0) := Lib.hid (by rw [HK.out, List.drop_of_length_le (by rw [HQL.out]; exact hkm)]; rfl)
        clear hkm
        go_wp2
        go_ret
        exact ⟨ret_int (by rw [HR.out, HZ.out]), HBR.out⟩
  · have e1 : (ckProg vars [bkS code] != 0) = true := by simp [h1]
    have HR : Hid (ckW vars code (q.map (·.1)) = ckProg vars [bkS code]) := Lib.hid (by unfold ckW; rw [if_neg h1])
    clear h1
    go_enter Try.func18, Try.ntmps18
    go_wp2_with (first
      | (go_at_call 22; (with_reducible refine HPR.out.mono ?_); rintro e w1 ⟨G, rfl, hp1, hb1⟩)
      | (go_at_call 31; (with_reducible refine (blockIs.check vars (some ⟨G, 0, none⟩) 1 1 [bkS code] _ hp1 rfl (by unfold maxLen; omega) HIN.out).mono ?_); rintro e w2 ⟨rfl, hb2⟩))
    go_ret
    exact ⟨ret_int HR.out.symm, below_via hb1 hb2⟩

end Go.Proofs.Ytggekjccblblpaa
