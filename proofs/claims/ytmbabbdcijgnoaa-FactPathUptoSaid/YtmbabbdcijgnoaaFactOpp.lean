/-
  fact.opposite (I2).
-/
import Derived.Test.YtmbabbdcijgnoaaFactAlong
import Derived.Test.YtmbabbdcijgnoaaRec
import Derived.Deep.RegionLaw
import Derived.Laws.Rows
import Derived.BigRegion
namespace Go.Proofs.Ytmbabbdcijgnoaa
open Go.RowKit
set_option linter.unusedSimpArgs false
set_option linter.unusedVariables false
set_option maxRecDepth 100000

theorem word_app : AppTy Try.prog 23 24 1 4 := appTy_of (z := .int .u32 0) Try.underlying23 (by kernel_rfl) rfl (by omega)

/-- the first k words of the opposite problem -/
def opK (lw : Lw) (k : Nat) : List Nat := (opL lw).ma.take k

section
variable {lw : Lw} {k E M : Nat}

theorem opK_next (h : k < lw.ma.length) (hE : lw.en[k]? = some E) (hM : lw.ma[k]? = some M) : uv (opK lw (k + 1)) = uv (opK lw k) ++ [.int .u32 ((E &&& (4294967295 - M) : Nat) : Int)] := by
  have e : (opL lw).ma[k]? = some (E &&& (4294967295 - M)) := by
    unfold opL
    show ((List.range lw.ma.length).map fun v => lw.en.getD v 0 &&& (4294967295 - lw.ma.getD v 0))[k]? = _
    rw [List.getElem?_map, List.getElem?_range h, Option.map_some, List.getD_eq_getElem?_getD, hE, List.getD_eq_getElem?_getD, hM]
    rfl
  unfold opK uv
  rw [List.take_add_one, e, List.map_append]
  rfl

theorem opK_all : opK lw lw.ma.length = (opL lw).ma := by
  unfold opK
  rw [List.take_of_length_le]
  simp [opL]

end

theorem one_cellU (x : Int) : ∀ u ∈ [Value.int .u32 x], u.oneCell' = true := fun u hu => by rw [List.mem_singleton.1 hu]; rfl

theorem ownU_rd {w : World} {B : Nat} {A : Option Addr} {n c : Nat} {ws : List Nat} (hl : ws.length = n) (h : w.ownsRow B 24 1 (.slice A n c) n (uv ws)) : RdU w w.heap.size A ws := fun hm => by
  obtain ⟨ad, e, hb, hc⟩ := own_rd h (by omega)
  refine ⟨ad, e, hb, fun j hj => ?_⟩
  rw [hc j (by omega)]
  simp [uv, hj]

set_option maxHeartbeats 8000000 in
theorem opposite_any (len : Nat) (A1 : Option Addr) (c1 : Nat) (A2 : Option Addr) (c2 : Nat) (lw : Lw) (w : World) (hr : RdL w w.heap.size A1 A2 lw) (hM : ∀ x ∈ lw.ma, x < 256) (hE : ∀ x ∈ lw.en, x < 256) (hs : lw.st < 256) (h1 : lw.ma.length = len) (h2 : lw.en.length = len) (hl8 : len ≤ 8) :
    Calls Try.prog 22 #[.agg #[.bool lw.bw, .bool lw.al, .slice A1 len c1, .slice A2 len c2, .int .u32 (lw.st : Nat)]] w fun e w' => ∃ A' c', e = .returned (.agg #[.bool lw.bw, .bool false, .slice A' len c', .slice A1 len c1, .int .u32 ((opL lw).st : Nat)]) ∧ RdL w' w'.heap.size A' A1 (opL lw) ∧ Below w.heap.size w w' := by
  have HR := Lib.hid hr
  have HM := Lib.hid hM
  have HE := Lib.hid hE
  have H1 := Lib.hid h1
  have H2 := Lib.hid h2
  have hxor : bits .xor .u32 ((lw.st : Nat) : Int) 255 = (((opL lw).st : Nat) : Int) := u32_xor_nat lw.st 255 (by omega) (by omega)
  have HXOR := Lib.hid hxor
  have HNX : Hid (∀ k E M, k < len → lw.en[k]? = some E → lw.ma[k]? = some M → uv (opK lw (k + 1)) = uv (opK lw k) ++ [.int .u32 ((E &&& (4294967295 - M) : Nat) : Int)]) := Lib.hid fun k E M hk h3 h4 => opK_next (by omega) h3 h4
  have HEND : Hid (opK lw len = (opL lw).ma) := Lib.hid (by rw [← h1]; exact opK_all)
  have HOE : Hid ((opL lw).en = lw.ma) := Lib.hid rfl
  have H0 : Hid (uv (opK lw 0) = []) := Lib.hid rfl
  have HOL : Hid ((opL lw).ma.length = len) := Lib.hid (by rw [← h1]; simp [opL])
  obtain ⟨st, hst⟩ : ∃ n, lw.st = n := ⟨_, rfl⟩
  obtain ⟨bw, hbw⟩ : ∃ b, lw.bw = b := ⟨_, rfl⟩
  obtain ⟨al, hal⟩ : ∃ b, lw.al = b := ⟨_, rfl⟩
  obtain ⟨so, hso⟩ : ∃ n, (opL lw).st = n := ⟨_, rfl⟩
  rw [hst, hso] at HXOR
  rw [hst, hbw, hal, hso]
  clear hr hM hE hs h1 h2 hxor hst hbw hal hso
  have ho1 : Own (((w.alloc (.cells #[.bool bw, .bool al, .slice A1 len c1, .slice A2 len c2, .int .u32 (st : Nat)] 26)).alloc (.cells #[.bool false, .bool false, .slice none 0 0, .slice none 0 0, .int .u32 0] 26)).alloc (.cells #[.bool bw, .bool false, .slice none 0 0, .slice A1 len c1, .int .u32 (bits .xor .u32 (st : Nat) 255)] 26)) w.heap.size 26 [.bool bw, .bool al, .slice A1 len c1, .slice A2 len c2, .int .u32 (st : Nat)] := ((own_end rfl _ [_, _, _, _, _]).alloc _).alloc _
  have ho2 : Own (((w.alloc (.cells #[.bool bw, .bool al, .slice A1 len c1, .slice A2 len c2, .int .u32 (st : Nat)] 26)).alloc (.cells #[.bool false, .bool false, .slice none 0 0, .slice none 0 0, .int .u32 0] 26)).alloc (.cells #[.bool bw, .bool false, .slice none 0 0, .slice A1 len c1, .int .u32 (bits .xor .u32 (st : Nat) 255)] 26)) (w.heap.size + 1) 26 [.bool false, .bool false, .slice none 0 0, .slice none 0 0, .int .u32 0] := (own_end (by simp) _ [_, _, _, _, _]).alloc _
  have ho3 : Own (((w.alloc (.cells #[.bool bw, .bool al, .slice A1 len c1, .slice A2 len c2, .int .u32 (st : Nat)] 26)).alloc (.cells #[.bool false, .bool false, .slice none 0 0, .slice none 0 0, .int .u32 0] 26)).alloc (.cells #[.bool bw, .bool false, .slice none 0 0, .slice A1 len c1, .int .u32 (bits .xor .u32 (st : Nat) 255)] 26)) (w.heap.size + 1 + 1) 26 [.bool bw, .bool false, .slice none 0 0, .slice A1 len c1, .int .u32 (bits .xor .u32 (st : Nat) 255)] := own_end (by simp) _ [_, _, _, _, _]
  have hb0 : Below w.heap.size w (((w.alloc (.cells #[.bool bw, .bool al, .slice A1 len c1, .slice A2 len c2, .int .u32 (st : Nat)] 26)).alloc (.cells #[.bool false, .bool false, .slice none 0 0, .slice none 0 0, .int .u32 0] 26)).alloc (.cells #[.bool bw, .bool false, .slice none 0 0, .slice A1 len c1, .int .u32 (bits .xor .u32 (st : Nat) 255)] 26)) := by go_grown
  rw [HXOR.out] at ho1 ho2 ho3 hb0
  go_enter Try.func22, Try.ntmps22
  go_wp2
  rw [HXOR.out]
  obtain ⟨wo, hwo⟩ : ∃ wo, wo = (((w.alloc (.cells #[.bool bw, .bool al, .slice A1 len c1, .slice A2 len c2, .int .u32 (st : Nat)] 26)).alloc (.cells #[.bool false, .bool false, .slice none 0 0, .slice none 0 0, .int .u32 0] 26)).alloc (.cells #[.bool bw, .bool false, .slice none 0 0, .slice A1 len c1, .int .u32 (so : Nat)] 26)) := ⟨_, rfl⟩
  rw [← hwo] at ho1 ho2 ho3 hb0 ⊢
  have hsz3 := ho3.lt
  clear hwo
  go_loopw [17] (fun z wr => ∃ (k : Nat) (A' : Option Addr) (c' : Nat), k ≤ len ∧ z = .int .i64 k ∧ Own wr w.heap.size 26 [.bool bw, .bool al, .slice A1 len c1, .slice A2 len c2, .int .u32 (st : Nat)] ∧ Own wr (w.heap.size + 1) 26 [.bool false, .bool false, .slice none 0 0, .slice none 0 0, .int .u32 0] ∧ Own wr (w.heap.size + 1 + 1) 26 [.bool bw, .bool false, .slice A' k c', .slice A1 len c1, .int .u32 (so : Nat)] ∧ wr.ownsRow (w.heap.size + 3) 24 1 (.slice A' k c') k (uv (opK lw k)) ∧ Below w.heap.size wo wr) (fun z _ => len - (intOf z).toNat)
  case atStart => exact ⟨0, none, 0, Nat.zero_le _, rfl, ho1, ho2, ho3, by rw [H0.out]; exact World.ownsRow_nil _ _ _ _, Below.refl _ _⟩
  case round =>
    obtain ⟨k, A', c', hk, rfl, hp1, hp2, hp3, hrow, hbr⟩ := hrel
    have hs3r := hp3.lt
    by_cases hkt : k < len
    · have hbw := hb0.trans hbr
      obtain ⟨aM, M, rfl, hbM, hdM, hcM⟩ := (HR.out.ma.below hbw (Nat.le_refl _)).at_ (k := k) (by rw [H1.out]; exact hkt)
      obtain ⟨aE, E, rfl, hbE, hdE, hcE⟩ := (HR.out.en.below hbw (Nat.le_refl _)).at_ (k := k) (by rw [H2.out]; exact hkt)
      have hE8 := HE.out E (List.mem_of_getElem? hdE)
      have hM8 := HM.out M (List.mem_of_getElem? hdM)
      have hand : bits .andNot .u32 (E : Int) (M : Int) = ((E &&& (4294967295 - M) : Nat) : Int) := u32_andNot_nat _ _ (by omega) (by omega)
      have HAND := Lib.hid hand
      have HN := Lib.hid (HNX.out k E M hkt hdE hdM)
      have hw1 := hp1.lt
      have hw2 := hp2.lt
      have a3 := hp1.cell (j := 3) rfl
      have a2 := hp3.cell (j := 2) rfl
      have f2 := hp3.frozen 2
      have HP1 := Lib.hid hp1
      have HP2 := Lib.hid hp2
      have HP3 := Lib.hid hp3
      have HROW := Lib.hid hrow
      have hbMr : (aM.add k).block < wr.heap.size := by omega
      have hbEr : (aE.add k).block < wr.heap.size := by omega
      have h63 : k + 1 ≤ maxLen := by unfold maxLen; omega
      have hbig : (k + 1) * 4 ≤ 140737488355328 := by omega
      clear hdM hdE hand hp1 hp2 hp3 hrow
      go_wp2
      go_region_law (refine step_app_any rfl (.tmp 23) (.tmp 31) 23 rfl (w.heap.size + 3) 24 1 4 word_app (uv (opK lw k)) rfl (own_below HROW.out (by go_grown)) [.int .u32 (bits .andNot .u32 (E : Int) (M : Int))] rfl rfl (fun h => by cases h) (cells_at rfl _ _) (one_cellU _) h63 hbig (Nat.le_trans (by omega) (by go_grown : Below wr.heap.size wr _).size) ?_; intro A8 c8 w8 hown8 hg8 hb8; have hbA : Below (w.heap.size + 3) wr w8 := (Below.mono (by go_grown : Below wr.heap.size wr _) (by omega)).trans hb8; have hO8 := HP3.out.below hbA (by omega); have hf8 := hO8.frozen 2; have hc8 := hO8.cell (j := 2) rfl)
      all_goals
        have hq1 := HP1.out.below hbA (by omega)
        have hq2 := HP2.out.below hbA (by omega)
        have hset := hO8.set 2 (.slice A8 (k + 1) c8)
        rw [HAND.out, ← HN.out] at hown8
        go_wp2
        go_round
        case rel => exact ⟨k + 1, A8, c8, by omega, by go_num, hq1.far (by simp; omega) _, hq2.far (by simp) _, hset, own_farW hown8 (by simp) _, (hbr.trans (hbA.mono (by omega))).setCell (by simp; omega) _⟩
        case measure => (simp [intOf]; omega)
    · have hkl : k = len := by omega
      subst hkl
      have a0 := hp3.cell (j := 0) rfl
      have a1 := hp3.cell (j := 1) rfl
      have a2 := hp3.cell (j := 2) rfl
      have a3 := hp3.cell (j := 3) rfl
      have a4 := hp3.cell (j := 4) rfl
      have f0 := hp2.frozen 0
      have f1 := hp2.frozen 1
      have f2 := hp2.frozen 2
      have f3 := hp2.frozen 3
      have f4 := hp2.frozen 4
      have b0 := hp2.cell (j := 0) rfl
      have b1 := hp2.cell (j := 1) rfl
      have b2 := hp2.cell (j := 2) rfl
      have b3 := hp2.cell (j := 3) rfl
      have b4 := hp2.cell (j := 4) rfl
      have hfin : Own (((((wr.setCell ⟨w.heap.size + 1, 0, none⟩ (.bool bw)).setCell ⟨w.heap.size + 1, 1, none⟩ (.bool false)).setCell ⟨w.heap.size + 1, 2, none⟩ (.slice A' k c')).setCell ⟨w.heap.size + 1, 3, none⟩ (.slice A1 k c1)).setCell ⟨w.heap.size + 1, 4, none⟩ (.int .u32 (so : Nat))) (w.heap.size + 1) 26 [.bool bw, .bool false, .slice A' k c', .slice A1 k c1, .int .u32 (so : Nat)] := ((((hp2.set 0 (.bool bw)).set 1 (.bool false)).set 2 (.slice A' k c')).set 3 (.slice A1 k c1)).set 4 (.int .u32 (so : Nat))
      have hbf : Below w.heap.size w (((((wr.setCell ⟨w.heap.size + 1, 0, none⟩ (.bool bw)).setCell ⟨w.heap.size + 1, 1, none⟩ (.bool false)).setCell ⟨w.heap.size + 1, 2, none⟩ (.slice A' k c')).setCell ⟨w.heap.size + 1, 3, none⟩ (.slice A1 k c1)).setCell ⟨w.heap.size + 1, 4, none⟩ (.int .u32 (so : Nat))) := (((((hb0.trans hbr).setCell (by simp) _).setCell (by simp) _).setCell (by simp) _).setCell (by simp) _).setCell (by simp) _
      have hrowf := own_farW (own_farW (own_farW (own_farW (own_farW hrow (p := ⟨w.heap.size + 1, 0, none⟩) (by simp) (.bool bw)) (p := ⟨w.heap.size + 1, 1, none⟩) (by simp) (.bool false)) (p := ⟨w.heap.size + 1, 2, none⟩) (by simp) (.slice A' k c')) (p := ⟨w.heap.size + 1, 3, none⟩) (by simp) (.slice A1 k c1)) (p := ⟨w.heap.size + 1, 4, none⟩) (by simp) (.int .u32 (so : Nat))
      rw [HEND.out] at hrowf
      have HFIN := Lib.hid hfin
      have HROWF := Lib.hid (ownU_rd HOL.out hrowf)
      have HMAF := Lib.hid ((HR.out.ma.below hbf (Nat.le_refl _)).more hbf.size)
      clear hfin hrowf hrow
      go_wp2
      try simp only [Exit.inBlock, Exit.then]
      exact bodyPost_ret (v := .agg #[.bool bw, .bool false, .slice A' k c', .slice A1 k c1, .int .u32 (so : Nat)]) (results_cell_row rfl _ _ (w.heap.size + 1) 26 _ _ _ rfl HFIN.out Try.underlying26 rfl (by kernel_rfl)) rfl ⟨A', c', rfl, ⟨HROWF.out, by rw [HOE.out]; exact HMAF.out⟩, hbf⟩

end Go.Proofs.Ytmbabbdcijgnoaa
