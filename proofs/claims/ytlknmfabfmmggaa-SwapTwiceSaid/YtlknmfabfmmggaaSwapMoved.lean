/-
  The reference's Moved returns what registers have behind moves (N1).
-/
import Derived.Test.YtlknmfabfmmggaaSwapMv
import Derived.Deep.Cut
namespace Go.Proofs.Ytlknmfabfmmggaa
open Go.RowKit
set_option linter.unusedSimpArgs false
set_option linter.unusedVariables false
set_option maxRecDepth 100000

theorem rnM_take {o : List (Nat × Nat)} {k x y : Nat} (h : o[k]? = some (x, y)) (v : Nat → Nat) : rnM (o.take (k + 1)) v = fun r => if r = x then rnM (o.take k) v y else rnM (o.take k) v r := by
  rw [List.take_add_one, h, Option.toList_some, rnM_snoc]

theorem tab_zero {n k : Nat} (h : k < n) : (ni (tabN k id) ++ List.replicate (n - k) 0).set k (k : Int) = ni (tabN (k + 1) id) ++ List.replicate (n - (k + 1)) 0 := by
  have e : List.replicate (n - k) (0 : Int) = 0 :: List.replicate (n - (k + 1)) 0 := by
    have : n - k = (n - (k + 1)) + 1 := by omega
    rw [this, List.replicate_succ]
  rw [e, List.set_append_right _ _ (by rw [ni_len2, tabN_len]; exact Nat.le_refl _), ni_len2, tabN_len, Nat.sub_self]
  unfold tabN
  rw [List.range_succ, List.map_append, ni_append]
  simp [ni]

set_option maxHeartbeats 4000000 in
theorem moved_any (n : Nat) (A : Option Addr) (len cap : Nat) (o : List (Nat × Nat)) (w : World) (hx : RdM w w.heap.size A (mvI o)) (hl : o.length = len) (hm : len ≤ 65536) (hn : n ≤ 8) (hi : ∀ m ∈ o, m.1 ≤ n ∧ m.2 ≤ n) :
    Calls Try.prog 11 #[.int .i64 n, .slice A len cap] w fun e w' => ∃ g, e = .returned (.slice (some ⟨g, 0, none⟩) (n + 1) (n + 1)) ∧ w.heap.size ≤ g ∧ Own w' g 3 (iv (ni (tabN (n + 1) (rnM o id)))) ∧ Below w.heap.size w w' := by
  have HL := Lib.hid hl
  have HI := Lib.hid hi
  have HK := make_ints (P := Try.prog) 34 3 Try.underlying34 (by kernel_rfl) (n + 1) (by omega)
  have e1 : IntKind.i64.wrap ((n : Int) + 1) = ((n + 1 : Nat) : Int) := by rw [IntKind.wrap_i64]; omega
  have e2 : ((n + 1 : Nat) : Int) = (n : Int) + 1 := by omega
  rw [e2] at HK e1
  clear hl hi e2
  go_enter Try.func11, Try.ntmps11
  go_upto_region 2 with fail
  obtain ⟨wo, hwo⟩ : ∃ wo, wo = w.alloc (.cells (iv (List.replicate (n + 1) 0)).toArray 3) := ⟨_, rfl⟩
  have hO : Own wo w.heap.size 3 (iv (ni (tabN 0 id) ++ List.replicate (n + 1 - 0) 0)) := by rw [hwo]; exact Own.new w 3 (iv (List.replicate (n + 1) 0))
  have hbo : Below w.heap.size w wo := by rw [hwo]; go_grown
  rw [← hwo]
  clear hwo HK
  go_wp2
  go_loopw [6] (fun i wr => ∃ k : Nat, k ≤ n + 1 ∧ i = .int .i64 k ∧ Own wr w.heap.size 3 (iv (ni (tabN k id) ++ List.replicate (n + 1 - k) 0)) ∧ Below w.heap.size w wr) (fun i _ => n + 1 - (intOf i).toNat)
  case atStart => exact ⟨0, Nat.zero_le _, rfl, hO, hbo⟩
  case round =>
    obtain ⟨k, hk, rfl, hown, hb⟩ := hrel
    by_cases hlt : k < n + 1
    · have hl1 : (k : Int) ≤ (n : Int) := by omega
      have h3 := OwnI.set hown k (k : Int)
      rw [tab_zero hlt] at h3
      have H3 := Lib.hid h3
      have hc := hown.cell (j := k) (v := .int .i64 0) (by
        refine iv_at ?_
        rw [List.getElem?_append_right (by rw [ni_len2, tabN_len]; exact Nat.le_refl _), ni_len2, tabN_len, Nat.sub_self]
        have : n + 1 - k = (n - k) + 1 := by omega
        rw [this, List.replicate_succ]
        rfl)
      have hf := hown.frozen k
      have hbs : Below w.heap.size w (wr.setCell ⟨w.heap.size, k, none⟩ (.int .i64 (k : Int))) := hb.setCell (Nat.le_refl _) _
      clear h3 hown
      go_wp2
      go_round
      case rel => exact ⟨k + 1, by omega, by go_num, H3.out, hbs⟩
      case measure => (simp [intOf]; omega)
    · have hk2 : k = n + 1 := by omega
      subst hk2
      have hown2 : Own wr w.heap.size 3 (iv (ni (tabN (n + 1) (rnM (o.take 0) id)))) := by simpa [rnM] using hown
      have hs1 : w.heap.size < wr.heap.size := hown.lt
      have hx1 := (hx.below hb (Nat.le_refl _))
      obtain ⟨w1, rfl⟩ : ∃ w1 : World, w1 = wr := ⟨_, rfl⟩
      clear hown
      go_wp2
      go_loopw [23] (fun i wr => ∃ k : Nat, k ≤ len ∧ i = .int .i64 k ∧ Own wr w.heap.size 3 (iv (ni (tabN (n + 1) (rnM (o.take k) id)))) ∧ Below w.heap.size w wr) (fun i _ => len - (intOf i).toNat)
      case atStart => exact ⟨0, Nat.zero_le _, rfl, hown2, hb⟩
      case round =>
        obtain ⟨k, hk, rfl, hown, hb4⟩ := hrel
        have hs4 : w.heap.size < wr.heap.size := hown.lt
        by_cases hlt : k < len
        · obtain ⟨ad, a, b, rfl, hbl, hd, hc0, hc1⟩ := RdN.at_ (hx.below hb4 (Nat.le_refl _)) (k := k) (by rw [HL.out]; exact hlt)
          obtain ⟨ha, hbn⟩ := HI.out _ (List.mem_of_getElem? hd)
          simp only at ha hbn
          have ho2 : Own (wr.alloc (.cells #[.int .i64 (a : Int), .int .i64 (b : Int)] 32)) w.heap.size 3 (iv (ni (tabN (n + 1) (rnM (o.take k) id)))) := hown.alloc _
          have hcb := ho2.cell (j := b) (iv_at (ni_tab_at _ (by omega)))
          have hca := ho2.cell (j := a) (iv_at (ni_tab_at _ (by omega)))
          have hfa := ho2.frozen a
          have hcb' : ((wr.alloc (.cells #[.int .i64 (a : Int), .int .i64 (b : Int)] 32)).drew).cell? ⟨w.heap.size, b, none⟩ = _ := hcb
          have h3 := OwnI.set hown a ((rnM (o.take k) id b : Nat) : Int)
          rw [ni_tab_set (G := rnM (o.take (k + 1)) id) (by rw [rnM_take hd]; simp) (fun i _ hne => by rw [rnM_take hd]; simp [hne])] at h3
          have H3 := Lib.hid h3
          have hbs : Below w.heap.size w (wr.setCell ⟨w.heap.size, a, none⟩ (.int .i64 ((rnM (o.take k) id b : Nat) : Int))) := hb4.setCell (Nat.le_refl _) _
          obtain ⟨vb, hvb⟩ : ∃ vb : Nat, rnM (o.take k) id b = vb := ⟨_, rfl⟩
          obtain ⟨va, hva⟩ : ∃ va : Nat, rnM (o.take k) id a = va := ⟨_, rfl⟩
          rw [hvb] at hcb hbs H3 hcb'
          rw [hva] at hca
          clear hd h3 hown hvb hva ho2
          go_wp2
          go_region
          all_goals (
            go_wp2
            go_round
            case rel => exact ⟨k + 1, by omega, by go_num, (H3.out.alloc _).drew, (hbs.trans (by go_grown)).drew⟩
            case measure => (simp [intOf]; omega))
        · have hk2 : k = len := by omega
          subst hk2
          rw [List.take_of_length_le (by rw [HL.out]; exact Nat.le_refl _)] at hown
          go_wp2
          go_ret
          exact ⟨w.heap.size, rfl, Nat.le_refl _, hown, hb4⟩

end Go.Proofs.Ytlknmfabfmmggaa
