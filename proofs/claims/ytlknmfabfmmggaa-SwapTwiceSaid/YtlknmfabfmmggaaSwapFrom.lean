/-
  swap.sources: the moves checked, and where each register gets its value from (N1).
-/
import Derived.Test.YtlknmfabfmmggaaSwapWalk
import Derived.Test.YtlknmfabfmmggaaRepeat
import Derived.Test.YtlknmfabfmmggaaSwapRef
import Derived.Deep.Cut
namespace Go.Proofs.Ytlknmfabfmmggaa
open Go.RowKit
set_option linter.unusedSimpArgs false
set_option linter.unusedVariables false
set_option maxRecDepth 100000

def tabZ (n : Nat) (f : Nat → Int) : List Int := (List.range n).map f

theorem tabZ_at {n : Nat} (f : Nat → Int) {k : Nat} (h : k < n) : (tabZ n f)[k]? = some (f k) := by simp [tabZ, h]

theorem tabZ_len (n : Nat) (f : Nat → Int) : (tabZ n f).length = n := by simp [tabZ]

theorem tabZ_set {n : Nat} {f g : Nat → Int} {x : Nat} {y : Int} (hx : g x = y) (h : ∀ k, k < n → k ≠ x → g k = f k) : (tabZ n f).set x y = tabZ n g := by
  apply List.ext_getElem?
  intro k
  rw [List.getElem?_set]
  by_cases hk : k < n
  · rw [tabZ_at _ hk, tabZ_at _ hk]
    by_cases he : x = k
    · subst he
      rw [if_pos rfl, if_pos (by rw [tabZ_len]; exact hk), hx]
    · rw [if_neg he, h k hk (fun e => he e.symm)]
  · have e1 : (tabZ n f)[k]? = none := List.getElem?_eq_none (by rw [tabZ_len]; omega)
    have e2 : (tabZ n g)[k]? = none := List.getElem?_eq_none (by rw [tabZ_len]; omega)
    rw [e1, e2]
    split
    · rw [if_neg (by rw [tabZ_len]; omega)]
    · rfl

theorem tabZ_congr {n : Nat} {f g : Nat → Int} (h : ∀ k, k < n → f k = g k) : tabZ n f = tabZ n g := by
  unfold tabZ
  exact List.map_congr_left fun i hi => h i (List.mem_range.1 hi)

theorem tabZ_nat (n : Nat) (F : Nat → Nat) : ni (tabN n F) = tabZ n fun r => (F r : Int) := by simp [ni, tabN, tabZ, Function.comp_def]

/-- what the moves say so far, -1 where nothing is said -/
def saidF (l : List (Nat × Nat)) (r : Nat) : Int := if r ∈ l.map Prod.fst then (nvF l r : Nat) else -1

theorem nvF_left {p q : List (Nat × Nat)} {r : Nat} (h : r ∈ p.map Prod.fst) : nvF (p ++ q) r = nvF p r := by
  induction p with
  | nil => simp at h
  | cons m p ih =>
    rw [List.cons_append, nvF_cons, nvF_cons]
    by_cases he : m.1 = r
    · rw [if_pos he, if_pos he]
    · rw [if_neg he, if_neg he]
      refine ih ?_
      simp only [List.map_cons, List.mem_cons] at h
      rcases h with h | h
      · exact absurd h.symm he
      · exact h

theorem nvF_right {p q : List (Nat × Nat)} {r : Nat} (h : r ∉ p.map Prod.fst) : nvF (p ++ q) r = nvF q r := by
  induction p with
  | nil => rfl
  | cons m p ih =>
    simp only [List.map_cons, List.mem_cons, not_or] at h
    rw [List.cons_append, nvF_cons, if_neg fun e => h.1 e.symm]
    exact ih h.2

theorem saidF_one {l : List (Nat × Nat)} {k a b : Nat} (h : l[k]? = some (a, b)) (ha : a ∉ (l.take k).map Prod.fst) : saidF (l.take (k + 1)) a = (b : Int) := by
  unfold saidF
  rw [List.take_add_one, h, Option.toList_some, if_pos (by simp), nvF_right ha, nvF_cons, if_pos rfl]

theorem saidF_other {l : List (Nat × Nat)} {k a b r : Nat} (h : l[k]? = some (a, b)) (hr : r ≠ a) : saidF (l.take (k + 1)) r = saidF (l.take k) r := by
  have e : l.take (k + 1) = l.take k ++ [(a, b)] := by rw [List.take_add_one, h, Option.toList_some]
  rw [e]
  unfold saidF
  by_cases hm : r ∈ (l.take k).map Prod.fst
  · have h2 : r ∈ (l.take k ++ [(a, b)]).map Prod.fst := by rw [List.map_append, List.mem_append]; exact .inl hm
    rw [if_pos h2, if_pos hm, nvF_left hm]
  · have h2 : r ∉ (l.take k ++ [(a, b)]).map Prod.fst := by
      rw [List.map_append, List.mem_append]
      rintro (h2 | h2)
      · exact hm h2
      · simp at h2
        exact hr h2
    rw [if_neg h2, if_neg hm]

theorem saidF_none {l : List (Nat × Nat)} {r : Nat} : saidF l r = -1 ↔ r ∉ l.map Prod.fst := by
  unfold saidF
  split
  · rename_i h
    constructor
    · intro h2; omega
    · exact fun h2 => absurd h h2
  · rename_i h
    exact ⟨fun _ => h, fun _ => rfl⟩

theorem saidF_nil (r : Nat) : saidF [] r = -1 := rfl

theorem tabZ_rep (n : Nat) (q : List (Nat × Nat)) : tabZ n (saidF (q.take 0)) = List.replicate n (-1) := by
  rw [List.eq_replicate_iff]
  refine ⟨tabZ_len _ _, fun b hb => ?_⟩
  unfold tabZ at hb
  obtain ⟨i, _, rfl⟩ := List.mem_map.1 hb
  rfl

theorem saidF_keep {l : List (Nat × Nat)} {r : Nat} (h : saidF l r ≠ -1) : saidF l r = (nvF l r : Nat) := by
  have h2 : r ∈ l.map Prod.fst := Classical.byContradiction fun hn => h (saidF_none.2 hn)
  unfold saidF
  rw [if_pos h2]

theorem nodup_snoc {l : List Nat} {a : Nat} (h : l.Nodup) (ha : a ∉ l) : (l ++ [a]).Nodup := by
  rw [List.nodup_append]
  exact ⟨h, by simp, fun x hx y hy => by
    simp at hy
    subst hy
    intro e
    exact ha (by rw [← e]; exact hx)⟩

theorem nodup_take {l : List (Nat × Nat)} {k a b : Nat} (h : l[k]? = some (a, b)) (hn : ((l.take k).map Prod.fst).Nodup) (ha : a ∉ (l.take k).map Prod.fst) : ((l.take (k + 1)).map Prod.fst).Nodup := by
  rw [List.take_add_one, h, Option.toList_some, List.map_append]
  exact nodup_snoc hn ha

theorem nodup_not {l : List (Nat × Nat)} {k a b : Nat} (h : l[k]? = some (a, b)) (ha : a ∈ (l.take k).map Prod.fst) : ¬ (l.map Prod.fst).Nodup := fun hn => by
  have h2 : l = l.take k ++ (a, b) :: l.drop (k + 1) := by
    rw [← drop_at h, List.take_append_drop]
  rw [h2, List.map_append, List.nodup_append] at hn
  exact hn.2.2 a ha a (by simp) rfl

set_option maxHeartbeats 1000000 in
theorem sources_large (n : Int) (A : Option Addr) (len cap : Nat) (l : List (Int × Int)) (w : World) (hl : l.length = len) (hm : len ≤ maxLen) (hz : ¬ sizesM n l) :
    Calls Try.prog 13 #[.int .i64 n, .slice A len cap] w fun e w' => e = .returned (.tuple #[.slice none 0 0, .int .i64 1]) ∧ Below w.heap.size w w' := by
  unfold maxLen at hm
  have g : n < 1 ∨ 8 < n ∨ 8 < len := by
    unfold sizesM at hz
    rw [hl] at hz
    omega
  clear hz hl
  by_cases g1 : n < 1
  · go_enter Try.func13, Try.ntmps13
    go_wp2
    go_ret2
    exact ⟨rfl, Below.refl _ _⟩
  · by_cases g2 : 8 < n
    · go_enter Try.func13, Try.ntmps13
      go_wp2
      go_ret2
      exact ⟨rfl, Below.refl _ _⟩
    · have g3 : (8 : Int) < (len : Int) := by omega
      go_enter Try.func13, Try.ntmps13
      go_wp2
      go_ret2
      exact ⟨rfl, Below.refl _ _⟩

set_option maxHeartbeats 2000000 in
theorem sources_arg (n : Int) (A : Option Addr) (len cap : Nat) (l : List (Int × Int)) (w : World) (hx : RdM w w.heap.size A l) (hl : l.length = len) (hz : sizesM n l) (ha : allM n l = false) :
    Calls Try.prog 13 #[.int .i64 n, .slice A len cap] w fun e w' => e = .returned (.tuple #[.slice none 0 0, .int .i64 2]) ∧ Below w.heap.size w w' := by
  obtain ⟨h1, h8, hl8⟩ := hz
  rw [hl] at hl8
  have HL := Lib.hid hl
  have HA := Lib.hid ha
  have g1 : ¬ n < 1 := by omega
  have g2 : ¬ 8 < n := by omega
  have g3 : ¬ (8 : Int) < (len : Int) := by omega
  clear hl ha
  go_enter Try.func13, Try.ntmps13
  go_wp2
  go_loopw [25] (fun i wr => ∃ k : Nat, k ≤ len ∧ i = .int .i64 k ∧ allM n l = allM n (l.drop k) ∧ Below w.heap.size w wr) (fun i _ => len - (intOf i).toNat)
  case atStart => exact ⟨0, Nat.zero_le _, rfl, rfl, Below.refl _ _⟩
  case round =>
    obtain ⟨k, hk, rfl, hr, hb⟩ := hrel
    have HR := Lib.hid hr
    have hsz := hb.size
    clear hr
    by_cases hlt : k < len
    · obtain ⟨ad, a, b, rfl, hbl, hd, hc0, hc1⟩ := RdM.at_ (hx.below hb (Nat.le_refl _)) (k := k) (by rw [HL.out]; exact hlt)
      have HD := Lib.hid (allM_drop (n := n) hd)
      clear hd
      go_wp2
      all_goals first
        | (go_ret2; exact ⟨rfl, hb.trans (by go_grown)⟩)
        | (go_round
           case rel =>
             have : inM n (a, b) = true := by
               rw [inM_iff]
               (go_light; (try simp only [Bool.not_eq_true', Bool.not_eq_false', decide_eq_true_eq, decide_eq_false_iff_not, beq_iff_eq, beq_eq_false_iff_ne, bne_iff_ne, bne_eq_false_iff_eq, ne_eq, Bool.and_eq_true, Bool.or_eq_true, Bool.and_eq_false_iff, Bool.or_eq_false_iff, Decidable.not_not] at *))
               omega
             exact ⟨k + 1, by omega, by go_num, by rw [HR.out, HD.out, this]; rfl, hb.trans (by go_grown)⟩
           case measure => (simp [intOf]; omega))
    · have h := HA.out
      rw [HR.out, List.drop_of_length_le (by rw [HL.out]; omega)] at h
      cases h

set_option maxHeartbeats 8000000 in
theorem sources_in (n : Nat) (A : Option Addr) (len cap : Nat) (q : List (Nat × Nat)) (w : World) (hx : RdM w w.heap.size A (mvI q)) (hl : q.length = len) (h1 : 1 ≤ n) (h8 : n ≤ 8) (hl8 : len ≤ 8) (hi : ∀ m ∈ q, m.1 < n ∧ m.2 < n) :
    Calls Try.prog 13 #[.int .i64 n, .slice A len cap] w fun e w' =>
      ((∃ g, e = .returned (.tuple #[.slice (some ⟨g, 0, none⟩) n n, .int .i64 0]) ∧ w.heap.size ≤ g ∧ TabAt w' g n (nvF q) ∧ (q.map Prod.fst).Nodup) ∨ (e = .returned (.tuple #[.slice none 0 0, .int .i64 3]) ∧ ¬ (q.map Prod.fst).Nodup)) ∧ Below w.heap.size w w' := by
  have HL := Lib.hid hl
  have HI := Lib.hid hi
  have g1 : ¬ (n : Int) < 1 := by omega
  have g2 : ¬ 8 < (n : Int) := by omega
  have g3 : ¬ (8 : Int) < (len : Int) := by omega
  have HREP := Lib.hid (repeat_any (-1) n h1 h8)
  clear hl hi
  go_enter Try.func13, Try.ntmps13
  go_wp2
  go_loopw [25] (fun i wr => ∃ k : Nat, k ≤ len ∧ i = .int .i64 k ∧ Below w.heap.size w wr) (fun i _ => len - (intOf i).toNat)
  case atStart => exact ⟨0, Nat.zero_le _, rfl, Below.refl _ _⟩
  case round =>
    obtain ⟨k, hk, rfl, hb⟩ := hrel
    have hsz := hb.size
    by_cases hlt : k < len
    · obtain ⟨ad, a, b, rfl, hbl, hd, hc0, hc1⟩ := RdN.at_ (hx.below hb (Nat.le_refl _)) (k := k) (by rw [HL.out]; exact hlt)
      obtain ⟨ha, hbn⟩ := HI.out _ (List.mem_of_getElem? hd)
      simp only at ha hbn
      have f1 : (0 : Int) ≤ (a : Int) := by omega
      have f2 : (0 : Int) ≤ (b : Int) := by omega
      have f3 : (a : Int) < (n : Int) := by omega
      have f4 : (b : Int) < (n : Int) := by omega
      clear hd
      go_wp2
      go_round
      case rel => exact ⟨k + 1, by omega, by go_num, hb.trans (by go_grown)⟩
      case measure => (simp [intOf]; omega)
    · obtain ⟨w1, rfl⟩ : ∃ w1 : World, w1 = wr := ⟨_, rfl⟩
      go_wp2_with (go_at_call 17; (with_reducible refine (HREP.out _ _ _ (by simp) (by simp)).mono ?_); rintro e w2 ⟨rfl, hO, hb2⟩)
      rw [show (w1.alloc (.cells #[.int .i64 (-1)] 3)).heap.size = w1.heap.size + 1 from by simp] at hO hb2
      have hb12 : Below w.heap.size w w2 := (hb.trans (by go_grown : Below w.heap.size w1 _)).trans (hb2.mono (by omega))
      have hO2 : Own w2 (w1.heap.size + 1) 3 (iv (tabZ n (saidF (q.take 0)))) := by rw [tabZ_rep]; exact hO
      go_upto_region 10 with fail
      obtain ⟨g, hg⟩ : ∃ g, w1.heap.size + 1 = g := ⟨_, rfl⟩
      have hgw : w.heap.size ≤ g := by omega
      rw [hg] at hO2 ⊢
      clear hO hb2 hg HREP hb hsz
      go_loopw [55] (fun i wr => ∃ k : Nat, k ≤ len ∧ i = .int .i64 k ∧ Own wr g 3 (iv (tabZ n (saidF (q.take k)))) ∧ Hid ((q.take k).map Prod.fst).Nodup ∧ Below w.heap.size w wr) (fun i _ => len - (intOf i).toNat)
      case atStart => exact ⟨0, Nat.zero_le _, rfl, hO2, Lib.hid (by simp), hb12⟩
      case round =>
        obtain ⟨k, hk, rfl, hown, HN, hb3⟩ := hrel
        have hg3 : g < wr.heap.size := hown.lt
        by_cases hlt : k < len
        · obtain ⟨ad, a, b, rfl, hbl, hd, hc0, hc1⟩ := RdN.at_ (hx.below hb3 (Nat.le_refl _)) (k := k) (by rw [HL.out]; exact hlt)
          obtain ⟨ha, hbn⟩ := HI.out _ (List.mem_of_getElem? hd)
          simp only at ha hbn
          have hca := hown.cell (j := a) (iv_at (tabZ_at (saidF (q.take k)) ha))
          have hfa := hown.frozen a
          by_cases hin : a ∈ (q.take k).map Prod.fst
          · have HNOT := Lib.hid (nodup_not hd hin)
            have hne : (saidF (q.take k) a != -1) = true := by
              have : saidF (q.take k) a ≠ -1 := fun h => (saidF_none.1 h) hin
              simp [this]
            obtain ⟨z, hz⟩ : ∃ z, saidF (q.take k) a = z := ⟨_, rfl⟩
            rw [hz] at hca hne
            clear hd hin hz
            go_wp2
            go_ret2
            exact ⟨.inr ⟨rfl, HNOT.out⟩, hb3.trans (by go_grown)⟩
          · have hne : (saidF (q.take k) a != -1) = false := by
              have : saidF (q.take k) a = -1 := saidF_none.2 hin
              simp [this]
            have h3 := OwnI.set hown a (b : Int)
            rw [tabZ_set (g := saidF (q.take (k + 1))) (saidF_one hd hin) fun i _ hi => saidF_other hd hi] at h3
            have H3 := Lib.hid h3
            have HN3 := Lib.hid (nodup_take hd HN.out hin)
            have hbs : Below w.heap.size w (wr.setCell ⟨g, a, none⟩ (.int .i64 (b : Int))) := hb3.setCell hgw _
            obtain ⟨z, hz⟩ : ∃ z, saidF (q.take k) a = z := ⟨_, rfl⟩
            rw [hz] at hca hne
            clear hd hin hz h3 hown
            go_wp2
            go_round
            case rel => exact ⟨k + 1, by omega, by go_num, H3.out.alloc _, HN3, hbs.trans (by go_grown)⟩
            case measure => (simp [intOf]; omega)
        · have hN : (q.map Prod.fst).Nodup := by
            have h := HN.out
            rwa [List.take_of_length_le (by rw [HL.out]; omega)] at h
          have hO4 : Own wr g 3 (iv (tabZ n (fun i => if i < 0 then ((nvF q i : Nat) : Int) else saidF q i))) := by
            have h := hown
            rw [List.take_of_length_le (by rw [HL.out]; omega)] at h
            rw [tabZ_congr (g := saidF q) fun i _ => by rw [if_neg (by omega)]]
            exact h
          have HNQ := Lib.hid hN
          clear hN hown HN
          obtain ⟨w4, rfl⟩ : ∃ w4 : World, w4 = wr := ⟨_, rfl⟩
          go_wp2
          go_loopw [74] (fun i wr => ∃ k : Nat, k ≤ n ∧ i = .int .i64 k ∧ Own wr g 3 (iv (tabZ n (fun i => if i < k then ((nvF q i : Nat) : Int) else saidF q i))) ∧ Below w.heap.size w wr) (fun i _ => n - (intOf i).toNat)
          case atStart => exact ⟨0, Nat.zero_le _, rfl, hO4, hb3⟩
          case round =>
            obtain ⟨k, hk, rfl, hown, hb5⟩ := hrel
            by_cases hlt : k < n
            · have hc := hown.cell (j := k) (iv_at (tabZ_at _ hlt))
              have hfz := hown.frozen k
              simp only [Nat.lt_irrefl, if_false] at hc
              have h3 := OwnI.set hown k (k : Int)
              have hbs : Below w.heap.size w (wr.setCell ⟨g, k, none⟩ (.int .i64 (k : Int))) := hb5.setCell hgw _
              obtain ⟨z, hz⟩ : ∃ z, saidF q k = z := ⟨_, rfl⟩
              have HZ := Lib.hid hz
              rw [hz] at hc
              clear hz
              by_cases hin : z = -1
              · have hne : (z == -1) = true := by simp [hin]
                have hno : k ∉ q.map Prod.fst := saidF_none.1 (HZ.out.trans hin)
                rw [tabZ_set (g := fun i => if i < k + 1 then ((nvF q i : Nat) : Int) else saidF q i) (by rw [if_pos (by omega), nvF_out hno]) fun i _ hi => by
                  by_cases h1 : i < k
                  · rw [if_pos h1, if_pos (by omega)]
                  · rw [if_neg h1, if_neg (by omega)]] at h3
                have H3 := Lib.hid h3
                clear h3 hin hno
                go_wp2
                go_round
                case rel => exact ⟨k + 1, by omega, by go_num, H3.out, hbs⟩
                case measure => (simp [intOf]; omega)
              · have hne : (z == -1) = false := by simp [hin]
                have HK : Hid (Own wr g 3 (iv (tabZ n (fun i => if i < k + 1 then ((nvF q i : Nat) : Int) else saidF q i)))) := Lib.hid (by
                  rw [tabZ_congr (g := fun i => if i < k then ((nvF q i : Nat) : Int) else saidF q i) fun i _ => ?_]
                  · exact hown
                  · by_cases h1 : i < k
                    · rw [if_pos h1, if_pos (by omega)]
                    · by_cases h2 : i = k
                      · subst h2
                        rw [if_pos (by omega), if_neg h1]
                        exact (saidF_keep (by rw [HZ.out]; exact hin)).symm
                      · rw [if_neg h1, if_neg (by omega)])
                clear h3 hin hbs
                go_wp2
                go_round
                case rel => exact ⟨k + 1, by omega, by go_num, HK.out, hb5⟩
                case measure => (simp [intOf]; omega)
            · have hkn : k = n := by omega
              have hT : TabAt wr g n (nvF q) := by
                unfold TabAt
                rw [tabZ_nat, tabZ_congr (g := fun i => if i < k then ((nvF q i : Nat) : Int) else saidF q i) fun i hi => by rw [if_pos (by omega)]]
                exact hown
              subst hkn
              go_wp2
              go_ret2
              exact ⟨.inl ⟨g, rfl, hgw, hT, HNQ.out⟩, hb5⟩

end Go.Proofs.Ytlknmfabfmmggaa
