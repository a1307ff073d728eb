/-
  Several texts in one: PureJoined, SnSetters, SnJoined, SnOrd.
-/
import Derived.Test.YtgcjknibelfjbaaPureNames
import Derived.Test.YtgcjknibelfjbaaMPure
import Derived.Test.YtgcjknibelfjbaaBlockOpen
import Derived.Test.YtgcjknibelfjbaaMBase
import Derived.Test.YtgcjknibelfjbaaRowsO
import Derived.Test.YtgcjknibelfjbaaRuleIs
import Derived.Test.YtgcjknibelfjbaaMRule
import Derived.Test.YtgcjknibelfjbaaMWay
import Derived.Test.YtgcjknibelfjbaaMSsa

/-
  Plain: which variables have joins where, row by row (M3).
-/

namespace Go.Proofs.Ytgcjknibelfjbaa
set_option linter.unusedSimpArgs false
set_option linter.unusedVariables false

/-- the variables joined at block r, of so many -/
def jvL (g : Nat → Nat → Bool) (n r : Nat) : List Nat := (List.range n).filter fun v => g v r

/-- the rows when V variables are through, and the next one for the blocks below k -/
def jR (g : Nat → Nat → Bool) (V k len : Nat) : List (List Int) := (List.range len).map fun r => ni (jvL g (if r < k then V + 1 else V) r)

theorem jvL_succ (g : Nat → Nat → Bool) (n r : Nat) : jvL g (n + 1) r = jvL g n r ++ (if g n r = true then [n] else []) := by
  unfold jvL
  rw [List.range_succ, List.filter_append]
  by_cases h : g n r = true
  · rw [if_pos h]
    simp [h]
  · rw [if_neg h]
    simp [h]

theorem jvL_len (g : Nat → Nat → Bool) (n r : Nat) : (jvL g n r).length ≤ n := by
  unfold jvL
  have := List.length_filter_le (fun v => g v r) (List.range n)
  simpa using this

theorem jR_len (g : Nat → Nat → Bool) (V k len : Nat) : (jR g V k len).length = len := by simp [jR]

theorem jR_at {g : Nat → Nat → Bool} {V k len r : Nat} (h : r < len) : (jR g V k len)[r]? = some (ni (jvL g (if r < k then V + 1 else V) r)) := by
  unfold jR
  rw [List.getElem?_map, List.getElem?_range h]
  rfl

theorem jR_zero (g : Nat → Nat → Bool) (len : Nat) : jR g 0 0 len = List.replicate len [] := by
  apply List.ext_getElem?
  intro r
  rcases Nat.lt_or_ge r len with h | h
  · rw [jR_at h, List.getElem?_replicate, if_pos h, if_neg (by omega)]
    rfl
  · rw [List.getElem?_eq_none (by rw [jR_len]; exact h), List.getElem?_eq_none (by simpa using h)]

theorem jR_hit {g : Nat → Nat → Bool} {V k len : Nat} (h : k < len) (hg : g V k = true) : jR g V (k + 1) len = (jR g V k len).set k (ni (jvL g V k) ++ [(V : Int)]) := by
  apply List.ext_getElem?
  intro r
  rcases Nat.lt_or_ge r len with hr | hr
  · by_cases e : r = k
    · subst e
      rw [jR_at hr, if_pos (by omega), List.getElem?_set_self (by rw [jR_len]; exact hr), jvL_succ, if_pos hg]
      simp [ni]
    · rw [jR_at hr, List.getElem?_set_ne (Ne.symm e), jR_at hr]
      by_cases h2 : r < k
      · rw [if_pos (by omega), if_pos h2]
      · rw [if_neg (by omega), if_neg h2]
  · rw [List.getElem?_eq_none (by rw [jR_len]; exact hr), List.getElem?_eq_none (by rw [List.length_set, jR_len]; exact hr)]

theorem jR_miss {g : Nat → Nat → Bool} {V k len : Nat} (hg : g V k = false) : jR g V (k + 1) len = jR g V k len := by
  apply List.ext_getElem?
  intro r
  rcases Nat.lt_or_ge r len with hr | hr
  · rw [jR_at hr, jR_at hr]
    by_cases e : r = k
    · subst e
      rw [if_pos (by omega), if_neg (by omega), jvL_succ, hg]
      simp
    · by_cases h2 : r < k
      · rw [if_pos (by omega), if_pos h2]
      · rw [if_neg (by omega), if_neg h2]
  · rw [List.getElem?_eq_none (by rw [jR_len]; exact hr), List.getElem?_eq_none (by rw [jR_len]; exact hr)]

theorem jR_next (g : Nat → Nat → Bool) (V len : Nat) : jR g V len len = jR g (V + 1) 0 len := by
  apply List.ext_getElem?
  intro r
  rcases Nat.lt_or_ge r len with hr | hr
  · rw [jR_at hr, jR_at hr, if_pos hr, if_neg (by omega)]
  · rw [List.getElem?_eq_none (by rw [jR_len]; exact hr), List.getElem?_eq_none (by rw [jR_len]; exact hr)]

/-- all of them -/
def jvA (g : Nat → Nat → Bool) (n len : Nat) : List (List Nat) := (List.range len).map fun r => jvL g n r

theorem jvA_at {g : Nat → Nat → Bool} {n len i : Nat} (h : i < len) : (jvA g n len).getD i [] = jvL g n i := by
  unfold jvA
  rw [List.getD_eq_getElem?_getD, List.getElem?_map, List.getElem?_range h]
  rfl

theorem jvA_out {g : Nat → Nat → Bool} {n len i : Nat} (h : ¬ i < len) : (jvA g n len).getD i [] = [] := by
  unfold jvA
  rw [List.getD_eq_getElem?_getD, List.getElem?_eq_none (by simp; omega)]
  rfl

theorem jR_full (g : Nat → Nat → Bool) (n len : Nat) : jR g n 0 len = (jvA g n len).map ni := by
  unfold jR jvA
  rw [List.map_map]
  apply List.map_congr_left
  intro r _
  simp

theorem jvL_nodup (g : Nat → Nat → Bool) (n r : Nat) : (jvL g n r).Nodup := List.nodup_range.sublist List.filter_sublist

theorem jvL_mem {g : Nat → Nat → Bool} {n r v : Nat} : v ∈ jvL g n r ↔ v < n ∧ g v r = true := by
  unfold jvL
  rw [List.mem_filter, List.mem_range]

end Go.Proofs.Ytgcjknibelfjbaa

/-
  single.setters, single.firstNames (M3).
-/

namespace Go.Proofs.Ytgcjknibelfjbaa
open Go.RowKit
set_option linter.unusedSimpArgs false
set_option linter.unusedVariables false
set_option maxRecDepth 100000

theorem bit_orp {W i j : Nat} : (W ||| 2 ^ i).testBit j = (W.testBit j || decide (i = j)) := by
  rw [Nat.testBit_or, Nat.testBit_two_pow]

/-- a block sets a variable -/
def SetsV (p : List Bk) (v : Int) (j : Nat) : Prop := ∃ s ∈ (p.getD j bk0).code, s.to = v

/-- the blocks below i that set it, and of i if so many of its steps do -/
def SwI (p : List Bk) (v : Int) (i k W : Nat) : Prop := W < 256 ∧ ∀ j, W.testBit j = true ↔ (j < i ∧ SetsV p v j) ∨ (j = i ∧ ∃ s ∈ (p.getD i bk0).code.take k, s.to = v)

theorem SwI.zero (p : List Bk) (v : Int) : SwI p v 0 0 0 := ⟨by omega, fun j => by simp⟩

theorem SwI.hit {p : List Bk} {v : Int} {i k W : Nat} {s : St} (h : SwI p v i k W) (hi : i < 8) (hs : (p.getD i bk0).code[k]? = some s) (e : s.to = v) : SwI p v i (k + 1) (W ||| 2 ^ i) := by
  refine ⟨Nat.or_lt_two_pow (n := 8) h.1 (Nat.pow_lt_pow_right (by decide) hi), fun j => ?_⟩
  rw [bit_orp, Bool.or_eq_true, h.2 j, decide_eq_true_eq]
  have hm : s ∈ (p.getD i bk0).code.take (k + 1) := by
    rw [List.take_add_one, hs]
    simp
  constructor
  · rintro ((h1 | ⟨h1, u, hu, h2⟩) | rfl)
    · exact .inl h1
    · refine .inr ⟨h1, u, ?_, h2⟩
      rw [List.take_add_one]
      exact List.mem_append_left _ hu
    · exact .inr ⟨rfl, s, hm, e⟩
  · rintro (h1 | ⟨h1, _⟩)
    · exact .inl (.inl h1)
    · exact .inr h1.symm

theorem SwI.miss {p : List Bk} {v : Int} {i k W : Nat} {s : St} (h : SwI p v i k W) (hs : (p.getD i bk0).code[k]? = some s) (e : s.to ≠ v) : SwI p v i (k + 1) W := by
  refine ⟨h.1, fun j => (h.2 j).trans ?_⟩
  rw [List.take_add_one, hs]
  simp only [Option.toList_some, List.mem_append, List.mem_singleton]
  constructor
  · rintro (h1 | ⟨h1, u, hu, h2⟩)
    · exact .inl h1
    · exact .inr ⟨h1, u, .inl hu, h2⟩
  · rintro (h1 | ⟨h1, u, hu | hu, h2⟩)
    · exact .inl h1
    · exact .inr ⟨h1, u, hu, h2⟩
    · subst hu
      exact absurd h2 e

theorem SwI.next {p : List Bk} {v : Int} {i k W : Nat} (h : SwI p v i k W) (hk : (p.getD i bk0).code.length ≤ k) : SwI p v (i + 1) 0 W := by
  refine ⟨h.1, fun j => (h.2 j).trans ?_⟩
  rw [List.take_of_length_le hk]
  simp only [List.take_zero, List.not_mem_nil, false_and, exists_false, and_false, or_false]
  constructor
  · rintro (h1 | ⟨rfl, h2⟩)
    · exact ⟨by omega, h1.2⟩
    · exact ⟨by omega, h2⟩
  · rintro ⟨h1, h2⟩
    by_cases e : j = i
    · subst e; exact .inr ⟨rfl, h2⟩
    · exact .inl ⟨by omega, h2⟩

theorem SwI.done {p : List Bk} {v : Int} {i W : Nat} (h : SwI p v i 0 W) : W < 256 ∧ ∀ j, W.testBit j = true ↔ j < i ∧ SetsV p v j :=
  ⟨h.1, fun j => (h.2 j).trans (by simp)⟩

set_option maxHeartbeats 8000000 in
theorem setters_any (A : Option Addr) (len cap : Nat) (p : List Bk) (v : Int) (w : World) (hx : RdP w w.heap.size A p) (hl : p.length = len) (h8 : len ≤ 8) (hco : ∀ b ∈ p, b.code.length ≤ 20) :
    Calls Try.prog 69 #[.slice A len cap, .int .i64 v] w fun e w' => ∃ m : Nat, e = .returned (.int .u32 (m : Nat)) ∧ (m < 256 ∧ ∀ j, m.testBit j = true ↔ j < len ∧ SetsV p v j) ∧ Below w.heap.size w w' := by
  have HL := Lib.hid hl
  have HCO := Lib.hid hco
  have H0 := Lib.hid (SwI.zero p v)
  have HX := Lib.hid hx
  clear hl hco hx
  go_enter Try.func69, Try.ntmps69
  go_wp2
  go_loopw [5, 12] (fun z5 z wr => ∃ i W : Nat, i ≤ len ∧ z = .int .i64 i ∧ z5 = .int .u32 (W : Nat) ∧ SwI p v i 0 W ∧ Below w.heap.size w wr) (fun _ z _ => len - (intOf z).toNat)
  case atStart => exact ⟨0, 0, Nat.zero_le _, rfl, rfl, H0.out, Below.refl _ _⟩
  case round =>
    obtain ⟨i, W, hi, rfl, rfl, hs, hb⟩ := hrel
    have HS := Lib.hid hs
    have hsz := hb.size
    clear hs
    by_cases hit : i < len
    · obtain ⟨ad, ⟨co, te, th, el⟩, Ac, cc, rfl, hbl, hd, hrc, e0, e1, e2, e3⟩ := (HX.out.below hb (Nat.le_refl _)).at_ (k := i) (by rw [HL.out]; exact hit)
      have hcl := HCO.out _ (List.mem_of_getElem? hd)
      have hg : p.getD i bk0 = ⟨co, te, th, el⟩ := by rw [List.getD_eq_getElem?_getD, hd]; rfl
      simp only [] at e0 e1 e2 e3 hrc hcl
      obtain ⟨n1, hn1⟩ : ∃ n, co.length = n := ⟨_, rfl⟩
      rw [hn1] at e0 hcl
      have HN1 := Lib.hid hn1
      have HRC := Lib.hid hrc
      have hi8 : i < 8 := by omega
      have HHIT := Lib.hid (fun (k W : Nat) (s : St) (h : SwI p v i k W) (hs : co[k]? = some s) (e : s.to = v) => h.hit hi8 (by rw [hg]; exact hs) e)
      have HMISS := Lib.hid (fun (k W : Nat) (s : St) (h : SwI p v i k W) (hs : co[k]? = some s) (e : s.to ≠ v) => h.miss (by rw [hg]; exact hs) e)
      have HNEXT := Lib.hid (fun (k W : Nat) (h : SwI p v i k W) (hk : n1 ≤ k) => h.next (by rw [hg]; simp only [hn1]; exact hk))
      clear hd hg hn1 hrc
      obtain ⟨wo, rfl⟩ : ∃ wo : World, wo = wr := ⟨_, rfl⟩
      go_wp2
      go_loopw [5, 20] (fun z5 z wr => ∃ k W : Nat, k ≤ n1 ∧ z = .int .i64 k ∧ z5 = .int .u32 (W : Nat) ∧ SwI p v i k W ∧ Below wo.heap.size wo wr) (fun _ z _ => n1 - (intOf z).toNat)
      case atStart => exact ⟨0, W, Nat.zero_le _, rfl, rfl, HS.out, by go_grown⟩
      case round =>
        obtain ⟨k, W2, hk, rfl, rfl, hs2, hb2⟩ := hrel
        have HS2 := Lib.hid hs2
        have hsz2 := hb2.size
        have hW2 := hs2.1
        clear hs2
        by_cases hkt : k < n1
        · obtain ⟨ad4, o, t, a, b, u, rfl, hbl5, hd4, g0, g1, g2, g3, g4⟩ := (RdS.below (RdS.more HRC.out hsz) hb2 (Nat.le_refl _)).at_ (k := k) (by rw [HN1.out]; exact hkt)
          by_cases htv : t = v
          · have HN := Lib.hid (HHIT.out k W2 _ HS2.out hd4 htv)
            have f1 : (t == v) = true := by simp [htv]
            have hp32 := pow_lt_32 (show i < 32 by omega)
            have HOR : Hid (bits .or .u32 ((W2 : Nat) : Int) ((2 : Int) ^ i % 4294967296) = ((W2 ||| 2 ^ i : Nat) : Int)) := Lib.hid (by rw [pow_u32' (by omega)]; exact u32_or_nat _ _ (by omega) hp32)
            clear hd4 htv
            go_wp2
            go_round
            case rel => exact ⟨k + 1, W2 ||| 2 ^ i, by omega, by go_num, by rw [HOR.out], HN.out, by go_grown⟩
            case measure => (simp [intOf]; omega)
          · have HN := Lib.hid (HMISS.out k W2 _ HS2.out hd4 htv)
            have f1 : (t == v) = false := by simp [htv]
            clear hd4 htv
            go_wp2
            go_round
            case rel => exact ⟨k + 1, W2, by omega, by go_num, rfl, HN.out, by go_grown⟩
            case measure => (simp [intOf]; omega)
        · have HN := Lib.hid (HNEXT.out k W2 HS2.out (by omega))
          go_wp2
          go_round
          case rel => exact ⟨i + 1, W2, by omega, by go_num, rfl, HN.out, hb.trans (hb2.mono hsz)⟩
          case measure => (simp [intOf]; omega)
    · have HD : Hid (W < 256 ∧ ∀ j, W.testBit j = true ↔ j < len ∧ SetsV p v j) := Lib.hid (by
        have := HS.out.done
        rwa [show i = len by omega] at this)
      go_wp2
      go_ret
      exact ⟨W, rfl, HD.out, hb⟩

set_option maxHeartbeats 4000000 in
theorem firstNames_any (n : Nat) (w : World) (hn : n ≤ 6) :
    Calls Try.prog 46 #[.int .i64 n] w fun e w' => ∃ A' c', e = .returned (.slice A' n c') ∧ RdI w' w'.heap.size A' (ni (List.range n)) ∧ Below w.heap.size w w' := by
  have hmk := make_ints (P := Try.prog) 26 3 Try.underlying26 (by kernel_rfl) n (by omega)
  go_enter Try.func46, Try.ntmps46
  go_wp2
  have hown1 := Own.new w 3 (iv (List.replicate n 0))
  go_loopw [9] (fun z wr => ∃ (k : Nat) (xs : List Int), k ≤ n ∧ z = .int .i64 k ∧ xs.length = n ∧ (∀ i, i < k → xs[i]? = some (i : Int)) ∧ Own wr w.heap.size 3 (iv xs) ∧ Below w.heap.size w wr) (fun z _ => n - (intOf z).toNat)
  case atStart => exact ⟨0, _, Nat.zero_le _, rfl, by simp, fun i hi => by omega, hown1, by go_grown⟩
  case round =>
    obtain ⟨k, xs, hk, rfl, hxl, hxs, hown, hb⟩ := hrel
    have HXL := Lib.hid hxl
    have HXS := Lib.hid hxs
    have hgl := hown.lt
    clear hxl hxs
    by_cases hlt : k < n
    · obtain ⟨x0, hx0⟩ : ∃ x0, xs[k]? = some x0 := ⟨_, List.getElem?_eq_getElem (by rw [HXL.out]; exact hlt)⟩
      have hcl := hown.cell (iv_at hx0)
      have hfr := hown.frozen k
      have HOW := Lib.hid (OwnI.set hown k (k : Int))
      have HSET : Hid (∀ i, i < k + 1 → (xs.set k (k : Int))[i]? = some (i : Int)) := Lib.hid fun i hi => by
        by_cases e : i = k
        · subst e
          exact List.getElem?_set_self (by rw [HXL.out]; exact hlt)
        · rw [List.getElem?_set_ne (fun h => e h.symm)]
          exact HXS.out i (by omega)
      clear hx0 hown
      go_wp2
      go_round
      case rel => exact ⟨k + 1, xs.set k (k : Int), by omega, by go_num, by rw [List.length_set]; exact HXL.out, HSET.out, HOW.out, hb.setCell (show w.heap.size ≤ (⟨w.heap.size, k, none⟩ : Addr).block from Nat.le_refl _) _⟩
      case measure => (simp [intOf]; omega)
    · have HE : Hid (xs = ni (List.range n)) := Lib.hid (by
        apply List.ext_getElem?
        intro i
        rcases Nat.lt_or_ge i n with h | h
        · rw [HXS.out i (by omega)]
          unfold ni
          rw [List.getElem?_map, List.getElem?_range h]
          rfl
        · rw [List.getElem?_eq_none (by rw [HXL.out]; exact h), List.getElem?_eq_none (by simp [ni]; exact h)])
      have HRD := Lib.hid (OwnI.rd hown)
      clear hown
      go_wp2
      go_ret
      exact ⟨_, n, rfl, by rw [← HE.out]; exact HRD.out.more hgl, hb⟩

end Go.Proofs.Ytgcjknibelfjbaa

/-
  single.joinedVars (M3): which variables have joins where.
-/

namespace Go.Proofs.Ytgcjknibelfjbaa
open Go.RowKit
set_option linter.unusedSimpArgs false
set_option linter.unusedVariables false
set_option maxRecDepth 100000

/-- the words of the blocks that set a variable; which variable is joined where -/
structure JvG (nx : List (List Int)) (p : List Bk) (sw : Nat → Nat) (g : Nat → Nat → Bool) : Prop where
  swB : ∀ v, sw v < 2 ^ p.length ∧ ∀ j, (sw v).testBit j = true ↔ j < p.length ∧ SetsV p v j
  gB : ∀ v i, g v i = true ↔ Mt nx (sw v) i

theorem jvG_ex (nx : List (List Int)) (p : List Bk) : ∃ sw g, JvG nx p sw g := by
  refine ⟨fun v => (word_of p.length fun j => SetsV p v j).choose, fun v i => @decide (Mt nx ((word_of p.length fun j => SetsV p v j).choose) i) (Classical.propDecidable _), fun v => (word_of p.length fun j => SetsV p v j).choose_spec, fun v i => ?_⟩
  rw [@decide_eq_true_eq _ (Classical.propDecidable _)]

set_option maxHeartbeats 8000000 in
theorem joinedVars_any (n : Nat) (A A2 : Option Addr) (len cap c2 : Nat) (p : List Bk) (nx : List (List Int)) (sw : Nat → Nat) (g : Nat → Nat → Bool) (w : World) (hx : RdP w w.heap.size A p) (hg : RdG w w.heap.size A2 nx) (hl : p.length = len) (hnl : nx.length = len) (hc : ckWay nx = 0) (hn : n ≤ 6)
    (hco : ∀ b ∈ p, b.code.length ≤ 20) (hjv : JvG nx p sw g) :
    Calls Try.prog 44 #[.int .i64 n, .slice A len cap, .slice A2 len c2] w fun e w' => ∃ cs, e = .returned (.slice (some ⟨w.heap.size, 0, none⟩) len len) ∧ RowsO w' w.heap.size ((jvA g n len).map ni) cs ∧ Below w.heap.size w w' := by
  obtain ⟨b1, b2, b3⟩ := ckWay_bd hc
  have HC := Lib.hid hc
  have HL := Lib.hid hl
  have HNL := Lib.hid hnl
  have HCO := Lib.hid hco
  rw [hnl] at b1 b2
  have hmk := make_nils (P := Try.prog) 51 26 Try.underlying51 (by kernel_rfl) len (by omega)
  have HG := Lib.hid hjv.gB
  have HST := Lib.hid (fun (v : Nat) (Z : World) (h : RdP Z Z.heap.size A p) => setters_any A len cap p v Z h hl (by omega) hco)
  have HSW : Hid (∀ (v m : Nat), (m < 256 ∧ ∀ j, m.testBit j = true ↔ j < len ∧ SetsV p v j) → m = sw v) := Lib.hid fun v m hm => by
    apply Nat.eq_of_testBit_eq
    intro j
    rw [Bool.eq_iff_iff, hm.2 j, (hjv.swB v).2 j, hl]
  have HMT := Lib.hid (fun (v : Nat) (Z : World) (h : RdG Z Z.heap.size A2 nx) => ruleMeet_any A2 len c2 nx (sw v) Z h hnl (by have := (hjv.swB v).1; have h2 : 2 ^ p.length ≤ 2 ^ 8 := Nat.pow_le_pow_right (by decide) (by omega); omega) (by
    unfold ckMeet
    rw [if_pos hc, if_pos]
    rw [hnl, ← hl]
    exact (hjv.swB v).1))
  have HX := Lib.hid hx
  have HGR := Lib.hid hg
  have hR0 : RowsO (w.alloc (.cells (nils len).toArray 26)) w.heap.size (jR g 0 0 len) (nils len) := by
    rw [jR_zero]
    exact RowsO.nil (Own.new w 26 _)
  have HR0 := Lib.hid hR0
  clear hl hnl hc b3 hco hjv hx hg hR0
  go_enter Try.func44, Try.ntmps44
  go_wp2
  go_loopw [16] (fun z wr => ∃ (V : Nat) (cs : List Value), V ≤ n ∧ z = .int .i64 V ∧ RowsO wr w.heap.size (jR g V 0 len) cs ∧ Below w.heap.size w wr) (fun z _ => n - (intOf z).toNat)
  case atStart => exact ⟨0, _, Nat.zero_le _, rfl, HR0.out, by go_grown⟩
  case round =>
    obtain ⟨V, cs, hV, rfl, hrs, hb⟩ := hrel
    have hsz := hb.size
    have HRS := Lib.hid hrs
    clear hrs HR0
    by_cases hVt : V < n
    · go_wp2_with fail
      refine (HST.out V _ ((HX.out.below hb (Nat.le_refl _)).more hsz)).mono ?_
      rintro e w1 ⟨m, rfl, hm, hb1⟩
      have hmv := HSW.out V m hm
      subst hmv
      have hb01 := hb.trans (hb1.mono hsz)
      clear hm
      go_wp2_with fail
      refine (HMT.out V _ ((HGR.out.below hb01 (Nat.le_refl _)).more hb01.size)).mono ?_
      rintro e w2 ⟨M, hM, hMb, rfl, hb2⟩
      have hb02 := hb01.trans (hb2.mono hb01.size)
      have hbr2 : Below wr.heap.size wr w2 := hb1.trans (hb2.mono hb1.size)
      have HMB : Hid (∀ i, M.testBit i = g V i) := Lib.hid fun i => by rw [Bool.eq_iff_iff, hMb i, HG.out]
      have HRS2 := Lib.hid (HRS.out.quiet hbr2)
      clear hMb HRS
      go_wp2
      go_loopw [29] (fun z wr => ∃ (k : Nat) (cs : List Value), k ≤ len ∧ z = .int .i64 k ∧ RowsO wr w.heap.size (jR g V k len) cs ∧ Below w.heap.size w wr) (fun z _ => len - (intOf z).toNat)
      case atStart => exact ⟨0, cs, Nat.zero_le _, rfl, HRS2.out, hb02⟩
      case round =>
        obtain ⟨k, cs2, hk, rfl, hrs3, hb3⟩ := hrel
        have HRS3 := Lib.hid hrs3
        have hsz3 := hb3.size
        clear hrs3
        by_cases hkt : k < len
        · have hbk := HMB.out k
          cases hgk : g V k with
          | true =>
            rw [hgk] at hbk
            have hrow := jR_at (g := g) (V := V) (k := k) hkt
            rw [if_neg (by omega)] at hrow
            obtain ⟨A1, c1, hcs, hown1⟩ := HRS3.out.rows k _ hrow
            have hln := jvL_len g V k
            have HROW := Lib.hid hrow
            have HCS := Lib.hid hcs
            have HHIT := Lib.hid (jR_hit (len := len) hkt hgk)
            obtain ⟨ql, hql⟩ : ∃ ql, (ni (jvL g V k)).length = ql := ⟨_, rfl⟩
            have HQL := Lib.hid hql
            have hq6 : ql ≤ 6 := by rw [← hql]; simp [ni]; omega
            rw [hql] at hcs hown1
            have HOWN1 := Lib.hid hown1
            have hq0 := HRS3.out.own.cell hcs
            have hf0 := HRS3.out.own.frozen k
            have hgl := HRS3.out.own.lt
            have h63 : ql + 1 ≤ maxLen := by unfold maxLen; omega
            have hbig : (ql + 1) * 8 ≤ 140737488355328 := by omega
            have HBK := Lib.hid hbk
            clear hgk hrow hcs hown1 hql hln hbk
            go_wp2_with (first
              | (go_at_call 70; (with_reducible refine (wayHas_any M k _ (by omega) (by omega)).mono ?_); rw [HBK.out]; rintro e w1 ⟨rfl, rfl⟩)
              | (at_builtin; refine wpList_app' rfl (.tmp 40) (.tmp 42) 26 rfl (w.heap.size + 1) 3 1 8 int_app _ rfl (HOWN1.out.alloc _) [.int .i64 (V : Int)] rfl rfl (fun h => by cases h) (cells_at (by simp) _ _) (one_cell _) h63 hbig (by simp; omega) ?_; intro A5 c5 w5 hown5 hg5 hb5 hk5; have hO5 := (HRS3.out.own.alloc (.cells #[.int .i64 (V : Int)] 3)).below hb5 (Nat.lt_succ_self _); have hf5 := hO5.frozen k; have hc5 := hO5.cell HCS.out; have hbl5 := hO5.lt))
            have hap := RowsO.app (x := (V : Int)) (A' := A5) (c' := c5) (w' := w5) (X := wr.alloc (.cells #[.int .i64 (V : Int)] 3)) HRS3.out (by go_grown) HROW.out HCS.out (by rw [HQL.out]; exact hown5) (by rw [HQL.out]; exact hg5) (by rw [HQL.out]; exact hk5)
            rw [HQL.out, ← HHIT.out] at hap
            have HAP := Lib.hid hap
            clear hap
            go_round
            case rel => exact ⟨k + 1, _, by omega, by go_num, HAP.out, hb3.trans ((Below.mono ((by go_grown : Below wr.heap.size wr _)) (by omega)).trans ((hb5.mono (Nat.le_succ _)).setCell (Nat.le_refl _) _))⟩
            case measure => (simp [intOf]; omega)
          | false =>
            rw [hgk] at hbk
            have HBK := Lib.hid hbk
            have HRS4 : Hid (RowsO wr w.heap.size (jR g V (k + 1) len) cs2) := Lib.hid (by rw [jR_miss hgk]; exact HRS3.out)
            clear hgk hbk
            go_wp2_with (go_at_call 70; (with_reducible refine (wayHas_any M k _ (by omega) (by omega)).mono ?_); rw [HBK.out]; rintro e w1 ⟨rfl, rfl⟩)
            go_round
            case rel => exact ⟨k + 1, cs2, by omega, by go_num, HRS4.out, hb3⟩
            case measure => (simp [intOf]; omega)
        · have HRS4 : Hid (RowsO wr w.heap.size (jR g (V + 1) 0 len) cs2) := Lib.hid (by
            have := HRS3.out
            rw [show k = len by omega, jR_next] at this
            exact this)
          go_wp2
          go_round
          case rel => exact ⟨V + 1, cs2, by omega, by go_num, HRS4.out, hb3⟩
          case measure => (simp [intOf]; omega)
    · have HRD : Hid (RowsO wr w.heap.size ((jvA g n len).map ni) cs) := Lib.hid (by
        have := HRS.out
        rw [show V = n by omega, jR_full] at this
        exact this)
      go_wp2
      go_ret
      exact ⟨cs, rfl, HRD.out, hb⟩

end Go.Proofs.Ytgcjknibelfjbaa

/-
  single.blocksInTurn: the blocks in turn, those that are reached first (M3).
-/

namespace Go.Proofs.Ytgcjknibelfjbaa
open Go.RowKit
set_option linter.unusedSimpArgs false
set_option linter.unusedVariables false
set_option maxRecDepth 100000

/-- so far -/
def ordK (nx : List (List Int)) (k : Nat) : List Nat := (finL nx).reverse ++ (List.range k).filter fun i => decide (i ∉ finL nx)

theorem ordK_all (nx : List (List Int)) : ordK nx nx.length = ordS nx := rfl

theorem ordK_zero (nx : List (List Int)) : ordK nx 0 = (finL nx).reverse := by simp [ordK]

theorem ordK_has {nx : List (List Int)} {k : Nat} : k ∈ ordK nx k ↔ k ∈ finL nx := by
  unfold ordK
  rw [List.mem_append, List.mem_reverse, List.mem_filter, List.mem_range]
  constructor
  · rintro (h | h)
    · exact h
    · omega
  · exact .inl

theorem ordK_succ (nx : List (List Int)) (k : Nat) : ordK nx (k + 1) = if k ∈ finL nx then ordK nx k else ordK nx k ++ [k] := by
  unfold ordK
  rw [List.range_succ, List.filter_append]
  by_cases h : k ∈ finL nx
  · rw [if_pos h]
    simp [h]
  · rw [if_neg h]
    simp [h]

theorem ordK_len {nx : List (List Int)} (hc : ckWay nx = 0) (k : Nat) : (ordK nx k).length ≤ nx.length + k := by
  unfold ordK
  have h1 := fin_len hc
  have h2 := List.length_filter_le (fun i => decide (i ∉ finL nx)) (List.range k)
  rw [List.length_range] at h2
  rw [List.length_append, List.length_reverse]
  omega

set_option maxHeartbeats 1000000 in
theorem contains_any (A : Option Addr) (n c : Nat) (L : List Nat) (x B : Nat) (w : World) (hx : RdI w B A (ni L)) (hl : L.length = n) (hm : n ≤ 65536) :
    Calls Try.prog 71 #[.slice A n c, .int .i64 x] w fun e w' => e = .returned (.bool (decide (x ∈ L))) ∧ w = w' := by
  have HI := Lib.hid (index_any A n c L x B w hx hl hm)
  by_cases h : x ∈ L
  · have e1 : decide (x ∈ L) = true := by simp [h]
    have e2 : idxL L x = ((posL L x : Nat) : Int) := by unfold idxL; rw [if_pos h]
    rw [e1]
    rw [e2] at HI
    have e3 : decide (((posL L x : Nat) : Int) ≥ 0) = true := by simp
    have e4 : decide (0 ≤ ((posL L x : Nat) : Int)) = true := by simp
    obtain ⟨q, hq⟩ : ∃ q, posL L x = q := ⟨_, rfl⟩
    rw [hq] at HI e3 e4
    clear h e1 e2 hq hx hl
    go_enter Try.func71, Try.ntmps71
    go_wp2_with fail
    refine HI.out.mono ?_
    rintro e w1 ⟨rfl, rfl⟩
    go_wp2
    go_ret
    exact ⟨ret_bool (by simp), rfl⟩
  · have e1 : decide (x ∈ L) = false := by simp [h]
    have e2 : idxL L x = -1 := by unfold idxL; rw [if_neg h]
    rw [e1]
    rw [e2] at HI
    clear h e1 e2 hx hl
    go_enter Try.func71, Try.ntmps71
    go_wp2_with fail
    refine HI.out.mono ?_
    rintro e w1 ⟨rfl, rfl⟩
    go_wp2
    go_ret
    exact ⟨ret_bool (by decide), rfl⟩

set_option maxHeartbeats 1000000 in
theorem wayOrderO_any (A : Option Addr) (len cap : Nat) (nx : List (List Int)) (w : World) (hx : RdG w w.heap.size A nx) (hl : nx.length = len) (hc : ckWay nx = 0) :
    Calls Try.prog 63 #[.slice A len cap] w fun e w' => ∃ A' c', e = .returned (.tuple #[.slice A' (finL nx).length c', .int .i64 0]) ∧ w'.ownsRow w.heap.size 3 1 (.slice A' (finL nx).length c') (finL nx).length (iv (ni (finL nx).reverse)) ∧ Below w.heap.size w w' := by
  obtain ⟨b1, b2, _⟩ := ckWay_bd hc
  have HC := Lib.hid hc
  have HL := Lib.hid hl
  rw [hl] at b1 b2
  have hfl := fin_len hc
  rw [hl] at hfl
  have hf0 : 0 < (finL nx).length := by
    obtain ⟨p, hp⟩ := fin_last hc
    rw [hp]
    simp
  have hmm : len ≤ maxLen := by unfold maxLen; omega
  clear hc hl
  go_enter Try.func63, Try.ntmps63
  go_wp2_with fail
  refine (wayCheck_any A len cap nx _ hx HL.out hmm).mono ?_
  rintro e w1 ⟨rfl, hb1⟩
  rw [HC.out]
  have hx1 := (hx.below hb1 (Nat.le_refl _)).more hb1.size
  go_wp2_with fail
  refine (wayFin_any A len cap nx 0 _ hx1 HL.out HC.out (by omega)).mono ?_
  rintro e w2 ⟨A2, c2, rfl, hr2, hb2⟩
  rw [fiL_zero] at hr2 ⊢
  obtain ⟨m, hm⟩ : ∃ m, (finL nx).length = m := ⟨_, rfl⟩
  rw [hm] at hr2 hfl hf0
  have HM := Lib.hid hm
  obtain ⟨g, rfl⟩ : ∃ g, A2 = some ⟨g, 0, none⟩ := by
    rcases hr2.2 with ⟨hv, _⟩ | ⟨g, cap', cur, hv, _⟩
    · injection hv with h1 h2 h3
      omega
    · injection hv with h1
      exact ⟨g, h1⟩
  have hs2 := hb2.size
  rw [hm]
  clear hm
  go_wp2_with fail
  refine (reverse_any g m c2 (ni (finL nx)) w1.heap.size w2 hr2 (by simp [ni, HM.out]) hf0 (by omega) hs2).mono ?_
  rintro e w3 ⟨rfl, hr3, hb3⟩
  have he : (ni (finL nx)).reverse = ni (finL nx).reverse := by unfold ni; rw [List.map_reverse]
  rw [he] at hr3
  have HR3 := Lib.hid (own_mono hr3 hb1.size)
  have hbw : Below w.heap.size w w3 := hb1.trans ((hb2.trans hb3).mono hb1.size)
  clear hr3
  go_wp2
  go_ret2
  exact ⟨_, c2, by rw [HM.out]; rfl, by rw [HM.out]; exact HR3.out, hbw⟩

set_option maxHeartbeats 4000000 in
theorem blocksInTurn_any (A : Option Addr) (len cap : Nat) (nx : List (List Int)) (w : World) (hx : RdG w w.heap.size A nx) (hl : nx.length = len) (hc : ckWay nx = 0) :
    Calls Try.prog 45 #[.slice A len cap] w fun e w' => ∃ A' c', e = .returned (.slice A' len c') ∧ w'.ownsRow w.heap.size 3 1 (.slice A' len c') len (iv (ni (ordS nx))) ∧ Below w.heap.size w w' := by
  obtain ⟨b1, b2, _⟩ := ckWay_bd hc
  have HC := Lib.hid hc
  have HL := Lib.hid hl
  have HO := Lib.hid (wayOrderO_any A len cap nx w hx hl hc)
  rw [hl] at b1 b2
  have HLEN : Hid ((ordS nx).length = len) := Lib.hid (by
    have := (perm_range (ordS_nodup hc) (ordS_mem hc)).length_eq
    rw [this, List.length_range, hl])
  have HKL : Hid (∀ k, k ≤ len → (ordK nx k).length ≤ 16) := Lib.hid fun k hk => by
    have := ordK_len hc k
    omega
  clear hc hl hx
  go_enter Try.func45, Try.ntmps45
  go_wp2_with fail
  refine HO.out.mono ?_
  rintro e w1 ⟨A1, c1, rfl, hown, hb1⟩
  have HO1 := Lib.hid hown
  have hs1 := hb1.size
  clear hown HO
  go_wp2
  go_loopw [3, 13] (fun s3 z wr => ∃ (k m : Nat) (A5 : Option Addr) (c5 : Nat), k ≤ len ∧ z = .int .i64 k ∧ s3 = .slice A5 m c5 ∧ (ordK nx k).length = m ∧ wr.ownsRow w.heap.size 3 1 (.slice A5 m c5) m (iv (ni (ordK nx k))) ∧ Below w.heap.size w wr) (fun _ z _ => len - (intOf z).toNat)
  case atStart => exact ⟨0, _, A1, c1, Nat.zero_le _, rfl, rfl, by rw [ordK_zero, List.length_reverse], by rw [ordK_zero]; exact HO1.out, hb1⟩
  case round =>
    obtain ⟨k, m, A5, c5, hk, rfl, rfl, hm, hown, hb⟩ := hrel
    have hsz := hb.size
    have HM := Lib.hid hm
    have HOW := Lib.hid hown
    by_cases hlt : k < len
    · have hm16 : m ≤ 16 := by have := HKL.out k hk; omega
      have HCT := Lib.hid (fun (Z : World) (hZ : Below wr.heap.size wr Z) => contains_any A5 m c5 (ordK nx k) k _ Z (own_rdI (own_below hown hZ) (by simp [ni, hm])) hm (by omega))
      clear hm hown
      by_cases hin : k ∈ finL nx
      · have HS : Hid (ordK nx (k + 1) = ordK nx k) := Lib.hid (by rw [ordK_succ, if_pos hin])
        have HD : Hid (decide (k ∈ ordK nx k) = true) := Lib.hid (by rw [decide_eq_true_eq]; exact ordK_has.2 hin)
        rw [HD.out] at HCT
        clear hin
        go_wp2_with (go_at_call 71; (with_reducible refine (HCT.out _ (by go_grown)).mono ?_); rintro e w5 ⟨rfl, rfl⟩)
        go_round
        case rel => exact ⟨k + 1, m, A5, c5, by omega, by go_num, rfl, by rw [HS.out]; exact HM.out, by rw [HS.out]; exact HOW.out, hb⟩
        case measure => (simp [intOf]; omega)
      · have HS : Hid (ordK nx (k + 1) = ordK nx k ++ [k]) := Lib.hid (by rw [ordK_succ, if_neg hin])
        have HD : Hid (decide (k ∈ ordK nx k) = false) := Lib.hid (by rw [decide_eq_false_iff_not]; exact fun h => hin (ordK_has.1 h))
        rw [HD.out] at HCT
        have h63 : m + 1 ≤ maxLen := by unfold maxLen; omega
        have hbig : (m + 1) * 8 ≤ 140737488355328 := by omega
        clear hin
        go_wp2_with (first
          | (go_at_call 71; (with_reducible refine (HCT.out _ (by go_grown)).mono ?_); rintro e w5 ⟨rfl, rfl⟩)
          | (at_builtin; refine wpList_app' rfl (.tmp 20) (.tmp 22) 26 rfl w.heap.size 3 1 8 int_app _ rfl (HOW.out.alloc _) [.int .i64 (k : Int)] rfl rfl (fun h => by cases h) (cells_at (by simp) _ _) (one_cell _) h63 hbig (by simp; omega) ?_; intro A6 c6 w6 hown6 hg6 hb6 hk6))
        have HOW6 : Hid (w6.ownsRow w.heap.size 3 1 (.slice A6 (m + 1) c6) (m + 1) (iv (ni (ordK nx k ++ [k])))) := Lib.hid (by
          have e : iv (ni (ordK nx k ++ [k])) = iv (ni (ordK nx k)) ++ [.int .i64 (k : Int)] := by simp [ni, iv]
          rw [e]
          exact hown6)
        have hb7 : Below w.heap.size w w6 := Below.trans (Below.trans hb (Below.mono (by go_grown : Below wr.heap.size wr _) hsz)) hb6
        clear hown6 hg6 hb6 hk6
        go_round
        case rel => exact ⟨k + 1, m + 1, A6, c6, by omega, by go_num, rfl, by rw [HS.out, List.length_append, HM.out]; rfl, by rw [HS.out]; exact HOW6.out, hb7⟩
        case measure => (simp [intOf]; omega)
    · have HME : Hid (m = len) := Lib.hid (by
        rw [← hm, show k = nx.length by rw [HL.out]; omega, ordK_all]
        exact HLEN.out)
      have HRD : Hid (wr.ownsRow w.heap.size 3 1 (.slice A5 m c5) m (iv (ni (ordS nx)))) := Lib.hid (by
        have h1 := hown
        rw [show k = nx.length by rw [HL.out]; omega, ordK_all] at h1
        exact h1)
      clear hm hown
      go_wp2
      go_ret
      exact ⟨A5, c5, by rw [HME.out]; rfl, by have := HRD.out; rwa [HME.out] at this, hb⟩

end Go.Proofs.Ytgcjknibelfjbaa
