/-
  codemasonref.Fewest: the fewest misses, by all sets of things that can be there (P1).
-/
import Derived.Test.YtjnmohphinldkaaFewPut
import Derived.Test.YtjnmohphinldkaaFewSize
import Derived.Test.YtjnmohphinldkaaHasC
import Derived.Test.YtjnmohphinldkaaHoldIn
import Derived.Carry
namespace Go.Proofs.Ytjnmohphinldkaa
open Go.RowKit
set_option linter.unusedSimpArgs false
set_option linter.unusedVariables false
set_option maxRecDepth 100000

/-- the bit of r by the first i -/
def BitI (nm : List Int) (r : Int) (i B : Nat) : Prop := B = 0 ∧ r ∉ nm.take i ∨ ∃ j, j < i ∧ B = 2 ^ j ∧ nm[j]? = some r

theorem BitI.zero (nm : List Int) (r : Int) : BitI nm r 0 0 := .inl ⟨rfl, by simp⟩

theorem BitI.here {nm : List Int} {r : Int} {i : Nat} (h : nm[i]? = some r) : BitI nm r (i + 1) (2 ^ i) := .inr ⟨i, Nat.lt_succ_self i, rfl, h⟩

theorem BitI.next {nm : List Int} {r y : Int} {i B : Nat} (h : BitI nm r i B) (hy : nm[i]? = some y) (hn : y ≠ r) : BitI nm r (i + 1) B := by
  rcases h with ⟨h1, h2⟩ | ⟨j, h1, h2, h3⟩
  · refine .inl ⟨h1, fun h => ?_⟩
    rw [List.take_add_one, hy, Option.toList_some, List.mem_append] at h
    rcases h with h | h
    · exact h2 h
    · exact hn (List.mem_singleton.1 h).symm
  · exact .inr ⟨j, by omega, h2, h3⟩

/-- what the words gone through so far lead to -/
def StepS (p n j : Nat) (now : Nat → Option Nat) (left : Value → Prop) (W' k' : Nat) : Prop := ∃ W k, now W = some k ∧ ¬ left (.int .u32 (W : Nat)) ∧ SuccW p n j W k W' k'

theorem StepS.zero (p n j : Nat) (now : Nat → Option Nat) : CovI (StepS p n j now (fun _ => True)) (fun _ => none) := ⟨fun W k h => (by cases h), fun W k ⟨_, _, _, h, _⟩ => absurd trivial h⟩

theorem StepS.all {p n j : Nat} {now : Nat → Option Nat} {left : Value → Prop} (h : ∀ x v, fW now x = some v → ¬ left x) (W' k' : Nat) : StepS p n j now left W' k' ↔ NextS p n j now W' k' :=
  ⟨fun ⟨W, k, h1, _, h3⟩ => ⟨W, k, h1, h3⟩, fun ⟨W, k, h1, h3⟩ => ⟨W, k, h1, h _ _ (by rw [fW_at, h1]; rfl), h3⟩⟩

theorem word_ne {W V : Nat} : (Value.int .u32 (W : Nat)) ≠ .int .u32 (V : Nat) ↔ W ≠ V := by
  constructor
  · exact fun h e => h (by rw [e])
  · intro h e
    injection e with _ e
    exact h (by omega)

theorem StepS.more {p n j W k : Nat} {now : Nat → Option Nat} {left : Value → Prop} (hW : now W = some k) (W' k' : Nat) : StepS p n j now (fun x => left x ∧ x ≠ .int .u32 (W : Nat)) W' k' ↔ StepS p n j now left W' k' ∨ SuccW p n j W k W' k' := by
  constructor
  · rintro ⟨V, q, h1, h2, h3⟩
    by_cases hV : V = W
    · subst hV
      rw [hW] at h1
      injection h1 with h1
      subst h1
      exact .inr h3
    · exact .inl ⟨V, q, h1, fun h => h2 ⟨h, word_ne.2 hV⟩, h3⟩
  · rintro (⟨V, q, h1, h2, h3⟩ | h3)
    · exact ⟨V, q, h1, fun h => h2 h.1, h3⟩
    · exact ⟨W, k, hW, fun h => h.2 rfl, h3⟩

theorem SuccW.hit {p n j W k : Nat} (h : W.testBit j = true) (W' k' : Nat) : SuccW p n j W k W' k' ↔ W' = W ∧ k' = k := by
  unfold SuccW
  simp [h]

theorem SuccW.room {p n j W k : Nat} (h : W.testBit j = false) (hs : szW W n < p) (W' k' : Nat) : SuccW p n j W k W' k' ↔ W' = W ||| 2 ^ j ∧ k' = k + 1 := by
  unfold SuccW
  simp [h, hs]

theorem SuccW.out {p n j W k : Nat} (h : W.testBit j = false) (hs : ¬ szW W n < p) (W' k' : Nat) : SuccW p n j W k W' k' ↔ ∃ i, i < n ∧ W.testBit i = true ∧ W' = (W - 2 ^ i) ||| 2 ^ j ∧ k' = k + 1 := by
  unfold SuccW
  simp [h, hs]

/-- what is put by the first i of those that can go -/
def OutS (S : Nat → Nat → Prop) (j W k i : Nat) (W' k' : Nat) : Prop := S W' k' ∨ ∃ t, t < i ∧ W.testBit t = true ∧ W' = (W - 2 ^ t) ||| 2 ^ j ∧ k' = k + 1

theorem OutS.zero {S : Nat → Nat → Prop} {j W k : Nat} (W' k' : Nat) : S W' k' ↔ OutS S j W k 0 W' k' := ⟨.inl, fun h => h.resolve_right (by rintro ⟨t, ht, _⟩; omega)⟩

theorem OutS.skip {S : Nat → Nat → Prop} {j W k i : Nat} (h : W.testBit i = false) (W' k' : Nat) : OutS S j W k i W' k' ↔ OutS S j W k (i + 1) W' k' := by
  constructor
  · rintro (h1 | ⟨t, h1, h2, h3⟩)
    · exact .inl h1
    · exact .inr ⟨t, by omega, h2, h3⟩
  · rintro (h1 | ⟨t, h1, h2, h3⟩)
    · exact .inl h1
    · refine .inr ⟨t, ?_, h2, h3⟩
      have : t ≠ i := fun e => by rw [e, h] at h2; cases h2
      omega

theorem OutS.take {S : Nat → Nat → Prop} {j W k i : Nat} (h : W.testBit i = true) (W' k' : Nat) : (OutS S j W k i W' k' ∨ W' = (W - 2 ^ i) ||| 2 ^ j ∧ k' = k + 1) ↔ OutS S j W k (i + 1) W' k' := by
  constructor
  · rintro ((h1 | ⟨t, h1, h2, h3⟩) | h3)
    · exact .inl h1
    · exact .inr ⟨t, by omega, h2, h3⟩
    · exact .inr ⟨i, by omega, h, h3⟩
  · rintro (h1 | ⟨t, h1, h2, h3⟩)
    · exact .inl (.inl h1)
    · by_cases ht : t = i
      · subst ht
        exact .inr h3
      · exact .inl (.inr ⟨t, by omega, h2, h3⟩)

/-- the least so far -/
def LeastI (g : Nat → Option Nat) (left : Value → Prop) (z : Int) : Prop :=
  z = -1 ∧ (∀ W k, g W = some k → left (.int .u32 (W : Nat))) ∨ ∃ k : Nat, z = k ∧ (∃ W, g W = some k) ∧ ∀ W k', g W = some k' → ¬ left (.int .u32 (W : Nat)) → k ≤ k'

theorem LeastI.zero (g : Nat → Option Nat) : LeastI g (fun _ => True) (-1) := .inl ⟨rfl, fun _ _ _ => trivial⟩

theorem LeastI.take {g : Nat → Option Nat} {left : Value → Prop} {z : Int} {W k : Nat} (h : LeastI g left z) (hW : g W = some k) (hz : z < 0 ∨ (k : Int) < z) : LeastI g (fun x => left x ∧ x ≠ .int .u32 (W : Nat)) k := by
  refine .inr ⟨k, rfl, ⟨W, hW⟩, fun V q hV hl => ?_⟩
  by_cases hVW : V = W
  · subst hVW
    rw [hW] at hV
    injection hV with hV
    omega
  · have hl2 : ¬ left (.int .u32 (V : Nat)) := fun h2 => hl ⟨h2, word_ne.2 hVW⟩
    rcases h with ⟨_, h2⟩ | ⟨k0, h1, _, h3⟩
    · exact absurd (h2 V q hV) hl2
    · have := h3 V q hV hl2
      omega

theorem LeastI.keep {g : Nat → Option Nat} {left : Value → Prop} {z : Int} {W k : Nat} (h : LeastI g left z) (hW : g W = some k) (hz : 0 ≤ z) (hk : z ≤ k) : LeastI g (fun x => left x ∧ x ≠ .int .u32 (W : Nat)) z := by
  rcases h with ⟨h1, _⟩ | ⟨k0, h1, h2, h3⟩
  · omega
  · refine .inr ⟨k0, h1, h2, fun V q hV hl => ?_⟩
    by_cases hVW : V = W
    · subst hVW
      rw [hW] at hV
      injection hV with hV
      omega
    · exact h3 V q hV fun h4 => hl ⟨h4, word_ne.2 hVW⟩

theorem LeastI.done {p : Nat} {nm rs : List Int} {g : Nat → Option Nat} {left : Value → Prop} {z : Int} (h : LeastI g left z) (hc : CovI (RchW p nm rs) g) (hp : 1 ≤ p) (hl : ∀ x v, fW g x = some v → ¬ left x) : ∃ k : Nat, z = k ∧ Best p rs k := by
  have hl2 : ∀ W k, g W = some k → ¬ left (.int .u32 (W : Nat)) := fun W k hW => hl _ _ (by rw [fW_at, hW]; rfl)
  obtain ⟨k0, _, hb⟩ := best_min hp rs
  obtain ⟨d, hd⟩ := hb.run
  obtain ⟨k1, _, h1⟩ := hc.2 _ _ ⟨d, hd, rfl⟩
  rcases h with ⟨_, h2⟩ | ⟨k, rfl, h2, h3⟩
  · exact absurd (h2 _ _ h1) (hl2 _ _ h1)
  · exact ⟨k, rfl, cov_best hc h2 fun W k' hW => h3 W k' hW (hl2 W k' hW)⟩

theorem rch_small {p : Nat} {nm a : List Int} {W k : Nat} (h : RchW p nm a W k) : W < 2 ^ nm.length ∧ k ≤ a.length := by
  obtain ⟨d, h1, rfl⟩ := h
  exact ⟨wordOf_lt nm d, h1.le⟩

theorem CovI.none : CovI (fun _ _ => False) (fun _ => none) := ⟨fun _ _ h => by (cases h), fun _ _ h => h.elim⟩

theorem cov_start (p : Nat) (nm : List Int) : CovI (RchW p nm []) (putM (fun _ => none) 0 0) := (CovI.none.put 0 0).congr fun W k => by rw [rch_start]; simp

/-- while the words that can be there now are gone through: the next ones, in a map of their own, behind a box -/
structure FwI (wo wr : World) (bm : Nat) (g g' : Nat → Option Nat) (left : Value → Prop) (cnt : Nat) : Prop where
  rng : RngS Try.prog 36 wr bm (wo.heap.size + 2) (fW g) left cnt
  nxt : OwnS Try.prog 36 wr wo.heap.size (fW g')
  box : Own wr (wo.heap.size + 1) 37 [.map (some wo.heap.size)]
  bel : Below wo.heap.size wo wr
  bml : bm < wo.heap.size

theorem FwI.step {wo wr w6 : World} {bm : Nat} {g g' : Nat → Option Nat} {left left' : Value → Prop} {cnt cnt' : Nat} (h : FwI wo wr bm g g' left cnt) (hR : RngS Try.prog 36 w6 bm (wo.heap.size + 2) (fW g) left' cnt') (hw : Wrote (wo.heap.size + 2) wr w6) : FwI wo w6 bm g g' left' cnt' :=
  ⟨hR, h.nxt.keep (hw.block _ h.nxt.lt (by omega)), (hw.block _ h.box.lt (by omega)).trans h.box, h.bel.trans (hw.below (by omega) h.bel.size), h.bml⟩

theorem FwI.put {wo w6 w7 : World} {bm : Nat} {g g' g'' : Nat → Option Nat} {left : Value → Prop} {cnt : Nat} (h : FwI wo w6 bm g g' left cnt) (hS : OwnS Try.prog 36 w7 wo.heap.size (fW g'')) (hT : Turned wo.heap.size w6 w7) : FwI wo w7 bm g g'' left cnt := by
  have hb := h.bml
  exact ⟨h.rng.keep (hT.block _ (by omega)) (hT.block _ (by omega)), hS, (hT.block _ (by omega)).trans h.box, h.bel.trans (hT.below (Nat.le_refl _)), hb⟩

set_option maxHeartbeats 16000000 in
theorem fewest_any (A : Option Addr) (len cap p : Nat) (refs : List Int) (w : World) (hx : RdI w w.heap.size A refs) (hl : refs.length = len) (hm : len ≤ 20) (hp1 : 1 ≤ p) (hp8 : p ≤ 8) :
    Calls Try.prog 13 #[.slice A len cap, .int .i64 p] w fun e w' => (∃ k : Nat, Best p refs k ∧ e = .returned (.int .i64 k)) ∧ Below w.heap.size w w' := by
  have HL := Lib.hid hl
  have HX := Lib.hid hx
  have hmm := @run_makeMap Try.prog
  obtain ⟨NM, hNM⟩ : ∃ NM, nmF [] refs = NM := ⟨_, rfl⟩
  have HNM := Lib.hid hNM
  have HND : Hid NM.Nodup := Lib.hid (by rw [← hNM]; exact nmF_nodup refs [] List.nodup_nil)
  have HMEM : Hid (∀ x ∈ refs, x ∈ NM) := Lib.hid fun x hx => by rw [← hNM]; exact nmF_mem refs [] x (.inr hx)
  clear hl hx hNM
  go_enter Try.func13, Try.ntmps13
  go_wp2
  go_loopw [5, 24] (fun s i wr => ∃ (A1 : Option Addr) (c1 n k : Nat) (C : List Int), k ≤ len ∧ i = .int .i64 k ∧ s = .slice A1 n c1 ∧ n ≤ k ∧ Hid (C.length = n) ∧ Hid (nmF C (refs.drop k) = NM) ∧ wr.ownsRow w.heap.size 3 1 (.slice A1 n c1) n (iv C) ∧ Below w.heap.size w wr) (fun _ i _ => len - (intOf i).toNat)
  case atStart => exact ⟨none, 0, 0, 0, [], Nat.zero_le _, rfl, rfl, Nat.le_refl _, Lib.hid rfl, Lib.hid (by rw [List.drop_zero]; exact HNM.out), World.ownsRow_nil _ _ _ _, Below.refl _ _⟩
  case round =>
    obtain ⟨A1, c1, n, k, C, hk, rfl, rfl, hnk, HCL, HG, hown, hb⟩ := hrel
    have hsz := hb.size
    by_cases hlt : k < len
    · obtain ⟨ad, r, rfl, hbl, hd, hcell⟩ := (HX.out.below hb (Nat.le_refl _)).at_ (k := k) (by rw [HL.out]; exact hlt)
      have HDR := Lib.hid (drop_ref hd)
      have HH := Lib.hid (refHas_any A1 n c1 C r _ wr (own_rdI hown HCL.out) HCL.out (by unfold maxLen; omega))
      clear hd
      by_cases hr : r ∈ C
      · rw [decide_eq_true hr] at HH
        have HG2 : Hid (nmF C (refs.drop (k + 1)) = NM) := Lib.hid (by rw [← HG.out, HDR.out, nmF_in hr])
        clear hr
        go_wp2_with (go_at_call 18; (with_reducible refine HH.out.mono ?_); rintro e w1 ⟨rfl, rfl⟩)
        go_round
        case rel => exact ⟨A1, c1, n, k + 1, C, by omega, by go_num, rfl, by omega, HCL, HG2, hown, hb⟩
        case measure => (simp [intOf]; omega)
      · rw [decide_eq_false hr] at HH
        have HG2 : Hid (nmF (C ++ [r]) (refs.drop (k + 1)) = NM) := Lib.hid (by rw [← HG.out, HDR.out, nmF_new hr])
        have h63 : n + 1 ≤ maxLen := by unfold maxLen; omega
        have hbg : (n + 1) * 8 ≤ 140737488355328 := by omega
        clear hr
        go_wp2_with (first | (go_at_call 18; (with_reducible refine HH.out.mono ?_); rintro e w1 ⟨rfl, rfl⟩) | (at_builtin; refine wpList_app' rfl (.tmp 32) (.tmp 34) 22 rfl w.heap.size 3 1 8 int_app (iv C) rfl (own_below hown (by go_grown)) [.int .i64 r] rfl rfl (fun h => by cases h) (cells_at (by simp) _ _) (one_cell _) h63 hbg (by simp; omega) ?_; intro A5 c5 w5 hown5 hg5 hb5 hk5))
        go_round
        case rel => exact ⟨A5, c5, n + 1, k + 1, C ++ [r], by omega, by go_num, rfl, by omega, Lib.hid (by rw [List.length_append, HCL.out]; rfl), HG2, by rw [show iv (C ++ [r]) = iv C ++ [.int .i64 r] by simp [iv]]; exact hown5, hb.trans ((by go_grown : Below w.heap.size wr _).trans hb5)⟩
        case measure => (simp [intOf]; omega)
    · have hkn : k = len := by omega
      subst hkn
      have hCN : C = NM := by rw [← HG.out, ← HL.out, List.drop_length]; rfl
      subst hCN
      obtain ⟨wn, rfl⟩ : ∃ wn : World, wn = wr := ⟨_, rfl⟩
      have hx0 := (HX.out.below hb (Nat.le_refl _)).more hb.size
      have hnm0 := own_rdI hown HCL.out
      clear HG hown
      have HS0 : Hid (OwnS Try.prog 36 (wn.alloc (.map #[] 0)) wn.heap.size (fW (fun _ => none))) := Lib.hid ((OwnS.new wn).congr fun x => (fW_none x).symm)
      have HP0 := Lib.hid (fW_put (g := fun _ => none) (W := 0) (k := 0) (fun o h => by cases h))
      have HK0 := Lib.hid (word_key (W := 0) (by omega))
      go_wp2_with (refine wpList_put_stamp rfl (.tmp 37) (.const (.int .u32 0)) (.const (.int .i64 0)) 37 (.inr rfl) word_keyed Try.underlying37 rfl HS0.out rfl rfl HK0.out HP0.out.1 HP0.out.2 ?_; intro w3 hS3 hT3)
      have hT3b : Below wn.heap.size wn w3 := (by go_grown : Below wn.heap.size wn _).trans (hT3.below (Nat.le_refl _))
      clear hT3
      obtain ⟨len, hlen⟩ : ∃ len, k = len := ⟨_, rfl⟩
      subst hlen
      have HNM0 := Lib.hid hnm0
      have HX0 := Lib.hid hx0
      have hwn := hb.size
      clear hnm0 hx0
      go_loopw [8, 41] (fun mv i wr => ∃ (t bm : Nat) (g : Nat → Option Nat), t ≤ k ∧ i = .int .i64 t ∧ mv = .map (some bm) ∧ wn.heap.size ≤ bm ∧ Hid (OwnS Try.prog 36 wr bm (fW g)) ∧ Hid (CovI (RchW p C (refs.take t)) g) ∧ Below wn.heap.size wn wr) (fun _ i _ => k - (intOf i).toNat)
      case atStart => exact ⟨0, wn.heap.size, _, Nat.zero_le _, rfl, rfl, Nat.le_refl _, Lib.hid hS3, Lib.hid (by rw [List.take_zero]; exact cov_start p C), hT3b⟩
      case round =>
        obtain ⟨t, bm, g, ht, rfl, rfl, hbm, HS, HC, hbn⟩ := hrel
        have hszn := hbn.size
        by_cases htl : t < k
        · obtain ⟨ad, r, rfl, hbl, hd, hcell⟩ := (HX0.out.below hbn (Nat.le_refl _)).at_ (k := t) (by rw [HL.out]; exact htl)
          have HD := Lib.hid hd
          have HTK : Hid (refs.take (t + 1) = refs.take t ++ [r]) := Lib.hid (by rw [List.take_add_one, hd]; rfl)
          have HRM : Hid (r ∈ C) := Lib.hid (HMEM.out r (List.mem_of_getElem? hd))
          have HTS : Hid (∀ x ∈ refs.take t, x ∈ C) := Lib.hid fun x hx => HMEM.out x (List.mem_of_mem_take hx)
          have HTL : Hid ((refs.take t).length ≤ 20) := Lib.hid (by rw [List.length_take]; omega)
          have HNR := Lib.hid (HNM0.out.below hbn (Nat.le_refl _))
          have hbml := HS.out.lt
          clear hd
          obtain ⟨wo, rfl⟩ : ∃ wo : World, wo = wr := ⟨_, rfl⟩
          go_wp2
          go_loop [11, 47] (fun b i => ∃ (j B : Nat), j ≤ n ∧ i = .int .i64 j ∧ b = .int .u32 (B : Nat) ∧ Hid (BitI C r j B)) (fun _ i => n - (intOf i).toNat)
          case atStart => exact ⟨0, 0, Nat.zero_le _, rfl, rfl, Lib.hid (BitI.zero _ _)⟩
          case round =>
            obtain ⟨j, B, hj, rfl, rfl, HB⟩ := hrel
            by_cases hjn : j < n
            · obtain ⟨ad1, y, rfl, hb1, hy, hc1⟩ := HNR.out.at_ (k := j) (by rw [HCL.out]; exact hjn)
              by_cases hyr : y = r
              · subst hyr
                have hj32 : j < 32 := by omega
                have hpe := pow_u32' (v := j) hj32
                have HB2 := Lib.hid (BitI.here hy)
                clear hy
                go_wp2
                go_round
                case rel => exact ⟨j + 1, 2 ^ j, by omega, by go_num, by first | rfl | (rw [hpe]), HB2⟩
                case measure => (simp [intOf]; omega)
              · have hbe : (y == r) = false := by simp [hyr]
                have HB2 := Lib.hid (HB.out.next hy hyr)
                clear hy hyr
                go_wp2
                go_round
                case rel => exact ⟨j + 1, _, by omega, by go_num, rfl, HB2⟩
                case measure => (simp [intOf]; omega)
            · have hjn2 : j = n := by omega
              subst hjn2
              rcases HB.out with ⟨_, hno⟩ | ⟨jr, hjr, rfl, hjat⟩
              · rw [List.take_of_length_le (by rw [HCL.out]; exact Nat.le_refl _)] at hno
                exact absurd HRM.out hno
              · have HJAT := Lib.hid hjat
                have hj32 : jr < 32 := by omega
                have HBJ : Hid (∀ W : Nat, (((W &&& 2 ^ jr : Nat) : Int) != 0) = W.testBit jr) := Lib.hid fun W => bit_and
                have hBl := pow_lt_32 hj32
                obtain ⟨B, hB⟩ : ∃ B, 2 ^ jr = B := ⟨_, rfl⟩
                have HBE := Lib.hid hB
                rw [hB] at HBJ hBl ⊢
                clear hjat HB hB
                go_wp2_with (at_range; refine wpList_range_stamp rfl (.tmp 61) 37 rfl Try.underlying37 rfl ((HS.out.alloc _).alloc _) ?_; intro w4 cnt4 hR4 hb4 hs4)
                have e2 : ((wo.alloc (.map #[] 0)).alloc (.cells #[.map (some wo.heap.size)] 37)).heap.size = wo.heap.size + 2 := by simp
                rw [e2] at hR4 hb4 hs4
                have HFW : Hid (FwI wo w4 bm g (fun _ => none) (fun _ => True) cnt4) := Lib.hid (by
                  have h1 : OwnS Try.prog 36 ((wo.alloc (.map #[] 0)).alloc (.cells #[.map (some wo.heap.size)] 37)) wo.heap.size (fW (fun _ => none)) := ((OwnS.new wo).congr fun x => (fW_none x).symm).alloc _
                  have h2 := Own.new (wo.alloc (.map #[] 0)) 37 [.map (some wo.heap.size)]
                  have e1 : (wo.alloc (.map #[] 0)).heap.size = wo.heap.size + 1 := by simp
                  rw [e1] at h2
                  exact ⟨hR4, h1.below hb4 (by omega), h2.below hb4 (by omega), (by go_grown : Below wo.heap.size wo _).trans (hb4.mono (by omega)), hbml⟩)
                clear hR4 hb4 hs4 e2
                go_loopw [16] (fun _ wr => ∃ (left : Value → Prop) (cnt : Nat) (g' : Nat → Option Nat), Hid (FwI wo wr bm g g' left cnt) ∧ Hid (CovI (StepS p j jr g left) g')) (fun _ wr => wr.rangeLeft bm (wo.heap.size + 2))
                case atStart => exact ⟨_, cnt4, _, HFW, Lib.hid (StepS.zero p j jr g)⟩
                case round =>
                  obtain ⟨left, cnt, g', HF, HCV⟩ := hrel
                  go_wp2_with (at_next; refine wpList_next_stamp rfl (.tmp 62) rfl rfl HF.out.rng ?_ ?_)
                  · intro hdone
                    have hcb := HF.out.box.cell (j := 0) rfl
                    have HC2 : Hid (CovI (RchW p C (refs.take (t + 1))) g') := Lib.hid (by
                      rw [HTK.out]
                      exact cov_step HND.out HTS.out HJAT.out HC.out (by rw [HCL.out]; exact HCV.out.congr (StepS.all hdone)))
                    clear hdone
                    go_wp2
                    go_round
                    case rel => exact ⟨t + 1, wo.heap.size, g', by omega, by go_num, rfl, hszn, Lib.hid HF.out.nxt, HC2, hbn.trans (HF.out.bel.mono hszn)⟩
                    case measure => (simp [intOf]; omega)
                  · intro key v w6 cnt6 hkey hf hlk hlt hR6 hw6 hs6 hen
                    obtain ⟨W, k0, rfl, rfl, hgW⟩ := fW_inv hf
                    have hsm := rch_small (HC.out.1 W k0 hgW)
                    have hk0 : k0 ≤ 20 := Nat.le_trans hsm.2 HTL.out
                    have hWn : W < 2 ^ j := by have := hsm.1; rwa [HCL.out] at this
                    have hp20 : 2 ^ j ≤ 1048576 := Nat.le_trans (Nat.pow_le_pow_right (by omega) (by omega : j ≤ 20)) (by omega)
                    have hW32 : W < 4294967296 := by omega
                    have HGW := Lib.hid hgW
                    have HWN := Lib.hid hWn
                    have HF6 := Lib.hid (HF.out.step hR6 hw6)
                    have HLT := Lib.hid hlt
                    have hand : bits .and .u32 (W : Int) (B : Int) = ((W &&& B : Nat) : Int) := u32_and_nat _ _ hW32 hBl
                    have hor : bits .or .u32 (W : Int) (B : Int) = ((W ||| B : Nat) : Int) := u32_or_nat _ _ hW32 hBl
                    have hor32 : W ||| B < 4294967296 := Nat.or_lt_two_pow (n := 32) hW32 hBl
                    have hbit := HBJ.out W
                    have hcast : ((k0 + 1 : Nat) : Int) = (k0 : Int) + 1 := by omega
                    have HSM : Hid (∀ W' k', StepS p j jr g (fun x => left x ∧ x ≠ .int .u32 (W : Nat)) W' k' ↔ StepS p j jr g left W' k' ∨ SuccW p j jr W k0 W' k') := Lib.hid (StepS.more hgW)
                    have HS32 : Hid (szW W 32 = szW W j) := Lib.hid (szW_32F hWn (by omega))
                    clear hkey hf hlk hgW hR6 hw6 hlt hsm hWn hp20
                    cases htb : W.testBit jr with
                    | true =>
                      rw [htb] at hbit
                      have HP := Lib.hid (put_any (wo.heap.size + 1) wo.heap.size g' W k0 w6 HF6.out.box HF6.out.nxt hW32)
                      have HC2 : Hid (CovI (StepS p j jr g (fun x => left x ∧ x ≠ .int .u32 (W : Nat))) (putM g' W k0)) := Lib.hid ((HCV.out.put W k0).congr fun W' k' => by rw [HSM.out, SuccW.hit htb])
                      obtain ⟨X, hX⟩ : ∃ X, W &&& B = X := ⟨_, rfl⟩
                      rw [hX] at hand hbit
                      clear htb hX hor hor32 hcast
                      go_wp2_with (go_at_call 25; (with_reducible refine HP.out.mono ?_); rintro e w7 ⟨rfl, hS7, hT7⟩)
                      go_round
                      case rel => exact ⟨_, cnt6, _, Lib.hid (HF6.out.put hS7 hT7), HC2⟩
                      case measure => rw [(HF6.out.put hS7 hT7).rng.left_eq, HF.out.rng.left_eq]; exact HLT.out
                    | false =>
                      rw [htb] at hbit
                      have HTB := Lib.hid htb
                      have HSZ := Lib.hid (sizeF_any W w6 hW32)
                      rw [HS32.out] at HSZ
                      obtain ⟨X, hX⟩ : ∃ X, W &&& B = X := ⟨_, rfl⟩
                      rw [hX] at hand hbit
                      clear htb hX
                      by_cases hsp : szW W j < p
                      · have HP := Lib.hid (put_any (wo.heap.size + 1) wo.heap.size g' (W ||| B) (k0 + 1) w6 HF6.out.box HF6.out.nxt hor32)
                        have HC2 : Hid (CovI (StepS p j jr g (fun x => left x ∧ x ≠ .int .u32 (W : Nat))) (putM g' (W ||| B) (k0 + 1))) := Lib.hid ((HCV.out.put (W ||| B) (k0 + 1)).congr fun W' k' => by rw [HSM.out, SuccW.room HTB.out hsp, HBE.out])
                        rw [hcast] at HP
                        obtain ⟨V, hV⟩ : ∃ V, W ||| B = V := ⟨_, rfl⟩
                        obtain ⟨S, hS⟩ : ∃ S, szW W j = S := ⟨_, rfl⟩
                        rw [hV] at hor HP HC2
                        rw [hS] at hsp HSZ
                        clear hV hS hcast hor32
                        go_wp2_with (first
                          | (go_at_call 26; (with_reducible refine HSZ.out.mono ?_); rintro e w8 ⟨rfl, rfl⟩)
                          | (go_at_call 25; (with_reducible refine HP.out.mono ?_); rintro e w7 ⟨rfl, hS7, hT7⟩))
                        go_round
                        case rel => exact ⟨_, cnt6, _, Lib.hid (HF6.out.put hS7 hT7), HC2⟩
                        case measure => rw [(HF6.out.put hS7 hT7).rng.left_eq, HF.out.rng.left_eq]; exact HLT.out
                      · have HSP := Lib.hid hsp
                        obtain ⟨S, hS⟩ : ∃ S, szW W j = S := ⟨_, rfl⟩
                        rw [hS] at hsp HSZ
                        clear hS hor hor32
                        obtain ⟨wm, rfl⟩ : ∃ wm : World, wm = wr := ⟨_, rfl⟩
                        go_wp2_with (go_at_call 26; (with_reducible refine HSZ.out.mono ?_); rintro e w8 ⟨rfl, rfl⟩)
                        go_loopw [18] (fun i wr => ∃ (ii : Nat) (g3 : Nat → Option Nat), ii ≤ j ∧ i = .int .i64 ii ∧ Hid (FwI wo wr bm g g3 (fun x => left x ∧ x ≠ .int .u32 (W : Nat)) cnt6) ∧ Hid (CovI (OutS (StepS p j jr g left) jr W k0 ii) g3)) (fun i _ => j - (intOf i).toNat)
                        case atStart => exact ⟨0, g', Nat.zero_le _, rfl, HF6, Lib.hid (HCV.out.congr OutS.zero)⟩
                        case round =>
                          obtain ⟨ii, g3, hii, rfl, HF7, HC7⟩ := hrel
                          by_cases hij : ii < j
                          · have hi32 : ii < 32 := by omega
                            have HBT := Lib.hid (bit_any W (ii : Int) wr hW32)
                            rw [bitB_32F W hi32] at HBT
                            cases hti : W.testBit ii with
                            | false =>
                              rw [hti] at HBT
                              have HC8 := Lib.hid (HC7.out.congr (OutS.skip hti))
                              clear hti
                              go_wp2_with (go_at_call 27; (with_reducible refine HBT.out.mono ?_); rintro e w9 ⟨rfl, rfl⟩)
                              go_round
                              case rel => exact ⟨ii + 1, g3, by omega, by go_num, HF7, HC8⟩
                              case measure => (simp [intOf]; omega)
                            | true =>
                              rw [hti] at HBT
                              have hge := Nat.ge_two_pow_of_testBit hti
                              have hpe := pow_u32' (v := ii) hi32
                              have hv32 : ((W - 2 ^ ii) ||| B) < 4294967296 := Nat.or_lt_two_pow (n := 32) (by omega) hBl
                              have HP := Lib.hid (put_any (wo.heap.size + 1) wo.heap.size g3 ((W - 2 ^ ii) ||| B) (k0 + 1) wr HF7.out.box HF7.out.nxt hv32)
                              have HC8 : Hid (CovI (OutS (StepS p j jr g left) jr W k0 (ii + 1)) (putM g3 ((W - 2 ^ ii) ||| B) (k0 + 1))) := Lib.hid ((HC7.out.put ((W - 2 ^ ii) ||| B) (k0 + 1)).congr fun W' k' => by rw [← OutS.take hti, HBE.out])
                              have hor2 : bits .or .u32 ((W - 2 ^ ii : Nat) : Int) (B : Int) = (((W - 2 ^ ii) ||| B : Nat) : Int) := u32_or_nat _ _ (by omega) hBl
                              have hq32 := pow_lt_32 hi32
                              rw [hcast] at HP
                              obtain ⟨V, hV⟩ : ∃ V, (W - 2 ^ ii) ||| B = V := ⟨_, rfl⟩
                              rw [hV] at hor2 HP HC8 hv32
                              obtain ⟨q, hq⟩ : ∃ q, 2 ^ ii = q := ⟨_, rfl⟩
                              rw [hq] at hge hpe hor2 hq32
                              obtain ⟨d, hd2⟩ : ∃ d, W - q = d := ⟨_, rfl⟩
                              have hsub : (W : Int) - (q : Int) = (d : Int) := by omega
                              rw [hd2] at hor2
                              clear hti hV hq hd2
                              go_wp2_with (first
                                | (go_at_call 27; (with_reducible refine HBT.out.mono ?_); rintro e w9 ⟨rfl, rfl⟩)
                                | (go_at_call 25; (with_reducible refine HP.out.mono ?_); rintro e w7 ⟨rfl, hS7, hT7⟩))
                              go_round
                              case rel => exact ⟨ii + 1, _, by omega, by go_num, Lib.hid (HF7.out.put hS7 hT7), HC8⟩
                              case measure => (simp [intOf]; omega)
                          · have hij2 : ii = j := by omega
                            have HC8 : Hid (CovI (StepS p j jr g (fun x => left x ∧ x ≠ .int .u32 (W : Nat))) g3) := Lib.hid (HC7.out.congr fun W' k' => by rw [HSM.out, SuccW.out HTB.out HSP.out, hij2]; rfl)
                            subst hij2
                            go_wp2
                            go_round
                            case rel => exact ⟨_, cnt6, g3, HF7, HC8⟩
                            case measure => rw [HF7.out.rng.left_eq, HF.out.rng.left_eq]; exact HLT.out
        · have htk : t = k := by omega
          subst htk
          have HCF : Hid (CovI (RchW p C refs) g) := Lib.hid (by have := HC.out; rwa [List.take_of_length_le (by rw [HL.out]; exact Nat.le_refl _)] at this)
          have HTL2 : Hid (refs.length ≤ 20) := Lib.hid (by rw [HL.out]; exact hm)
          obtain ⟨wo, rfl⟩ : ∃ wo : World, wo = wr := ⟨_, rfl⟩
          go_wp2_with (at_range; refine wpList_range_stamp rfl (.tmp 109) 37 rfl Try.underlying37 rfl HS.out ?_; intro w4 cnt4 hR4 hb4 hs4)
          go_frame
          go_loopw [19] (fun z wr => ∃ (left : Value → Prop) (cnt : Nat) (zz : Int), z = .int .i64 zz ∧ zz ≤ 20 ∧ -1 ≤ zz ∧ Hid (RngS Try.prog 36 wr bm wo.heap.size (fW g) left cnt) ∧ Hid (LeastI g left zz) ∧ Below wo.heap.size wo wr) (fun _ wr => wr.rangeLeft bm wo.heap.size)
          case atStart => exact ⟨_, cnt4, -1, rfl, by omega, by omega, Lib.hid hR4, Lib.hid (LeastI.zero g), hb4⟩
          case round =>
            obtain ⟨left, cnt, zz, rfl, hz1, hz2, HR, HLI, hb5⟩ := hrel
            go_wp2_with (at_next; refine wpList_next_stamp rfl (.tmp 110) rfl rfl HR.out ?_ ?_)
            · intro hdone
              obtain ⟨kk, rfl, hbest⟩ := HLI.out.done HCF.out hp1 hdone
              have HBEST := Lib.hid hbest
              clear hdone hbest
              go_wp2
              go_ret
              exact ⟨⟨kk, HBEST.out, rfl⟩, hb.trans ((hbn.trans (hb5.mono hszn)).mono hwn)⟩
            · intro key v w6 cnt6 hkey hf hlk hlt hR6 hw6 hs6 hen
              obtain ⟨W, k0, rfl, rfl, hgW⟩ := fW_inv hf
              have hk0 : k0 ≤ 20 := Nat.le_trans (rch_small (HCF.out.1 W k0 hgW)).2 HTL2.out
              have HGW := Lib.hid hgW
              have HR6 := Lib.hid hR6
              have hb6 : Below wo.heap.size wo w6 := hb5.trans (hw6.below (Nat.le_refl _) hb5.size)
              have HLT := Lib.hid hlt
              clear hkey hf hlk hgW hR6 hw6 hlt
              by_cases hc1 : zz < 0
              · have HL2 := Lib.hid (HLI.out.take HGW.out (.inl hc1))
                go_wp2
                go_round
                case rel => exact ⟨_, cnt6, _, rfl, by omega, by omega, HR6, HL2, hb6⟩
                case measure => rw [HR6.out.left_eq, HR.out.left_eq]; exact HLT.out
              · by_cases hc2 : (k0 : Int) < zz
                · have HL2 := Lib.hid (HLI.out.take HGW.out (.inr hc2))
                  go_wp2
                  go_round
                  case rel => exact ⟨_, cnt6, _, rfl, by omega, by omega, HR6, HL2, hb6⟩
                  case measure => rw [HR6.out.left_eq, HR.out.left_eq]; exact HLT.out
                · have HL2 := Lib.hid (HLI.out.keep HGW.out (by omega) (by omega))
                  go_wp2
                  go_round
                  case rel => exact ⟨_, cnt6, _, rfl, by omega, by omega, HR6, HL2, hb6⟩
                  case measure => rw [HR6.out.left_eq, HR.out.left_eq]; exact HLT.out

end Go.Proofs.Ytjnmohphinldkaa
