/-
  codemasonref.Hold: misses where what came, or was asked for, longest ago goes (P1).
-/
import Derived.Test.YtjnmohphinldkaaHoldMiss
import Derived.Test.YtjnmohphinldkaaPureHoldR
import Derived.BigQuiet
namespace Go.Proofs.Ytjnmohphinldkaa
open Go.RowKit
set_option linter.unusedSimpArgs false
set_option linter.unusedVariables false
set_option maxRecDepth 100000

theorem own_wroteH {g : Nat} {w w' : World} {base : Nat} {e : TypeId} {size : Nat} {v : Value} {n : Nat} {xs : List Value} (h : w.ownsRow base e size v n xs) (hw : Wrote g w w') (hne : v.ownBlock ≠ some g) : w'.ownsRow base e size v n xs := by
  refine ⟨h.1, ?_⟩
  rcases h.2 with h' | ⟨k, cap, cur, h1, h2, h3, h4⟩
  · exact .inl h'
  · refine .inr ⟨k, cap, cur, h1, h2, (hw.block k (Array.getElem?_eq_some_iff.1 h3).1 (fun e2 => hne ?_)).trans h3, h4⟩
    subst e2
    rw [h1]
    rfl

/-- two rows of ints, as long, of the call's own, apart -/
structure Tw2 (w : World) (B n : Nat) (p q : List Int) (A1 : Option Addr) (c1 : Nat) (A2 : Option Addr) (c2 : Nat) : Prop where
  r1 : w.ownsRow B 3 1 (.slice A1 n c1) n (iv p)
  r2 : w.ownsRow B 3 1 (.slice A2 n c2) n (iv q)
  ap : ∀ g, (Value.slice A1 n c1).ownBlock = some g → (Value.slice A2 n c2).ownBlock ≠ some g
  sz : B ≤ w.heap.size

section
variable {X Y : World} {B n : Nat} {p q : List Int} {A1 A2 : Option Addr} {c1 c2 : Nat}

theorem Tw2.nil {w : World} {B : Nat} (h : B ≤ w.heap.size) : Tw2 w B 0 [] [] none 0 none 0 := ⟨World.ownsRow_nil _ _ _ _, World.ownsRow_nil _ _ _ _, (fun g h => by simp [Value.ownBlock] at h), h⟩

theorem Tw2.quiet (h : Tw2 X B n p q A1 c1 A2 c2) (hb : Below X.heap.size X Y) : Tw2 Y B n p q A1 c1 A2 c2 := ⟨own_below h.r1 hb, own_below h.r2 hb, h.ap, Nat.le_trans h.sz hb.size⟩

theorem Tw2.keep2 {Z : World} (h : Tw2 X B n p q A1 c1 A2 c2) (hb : Below X.heap.size X Y) (hg : Y.grownBy Z (Value.slice A1 n c1).ownBlock) : Z.ownsRow B 3 1 (.slice A2 n c2) n (iv q) := (own_below h.r2 hb).kept hg (by
  cases he : (Value.slice A2 n c2).ownBlock with
  | none => exact .inl rfl
  | some g => exact .inr fun e => h.ap g e.symm he)

/-- one appended to each -/
theorem Tw2.app {Z W : World} (h : Tw2 X B n p q A1 c1 A2 c2) {x y : Int} {A1' A2' : Option Addr} {c1' c2' : Nat}
    (ho : Y.ownsRow B 3 1 (.slice A1' (n + 1) c1') (n + 1) (iv p ++ [.int .i64 x])) (hg : X.grownBy Y (Value.slice A1 n c1).ownBlock)
    (hp : (Value.slice A1' (n + 1) c1').ownBlock = (Value.slice A1 n c1).ownBlock ∨ (Value.slice A1' (n + 1) c1').ownBlock = some X.heap.size)
    (hYZ : Below Y.heap.size Y Z)
    (ho2 : W.ownsRow B 3 1 (.slice A2' (n + 1) c2') (n + 1) (iv q ++ [.int .i64 y])) (hg2 : Z.grownBy W (Value.slice A2 n c2).ownBlock)
    (hp2 : (Value.slice A2' (n + 1) c2').ownBlock = (Value.slice A2 n c2).ownBlock ∨ (Value.slice A2' (n + 1) c2').ownBlock = some Z.heap.size) :
    Tw2 W B (n + 1) (p ++ [x]) (q ++ [y]) A1' c1' A2' c2' := by
  have ho1 := own_below ho hYZ
  have hap : ∀ g, (Value.slice A1' (n + 1) c1').ownBlock = some g → (Value.slice A2 n c2).ownBlock ≠ some g := fun g hg1 hg2 => by
    rcases hp with hp | hp
    · exact h.ap g (by rw [← hp]; exact hg1) hg2
    · rw [hp] at hg1
      injection hg1 with hg1
      have := (h.r2.lt g hg2).2
      omega
  refine ⟨?_, by rw [show iv (q ++ [y]) = iv q ++ [.int .i64 y] by simp [iv]]; exact ho2, fun g hg1 hg2' => ?_, ?_⟩
  · rw [show iv (p ++ [x]) = iv p ++ [.int .i64 x] by simp [iv]]
    refine ho1.kept hg2 ?_
    cases he : (Value.slice A1' (n + 1) c1').ownBlock with
    | none => exact .inl rfl
    | some g => exact .inr fun e => hap g he e.symm
  · rcases hp2 with hp2 | hp2
    · exact hap g hg1 (by rw [← hp2]; exact hg2')
    · rw [hp2] at hg2'
      injection hg2' with hg2'
      have := (ho1.lt g hg1).2
      omega
  · exact Nat.le_trans (Nat.le_trans (Nat.le_trans h.sz hg.size) hYZ.size) hg2.size

end

/-- one of a row of ints of the call's own stored -/
theorem own_putI {w : World} {base : Nat} {A : Option Addr} {n c : Nat} {xs : List Int} (h : w.ownsRow base 3 1 (.slice A n c) n (iv xs)) (hx : xs.length = n) {i : Nat} (hi : i < n) (x : Int) :
    ∃ g, A = some ⟨g, 0, none⟩ ∧ base ≤ g ∧ g < w.heap.size ∧ (∃ v, w.cell? ⟨g, i, none⟩ = some v) ∧ w.frozen? ⟨g, i, none⟩ = false ∧ (w.setCell ⟨g, i, none⟩ (.int .i64 x)).ownsRow base 3 1 (.slice A n c) n (iv (xs.set i x)) ∧ Wrote g w (w.setCell ⟨g, i, none⟩ (.int .i64 x)) := by
  obtain ⟨g, cs, rfl, hb, hO, hcs, hnc, hcm, htk⟩ := own_open h (by omega)
  refine ⟨g, rfl, hb, hO.lt, ⟨_, hO.cell (List.getElem?_eq_getElem (by omega : i < cs.length))⟩, hO.frozen i, ?_, Wrote.set (p := ⟨g, i, none⟩) (⟨rfl, rfl, rfl, Nat.le_refl _, fun k _ _ => rfl⟩ : Wrote g w w) rfl _⟩
  refine own_shut (hO.set i (.int .i64 x)) hb (by rw [List.length_set]; exact hcs) hnc hcm ?_ (by rw [List.length_set]; exact hx)
  rw [List.take_set, htk]
  simp [iv, List.map_set]

/-- where r is among the first j; -1: nowhere -/
def AtI (P : List Int) (r : Int) (j : Nat) (z : Int) : Prop := z = -1 ∧ r ∉ P.take j ∨ ∃ t : Nat, z = t ∧ t < j ∧ P[t]? = some r

theorem AtI.zero (P : List Int) (r : Int) : AtI P r 0 (-1) := .inl ⟨rfl, by simp⟩

theorem AtI.here {P : List Int} {r : Int} {j : Nat} {z : Int} (h : P[j]? = some r) : AtI P r (j + 1) (j : Int) := .inr ⟨j, rfl, Nat.lt_succ_self j, h⟩

theorem AtI.next {P : List Int} {r y : Int} {j : Nat} {z : Int} (h : AtI P r j z) (hy : P[j]? = some y) (hn : y ≠ r) : AtI P r (j + 1) z := by
  rcases h with ⟨h1, h2⟩ | ⟨t, h1, h2, h3⟩
  · refine .inl ⟨h1, fun h => ?_⟩
    rw [List.take_add_one, hy, Option.toList_some, List.mem_append] at h
    rcases h with h | h
    · exact h2 h
    · exact hn (List.mem_singleton.1 h).symm
  · exact .inr ⟨t, h1, by omega, h3⟩

theorem pair_at {L : List (Int × Nat)} {i : Nat} {x : Int} (h : (L.map Prod.fst)[i]? = some x) : ∃ t, L[i]? = some (x, t) := by
  rw [List.getElem?_map] at h
  cases hl : L[i]? with
  | none => rw [hl] at h; cases h
  | some s =>
    rw [hl] at h
    injection h with h
    exact ⟨s.2, by rw [← h]⟩

theorem ni_get3 {ts : List Nat} {i : Nat} {y : Int} (h : (ni ts)[i]? = some y) : ∃ a, ts[i]? = some a ∧ y = (a : Int) := by
  unfold ni at h
  rw [List.getElem?_map] at h
  cases hl : ts[i]? with
  | none => rw [hl] at h; cases h
  | some a =>
    rw [hl] at h
    injection h with h
    exact ⟨a, rfl, h.symm⟩

theorem snd_at {L : List (Int × Nat)} {i a : Nat} (h : (L.map Prod.snd)[i]? = some a) : ∃ x, L[i]? = some (x, a) := by
  rw [List.getElem?_map] at h
  cases hl : L[i]? with
  | none => rw [hl] at h; cases h
  | some s =>
    rw [hl] at h
    injection h with h
    exact ⟨s.1, by rw [← h]⟩

/-- both stored at one place -/
theorem Tw2.put {w : World} {B n : Nat} {L : List (Int × Nat)} {A1 A2 : Option Addr} {c1 c2 : Nat} (h : Tw2 w B n (L.map Prod.fst) (ni (L.map Prod.snd)) A1 c1 A2 c2) (hL : L.length = n) {i : Nat} (hi : i < n) (r : Int) (k : Nat) :
    ∃ g1 g2, A1 = some ⟨g1, 0, none⟩ ∧ A2 = some ⟨g2, 0, none⟩ ∧ (∃ v, w.cell? ⟨g1, i, none⟩ = some v) ∧ w.frozen? ⟨g1, i, none⟩ = false ∧
      (∃ v, (w.setCell ⟨g1, i, none⟩ (.int .i64 r)).cell? ⟨g2, i, none⟩ = some v) ∧ (w.setCell ⟨g1, i, none⟩ (.int .i64 r)).frozen? ⟨g2, i, none⟩ = false ∧
      Tw2 ((w.setCell ⟨g1, i, none⟩ (.int .i64 r)).setCell ⟨g2, i, none⟩ (.int .i64 k)) B n ((L.set i (r, k)).map Prod.fst) (ni ((L.set i (r, k)).map Prod.snd)) A1 c1 A2 c2 ∧
      Below B w ((w.setCell ⟨g1, i, none⟩ (.int .i64 r)).setCell ⟨g2, i, none⟩ (.int .i64 k)) := by
  obtain ⟨g1, rfl, hb1, hl1, hc1, hf1, ho1, hw1⟩ := own_putI h.r1 (by rw [List.length_map, hL]) hi r
  have h2 : ∀ g, (Value.slice A2 n c2).ownBlock = some g → g ≠ g1 := fun g hg e => h.ap g1 rfl (by rw [hg, e])
  have hr2 := own_wroteH h.r2 hw1 (fun e => h2 g1 e rfl)
  obtain ⟨g2, rfl, hb2, hl2, hc2, hf2, ho2, hw2⟩ := own_putI hr2 (by simp [ni, hL]) hi (k : Int)
  have hne : g2 ≠ g1 := h2 g2 rfl
  have ho1b := own_wroteH ho1 hw2 (fun e => by
    have e2 : (some g1 : Option Nat) = some g2 := e
    injection e2 with e2
    exact hne e2.symm)
  refine ⟨g1, g2, rfl, rfl, hc1, hf1, hc2, hf2, ⟨?_, ?_, h.ap, ?_⟩, (hw1.below hb1 h.sz).trans (hw2.below hb2 (by have := hw1.size; have := h.sz; omega))⟩
  · rw [List.map_set]; exact ho1b
  · rw [List.map_set, show ni ((L.map Prod.snd).set i k) = (ni (L.map Prod.snd)).set i (k : Int) by simp [ni, List.map_set]]; exact ho2
  · have a1 := hw1.size
    have a2 := hw2.size
    have a3 := h.sz
    omega

/-- what was asked for is there: its mark alone is stored -/
theorem Tw2.put2 {w : World} {B n : Nat} {L : List (Int × Nat)} {A1 A2 : Option Addr} {c1 c2 : Nat} (h : Tw2 w B n (L.map Prod.fst) (ni (L.map Prod.snd)) A1 c1 A2 c2) (hL : L.length = n) {i t : Nat} {r : Int} (hi : L[i]? = some (r, t)) (k : Nat) :
    ∃ g2, A2 = some ⟨g2, 0, none⟩ ∧ (∃ v, w.cell? ⟨g2, i, none⟩ = some v) ∧ w.frozen? ⟨g2, i, none⟩ = false ∧
      Tw2 (w.setCell ⟨g2, i, none⟩ (.int .i64 k)) B n ((L.set i (r, k)).map Prod.fst) (ni ((L.set i (r, k)).map Prod.snd)) A1 c1 A2 c2 ∧ Below B w (w.setCell ⟨g2, i, none⟩ (.int .i64 k)) := by
  have hil : i < n := by rw [← hL]; exact (List.getElem?_eq_some_iff.1 hi).1
  obtain ⟨g2, rfl, hb2, hl2, hc2, hf2, ho2, hw2⟩ := own_putI h.r2 (by simp [ni, hL]) hil (k : Int)
  have ho1 := own_wroteH h.r1 hw2 (fun e => h.ap g2 e rfl)
  have hset : (L.map Prod.fst).set i r = L.map Prod.fst := by
    apply List.ext_getElem?
    intro j
    rw [List.getElem?_set]
    split
    · rename_i e
      subst e
      rw [if_pos (by rw [List.length_map, hL]; exact hil), List.getElem?_map, hi]; rfl
    · rfl
  refine ⟨g2, rfl, hc2, hf2, ⟨?_, ?_, h.ap, ?_⟩, hw2.below hb2 h.sz⟩
  · rw [List.map_set, hset]; exact ho1
  · rw [List.map_set, show ni ((L.map Prod.snd).set i k) = (ni (L.map Prod.snd)).set i (k : Int) by simp [ni, List.map_set]]; exact ho2
  · have a2 := hw2.size
    have a3 := h.sz
    omega

set_option maxHeartbeats 8000000 in
theorem refHold_any (b : Bool) (A : Option Addr) (len cap p : Nat) (refs : List Int) (w : World) (hx : RdI w w.heap.size A refs) (hl : refs.length = len) (hm : len ≤ 20) (hp1 : 1 ≤ p) (hp8 : p ≤ 8) :
    Calls Try.prog 15 #[.slice A len cap, .int .i64 p, .bool b] w fun e w' => e = .returned (.int .i64 (polG b p [] refs : Nat)) ∧ Below w.heap.size w w' := by
  have HL := Lib.hid hl
  have HFIN : Hid (∀ L m, RefI b p refs len L m → m = polG b p [] refs) := Lib.hid fun L m h => by rw [← hl] at h; exact h.fin
  obtain ⟨R, hR⟩ : ∃ R, polG b p [] refs = R := ⟨_, rfl⟩
  rw [hR] at HFIN ⊢
  clear hl hR
  go_enter Try.func15, Try.ntmps15
  go_wp2
  go_loopw [7, 8, 9, 19] (fun th wn ms i wr => ∃ (A1 : Option Addr) (c1 : Nat) (A2 : Option Addr) (c2 n k m : Nat) (L : List (Int × Nat)), k ≤ len ∧ i = .int .i64 k ∧ ms = .int .i64 m ∧ th = .slice A1 n c1 ∧ wn = .slice A2 n c2 ∧ n ≤ p ∧ m ≤ k ∧ Hid (L.length = n) ∧ Hid (RefI b p refs k L m) ∧
      Hid (Tw2 wr w.heap.size n (L.map Prod.fst) (ni (L.map Prod.snd)) A1 c1 A2 c2) ∧ Below w.heap.size w wr) (fun _ _ _ i _ => len - (intOf i).toNat)
  case atStart => exact ⟨none, 0, none, 0, 0, 0, 0, [], Nat.zero_le _, rfl, rfl, rfl, rfl, Nat.zero_le _, Nat.le_refl _, Lib.hid rfl, Lib.hid (RefI.start b p refs), Lib.hid (Tw2.nil (Nat.le_refl _)), Below.refl _ _⟩
  case round =>
    obtain ⟨A1, c1, A2, c2, n, k, m, L, hk, rfl, rfl, rfl, rfl, hnp, hmk, HLN, HI, HT, hbw⟩ := hrel
    by_cases hlt : k < len
    · obtain ⟨ad, r, rfl, hbl, hd, hcell⟩ := (hx.below hbw (Nat.le_refl _)).at_ (k := k) (by rw [HL.out]; exact hlt)
      have HD := Lib.hid hd
      have HPL : Hid ((L.map Prod.fst).length = n) := Lib.hid (by rw [List.length_map, HLN.out])
      have HQL : Hid ((ni (L.map Prod.snd)).length = n) := Lib.hid (by simp [ni, HLN.out])
      have HSZ := Lib.hid HT.out.sz
      have hwsz := hbw.size
      clear hd
      obtain ⟨wo, rfl⟩ : ∃ wo : World, wo = wr := ⟨_, rfl⟩
      go_wp2
      go_loop [12, 26] (fun a i => ∃ (j : Nat) (z : Int), j ≤ n ∧ i = .int .i64 j ∧ a = .int .i64 z ∧ Hid (AtI (L.map Prod.fst) r j z)) (fun _ i => n - (intOf i).toNat)
      case atStart => exact ⟨0, -1, Nat.zero_le _, rfl, rfl, Lib.hid (AtI.zero _ _)⟩
      case round =>
        obtain ⟨j, z, hj, rfl, rfl, HZ⟩ := hrel
        by_cases hjn : j < n
        · obtain ⟨ad1, y, rfl, hb1, hy, hc1⟩ := (own_rdI HT.out.r1 HPL.out).at_ (k := j) (by rw [HPL.out]; exact hjn)
          by_cases hyr : y = r
          · subst hyr
            have HZ2 : Hid (AtI (L.map Prod.fst) y (j + 1) (j : Int)) := Lib.hid (AtI.here (z := z) hy)
            clear hy
            go_wp2
            go_round
            case rel => exact ⟨j + 1, _, by omega, by go_num, rfl, HZ2⟩
            case measure => (simp [intOf]; omega)
          · have hbe : (y == r) = false := by simp [hyr]
            have HZ2 := Lib.hid (HZ.out.next hy hyr)
            clear hy hyr
            go_wp2
            go_round
            case rel => exact ⟨j + 1, _, by omega, by go_num, rfl, HZ2⟩
            case measure => (simp [intOf]; omega)
        · have hjn2 : j = n := by omega
          subst hjn2
          rcases HZ.out with ⟨rfl, hno⟩ | ⟨t, rfl, ht, hat⟩
          · have HNO : Hid (r ∉ L.map Prod.fst) := Lib.hid (by rwa [List.take_of_length_le (by rw [HPL.out]; exact Nat.le_refl _)] at hno)
            clear hno HZ
            by_cases hnp2 : j = p
            · have hbe : ((j : Int) == (p : Int)) = true := by simp [hnp2]
              subst hnp2
              go_wp2
              go_loopw [15, 51] (fun f i wr => ∃ (fk ik : Nat), ik ≤ j ∧ fk < j ∧ i = .int .i64 ik ∧ f = .int .i64 fk ∧ Hid (∀ s ∈ (L.map Prod.snd).take ik, (L.map Prod.snd).getD fk 0 ≤ s) ∧ Below wo.heap.size wo wr) (fun _ i _ => j - (intOf i).toNat)
              case atStart => exact ⟨0, 0, Nat.zero_le _, hp1, rfl, rfl, Lib.hid (by simp), Below.refl _ _⟩
              case round =>
                obtain ⟨fk, ik, hik, hfk, rfl, rfl, HMN, hb3⟩ := hrel
                have HT3 := Lib.hid (HT.out.quiet hb3)
                by_cases hij : ik < j
                · obtain ⟨ad2, y, rfl, hbl2, hy, hc2⟩ := (own_rdI HT3.out.r2 HQL.out).at_ (k := ik) (by rw [HQL.out]; exact hij)
                  obtain ⟨ad3, v, e3, hbl3, hv, hc3⟩ := (own_rdI HT3.out.r2 HQL.out).at_ (k := fk) (by rw [HQL.out]; exact hfk)
                  injection e3 with e3
                  subst e3
                  obtain ⟨ya, hya, rfl⟩ := ni_get3 hy
                  obtain ⟨va, hva, rfl⟩ := ni_get3 hv
                  have hgv : (L.map Prod.snd).getD fk 0 = va := by rw [List.getD_eq_getElem?_getD, hva]; rfl
                  have htk : (L.map Prod.snd).take (ik + 1) = (L.map Prod.snd).take ik ++ [ya] := by rw [List.take_add_one, hya]; rfl
                  by_cases hcmp : ya < va
                  · have HM2 : Hid (∀ s ∈ (L.map Prod.snd).take (ik + 1), (L.map Prod.snd).getD ik 0 ≤ s) := Lib.hid fun s hs => by
                      rw [List.getD_eq_getElem?_getD, hya]
                      rw [htk] at hs
                      rcases List.mem_append.1 hs with h | h
                      · have := HMN.out s h
                        rw [hgv] at this
                        show ya ≤ s
                        omega
                      · rw [List.mem_singleton.1 h]; exact Nat.le_refl _
                    clear hy hv hya hva hgv htk
                    go_wp2
                    go_quiet (fail)
                    go_wp2
                    go_round
                    case rel => exact ⟨ik, ik + 1, by omega, hij, by go_num, rfl, HM2, below_drewH hb3 _⟩
                    case measure => (simp [intOf]; omega)
                  · have HM2 : Hid (∀ s ∈ (L.map Prod.snd).take (ik + 1), (L.map Prod.snd).getD fk 0 ≤ s) := Lib.hid fun s hs => by
                      rw [htk] at hs
                      rcases List.mem_append.1 hs with h | h
                      · exact HMN.out s h
                      · rw [List.mem_singleton.1 h, hgv]; omega
                    clear hy hv hya hva hgv htk
                    go_wp2
                    go_quiet (fail)
                    go_wp2
                    go_round
                    case rel => exact ⟨fk, ik + 1, by omega, hfk, by go_num, rfl, HM2, below_drewH hb3 _⟩
                    case measure => (simp [intOf]; omega)
                · have hij2 : ik = j := by omega
                  obtain ⟨tk, htk⟩ : ∃ tk, (L.map Prod.snd)[fk]? = some tk := ⟨_, List.getElem?_eq_getElem (by rw [List.length_map, HLN.out]; exact hfk)⟩
                  obtain ⟨xk, hxk⟩ := snd_at htk
                  have HI2 : Hid (RefI b j refs (k + 1) (L.set fk (r, k)) (m + 1)) := Lib.hid (HI.out.out HD.out HNO.out HLN.out hxk (fun s hs => by
                    have := HMN.out s.2 (by rw [List.take_of_length_le (by rw [List.length_map, HLN.out]; omega)]; exact List.mem_map.2 ⟨s, hs, rfl⟩)
                    rw [List.getD_eq_getElem?_getD, htk] at this
                    exact this))
                  obtain ⟨g1, g2, rfl, rfl, ⟨v1, hv1⟩, hf1, ⟨v2, hv2⟩, hf2, hT4, hb4⟩ := HT3.out.put HLN.out hfk r k
                  have HT4 := Lib.hid hT4
                  have hb34 : Below w.heap.size w _ := (hbw.trans (hb3.mono hwsz)).trans hb4
                  clear htk hxk hT4
                  subst hij2
                  go_wp2
                  go_round
                  case rel => exact ⟨_, c1, _, c2, ik, k + 1, m + 1, L.set fk (r, k), by omega, by go_num, by go_num, rfl, rfl, hnp, by omega, Lib.hid (by rw [List.length_set]; exact HLN.out), HI2, HT4, hb34⟩
                  case measure => (simp [intOf]; omega)
            · have hbe : ((j : Int) == (p : Int)) = false := by simp; omega
              have HI2 : Hid (RefI b p refs (k + 1) (L ++ [(r, k)]) (m + 1)) := Lib.hid (HI.out.room HD.out HNO.out (by rw [HLN.out]; exact hnp2))
              have h63 : j + 1 ≤ maxLen := by unfold maxLen; omega
              have hbig : (j + 1) * 8 ≤ 140737488355328 := by omega
              have hsz := HSZ.out
              go_wp2_with (first
                | (at_builtin; refine wpList_app' rfl (.tmp 73) (.tmp 75) 22 rfl w.heap.size 3 1 8 int_app (iv (L.map Prod.fst)) rfl (own_below HT.out.r1 (by go_grown)) [.int .i64 r] rfl rfl (fun h => by cases h) (cells_at (by simp) _ _) (one_cell _) h63 hbig (by simp; omega) ?_; intro A5 c5 w5 hown5 hg5 hb5 hk5; have hr2 := Tw2.keep2 HT.out (by go_grown) hg5; have hs5 : w.heap.size ≤ w5.heap.size := Nat.le_trans HSZ.out (Nat.le_trans (by simp) hb5.size))
                | (at_builtin; refine wpList_app' rfl (.tmp 77) (.tmp 79) 22 rfl w.heap.size 3 1 8 int_app (iv (ni (L.map Prod.snd))) rfl (own_below hr2 (by go_grown)) [.int .i64 (k : Int)] rfl rfl (fun h => by cases h) (cells_at (by simp) _ _) (one_cell _) h63 hbig (by simp; omega) ?_; intro A6 c6 w6 hown6 hg6 hb6 hk6))
              go_round
              case rel =>
                have HT6 := (HT.out.quiet (by go_grown)).app hown5 hg5 hk5 (by go_grown) hown6 hg6 hk6
                exact ⟨A5, c5, A6, c6, j + 1, k + 1, m + 1, L ++ [(r, k)], by omega, by go_num, by go_num, rfl, rfl, by omega, by omega, Lib.hid (by rw [List.length_append, HLN.out]; rfl), HI2, Lib.hid (by rw [List.map_append, List.map_append, ni_append]; exact HT6), (hbw.trans ((by go_grown : Below w.heap.size wo _).trans hb5)).trans ((by go_grown : Below w.heap.size w5 _).trans hb6)⟩
              case measure => (simp [intOf]; omega)
          · have hat2 := hat
            obtain ⟨tm, htm⟩ := pair_at hat
            have hge : (0 : Int) ≤ (t : Int) := by omega
            cases b with
            | false =>
              have HI2 : Hid (RefI false p refs (k + 1) L m) := Lib.hid (HI.out.same HD.out (List.mem_of_getElem? hat))
              clear hat hat2 htm
              go_wp2
              go_round
              case rel => exact ⟨A1, c1, A2, c2, j, k + 1, m, L, by omega, by go_num, rfl, rfl, rfl, hnp, by omega, HLN, HI2, HT, hbw⟩
              case measure => (simp [intOf]; omega)
            | true =>
              have HI2 : Hid (RefI true p refs (k + 1) (L.set t (r, k)) m) := Lib.hid (HI.out.again HD.out htm)
              obtain ⟨g2, rfl, ⟨v2, hv2⟩, hf2, hT4, hb4⟩ := HT.out.put2 HLN.out htm k
              have HT4 := Lib.hid hT4
              have hb34 : Below w.heap.size w _ := hbw.trans hb4
              clear hat hat2 htm hT4
              go_wp2
              go_round
              case rel => exact ⟨A1, c1, _, c2, j, k + 1, m, L.set t (r, k), by omega, by go_num, rfl, rfl, rfl, hnp, by omega, Lib.hid (by rw [List.length_set]; exact HLN.out), HI2, HT4, hb34⟩
              case measure => (simp [intOf]; omega)
    · have hkn : k = len := by omega
      subst hkn
      have HM := Lib.hid (HFIN.out _ _ HI.out)
      go_wp2
      go_ret
      exact ⟨by rw [← HM.out]; rfl, hbw⟩

end Go.Proofs.Ytjnmohphinldkaa
