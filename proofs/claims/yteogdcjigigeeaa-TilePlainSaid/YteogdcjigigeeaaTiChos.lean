/-
  tile.choices and tile.Cost return what they say (W2).
-/
import Derived.Test.YteogdcjigigeeaaTiCho
namespace Go.Proofs.Yteogdcjigigeeaa
open Go.RowKit
set_option linter.unusedSimpArgs false
set_option linter.unusedVariables false
set_option maxRecDepth 100000

theorem make_chos {P : Program} (t e : TypeId) (ht : P.underlying t = some (.slice e)) (hi : (P.info? e).map (fun i => (i.zero, i.size, i.bytes)) = some (some (.agg #[.int .i64 0, .int .i64 0]), 2, 16)) (n : Nat) (hn : n ≤ 65536) (w : World) :
    (Instr.makeSlice t (.int .i64 (n : Int)) (.int .i64 (n : Int))).run P w = .ok (.slice (some ⟨w.heap.size, 0, none⟩) n n) (w.alloc (.cells (rv cCh (List.replicate n (some (0, 0)))).toArray e)) := by
  obtain ⟨i0, hi0, hz, hs, hb⟩ := info_parts hi
  have h := run_make (P := P) w t e i0 _ ht hi0 hz .i64 .i64 (n : Int) (n : Int) (by omega) (by omega) (by rw [hb]; omega) (by omega)
  simp only [Int.toNat_natCast, hs] at h
  rw [h]
  have hm : madeCells (Value.agg #[.int .i64 0, .int .i64 0]).cells (n * 2) = (rv cCh (List.replicate n (some (0, 0)))).toArray := by
    apply Array.ext
    · simp [madeCells, rv_len cCh_len]
    · intro j h1 h2
      have hj : j < n * 2 := by simpa [madeCells] using h1
      have h4 : j % 2 = 0 ∨ j % 2 = 1 := by omega
      have hg : (List.replicate n (some ((0 : Nat), (0 : Nat))))[j / 2]? = some (some (0, 0)) := by
        rw [List.getElem?_replicate, if_pos (by omega)]
      have h3 := rv_at cCh_len hg (i := j % 2) (by omega)
      rw [show j / 2 * 2 + j % 2 = j by omega] at h3
      have h5 : (rv cCh (List.replicate n (some ((0 : Nat), (0 : Nat))))).toArray[j]? = (rv cCh (List.replicate n (some ((0 : Nat), (0 : Nat)))))[j]? := by simp
      have h6 := (Array.getElem?_eq_getElem h2).symm.trans (h5.trans h3)
      rw [← Option.some_inj, h6]
      simp only [madeCells, Array.getElem_map, Array.getElem_range]
      rcases h4 with h4 | h4 <;> simp [Value.cells, h4, cCh]
  rw [hm]

theorem rv_setC : ∀ {qs : List Cho} {i : Nat} {x : Cho} {t c : Int}, i < qs.length → cCh x = [.int .i64 t, .int .i64 c] →
    ((rv cCh qs).set (i * 2) (.int .i64 t)).set (i * 2 + 1) (.int .i64 c) = rv cCh (qs.set i x)
  | [], _, _, _, _, h, _ => by simp at h
  | q :: qs, 0, x, t, c, h, hx => by
    have e1 : rv cCh (q :: qs) = cCh q ++ rv cCh qs := rfl
    have e2 : rv cCh ((q :: qs).set 0 x) = cCh x ++ rv cCh qs := rfl
    obtain ⟨a, b, hq⟩ : ∃ a b, cCh q = [a, b] := by cases q <;> exact ⟨_, _, rfl⟩
    rw [e1, e2, hx, hq]
    rfl
  | q :: qs, i + 1, x, t, c, h, hx => by
    have ih := rv_setC (qs := qs) (i := i) (by simpa using h) hx
    have e1 : rv cCh (q :: qs) = cCh q ++ rv cCh qs := rfl
    have e2 : rv cCh ((q :: qs).set (i + 1) x) = cCh q ++ rv cCh (qs.set i x) := rfl
    have far : ∀ (l : List Value) (k : Nat) (u : Value), (cCh q ++ l).set ((i + 1) * 2 + k) u = cCh q ++ l.set (i * 2 + k) u := fun l k u => by
      rw [List.set_append, if_neg (by rw [cCh_len]; omega), cCh_len, show (i + 1) * 2 + k - 2 = i * 2 + k by omega]
    rw [e1, e2, ← ih]
    have f0 := far (rv cCh qs) 0 (.int .i64 t)
    rw [Nat.add_zero, Nat.add_zero] at f0
    rw [f0, far]
    simp only [Nat.add_zero]

/-- ways in a block of the call's own -/
def OwnCh (X : World) (g : Nat) (qs : List Cho) : Prop := Own X g 47 (rv cCh qs)

theorem OwnCh.lt {X : World} {g : Nat} {qs : List Cho} (h : OwnCh X g qs) : g < X.heap.size := Own.lt h

theorem OwnCh.below {X X' : World} {g B : Nat} {qs : List Cho} (h : OwnCh X g qs) (hb : Below B X X') (hg : g < B) : OwnCh X' g qs := Own.below h hb hg

theorem OwnCh.far {X : World} {g : Nat} {qs : List Cho} (h : OwnCh X g qs) {p : Addr} (hp : g ≠ p.block) (u : Value) : OwnCh (X.setCell p u) g qs := Own.far h hp u

theorem OwnCh.cells {X : World} {g k : Nat} {qs : List Cho} {x : Cho} {t c : Int} (h : OwnCh X g qs) (hk : qs[k]? = some x) (hx : cCh x = [.int .i64 t, .int .i64 c]) : X.cell? ⟨g, k * 2, none⟩ = some (.int .i64 t) ∧ X.cell? ⟨g, k * 2 + 1, none⟩ = some (.int .i64 c) := by
  have h0 := rv_at cCh_len hk (i := 0) (by omega)
  have h1 := rv_at cCh_len hk (i := 1) (by omega)
  rw [hx, Nat.add_zero] at h0
  rw [hx] at h1
  exact ⟨Own.cell h h0, Own.cell h h1⟩

theorem OwnCh.put {X : World} {g k : Nat} {qs : List Cho} {x : Cho} {t c : Int} (h : OwnCh X g qs) (hk : k < qs.length) (hx : cCh x = [.int .i64 t, .int .i64 c]) : OwnCh ((X.setCell ⟨g, k * 2, none⟩ (.int .i64 t)).setCell ⟨g, k * 2 + 1, none⟩ (.int .i64 c)) g (qs.set k x) := by
  unfold OwnCh
  rw [← rv_setC hk hx]
  exact (Own.set h (k * 2) (.int .i64 t)).set (k * 2 + 1) (.int .i64 c)

theorem OwnCh.rd {X : World} {g : Nat} {qs : List Cho} (h : OwnCh X g qs) : RdCh X (g + 1) (some ⟨g, 0, none⟩) qs := fun _ =>
  ⟨⟨g, 0, none⟩, rfl, Nat.lt_succ_self _, fun j hj => by
    have e : (rv cCh qs)[j]? = some ((rv cCh qs).getD j undef) := by
      rw [List.getD_eq_getElem?_getD, List.getElem?_eq_getElem (by rw [rv_len cCh_len]; exact hj)]
      rfl
    have ha : (⟨g, 0, none⟩ : Addr).add j = ⟨g, j, none⟩ := by unfold Addr.add; split <;> simp_all
    rw [ha]
    exact Own.cell h e⟩

theorem rv_take {k : Nat} {qs : List Cho} {j : Nat} (hj : j < (qs.take k).length * 2) : (rv cCh (qs.take k)).getD j undef = (rv cCh qs).getD j undef := by
  have e : rv cCh qs = rv cCh (qs.take k) ++ rv cCh (qs.drop k) := by rw [← rv_append, List.take_append_drop]
  rw [e, List.getD_eq_getElem?_getD, List.getD_eq_getElem?_getD, List.getElem?_append_left (by rw [rv_len cCh_len]; exact hj)]

theorem RdCh.take {X : World} {B : Nat} {A : Option Addr} {qs : List Cho} (h : RdCh X B A qs) (k : Nat) : RdCh X B A (qs.take k) := fun hm => by
  have hle : (qs.take k).length ≤ qs.length := by simp; omega
  obtain ⟨ad, e, hb, hc⟩ := h (by omega)
  refine ⟨ad, e, hb, fun j hj => ?_⟩
  rw [hc j (by omega)]
  show some ((rv cCh qs).getD j undef) = some ((rv cCh (qs.take k)).getD j undef)
  rw [rv_take hj]

/-- the first k ways told, the others as made -/
def chK (l : List Tm) (ts : List Ti) (k : Nat) : List Cho := (List.range k).map (cho l ts) ++ List.replicate (l.length - k) (some (0, 0))

theorem chK_len {l : List Tm} {ts : List Ti} {k : Nat} (hk : k ≤ l.length) : (chK l ts k).length = l.length := by simp [chK]; omega

theorem chK_take {l : List Tm} {ts : List Ti} {k : Nat} : (chK l ts k).take k = (List.range k).map (cho l ts) := by
  unfold chK
  rw [List.take_append_of_le_length (by simp), List.take_of_length_le (by simp)]

theorem chK_zero {l : List Tm} {ts : List Ti} : chK l ts 0 = List.replicate l.length (some (0, 0)) := by simp [chK]

theorem chK_all {l : List Tm} {ts : List Ti} : chK l ts l.length = (List.range l.length).map (cho l ts) := by simp [chK]

theorem chK_next {l : List Tm} {ts : List Ti} {k : Nat} (hk : k < l.length) : (chK l ts k).set k (cho l ts k) = chK l ts (k + 1) := by
  unfold chK
  obtain ⟨m, hm⟩ : ∃ m, l.length - k = m + 1 := ⟨l.length - k - 1, by omega⟩
  have hm2 : l.length - (k + 1) = m := by omega
  rw [hm, hm2, List.set_append, if_neg (by simp), List.range_succ, List.map_append, List.append_assoc]
  simp [List.replicate_succ]

theorem chK_old {l : List Tm} {ts : List Ti} {k : Nat} (hk : k < l.length) : (chK l ts k)[k]? = some (some (0, 0)) := by
  unfold chK
  rw [List.getElem?_append_right (by simp), List.length_map, List.length_range, Nat.sub_self, List.getElem?_replicate, if_pos (by omega)]

/-- W1, W2: the code of both -/
def ckTl (vars : Int) (l : List Tm) (ts : List Ti) : Int := if ckTT vars l ts = 0 then (if cho l ts (l.length - 1) = none then 5 else 0) else ckTT vars l ts

theorem ckTT_ok {vars : Int} {l : List Tm} {ts : List Ti} (h : ckTT vars l ts = 0) : ckTree vars l = 0 ∧ ckTi ts = 0 := by
  unfold ckTT at h
  split at h
  · rename_i h1
    exact ⟨h1, h⟩
  · rename_i h1
    exact absurd h h1

theorem ckTl_ok {vars : Int} {l : List Tm} {ts : List Ti} (h : ckTl vars l ts = 0) : ckTT vars l ts = 0 ∧ ∃ n c, cho l ts (l.length - 1) = some (n, c) := by
  unfold ckTl at h
  split at h
  · rename_i h1
    split at h
    · cases h
    · rename_i h2
      cases hc : cho l ts (l.length - 1) with
      | none => exact absurd hc h2
      | some p => exact ⟨h1, p.1, p.2, rfl⟩
  · rename_i h1
    exact absurd h h1

/-- what choices returns -/
def chE (x : Cho) (g len : Nat) : Ending := match x with
  | none => .returned (.tuple #[.slice none 0 0, .int .i64 5])
  | some _ => .returned (.tuple #[.slice (some ⟨g, 0, none⟩) len len, .int .i64 0])

set_option maxHeartbeats 8000000 in
theorem choices_loop {vars : Int} (A : Option Addr) (len cap : Nat) (l : List Tm) (w : World) (hx : RdT w w.heap.size A l) (hl : l.length = len) (E : Option Addr) (tn te : Nat) (ts : List Ti) (ht : RdTi w w.heap.size E ts) (htl : ts.length = tn) (hck : ckTT vars l ts = 0) :
    Calls Try.prog 15 #[.int .i64 vars, .slice A len cap, .slice E tn te] w fun e w' => ∃ g, w.heap.size ≤ g ∧ OwnCh w' g ((List.range len).map (cho l ts)) ∧ Below w.heap.size w w' ∧
      e = chE (cho l ts (len - 1)) g len := by
  obtain ⟨hct, hcti⟩ := ckTT_ok hck
  obtain ⟨hct0, _, _⟩ := ckTree_ok hct
  obtain ⟨htn, hts⟩ := ckTi_ok hcti
  have hbt := ckTerms_bd hct0
  rw [htl] at htn
  rw [hl] at hbt
  have HL := Lib.hid hl
  have HCK := Lib.hid hck
  have HCH := Lib.hid (tiCheck_any vars A E len cap tn te l ts w hx hl ht htl)
  have HCO : Hid (∀ (W : World) (i : Nat) (o a b v : Int) (D : Option Addr) (dc : Nat), Below w.heap.size w W → l[i]? = some ⟨o, a, b, v⟩ → RdCh W W.heap.size D ((List.range i).map (cho l ts)) → Calls Try.prog 23 #[.slice A len cap, .agg #[.int .i64 o, .int .i64 a, .int .i64 b, .int .i64 v], .slice E tn te, .slice D i dc] W fun e w' => e = .returned (chV (cho l ts i)) ∧ Below W.heap.size W w') :=
    Lib.hid fun W i o a b v D dc hW hd hD => by
      have hti := tmA_at hd
      have h := choose_any A len cap l W ((hx.below hW (Nat.le_refl _)).more hW.size) hl hct0 i o a b v hd E tn te ts ((ht.below hW (Nat.le_refl _)).more hW.size) htl hts htn (cho l ts) D dc hD (fun j _ m x hj => cho_big hct0 hts hj)
      rw [← hti, ← cho_eq hct0] at h
      exact h
  have HXR : Hid (∀ W : World, Below w.heap.size w W → RdT W W.heap.size A l) := Lib.hid fun W hW => (hx.below hW (Nat.le_refl _)).more hW.size
  have hmk := make_chos (P := Try.prog) 43 47 Try.underlying43 (by kernel_rfl) len (by omega)
  have hlp : 0 < len := hbt.2.2.1
  have hl16 : len ≤ 16 := hbt.2.2.2
  clear hx ht hl htl hck hct hcti hct0 hts hbt
  go_enter Try.func15, Try.ntmps15
  go_wp2_with fail
  refine HCH.out.mono ?_
  rintro e w1 ⟨rfl, hb1⟩
  rw [HCK.out]
  go_wp2
  have hO : OwnCh (w1.alloc (.cells (rv cCh (List.replicate len (some (0, 0)))).toArray 47)) w1.heap.size (chK l ts 0) := by
    rw [chK_zero, HL.out]
    exact Own.new w1 _ _
  have hbO : Below w.heap.size w (w1.alloc (.cells (rv cCh (List.replicate len (some (0, 0)))).toArray 47)) := hb1.trans (Below.mono (by go_grown : Below w1.heap.size w1 _) hb1.size)
  obtain ⟨w2, hw2⟩ : ∃ w2, w2 = w1.alloc (.cells (rv cCh (List.replicate len (some (0, 0)))).toArray 47) := ⟨_, rfl⟩
  rw [← hw2] at hO hbO ⊢
  clear hw2
  have hg1 := hb1.size
  obtain ⟨g, hg⟩ : ∃ g, w1.heap.size = g := ⟨_, rfl⟩
  rw [hg] at hO hg1
  simp only [hg]
  clear hg
  go_loopw [24] (fun z wr => ∃ k : Nat, k ≤ len ∧ z = .int .i64 k ∧ OwnCh wr g (chK l ts k) ∧ Below w.heap.size w wr) (fun z _ => len - (intOf z).toNat)
  case atStart => exact ⟨0, Nat.zero_le _, rfl, hO, hbO⟩
  case round =>
    obtain ⟨k, hk, rfl, ho, hbr⟩ := hrel
    clear hO hbO
    have hgl := ho.lt
    by_cases hlt : k < len
    · obtain ⟨ad, o, a, b, v, rfl, hbl, hd, hc0, hc1, hc2, hc3⟩ := (HXR.out wr hbr).at_ (k := k) (by rw [HL.out]; exact hlt)
      have HD := Lib.hid hd
      have HOLD := Lib.hid (chK_old (ts := ts) (k := k) (by rw [HL.out]; exact hlt))
      have HNX := Lib.hid (chK_next (ts := ts) (k := k) (by rw [HL.out]; exact hlt))
      have HLE := Lib.hid (chK_len (ts := ts) (k := k) (by rw [HL.out]; exact hk))
      obtain ⟨z0, z1, hz⟩ : ∃ z0 z1, cCh (cho l ts k) = [.int .i64 z0, .int .i64 z1] := by
        cases cho l ts k with
        | none => exact ⟨_, _, rfl⟩
        | some p => exact ⟨_, _, rfl⟩
      have HZ := Lib.hid hz
      have HV : Hid (chV (cho l ts k) = .agg #[.int .i64 z0, .int .i64 z1]) := Lib.hid (by unfold chV; rw [hz])
      clear hd hz
      go_upto_region 8 with fail
      obtain ⟨X, hX⟩ : ∃ X, X = wr.alloc (.cells #[.int .i64 o, .int .i64 a, .int .i64 b, .int .i64 v] 39) := ⟨_, rfl⟩
      have hXB : Below wr.heap.size wr X := by rw [hX]; go_grown
      have HXT : Hid (Own X wr.heap.size 39 [.int .i64 o, .int .i64 a, .int .i64 b, .int .i64 v]) := Lib.hid (by rw [hX]; exact own_endT rfl _ [_, _, _, _])
      rw [← hX]
      have HOX := Lib.hid (ho.below hXB hgl)
      have HBX := Lib.hid (hbr.trans (hXB.mono hbr.size))
      have HGX := Lib.hid (Nat.lt_of_lt_of_le hgl hXB.size)
      have HRL := Lib.hid HXT.out.lt
      have HCO2 : Hid (∀ W : World, Below X.heap.size X W → Calls Try.prog 23 #[.slice (some ad) len cap, .agg #[.int .i64 o, .int .i64 a, .int .i64 b, .int .i64 v], .slice E tn te, .slice (some ⟨g, 0, none⟩) k len] W fun e w' => e = .returned (.agg #[.int .i64 z0, .int .i64 z1]) ∧ Below W.heap.size W w') :=
        Lib.hid fun W hW => by
          have h := HCO.out W k o a b v (some ⟨g, 0, none⟩) len (HBX.out.trans (hW.mono HBX.out.size)) HD.out (by
            have h1 := ((HOX.out.below hW HGX.out).rd.take k).more (B' := W.heap.size) (by have := (HOX.out.below hW HGX.out).lt; omega)
            rw [chK_take] at h1
            exact h1)
          rw [HV.out] at h
          exact h
      have hki : (k : Int) ≤ (len : Int) := by omega
      have hkl : (k : Int) < (len : Int) := by omega
      have hln : len ≠ 0 := by omega
      clear hX hXB ho hc0 hc1 hc2 hc3 hgl
      obtain ⟨nr, hnr⟩ : ∃ n, wr.heap.size = n := ⟨_, rfl⟩
      have HNR := Lib.hid hnr
      rw [hnr] at HXT HRL
      simp only [hnr]
      clear hnr
      refine wp_region_stepsB (X := Nat × (Unit)) (fun x w' => (x.1 ≤ 1 → Below X.heap.size X w') ∧ (2 ≤ x.1 → ∃ w5, Below X.heap.size X w5 ∧ w' = (w5.setCell ⟨g, k * 2, none⟩ (.int .i64 z0)).setCell ⟨g, k * 2 + 1, none⟩ (.int .i64 z1))) (fun x j => doneL [0, 0, 0, 0, 0, 0, 0, 0, 1, 0, 2] x.1 j) (effL [0, 0, 0, 0, 0, 0, 0, 0, 1, 0, 2]) (0, ()) (fun x => [.slice (some ⟨g, 0, none⟩) len len, .int .i64 (k : Nat), .slice (some ad) len cap, .agg #[.int .i64 o, .int .i64 a, .int .i64 b, .int .i64 v], .slice E tn te, .slice (some ⟨g, 0, none⟩) len len, .int .i64 (k : Nat), .slice (some ⟨g, 0, none⟩) k len, .agg #[.int .i64 z0, .int .i64 z1], .pointer (some ⟨g, k * 2, none⟩), undef]) _ (by kernel_rfl) (by kernel_rfl) (by kernel_rfl) (fun x => by simp only [putsD, Act.put, List.setIfInBounds_toArray, List.set_cons_zero, List.set_cons_succ]; exact rfl) h0L ⟨fun _ => Below.drew (Below.refl _ _), fun h => absurd h (by decide)⟩ (fun x => ?_) (fun x wz hDz hSz => ?_)
      · refine AllS.val (by rfl) (by rfl) (fun w hSw hPw => by go_simp) ?_
        refine AllS.val (by rfl) (by rfl) (fun w hSw hPw => by go_simp) ?_
        refine AllS.val (by rfl) (by rfl) (fun w hSw hPw => by go_simp) ?_
        refine AllS.val (by rfl) (by rfl) (fun w hSw hPw => ?_) ?_
        · (try dsimp only at hSw)
          have hn := leTi (hPw.not (j := 10) rfl (by kernel_rfl))
          have hq := HXT.out.below (hSw.1 hn) HRL.out
          have q0 := hq.cell (j := 0) rfl
          have q1 := hq.cell (j := 1) rfl
          have q2 := hq.cell (j := 2) rfl
          have q3 := hq.cell (j := 3) rfl
          go_simp
        refine AllS.val (by rfl) (by rfl) (fun w hSw hPw => by go_simp) ?_
        refine AllS.val (by rfl) (by rfl) (fun w hSw hPw => by go_simp) ?_
        refine AllS.val (by rfl) (by rfl) (fun w hSw hPw => by go_simp) ?_
        refine AllS.val (by rfl) (by rfl) (fun w hSw hPw => by go_simp) ?_
        refine AllS.turn (fun _ _ => rfl) (by rfl) (fun w hSw hPw K hK => ?_) ?_
        · (try dsimp only at hSw)
          have h0 := leTi (hPw.me rfl)
          have hq := hSw.1 (Nat.le_trans h0 (by decide))
          go_simp
          go_at_call 23
          (with_reducible refine (HCO2.out _ hq).mono ?_)
          rintro e w7 ⟨rfl, hb7⟩
          go_simp
          have hx0 : x.1 = 0 := by exact Nat.le_zero.1 h0
          obtain ⟨p, y⟩ := x
          (try dsimp only at hx0)
          subst hx0
          exact hK (1, y) _ (nxtL rfl (by decide)) ⟨fun _ => below_via hq hb7, fun h => absurd h (by simp)⟩
        refine AllS.val (by rfl) (by rfl) (fun w hSw hPw => by go_simp) ?_
        refine AllS.turn (fun _ _ => rfl) (by rfl) (fun w hSw hPw K hK => ?_) ?_
        · (try dsimp only at hSw)
          have h0 := leTi (hPw.me rfl)
          have h1 := geTi (hPw.need (k := 8) rfl (by kernel_rfl))
          have hq := hSw.1 h0
          have hx0 : x.1 = 1 := Nat.le_antisymm h0 h1
          obtain ⟨p, y⟩ := x
          (try dsimp only at hx0)
          subst hx0
          have hT5 := HOX.out.below hq HGX.out
          obtain ⟨u0, u1⟩ := hT5.cells HOLD.out rfl
          have v0 := Own.frozen hT5 (k * 2)
          have v1 := Own.frozen hT5 (k * 2 + 1)
          go_simp
          exact hK (2, y) _ (nxtL rfl (by decide)) ⟨fun h => absurd h (by simp), fun _ => ⟨_, hq, rfl⟩⟩
        exact AllS.nil
      obtain ⟨w5, hb5, rfl⟩ := hSz.2 (geTi (hDz 10 (by decide) (by decide)))
      have hput := (HOX.out.below hb5 HGX.out).put (k := k) (x := cho l ts k) (by rw [HLE.out, HL.out]; exact hlt) HZ.out
      rw [HNX.out] at hput
      have HPUT := Lib.hid hput
      have hbf := Lib.hid (((HBX.out.trans (hb5.mono HBX.out.size)).setCell (show w.heap.size ≤ (⟨g, k * 2, none⟩ : Addr).block by show w.heap.size ≤ g; omega) (.int .i64 z0)).setCell (show w.heap.size ≤ (⟨g, k * 2 + 1, none⟩ : Addr).block by show w.heap.size ≤ g; omega) (.int .i64 z1))
      have hnr := HNR.out
      subst hnr
      clear hSz hDz hput
      go_wp2
      go_round
      case rel => exact ⟨k + 1, by omega, by go_num, HPUT.out, hbf.out⟩
      case measure => (simp [intOf]; omega)
    · have hkn : k = l.length := by rw [HL.out]; omega
      have HE : Hid (chK l ts k = (List.range len).map (cho l ts)) := Lib.hid (by rw [hkn, chK_all, HL.out])
      rw [HE.out] at ho
      have hlast : ((List.range len).map (cho l ts))[len - 1]? = some (cho l ts (len - 1)) := by rw [List.getElem?_map, List.getElem?_range (by omega)]; rfl
      have hi1 : IntKind.i64.wrap ((len : Int) - 1) = ((len - 1 : Nat) : Int) := by rw [IntKind.wrap_i64]; omega
      have hi2 : ((len : Int) - 1) = ((len - 1 : Nat) : Int) := by omega
      have hi3 : len - 1 < len := by omega
      have HOO := Lib.hid ho
      cases hc : cho l ts (len - 1) with
      | none =>
        obtain ⟨u0, u1⟩ := ho.cells hlast (by rw [hc]; rfl)
        have HFIN : Hid (Ending.returned (.tuple #[.slice none 0 0, .int .i64 5]) = chE (cho l ts (len - 1)) g len) := Lib.hid (by rw [hc]; rfl)
        clear hlast hc ho hkn
        go_wp2
        go_ret2
        exact ⟨g, hg1, HOO.out, hbr, HFIN.out⟩
      | some p =>
        obtain ⟨m, c⟩ := p
        obtain ⟨u0, u1⟩ := ho.cells hlast (by rw [hc]; rfl)
        have HFIN : Hid (Ending.returned (.tuple #[.slice (some ⟨g, 0, none⟩) len len, .int .i64 0]) = chE (cho l ts (len - 1)) g len) := Lib.hid (by rw [hc]; rfl)
        have hm1 : (((m : Nat) : Int) == -1) = false := by simp
        clear hlast hc ho hkn
        go_wp2
        go_ret2
        exact ⟨g, hg1, HOO.out, hbr, HFIN.out⟩

end Go.Proofs.Yteogdcjigigeeaa
