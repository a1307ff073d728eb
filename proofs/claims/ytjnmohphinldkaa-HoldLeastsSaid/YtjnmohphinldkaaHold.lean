/-
  hold.Min, Lru, Fifo, Play (P1).
-/
import Derived.Test.YtjnmohphinldkaaHoldMiss2
import Derived.Test.YtjnmohphinldkaaHoldIs
namespace Go.Proofs.Ytjnmohphinldkaa
open Go.RowKit
set_option linter.unusedSimpArgs false
set_option linter.unusedVariables false
set_option maxRecDepth 100000

theorem minCh_ok (refs : List Int) {p : Nat} (hp : 1 ≤ p) : ChOk (minCh refs) p := fun C i q h => .inr ⟨_, rfl, by
  rw [h]
  obtain ⟨m, rfl⟩ : ∃ m, p = m + 1 := ⟨p - 1, by omega⟩
  exact farK_lt _ _ _⟩

theorem lruCh_ok (refs : List Int) {p : Nat} (hp : 1 ≤ p) : ChOk (lruCh refs) p := fun C i q h => .inr ⟨_, rfl, by
  rw [h]
  obtain ⟨m, rfl⟩ : ∃ m, p = m + 1 := ⟨p - 1, by omega⟩
  exact farK_lt _ _ _⟩

theorem fifoCh_ok {p : Nat} (hp : 1 ≤ p) : ChOk fifoCh p := fun C i q h => .inr ⟨0, rfl, hp⟩

theorem playCh_ok (out : List Int) (p : Nat) : ChOk (playCh p out) p := fun C i q h => by
  unfold playCh
  split
  · exact .inl rfl
  · rename_i x _
    by_cases hx : x ∈ C
    · rw [if_pos hx]
      exact .inr ⟨_, rfl, by rw [← h]; exact nxt_lt hx⟩
    · rw [if_neg hx]
      exact .inl rfl

set_option maxHeartbeats 1000000 in
theorem min_ok (A : Option Addr) (len cap p : Nat) (refs : List Int) (w : World) (hx : RdI w w.heap.size A refs) (hl : refs.length = len) (hlc : len ≤ cap) (hcm : cap ≤ maxLen) (hm : len ≤ 20) (hp1 : 1 ≤ p) (hp8 : p ≤ 8) :
    Calls Try.prog 11 #[.slice A len cap, .int .i64 p] w fun e w' => (∃ k : Nat, Best p refs k ∧ e = .returned (.tuple #[.int .i64 k, .int .i64 0])) ∧ Below w.heap.size w w' := by
  obtain ⟨k, hk, hbest⟩ := best_min hp1 refs
  have HK := Lib.hid hk
  have HB := Lib.hid hbest
  clear hk hbest
  have hO := Own.new w 22 [.slice A len cap]
  have hb0 : Below w.heap.size w (w.alloc (.cells #[.slice A len cap] 22)) := by go_grown
  have hs0 : (w.alloc (.cells #[.slice A len cap] 22)).heap.size = w.heap.size + 1 := by simp
  have HM := Lib.hid (missMin_any w.heap.size (minCh refs) (fun _ w1 => Own w1 w.heap.size 22 [.slice A len cap] ∧ RdI w1 w.heap.size A refs) w.heap.size (w.heap.size + 1) p refs A len cap _
    (fun q w1 w2 h hs hb => ⟨h.1.below hb (Nat.lt_succ_self _), h.2.below hb (Nat.le_succ _)⟩) (fun q w1 _ h => h) (minCh_ok refs hp1) (fun C A2 cap2 i q w1 h hs hx2 _ hC hi hsub hpq => by
      refine (chMin_any w.heap.size len cap i w.heap.size A refs C A2 p cap2 q w1 h.2 (by omega) hl hlc hcm (by omega) h.1 hx2 hC hp8 (by omega) hsub).mono ?_
      rintro e w2 ⟨rfl, hb⟩
      exact ⟨rfl, fun _ => ⟨h.1.below hb h.1.lt, h.2.below hb (by omega)⟩, Stay.of_below hb (by omega)⟩) ⟨hO, hx.below hb0 (Nat.le_refl _)⟩ (by rw [hs0]; exact Nat.le_refl _) (hx.below hb0 (Nat.le_refl _)) (Nat.le_succ _) hl hm hp1 hp8)
  have hc := hO.cell (j := 0) rfl
  clear hO hx hl
  go_enter Try.func11, Try.ntmps11
  go_wp2_with fail
  refine HM.out.mono ?_
  rw [HK.out, missR]
  rintro e w1 ⟨rfl, hb1⟩
  go_wp2
  go_ret2
  exact ⟨⟨k, HB.out, rfl⟩, hb0.trans hb1⟩

set_option maxHeartbeats 1000000 in
theorem lru_ok (A : Option Addr) (len cap p : Nat) (refs : List Int) (w : World) (hx : RdI w w.heap.size A refs) (hl : refs.length = len) (hlc : len ≤ cap) (hcm : cap ≤ maxLen) (hm : len ≤ 20) (hp1 : 1 ≤ p) (hp8 : p ≤ 8) :
    Calls Try.prog 14 #[.slice A len cap, .int .i64 p] w fun e w' => e = .returned (.tuple #[.int .i64 (lruG p [] refs : Nat), .int .i64 0]) ∧ Below w.heap.size w w' := by
  have HK : Hid (misG (lruCh refs) p [] 0 0 refs = some (lruG p [] refs)) := Lib.hid (by
    have h := misG_lru hp1 (refs := refs) refs [] [] [] 0 rfl (List.Perm.refl _) List.nodup_nil (by simp) List.Pairwise.nil
    rw [Nat.zero_add] at h
    exact h)
  obtain ⟨K, hK⟩ : ∃ K, lruG p [] refs = K := ⟨_, rfl⟩
  rw [hK] at HK ⊢
  clear hK
  have hO := Own.new w 22 [.slice A len cap]
  have hb0 : Below w.heap.size w (w.alloc (.cells #[.slice A len cap] 22)) := by go_grown
  have hs0 : (w.alloc (.cells #[.slice A len cap] 22)).heap.size = w.heap.size + 1 := by simp
  have HM := Lib.hid (missLru_any w.heap.size (lruCh refs) (fun _ w1 => Own w1 w.heap.size 22 [.slice A len cap] ∧ RdI w1 w.heap.size A refs) w.heap.size (w.heap.size + 1) p refs A len cap _
    (fun q w1 w2 h hs hb => ⟨h.1.below hb (Nat.lt_succ_self _), h.2.below hb (Nat.le_succ _)⟩) (fun q w1 _ h => h) (lruCh_ok refs hp1) (fun C A2 cap2 i q w1 h hs hx2 _ hC hi hsub hpq => by
      refine (chLru_any w.heap.size len cap i w.heap.size A refs C A2 p cap2 q w1 h.2 (by omega) hl hlc hcm (by omega) h.1 hx2 hC hp8 (by omega) hsub).mono ?_
      rintro e w2 ⟨rfl, hb⟩
      exact ⟨rfl, fun _ => ⟨h.1.below hb h.1.lt, h.2.below hb (by omega)⟩, Stay.of_below hb (by omega)⟩) ⟨hO, hx.below hb0 (Nat.le_refl _)⟩ (by rw [hs0]; exact Nat.le_refl _) (hx.below hb0 (Nat.le_refl _)) (Nat.le_succ _) hl hm hp1 hp8)
  have hc := hO.cell (j := 0) rfl
  clear hO hx hl
  go_enter Try.func14, Try.ntmps14
  go_wp2_with fail
  refine HM.out.mono ?_
  rw [HK.out, missR]
  rintro e w1 ⟨rfl, hb1⟩
  go_wp2
  go_ret2
  exact ⟨rfl, hb0.trans hb1⟩

set_option maxHeartbeats 1000000 in
theorem fifo_ok (A : Option Addr) (len cap p : Nat) (refs : List Int) (w : World) (hx : RdI w w.heap.size A refs) (hl : refs.length = len) (hm : len ≤ 20) (hp1 : 1 ≤ p) (hp8 : p ≤ 8) :
    Calls Try.prog 16 #[.slice A len cap, .int .i64 p] w fun e w' => e = .returned (.tuple #[.int .i64 (fifoG p [] refs : Nat), .int .i64 0]) ∧ Below w.heap.size w w' := by
  have HK : Hid (misG fifoCh p [] 0 0 refs = some (fifoG p [] refs)) := Lib.hid (by
    have h := misG_fifo hp1 refs [] 0 0 (by simp)
    rw [Nat.zero_add] at h
    exact h)
  obtain ⟨K, hK⟩ : ∃ K, fifoG p [] refs = K := ⟨_, rfl⟩
  rw [hK] at HK ⊢
  clear hK
  have HM := Lib.hid (missFifo_any 0 fifoCh (fun _ _ => True) w.heap.size w.heap.size p refs A len cap w
    (fun q w1 w2 h hs hb => trivial) (fun q w1 _ h => h) (fifoCh_ok hp1) (fun C A2 cap2 i q w1 h hs hx2 _ hC hi hsub hpq => by
      refine (chFifo_any _ i q C w1).mono ?_
      rintro e w2 ⟨rfl, hb⟩
      exact ⟨rfl, fun _ => trivial, Stay.of_below hb hs⟩) trivial (Nat.le_refl _) hx (Nat.le_refl _) hl hm hp1 hp8)
  clear hx hl
  go_enter Try.func16, Try.ntmps16
  go_wp2_with fail
  refine HM.out.mono ?_
  rw [HK.out, missR]
  rintro e w1 ⟨rfl, hb1⟩
  go_wp2
  go_ret2
  exact ⟨rfl, hb1⟩

set_option maxHeartbeats 1000000 in
theorem min_bad (A : Option Addr) (len cap : Nat) (p : Int) (w : World) (hm : len ≤ maxLen) (h : 20 < len ∨ p < 1 ∨ 8 < p) :
    Calls Try.prog 11 #[.slice A len cap, .int .i64 p] w fun e w' => e = .returned (.tuple #[.int .i64 0, .int .i64 1]) ∧ Below w.heap.size w w' := by
  have HM := Lib.hid (fun v w1 => misses_bad A len cap p v w1 hm h)
  have hO := Own.new w 22 [.slice A len cap]
  have hb0 : Below w.heap.size w (w.alloc (.cells #[.slice A len cap] 22)) := by go_grown
  have hc := hO.cell (j := 0) rfl
  clear hO h
  go_enter Try.func11, Try.ntmps11
  go_wp2_with fail
  refine (HM.out _ _).mono ?_
  rintro e w1 ⟨rfl, rfl⟩
  go_wp2
  go_ret2
  exact ⟨rfl, hb0⟩

theorem minIs : MinIs := ⟨min_ok, min_bad⟩

set_option maxHeartbeats 1000000 in
theorem lru_bad (A : Option Addr) (len cap : Nat) (p : Int) (w : World) (hm : len ≤ maxLen) (h : 20 < len ∨ p < 1 ∨ 8 < p) :
    Calls Try.prog 14 #[.slice A len cap, .int .i64 p] w fun e w' => e = .returned (.tuple #[.int .i64 0, .int .i64 1]) ∧ Below w.heap.size w w' := by
  have HM := Lib.hid (fun v w1 => misses_bad A len cap p v w1 hm h)
  have hO := Own.new w 22 [.slice A len cap]
  have hb0 : Below w.heap.size w (w.alloc (.cells #[.slice A len cap] 22)) := by go_grown
  have hc := hO.cell (j := 0) rfl
  clear hO h
  go_enter Try.func14, Try.ntmps14
  go_wp2_with fail
  refine (HM.out _ _).mono ?_
  rintro e w1 ⟨rfl, rfl⟩
  go_wp2
  go_ret2
  exact ⟨rfl, hb0⟩

theorem lruIs : LruIs := ⟨lru_ok, lru_bad⟩

set_option maxHeartbeats 1000000 in
theorem fifo_bad (A : Option Addr) (len cap : Nat) (p : Int) (w : World) (hm : len ≤ maxLen) (h : 20 < len ∨ p < 1 ∨ 8 < p) :
    Calls Try.prog 16 #[.slice A len cap, .int .i64 p] w fun e w' => e = .returned (.tuple #[.int .i64 0, .int .i64 1]) ∧ Below w.heap.size w w' := by
  have HM := Lib.hid (fun v w1 => misses_bad A len cap p v w1 hm h)
  clear h
  go_enter Try.func16, Try.ntmps16
  go_wp2_with fail
  refine (HM.out _ _).mono ?_
  rintro e w1 ⟨rfl, rfl⟩
  go_wp2
  go_ret2
  exact ⟨rfl, Below.refl _ _⟩

theorem fifoIs : FifoIs := ⟨fifo_ok, fifo_bad⟩

theorem rdI_apart {w : World} {B : Nat} {A : Option Addr} {xs : List Int} (h : RdI w B A xs) {p : Addr} (hp : ∀ ad, A = some ad → ad.block ≠ p.block) (u : Value) : RdI (w.setCell p u) B A xs := fun hl => by
  obtain ⟨ad, e, hb, hc⟩ := h hl
  exact ⟨ad, e, hb, fun j hj => (World.cell?_of_block (w := w) (Below.heap_setCell w p u _ (by rw [addr_add_block]; exact hp ad e))).trans (hc j hj)⟩

theorem playCh_stop {p q : Nat} {out C : List Int} {i : Nat} (h : q - p = out.length) : playCh p out C i q = -1 := by
  unfold playCh
  rw [List.getElem?_eq_none (by omega)]

theorem playCh_go {p q : Nat} {out C : List Int} {i : Nat} {x : Int} (h : out[q - p]? = some x) : playCh p out C i q = ixI x C := by
  unfold playCh
  rw [h]
  rfl

set_option maxHeartbeats 2000000 in
theorem chPlay_any (gu go lo co B base p i q : Nat) (Ao : Option Addr) (out C : List Int) (A2 : Option Addr) (n cap2 : Nat) (w : World) (hOu : Own w gu 3 [.int .i64 (q - p : Nat)]) (hOo : Own w go 22 [.slice Ao lo co]) (hne : gu ≠ go) (hx : RdI w B Ao out) (hB : B ≤ gu) (hgb : gu < base) (hl : out.length = lo) (hm : lo ≤ maxLen) (hu : q - p ≤ lo)
    (hx2 : RdI w w.heap.size A2 C) (hap : ∀ ad, A2 = some ad → base ≤ ad.block) (hl2 : C.length = n) (hn8 : n ≤ 8) :
    Calls Try.prog 32 #[.slice A2 n cap2, .int .i64 i, .pointer (some ⟨gu, 0, none⟩), .pointer (some ⟨go, 0, none⟩)] w fun e w' => e = .returned (.int .i64 (playCh p out C i q)) ∧ (q - p < lo ∧ w' = w.setCell ⟨gu, 0, none⟩ (.int .i64 (q - p + 1 : Nat)) ∨ playCh p out C i q = -1 ∧ w' = w) := by
  have HPS : Hid (q - p = lo → playCh p out C i q = -1) := Lib.hid fun h => playCh_stop (by rw [hl]; exact h)
  have HPG := Lib.hid (fun x (h : out[q - p]? = some x) => playCh_go (p := p) (q := q) (out := out) (C := C) (i := i) h)
  have HL := Lib.hid hl
  have hcu := hOu.cell (j := 0) rfl
  have hco := hOo.cell (j := 0) rfl
  have hfu := hOu.frozen 0
  obtain ⟨u, huq⟩ : ∃ u, q - p = u := ⟨_, rfl⟩
  rw [huq] at hOu hu HPS HPG hcu ⊢
  unfold maxLen at hm
  obtain ⟨Z, hZ⟩ : ∃ Z, playCh p out C i q = Z := ⟨_, rfl⟩
  rw [hZ] at HPS HPG ⊢
  clear huq hZ hl
  by_cases hlt : u < lo
  · obtain ⟨ad, x, rfl, hbl, hd, hc⟩ := hx.at_ (k := u) (by rw [HL.out]; exact hlt)
    have HZ := Lib.hid (HPG.out x hd)
    have hbe : ((u : Int) == (lo : Int)) = false := by simp; omega
    have hs : ((w.setCell ⟨gu, 0, none⟩ (.int .i64 ((u : Int) + 1))).heap.size) = w.heap.size := by simp
    have hOu2 := hOu.set 0 (.int .i64 ((u : Int) + 1))
    have hcu2 := hOu2.cell (j := 0) rfl
    have hco2 := (hOo.far (p := ⟨gu, 0, none⟩) (fun e => hne e.symm) (.int .i64 ((u : Int) + 1))).cell (j := 0) rfl
    have hc2 : (w.setCell ⟨gu, 0, none⟩ (.int .i64 ((u : Int) + 1))).cell? (ad.add u) = some (.int .i64 x) := (World.cell?_of_block (w := w) (Below.heap_setCell w ⟨gu, 0, none⟩ _ _ (by show (ad.add u).block ≠ gu; omega))).trans hc
    have HIX := Lib.hid (ixN_any A2 n cap2 C x _ _ (rdI_apart hx2 (p := ⟨gu, 0, none⟩) (fun ad h => by have := hap ad h; show ad.block ≠ gu; omega) (.int .i64 ((u : Int) + 1))) hl2 (by unfold maxLen; omega))
    rw [← HZ.out] at HIX
    clear hd hOu hOo hOu2 hx hx2 hap HPG HPS
    go_enter Try.func32, Try.ntmps32
    go_wp2_with (go_at_call 33; (with_reducible refine HIX.out.mono ?_); rintro e w1 ⟨rfl, rfl⟩)
    go_ret
    exact ⟨rfl, .inl ⟨hlt, by push_cast; rfl⟩⟩
  · have hul : u = lo := by omega
    have HZ := Lib.hid (HPS.out hul)
    rw [HZ.out]
    subst hul
    clear HPS HPG hOu hOo hx hx2 hap
    go_enter Try.func32, Try.ntmps32
    go_wp2
    go_ret
    exact ⟨rfl, .inr ⟨trivial, rfl⟩⟩

set_option maxHeartbeats 2000000 in
theorem play_ok (A : Option Addr) (len cap p : Nat) (refs : List Int) (A2 : Option Addr) (len2 cap2 : Nat) (out : List Int) (w : World) (hx : RdI w w.heap.size A refs) (hl : refs.length = len) (hx2 : RdI w w.heap.size A2 out) (hl2 : out.length = len2) (hm2 : len2 ≤ maxLen) (hm : len ≤ 20) (hp1 : 1 ≤ p) (hp8 : p ≤ 8) :
    Calls Try.prog 17 #[.slice A len cap, .int .i64 p, .slice A2 len2 cap2] w fun e w' => e = .returned (missR (playG p [] out 0 refs)) ∧ Below w.heap.size w w' := by
  have HR : Hid (misG (playCh p out) p [] 0 0 refs = playG p [] out 0 refs) := Lib.hid (by
    have h := misG_play (p := p) hp1 (out := out) refs [] 0 0 List.nodup_nil (by simp) (fun h => by simp at h; omega) (fun _ => by simp)
    rw [Nat.zero_sub, List.drop_zero] at h
    exact h)
  have hO1 := Own.new w 22 [.slice A2 len2 cap2]
  have hb1 : Below w.heap.size w (w.alloc (.cells #[.slice A2 len2 cap2] 22)) := by go_grown
  have hs1 : (w.alloc (.cells #[.slice A2 len2 cap2] 22)).heap.size = w.heap.size + 1 := by simp
  have hO2 := Own.new (w.alloc (.cells #[.slice A2 len2 cap2] 22)) 3 [.int .i64 0]
  have hO1b := hO1.alloc (.cells #[.int .i64 0] 3)
  rw [hs1] at hO2
  have hs2 : ((w.alloc (.cells #[.slice A2 len2 cap2] 22)).alloc (.cells #[.int .i64 0] 3)).heap.size = w.heap.size + 2 := by simp
  have hb2 : Below w.heap.size w ((w.alloc (.cells #[.slice A2 len2 cap2] 22)).alloc (.cells #[.int .i64 0] 3)) := by go_grown
  have HM := Lib.hid (missPlay_any (w.heap.size + 1) w.heap.size (playCh p out) (fun q w1 => Own w1 (w.heap.size + 1) 3 [.int .i64 (q - p : Nat)] ∧ q - p ≤ len2 ∧ Own w1 w.heap.size 22 [.slice A2 len2 cap2] ∧ RdI w1 w.heap.size A2 out) w.heap.size (w.heap.size + 2) p refs A len cap _
    (fun q w1 w2 h hs hb => ⟨h.1.below hb (by omega), h.2.1, h.2.2.1.below hb (by omega), h.2.2.2.below hb (by omega)⟩)
    (fun q w1 hq h => by
      have e : q + 1 - p = q - p := by omega
      rw [e]
      exact h) (playCh_ok out p) (fun C A3 cap3 i q w1 h hs hx3 hap hC hi hsub hpq => by
      refine (chPlay_any (w.heap.size + 1) w.heap.size len2 cap2 w.heap.size (w.heap.size + 2) p i q A2 out C A3 p cap3 w1 h.1 h.2.2.1 (by omega) h.2.2.2 (by omega) (by omega) hl2 hm2 h.2.1 hx3 hap hC hp8).mono ?_
      rintro e w2 ⟨rfl, ⟨hlt, rfl⟩ | ⟨hno, rfl⟩⟩
      · have hbs : Below w.heap.size w1 (w1.setCell ⟨w.heap.size + 1, 0, none⟩ (.int .i64 (q - p + 1 : Nat))) := (Below.refl w.heap.size w1).setCell (by show w.heap.size ≤ w.heap.size + 1; omega) _
        have e1 : q + 1 - p = q - p + 1 := by omega
        refine ⟨rfl, fun _ => ⟨?_, by omega, h.2.2.1.far (by show w.heap.size ≠ w.heap.size + 1; omega) _, h.2.2.2.below hbs (Nat.le_refl _)⟩, hbs, fun j hj _ => Below.heap_setCell w1 _ _ j (by show j ≠ w.heap.size + 1; omega)⟩
        rw [e1]
        exact h.1.set 0 _
      · exact ⟨rfl, fun h2 => absurd hno h2, Below.refl _ _, fun _ _ _ => rfl⟩) ⟨by rw [Nat.zero_sub]; exact hO2, by omega, hO1b, hx2.below hb2 (Nat.le_refl _)⟩ (by rw [hs2]; exact Nat.le_refl _) (hx.below hb2 (Nat.le_refl _)) (by omega) hl hm hp1 hp8)
  rw [HR.out] at HM
  obtain ⟨R, hR⟩ : ∃ R, playG p [] out 0 refs = R := ⟨_, rfl⟩
  rw [hR] at HM ⊢
  clear hO1 hO2 hO1b hx hx2 hl hl2 hR HR hs1 hs2
  cases R with
  | none =>
    rw [missR] at HM ⊢
    go_enter Try.func17, Try.ntmps17
    go_wp2_with fail
    refine HM.out.mono ?_
    rintro e w1 ⟨rfl, hb3⟩
    go_wp2
    go_ret2
    exact ⟨rfl, hb2.trans hb3⟩
  | some q =>
    rw [missR] at HM ⊢
    go_enter Try.func17, Try.ntmps17
    go_wp2_with fail
    refine HM.out.mono ?_
    rintro e w1 ⟨rfl, hb3⟩
    go_wp2
    go_ret2
    exact ⟨rfl, hb2.trans hb3⟩

set_option maxHeartbeats 1000000 in
theorem play_bad (A : Option Addr) (len cap : Nat) (p : Int) (A2 : Option Addr) (len2 cap2 : Nat) (w : World) (hm : len ≤ maxLen) (h : 20 < len ∨ p < 1 ∨ 8 < p) :
    Calls Try.prog 17 #[.slice A len cap, .int .i64 p, .slice A2 len2 cap2] w fun e w' => e = .returned (.tuple #[.int .i64 0, .int .i64 1]) ∧ Below w.heap.size w w' := by
  have HM := Lib.hid (fun v w1 => misses_bad A len cap p v w1 hm h)
  clear h
  go_enter Try.func17, Try.ntmps17
  go_wp2_with fail
  refine (HM.out _ _).mono ?_
  rintro e w1 ⟨rfl, rfl⟩
  go_wp2
  go_ret2
  exact ⟨rfl, by go_grown⟩

theorem playIs : PlayIs := ⟨play_ok, play_bad⟩

end Go.Proofs.Ytjnmohphinldkaa
