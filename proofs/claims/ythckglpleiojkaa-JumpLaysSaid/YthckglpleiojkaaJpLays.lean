/-
  codemasonref.Lays: beginnings and sizes where the jumps of a word are long, or that one is too far (X1).
-/
import Derived.Test.YthckglpleiojkaaJpSize
import Derived.Test.YthckglpleiojkaaMBase
import Derived.Test.YthckglpleiojkaaFewSize
namespace Go.Proofs.Ythckglpleiojkaa
open Go.RowKit
set_option linter.unusedSimpArgs false
set_option linter.unusedVariables false
set_option maxRecDepth 100000

theorem below_drewK {B : Nat} {X Y : World} (h : Below B X Y) (q : Nat) : Below B X (Y.drewN q) := ⟨h.os, h.tape, h.output, h.size, h.block⟩

theorem own_litJ {w : World} {base : Nat} (hb : base ≤ w.heap.size) (cs : List Value) (t : TypeId) (n : Nat) (hn : cs.length = n) (hm : n ≤ maxLen) : (w.alloc (.cells cs.toArray t)).ownsRow base t 1 (.slice (some ⟨w.heap.size, 0, none⟩) n n) n cs :=
  ⟨by rw [hn, Nat.mul_one], .inr ⟨w.heap.size, n, cs.toArray, rfl, hb, heap_alloc_new w _, Nat.le_refl _, hm, by simpa using hn, by subst hn; simp⟩⟩

/-- two lists of ints that grow -/
structure TwJ (w : World) (B : Nat) (p q : List Int) (n m : Nat) (A1 : Option Addr) (c1 : Nat) (A2 : Option Addr) (c2 : Nat) : Prop where
  r1 : w.ownsRow B 3 1 (.slice A1 n c1) n (iv p)
  r2 : w.ownsRow B 3 1 (.slice A2 m c2) m (iv q)
  ap : ∀ g, (Value.slice A1 n c1).ownBlock = some g → (Value.slice A2 m c2).ownBlock ≠ some g
  sz : B ≤ w.heap.size

section
variable {X Y : World} {B n m : Nat} {p q : List Int} {A1 A2 : Option Addr} {c1 c2 : Nat}

theorem TwJ.quiet (h : TwJ X B p q n m A1 c1 A2 c2) (hb : Below X.heap.size X Y) : TwJ Y B p q n m A1 c1 A2 c2 := ⟨own_below h.r1 hb, own_below h.r2 hb, h.ap, Nat.le_trans h.sz hb.size⟩

theorem TwJ.app1 (h : TwJ X B p q n m A1 c1 A2 c2) {x : Int} {A' : Option Addr} {c' : Nat} (ho : Y.ownsRow B 3 1 (.slice A' (n + 1) c') (n + 1) (iv p ++ [.int .i64 x]))
    (hg : X.grownBy Y (Value.slice A1 n c1).ownBlock) (hp : (Value.slice A' (n + 1) c').ownBlock = (Value.slice A1 n c1).ownBlock ∨ (Value.slice A' (n + 1) c').ownBlock = some X.heap.size) :
    TwJ Y B (p ++ [x]) q (n + 1) m A' c' A2 c2 := by
  refine ⟨by rw [iv_append]; exact ho, h.r2.kept hg ?_, fun g hg1 hg2 => ?_, Nat.le_trans h.sz hg.size⟩
  · cases he : (Value.slice A2 m c2).ownBlock with
    | none => exact .inl rfl
    | some g => exact .inr fun e => h.ap g e.symm he
  · rcases hp with hp | hp
    · exact h.ap g (by rw [← hp]; exact hg1) hg2
    · rw [hp] at hg1
      injection hg1 with hg1
      have := (h.r2.lt g hg2).2
      omega

theorem TwJ.app2 (h : TwJ X B p q n m A1 c1 A2 c2) {x : Int} {A' : Option Addr} {c' : Nat} (ho : Y.ownsRow B 3 1 (.slice A' (m + 1) c') (m + 1) (iv q ++ [.int .i64 x]))
    (hg : X.grownBy Y (Value.slice A2 m c2).ownBlock) (hp : (Value.slice A' (m + 1) c').ownBlock = (Value.slice A2 m c2).ownBlock ∨ (Value.slice A' (m + 1) c').ownBlock = some X.heap.size) :
    TwJ Y B p (q ++ [x]) n (m + 1) A1 c1 A' c' := by
  refine ⟨h.r1.kept hg ?_, by rw [iv_append]; exact ho, fun g hg1 hg2 => ?_, Nat.le_trans h.sz hg.size⟩
  · cases he : (Value.slice A1 n c1).ownBlock with
    | none => exact .inl rfl
    | some g => exact .inr fun e => h.ap g he e.symm
  · rcases hp with hp | hp
    · exact h.ap g hg1 (by rw [← hp]; exact hg2)
    · rw [hp] at hg2
      injection hg2 with hg2
      have := (h.r1.lt g hg1).2
      omega

theorem TwJ.form1 (h : TwJ X B p q (n + 1) m A1 c1 A2 c2) : ∃ g, A1 = some ⟨g, 0, none⟩ ∧ g < X.heap.size := by
  rcases h.r1.2 with ⟨_, hn⟩ | ⟨g, cap, cur, hv, _, hh, _⟩
  · omega
  · injection hv with hv
    refine ⟨g, hv, ?_⟩
    rcases Nat.lt_or_ge g X.heap.size with hl | hl
    · exact hl
    · rw [Array.getElem?_eq_none hl] at hh; cases hh

theorem TwJ.cell1 {g : Nat} (h : TwJ X B p q n m (some ⟨g, 0, none⟩) c1 A2 c2) {j : Nat} {x : Int} (hx : p[j]? = some x) : X.cell? ⟨g, j, none⟩ = some (.int .i64 x) := by
  have h1 := h.r1.cells (g := g) rfl j _ (iv_at hx)
  have ha : (⟨g, 0, none⟩ : Addr).add j = ⟨g, j, none⟩ := by unfold Addr.add; split <;> simp_all
  rwa [ha] at h1

end

theorem twJ_start (w : World) : TwJ (w.alloc (.cells #[.int .i64 0] 3)) w.heap.size [0] [] 1 0 (some ⟨w.heap.size, 0, none⟩) 1 none 0 :=
  ⟨own_litJ (Nat.le_refl _) [.int .i64 0] _ 1 rfl (by unfold maxLen; omega), World.ownsRow_nil _ _ _ _, (fun g _ h2 => by cases h2), by simp⟩

/-- the first k are near enough -/
def OkU (l : List Pc) (W k : Nat) : Prop := ∀ i t, i < k → JmpAt l i t → W.testBit i = false → farP l W i t ≤ 50 ∧ -50 ≤ farP l W i t

theorem OkU.all {l : List Pc} {W : Nat} (h : OkU l W l.length) : OkW l W := fun i t hj hb => h i t (by
  obtain ⟨b, h⟩ := hj
  exact (List.getElem?_eq_some_iff.1 h).1) hj hb

theorem OkU.byt {l : List Pc} {W k : Nat} {b t : Int} (h : OkU l W k) (hd : l[k]? = some ⟨b, false, t⟩) : OkU l W (k + 1) := fun i u hi hj hb => by
  rcases Nat.lt_or_ge i k with h1 | h1
  · exact h i u h1 hj hb
  · have : i = k := by omega
    subst this
    obtain ⟨c, hc⟩ := hj
    rw [hd] at hc
    injection hc with hc
    injection hc with _ hc
    cases hc

theorem OkU.long {l : List Pc} {W k : Nat} (h : OkU l W k) (hb : W.testBit k = true) : OkU l W (k + 1) := fun i u hi hj hb2 => by
  rcases Nat.lt_or_ge i k with h1 | h1
  · exact h i u h1 hj hb2
  · have : i = k := by omega
    subst this
    rw [hb] at hb2
    cases hb2

theorem OkU.near {l : List Pc} {W k t : Nat} (h : OkU l W k) (hj : JmpAt l k t) (hf : farP l W k t ≤ 50 ∧ -50 ≤ farP l W k t) : OkU l W (k + 1) := fun i u hi hj2 hb2 => by
  rcases Nat.lt_or_ge i k with h1 | h1
  · exact h i u h1 hj2 hb2
  · have : i = k := by omega
    subst this
    rw [← JmpAt.one hj hj2]
    exact hf

set_option maxHeartbeats 16000000 in
theorem lays_any (A : Option Addr) (len cap : Nat) (l : List Pc) (W : Nat) (w : World) (hx : RdPc w w.heap.size A l) (hl : l.length = len) (hk : PcOk l) (hW : W < 4294967296) :
    Calls Try.prog 7 #[.slice A len cap, .int .u32 (W : Nat)] w fun e w' => ((OkW l W ∧ ∃ A1 c1 A2 c2, e = .returned (.tuple #[.slice A1 (len + 1) c1, .slice A2 len c2, .bool true]) ∧ RdI w' w'.heap.size A1 (atl l W) ∧ RdI w' w'.heap.size A2 (szl l W)) ∨ (¬ OkW l W ∧ e = .returned (.tuple #[.slice none 0 0, .slice none 0 0, .bool false]))) ∧ Below w.heap.size w w' := by
  have HL := Lib.hid hl
  have HK := Lib.hid hk
  have hlen : len ≤ 10 := by rw [← hl]; exact hk.len
  have HBIT : Hid (∀ (i : Nat) (w1 : World), i < 32 → Calls Try.prog 15 #[.int .u32 (W : Nat), .int .i64 (i : Int)] w1 fun e w' => e = .returned (.bool (W.testBit i)) ∧ w1 = w') := Lib.hid fun i w1 hi => by rw [← bitB_32F W hi]; exact bit_any W i w1 hW
  clear hl hk hW
  go_enter Try.func7, Try.ntmps7
  go_wp2
  go_loopw [7, 8, 18] (fun a s i wr => ∃ (k : Nat) (A1 : Option Addr) (c1 : Nat) (A2 : Option Addr) (c2 : Nat), k ≤ len ∧ i = .int .i64 k ∧ a = .slice A1 (k + 1) c1 ∧ s = .slice A2 k c2 ∧ Hid (TwJ wr w.heap.size ((atl l W).take (k + 1)) ((szl l W).take k) (k + 1) k A1 c1 A2 c2) ∧ Below w.heap.size w wr) (fun _ _ i _ => len - (intOf i).toNat)
  case atStart =>
    refine ⟨0, _, _, _, _, Nat.zero_le _, rfl, rfl, rfl, Lib.hid ?_, by go_grown⟩
    have e1 : (atl l W).take (0 + 1) = [0] := by
      rw [List.take_add_one, atl_at (Nat.zero_le _)]
      rfl
    rw [e1, List.take_zero]
    exact twJ_start w
  case round =>
    obtain ⟨k, A1, c1, A2, c2, hk, rfl, rfl, rfl, HT, hb⟩ := hrel
    have hsz := hb.size
    by_cases hlt : k < len
    · obtain ⟨ad, b, j, t, rfl, hbl, hd, hc0, hc1, hc2⟩ := RdPc.at_ (hx.below hb (Nat.le_refl _)) (k := k) (by rw [HL.out]; exact hlt)
      have hkl : k < l.length := by rw [HL.out]; exact hlt
      obtain ⟨g1, rfl, hg1⟩ := HT.out.form1
      have HNX : Hid ((szl l W).take (k + 1) = (szl l W).take k ++ [szP l W k] ∧ (atl l W).take (k + 1 + 1) = (atl l W).take (k + 1) ++ [atP l W k + szP l W k]) := Lib.hid ⟨szl_take hkl, atl_take hkl⟩
      have hak : ((atl l W).take (k + 1))[k]? = some (atP l W k) := by
        rw [List.getElem?_take, if_pos (by omega)]
        exact atl_at (by omega)
      have hbd := at_bd HK.out W k
      obtain ⟨x, hxe⟩ : ∃ x, atP l W k = x := ⟨_, rfl⟩
      rw [hxe] at hak hbd HNX
      have HAK := Lib.hid hak
      obtain ⟨x0, x1⟩ := hbd
      have x2 : x ≤ 2000 := by omega
      have h63 : k + 1 ≤ maxLen := by unfold maxLen; omega
      have hbig : (k + 1) * 8 ≤ 140737488355328 := by omega
      have h63b : k + 1 + 1 ≤ maxLen := by unfold maxLen; omega
      have hbigb : (k + 1 + 1) * 8 ≤ 140737488355328 := by omega
      have H63 := Lib.hid (And.intro h63 (And.intro hbig (And.intro h63b hbigb)))
      have hk32 : k < 32 := by omega
      clear h63 hbig h63b hbigb hak hxe x1
      cases j with
      | false =>
        have hz := szP_byt (W := W) hd rfl
        simp only at hz
        have hbz := szP_bd HK.out W k
        rw [hz] at HNX hbz
        obtain ⟨z0, z1⟩ := hbz
        have hwr : IntKind.i64.wrap (x + b) = x + b := by rw [IntKind.wrap_i64]; omega
        clear hd hkl hz
        go_wp2_with (first
            | (at_builtin; refine wpList_app' rfl (.tmp 30) (.tmp 32) 23 rfl w.heap.size 3 1 8 int_app (iv ((szl l W).take k)) rfl (own_below HT.out.r2 (by go_grown)) [.int .i64 b] rfl rfl (fun h => by cases h) (cells_at (by simp) [.int .i64 b] _) (one_cell _) H63.out.1 H63.out.2.1 (by simp; omega) ?_; intro A8 c8 w8 hown8 hg8 hb8 hp8; have HT8 := Lib.hid ((HT.out.quiet (by go_grown)).app2 hown8 hg8 hp8); have hca := HT8.out.cell1 HAK.out; have hs8 : w.heap.size ≤ w8.heap.size := HT8.out.sz; have hbw8 : Below w.heap.size w w8 := hb.trans (Below.trans ((by go_grown : Below wr.heap.size wr _).mono hsz) hb8); have hg8b : g1 < w8.heap.size := World.block_lt_of_cell? w8 _ hca; clear hown8 hg8 hb8 hp8)
            | (at_builtin; refine wpList_app' rfl (.tmp 34) (.tmp 41) 23 rfl w.heap.size 3 1 8 int_app (iv ((atl l W).take (k + 1))) rfl (own_below HT8.out.r1 (by go_grown)) [.int .i64 (x + b)] rfl rfl (fun h => by cases h) (cells_at rfl [.int .i64 (x + b)] _) (one_cell _) H63.out.2.2.1 H63.out.2.2.2 (by simp; omega) ?_; intro A9 c9 w9 hown9 hg9 hb9 hp9; have HT9 := Lib.hid ((HT8.out.quiet (by go_grown)).app1 hown9 hg9 hp9); have hbw9 : Below w.heap.size w w9 := hbw8.trans (Below.trans ((by go_grown : Below w8.heap.size w8 _).mono hs8) hb9); clear hown9 hg9 hb9 hp9))
        go_round
        case rel => exact ⟨k + 1, A9, c9, A8, c8, by omega, by go_num, rfl, rfl, (by rw [HNX.out.1, HNX.out.2]; exact HT9), hbw9⟩
        case measure => (simp [intOf]; omega)
      | true =>
        have hz := szP_jmp (W := W) hd rfl
        cases hbit : W.testBit k with
        | true =>
          rw [hbit, if_pos rfl] at hz
          rw [hz] at HNX
          have HB1 := Lib.hid (fun w1 => HBIT.out k w1 hk32)
          rw [hbit] at HB1
          have hwr : IntKind.i64.wrap (x + 4) = x + 4 := by rw [IntKind.wrap_i64]; omega
          clear hd hkl hz hbit
          go_wp2_with (first
              | (go_at_call 15; (with_reducible refine (HB1.out _).mono ?_); rintro e w5 ⟨rfl, rfl⟩)
              | (at_builtin; refine wpList_app' rfl (.tmp 30) (.tmp 32) 23 rfl w.heap.size 3 1 8 int_app (iv ((szl l W).take k)) rfl (own_below HT.out.r2 (by go_grown)) [.int .i64 4] rfl rfl (fun h => by cases h) (cells_at (by simp) [.int .i64 4] _) (one_cell _) H63.out.1 H63.out.2.1 (by simp; omega) ?_; intro A8 c8 w8 hown8 hg8 hb8 hp8; have HT8 := Lib.hid ((HT.out.quiet (by go_grown)).app2 hown8 hg8 hp8); have hca := HT8.out.cell1 HAK.out; have hs8 : w.heap.size ≤ w8.heap.size := HT8.out.sz; have hbw8 : Below w.heap.size w w8 := hb.trans (Below.trans ((by go_grown : Below wr.heap.size wr _).mono hsz) hb8); have hg8b : g1 < w8.heap.size := World.block_lt_of_cell? w8 _ hca; clear hown8 hg8 hb8 hp8)
              | (at_builtin; refine wpList_app' rfl (.tmp 34) (.tmp 41) 23 rfl w.heap.size 3 1 8 int_app (iv ((atl l W).take (k + 1))) rfl (own_below HT8.out.r1 (by go_grown)) [.int .i64 (x + 4)] rfl rfl (fun h => by cases h) (cells_at rfl [.int .i64 (x + 4)] _) (one_cell _) H63.out.2.2.1 H63.out.2.2.2 (by simp; omega) ?_; intro A9 c9 w9 hown9 hg9 hb9 hp9; have HT9 := Lib.hid ((HT8.out.quiet (by go_grown)).app1 hown9 hg9 hp9); have hbw9 : Below w.heap.size w w9 := hbw8.trans (Below.trans ((by go_grown : Below w8.heap.size w8 _).mono hs8) hb9); clear hown9 hg9 hb9 hp9))
          go_round
          case rel => exact ⟨k + 1, A9, c9, A8, c8, by omega, by go_num, rfl, rfl, (by rw [HNX.out.1, HNX.out.2]; exact HT9), hbw9⟩
          case measure => (simp [intOf]; omega)
        | false =>
          rw [hbit, if_neg (by simp)] at hz
          rw [hz] at HNX
          have HB1 := Lib.hid (fun w1 => HBIT.out k w1 hk32)
          rw [hbit] at HB1
          have hwr : IntKind.i64.wrap (x + 2) = x + 2 := by rw [IntKind.wrap_i64]; omega
          clear hd hkl hz hbit
          go_wp2_with (first
              | (go_at_call 15; (with_reducible refine (HB1.out _).mono ?_); rintro e w5 ⟨rfl, rfl⟩)
              | (at_builtin; refine wpList_app' rfl (.tmp 30) (.tmp 32) 23 rfl w.heap.size 3 1 8 int_app (iv ((szl l W).take k)) rfl (own_below HT.out.r2 (by go_grown)) [.int .i64 2] rfl rfl (fun h => by cases h) (cells_at (by simp) [.int .i64 2] _) (one_cell _) H63.out.1 H63.out.2.1 (by simp; omega) ?_; intro A8 c8 w8 hown8 hg8 hb8 hp8; have HT8 := Lib.hid ((HT.out.quiet (by go_grown)).app2 hown8 hg8 hp8); have hca := HT8.out.cell1 HAK.out; have hs8 : w.heap.size ≤ w8.heap.size := HT8.out.sz; have hbw8 : Below w.heap.size w w8 := hb.trans (Below.trans ((by go_grown : Below wr.heap.size wr _).mono hsz) hb8); have hg8b : g1 < w8.heap.size := World.block_lt_of_cell? w8 _ hca; clear hown8 hg8 hb8 hp8)
              | (at_builtin; refine wpList_app' rfl (.tmp 34) (.tmp 41) 23 rfl w.heap.size 3 1 8 int_app (iv ((atl l W).take (k + 1))) rfl (own_below HT8.out.r1 (by go_grown)) [.int .i64 (x + 2)] rfl rfl (fun h => by cases h) (cells_at rfl [.int .i64 (x + 2)] _) (one_cell _) H63.out.2.2.1 H63.out.2.2.2 (by simp; omega) ?_; intro A9 c9 w9 hown9 hg9 hb9 hp9; have HT9 := Lib.hid ((HT8.out.quiet (by go_grown)).app1 hown9 hg9 hp9); have hbw9 : Below w.heap.size w w9 := hbw8.trans (Below.trans ((by go_grown : Below w8.heap.size w8 _).mono hs8) hb9); clear hown9 hg9 hb9 hp9))
          go_round
          case rel => exact ⟨k + 1, A9, c9, A8, c8, by omega, by go_num, rfl, rfl, (by rw [HNX.out.1, HNX.out.2]; exact HT9), hbw9⟩
          case measure => (simp [intOf]; omega)
    · have hkn : k = len := by omega
      subst hkn
      have hT := HT.out
      rw [List.take_of_length_le (by rw [atl_len, HL.out]; exact Nat.le_refl _), List.take_of_length_le (by rw [szl_len, HL.out]; exact Nat.le_refl _)] at hT
      obtain ⟨g1, rfl, hg1⟩ := hT.form1
      obtain ⟨w2, rfl⟩ : ∃ w2 : World, w2 = wr := ⟨_, rfl⟩
      have HT2 := Lib.hid hT
      have HB := Lib.hid hb
      have HX2 := Lib.hid (fun wr (h : Below w2.heap.size w2 wr) => (hx.below (hb.trans (h.mono hsz)) (Nat.le_refl _)).more hsz)
      clear hT HT hx
      go_wp2
      go_loopw [46] (fun i wr => ∃ q : Nat, q ≤ k ∧ i = .int .i64 q ∧ Hid (OkU l W q) ∧ Below w2.heap.size w2 wr) (fun i _ => k - (intOf i).toNat)
      case atStart => exact ⟨0, Nat.zero_le _, rfl, Lib.hid fun i t h => by omega, Below.refl _ _⟩
      case round =>
        obtain ⟨q, hq, rfl, HO, hb2⟩ := hrel
        have hs2 := hb2.size
        by_cases hlt2 : q < k
        · obtain ⟨ad, b, j, t, rfl, hbl, hd, hc0, hc1, hc2⟩ := RdPc.at_ (HX2.out wr hb2) (k := q) (by rw [HL.out]; exact hlt2)
          have hq32 : q < 32 := by omega
          cases j with
          | false =>
            have HO2 := Lib.hid (HO.out.byt hd)
            clear hd
            go_wp2
            go_round
            case rel => exact ⟨q + 1, by omega, by go_num, HO2, by go_grown⟩
            case measure => (simp [intOf]; omega)
          | true =>
            obtain ⟨tn, ht, hj, htl⟩ := jmpAt_of HK.out hd rfl
            simp only at ht
            subst ht
            cases hbit : W.testBit q with
            | true =>
              have HB1 := Lib.hid (fun w1 => HBIT.out q w1 hq32)
              rw [hbit] at HB1
              have HO2 := Lib.hid (HO.out.long hbit)
              clear hd hbit hj
              go_wp2_with (go_at_call 15; (with_reducible refine (HB1.out _).mono ?_); rintro e w5 ⟨rfl, rfl⟩)
              go_round
              case rel => exact ⟨q + 1, by omega, by go_num, HO2, by go_grown⟩
              case measure => (simp [intOf]; omega)
            | false =>
              have HB1 := Lib.hid (fun w1 => HBIT.out q w1 hq32)
              rw [hbit] at HB1
              have hT5 := HT2.out.quiet hb2
              have hc3 := hT5.cell1 (atl_at (W := W) (i := q + 1) (by rw [HL.out]; omega))
              have hc4 := hT5.cell1 (atl_at (W := W) (i := tn) htl)
              have hb3 := at_bd HK.out W (q + 1)
              have hb4 := at_bd HK.out W tn
              have hok := fun h => HO.out.near hj h
              have hno : ¬ (farP l W q tn ≤ 50 ∧ -50 ≤ farP l W q tn) → ¬ OkW l W := fun h h2 => h (h2 q tn hj hbit)
              have hfar : farP l W q tn = atP l W tn - atP l W (q + 1) := rfl
              rw [HL.out] at htl
              obtain ⟨x, hxe⟩ : ∃ x, atP l W (q + 1) = x := ⟨_, rfl⟩
              obtain ⟨y, hye⟩ : ∃ y, atP l W tn = y := ⟨_, rfl⟩
              obtain ⟨d, hde⟩ : ∃ d, farP l W q tn = d := ⟨_, rfl⟩
              rw [hxe] at hc3 hb3 hfar
              rw [hye] at hc4 hb4 hfar
              rw [hde] at hok hno hfar
              obtain ⟨n1, hn1⟩ : ∃ n1, n1 = k + 1 := ⟨_, rfl⟩
              have hwd : IntKind.i64.wrap (y - x) = d := by rw [IntKind.wrap_i64]; omega
              have hwn : IntKind.i64.wrap (-d) = -d := by rw [IntKind.wrap_i64]; omega
              obtain ⟨q1, hq1⟩ : ∃ q1 : Nat, q1 = q + 1 := ⟨_, rfl⟩
              have hw1 : IntKind.i64.wrap ((q : Int) + 1) = (q1 : Int) := by rw [IntKind.wrap_i64]; omega
              have hql1 : q1 < n1 := by omega
              have htl3 : tn < n1 := by omega
              have hg2 : g1 < wr.heap.size := by omega
              rw [← hq1] at hc3
              have HQ1 := Lib.hid hq1
              have HN1 := Lib.hid hn1
              rw [← hn1]
              clear hd hbit hj hT5 hb3 hb4 hxe hye hde htl hq1 hn1 hfar
              by_cases hgood : d ≤ 50 ∧ -50 ≤ d
              · have HOK := Lib.hid (hok hgood)
                obtain ⟨d1, d2⟩ := hgood
                have d3 : ¬ (50 : Int) < d := by omega
                have d4 : ¬ (50 : Int) < -d := by omega
                clear hok hno
                go_wp2_with (go_at_call 15; (with_reducible refine (HB1.out _).mono ?_); rintro e w5 ⟨rfl, rfl⟩)
                go_quiet (fail)
                go_wp2
                go_round
                case rel => exact ⟨q + 1, by omega, (by have hk9 := HQ1.out; subst hk9; first | rfl | go_num), HOK, below_drewK (by go_grown) _⟩
                case measure => have hk9 := HQ1.out; (simp [intOf]; omega)
              · have HNO := Lib.hid (hno hgood)
                have d3 : (50 : Int) < d ∨ (¬ (50 : Int) < d ∧ (50 : Int) < -d) := by omega
                clear hok hno hgood
                rcases d3 with d3 | ⟨d3, d4⟩
                all_goals (
                  go_wp2_with (go_at_call 15; (with_reducible refine (HB1.out _).mono ?_); rintro e w5 ⟨rfl, rfl⟩)
                  go_quiet (fail)
                  go_wp2
                  go_returns
                  exact ⟨.inr ⟨HNO.out, rfl⟩, HB.out.trans (Below.mono (below_drewK (by go_grown) _) hsz)⟩)
        · have hqk : q = k := by omega
          subst hqk
          have HOK : Hid (OkW l W) := Lib.hid (OkU.all (by rw [HL.out]; exact HO.out))
          have HB2 := Lib.hid hb2
          clear HO
          go_wp2
          go_returns
          exact ⟨.inl ⟨HOK.out, _, _, _, _, rfl, own_rdI (HT2.out.quiet HB2.out).r1 (by rw [atl_len, HL.out]), own_rdI (HT2.out.quiet HB2.out).r2 (by rw [szl_len, HL.out])⟩, HB.out.trans (HB2.out.mono hsz)⟩

end Go.Proofs.Ythckglpleiojkaa
