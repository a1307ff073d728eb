/-
  Several texts in one: WayCheck, WayFin, WayOrd, WayBack, WayParts, Way.
-/
import Derived.Test.YtfhnhbkdhdocjaaMWayR
import Derived.Laws.EntriesVeiled
import Derived.Deep.Onto
import Derived.Test.YtfhnhbkdhdocjaaWordsOwn

/-
  way.Check (E1): a graph is valid, or the first error.
-/

namespace Go.Proofs.Ytfhnhbkdhdocjaa
open Go.RowKit
set_option linter.unusedSimpArgs false
set_option linter.unusedVariables false
set_option maxRecDepth 100000

theorem wayNode_any (x : Int) (p : Addr) (A : Option Addr) (len cap : Nat) (w : World) (hp : w.cell? p = some (.slice A len cap)) :
    Calls Try.prog 121 #[.int .i64 x, .pointer (some p)] w fun e w' => e = .returned (.bool (decide (0 ≤ x ∧ x < (len : Int)))) ∧ w = w' := by
  by_cases h0 : 0 ≤ x
  · go_enter Try.func121, Try.ntmps121
    go_wp2
    go_ret
    exact ⟨ret_bool (by simp [h0]), rfl⟩
  · go_enter Try.func121, Try.ntmps121
    go_wp2
    go_ret
    exact ⟨ret_bool (by rw [show decide (0 ≤ x) = false from decide_eq_false (by omega)]; rfl), rfl⟩

theorem rowOk_at {n : Int} {row : List Int} {k : Nat} {x : Int} (h : row[k]? = some x) : rowOk n (row.drop k) = (decide (0 ≤ x ∧ x < n) && rowOk n (row.drop (k + 1))) := by
  rw [drop_at h]
  unfold rowOk
  rw [List.all_cons]

set_option maxHeartbeats 1000000 in
theorem wayCheck_any (A : Option Addr) (len cap : Nat) (nx : List (List Int)) (w : World) (hx : RdG w w.heap.size A nx) (hl : nx.length = len) (hm : len ≤ maxLen) :
    Calls Try.prog 111 #[.slice A len cap] w fun e w' => e = .returned (.int .i64 (ckWay nx)) ∧ Below w.heap.size w w' := by
  unfold maxLen at hm
  have HL := Lib.hid hl
  by_cases h0 : len < 1 ∨ 8 < len
  · have hr : ckWay nx = 1 := by unfold ckWay; rw [if_pos (by omega)]
    rw [hr]
    clear hr hl
    rcases h0 with h0 | h0
    · obtain rfl : len = 0 := by omega
      clear h0
      go_enter Try.func111, Try.ntmps111
      go_wp2
      go_ret
      exact ⟨rfl, by go_grown⟩
    · have e1 : ((len : Int) == 0) = false := by simp; omega
      go_enter Try.func111, Try.ntmps111
      go_wp2
      go_ret
      exact ⟨rfl, by go_grown⟩
  · have hr : ckWay nx = ckRows len nx := by unfold ckWay; rw [if_neg (by omega), hl]
    have e1 : ((len : Int) == 0) = false := by simp; omega
    have h8 : len ≤ 8 := by omega
    have HR0 := Lib.hid hr
    clear hr hl h0
    go_enter Try.func111, Try.ntmps111
    go_wp2
    obtain ⟨wo, hwo⟩ : ∃ wo, wo = w.alloc (.cells #[.slice A len cap] 80) := ⟨_, rfl⟩
    have hbo : Below w.heap.size w wo := by rw [hwo]; go_grown
    have hbx : wo.cell? ⟨w.heap.size, 0, none⟩ = some (.slice A len cap) := by rw [hwo]; exact cell_new rfl rfl
    have hxo := (hx.below hbo (Nat.le_refl _)).more hbo.size
    have hso : w.heap.size < wo.heap.size := World.block_lt_of_cell? wo _ hbx
    rw [← hwo]
    clear hwo hx
    go_loop [19] (fun i => ∃ k : Nat, k ≤ len ∧ i = .int .i64 k ∧ ckRows len nx = ckRows len (nx.drop k)) (fun i => len - (intOf i).toNat)
    case atStart => exact ⟨0, Nat.zero_le _, rfl, rfl⟩
    case round =>
      obtain ⟨k, hk, rfl, hr⟩ := hrel
      have HR := Lib.hid hr
      clear hr
      by_cases hlt : k < len
      · obtain ⟨ad, row, Ar, cr, rfl, hbl, hd, hcell, hrow⟩ := hxo.at_ (k := k) (by rw [HL.out]; exact hlt)
        have HD := Lib.hid (ckRows_at (n := (len : Int)) hd)
        clear hd
        obtain ⟨rl, hrl⟩ : ∃ rl, row.length = rl := ⟨_, rfl⟩
        rw [hrl] at hcell
        have HRL := Lib.hid hrl
        by_cases h3 : 3 < rl
        · have hck : ckRow len row = 1 := by unfold ckRow; rw [if_pos (by omega)]
          have HCK := Lib.hid hck
          clear hck hrl
          go_wp2
          go_ret
          exact ⟨ret_int (by rw [HR0.out, HR.out, HD.out, HCK.out]; rfl), hbo⟩
        · have hck : ckRow len row = if rowOk len row = true then 0 else 2 := by unfold ckRow; rw [if_neg (by omega)]
          have HCK := Lib.hid hck
          clear hck hrl
          go_wp2
          go_loop [28] (fun i => ∃ c : Nat, c ≤ rl ∧ i = .int .i64 c ∧ rowOk len row = rowOk len (row.drop c)) (fun i => rl - (intOf i).toNat)
          case atStart => exact ⟨0, Nat.zero_le _, rfl, rfl⟩
          case round =>
            obtain ⟨c, hc, rfl, hrc⟩ := hrel
            have HRC := Lib.hid hrc
            clear hrc
            by_cases hct : c < rl
            · obtain ⟨ar, x, rfl, hbr, hdx, hcx⟩ := hrow.at_ (k := c) (by rw [HRL.out]; exact hct)
              have HDX := Lib.hid (rowOk_at (n := (len : Int)) hdx)
              clear hdx
              cases hb : decide (0 ≤ x ∧ x < (len : Int)) with
              | true =>
                have HB := Lib.hid hb
                clear hb
                go_wp2_with (go_at_call 121; (with_reducible refine (wayNode_any x _ _ len _ _ hbx).mono ?_); rw [HB.out]; rintro e w5 ⟨rfl, rfl⟩)
                go_round
                case rel => exact ⟨c + 1, by omega, by go_num, by rw [HRC.out, HDX.out, HB.out]; rfl⟩
                case measure => (simp [intOf]; omega)
              | false =>
                have HB := Lib.hid hb
                clear hb
                go_wp2_with (go_at_call 121; (with_reducible refine (wayNode_any x _ _ len _ _ hbx).mono ?_); rw [HB.out]; rintro e w5 ⟨rfl, rfl⟩)
                go_ret
                exact ⟨ret_int (by rw [HR0.out, HR.out, HD.out, HCK.out, HRC.out, HDX.out, HB.out]; rfl), hbo⟩
            · have hrt : rowOk len row = true := by rw [HRC.out, List.drop_of_length_le (by rw [HRL.out]; omega)]; rfl
              have HRT := Lib.hid hrt
              clear hrt
              show Code.wp _ _ _ _ _
              go_wp2
              go_round
              case rel => exact ⟨k + 1, by omega, by go_num, by rw [HR.out, HD.out, HCK.out, if_pos HRT.out, if_pos rfl]⟩
              case measure => (simp [intOf]; omega)
      · go_wp2
        go_ret
        exact ⟨ret_int (by rw [HR0.out, HR.out, List.drop_of_length_le (by rw [HL.out]; omega)]; rfl), hbo⟩

end Go.Proofs.Ytfhnhbkdhdocjaa

/-
  way.finished (E2): the search in depth from a node: in which order nodes are left; way.setOf, way.has.
-/

namespace Go.Proofs.Ytfhnhbkdhdocjaa
open Go.RowKit
set_option linter.unusedSimpArgs false
set_option linter.unusedVariables false
set_option maxRecDepth 100000

set_option maxHeartbeats 1000000 in
theorem waySetOf_any (A : Option Addr) (len cap : Nat) (hs : List Nat) (B : Nat) (w : World) (hx : RdI w B A (ni hs)) (hl : hs.length = len) (hlt : ∀ x ∈ hs, x < 32) (hm : len ≤ 65536) :
    Calls Try.prog 112 #[.slice A len cap] w fun e w' => e = .returned (.int .u32 (setW hs : Nat)) ∧ w = w' := by
  have HL := Lib.hid hl
  have HLT := Lib.hid hlt
  have HNL : Hid ((ni hs).length = len) := Lib.hid (by unfold ni; rw [List.length_map, hl])
  clear hl hlt
  go_enter Try.func112, Try.ntmps112
  go_wp2
  go_loop [3, 8] (fun s i => ∃ k acc : Nat, k ≤ len ∧ acc < 4294967296 ∧ i = .int .i64 k ∧ s = .int .u32 acc ∧ acc = setW (hs.take k)) (fun _ i => len - (intOf i).toNat)
  case atStart => exact ⟨0, 0, Nat.zero_le _, by omega, rfl, rfl, rfl⟩
  case round =>
    obtain ⟨k, acc, hk, hacc, rfl, rfl, hr⟩ := hrel
    have HR := Lib.hid hr
    clear hr
    by_cases hlt : k < len
    · obtain ⟨ad, x, rfl, hbl, hd, hcell⟩ := hx.at_ (k := k) (by rw [HNL.out]; exact hlt)
      have hkk : k < hs.length := by rw [HL.out]; exact hlt
      have hv := List.getElem?_eq_getElem hkk
      have hv32 := HLT.out _ (List.getElem_mem hkk)
      have hxe := ni_at hv
      generalize hs[k] = vn at hv hv32 hxe
      rw [hd] at hxe
      injection hxe with hxe
      subst hxe
      have hst : setW (hs.take (k + 1)) = acc ||| 2 ^ vn := by rw [List.take_add_one, hv, Option.toList_some, setW_snoc, ← HR.out]
      have HS := Lib.hid hst
      have hp := pow_lt_32 hv32
      have hor : bits .or .u32 (acc : Int) ((2 ^ vn : Nat) : Int) = ((acc ||| 2 ^ vn : Nat) : Int) := u32_or_nat _ _ (by omega) (by omega)
      have hlo : acc ||| 2 ^ vn < 4294967296 := Nat.or_lt_two_pow (n := 32) hacc hp
      clear hst hd hv
      go_wp2
      go_round
      case rel =>
        refine ⟨k + 1, acc ||| 2 ^ vn, by omega, hlo, by go_num, ?_, HS.out.symm⟩
        rw [← hor, pow_u32' hv32]
      case measure => (simp [intOf]; omega)
    · have hkl : k = len := by omega
      subst hkl
      go_wp2
      go_ret
      refine ⟨?_, rfl⟩
      rw [HR.out, ← HL.out, List.take_length]
      rfl

theorem shr_bit (W j : Nat) (hW : W < 4294967296) : (bits .and .u32 (((W : Nat) : Int) / 2 ^ j) 1 != 0) = W.testBit j := by
  have h : ((W : Nat) : Int) / 2 ^ j = ((W / 2 ^ j : Nat) : Int) := by simp
  have h2 : bits .and .u32 ((W / 2 ^ j : Nat) : Int) ((1 : Nat) : Int) = ((W / 2 ^ j &&& 1 : Nat) : Int) := u32_and_nat _ _ (Nat.lt_of_le_of_lt (Nat.div_le_self ..) hW) (by omega)
  rw [h]
  change (bits .and .u32 ((W / 2 ^ j : Nat) : Int) ((1 : Nat) : Int) != 0) = _
  rw [h2, nat_mask1, Nat.testBit_eq_decide_div_mod_eq]
  by_cases e : W / 2 ^ j % 2 = 1
  · rw [e]; rfl
  · have e0 : W / 2 ^ j % 2 = 0 := by omega
    rw [e0]; rfl

theorem wayHas_any (W j : Nat) (w : World) (hW : W < 4294967296) (hj : j < 32) :
    Calls Try.prog 76 #[.int .u32 (W : Nat), .int .i64 j] w fun e w' => e = .returned (.bool (W.testBit j)) ∧ w = w' := by
  have HR := Lib.hid (shr_bit W j hW)
  go_enter Try.func76, Try.ntmps76
  go_wp2
  go_ret
  exact ⟨ret_bool HR.out, rfl⟩

/-- the search's four boxes, from block n on: the graph, the order, what was visited, the search itself -/
structure Dv (w : World) (n : Nat) (A : Option Addr) (len cap : Nat) (s : Sn) (A2 : Option Addr) (c2 : Nat) : Prop where
  gr : Own w n 80 [.slice A len cap]
  od : Own w (n + 1) 39 [.slice A2 s.2.length c2]
  vi : Own w (n + 2) 23 [.int .u32 (setW s.1 : Nat)]
  fn : Own w (n + 3) 165 [.func (.func 122) #[] #[.pointer (some ⟨n + 2, 0, none⟩), .pointer (some ⟨n, 0, none⟩), .pointer (some ⟨n + 3, 0, none⟩), .pointer (some ⟨n + 1, 0, none⟩)]]
  r : w.ownsRow (n + 4) 3 1 (.slice A2 s.2.length c2) s.2.length (iv (ni s.2))
  sz : n + 4 ≤ w.heap.size

section
variable {X Y : World} {n : Nat} {A : Option Addr} {len cap : Nat} {s : Sn} {A2 : Option Addr} {c2 : Nat}

theorem Dv.quiet (h : Dv X n A len cap s A2 c2) (hb : Below X.heap.size X Y) : Dv Y n A len cap s A2 c2 :=
  ⟨h.gr.below hb h.gr.lt, h.od.below hb h.od.lt, h.vi.below hb h.vi.lt, h.fn.below hb h.fn.lt, own_below h.r hb, Nat.le_trans h.sz hb.size⟩

theorem Dv.drew (h : Dv X n A len cap s A2 c2) : Dv X.drew n A len cap s A2 c2 := ⟨h.gr, h.od, h.vi, h.fn, h.r, h.sz⟩

/-- one more was visited -/
theorem Dv.seen (h : Dv X n A len cap s A2 c2) {i : Nat} {v : Int} (hv : v = ((setW s.1 ||| 2 ^ i : Nat) : Int)) : Dv (X.setCell ⟨n + 2, 0, none⟩ (.int .u32 v)) n A len cap (s.1 ++ [i], s.2) A2 c2 := by
  subst hv
  refine ⟨h.gr.far (by simp) _, h.od.far (by simp) _, ?_, h.fn.far (by simp) _, own_farW h.r (by simp) _, by simpa using h.sz⟩
  have := h.vi.set 0 (.int .u32 ((setW s.1 ||| 2 ^ i : Nat) : Int))
  rw [setW_snoc]
  exact this

/-- one more was left: appended to the order -/
theorem Dv.left (h : Dv X n A len cap s A2 c2) {i : Nat} {A' : Option Addr} {c' : Nat} (ho : Y.ownsRow (n + 4) 3 1 (.slice A' (s.2.length + 1) c') (s.2.length + 1) (iv (ni s.2) ++ [.int .i64 (i : Int)]))
    (hb : Below (n + 4) X Y) : Dv (Y.setCell ⟨n + 1, 0, none⟩ (.slice A' (s.2.length + 1) c')) n A len cap (s.1, s.2 ++ [i]) A' c' := by
  have e : (s.2 ++ [i]).length = s.2.length + 1 := by simp
  refine ⟨(h.gr.below hb (by omega)).far (by simp) _, ?_, (h.vi.below hb (by omega)).far (by simp) _, (h.fn.below hb (by omega)).far (by simp) _, ?_, by have := h.sz; have := hb.size; simp; omega⟩
  · have := (h.od.below hb (by omega)).set 0 (.slice A' (s.2.length + 1) c')
    simp only [e]
    exact this
  · simp only [e, ni_append, iv_append]
    exact own_farW ho (by simp) _

end

theorem setW_bits {hs : List Nat} {x : Nat} : (setW hs).testBit x = decide (x ∈ hs) := by
  rw [Bool.eq_iff_iff, setW_bit, decide_eq_true_eq]

set_option maxHeartbeats 4000000 in
theorem wayVisit_any (A : Option Addr) (len cap : Nat) (nx : List (List Int)) (n : Nat) (hl : nx.length = len) (hc : ckWay nx = 0) : ∀ (f i : Nat) (s : Sn) (A2 : Option Addr) (c2 : Nat) (w : World), RdG w n A nx → Wa nx f s → i < len → i ∉ s.1 → s.2.length ≤ s.1.length → Dv w n A len cap s A2 c2 →
    Calls Try.prog 122 #[.int .i64 i, .pointer (some ⟨n + 2, 0, none⟩), .pointer (some ⟨n, 0, none⟩), .pointer (some ⟨n + 3, 0, none⟩), .pointer (some ⟨n + 1, 0, none⟩)] w fun e w' =>
      ∃ A2' c2', e = .returned (.tuple #[]) ∧ Dv w' n A len cap (wkF nx f i s) A2' c2' ∧ Below n w w'
  | 0, i, s, A2, c2, w, hx, ha, hi, hin, hsl, hw => (wa_zero ha (by rw [hl]; exact hi) hin).elim
  | f + 1, i, s, A2, c2, w, hx, ha, hi, hin, hsl, hw => by
    have IH := Lib.hid (wayVisit_any A len cap nx n hl hc f)
    obtain ⟨b1, b2, b3⟩ := ckWay_bd hc
    have hsz : s.1.length ≤ nx.length := nodup_len ha.nd ha.lt
    have HOK := Lib.hid (wkK_ok hc ha (by rw [hl]; exact hi) hin hsl)
    have HNX := Lib.hid (fun k x => wkK_next (nx := nx) (f := f) (i := i) (k := k) (x := x) (s := s))
    have H0 : Hid (wkK nx f i s 0 = (s.1 ++ [i], s.2)) := Lib.hid rfl
    rw [wkK_all]
    have hslen := sc_len hc i
    have HSC := Lib.hid (fun x => sc_lt hc (i := i) (x := x))
    have HWL : Hid (∀ k, setW (wkK nx f i s k).1 < 4294967296) := Lib.hid fun k => by
      have h1 := (wkK_ok hc ha (by rw [hl]; exact hi) hin hsl k).1.lt
      have := setW_lt (n := 32) (hs := (wkK nx f i s k).1) (fun x hx => by have := h1 x hx; omega)
      simpa using this
    have hW0 : setW s.1 < 4294967296 := by
      have := setW_lt (n := 32) (hs := s.1) (fun x hx => by have := ha.lt x hx; omega)
      simpa using this
    have hi32 : i < 32 := by omega
    have hp32 := pow_lt_32 hi32
    have hor : bits .or .u32 ((setW s.1 : Nat) : Int) ((2 : Int) ^ i % 4294967296) = ((setW s.1 ||| 2 ^ i : Nat) : Int) := by rw [pow_u32' hi32]; exact u32_or_nat _ _ hW0 hp32
    have HOR := Lib.hid hor
    have hd0 := hw.gr.cell (j := 0) rfl
    have hd2 := hw.vi.cell (j := 0) rfl
    have hf2 := hw.vi.frozen 0
    obtain ⟨ad, row, Ar, cr, rfl, hbl, hd, hcell, hrow⟩ := hx.at_ (k := i) (by rw [hl]; exact hi)
    have hrs := row_sc hc hd
    subst hrs
    have HSL : (ni (sc nx i)).length = (sc nx i).length := by simp [ni]
    rw [HSL] at hcell
    have HL := Lib.hid hl
    rw [hl] at b1 b2 hsz
    generalize wkK nx f i s = st at *
    generalize sc nx i = ss at *
    obtain ⟨sl, hsl2⟩ : ∃ sl, ss.length = sl := ⟨_, rfl⟩
    rw [hsl2] at hcell hslen ⊢
    have HSS := Lib.hid hsl2
    have HW := Lib.hid hw
    have hsB := hw.sz
    clear hl hc hd HSL ha hin b3 hsl2 hw hor
    obtain ⟨sw, hsw⟩ : ∃ sw, setW s.1 = sw := ⟨_, rfl⟩
    rw [hsw] at hd2 hW0 HOR
    have HSW := Lib.hid hsw
    clear hsw
    have hcell1 : (w.setCell ⟨n + 2, 0, none⟩ (.int .u32 (bits .or .u32 ((sw : Nat) : Int) ((2 : Int) ^ i % 4294967296)))).cell? (ad.add i) = some (.slice Ar sl cr) := (((Below.refl n w).setCell (show n ≤ (⟨n + 2, 0, none⟩ : Addr).block by simp) _).cell hbl).trans hcell
    go_enter Try.func122, Try.ntmps122
    go_wp2
    go_region
    go_wp2
    go_loopw [17] (fun z wr => ∃ (k : Nat) (A5 : Option Addr) (c5 : Nat), k ≤ sl ∧ z = .int .i64 k ∧ Dv wr n (some ad) len cap (st k) A5 c5 ∧ Below n w wr) (fun z _ => sl - (intOf z).toNat)
    case atStart =>
      refine ⟨0, A2, c2, Nat.zero_le _, rfl, ?_, ?_⟩
      · rw [H0.out]
        exact (Dv.seen HW.out (by rw [HSW.out]; exact HOR.out)).drew
      · exact ((Below.refl n w).setCell (show n ≤ (⟨n + 2, 0, none⟩ : Addr).block by simp) _).drew
    case round =>
      obtain ⟨k, A5, c5, hk, rfl, hDk, hbk⟩ := hrel
      obtain ⟨hwa, hl1, hl2⟩ := HOK.out k
      have hswk := HWL.out k
      rw [HL.out] at hl2
      by_cases hlt : k < sl
      · obtain ⟨x, hxc⟩ : ∃ x, ss[k]? = some x := ⟨_, List.getElem?_eq_getElem (by rw [HSS.out]; exact hlt)⟩
        have hnx := HNX.out k x hxc
        have hxl := HSC.out x (List.mem_of_getElem? hxc)
        rw [HL.out] at hxl
        have hx32 : x < 32 := by omega
        have hrowi : RdI wr n Ar (ni ss) := hrow.below hbk (Nat.le_refl _)
        obtain ⟨ar, x', rfl, hbr, hxr, hcx⟩ := hrowi.at_ (k := k) (by simp [ni]; rw [HSS.out]; exact hlt)
        rw [ni_at hxc] at hxr
        injection hxr with hxr
        subst hxr
        have hd2k := hDk.vi.cell (j := 0) rfl
        have hd3k := hDk.fn.cell (j := 0) rfl
        have hxg := hx.below hbk (Nat.le_refl _)
        have hbit := setW_bits (hs := (st k).1) (x := x)
        generalize st k = sk at *
        obtain ⟨swk, hsk⟩ : ∃ m, setW sk.1 = m := ⟨_, rfl⟩
        rw [hsk] at hd2k hswk hbit
        have HDK := Lib.hid hDk
        have HWA := Lib.hid hwa
        have HL1 := Lib.hid hl1
        clear hxc hwa hl1 hDk hsk
        by_cases hin : x ∈ sk.1
        · rw [decide_eq_true hin] at hbit
          rw [show wkJ nx f sk x = sk from by unfold wkJ; rw [if_pos hin]] at hnx
          have HNX2 := Lib.hid hnx
          clear hnx hin
          go_wp2_with (go_at_call 76; (with_reducible refine (wayHas_any swk x _ hswk hx32).mono ?_); rw [hbit]; rintro e w5 ⟨rfl, rfl⟩)
          go_round
          case rel => exact ⟨k + 1, A5, c5, by omega, by go_num, by rw [HNX2.out]; exact HDK.out, hbk⟩
          case measure => (simp [intOf]; omega)
        · rw [decide_eq_false hin] at hbit
          rw [show wkJ nx f sk x = wkF nx f x sk from by unfold wkJ; rw [if_neg hin]] at hnx
          have HNX2 := Lib.hid hnx
          have HIX := Lib.hid (IH.out x sk A5 c5 wr hxg HWA.out hxl hin HL1.out HDK.out)
          clear hnx hin
          go_wp2_with (first
            | (go_at_call 76; (with_reducible refine (wayHas_any swk x _ hswk hx32).mono ?_); rw [hbit]; rintro e w5 ⟨rfl, rfl⟩)
            | (go_at_call 122; (with_reducible refine HIX.out.mono ?_); rintro e w5 ⟨A6, c6, rfl, hD5, hb5⟩))
          go_round
          case rel => exact ⟨k + 1, A6, c6, by omega, by go_num, by rw [HNX2.out]; exact hD5, hbk.trans hb5⟩
          case measure => (simp [intOf]; omega)
      · have hks : k = sl := by omega
        subst hks
        obtain ⟨sk, hsk⟩ : ∃ sk, st k = sk := ⟨_, rfl⟩
        rw [hsk] at hDk hl1 hl2
        have HSK := Lib.hid hsk
        have hd1k := hDk.od.cell (j := 0) rfl
        have hf1k := hDk.od.frozen 0
        have hrk := hDk.r
        have hszk := hDk.sz
        have hnx1 : n + 1 < n + 4 := by omega
        have HDK := Lib.hid hDk
        have HLS := Lib.hid (by omega : sk.2.length + 1 ≤ 9)
        obtain ⟨m2, hm2⟩ : ∃ m2, sk.2.length = m2 := ⟨_, rfl⟩
        rw [hm2] at hrk hd1k
        have h63' : m2 + 1 ≤ maxLen := by unfold maxLen; omega
        have hbig' : (m2 + 1) * 8 ≤ 140737488355328 := by omega
        have HE2 := Lib.hid hm2
        clear hwa hl1 hDk hm2 hsk
        go_wp2_with (at_builtin; refine wpList_app' rfl (.tmp 29) (.tmp 31) 39 rfl (n + 4) 3 1 8 int_app _ rfl (own_below hrk (by go_grown)) [.int .i64 (i : Int)] rfl rfl (fun h => by cases h) (cells_at rfl _ _) (one_cell _) h63' hbig' (by simp; omega) ?_; intro A8 c8 w8 hown8 hg8 hb8 hp8; have hbw8 : Below (n + 4) wr w8 := ((by go_grown : Below wr.heap.size wr (wr.alloc (.cells #[.int .i64 (i : Int)] 3))).mono hszk).trans hb8; have hq8 := (hbw8.cell (p := ⟨n + 1, 0, none⟩) hnx1).trans hd1k; have hf8 := (hbw8.frozen (p := ⟨n + 1, 0, none⟩) hnx1).trans hf1k)
        go_returns
        refine ⟨A8, c8, rfl, ?_, ?_⟩
        · rw [HSK.out]
          have := HDK.out.left (i := i) (Y := w8) (by rw [HE2.out]; exact hown8) hbw8
          rw [HE2.out] at this
          exact this
        · exact (hbk.trans (hbw8.mono (by omega))).setCell (show n ≤ (⟨n + 1, 0, none⟩ : Addr).block by simp) _

/-- the order in which a search from i on leaves nodes -/
def fiL (nx : List (List Int)) (i : Nat) : List Nat := (wkF nx nx.length i ([], [])).2

theorem fiL_zero (nx : List (List Int)) : fiL nx 0 = finL nx := rfl

section
variable {nx : List (List Int)} (hc : ckWay nx = 0)
include hc

theorem fi_wk {i : Nat} (hi : i < nx.length) : ∃ new, Wk nx i ([], []) (wkF nx nx.length i ([], [])) new (fiL nx i) ∧ i ∈ new := by
  obtain ⟨new, newl, hw, h0⟩ := wk_spec hc nx.length i ([], []) ⟨by simp, by simp, by simp⟩ hi (by simp)
  have : fiL nx i = newl := by unfold fiL; rw [hw.e2]; rfl
  rw [this]
  exact ⟨new, hw, h0⟩

theorem fi_mem {i x : Nat} (hi : i < nx.length) : x ∈ fiL nx i ↔ Rea nx (-1) i x := by
  obtain ⟨new, hw, h0⟩ := fi_wk hc hi
  rw [hw.mem]
  refine ⟨fun h => hw.rea x h, fun h => h.within (S := fun y => y ∈ new) h0 fun a b ha hb _ => ?_⟩
  have := hw.cl a ha b hb
  rw [hw.e1] at this
  simpa using this

theorem fi_nodup {i : Nat} (hi : i < nx.length) : (fiL nx i).Nodup := by
  obtain ⟨new, hw, _⟩ := fi_wk hc hi
  exact hw.ndl

theorem fi_lt {i x : Nat} (hi : i < nx.length) (h : x ∈ fiL nx i) : x < nx.length := ((fi_mem hc hi).1 h).lt hc hi

theorem fi_len {i : Nat} (hi : i < nx.length) : (fiL nx i).length ≤ nx.length := nodup_len (fi_nodup hc hi) fun _ h => fi_lt hc hi h

end

theorem own_end {w : World} {g : Nat} (hg : g = w.heap.size) (t : TypeId) (cs : List Value) : Own (w.alloc (.cells cs.toArray t)) g t cs := by
  subst hg
  exact Own.new w t cs

theorem dv_start (w : World) (A : Option Addr) (len cap : Nat) : Dv ((((w.alloc (.cells #[.slice A len cap] 80)).alloc (.cells #[.slice none 0 0] 39)).alloc (.cells #[.int .u32 0] 23)).alloc (.cells #[.func (.func 122) #[] #[.pointer (some ⟨w.heap.size + 1 + 1, 0, none⟩), .pointer (some ⟨w.heap.size, 0, none⟩), .pointer (some ⟨w.heap.size + 1 + 1 + 1, 0, none⟩), .pointer (some ⟨w.heap.size + 1, 0, none⟩)]] 165)) w.heap.size A len cap ([], []) none 0 :=
  ⟨(((own_end rfl _ [_]).alloc _).alloc _).alloc _, (((own_end (by simp) _ [_]).alloc _).alloc _), (own_end (by simp) _ [_]).alloc _, own_end (by simp) _ [_], World.ownsRow_nil _ _ _ _, by simp⟩

set_option maxHeartbeats 4000000 in
theorem wayFin_any (A : Option Addr) (len cap : Nat) (nx : List (List Int)) (i : Nat) (w : World) (hx : RdG w w.heap.size A nx) (hl : nx.length = len) (hc : ckWay nx = 0) (hi : i < len) :
    Calls Try.prog 113 #[.slice A len cap, .int .i64 i] w fun e w' => ∃ A' c', e = .returned (.slice A' (fiL nx i).length c') ∧ w'.ownsRow w.heap.size 3 1 (.slice A' (fiL nx i).length c') (fiL nx i).length (iv (ni (fiL nx i))) ∧ Below w.heap.size w w' := by
  have HV := Lib.hid (wayVisit_any A len cap nx w.heap.size hl hc len i ([], []))
  have HL := Lib.hid hl
  have hfe : (wkF nx len i ([], [])).2 = fiL nx i := by unfold fiL; rw [hl]
  have HFE := Lib.hid hfe
  clear hl hc hfe
  go_enter Try.func113, Try.ntmps113
  go_wp2_with fail
  have hB0 : Below w.heap.size w (w.alloc (.cells #[.slice A len cap] 80)) := by go_grown
  refine (HV.out none 0 _ (hx.below (by go_grown : Below w.heap.size w _) (Nat.le_refl _)) ⟨by simp, by simp, by simp [HL.out]⟩ hi (by simp) (by simp) (dv_start w A len cap)).mono ?_
  rintro e w1 ⟨A1, c1, rfl, hD, hb1⟩
  have hq := hD.od.cell (j := 0) rfl
  have hr := hD.r
  have hbw : Below w.heap.size w w1 := (by go_grown : Below w.heap.size w _).trans hb1
  rw [HFE.out] at hq hr
  obtain ⟨m, hm⟩ : ∃ m, (fiL nx i).length = m := ⟨_, rfl⟩
  rw [hm] at hq hr
  have HM := Lib.hid hm
  clear hm hD hb1
  go_wp2
  go_ret
  exact ⟨A1, c1, by rw [HM.out]; rfl, by rw [HM.out]; exact hr.mono (by omega), hbw⟩

end Go.Proofs.Ytfhnhbkdhdocjaa

/-
  slices.Reverse, slices.Index at ints; way.Reach, way.Order (E1, E2).
-/

namespace Go.Proofs.Ytfhnhbkdhdocjaa
open Go.RowKit
set_option linter.unusedSimpArgs false
set_option linter.unusedVariables false
set_option maxRecDepth 100000

/-- k swaps from both ends -/
def SwK (xs : List Int) (k : Nat) (ys : List Int) : Prop := ys.length = xs.length ∧ ∀ p, p < xs.length → ys[p]? = if p < k ∨ xs.length - 1 - k < p then xs[xs.length - 1 - p]? else xs[p]?

theorem SwK.zero (xs : List Int) : SwK xs 0 xs := ⟨rfl, fun p hp => by rw [if_neg (by omega)]⟩

theorem SwK.next {xs ys : List Int} {k j : Nat} (h : SwK xs k ys) (hj : j = xs.length - 1 - k) (hk : k < j) {x y : Int} (hx : ys[k]? = some x) (hy : ys[j]? = some y) : SwK xs (k + 1) ((ys.set k y).set j x) := by
  obtain ⟨h1, h2⟩ := h
  refine ⟨by simp [h1], fun p hp => ?_⟩
  have hk2 := h2 k (by omega)
  have hj2 := h2 j (by omega)
  rw [if_neg (by omega)] at hk2 hj2
  rw [List.getElem?_set, List.getElem?_set]
  by_cases e1 : j = p
  · subst e1
    rw [if_pos rfl, if_pos (by simp [h1]; omega), if_pos (by omega), show xs.length - 1 - j = k by omega, ← hk2, hx]
  · rw [if_neg e1]
    by_cases e2 : k = p
    · subst e2
      rw [if_pos rfl, if_pos (by omega), if_pos (by omega), ← hj, ← hj2, hy]
    · rw [if_neg e2, h2 p hp]
      by_cases e3 : p < k ∨ xs.length - 1 - k < p
      · rw [if_pos e3, if_pos (by omega)]
      · rw [if_neg e3, if_neg (by omega)]

theorem SwK.done {xs ys : List Int} {k : Nat} (h : SwK xs k ys) (hk : xs.length - 1 - k ≤ k) : ys = xs.reverse := by
  obtain ⟨h1, h2⟩ := h
  apply List.ext_getElem?
  intro p
  rcases Nat.lt_or_ge p xs.length with hp | hp
  · rw [h2 p hp, List.getElem?_reverse hp]
    split
    · rfl
    · rw [show xs.length - 1 - p = p by omega]
  · rw [List.getElem?_eq_none (by omega), List.getElem?_eq_none (by simp; omega)]

/-- the first place of a number, or -1 -/
def idxL (L : List Nat) (x : Nat) : Int := if x ∈ L then (posL L x : Nat) else -1

theorem posL_first : ∀ {L : List Nat} {k x : Nat}, x ∉ L.take k → L[k]? = some x → posL L x = k
  | y :: L, 0, x, _, h => by simp at h; subst h; unfold posL; rw [if_pos rfl]
  | y :: L, k + 1, x, hn, h => by
    rw [List.take_succ_cons, List.mem_cons, not_or] at hn
    unfold posL
    rw [if_neg (fun e => hn.1 e.symm), posL_first hn.2 (by simpa using h)]

set_option maxHeartbeats 1000000 in
theorem wayReach_any (A : Option Addr) (len cap : Nat) (nx : List (List Int)) (w : World) (hx : RdG w w.heap.size A nx) (hl : nx.length = len) (hm : len ≤ maxLen) :
    Calls Try.prog 93 #[.slice A len cap] w fun e w' => e = .returned (.tuple #[.int .u32 (reachW nx : Nat), .int .i64 (ckWay nx)]) ∧ Below w.heap.size w w' := by
  by_cases hc : ckWay nx = 0
  · have hrw : reachW nx = setW (fiL nx 0) := by unfold reachW; rw [if_pos hc, fiL_zero]
    obtain ⟨b1, b2, _⟩ := ckWay_bd hc
    have HC := Lib.hid hc
    have HR := Lib.hid hrw
    have HL := Lib.hid hl
    rw [hl] at b1 b2
    have hfl := fi_len hc (i := 0) (by rw [hl]; omega)
    rw [hl] at hfl
    have HLT : Hid (∀ x ∈ fiL nx 0, x < 32) := Lib.hid fun x hx => by have := fi_lt hc (i := 0) (by rw [hl]; omega) hx; omega
    clear hc hrw hl
    go_enter Try.func93, Try.ntmps93
    go_wp2_with fail
    refine (wayCheck_any A len cap nx _ hx HL.out hm).mono ?_
    rintro e w1 ⟨rfl, hb1⟩
    rw [HC.out]
    have hx1 := (hx.below hb1 (Nat.le_refl _)).more hb1.size
    go_wp2_with fail
    refine (wayFin_any A len cap nx 0 _ hx1 HL.out HC.out (by omega)).mono ?_
    rintro e w2 ⟨A2, c2, rfl, hr2, hb2⟩
    go_wp2_with fail
    refine (waySetOf_any A2 _ c2 (fiL nx 0) _ _ (own_rdI hr2 (by simp [ni])) rfl HLT.out (by omega)).mono ?_
    rintro e w3 ⟨rfl, rfl⟩
    go_wp2
    go_ret2
    exact ⟨by rw [HR.out, HC.out]; rfl, hb1.trans (hb2.mono hb1.size)⟩
  · have hrw : reachW nx = 0 := by unfold reachW; rw [if_neg hc]
    have HR := Lib.hid hrw
    have hne : (ckWay nx != 0) = true := by simp [hc]
    clear hc hrw
    go_enter Try.func93, Try.ntmps93
    go_wp2_with fail
    refine (wayCheck_any A len cap nx _ hx hl hm).mono ?_
    rintro e w1 ⟨rfl, hb1⟩
    go_wp2
    go_ret2
    exact ⟨by rw [HR.out]; rfl, hb1⟩

end Go.Proofs.Ytfhnhbkdhdocjaa

/-
  way.Back (E2): the pairs that go back.
-/

namespace Go.Proofs.Ytfhnhbkdhdocjaa
open Go.RowKit
set_option linter.unusedSimpArgs false
set_option linter.unusedVariables false
set_option maxRecDepth 100000

theorem idxL_in {L : List Nat} {x : Nat} (h : x ∈ L) : idxL L x = ((posL L x : Nat) : Int) := by unfold idxL; rw [if_pos h]

theorem idxL_out {L : List Nat} {x : Nat} (h : x ∉ L) : idxL L x = -1 := by unfold idxL; rw [if_neg h]

end Go.Proofs.Ytfhnhbkdhdocjaa

/-
  way.Parts (E2): the strongly connected components.
-/

namespace Go.Proofs.Ytfhnhbkdhdocjaa
open Go.RowKit
set_option linter.unusedSimpArgs false
set_option linter.unusedVariables false
set_option maxRecDepth 100000

/-- there and back -/
def boB (nx : List (List Int)) (i j : Nat) : Bool := decide (j ∈ fiL nx i) && decide (i ∈ fiL nx j)

/-- of those below n -/
def boR (nx : List (List Int)) (i n : Nat) : List Nat := (List.range n).filter (boB nx i)

theorem boR_succ (nx : List (List Int)) (i n : Nat) : boR nx i (n + 1) = if boB nx i n = true then boR nx i n ++ [n] else boR nx i n := by
  unfold boR
  rw [List.range_succ, List.filter_append]
  by_cases h : boB nx i n = true
  · rw [if_pos h]; simp [h]
  · rw [if_neg h]; simp [h]

theorem boR_lt {nx : List (List Int)} {i n x : Nat} (h : x ∈ boR nx i n) : x < n := List.mem_range.1 (List.mem_filter.1 h).1

theorem boR_mem {nx : List (List Int)} (hc : ckWay nx = 0) {i j : Nat} (hi : i < nx.length) : j ∈ boR nx i nx.length ↔ Both nx i j := by
  unfold boR boB
  rw [List.mem_filter, List.mem_range, Bool.and_eq_true, decide_eq_true_eq, decide_eq_true_eq]
  constructor
  · rintro ⟨h1, h2, h3⟩
    exact ⟨(fi_mem hc hi).1 h2, (fi_mem hc h1).1 h3⟩
  · rintro ⟨h1, h2⟩
    have hj := h1.lt hc hi
    exact ⟨hj, (fi_mem hc hi).2 h1, (fi_mem hc hj).2 h2⟩

theorem Pts.of {nx : List (List Int)} (hc : ckWay nx = 0) {ps : List Nat} (hl : ps.length = nx.length) (h : ∀ r, r < nx.length → ps[r]? = some (setW (boR nx r nx.length))) : Pts nx ps := by
  refine ⟨hl, fun i W hW => ?_, fun i W hW j => ?_⟩
  · have hi : i < nx.length := by rw [← hl]; exact (List.getElem?_eq_some_iff.1 hW).1
    rw [h i hi] at hW
    injection hW with hW
    rw [← hW]
    exact setW_lt fun x hx => boR_lt hx
  · have hi : i < nx.length := by rw [← hl]; exact (List.getElem?_eq_some_iff.1 hW).1
    rw [h i hi] at hW
    injection hW with hW
    rw [← hW, setW_bit, boR_mem hc hi]

theorem setW_u32 {hs : List Nat} {n : Nat} (h : ∀ x ∈ hs, x < n) (hn : n ≤ 32) : setW hs < 4294967296 := by
  have := setW_lt (n := 32) (hs := hs) (fun x hx => by have := h x hx; omega)
  simpa using this

end Go.Proofs.Ytfhnhbkdhdocjaa

/-
  Package way keeps its contracts.
-/

namespace Go.Proofs.Ytfhnhbkdhdocjaa
open Go.RowKit
set_option linter.unusedSimpArgs false
set_option linter.unusedVariables false
set_option maxRecDepth 100000

end Go.Proofs.Ytfhnhbkdhdocjaa
