/-
  hang.Last, hang.On (H1, H2): package hang keeps its contracts.
-/
import Derived.Test.YtfhnhbkdhdocjaaHangEnd
import Derived.Test.YtfhnhbkdhdocjaaMRuleR
import Derived.Test.YtfhnhbkdhdocjaaRuleTab
import Derived.Test.YtfhnhbkdhdocjaaMHang
namespace Go.Proofs.Ytfhnhbkdhdocjaa
open Go.RowKit
set_option linter.unusedSimpArgs false
set_option linter.unusedVariables false
set_option maxRecDepth 100000

/-- H1 for the first i nodes, and of the next one for the first k -/
def LaR (nx : List (List Int)) (i k a b : Nat) : Prop := (a < i ∧ SureP nx a b) ∨ (a = i ∧ b < k ∧ SureP nx a b)

theorem LaR.skip {nx : List (List Int)} {i a b : Nat} (h : ¬ EndP nx (-1) i) : LaR nx i 0 a b ↔ LaR nx (i + 1) 0 a b := by
  unfold LaR
  constructor
  · rintro (⟨h1, h2⟩ | ⟨_, h1, _⟩)
    · exact .inl ⟨by omega, h2⟩
    · omega
  · rintro (⟨h1, h2⟩ | ⟨_, h1, _⟩)
    · by_cases e : a = i
      · subst e; exact absurd h2.1 h
      · exact .inl ⟨by omega, h2⟩
    · omega

theorem LaR.pass {nx : List (List Int)} {i k a b : Nat} (h : ¬ SureP nx i k) : LaR nx i k a b ↔ LaR nx i (k + 1) a b := by
  unfold LaR
  constructor
  · rintro (h1 | ⟨h1, h2, h3⟩)
    · exact .inl h1
    · exact .inr ⟨h1, by omega, h3⟩
  · rintro (h1 | ⟨rfl, h2, h3⟩)
    · exact .inl h1
    · by_cases e : b = k
      · subst e; exact absurd h3 h
      · exact .inr ⟨rfl, by omega, h3⟩

theorem LaR.more {nx : List (List Int)} {i k a b : Nat} (h : SureP nx i k) : (LaR nx i k a b ∨ (a = i ∧ b = k)) ↔ LaR nx i (k + 1) a b := by
  unfold LaR
  constructor
  · rintro ((h1 | ⟨h1, h2, h3⟩) | ⟨rfl, rfl⟩)
    · exact .inl h1
    · exact .inr ⟨h1, by omega, h3⟩
    · exact .inr ⟨rfl, by omega, h⟩
  · rintro (h1 | ⟨rfl, h2, h3⟩)
    · exact .inl (.inl h1)
    · by_cases e : b = k
      · exact .inr ⟨rfl, e⟩
      · exact .inl (.inr ⟨rfl, by omega, h3⟩)

theorem LaR.next {nx : List (List Int)} (hc : ckWay nx = 0) {i a b : Nat} (hi : i < nx.length) : LaR nx i nx.length a b ↔ LaR nx (i + 1) 0 a b := by
  unfold LaR
  constructor
  · rintro (⟨h1, h2⟩ | ⟨rfl, h1, h2⟩)
    · exact .inl ⟨by omega, h2⟩
    · exact .inl ⟨by omega, h2⟩
  · rintro (⟨h1, h2⟩ | ⟨_, h1, _⟩)
    · by_cases e : a = i
      · subst e; exact .inr ⟨rfl, h2.lt hc hi, h2⟩
      · exact .inl ⟨by omega, h2⟩
    · omega

theorem LaR.zero {nx : List (List Int)} {a b : Nat} : False ↔ LaR nx 0 0 a b := by
  unfold LaR
  constructor
  · exact False.elim
  · rintro (⟨h, _⟩ | ⟨_, h, _⟩) <;> omega

theorem LaR.all {nx : List (List Int)} {a b : Nat} (ha : a < nx.length) : LaR nx nx.length 0 a b ↔ SureP nx a b := by
  unfold LaR
  exact ⟨fun h => h.elim And.right fun h => h.2.2, fun h => .inl ⟨ha, h⟩⟩

theorem sure_ends {nx : List (List Int)} {i k : Nat} (h : EndP nx (-1) i) : SureP nx i k ↔ ¬ EndP nx (k : Int) i := by
  unfold SureP
  constructor
  · rintro ⟨_, rfl | h2⟩
    · rintro ⟨j, hj, _⟩
      exact absurd rfl hj.start
    · exact h2
  · exact fun h2 => ⟨h, .inr h2⟩

theorem lt_pow {W n : Nat} (h : ∀ j, W.testBit j = true → j < n) : W < 2 ^ n := Nat.lt_pow_two_of_testBit W fun j hj => by
  cases e : W.testBit j with
  | false => rfl
  | true => have := h j e; omega

theorem Lst.of {nx : List (List Int)} {ws : List Nat} (hc : ckWay nx = 0) (h : EgI nx ws (SureP nx)) : Lst nx ws :=
  ⟨h.len, fun i W hW => lt_pow fun j hj => ((h.mem i W hW j).1 hj).lt hc (by rw [← h.len]; exact (List.getElem?_eq_some_iff.1 hW).1), h.mem⟩

theorem Hgs.of {nx : List (List Int)} {ws : List Nat} (hc : ckWay nx = 0) (h : EgI nx ws (HangP nx)) : Hgs nx ws :=
  ⟨h.len, fun i W hW => lt_pow fun j hj => ((h.mem i W hW j).1 hj).lt hc, h.mem⟩

set_option maxHeartbeats 4000000 in
theorem hangLast_any (A : Option Addr) (len cap : Nat) (nx : List (List Int)) (w : World) (hx : RdG w w.heap.size A nx) (hl : nx.length = len) (hc : ckWay nx = 0) :
    Calls Try.prog 94 #[.slice A len cap] w fun e w' => ∃ ws A' c', Lst nx ws ∧ e = .returned (.tuple #[.slice A' len c', .int .i64 0]) ∧ RdU w' w'.heap.size A' ws ∧ Below w.heap.size w w' := by
  obtain ⟨b1, b2, b3⟩ := ckWay_bd hc
  have HC := Lib.hid hc
  have HL := Lib.hid hl
  have HST := Lib.hid ((EgI.start nx).congr (Q' := LaR nx 0 0) fun i j _ => LaR.zero)
  have HEND := Lib.hid (fun (eg : List Nat) (h : EgI nx eg (LaR nx nx.length 0)) => Lst.of hc (h.congr fun i j hi => LaR.all hi))
  have HNEXT := Lib.hid (fun (eg : List Nat) (i : Nat) (hi : i < nx.length) (h : EgI nx eg (LaR nx i nx.length)) => h.congr (Q' := LaR nx (i + 1) 0) fun a b _ => LaR.next hc hi)
  rw [hl] at b1 b2 HST HEND HNEXT
  have hmk := make_words (P := Try.prog) 24 23 Try.underlying24 (by kernel_rfl) len (by omega)
  clear hl hc b3
  go_enter Try.func94, Try.ntmps94
  go_wp2_with fail
  refine (wayCheck_any A len cap nx _ hx HL.out (by unfold maxLen; omega)).mono ?_
  rw [HC.out]
  rintro e wo ⟨rfl, hb1⟩
  have hs1 := hb1.size
  have hxo := (hx.below hb1 (Nat.le_refl _)).more hs1
  go_wp2
  have hown1 := Own.new wo 23 (uv (List.replicate len 0))
  go_loopw [18] (fun z wr => ∃ (i : Nat) (eg : List Nat), i ≤ len ∧ z = .int .i64 i ∧ EgI nx eg (LaR nx i 0) ∧ Own wr wo.heap.size 23 (uv eg) ∧ Below wo.heap.size wo wr) (fun z _ => len - (intOf z).toNat)
  case atStart => exact ⟨0, _, Nat.zero_le _, rfl, HST.out, hown1, by go_grown⟩
  case round =>
    obtain ⟨i, eg, hi, rfl, heg, hown, hb⟩ := hrel
    have HEG := Lib.hid heg
    clear heg
    have hszr := hb.size
    by_cases hlt : i < len
    · have hxr := (hxo.below hb (Nat.le_refl _)).more hszr
      obtain ⟨T, hT⟩ := bool_of (ExW nx 0 i)
      have HT := Lib.hid hT
      have HTE := Lib.hid (hT.trans ex_zero)
      obtain ⟨wi, rfl⟩ : ∃ wi : World, wi = wr := ⟨_, rfl⟩
      clear hT
      go_wp2_with fail
      refine (ends_any T A len cap nx i 0 _ HT.out hxr HL.out HC.out hlt (by omega)).mono ?_
      rintro e w2 ⟨rfl, hb2⟩
      have hb12 := hb.trans (hb2.mono hszr)
      have hown2 := hown.below (hb2.mono (Nat.le_refl _)) hown.lt
      cases T with
      | false =>
        have HN := Lib.hid (HEG.out.congr (Q' := LaR nx (i + 1) 0) fun a b _ => LaR.skip fun h => by have := HTE.out.2 h; cases this)
        go_wp2
        go_round
        case rel => exact ⟨i + 1, eg, by omega, by go_num, HN.out, hown2, hb12⟩
        case measure => (simp [intOf]; omega)
      | true =>
        have HE1 := Lib.hid (HTE.out.1 rfl)
        clear HTE HT
        go_wp2
        go_loopw [27] (fun z wr => ∃ (k : Nat) (eg2 : List Nat), k ≤ len ∧ z = .int .i64 k ∧ EgI nx eg2 (LaR nx i k) ∧ Own wr wo.heap.size 23 (uv eg2) ∧ Below wo.heap.size wo wr) (fun z _ => len - (intOf z).toNat)
        case atStart => exact ⟨0, eg, Nat.zero_le _, rfl, HEG.out, hown2, hb12⟩
        case round =>
          obtain ⟨k, eg2, hk, rfl, heg2, hown3, hb3⟩ := hrel
          have HEG2 := Lib.hid heg2
          clear heg2
          have hsz3 := hb3.size
          by_cases hkt : k < len
          · have hx3 := (hxo.below hb3 (Nat.le_refl _)).more hsz3
            have hk32 : k < 32 := by omega
            have hk8 : k < 8 := by omega
            have hp := pow_u32' hk32
            have HPW := Lib.hid hp
            have hplt := pow_lt_32 hk32
            obtain ⟨T2, hT2⟩ := bool_of (ExW nx (2 ^ k) i)
            have HT2 := Lib.hid hT2
            have HTE2 := Lib.hid (hT2.trans ex_pow)
            have HSU := Lib.hid (sure_ends (k := k) HE1.out)
            obtain ⟨x0, hx0⟩ : ∃ x0, eg2[i]? = some x0 := ⟨_, List.getElem?_eq_getElem (by rw [HEG2.out.len, HL.out]; exact hlt)⟩
            have hx0l := HEG2.out.lt i x0 hx0
            have HX0 := Lib.hid hx0
            clear hT2 hp hx0
            go_wp2_with fail
            rw [HPW.out]
            refine (ends_any T2 A len cap nx i (2 ^ k) _ HT2.out hx3 HL.out HC.out hlt hplt).mono ?_
            rintro e w4 ⟨rfl, hb4⟩
            have hb14 := hb3.trans (hb4.mono hsz3)
            have hown4 := hown3.below (hb4.mono (Nat.le_refl _)) hown3.lt
            cases T2 with
            | true =>
              have HN := Lib.hid (HEG2.out.congr (Q' := LaR nx i (k + 1)) fun a b _ => LaR.pass fun h => HSU.out.1 h (HTE2.out.1 rfl))
              go_wp2
              go_round
              case rel => exact ⟨k + 1, eg2, by omega, by go_num, HN.out, hown4, hb14⟩
              case measure => (simp [intOf]; omega)
            | false =>
              have hsu : SureP nx i k := HSU.out.2 fun h => by have := HTE2.out.2 h; cases this
              have HN := Lib.hid ((HEG2.out.add HX0.out hk8).congr (Q' := LaR nx i (k + 1)) fun a b _ => LaR.more hsu)
              have hcq := hown4.cell (uv_at HX0.out)
              have hfq := hown4.frozen i
              have hor : bits .or .u32 ((x0 : Nat) : Int) ((2 : Int) ^ k % 4294967296) = ((x0 ||| 2 ^ k : Nat) : Int) := by rw [pow_u32' hk32]; exact u32_or_nat _ _ (by omega) (pow_lt_32 hk32)
              have HOR := Lib.hid hor
              have HOW := Lib.hid (OwnU.set hown4 i (x0 ||| 2 ^ k))
              clear hsu hor
              go_wp2
              go_region
              all_goals
                go_wp2
                go_round
                case rel => exact ⟨k + 1, eg2.set i (x0 ||| 2 ^ k), by omega, by go_num, HN.out, by rw [HOR.out]; exact HOW.out, (hb14.setCell (show wo.heap.size ≤ (⟨wo.heap.size, i, none⟩ : Addr).block from Nat.le_refl _) _).drew⟩
                case measure => (simp [intOf]; omega)
          · have hkl : k = len := by omega
            have HN := Lib.hid (HNEXT.out eg2 i hlt (by rw [← hkl]; exact HEG2.out))
            clear hkl
            go_wp2
            go_round
            case rel => exact ⟨i + 1, eg2, by omega, by go_num, HN.out, hown3, hb3⟩
            case measure => (simp [intOf]; omega)
    · have hil : i = len := by omega
      have HE := Lib.hid (HEND.out eg (by rw [← hil]; exact HEG.out))
      have HRD := Lib.hid ((OwnU.rd hown).more hown.lt)
      clear hil hown
      go_wp2
      go_ret2
      exact ⟨eg, _, _, HE.out, rfl, HRD.out, hb1.trans (hb.mono hs1)⟩

theorem hangLast_bad (A : Option Addr) (len cap : Nat) (nx : List (List Int)) (w : World) (hx : RdG w w.heap.size A nx) (hl : nx.length = len) (hm : len ≤ maxLen) (hc : ckWay nx ≠ 0) :
    Calls Try.prog 94 #[.slice A len cap] w fun e w' => ∃ A' c', e = .returned (.tuple #[.slice A' 0 c', .int .i64 (ckWay nx)]) ∧ Below w.heap.size w w' := by
  have hne : (ckWay nx != 0) = true := by simp [hc]
  clear hc
  go_enter Try.func94, Try.ntmps94
  go_wp2_with fail
  refine (wayCheck_any A len cap nx _ hx hl hm).mono ?_
  rintro e w1 ⟨rfl, hb1⟩
  go_wp2
  go_ret2
  exact ⟨none, 0, rfl, hb1⟩

/-- .. of its first function: 94 -/
theorem lastIs : LastIs := ⟨hangLast_any, hangLast_bad⟩

/-- H2 for the first i nodes, and of the next one by its first c edges -/
def HgR (nx : List (List Int)) (i c a b : Nat) : Prop := (a < i ∧ HangP nx a b) ∨ (a = i ∧ ∃ t, t ∈ (sc nx i).take c ∧ SureP nx t b ∧ (i = b ∨ ¬ SureP nx i b))

theorem HgR.zero {nx : List (List Int)} {a b : Nat} : False ↔ HgR nx 0 0 a b := by
  unfold HgR
  constructor
  · exact False.elim
  · rintro (⟨h, _⟩ | ⟨_, t, h, _⟩)
    · omega
    · simp at h

theorem HgR.next {nx : List (List Int)} {i c a b : Nat} (hcl : (sc nx i).length ≤ c) : HgR nx i c a b ↔ HgR nx (i + 1) 0 a b := by
  unfold HgR
  rw [List.take_of_length_le hcl]
  constructor
  · rintro (⟨h1, h2⟩ | ⟨rfl, t, h1, h2⟩)
    · exact .inl ⟨by omega, h2⟩
    · exact .inl ⟨by omega, t, h1, h2⟩
  · rintro (⟨h1, h2⟩ | ⟨_, t, h, _⟩)
    · by_cases e : a = i
      · subst e
        obtain ⟨t, h3, h4⟩ := h2
        exact .inr ⟨rfl, t, h3, h4⟩
      · exact .inl ⟨by omega, h2⟩
    · simp at h

theorem HgR.more {nx : List (List Int)} {i c t a b : Nat} (ht : (sc nx i)[c]? = some t) : (HgR nx i c a b ∨ (a = i ∧ SureP nx t b ∧ (i = b ∨ ¬ SureP nx i b))) ↔ HgR nx i (c + 1) a b := by
  unfold HgR
  constructor
  · rintro ((h1 | ⟨h1, x, h2, h3⟩) | ⟨h1, h2⟩)
    · exact .inl h1
    · exact .inr ⟨h1, x, (take_mem ht).2 (.inl h2), h3⟩
    · exact .inr ⟨h1, t, (take_mem ht).2 (.inr rfl), h2⟩
  · rintro (h1 | ⟨h1, x, h2, h3⟩)
    · exact .inl (.inl h1)
    · rcases (take_mem ht).1 h2 with h2 | rfl
      · exact .inl (.inr ⟨h1, x, h2, h3⟩)
      · exact .inr ⟨h1, h3⟩

theorem HgR.all {nx : List (List Int)} {a b : Nat} (ha : a < nx.length) : HgR nx nx.length 0 a b ↔ HangP nx a b := by
  unfold HgR
  constructor
  · rintro (h | ⟨_, t, h, _⟩)
    · exact h.2
    · simp at h
  · exact fun h => .inl ⟨ha, h⟩

theorem andNot_bit {V C : Nat} (hV : V < 256) (hC : C < 4294967296) (k : Nat) : (V &&& (4294967295 - C)).testBit k = true ↔ V.testBit k = true ∧ C.testBit k = false := by
  have h2 : C < 2 ^ 32 := by omega
  rw [Nat.testBit_and, Bool.and_eq_true, show 4294967295 - C = 2 ^ 32 - (C + 1) by omega, Nat.testBit_two_pow_sub_succ h2, Bool.and_eq_true, decide_eq_true_eq, Bool.not_eq_true']
  exact ⟨fun h => ⟨h.1, h.2.2⟩, fun h => ⟨h.1, by have := bit_lt (n := 8) hV h.1; omega, h.2⟩⟩

set_option maxHeartbeats 4000000 in
theorem hangOn_any (A : Option Addr) (len cap : Nat) (nx : List (List Int)) (w : World) (hx : RdG w w.heap.size A nx) (hl : nx.length = len) (hc : ckWay nx = 0) :
    Calls Try.prog 95 #[.slice A len cap] w fun e w' => ∃ ws A' c', Hgs nx ws ∧ e = .returned (.tuple #[.slice A' len c', .int .i64 0]) ∧ RdU w' w'.heap.size A' ws ∧ Below w.heap.size w w' := by
  obtain ⟨b1, b2, b3⟩ := ckWay_bd hc
  have HC := Lib.hid hc
  have HL := Lib.hid hl
  have HST := Lib.hid ((EgI.start nx).congr (Q' := HgR nx 0 0) fun i j _ => HgR.zero)
  have HEND := Lib.hid (fun (eg : List Nat) (h : EgI nx eg (HgR nx nx.length 0)) => Hgs.of hc (h.congr fun i j hi => HgR.all hi))
  rw [hl] at b1 b2 HST HEND
  have hmk := make_words (P := Try.prog) 24 23 Try.underlying24 (by kernel_rfl) len (by omega)
  clear hl hc b3
  go_enter Try.func95, Try.ntmps95
  go_wp2_with fail
  refine (hangLast_any A len cap nx _ hx HL.out HC.out).mono ?_
  rintro e wo ⟨ls, A2, c2, hls, rfl, hrd, hb1⟩
  have HLS := Lib.hid hls
  have HLL := Lib.hid (hls.len.trans HL.out)
  have hs1 := hb1.size
  have hxo := (hx.below hb1 (Nat.le_refl _)).more hs1
  clear hls
  go_wp2
  have hown1 := Own.new wo 23 (uv (List.replicate len 0))
  go_loopw [25] (fun z wr => ∃ (i : Nat) (eg : List Nat), i ≤ len ∧ z = .int .i64 i ∧ EgI nx eg (HgR nx i 0) ∧ Own wr wo.heap.size 23 (uv eg) ∧ Below wo.heap.size wo wr) (fun z _ => len - (intOf z).toNat)
  case atStart => exact ⟨0, _, Nat.zero_le _, rfl, HST.out, hown1, by go_grown⟩
  case round =>
    obtain ⟨i, eg, hi, rfl, heg, hown, hb⟩ := hrel
    have HEG := Lib.hid heg
    clear heg
    have hszr := hb.size
    by_cases hlt : i < len
    · obtain ⟨ad, row, Ar, cr, rfl, hbx, hdx, hcx0, hrow⟩ := hxo.at_ (k := i) (by rw [HL.out]; exact hlt)
      have hrs := row_sc HC.out hdx
      subst hrs
      have HSL : (ni (sc nx i)).length = (sc nx i).length := by simp [ni]
      rw [HSL] at hcx0
      have hsl3 := sc_len HC.out i
      have HSC := Lib.hid (fun x (hx : x ∈ sc nx i) => sc_lt HC.out hx)
      obtain ⟨sl, hsl⟩ : ∃ sl, (sc nx i).length = sl := ⟨_, rfl⟩
      rw [hsl] at hcx0 hsl3
      have hcx := (hb.cell (p := ad.add i) hbx).trans hcx0
      have HSLE := Lib.hid hsl
      obtain ⟨al, L, rfl, hbl, hdL, hcl⟩ := (hrd.below hb (Nat.le_refl _)).at_ (k := i) (by rw [HLL.out]; exact hlt)
      have hL2 := HLS.out.lt i L hdL
      rw [HL.out] at hL2
      have hpl : 2 ^ len ≤ 2 ^ 8 := Nat.pow_le_pow_right (by omega) b2
      have hL8 : L < 256 := by omega
      have hi32 : i < 32 := by omega
      have hclw := clW_le L i
      have HCB := Lib.hid (clW_bit8 hL8 hi32)
      have HLM := Lib.hid (HLS.out.mem i L hdL)
      have hand : bits .andNot .u32 ((L : Nat) : Int) ((2 : Int) ^ i % 4294967296) = ((clW L i : Nat) : Int) := by
        rw [pow_u32' hi32]
        exact u32_andNot_nat _ _ (by omega) (pow_lt_32 hi32)
      obtain ⟨C, hC⟩ : ∃ C, clW L i = C := ⟨_, rfl⟩
      rw [hC] at hand hclw HCB
      have hC32 : C < 4294967296 := by omega
      obtain ⟨wi, rfl⟩ : ∃ wi : World, wi = wr := ⟨_, rfl⟩
      clear hdx HSL hsl hcx0 hdL hL2 hpl hC
      go_wp2
      go_region
      all_goals clear hand
      go_wp2
      go_loopw [39] (fun z wr => ∃ (c : Nat) (eg2 : List Nat), c ≤ sl ∧ z = .int .i64 c ∧ EgI nx eg2 (HgR nx i c) ∧ Own wr wo.heap.size 23 (uv eg2) ∧ Below wo.heap.size wo wr) (fun z _ => sl - (intOf z).toNat)
      case atStart => exact ⟨0, eg, Nat.zero_le _, rfl, HEG.out, hown.drew, hb.drew⟩
      case round =>
        obtain ⟨c, eg2, hc2, rfl, heg2, hown2, hb2⟩ := hrel
        have HEG2 := Lib.hid heg2
        clear heg2
        by_cases hct : c < sl
        · obtain ⟨t, htc⟩ : ∃ t, (sc nx i)[c]? = some t := ⟨_, List.getElem?_eq_getElem (by rw [HSLE.out]; exact hct)⟩
          have htl := HSC.out t (List.mem_of_getElem? htc)
          rw [HL.out] at htl
          obtain ⟨ar, t', rfl, hbr, hdt, hct2⟩ := (hrow.below hb2 (Nat.le_refl _)).at_ (k := c) (by simp [ni]; rw [HSLE.out]; exact hct)
          rw [ni_at htc] at hdt
          injection hdt with hdt
          subst hdt
          obtain ⟨al', V, hal, hbv, hdV, hcv⟩ := (hrd.below hb2 (Nat.le_refl _)).at_ (k := t) (by rw [HLL.out]; exact htl)
          injection hal with hal
          subst hal
          have hV2 := HLS.out.lt t V hdV
          rw [HL.out] at hV2
          have hpl : 2 ^ len ≤ 2 ^ 8 := Nat.pow_le_pow_right (by omega) b2
          have hV8 : V < 256 := by omega
          have hand2 : bits .andNot .u32 ((V : Nat) : Int) ((C : Nat) : Int) = ((V &&& (4294967295 - C) : Nat) : Int) := u32_andNot_nat _ _ (by omega) hC32
          have hDle : V &&& (4294967295 - C) ≤ V := Nat.and_le_left
          have HR : Hid (∀ b, (V &&& (4294967295 - C)).testBit b = true ↔ (SureP nx t b ∧ (i = b ∨ ¬ SureP nx i b))) := Lib.hid fun b => by
            rw [andNot_bit hV8 hC32, HLS.out.mem t V hdV, ← Bool.not_eq_true, HCB.out, HLM.out]
            constructor
            · rintro ⟨h1, h2⟩
              refine ⟨h1, ?_⟩
              by_cases e : i = b
              · exact .inl e
              · exact .inr fun h => h2 ⟨h, fun e' => e e'.symm⟩
            · rintro ⟨h1, h2⟩
              refine ⟨h1, fun h => ?_⟩
              rcases h2 with rfl | h2
              · exact h.2 rfl
              · exact h2 h.1
          obtain ⟨D, hD⟩ : ∃ D, V &&& (4294967295 - C) = D := ⟨_, rfl⟩
          rw [hD] at hand2 hDle HR
          obtain ⟨x0, hx0⟩ : ∃ x0, eg2[i]? = some x0 := ⟨_, List.getElem?_eq_getElem (by rw [HEG2.out.len, HL.out]; exact hlt)⟩
          have hx0l := HEG2.out.lt i x0 hx0
          have hcq := hown2.cell (uv_at hx0)
          have hfq := hown2.frozen i
          have hor : bits .or .u32 ((x0 : Nat) : Int) ((D : Nat) : Int) = ((x0 ||| D : Nat) : Int) := u32_or_nat _ _ (by omega) (by omega)
          have HN := Lib.hid ((HEG2.out.or hx0 (by omega) HR.out).congr (Q' := HgR nx i (c + 1)) fun a b _ => HgR.more htc)
          have HOW := Lib.hid (OwnU.set hown2 i (x0 ||| D))
          clear htc hdV hV2 hpl hD hx0
          go_wp2
          go_region
          all_goals
            go_wp2
            go_round
            case rel => exact ⟨c + 1, eg2.set i (x0 ||| D), by omega, by go_num, HN.out, HOW.out, (hb2.setCell (show wo.heap.size ≤ (⟨wo.heap.size, i, none⟩ : Addr).block from Nat.le_refl _) _).drew⟩
            case measure => (simp [intOf]; omega)
        · have hcl2 : (sc nx i).length ≤ c := by rw [HSLE.out]; omega
          have HN := Lib.hid (HEG2.out.congr (Q' := HgR nx (i + 1) 0) fun a b _ => HgR.next hcl2)
          clear hcl2
          go_wp2
          go_round
          case rel => exact ⟨i + 1, eg2, by omega, by go_num, HN.out, hown2, hb2⟩
          case measure => (simp [intOf]; omega)
    · have hil : i = len := by omega
      have HE := Lib.hid (HEND.out eg (by rw [← hil]; exact HEG.out))
      have HRD := Lib.hid ((OwnU.rd hown).more hown.lt)
      clear hil hown
      go_wp2
      go_ret2
      exact ⟨eg, _, _, HE.out, rfl, HRD.out, hb1.trans (hb.mono hs1)⟩

theorem hangOn_bad (A : Option Addr) (len cap : Nat) (nx : List (List Int)) (w : World) (hx : RdG w w.heap.size A nx) (hl : nx.length = len) (hm : len ≤ maxLen) (hc : ckWay nx ≠ 0) :
    Calls Try.prog 95 #[.slice A len cap] w fun e w' => ∃ A' c', e = .returned (.tuple #[.slice A' 0 c', .int .i64 (ckWay nx)]) ∧ Below w.heap.size w w' := by
  have HC := Lib.hid hc
  have hne : (ckWay nx != 0) = true := by simp [hc]
  clear hc
  go_enter Try.func95, Try.ntmps95
  go_wp2_with fail
  refine (hangLast_bad A len cap nx _ hx hl hm HC.out).mono ?_
  rintro e w1 ⟨A1, c1, rfl, hb1⟩
  go_wp2
  go_ret2
  exact ⟨none, 0, rfl, hb1⟩

/-- .. of its second one: 95 -/
theorem onIs : OnIs := ⟨hangOn_any, hangOn_bad⟩

end Go.Proofs.Ytfhnhbkdhdocjaa
