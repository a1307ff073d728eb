/-
  The dominators of a node form a chain, which the tree tells: codemasonkeep.RuleChain returns true and leaves its arguments alone. No condition.
-/
import Derived.Test.YtikbblbehopcdaaLawRule
import Derived.Test.YtikbblbehopcdaaRec
namespace Go.Proofs.Ytikbblbehopcdaa
open Go.RowKit Go.ChangeShapes Go.WideShapes Go.ChangeAt Go.Deep
set_option linter.unusedSimpArgs false
set_option linter.unusedVariables false
set_option maxRecDepth 100000

/-- going up the tree from i: st nodes are in V, kk is the next one -/
def Chn (nx : List (List Int)) (f : Nat → Nat → Bool) (i st V : Nat) (kk : Int) : Prop :=
  (∃ k : Nat, kk = k ∧ Dom nx k i ∧ (∀ j, V.testBit j = true ↔ Dom nx j i ∧ ¬ Dom nx j k) ∧ dcnt f k nx.length + st ≤ dcnt f i nx.length) ∨ (kk = -1 ∧ ∀ j, V.testBit j = true ↔ Dom nx j i)

theorem Chn.start {nx : List (List Int)} {f : Nat → Nat → Bool} {i : Nat} (h : Rea nx (-1) 0 i) : Chn nx f i 0 0 i :=
  .inl ⟨i, rfl, Dom.me h, fun j => ⟨fun h => (by simp at h), fun h => absurd h.1 h.2⟩, Nat.le_refl _⟩

theorem Chn.step {nx : List (List Int)} (hc : ckWay nx = 0) {f : Nat → Nat → Bool} (hf : ∀ i j, f i j = true ↔ Dom nx i j) {i st V k : Nat} {t : Int} (h : Chn nx f i st V k) (ht : TreeAt nx k t) : Chn nx f i (st + 1) (V ||| 2 ^ k) t := by
  rcases h with ⟨k', e, h1, h2, h3⟩ | ⟨e, _⟩
  · obtain rfl : k = k' := by omega
    have hbit : ∀ j, (V ||| 2 ^ k).testBit j = true ↔ (Dom nx j i ∧ ¬ Dom nx j k) ∨ j = k := fun j => by
      rw [Nat.testBit_or, Bool.or_eq_true, h2, Nat.testBit_two_pow, decide_eq_true_eq]
      exact ⟨fun h => h.imp id Eq.symm, fun h => h.imp id Eq.symm⟩
    rcases ht with ⟨p, rfl, hp⟩ | ⟨rfl, hn⟩
    · refine .inl ⟨p, rfl, hp.2.1.trans h1, fun j => ?_, ?_⟩
      · rw [hbit]
        constructor
        · rintro (⟨g1, g2⟩ | rfl)
          · exact ⟨g1, fun g => g2 (g.trans hp.2.1)⟩
          · exact ⟨h1, idom_not hp⟩
        · rintro ⟨g1, g2⟩
          by_cases g : Dom nx j k
          · exact .inr (((dom_idom hp j).1 g).resolve_right g2)
          · exact .inl ⟨g1, g⟩
      · have := dcnt_dom hf hp.2.1 hp.1 (h1.lt hc).1
        omega
    · have hk0 : k = 0 := Classical.byContradiction fun h0 => by
        obtain ⟨p, hp⟩ := idom_is hc h1.1 h0
        exact hn p hp
      subst hk0
      refine .inr ⟨rfl, fun j => ?_⟩
      rw [hbit, Dom.zero_iff]
      constructor
      · rintro (⟨g1, _⟩ | rfl)
        · exact g1
        · exact h1
      · intro g
        by_cases e0 : j = 0
        · exact .inr e0
        · exact .inl ⟨g, e0⟩
  · omega

theorem Chn.end_ {nx : List (List Int)} {f : Nat → Nat → Bool} {i st V k : Nat} (h : Chn nx f i st V k) : st ≤ nx.length := by
  rcases h with ⟨k', _, _, _, h3⟩ | ⟨e, _⟩
  · have := dcnt_bd (f := f) (i := i) nx.length; omega
  · omega

theorem Chn.lt {nx : List (List Int)} (hc : ckWay nx = 0) {f : Nat → Nat → Bool} {i st V k : Nat} (h : Chn nx f i st V k) : k < nx.length := by
  rcases h with ⟨k', e, h1, _, _⟩ | ⟨e, _⟩
  · obtain rfl : k = k' := by omega
    exact (h1.lt hc).1
  · omega

theorem Chn.cases {nx : List (List Int)} {f : Nat → Nat → Bool} {i st V : Nat} {kk : Int} (h : Chn nx f i st V kk) : (∃ k : Nat, kk = k) ∨ (kk = -1 ∧ ∀ j, V.testBit j = true ↔ Dom nx j i) := by
  rcases h with ⟨k, e, _⟩ | h
  · exact .inl ⟨k, e⟩
  · exact .inr h

theorem no_idom_out {nx : List (List Int)} {i : Nat} (h : ¬ Rea nx (-1) 0 i) {t : Int} (ht : TreeAt nx i t) : t = -1 := by
  rcases ht with ⟨j, rfl, hj⟩ | ⟨e, _⟩
  · exact absurd hj.2.1.2.1 h
  · exact e

theorem tree_zero {nx : List (List Int)} {t : Int} (ht : TreeAt nx 0 t) : t = -1 := by
  rcases ht with ⟨j, rfl, hj⟩ | ⟨e, _⟩
  · exact absurd hj (no_idom_zero j)
  · exact e

theorem chain_bits {nx : List (List Int)} {ws : List Nat} (h : Tbl nx ws) {i a b W X Y : Nat} (hW : ws[i]? = some W) (hX : ws[a]? = some X) (hY : ws[b]? = some Y) : bitB W (a : Int) = true → bitB W (b : Int) = true → bitB X (b : Int) = true ∨ bitB Y (a : Int) = true := by
  rw [bitB_nat (h.lt i W hW), bitB_nat (h.lt i W hW), bitB_nat (h.lt a X hX), bitB_nat (h.lt b Y hY), h.mem i W hW, h.mem i W hW, h.mem a X hX, h.mem b Y hY]
  intro h1 h2
  exact (h1.chain h2).symm

set_option maxHeartbeats 8000000 in
theorem lawRuleChain_ok (K : RuleIs) (A : Option Addr) (cap : Nat) (nx : List (List Int)) (w : World) (hx : RdG w w.heap.size A nx) (hm : nx.length ≤ maxLen) (hc : ckWay nx = 0) :
    Calls Try.prog 15 #[.slice A nx.length cap] w fun e w' => e = .returned (.bool true) ∧ Below w.heap.size w w' := by
  unfold maxLen at hm
  have HC := Lib.hid hc
  obtain ⟨hb1', hb2', _⟩ := ckWay_bd hc
  obtain ⟨f, hf⟩ := dom_bool nx
  have HF := Lib.hid hf
  obtain ⟨len, hlen⟩ : ∃ len, nx.length = len := ⟨_, rfl⟩
  have HLEN := Lib.hid hlen
  rw [hlen] at hb1' hb2' hm ⊢
  have HML : Hid (len ≤ maxLen) := Lib.hid (by unfold maxLen; omega)
  clear hc hlen hf
  go_enter Try.func15, Try.ntmps15
  go_wp2_with fail
  refine (K.table A _ cap nx _ hx HLEN.out HC.out).mono ?_
  rintro e w0 ⟨ws, A0, c0, hpt, rfl, hr0, hb0⟩
  have hx0 := (hx.below hb0 (Nat.le_refl _)).more hb0.size
  have HPT := Lib.hid hpt
  have HWL := Lib.hid (hpt.len.trans HLEN.out)
  clear hpt
  go_wp2_with fail
  refine (K.tree A _ cap nx _ hx0 HLEN.out HC.out).mono ?_
  rintro e w1 ⟨ts, A1, c1, hpt, rfl, hr1, hb1⟩
  have hb01 := hb0.trans (hb1.mono hb0.size)
  have hx1 := (hx.below hb01 (Nat.le_refl _)).more hb01.size
  have hrl := (hr0.below hb1 (Nat.le_refl _)).more hb1.size
  have HTR := Lib.hid hpt
  have HTL := Lib.hid (hpt.len.trans HLEN.out)
  clear hpt hr0 hb0 hb1 hx0
  obtain ⟨ta, t0, rfl, hbt0, ht0, hct0⟩ := hr1.at_ (k := 0) (by rw [HTL.out]; exact hb1')
  have ht1 : t0 = -1 := tree_zero (HTR.out.at_ 0 t0 ht0)
  subst ht1
  have hct0' : w1.cell? ta = some (.int .i64 (-1)) := by
    have ha : ta.add 0 = ta := by unfold Addr.add; simp
    rw [ha] at hct0
    exact hct0
  clear ht0
  go_wp2_with fail
  refine (may_any A _ cap nx _ hx1 HLEN.out HML.out).mono ?_
  rw [decide_eq_true HC.out]
  rintro e w2 ⟨rfl, rfl⟩
  go_wp2
  go_loopw [61] (fun z wr => ∃ i : Nat, i ≤ len ∧ z = .int .i64 i ∧ Below w1.heap.size w1 wr) (fun z _ => len - (intOf z).toNat)
  case atStart => exact ⟨0, Nat.zero_le _, rfl, Below.refl _ _⟩
  case round =>
    obtain ⟨i, hi, rfl, hbr⟩ := hrel
    have hszr := hbr.size
    by_cases hlt : i < len
    · obtain ⟨la, W, rfl, hblw, hW, hcw⟩ := (hrl.below hbr (Nat.le_refl _)).at_ (k := i) (by rw [HWL.out]; exact hlt)
      have hW8 := HPT.out.lt i W hW
      have hW32 : W < 4294967296 := by omega
      have HWI := Lib.hid hW
      have HMEM := Lib.hid (HPT.out.mem i W hW)
      have hrlr := hrl.below hbr (Nat.le_refl _)
      have hr1r := hr1.below hbr (Nat.le_refl _)
      clear hW
      obtain ⟨wo, rfl⟩ : ∃ wo : World, wo = wr := ⟨_, rfl⟩
      go_wp2
      go_loop [9] (fun z => ∃ a : Nat, a ≤ len ∧ z = .int .i64 a) (fun z => len - (intOf z).toNat)
      case atStart => exact ⟨0, Nat.zero_le _, rfl⟩
      case round =>
        obtain ⟨a, ha, rfl⟩ := hrel
        by_cases hat : a < len
        · obtain ⟨la', X, hA, hblx, hX, hcx⟩ := hrlr.at_ (k := a) (by rw [HWL.out]; exact hat)
          injection hA with hA
          subst hA
          have HX := Lib.hid hX
          have hX32 : X < 4294967296 := by have := HPT.out.lt a X hX; omega
          clear hX
          go_wp2
          go_loop [10] (fun z => ∃ b : Nat, b ≤ len ∧ z = .int .i64 b) (fun z => len - (intOf z).toNat)
          case atStart => exact ⟨0, Nat.zero_le _, rfl⟩
          case round =>
            obtain ⟨b, hb, rfl⟩ := hrel
            by_cases hbt : b < len
            · obtain ⟨la', Y, hA, hbly, hY, hcy⟩ := hrlr.at_ (k := b) (by rw [HWL.out]; exact hbt)
              injection hA with hA
              subst hA
              have hY32 : Y < 4294967296 := by have := HPT.out.lt b Y hY; omega
              have hch := chain_bits HPT.out HWI.out HX.out hY
              obtain ⟨q1, hq1⟩ : ∃ q, bitB W (a : Int) = q := ⟨_, rfl⟩
              obtain ⟨q2, hq2⟩ : ∃ q, bitB W (b : Int) = q := ⟨_, rfl⟩
              obtain ⟨q3, hq3⟩ : ∃ q, bitB X (b : Int) = q := ⟨_, rfl⟩
              obtain ⟨q4, hq4⟩ : ∃ q, bitB Y (a : Int) = q := ⟨_, rfl⟩
              rw [hq1, hq2, hq3, hq4] at hch
              have HQ1 := Lib.hid hq1
              have HQ2 := Lib.hid hq2
              have HQ3 := Lib.hid hq3
              have HQ4 := Lib.hid hq4
              have HCH := Lib.hid hch
              clear hq1 hq2 hq3 hq4 hch hY
              go_wp2_with fail
              refine (bit_any W _ _ hW32).mono ?_
              rw [HQ1.out]
              rintro e w3 ⟨rfl, rfl⟩
              cases q1 with
              | false =>
                go_wp2
                go_round
                case rel => exact ⟨b + 1, by omega, by go_num⟩
                case measure => (simp [intOf]; omega)
              | true =>
                go_wp2_with fail
                refine (bit_any W _ _ hW32).mono ?_
                rw [HQ2.out]
                rintro e w3 ⟨rfl, rfl⟩
                cases q2 with
                | false =>
                  go_wp2
                  go_round
                  case rel => exact ⟨b + 1, by omega, by go_num⟩
                  case measure => (simp [intOf]; omega)
                | true =>
                  go_wp2_with fail
                  refine (bit_any X _ _ hX32).mono ?_
                  rw [HQ3.out]
                  rintro e w3 ⟨rfl, rfl⟩
                  cases q3 with
                  | true =>
                    go_wp2
                    go_round
                    case rel => exact ⟨b + 1, by omega, by go_num⟩
                    case measure => (simp [intOf]; omega)
                  | false =>
                    have hq4 : q4 = true := (HCH.out (by trivial) (by trivial)).resolve_left (by simp)
                    subst hq4
                    go_wp2_with fail
                    refine (bit_any Y _ _ hY32).mono ?_
                    rw [HQ4.out]
                    rintro e w3 ⟨rfl, rfl⟩
                    go_wp2
                    go_round
                    case rel => exact ⟨b + 1, by omega, by go_num⟩
                    case measure => (simp [intOf]; omega)
            · go_wp2
              go_round
              case rel => exact ⟨a + 1, by omega, by go_num⟩
              case measure => (simp [intOf]; omega)
        · by_cases hre : Rea nx (-1) 0 i
          · have hw0 : ((W : Int) != 0) = true := by
              have hb : W.testBit i = true := (HMEM.out i).2 (Dom.me hre)
              have : W ≠ 0 := fun e => by rw [e] at hb; simp at hb
              simp; omega
            have hw1 : ((W : Int) == 0) = false := by simpa using hw0
            have HS := Lib.hid (Chn.start (f := f) hre)
            have HST := Lib.hid (fun st V k t => Chn.step HC.out HF.out (i := i) (st := st) (V := V) (k := k) (t := t))
            clear hre
            go_wp2
            go_loopw [11, 12, 13] (fun x y z wr => ∃ (st V : Nat) (kk : Int), st ≤ len + 1 ∧ z = .int .i64 st ∧ x = .int .u32 (V : Nat) ∧ y = .int .i64 kk ∧ V < 256 ∧ Hid (Chn nx f i st V kk) ∧ Below w1.heap.size w1 wr) (fun _ _ z _ => len + 1 - (intOf z).toNat)
            case atStart => exact ⟨0, 0, i, Nat.zero_le _, rfl, rfl, rfl, by omega, HS, hbr⟩
            case round =>
              obtain ⟨st, V, kk, hst, rfl, rfl, rfl, hV, HCN, hbi⟩ := hrel
              have hszi := hbi.size
              rcases HCN.out.cases with ⟨k, hkk⟩ | ⟨hkk, hbits⟩
              · subst hkk
                have hkl := HCN.out.lt HC.out
                have hsl := HCN.out.end_
                rw [HLEN.out] at hkl hsl
                have HIN : Hid (decide (0 ≤ (k : Int) ∧ (k : Int) < (len : Int)) = true) := Lib.hid (by simp; omega)
                obtain ⟨ta', t, hA, hblt, ht, hct⟩ := (hr1.below hbi (Nat.le_refl _)).at_ (k := k) (by rw [HTL.out]; exact hkl)
                injection hA with hA
                subst hA
                have HN := Lib.hid (HST.out st V k t HCN.out (HTR.out.at_ k t ht))
                have hk8 : k < 8 := by omega
                have HPE := Lib.hid (pow_u32' (v := k) (by omega))
                have hp2 := pow_lt_32 (v := k) (by omega)
                have hor : bits .or .u32 (V : Int) ((2 ^ k : Nat) : Int) = ((V ||| 2 ^ k : Nat) : Int) := u32_or_nat _ _ (by omega) hp2
                have HOL := Lib.hid (or_lt8 hV hk8)
                have g0 : (ta.add k).block < wr.heap.size := by omega
                have g1 : (ta.add k).block < wr.heap.size + 1 := by omega
                clear ht
                go_wp2_with fail
                refine (inside1_any len k _ _ _ ?_).mono ?_
                · exact cell_new (by simp) rfl
                rw [HIN.out]
                rintro e w3 ⟨rfl, rfl⟩
                go_wp2
                go_round
                case rel => exact ⟨st + 1, V ||| 2 ^ k, t, by omega, by go_num, by rw [← hor, HPE.out], rfl, HOL.out, HN, by go_grown⟩
                case measure => (simp [intOf]; omega)
              · subst hkk
                have hVW : V = W := word_ext fun j => by rw [hbits, HMEM.out]
                subst hVW
                clear hbits
                have HIN : Hid (decide (0 ≤ (-1 : Int) ∧ (-1 : Int) < (len : Int)) = false) := Lib.hid (by simp)
                by_cases hsl : st ≤ len
                · go_wp2_with fail
                  refine (inside1_any len (-1) _ _ _ ?_).mono ?_
                  · exact cell_new (by simp) rfl
                  rw [HIN.out]
                  rintro e w3 ⟨rfl, rfl⟩
                  go_wp2
                  go_round
                  case rel => exact ⟨i + 1, by omega, by go_num, by go_grown⟩
                  case measure => (simp [intOf]; omega)
                · go_wp2
                  go_round
                  case rel => exact ⟨i + 1, by omega, by go_num, hbi⟩
                  case measure => (simp [intOf]; omega)
          · have hW0 : W = 0 := word_ext fun j => by
              rw [HMEM.out]
              exact ⟨fun h => absurd h.2.1 hre, fun h => by simp at h⟩
            subst hW0
            obtain ⟨ta', t, hA, hblt, ht, hct⟩ := hr1r.at_ (k := i) (by rw [HTL.out]; exact hlt)
            injection hA with hA
            subst hA
            have ht1 := no_idom_out hre (HTR.out.at_ i t ht)
            subst ht1
            clear ht hre
            go_wp2
            go_loopw [11, 12, 13] (fun x y z wr => x = .int .u32 0 ∧ y = .int .i64 i ∧ z = .int .i64 0 ∧ wr = wo) (fun _ _ z _ => len + 1 - (intOf z).toNat)
            case atStart => exact ⟨rfl, rfl, rfl, rfl⟩
            case round =>
              obtain ⟨rfl, rfl, rfl, rfl⟩ := hrel
              go_wp2
              go_round
              case rel => exact ⟨i + 1, by omega, by go_num, hbr⟩
              case measure => (simp [intOf]; omega)
    · have hil : i = len := by omega
      subst hil
      go_wp2
      go_ret
      exact ⟨rfl, hb01.trans (hbr.mono hb01.size)⟩

theorem lawRuleChain_bad (K : RuleIs) (A : Option Addr) (cap : Nat) (nx : List (List Int)) (w : World) (hx : RdG w w.heap.size A nx) (hm : nx.length ≤ maxLen) (hc : ckWay nx ≠ 0) :
    Calls Try.prog 15 #[.slice A nx.length cap] w fun e w' => e = .returned (.bool true) ∧ Below w.heap.size w w' := by
  have HM := Lib.hid hm
  unfold maxLen at hm
  have hne : (ckWay nx != 0) = true := by simp [hc]
  have HC := Lib.hid hc
  clear hc
  go_enter Try.func15, Try.ntmps15
  go_wp2_with fail
  refine (K.tableBad A _ cap nx _ hx rfl HM.out HC.out).mono ?_
  rintro e w0 ⟨A0, c0, rfl, hb0⟩
  have hx0 := (hx.below hb0 (Nat.le_refl _)).more hb0.size
  go_wp2_with fail
  refine (K.treeBad A _ cap nx _ hx0 rfl HM.out HC.out).mono ?_
  rintro e w1 ⟨A1, c1, rfl, hb1⟩
  have hb01 := hb0.trans (hb1.mono hb0.size)
  have hx1 := (hx.below hb01 (Nat.le_refl _)).more hb01.size
  go_wp2_with fail
  refine (may_any A _ cap nx _ hx1 rfl HM.out).mono ?_
  rw [decide_eq_false HC.out]
  rintro e w3 ⟨rfl, rfl⟩
  go_wp2
  go_ret
  exact ⟨ret_bool (by simp), hb01⟩

theorem lawRuleChain_any (K : RuleIs) (A : Option Addr) (cap : Nat) (nx : List (List Int)) (w : World) (hx : RdG w w.heap.size A nx) (hm : nx.length ≤ maxLen) :
    Calls Try.prog 15 #[.slice A nx.length cap] w fun e w' => e = .returned (.bool true) ∧ Below w.heap.size w w' := by
  by_cases hc : ckWay nx = 0
  · exact lawRuleChain_ok K A cap nx w hx hm hc
  · exact lawRuleChain_bad K A cap nx w hx hm hc

set_option maxRecDepth 100000 in
theorem lawRuleChain_lifted (os : Os) (started : os.Started) (H : Type) (enc : TypeId × Value → H) :
    ReturnsInHanded {} Try.checked os 15 .any (Rows.ruleChainSpec.pre6 enc Try.prog Try.f15 Rows.ruleChainRow.domain false) (Rows.ruleChainSpec.post enc Try.prog Try.f15 false true false false) := by
  refine returnsInHanded_of_change_sized (C := Try.checked) Try.own started (by kernel_rfl) Try.func15
    (ChangeSpec.witness6 (enc := enc) (C := Try.checked) false ⟨#[], #[.slice none 0 0], []⟩ 8 (by kernel_rfl) (by kernel_rfl) (by kernel_rfl) (by kernel_rfl)) ?_
  intro W base args ds gs before hval0 hW hcnd hsz _
  have hval : ∀ (j : Nat) t v, Try.f15.params[j]? = some t → args[j]? = some v → Value.okWide Try.prog W .any base t v := hval0
  have hW' := hW
  obtain ⟨p, q, hA0, hV, rfl, hfz, hnd⟩ := hW
  have hA : DataW.TrodAll enc Try.prog W 0 (fun _ => true) true Try.f15.params.toList args.toList ds p := hA0
  obtain ⟨hgs, _⟩ := trodVars_none hV
  rw [Try.params15] at hA hval
  obtain ⟨v0, vs0, d0, ds0, p0, q0, hargs, rfl, rfl, h0, r0⟩ := trodAll_cons hA
  obtain ⟨rfl, rfl, rfl⟩ := trodAll_nil r0
  have hargs2 : args = #[v0] := Array.toList_inj.1 hargs
  subst hargs2
  obtain ⟨A0, c0, l0, rfl, lc0, cm0, x0, r0⟩ := open_graphA (hval 0 22 v0 rfl rfl) h0
  have b0 := len_reach Try.underlying22 (hval 0 22 _ rfl rfl) h0 hsz (j := 0) (by rw [Try.params15]; rfl) rfl
  rw [show Try.prog.bytesOf (Try.prog.elem 22) = 24 from by kernel_rfl] at b0
  refine (lawRuleChain_any ruleIs A0 c0 l0 _ x0 (by omega)).mono fun e W' ⟨he, hb⟩ => ?_
  subst he
  exact ⟨_, rfl, law_post Try.laidOut rfl (by kernel_rfl) Try.underlying4 ⟨rfl, rfl, rfl⟩ (by kernel_rfl) hW' hb⟩

theorem ruleChain_holds : Rows.RuleChainSaid :=
  OpenClaim.holds_of_wide 15 Try.f15 rfl rfl rfl rfl rfl rfl rfl ⟨rfl, rfl, rfl, rfl, rfl⟩ rfl rfl rfl rfl rfl (by kernel_rfl) Try.func15 (show joinedFacts Try.prog 15 Try.f15 Rows.ruleChainSpec Rows.ruleChainRow = true from (by unfold joinedFacts; (repeat' (with_reducible refine and_both ?_ ?_)) <;> first | (with_reducible exact may_enter) | ((with_reducible refine make_ok ?_); rfl) | ((with_reducible refine lifts_ok ?_); rfl) | kernel_rfl))
    (of_decide_eq_true (by kernel_rfl)) (by unfold Func.isWrapper; rw [if_neg (of_decide_eq_false (by kernel_rfl))]; exact ⟨rfl, rfl⟩)
    (fun os started H enc _ => lawRuleChain_lifted os started H enc)

end Go.Proofs.Ytikbblbehopcdaa
