/-
  loop.merge, loop.Fold (G2); package loop keeps its contracts.
-/
import Derived.Test.YtpbajalecfaibaaLoopAll
import Derived.Test.YtpbajalecfaibaaOnes
namespace Go.Proofs.Ytpbajalecfaibaa
open Go.RowKit
set_option linter.unusedSimpArgs false
set_option linter.unusedVariables false
set_option maxRecDepth 100000

theorem szW_up {L n : Nat} (hL : L < 2 ^ n) : ∀ d, szW L (n + d) = szW L n
  | 0 => rfl
  | d + 1 => by
    have : ¬ L.testBit (n + d) = true := fun h => by
      have := bit_lt hL h
      omega
    rw [← Nat.add_assoc, szW, szW_up hL d, if_neg this]
    rfl

theorem szW_eight {L n : Nat} (hL : L < 2 ^ n) (hn : n ≤ 8) : szW L 8 = szW L n := by
  have := szW_up hL (8 - n)
  rwa [show n + (8 - n) = 8 by omega] at this

theorem MgI.lt {n v I m : Nat} {bs bs' : List Nat} (h : MgI n v I m bs bs') (hlt : ∀ (i W : Nat), bs[i]? = some W → W < 256) (hI : I < 256) (i W : Nat) (hW : bs'[i]? = some W) : W < 256 := by
  have hb : ∀ i, bs.getD i 0 < 256 := fun i => by
    rcases Nat.lt_or_ge i bs.length with hi | hi
    · exact hlt i _ (show bs[i]? = some (bs.getD i 0) by rw [List.getD_eq_getElem?_getD, List.getElem?_eq_getElem hi]; rfl)
    · rw [getD_out hi]; omega
  have h2 := h.at_ i
  rw [getD_at hW] at h2
  rw [h2]
  split
  · omega
  · split
    · exact Nat.or_lt_two_pow (n := 8) (Nat.lt_of_le_of_lt (clW_le _ _) (hb i)) hI
    · exact hb i

set_option maxHeartbeats 8000000 in
theorem loopMerge_any (g n v I : Nat) (bs : List Nat) (w : World) (hown : Own w g 23 (uv bs)) (hl : bs.length = n) (hv : v < n) (h8 : n ≤ 8) (hlt : ∀ (i W : Nat), bs[i]? = some W → W < 256) (hI : bs[v]? = some I) :
    Calls Try.prog 42 #[.slice (some ⟨g, 0, none⟩) n n, .int .i64 v] w fun e w' => ∃ bs', MgI n v I n bs bs' ∧ e = .returned (.tuple #[]) ∧ Own w' g 23 (uv bs') ∧ Below g w w' := by
  have hI8 := hlt v I hI
  have hcv := hown.cell (uv_at hI)
  have hfv := hown.frozen v
  have HST := Lib.hid (MgI.start (I := I) hl hv)
  have HLT := Lib.hid (fun m bs' (h : MgI n v I m bs bs') => h.lt hlt hI8)
  have HOW := Lib.hid (OwnU.set hown v 0)
  have hv32 : v < 32 := by omega
  clear hl hlt hI
  go_enter Try.func42, Try.ntmps42
  go_wp2
  go_loopw [16] (fun z wr => ∃ (m : Nat) (bs' : List Nat), m ≤ n ∧ z = .int .i64 m ∧ Hid (MgI n v I m bs bs') ∧ Own wr g 23 (uv bs') ∧ Below g w wr) (fun z _ => n - (intOf z).toNat)
  case atStart => exact ⟨0, _, Nat.zero_le _, rfl, HST, HOW.out, (Below.refl g w).setCell (show g ≤ (⟨g, v, none⟩ : Addr).block from Nat.le_refl _) _⟩
  case round =>
    obtain ⟨m, bs', hm, rfl, HM, hown2, hb⟩ := hrel
    by_cases hmt : m < n
    · obtain ⟨W, hW⟩ : ∃ W, bs'[m]? = some W := ⟨_, List.getElem?_eq_getElem (by rw [HM.out.len]; exact hmt)⟩
      have hW8 := HLT.out m bs' HM.out m W hW
      have hW32 : W < 4294967296 := by omega
      have hcm := hown2.cell (uv_at hW)
      have hfm := hown2.frozen m
      have hgW := getD_at hW
      obtain ⟨b, hbit⟩ : ∃ b, W.testBit v = b := ⟨_, rfl⟩
      have HBIT := Lib.hid hbit
      have HGW := Lib.hid hgW
      clear hbit hgW hW
      cases b with
      | false =>
        have HN := Lib.hid (HM.out.skip (by rw [HGW.out]; exact HBIT.out))
        go_wp2_with (go_at_call 40; (with_reducible refine (wayHas_any W v _ hW32 hv32).mono ?_); rw [HBIT.out]; rintro e w5 ⟨rfl, rfl⟩)
        go_round
        case rel => exact ⟨m + 1, bs', by omega, by go_num, HN, hown2, hb⟩
        case measure => (simp [intOf]; omega)
      | true =>
        have HN := Lib.hid (HM.out.more hmt (by rw [HGW.out]; exact HBIT.out))
        rw [HGW.out] at HN
        have hand : bits .andNot .u32 ((W : Nat) : Int) ((2 : Int) ^ v % 4294967296) = ((clW W v : Nat) : Int) := by
          rw [pow_u32' hv32]
          exact u32_andNot_nat _ _ (by omega) (pow_lt_32 hv32)
        have hcl := clW_le W v
        have hor : bits .or .u32 (bits .andNot .u32 ((W : Nat) : Int) ((2 : Int) ^ v % 4294967296)) ((I : Nat) : Int) = ((clW W v ||| I : Nat) : Int) := by
          rw [hand]
          exact u32_or_nat _ _ (by omega) (by omega)
        have HOR := Lib.hid hor
        have HOW2 := Lib.hid (OwnU.set hown2 m (clW W v ||| I))
        clear hand hor
        go_wp2_with (go_at_call 40; (with_reducible refine (wayHas_any W v _ hW32 hv32).mono ?_); rw [HBIT.out]; rintro e w5 ⟨rfl, rfl⟩)
        go_round
        case rel => exact ⟨m + 1, bs'.set m (clW W v ||| I), by omega, by go_num, HN, by rw [HOR.out]; exact HOW2.out, hb.setCell (show g ≤ (⟨g, m, none⟩ : Addr).block from Nat.le_refl _) _⟩
        case measure => (simp [intOf]; omega)
    · have hml : m = n := by omega
      subst hml
      go_wp2
      go_end0
      exact ⟨bs', HM.out, rfl, hown2, hb⟩

def bOf : Value → Nat
  | .bool true => 1
  | _ => 0

/-- where a walk over all nodes stands: L0 was left when it began, mg: was a node merged? -/
structure FoK (nx : List (List Int)) (L0 L : Nat) (bs : List Nat) (mg : Bool) (k : Nat) : Prop where
  inv : FdI nx L bs
  no : mg = false → L = L0 ∧ QtI bs k
  yes : mg = true → szW L 8 < szW L0 8

section
variable {nx : List (List Int)} {L0 L : Nat} {bs : List Nat} {mg : Bool} {k : Nat}

theorem FoK.start (h : FdI nx L bs) : FoK nx L L bs false 0 := ⟨h, fun _ => ⟨rfl, fun v hv => by omega⟩, fun h => by cases h⟩

theorem FoK.skip (h8 : nx.length ≤ 8) (h : FoK nx L0 L bs mg k) {W : Nat} (hW : bs[k]? = some W) (hs : k = 0 ∨ szW (clW W k) 8 ≠ 1) : FoK nx L0 L (bs.set k (clW W k)) mg (k + 1) := by
  have hk : k < bs.length := (List.getElem?_eq_some_iff.1 hW).1
  have hl := h.inv.len
  exact ⟨h.inv.self h8 hW, fun e => ⟨(h.no e).1, (h.no e).2.next hW (by omega) (h.inv.lt h8 hW) hs⟩, h.yes⟩

theorem FoK.merge (hc : ckWay nx = 0) (h8 : nx.length ≤ 8) (h : FoK nx L0 L bs mg k) {W : Nat} (hW : bs[k]? = some W) (h0 : k ≠ 0) (hs : szW (clW W k) 8 = 1) {bs' : List Nat} (hm : MgI nx.length k (clW W k) nx.length (bs.set k (clW W k)) bs') : FoK nx L0 (clW L k) bs' true (k + 1) := by
  have hk : k < bs.length := (List.getElem?_eq_some_iff.1 hW).1
  have hl := h.inv.len
  have hW8 := h.inv.lt h8 hW
  have hself := h.inv.self h8 hW
  have hset : (bs.set k (clW W k))[k]? = some (clW W k) := List.getElem?_set_self hk
  obtain ⟨p, hp, hWp⟩ := szW_pow (n := 8) (Nat.lt_of_le_of_lt (clW_le _ _) hW8) hs
  have hpb : (clW W k).testBit p = true := by rw [hWp, two_pow_bit]
  have hpk : p ≠ k := ((clW_bit8 hW8 (by omega) p).1 hpb).2
  have hLk := (hself.inn k p (by rw [getD_at hset]; exact hpb)).1
  have hL8 : L < 256 := Nat.lt_of_lt_of_le h.inv.ltL (show 2 ^ nx.length ≤ 2 ^ 8 from Nat.pow_le_pow_right (by omega) h8)
  rw [hWp] at hset hm
  have hd := szW_clW (n := 8) hL8 (show k < 8 by omega) (by omega) hLk
  rw [← hWp] at hset hm
  refine ⟨hself.merge hc h0 (by rw [hset, hWp]) hpk (by rw [← hWp]; exact hm), fun e => (by cases e), fun _ => ?_⟩
  cases mg with
  | false => rw [← (h.no rfl).1]; omega
  | true => have := h.yes rfl; omega

end

set_option maxHeartbeats 8000000 in
theorem loopFold_any (A : Option Addr) (len cap : Nat) (nx : List (List Int)) (w : World) (hx : RdG w w.heap.size A nx) (hl : nx.length = len) (hc : ckWay nx = 0) :
    Calls Try.prog 23 #[.slice A len cap] w fun e w' => ∃ k : Nat, Red (gOf nx) k ∧ e = .returned (.tuple #[.int .i64 (k : Nat), .int .i64 0]) ∧ Below w.heap.size w w' := by
  obtain ⟨b1, b2, b3⟩ := ckWay_bd hc
  have HC := Lib.hid hc
  have HL := Lib.hid hl
  have H8 := Lib.hid b2
  have HRL := Lib.hid (reach_lt8 hc)
  have HRB := Lib.hid (reach_bit hc)
  rw [hl] at b1 b2
  have hmm : len ≤ maxLen := by unfold maxLen; omega
  clear hl hc b3
  go_enter Try.func23, Try.ntmps23
  go_wp2_with fail
  refine (wayReach_any A len cap nx _ hx HL.out hmm).mono ?_
  rintro e w1 ⟨rfl, hb1⟩
  rw [HC.out]
  obtain ⟨R, hR⟩ : ∃ R, reachW nx = R := ⟨_, rfl⟩
  rw [hR] at HRL HRB ⊢
  have hs1 := hb1.size
  have hx1 := (hx.below hb1 (Nat.le_refl _)).more hs1
  clear hR
  go_wp2_with fail
  refine (loopSources_any A len cap nx _ hx1 HL.out HC.out).mono ?_
  rintro e wo ⟨bs, g, heg, rfl, howb, hgl, hb2⟩
  have hbw : Below w.heap.size w wo := hb1.trans (hb2.mono hs1)
  have HFD := Lib.hid (FdI.start HC.out heg HRB.out)
  have hgw : w.heap.size ≤ g := by omega
  clear heg hb1 hb2 hx1 hgl
  go_wp2_with fail
  go_loopw [4, 7] (fun l mm wr => ∃ (L : Nat) (bs2 : List Nat) (mg : Bool), l = .int .u32 (L : Nat) ∧ mm = .bool mg ∧ Hid (FdI nx L bs2) ∧ Hid (mg = false → QtI bs2 len) ∧ Own wr g 23 (uv bs2) ∧ Below g wo wr) (fun l mm _ => 2 * szW (intOf l).toNat 8 + bOf mm)
  case atStart => exact ⟨R, bs, true, rfl, rfl, HFD, Lib.hid (fun h => by cases h), howb, Below.refl _ _⟩
  case round =>
    obtain ⟨L0, bs2, mg0, rfl, rfl, HF, HQ, hown, hb⟩ := hrel
    cases mg0 with
    | false =>
      have hL8 : L0 < 256 := Nat.lt_of_lt_of_le HF.out.ltL (show 2 ^ nx.length ≤ 2 ^ 8 from Nat.pow_le_pow_right (by omega) H8.out)
      have HRD := Lib.hid (HF.out.stop HC.out (by rw [HL.out]; exact HQ.out rfl))
      rw [← szW_eight HF.out.ltL H8.out] at HRD
      obtain ⟨z, hz⟩ : ∃ z, szW L0 8 = z := ⟨_, rfl⟩
      rw [hz] at HRD
      have HZ := Lib.hid hz
      clear hz
      go_wp2_with (go_at_call 41; (with_reducible refine (ones_any L0 _ hL8).mono ?_); rw [HZ.out]; rintro e w5 ⟨rfl, nn, rfl⟩)
      go_ret2
      exact ⟨z, HRD.out, rfl, hbw.trans (show Below w.heap.size wo (wr.drewN nn) from ⟨(hb.mono hgw).os, (hb.mono hgw).tape, (hb.mono hgw).output, (hb.mono hgw).size, (hb.mono hgw).block⟩)⟩
    | true =>
      have HST := Lib.hid (FoK.start HF.out)
      obtain ⟨wi, rfl⟩ : ∃ wi : World, wi = wr := ⟨_, rfl⟩
      go_wp2_with fail
      go_loopw [4, 7, 22] (fun l mm z wr => ∃ (L k : Nat) (bs3 : List Nat) (mg : Bool), k ≤ len ∧ z = .int .i64 k ∧ l = .int .u32 (L : Nat) ∧ mm = .bool mg ∧ Hid (FoK nx L0 L bs3 mg k) ∧ Own wr g 23 (uv bs3) ∧ Below g wo wr) (fun _ _ z _ => len - (intOf z).toNat)
      case atStart => exact ⟨L0, 0, bs2, false, Nat.zero_le _, rfl, rfl, rfl, HST, hown, hb⟩
      case round =>
        obtain ⟨L, k, bs3, mg, hk, rfl, rfl, rfl, HK, hown3, hb3⟩ := hrel
        by_cases hlt : k < len
        · obtain ⟨W, hW⟩ : ∃ W, bs3[k]? = some W := ⟨_, List.getElem?_eq_getElem (by rw [HK.out.inv.len, HL.out]; exact hlt)⟩
          have hW8 := HK.out.inv.lt H8.out hW
          have hk32 : k < 32 := by omega
          have hL8 : L < 256 := Nat.lt_of_lt_of_le HK.out.inv.ltL (show 2 ^ nx.length ≤ 2 ^ 8 from Nat.pow_le_pow_right (by omega) H8.out)
          have hcq := hown3.cell (uv_at hW)
          have hfq := hown3.frozen k
          have hand : bits .andNot .u32 ((W : Nat) : Int) ((2 : Int) ^ k % 4294967296) = ((clW W k : Nat) : Int) := by
            rw [pow_u32' hk32]
            exact u32_andNot_nat _ _ (by omega) (pow_lt_32 hk32)
          have hcw := clW_le W k
          have hskip := fun hs => HK.out.skip H8.out hW hs
          have hmg := fun h0 hs bs' hm => HK.out.merge HC.out H8.out hW h0 hs (bs' := bs') hm
          have hlt4 : ∀ (i V : Nat), (bs3.set k (clW W k))[i]? = some V → V < 256 := fun i V hV => (HK.out.inv.self H8.out hW).lt H8.out hV
          have HLN : Hid ((bs3.set k (clW W k)).length = len) := Lib.hid (by rw [List.length_set, HK.out.inv.len, HL.out])
          obtain ⟨W1, hW1⟩ : ∃ W1, clW W k = W1 := ⟨_, rfl⟩
          rw [hW1] at hskip hmg hlt4 HLN hand hcw
          have HGET : Hid ((bs3.set k W1)[k]? = some W1) := Lib.hid (List.getElem?_set_self (by rw [HK.out.inv.len, HL.out]; exact hlt))
          obtain ⟨s, hs⟩ : ∃ s, szW W1 8 = s := ⟨_, rfl⟩
          rw [hs] at hskip hmg
          have HS := Lib.hid hs
          have HSK := Lib.hid hskip
          have HMG := Lib.hid hmg
          have HLT4 := Lib.hid hlt4
          have hW18 : W1 < 256 := by omega
          have hown4 := (OwnU.set hown3 k W1).drew
          have hb4 : Below g wo (wr.setCell ⟨g, k, none⟩ (.int .u32 ((W1 : Nat) : Int))).drew := (hb3.setCell (show g ≤ (⟨g, k, none⟩ : Addr).block from Nat.le_refl _) _).drew
          clear hW hskip hmg hlt4 hW1 hs
          by_cases h0 : k = 0
          · have hk0 : ¬ (0 : Int) < (k : Int) := by omega
            have HN := Lib.hid (HSK.out (.inl h0))
            clear h0
            go_wp2
            (refine still_tail 8 (by kernel_rfl) (by kernel_rfl) ?_; simp only [List.take_succ_cons, List.take_zero, List.drop_succ_cons, List.drop_zero]; repeat still_step)
            ((repeat still_step); refine wpStill_nil ?_)
            go_wp2
            go_round
            case rel => exact ⟨L, k + 1, bs3.set k W1, mg, by omega, by go_num, rfl, rfl, HN, hown4, hb4⟩
            case measure => (simp [intOf]; omega)
          · have hk0 : (0 : Int) < (k : Int) := by omega
            by_cases hs1 : s = 1
            · have HN := Lib.hid (fun bs' hm => HMG.out h0 hs1 bs' hm)
              have hs1' : (s : Int) = 1 := by omega
              have hand2 : bits .andNot .u32 ((L : Nat) : Int) ((2 : Int) ^ k % 4294967296) = ((clW L k : Nat) : Int) := by
                rw [pow_u32' hk32]
                exact u32_andNot_nat _ _ (by omega) (pow_lt_32 hk32)
              have HME := Lib.hid (fun (X : World) (hX : Own X g 23 (uv (bs3.set k W1))) => loopMerge_any g len k W1 (bs3.set k W1) X hX HLN.out hlt (by omega) HLT4.out HGET.out)
              clear h0 hs1
              go_wp2
              (refine still_tail 8 (by kernel_rfl) (by kernel_rfl) ?_; simp only [List.take_succ_cons, List.take_zero, List.drop_succ_cons, List.drop_zero]; repeat still_step)
              ((repeat still_step); refine wpStill_nil ?_)
              go_wp2_with (first
                | (go_at_call 41; (with_reducible refine (ones_any W1 _ hW18).mono ?_); rw [HS.out]; rintro e w5 ⟨rfl, nn, rfl⟩)
                | (go_at_call 42; (refine (HME.out _ (by exact hown4)).mono ?_); rintro e w6 ⟨bs6, hm6, rfl, hown6, hb6⟩))
              go_round
              case rel => exact ⟨clW L k, k + 1, bs6, true, by omega, by go_num, rfl, rfl, Lib.hid (HN.out bs6 (by rw [HL.out]; exact hm6)), hown6, (⟨hb4.os, hb4.tape, hb4.output, hb4.size, hb4.block⟩ : Below g wo ((wr.setCell ⟨g, k, none⟩ (.int .u32 ((W1 : Nat) : Int))).drewN (1 + nn))).trans hb6⟩
              case measure => (simp [intOf]; omega)
            · have HN := Lib.hid (HSK.out (.inr hs1))
              have hs1' : ((s : Int) == 1) = false := by simp; omega
              clear h0 hs1
              go_wp2
              (refine still_tail 8 (by kernel_rfl) (by kernel_rfl) ?_; simp only [List.take_succ_cons, List.take_zero, List.drop_succ_cons, List.drop_zero]; repeat still_step)
              ((repeat still_step); refine wpStill_nil ?_)
              go_wp2_with (go_at_call 41; (with_reducible refine (ones_any W1 _ hW18).mono ?_); rw [HS.out]; rintro e w5 ⟨rfl, nn, rfl⟩)
              go_round
              case rel => exact ⟨L, k + 1, bs3.set k W1, mg, by omega, by go_num, rfl, rfl, HN, hown4, ⟨hb4.os, hb4.tape, hb4.output, hb4.size, hb4.block⟩⟩
              case measure => (simp [intOf]; omega)
        · have hkl : k = len := by omega
          subst hkl
          go_wp2
          go_round
          case rel => exact ⟨L, bs3, mg, rfl, rfl, Lib.hid HK.out.inv, Lib.hid (fun h => (HK.out.no h).2), hown3, hb3⟩
          case measure =>
            cases mg with
            | false =>
              have := (HK.out.no rfl).1
              subst this
              simp [intOf, bOf]
            | true =>
              have := HK.out.yes rfl
              simp [intOf, bOf]
              omega

theorem loopFold_bad (A : Option Addr) (len cap : Nat) (nx : List (List Int)) (w : World) (hx : RdG w w.heap.size A nx) (hl : nx.length = len) (hm : len ≤ maxLen) (hc : ckWay nx ≠ 0) :
    Calls Try.prog 23 #[.slice A len cap] w fun e w' => e = .returned (.tuple #[.int .i64 0, .int .i64 (ckWay nx)]) ∧ Below w.heap.size w w' := by
  have hne : (ckWay nx != 0) = true := by simp [hc]
  clear hc
  go_enter Try.func23, Try.ntmps23
  go_wp2_with fail
  refine (wayReach_any A len cap nx _ hx hl hm).mono ?_
  rintro e w1 ⟨rfl, hb1⟩
  go_wp2
  go_ret2
  exact ⟨rfl, hb1⟩

/-- 18 20 21 23 -/
theorem loopIs : LoopIs where
  loops := loopLoops_any
  loopsBad := loopLoops_bad
  deep := loopDeep_any
  deepBad := loopDeep_bad
  tame := loopTame_any
  tameBad := loopTame_bad
  fold := loopFold_any
  foldBad := loopFold_bad

/-- 25 -/
theorem tableIs : TableIs := ⟨ruleTable_any, ruleTable_bad⟩

/-- 28 27 -/
theorem partIs : PartIs := ⟨wayReach_any, wayParts_any, wayParts_bad⟩

end Go.Proofs.Ytpbajalecfaibaa
