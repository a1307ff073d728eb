/-
  loop.sources, loop.body (G1): what leads to each node; a loop gathered.
-/
import Derived.Test.YtpbajalecfaibaaRuleMeet
import Derived.Test.YtpbajalecfaibaaPureGather
import Derived.Test.YtpbajalecfaibaaLoopIs
namespace Go.Proofs.Ytpbajalecfaibaa
open Go.RowKit
set_option linter.unusedSimpArgs false
set_option linter.unusedVariables false
set_option maxRecDepth 100000

theorem reach_bit {nx : List (List Int)} (hc : ckWay nx = 0) (i : Nat) : (reachW nx).testBit i = true ↔ Rea nx (-1) 0 i := by
  unfold reachW
  rw [if_pos hc, setW_bit, fin_mem hc]

theorem reach_lt8 {nx : List (List Int)} (hc : ckWay nx = 0) : reachW nx < 256 := lt_of_bits (n := 8) fun j hj => by
  have hb := ckWay_bd hc
  have := ((reach_bit hc j).1 hj).lt hc (by omega)
  omega

set_option maxHeartbeats 8000000 in
theorem loopSources_any (A : Option Addr) (len cap : Nat) (nx : List (List Int)) (w : World) (hx : RdG w w.heap.size A nx) (hl : nx.length = len) (hc : ckWay nx = 0) :
    Calls Try.prog 36 #[.slice A len cap] w fun e w' => ∃ (bs : List Nat) (g : Nat), EgI nx bs (LdP nx) ∧ e = .returned (.slice (some ⟨g, 0, none⟩) len len) ∧ Own w' g 23 (uv bs) ∧ w.heap.size ≤ g ∧ Below w.heap.size w w' := by
  obtain ⟨b1, b2, b3⟩ := ckWay_bd hc
  have HC := Lib.hid hc
  have HL := Lib.hid hl
  have HST := Lib.hid ((EgI.start nx).congr (Q' := LdQ nx 0) fun i j _ => LdQ.zero.symm)
  have HEND := Lib.hid (fun (eg : List Nat) (h : EgI nx eg (LdQ nx nx.length)) => h.congr (Q' := LdP nx) fun i j _ => LdQ.all hc)
  have HREA := Lib.hid (reach_bit hc)
  have hrl := reach_lt8 hc
  rw [hl] at b1 b2 HST HEND
  have hmm : len ≤ maxLen := by unfold maxLen; omega
  have hmk := make_words (P := Try.prog) 34 23 Try.underlying34 (by kernel_rfl) len (by omega)
  clear hl hc b3
  go_enter Try.func36, Try.ntmps36
  go_wp2_with fail
  refine (wayReach_any A len cap nx _ hx HL.out hmm).mono ?_
  rintro e wo ⟨rfl, hb1⟩
  rw [HC.out]
  obtain ⟨R, hR⟩ : ∃ R, reachW nx = R := ⟨_, rfl⟩
  rw [hR] at HREA hrl ⊢
  have hs1 := hb1.size
  have hxo := (hx.below hb1 (Nat.le_refl _)).more hs1
  have hR32 : R < 4294967296 := by omega
  clear hR hrl
  go_wp2_with fail
  have hown1 := Own.new wo 23 (uv (List.replicate len 0))
  go_loopw [20] (fun z wr => ∃ (i : Nat) (eg : List Nat), i ≤ len ∧ z = .int .i64 i ∧ EgI nx eg (LdQ nx i) ∧ Own wr wo.heap.size 23 (uv eg) ∧ Below wo.heap.size wo wr) (fun z _ => len - (intOf z).toNat)
  case atStart => exact ⟨0, _, Nat.zero_le _, rfl, HST.out, hown1, by go_grown⟩
  case round =>
    obtain ⟨i, eg, hi, rfl, heg, hown, hb⟩ := hrel
    have HEG := Lib.hid heg
    clear heg
    by_cases hlt : i < len
    · obtain ⟨ad, row, Ar, cr, rfl, hbx, hdx, hcx0, hrow⟩ := hxo.at_ (k := i) (by rw [HL.out]; exact hlt)
      have hrs := row_sc HC.out hdx
      subst hrs
      have HSL : (ni (sc nx i)).length = (sc nx i).length := by simp [ni]
      rw [HSL] at hcx0
      have hsl3 := sc_len HC.out i
      have HSC := Lib.hid (fun x (hx : x ∈ sc nx i) => sc_lt HC.out hx)
      obtain ⟨sl, hsl⟩ : ∃ sl, (sc nx i).length = sl := ⟨_, rfl⟩
      rw [hsl] at hcx0 hsl3
      have hcx := (hb.cell (p := ad.add i) hbx).trans hcx0
      have HSLE := Lib.hid hsl
      have hi32 : i < 32 := by omega
      obtain ⟨b, hbit⟩ : ∃ b, R.testBit i = b := ⟨_, rfl⟩
      have hri := HREA.out i
      rw [hbit] at hri
      have HBIT := Lib.hid hbit
      obtain ⟨wi, rfl⟩ : ∃ wi : World, wi = wr := ⟨_, rfl⟩
      clear hdx HSL hsl hcx0 hbit
      cases b with
      | false =>
        have HN := Lib.hid (HEG.out.congr (Q' := LdQ nx (i + 1)) fun x f _ => LdQ.skip fun h => by have := hri.2 h; cases this)
        clear hri
        go_wp2_with (go_at_call 40; (with_reducible refine (wayHas_any R i _ hR32 hi32).mono ?_); rw [HBIT.out]; rintro e w5 ⟨rfl, rfl⟩)
        go_round
        case rel => exact ⟨i + 1, eg, by omega, by go_num, HN.out, hown, hb⟩
        case measure => (simp [intOf]; omega)
      | true =>
        have HRI := Lib.hid (hri.1 rfl)
        have HEG0 := Lib.hid (HEG.out.congr (Q' := LdR nx i 0) fun x f _ => LdR.zero)
        clear hri
        go_wp2_with (go_at_call 40; (with_reducible refine (wayHas_any R i _ hR32 hi32).mono ?_); rw [HBIT.out]; rintro e w5 ⟨rfl, rfl⟩)
        go_loopw [31] (fun z wr => ∃ (c : Nat) (eg2 : List Nat), c ≤ sl ∧ z = .int .i64 c ∧ EgI nx eg2 (LdR nx i c) ∧ Own wr wo.heap.size 23 (uv eg2) ∧ Below wo.heap.size wo wr) (fun z _ => sl - (intOf z).toNat)
        case atStart => exact ⟨0, eg, Nat.zero_le _, rfl, HEG0.out, hown, hb⟩
        case round =>
          obtain ⟨c, eg2, hc2, rfl, heg2, hown2, hb2⟩ := hrel
          have HEG2 := Lib.hid heg2
          clear heg2
          by_cases hct : c < sl
          · obtain ⟨t, htc⟩ : ∃ t, (sc nx i)[c]? = some t := ⟨_, List.getElem?_eq_getElem (by rw [HSLE.out]; exact hct)⟩
            have htl := HSC.out t (List.mem_of_getElem? htc)
            rw [HL.out] at htl
            obtain ⟨ar, t', rfl, hbr, hdt, hct2⟩ := (hrow.below hb2 (Nat.le_refl _)).at_ (k := c) (by simp [ni]; rw [HSLE.out]; exact hct)
            rw [ni_at htc] at hdt
            injection hdt with hdt
            subst hdt
            obtain ⟨x0, hx0⟩ : ∃ x0, eg2[t]? = some x0 := ⟨_, List.getElem?_eq_getElem (by rw [HEG2.out.len, HL.out]; exact htl)⟩
            have hx0l := HEG2.out.lt t x0 hx0
            have hcq := hown2.cell (uv_at hx0)
            have hfq := hown2.frozen t
            have hor : bits .or .u32 ((x0 : Nat) : Int) ((2 : Int) ^ i % 4294967296) = ((x0 ||| 2 ^ i : Nat) : Int) := by rw [pow_u32' hi32]; exact u32_or_nat _ _ (by omega) (pow_lt_32 hi32)
            have HOR := Lib.hid hor
            have hi8 : i < 8 := by omega
            have HADD := Lib.hid ((HEG2.out.add hx0 hi8).congr (Q' := LdR nx i (c + 1)) fun x f _ => LdR.more htc)
            have HOW := Lib.hid (OwnU.set hown2 t (x0 ||| 2 ^ i))
            have ht32 : t < 32 := by omega
            clear htc hx0 hor
            go_wp2
            go_region
            all_goals
              go_wp2
              go_round
              case rel => exact ⟨c + 1, eg2.set t (x0 ||| 2 ^ i), by omega, by go_num, HADD.out, by rw [HOR.out]; exact HOW.out, (hb2.setCell (show wo.heap.size ≤ (⟨wo.heap.size, t, none⟩ : Addr).block from Nat.le_refl _) _).drew⟩
              case measure => (simp [intOf]; omega)
          · have hcl2 : (sc nx i).length ≤ c := by rw [HSLE.out]; omega
            have HN := Lib.hid (HEG2.out.congr (Q' := LdQ nx (i + 1)) fun x f _ => LdR.done hcl2 HRI.out)
            clear hcl2
            go_wp2
            go_round
            case rel => exact ⟨i + 1, eg2, by omega, by go_num, HN.out, hown2, hb2⟩
            case measure => (simp [intOf]; omega)
    · have hil : i = len := by omega
      subst hil
      have HEN := Lib.hid (HEND.out eg HEG.out)
      go_wp2
      go_ret
      exact ⟨eg, _, HEN.out, rfl, hown, hs1, hb1.trans (hb.mono hs1)⟩

set_option maxHeartbeats 4000000 in
theorem loopBody_any (A : Option Addr) (n c : Nat) (bs : List Nat) (a h B : Nat) (w : World) (nx : List (List Int)) (hx : RdU w B A bs) (hl : nx.length = n) (hc : ckWay nx = 0) (hb : EgI nx bs (LdP nx)) (ha : a < n) (hh : h < n) (hr : Rea nx (-1) 0 a) :
    Calls Try.prog 37 #[.slice A n c, .int .i64 a, .int .i64 h] w fun e w' => ∃ m : Nat, m < 256 ∧ (∀ j, m.testBit j = true ↔ BdP nx a h j) ∧ e = .returned (.int .u32 (m : Nat)) ∧ w = w' := by
  obtain ⟨b1, b2, b3⟩ := ckWay_bd hc
  have HC := Lib.hid hc
  have HL := Lib.hid hl
  have HB := Lib.hid hb
  rw [hl] at b1 b2
  have hh8 : h < 8 := by omega
  have hh32 : h < 32 := by omega
  have ha32 : a < 32 := by omega
  have HBL : Hid (bs.length = n) := Lib.hid (hb.len.trans hl)
  have HS := Lib.hid (BdI.start (nx := nx) (a := a) (h := h) (by omega) hh8 hr)
  have HLT := Lib.hid hb.lt
  have HNXT := Lib.hid (fun m (hi : BdI nx a h m) => hi.next hb hh8)
  have HDN := Lib.hid (fun m (hi : BdI nx a h m) (e : m ||| frW bs (clW m h) nx.length = m) => hi.done hc hb hh8 e)
  rw [hl] at HNXT HDN
  have hini : bits .or .u32 ((2 : Int) ^ h % 4294967296) ((2 : Int) ^ a % 4294967296) = ((2 ^ h ||| 2 ^ a : Nat) : Int) := by
    rw [pow_u32' hh32, pow_u32' ha32]
    exact u32_or_nat _ _ (pow_lt_32 hh32) (pow_lt_32 ha32)
  obtain ⟨m0, hm0⟩ : ∃ m0, 2 ^ h ||| 2 ^ a = m0 := ⟨_, rfl⟩
  rw [hm0] at hini HS
  have HINI := Lib.hid hini
  clear hl hc b3 hb hr hm0 hini
  go_enter Try.func37, Try.ntmps37
  go_wp2
  go_loop [8] (fun z => ∃ m : Nat, z = .int .u32 (m : Nat) ∧ BdI nx a h m) (fun z => 256 - (intOf z).toNat)
  case atStart => exact ⟨m0, by rw [HINI.out], HS.out⟩
  case round =>
    obtain ⟨m, rfl, hmt⟩ := hrel
    have hm256 := hmt.lt
    have hnx := HNXT.out m hmt
    have hm2 := hnx.lt
    have hdn := HDN.out m hmt
    have hand : bits .andNot .u32 ((m : Nat) : Int) ((2 : Int) ^ h % 4294967296) = ((clW m h : Nat) : Int) := by
      rw [pow_u32' hh32]
      exact u32_andNot_nat _ _ (by omega) (pow_lt_32 hh32)
    have hcm : clW m h < 4294967296 := by have := clW_le m h; omega
    obtain ⟨x, hx2⟩ : ∃ x, clW m h = x := ⟨_, rfl⟩
    rw [hx2] at hand hcm hnx hm2 hdn
    have hfl := frW_lt (n := 8) (s := x) HLT.out n
    obtain ⟨u, hf⟩ : ∃ u, frW bs x n = u := ⟨_, rfl⟩
    rw [hf] at hnx hm2 hdn hfl
    have hor : bits .or .u32 ((m : Nat) : Int) ((u : Nat) : Int) = ((m ||| u : Nat) : Int) := u32_or_nat _ _ (by omega) (by omega)
    have hle : m ≤ m ||| u := BdI.le m u
    obtain ⟨m2, hmu⟩ : ∃ m2, m ||| u = m2 := ⟨_, rfl⟩
    rw [hmu] at hor hnx hm2 hdn hle
    have HF := Lib.hid hf
    have HNX := Lib.hid hnx
    have HDN2 := Lib.hid hdn
    clear hmt hx2 hf hnx hdn hmu hfl
    by_cases hmm : m2 = m
    · subst hmm
      have HBB := Lib.hid (HDN2.out rfl)
      go_wp2_with (go_at_call 32; (with_reducible refine (frontier_any A n c bs x _ _ hx HBL.out HLT.out hcm (by omega)).mono ?_); rw [HF.out]; rintro e w5 ⟨rfl, rfl⟩)
      go_ret
      exact ⟨m2, hm256, HBB.out, rfl, rfl⟩
    · have hne : (((m2 : Nat) : Int) == ((m : Nat) : Int)) = false := by simp; omega
      have hlt : m < m2 := by omega
      clear hmm
      go_wp2_with (go_at_call 32; (with_reducible refine (frontier_any A n c bs x _ _ hx HBL.out HLT.out hcm (by omega)).mono ?_); rw [HF.out]; rintro e w5 ⟨rfl, rfl⟩)
      go_round
      case rel => exact ⟨m2, rfl, HNX.out⟩
      case measure => (simp [intOf]; omega)

end Go.Proofs.Ytpbajalecfaibaa
