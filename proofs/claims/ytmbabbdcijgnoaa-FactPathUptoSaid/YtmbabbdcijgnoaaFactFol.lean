/-
  fact.followers, fact.firstNodes, fact.reach (I2).
-/
import Derived.Test.YtmbabbdcijgnoaaPureSpread
import Derived.Test.YtmbabbdcijgnoaaRuleMeet
namespace Go.Proofs.Ytmbabbdcijgnoaa
open Go.RowKit
set_option linter.unusedSimpArgs false
set_option linter.unusedVariables false
set_option maxRecDepth 100000

set_option maxHeartbeats 4000000 in
theorem followers_any (A : Option Addr) (len cap : Nat) (nx : List (List Int)) (bw : Bool) (w : World) (hx : RdG w w.heap.size A nx) (hl : nx.length = len) (hc : ckWay nx = 0) :
    Calls Try.prog 26 #[.slice A len cap, .bool bw] w fun e w' => ∃ fw, EgI nx fw (Fol nx bw) ∧ e = .returned (.slice (some ⟨w.heap.size, 0, none⟩) len len) ∧ Own w' w.heap.size 24 (uv fw) ∧ Below w.heap.size w w' := by
  obtain ⟨b1, b2, b3⟩ := ckWay_bd hc
  have HC := Lib.hid hc
  have HL := Lib.hid hl
  have HST := Lib.hid ((EgI.start nx).congr (Q' := FoR nx bw 0 0) fun i j _ => FoR.zero)
  have HEND := Lib.hid (fun (eg : List Nat) (h : EgI nx eg (FoR nx bw nx.length 0)) => h.congr (Q' := Fol nx bw) fun i j _ => FoR.all)
  rw [hl] at b1 b2 HST HEND
  have hmk := make_words (P := Try.prog) 23 24 Try.underlying23 (by kernel_rfl) len (by omega)
  clear hl hc b3
  go_enter Try.func26, Try.ntmps26
  go_wp2_with fail
  have hown1 := Own.new w 24 (uv (List.replicate len 0))
  go_loopw [15] (fun z wr => ∃ (i : Nat) (eg : List Nat), i ≤ len ∧ z = .int .i64 i ∧ EgI nx eg (FoR nx bw i 0) ∧ Own wr w.heap.size 24 (uv eg) ∧ Below w.heap.size w wr) (fun z _ => len - (intOf z).toNat)
  case atStart => exact ⟨0, _, Nat.zero_le _, rfl, HST.out, hown1, by go_grown⟩
  case round =>
    obtain ⟨i, eg, hi, rfl, heg, hown, hb⟩ := hrel
    have HEG := Lib.hid heg
    clear heg
    by_cases hlt : i < len
    · obtain ⟨ad, row, Ar, cr, rfl, hbx, hdx, hcx0, hrow⟩ := hx.at_ (k := i) (by rw [HL.out]; exact hlt)
      have hrs := row_sc HC.out hdx
      subst hrs
      have HSL : (ni (sc nx i)).length = (sc nx i).length := by simp [ni]
      rw [HSL] at hcx0
      have hsl3 := sc_len HC.out i
      have HSC := Lib.hid (fun x (hx : x ∈ sc nx i) => sc_lt HC.out hx)
      obtain ⟨sl, hsl⟩ : ∃ sl, (sc nx i).length = sl := ⟨_, rfl⟩
      rw [hsl] at hcx0 hsl3
      have hcx := (hb.cell (p := ad.add i) hbx).trans hcx0
      have HSLE := Lib.hid hsl
      obtain ⟨wi, rfl⟩ : ∃ wi : World, wi = wr := ⟨_, rfl⟩
      clear hdx HSL hsl hcx0
      go_wp2
      go_loopw [22] (fun z wr => ∃ (c : Nat) (eg2 : List Nat), c ≤ sl ∧ z = .int .i64 c ∧ EgI nx eg2 (FoR nx bw i c) ∧ Own wr w.heap.size 24 (uv eg2) ∧ Below w.heap.size w wr) (fun z _ => sl - (intOf z).toNat)
      case atStart => exact ⟨0, eg, Nat.zero_le _, rfl, HEG.out, hown, hb⟩
      case round =>
        obtain ⟨c, eg2, hc2, rfl, heg2, hown2, hb2⟩ := hrel
        have HEG2 := Lib.hid heg2
        clear heg2
        by_cases hct : c < sl
        · obtain ⟨t, htc⟩ : ∃ t, (sc nx i)[c]? = some t := ⟨_, List.getElem?_eq_getElem (by rw [HSLE.out]; exact hct)⟩
          have htl := HSC.out t (List.mem_of_getElem? htc)
          rw [HL.out] at htl
          obtain ⟨ar, t', rfl, hbr, hdt, hct2⟩ := (hrow.below hb2 (Nat.le_refl _)).at_ (k := c) (by simp [ni]; rw [HSLE.out]; exact hct)
          rw [ni_at htc] at hdt
          injection hdt with hdt
          subst hdt
          have HTC := Lib.hid htc
          have hi32 : i < 32 := by omega
          have ht32 : t < 32 := by omega
          have hgs := hown2.lt
          clear htc
          cases bw with
          | true =>
            obtain ⟨x0, hx0⟩ : ∃ x0, eg2[t]? = some x0 := ⟨_, List.getElem?_eq_getElem (by rw [HEG2.out.len, HL.out]; exact htl)⟩
            have hx0l := HEG2.out.lt t x0 hx0
            have hcq := hown2.cell (uv_at hx0)
            have hfq := hown2.frozen t
            have hor : bits .or .u32 ((x0 : Nat) : Int) ((2 : Int) ^ i % 4294967296) = ((x0 ||| 2 ^ i : Nat) : Int) := by rw [pow_u32' hi32]; exact u32_or_nat _ _ (by omega) (pow_lt_32 hi32)
            have HOR := Lib.hid hor
            have HADD := Lib.hid ((HEG2.out.add hx0 (by omega : i < 8)).congr (Q' := FoR nx true i (c + 1)) fun a b _ => FoR.bwd HTC.out)
            have HOW := Lib.hid (OwnU.set hown2 t (x0 ||| 2 ^ i))
            clear hx0 hor
            go_wp2
            go_region
            all_goals
              go_wp2
              go_round
              case rel => exact ⟨c + 1, eg2.set t (x0 ||| 2 ^ i), by omega, by go_num, HADD.out, by rw [HOR.out]; exact HOW.out, (hb2.setCell (show w.heap.size ≤ (⟨w.heap.size, t, none⟩ : Addr).block from Nat.le_refl _) _).drew⟩
              case measure => (simp [intOf]; omega)
          | false =>
            obtain ⟨x0, hx0⟩ : ∃ x0, eg2[i]? = some x0 := ⟨_, List.getElem?_eq_getElem (by rw [HEG2.out.len, HL.out]; exact hlt)⟩
            have hx0l := HEG2.out.lt i x0 hx0
            have hcq := hown2.cell (uv_at hx0)
            have hfq := hown2.frozen i
            have hor : bits .or .u32 ((x0 : Nat) : Int) ((2 : Int) ^ t % 4294967296) = ((x0 ||| 2 ^ t : Nat) : Int) := by rw [pow_u32' ht32]; exact u32_or_nat _ _ (by omega) (pow_lt_32 ht32)
            have HOR := Lib.hid hor
            have HADD := Lib.hid ((HEG2.out.add hx0 (by omega : t < 8)).congr (Q' := FoR nx false i (c + 1)) fun a b _ => FoR.fwd HTC.out)
            have HOW := Lib.hid (OwnU.set hown2 i (x0 ||| 2 ^ t))
            clear hx0 hor
            go_wp2
            go_region
            all_goals
              go_wp2
              go_round
              case rel => exact ⟨c + 1, eg2.set i (x0 ||| 2 ^ t), by omega, by go_num, HADD.out, by rw [HOR.out]; exact HOW.out, (hb2.setCell (show w.heap.size ≤ (⟨w.heap.size, i, none⟩ : Addr).block from Nat.le_refl _) _).drew⟩
              case measure => (simp [intOf]; omega)
        · have hcl2 : (sc nx i).length ≤ c := by rw [HSLE.out]; omega
          have HN2 := Lib.hid (HEG2.out.congr (Q' := FoR nx bw (i + 1) 0) fun a b _ => FoR.next hcl2)
          have hcs : c = sl := by omega
          clear hcl2
          go_wp2
          go_round
          case rel => exact ⟨i + 1, eg2, by omega, by go_num, HN2.out, hown2, hb2⟩
          case measure => (simp [intOf]; omega)
    · have hil : i = len := by omega
      have HE := Lib.hid (HEND.out eg (by rw [← hil]; exact HEG.out))
      clear hil
      go_wp2
      go_ret
      exact ⟨eg, HE.out, rfl, hown, hb⟩

set_option maxHeartbeats 4000000 in
theorem firstNodes_any (A : Option Addr) (len cap : Nat) (nx : List (List Int)) (lw : Lw) (w : World) (hx : RdG w w.heap.size A nx) (hl : nx.length = len) (hc : ckWay nx = 0) :
    Calls Try.prog 33 #[.slice A len cap, .bool lw.bw] w fun e w' => ∃ s : Nat, s < 256 ∧ (∀ j, s.testBit j = true ↔ j ∈ sts nx lw) ∧ e = .returned (.int .u32 (s : Nat)) ∧ w = w' := by
  obtain ⟨b1, b2, b3⟩ := ckWay_bd hc
  have HC := Lib.hid hc
  have HL := Lib.hid hl
  have HF := Lib.hid (fun (h : lw.bw = false) => fs_fwd (nx := nx) h)
  have HB := Lib.hid (fun (h : lw.bw = true) (W : Nat) (hW : FsI nx nx.length W) => hW.done h)
  rw [hl] at b1 b2 HB
  have HST : Hid (FsI nx 0 0) := Lib.hid FsI.start
  obtain ⟨bw, hbw⟩ : ∃ bw, lw.bw = bw := ⟨_, rfl⟩
  rw [hbw] at HF HB ⊢
  clear hl hc b3 hbw
  cases bw with
  | false =>
    go_enter Try.func33, Try.ntmps33
    go_wp2
    go_ret
    exact ⟨1, (HF.out (by trivial)).1, (HF.out (by trivial)).2, rfl, rfl⟩
  | true =>
    go_enter Try.func33, Try.ntmps33
    go_wp2
    go_loop [5, 12] (fun s z => ∃ (k W : Nat), k ≤ len ∧ z = .int .i64 k ∧ s = .int .u32 (W : Nat) ∧ FsI nx k W) (fun _ z => len - (intOf z).toNat)
    case atStart => exact ⟨0, 0, Nat.zero_le _, rfl, rfl, HST.out⟩
    case round =>
      obtain ⟨k, W, hk, rfl, rfl, hfs⟩ := hrel
      have hW8 := hfs.1
      have HFS := Lib.hid hfs
      clear hfs
      by_cases hlt : k < len
      · obtain ⟨ad, row, Ar, cr, rfl, hbx, hdx, hcx, hrow⟩ := hx.at_ (k := k) (by rw [HL.out]; exact hlt)
        have hrs := row_sc HC.out hdx
        subst hrs
        have HSL : (ni (sc nx k)).length = (sc nx k).length := by simp [ni]
        rw [HSL] at hcx
        have hsl3 := sc_len HC.out k
        obtain ⟨sl, hsl⟩ : ∃ sl, (sc nx k).length = sl := ⟨_, rfl⟩
        rw [hsl] at hcx hsl3
        have HSLE := Lib.hid hsl
        have hk32 : k < 32 := by omega
        have hor : bits .or .u32 ((W : Nat) : Int) ((2 : Int) ^ k % 4294967296) = ((W ||| 2 ^ k : Nat) : Int) := by rw [pow_u32' hk32]; exact u32_or_nat _ _ (by omega) (pow_lt_32 hk32)
        have HOR := Lib.hid hor
        clear hdx HSL hsl hor
        by_cases h0 : sl = 0
        · have hs : sc nx k = [] := List.eq_nil_of_length_eq_zero (by rw [HSLE.out]; exact h0)
          have HN := Lib.hid (HFS.out.yes (by omega : k < 8) hs)
          have e0 : ((sl : Int) == 0) = true := by simp [h0]
          clear hs h0
          go_wp2
          go_round
          case rel => exact ⟨k + 1, W ||| 2 ^ k, by omega, by go_num, by rw [HOR.out], HN.out⟩
          case measure => (simp [intOf]; omega)
        · have hs : sc nx k ≠ [] := fun e => h0 (by rw [← HSLE.out, e]; rfl)
          have HN := Lib.hid (HFS.out.no hs)
          have e0 : ((sl : Int) == 0) = false := by simp [h0]
          clear hs h0
          go_wp2
          go_round
          case rel => exact ⟨k + 1, W, by omega, by go_num, rfl, HN.out⟩
          case measure => (simp [intOf]; omega)
      · have hkn : k = len := by omega
        have HE := Lib.hid (HB.out (by trivial) W (by rw [← hkn]; exact HFS.out))
        clear hkn
        go_wp2
        go_ret
        exact ⟨W, HE.out.1, HE.out.2, rfl, rfl⟩

set_option maxHeartbeats 4000000 in
theorem factReach_any (A : Option Addr) (n c : Nat) (fw : List Nat) (nx : List (List Int)) (lw : Lw) (s B : Nat) (w : World) (hx : RdU w B A fw) (he : EgI nx fw (Fol nx lw.bw)) (hl : nx.length = n) (hc : ckWay nx = 0) (hs : RcI nx lw s) :
    Calls Try.prog 34 #[.slice A n c, .int .u32 (s : Nat)] w fun e w' => ∃ m : Nat, m < 256 ∧ (∀ j, m.testBit j = true ↔ Com nx lw j) ∧ e = .returned (.int .u32 (m : Nat)) ∧ w = w' := by
  obtain ⟨b1, b2, b3⟩ := ckWay_bd hc
  have HEL := Lib.hid (he.len.trans hl)
  have HLT := Lib.hid he.lt
  have HNXT := Lib.hid (fun m (h : RcI nx lw m) => h.next hc he)
  have HDN := Lib.hid (fun m (h : RcI nx lw m) (e : m ||| frW fw m nx.length = m) => h.done hc he e)
  rw [hl] at b1 b2 HNXT HDN
  have HS := Lib.hid hs
  clear hl hc b3 he hs
  go_enter Try.func34, Try.ntmps34
  go_wp2_with fail
  go_loop [1] (fun z => ∃ m : Nat, z = .int .u32 (m : Nat) ∧ RcI nx lw m) (fun z => 256 - (intOf z).toNat)
  case atStart => exact ⟨s, rfl, HS.out⟩
  case round =>
    obtain ⟨m, rfl, hrc⟩ := hrel
    have hm256 := hrc.lt
    have HRC := Lib.hid hrc
    have hnx := HNXT.out m hrc
    have hm2 := hnx.lt
    have hdn := HDN.out m hrc
    have hfl : frW fw m n < 256 := frW_lt (n := 8) (s := m) HLT.out n
    have hle : m ≤ m ||| frW fw m n := Nat.left_le_or
    have hor : bits .or .u32 ((m : Nat) : Int) ((frW fw m n : Nat) : Int) = ((m ||| frW fw m n : Nat) : Int) := u32_or_nat _ _ (by omega) (by omega)
    obtain ⟨u, hu⟩ : ∃ u, frW fw m n = u := ⟨_, rfl⟩
    rw [hu] at hnx hm2 hdn hfl hle hor
    obtain ⟨m2, hf⟩ : ∃ m2, m ||| u = m2 := ⟨_, rfl⟩
    rw [hf] at hnx hle hm2 hdn hor
    have HU := Lib.hid hu
    have HNX := Lib.hid hnx
    have HDN2 := Lib.hid hdn
    have HOR := Lib.hid hor
    have hm32 : m < 4294967296 := by omega
    clear hrc hu hf hnx hdn
    by_cases hmm : m2 = m
    · have HB := Lib.hid (HDN2.out hmm)
      have he1 : (bits .or .u32 ((m : Nat) : Int) ((u : Nat) : Int) == ((m : Nat) : Int)) = true := by rw [hor]; simp [hmm]
      clear hmm hor
      go_wp2_with (go_at_call 40; (with_reducible refine (frontier_any A n c fw m _ _ hx HEL.out HLT.out hm32 (by omega)).mono ?_); rw [HU.out]; rintro e w5 ⟨rfl, rfl⟩)
      go_ret
      exact ⟨m, hm256, HB.out, rfl, rfl⟩
    · have hne : (bits .or .u32 ((m : Nat) : Int) ((u : Nat) : Int) == ((m : Nat) : Int)) = false := by rw [hor]; simp; omega
      have hlt : m < m2 := by omega
      clear hmm hor
      go_wp2_with (go_at_call 40; (with_reducible refine (frontier_any A n c fw m _ _ hx HEL.out HLT.out hm32 (by omega)).mono ?_); rw [HU.out]; rintro e w5 ⟨rfl, rfl⟩)
      go_round
      case rel => exact ⟨m2, by rw [HOR.out], HNX.out⟩
      case measure => rw [HOR.out]; (simp [intOf]; omega)

end Go.Proofs.Ytmbabbdcijgnoaa
