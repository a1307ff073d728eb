/-
  loop.Loops, loop.Deep, loop.Tame (G1).
-/
import Derived.Test.YtpbajalecfaibaaLoopSrc
import Derived.Test.YtpbajalecfaibaaLoopSplit
import Derived.Test.YtpbajalecfaibaaLawLoop
namespace Go.Proofs.Ytpbajalecfaibaa
open Go.RowKit
set_option linter.unusedSimpArgs false
set_option linter.unusedVariables false
set_option maxRecDepth 100000

/-- .. the word being known -/
theorem loopBody_is (m : Nat) (A : Option Addr) (n c : Nat) (bs : List Nat) (a h B : Nat) (w : World) (nx : List (List Int)) (hm : ∀ j, m.testBit j = true ↔ BdP nx a h j) (hx : RdU w B A bs) (hl : nx.length = n) (hc : ckWay nx = 0) (hb : EgI nx bs (LdP nx)) (ha : a < n) (hh : h < n) (hr : Rea nx (-1) 0 a) :
    Calls Try.prog 37 #[.slice A n c, .int .i64 a, .int .i64 h] w fun e w' => e = .returned (.int .u32 (m : Nat)) ∧ w' = w :=
  (loopBody_any A n c bs a h B w nx hx hl hc hb ha hh hr).mono fun e w' ⟨m', _, h2, h3, h4⟩ => by
    have : m' = m := word_ext fun j => by rw [h2, hm]
    subst this
    exact ⟨h3, h4.symm⟩

theorem body_word {nx : List (List Int)} (hc : ckWay nx = 0) {a h : Nat} (hh : h < nx.length) : ∃ m : Nat, m < 256 ∧ ∀ j, m.testBit j = true ↔ BdP nx a h j := by
  obtain ⟨W, h1, h2⟩ := word_of nx.length (BdP nx a h)
  have hb := ckWay_bd hc
  have h8 : 2 ^ nx.length ≤ 2 ^ 8 := Nat.pow_le_pow_right (by omega) (by omega)
  refine ⟨W, Nat.lt_of_lt_of_le h1 h8, fun j => ?_⟩
  rw [h2]
  refine ⟨fun h => h.2, fun hl => ⟨?_, hl⟩⟩
  rcases hl with rfl | ⟨hr, _⟩
  · exact hh
  · exact hr.lt hc (by omega)

theorem Lps.one {nx : List (List Int)} {ws ws' : List Nat} (h : Lps nx ws) (h' : Lps nx ws') : ws = ws' := by
  refine List.ext_getElem (by rw [h.len, h'.len]) fun i h1 h2 => ?_
  refine word_ext fun j => ?_
  rw [h.mem i _ (List.getElem?_eq_getElem h1) j, h'.mem i _ (List.getElem?_eq_getElem h2) j]

set_option maxHeartbeats 8000000 in
theorem loopLoops_any (A : Option Addr) (len cap : Nat) (nx : List (List Int)) (w : World) (hx : RdG w w.heap.size A nx) (hl : nx.length = len) (hc : ckWay nx = 0) :
    Calls Try.prog 18 #[.slice A len cap] w fun e w' => ∃ ws A' c', Lps nx ws ∧ e = .returned (.tuple #[.slice A' len c', .int .i64 0]) ∧ RdU w' w'.heap.size A' ws ∧ Below w.heap.size w w' := by
  obtain ⟨b1, b2, b3⟩ := ckWay_bd hc
  have HC := Lib.hid hc
  have HL := Lib.hid hl
  have hb64 := bkL_len nx hc
  have HST := Lib.hid (EgI.start nx)
  rw [hl] at b1 b2 HST
  have hmk := make_words (P := Try.prog) 34 23 Try.underlying34 (by kernel_rfl) len (by omega)
  clear hl hc b3
  go_enter Try.func18, Try.ntmps18
  go_wp2_with fail
  refine (loopSplit_any A len cap nx _ hx HL.out HC.out).mono ?_
  rintro e w1 ⟨tb, A1, n1, c1, A2, n2, c2, htb, hn1, hn2, rfl, hrp, hb1⟩
  have hs1 := hb1.size
  have hx1 := (hx.below hb1 (Nat.le_refl _)).more hs1
  have HTP : Hid (TbP nx tb) := Lib.hid ⟨htb.len, htb.mem⟩
  have hn64 : n1 ≤ 64 := by
    have : (clL nx tb).length ≤ (bkL nx).length := List.length_filter_le _ _
    omega
  have HN1 := Lib.hid hn1
  have HEND := Lib.hid (fun (eg : List Nat) (h : EgI nx eg (LpQ nx tb n1)) => h.congr (Q' := LoopP nx) fun i j _ => by rw [← hn1]; exact LpQ.all HC.out HTP.out)
  clear hn1 hn2 htb hb64
  go_wp2_with fail
  refine (loopSources_any A len cap nx _ hx1 HL.out HC.out).mono ?_
  rintro e wo ⟨bs, g, heg, rfl, howb, hgl, hb2⟩
  have hrp2 : RdR pv wo wo.heap.size A1 2 (clL nx tb) := RdR.more (RdR.below hrp hb2 (Nat.le_refl _)) hb2.size
  have hrb : RdU wo wo.heap.size (some ⟨g, 0, none⟩) bs := (OwnU.rd howb).more howb.lt
  have hbw : Below w.heap.size w wo := hb1.trans (hb2.mono hs1)
  have HEGB := Lib.hid heg
  clear heg howb hb1 hb2 hrp hgl hx1
  go_wp2_with fail
  have hown1 := Own.new wo 23 (uv (List.replicate len 0))
  go_loopw [27] (fun z wr => ∃ (k : Nat) (ws : List Nat), k ≤ n1 ∧ z = .int .i64 k ∧ EgI nx ws (LpQ nx tb k) ∧ Own wr wo.heap.size 23 (uv ws) ∧ Below wo.heap.size wo wr) (fun z _ => n1 - (intOf z).toNat)
  case atStart => exact ⟨0, _, Nat.zero_le _, rfl, HST.out.congr fun i j _ => LpQ.zero.symm, hown1, by go_grown⟩
  case round =>
    obtain ⟨k, ws, hk, rfl, hws, hown, hb⟩ := hrel
    have hsz := hb.size
    have HWS := Lib.hid hws
    clear hws
    by_cases hlt : k < n1
    · obtain ⟨ap, a, b, rfl, hblp, hpd, hca, hcb⟩ := RdR.pair (RdR.below hrp2 hb (Nat.le_refl _)) (k := k) (by rw [HN1.out]; exact hlt)
      obtain ⟨hbk, hdm⟩ := (clL_mem HC.out HTP.out).1 (List.mem_of_getElem? hpd)
      obtain ⟨ha, hb'⟩ := bk_lt HC.out hbk
      obtain ⟨m, hm8, hmb⟩ := body_word HC.out (a := a) hb'
      rw [HL.out] at ha hb'
      dsimp only at ha hb'
      obtain ⟨x0, hx0⟩ : ∃ x0, ws[b]? = some x0 := ⟨_, List.getElem?_eq_getElem (by rw [HWS.out.len, HL.out]; exact hb')⟩
      have hx0l := HWS.out.lt b x0 hx0
      have HNX := Lib.hid ((HWS.out.or hx0 hm8 hmb).congr (Q' := LpQ nx tb (k + 1)) fun i j _ => LpQ.more hpd)
      have hor : bits .or .u32 ((x0 : Nat) : Int) ((m : Nat) : Int) = ((x0 ||| m : Nat) : Int) := u32_or_nat _ _ (by omega) (by omega)
      have HOR := Lib.hid hor
      have HMB := Lib.hid hmb
      have hrea := Lib.hid hdm.2.1
      have hpb : (ap.add (k * 2)).block < wr.heap.size := by omega
      have HX0 := Lib.hid (uv_at hx0)
      clear hpd hbk hdm hmb hor hx0
      go_wp2
      obtain ⟨wb, hwb⟩ : ∃ wb, wb = wr.alloc (.cells #[.int .i64 (a : Int), .int .i64 (b : Int)] 57) := ⟨_, rfl⟩
      have hbb : Below wr.heap.size wr wb := by rw [hwb]; go_grown
      have hy0 : wb.cell? ⟨wr.heap.size, 0, none⟩ = some (.int .i64 (a : Int)) := by rw [hwb]; exact cell_new rfl rfl
      have hy1 : wb.cell? ⟨wr.heap.size, 1, none⟩ = some (.int .i64 (b : Int)) := by rw [hwb]; exact cell_new rfl rfl
      have hsb : wr.heap.size < wb.heap.size := World.block_lt_of_cell? wb _ hy0
      have hownb := hown.below hbb hown.lt
      have hbo : Below wo.heap.size wo wb := hb.trans (hbb.mono hsz)
      have hcq := hownb.cell HX0.out
      have hfq := hownb.frozen b
      have HOW := Lib.hid (OwnU.set hownb b (x0 ||| m))
      have HBD := Lib.hid (loopBody_is m (some ⟨g, 0, none⟩) len len bs a b wo.heap.size wb.drew nx HMB.out (show RdU wb.drew wo.heap.size _ bs from (show RdU wb wo.heap.size _ bs from hrb.below hbo (Nat.le_refl _))) HL.out HC.out HEGB.out ha hb' hrea.out)
      obtain ⟨gb, hgb⟩ : ∃ gb, wr.heap.size = gb := ⟨_, rfl⟩
      rw [← hwb]
      rw [hgb] at hy0 hy1 hsb ⊢
      clear hwb hbb hb hca hcb hpb hsz hgb hown
      (refine still_tail 13 (by kernel_rfl) (by kernel_rfl) ?_; simp only [List.take_succ_cons, List.take_zero, List.drop_succ_cons, List.drop_zero]; repeat still_step)
      still_call HBD.out
      ((repeat still_step); refine wpStill_nil ?_)
      go_wp2
      go_round
      case rel => exact ⟨k + 1, ws.set b (x0 ||| m), by omega, by go_num, HNX.out, by rw [HOR.out]; exact HOW.out.drew, (hbo.setCell (show wo.heap.size ≤ (⟨wo.heap.size, b, none⟩ : Addr).block from Nat.le_refl _) _).drew⟩
      case measure => (simp [intOf]; omega)
    · have hkl : k = n1 := by omega
      subst hkl
      have HEN := HEND.out ws HWS.out
      have HLP : Hid (Lps nx ws) := Lib.hid ⟨HEN.len, HEN.lt, HEN.mem⟩
      have HRD := Lib.hid ((OwnU.rd hown).more hown.lt)
      clear HEN
      go_wp2
      go_ret2
      exact ⟨ws, _, _, HLP.out, rfl, HRD.out, hbw.trans (hb.mono hbw.size)⟩

theorem loopLoops_bad (A : Option Addr) (len cap : Nat) (nx : List (List Int)) (w : World) (hx : RdG w w.heap.size A nx) (hl : nx.length = len) (hm : len ≤ maxLen) (hc : ckWay nx ≠ 0) :
    Calls Try.prog 18 #[.slice A len cap] w fun e w' => ∃ A' c', e = .returned (.tuple #[.slice A' 0 c', .int .i64 (ckWay nx)]) ∧ Below w.heap.size w w' := by
  have HC := Lib.hid hc
  have hne : (ckWay nx != 0) = true := by simp [hc]
  clear hc
  go_enter Try.func18, Try.ntmps18
  go_wp2_with fail
  refine (loopSplit_bad A len cap nx _ hx hl hm HC.out).mono ?_
  rintro e w1 ⟨A1, c1, A2, c2, rfl, hb1⟩
  go_wp2
  go_ret2
  exact ⟨none, 0, rfl, hb1⟩

theorem loopTame_any (A : Option Addr) (len cap : Nat) (nx : List (List Int)) (w : World) (hx : RdG w w.heap.size A nx) (hl : nx.length = len) (hc : ckWay nx = 0) :
    Calls Try.prog 21 #[.slice A len cap] w fun e w' => ∃ T : Bool, (T = true ↔ TameP nx) ∧ e = .returned (.tuple #[.bool T, .int .i64 0]) ∧ Below w.heap.size w w' := by
  have HC := Lib.hid hc
  have HL := Lib.hid hl
  have hb64 := bkL_len nx hc
  clear hc hl
  go_enter Try.func21, Try.ntmps21
  go_wp2_with fail
  refine (loopSplit_any A len cap nx _ hx HL.out HC.out).mono ?_
  rintro e w1 ⟨tb, A1, n1, c1, A2, n2, c2, htb, hn1, hn2, rfl, hrp, hb1⟩
  have HOT := Lib.hid (ot_tame HC.out (⟨htb.len, htb.mem⟩ : TbP nx tb))
  rw [hn2] at HOT
  clear hrp htb hn1 hn2
  by_cases h0 : n2 = 0
  · subst h0
    have HTT := Lib.hid (HOT.out.1 rfl)
    clear HOT
    go_wp2
    go_ret2
    exact ⟨true, ⟨fun _ => HTT.out, fun _ => rfl⟩, rfl, hb1⟩
  · have e0 : ((n2 : Int) == 0) = false := by simp; omega
    have HF : Hid (false = true ↔ TameP nx) := Lib.hid ⟨fun h => (by cases h), fun h => absurd (HOT.out.2 h) h0⟩
    clear h0 HOT
    go_wp2
    go_ret2
    exact ⟨false, HF.out, rfl, hb1⟩

theorem loopTame_bad (A : Option Addr) (len cap : Nat) (nx : List (List Int)) (w : World) (hx : RdG w w.heap.size A nx) (hl : nx.length = len) (hm : len ≤ maxLen) (hc : ckWay nx ≠ 0) :
    Calls Try.prog 21 #[.slice A len cap] w fun e w' => e = .returned (.tuple #[.bool false, .int .i64 (ckWay nx)]) ∧ Below w.heap.size w w' := by
  have HC := Lib.hid hc
  have hne : (ckWay nx == 0) = false := by simp [hc]
  clear hc
  go_enter Try.func21, Try.ntmps21
  go_wp2_with fail
  refine (loopSplit_bad A len cap nx _ hx hl hm HC.out).mono ?_
  rintro e w1 ⟨A1, c1, A2, c2, rfl, hb1⟩
  go_wp2
  go_ret2
  exact ⟨rfl, hb1⟩

/-- how deep each node is after the first k loops, and after one more for those below j -/
structure DpI (ws : List Nat) (k j : Nat) (n : Nat) (ds : List Int) : Prop where
  len : ds.length = n
  done : ∀ i, i < j → i < n → ds[i]? = some ((dpN ws i (k + 1) : Nat) : Int)
  todo : ∀ i, j ≤ i → i < n → ds[i]? = some ((dpN ws i k : Nat) : Int)

theorem DpI.start {ws : List Nat} {n : Nat} : DpI ws 0 0 n (List.replicate n 0) :=
  ⟨by simp, fun i h _ => by omega, fun i _ h => by simp [h, dpN]⟩

theorem DpI.turn {ws : List Nat} {k n : Nat} {ds : List Int} (h : DpI ws k n n ds) : DpI ws (k + 1) 0 n ds :=
  ⟨h.len, fun i h _ => by omega, fun i _ hi => h.done i hi hi⟩

theorem DpI.yes {ws : List Nat} {k j n W : Nat} {ds : List Int} (h : DpI ws k j n ds) (hj : j < n) (hW : ws[k]? = some W) (hb : W.testBit j = true) : DpI ws k (j + 1) n (ds.set j ((dpN ws j k + 1 : Nat) : Int)) := by
  refine ⟨by rw [List.length_set]; exact h.len, fun i h1 h2 => ?_, fun i h1 h2 => ?_⟩
  · by_cases e : i = j
    · subst e
      rw [List.getElem?_set_self (by rw [h.len]; exact hj), dpN_yes hW hb]
    · rw [List.getElem?_set_ne (fun h => e h.symm)]
      exact h.done i (by omega) h2
  · rw [List.getElem?_set_ne (by omega)]
    exact h.todo i (by omega) h2

theorem DpI.no {ws : List Nat} {k j n W : Nat} {ds : List Int} (h : DpI ws k j n ds) (hj : j < n) (hW : ws[k]? = some W) (hb : W.testBit j = false) : DpI ws k (j + 1) n ds := by
  refine ⟨h.len, fun i h1 h2 => ?_, fun i h1 h2 => h.todo i (by omega) h2⟩
  by_cases e : i = j
  · subst e
    rw [h.todo i (Nat.le_refl _) hj, dpN_no hW hb]
  · exact h.done i (by omega) h2

set_option maxHeartbeats 8000000 in
theorem loopDeep_any (A : Option Addr) (len cap : Nat) (nx : List (List Int)) (w : World) (hx : RdG w w.heap.size A nx) (hl : nx.length = len) (hc : ckWay nx = 0) :
    Calls Try.prog 20 #[.slice A len cap] w fun e w' => ∃ ds A' c', Dps nx ds ∧ e = .returned (.tuple #[.slice A' len c', .int .i64 0]) ∧ RdI w' w'.heap.size A' ds ∧ Below w.heap.size w w' := by
  obtain ⟨b1, b2, b3⟩ := ckWay_bd hc
  have HC := Lib.hid hc
  have HL := Lib.hid hl
  rw [hl] at b1 b2
  have hmk := make_ints (P := Try.prog) 37 3 Try.underlying37 (by kernel_rfl) len (by omega)
  clear hl hc b3
  go_enter Try.func20, Try.ntmps20
  go_wp2_with fail
  refine (loopLoops_any A len cap nx _ hx HL.out HC.out).mono ?_
  rintro e wo ⟨ws, A1, c1, hws, rfl, hrd, hb1⟩
  have hs1 := hb1.size
  have hwl := hws.len
  rw [HL.out] at hwl
  have HWL := Lib.hid hwl
  have HWS := Lib.hid hws
  clear hws hwl
  go_wp2_with fail
  have hown1 := Own.new wo 3 (iv (List.replicate len 0))
  go_loopw [23] (fun z wr => ∃ (k : Nat) (ds : List Int), k ≤ len ∧ z = .int .i64 k ∧ Hid (DpI ws k 0 len ds) ∧ Own wr wo.heap.size 3 (iv ds) ∧ Below wo.heap.size wo wr) (fun z _ => len - (intOf z).toNat)
  case atStart => exact ⟨0, _, Nat.zero_le _, rfl, Lib.hid DpI.start, hown1, by go_grown⟩
  case round =>
    obtain ⟨k, ds, hk, rfl, HDS, hown, hb⟩ := hrel
    by_cases hlt : k < len
    · obtain ⟨ad, W, rfl, hbl, hW, hcw⟩ := (hrd.below hb (Nat.le_refl _)).at_ (k := k) (by rw [HWL.out]; exact hlt)
      have hW8 := HWS.out.lt k W hW
      have hW32 : W < 4294967296 := by omega
      have HW := Lib.hid hW
      obtain ⟨wi, rfl⟩ : ∃ wi : World, wi = wr := ⟨_, rfl⟩
      clear hW
      go_wp2
      go_loopw [29] (fun z wr => ∃ (j : Nat) (ds2 : List Int), j ≤ len ∧ z = .int .i64 j ∧ Hid (DpI ws k j len ds2) ∧ Own wr wo.heap.size 3 (iv ds2) ∧ Below wo.heap.size wo wr) (fun z _ => len - (intOf z).toNat)
      case atStart => exact ⟨0, ds, Nat.zero_le _, rfl, HDS, hown, hb⟩
      case round =>
        obtain ⟨j, ds2, hj, rfl, HDS2, hown2, hb2⟩ := hrel
        by_cases hjt : j < len
        · have hj32 : j < 32 := by omega
          obtain ⟨b, hbit⟩ : ∃ b, W.testBit j = b := ⟨_, rfl⟩
          have HBIT := Lib.hid hbit
          clear hbit
          cases b with
          | false =>
            have HN := Lib.hid (HDS2.out.no hjt HW.out HBIT.out)
            go_wp2_with (go_at_call 40; (with_reducible refine (wayHas_any W j _ hW32 hj32).mono ?_); rw [HBIT.out]; rintro e w5 ⟨rfl, rfl⟩)
            go_round
            case rel => exact ⟨j + 1, ds2, by omega, by go_num, HN, hown2, hb2⟩
            case measure => (simp [intOf]; omega)
          | true =>
            have HN := Lib.hid (HDS2.out.yes hjt HW.out HBIT.out)
            have hdp := dpN_le ws j k
            have hcq := hown2.cell (iv_at (HDS2.out.todo j (Nat.le_refl _) hjt))
            have hfq := hown2.frozen j
            obtain ⟨d, hd⟩ : ∃ d, dpN ws j k = d := ⟨_, rfl⟩
            rw [hd] at HN hcq hdp
            have HOW := Lib.hid (OwnI.set hown2 j ((d + 1 : Nat) : Int))
            clear hd
            go_wp2_with (go_at_call 40; (with_reducible refine (wayHas_any W j _ hW32 hj32).mono ?_); rw [HBIT.out]; rintro e w5 ⟨rfl, rfl⟩)
            go_round
            case rel => exact ⟨j + 1, ds2.set j ((d + 1 : Nat) : Int), by omega, by go_num, HN, by rw [show ((d : Int) + 1) = ((d + 1 : Nat) : Int) from by omega]; exact HOW.out, hb2.setCell (show wo.heap.size ≤ (⟨wo.heap.size, j, none⟩ : Addr).block from Nat.le_refl _) _⟩
            case measure => (simp [intOf]; omega)
        · have hjl : j = len := by omega
          subst hjl
          have HN := Lib.hid HDS2.out.turn
          go_wp2
          go_round
          case rel => exact ⟨k + 1, ds2, by omega, by go_num, HN, hown2, hb2⟩
          case measure => (simp [intOf]; omega)
    · have hkl : k = len := by omega
      have HDP : Hid (Dps nx ds) := Lib.hid ⟨by rw [HDS.out.len, HL.out], fun i d hd ws' hws' => by
        have e := HWS.out.one hws'
        subst e
        have hi : i < len := by rw [← HDS.out.len]; exact (List.getElem?_eq_some_iff.1 hd).1
        have := HDS.out.todo i (Nat.zero_le _) hi
        rw [hd] at this
        injection this with this
        rw [this, HWL.out, ← hkl]⟩
      have HRD := Lib.hid ((OwnI.rd hown).more hown.lt)
      clear hkl
      go_wp2
      go_ret2
      exact ⟨ds, _, _, HDP.out, rfl, HRD.out, hb1.trans (hb.mono hs1)⟩

theorem loopDeep_bad (A : Option Addr) (len cap : Nat) (nx : List (List Int)) (w : World) (hx : RdG w w.heap.size A nx) (hl : nx.length = len) (hm : len ≤ maxLen) (hc : ckWay nx ≠ 0) :
    Calls Try.prog 20 #[.slice A len cap] w fun e w' => ∃ A' c', e = .returned (.tuple #[.slice A' 0 c', .int .i64 (ckWay nx)]) ∧ Below w.heap.size w w' := by
  have HC := Lib.hid hc
  have hne : (ckWay nx != 0) = true := by simp [hc]
  clear hc
  go_enter Try.func20, Try.ntmps20
  go_wp2_with fail
  refine (loopLoops_bad A len cap nx _ hx hl hm HC.out).mono ?_
  rintro e w1 ⟨A1, c1, rfl, hb1⟩
  go_wp2
  go_ret2
  exact ⟨none, 0, rfl, hb1⟩

end Go.Proofs.Ytpbajalecfaibaa
