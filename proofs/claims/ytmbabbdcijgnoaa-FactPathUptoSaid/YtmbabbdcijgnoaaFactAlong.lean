/-
  fact.behind, fact.isPath, fact.Along (I1).
-/
import Derived.Test.YtmbabbdcijgnoaaFactCk
import Derived.Test.YtmbabbdcijgnoaaFactFol
namespace Go.Proofs.Ytmbabbdcijgnoaa
open Go.RowKit
set_option linter.unusedSimpArgs false
set_option linter.unusedVariables false
set_option maxRecDepth 100000

set_option maxHeartbeats 4000000 in
theorem behind_any (A1 : Option Addr) (c1 : Nat) (A2 : Option Addr) (c2 : Nat) (lw : Lw) (v s : Nat) (w : World) (hr : RdL w w.heap.size A1 A2 lw) (hM : ∀ x ∈ lw.ma, x < 256) (hE : ∀ x ∈ lw.en, x < 256) (h1 : v < lw.ma.length) (h2 : v < lw.en.length) (hv8 : v < 8) (hs : s < 256) :
    Calls Try.prog 27 #[.agg #[.bool lw.bw, .bool lw.al, .slice A1 lw.ma.length c1, .slice A2 lw.en.length c2, .int .u32 (lw.st : Nat)], .int .i64 (v : Nat), .int .u32 (s : Nat)] w fun e w' => e = .returned (.int .u32 (behW lw (v : Int) s : Nat)) ∧ Below w.heap.size w w' := by
  obtain ⟨aM, M, rfl, hbM, hdM, hcM⟩ := hr.ma.at_ (k := v) h1
  obtain ⟨aE, E, rfl, hbE, hdE, hcE⟩ := hr.en.at_ (k := v) h2
  have hE8 := hE E (List.mem_of_getElem? hdE)
  have hM8 := hM M (List.mem_of_getElem? hdM)
  have hbe : behW lw (v : Int) s = (s &&& (4294967295 - E)) ||| M := by
    unfold behW
    rw [Int.toNat_natCast, List.getD_eq_getElem?_getD, hdE, List.getD_eq_getElem?_getD, hdM]
    rfl
  have hand : bits .andNot .u32 (s : Int) (E : Int) = ((s &&& (4294967295 - E) : Nat) : Int) := u32_andNot_nat _ _ (by omega) (by omega)
  have hal2 : s &&& (4294967295 - E) < 256 := Nat.lt_of_le_of_lt Nat.and_le_left hs
  have hor : bits .or .u32 (M : Int) ((s &&& (4294967295 - E) : Nat) : Int) = ((M ||| (s &&& (4294967295 - E)) : Nat) : Int) := u32_or_nat _ _ (by omega) (by omega)
  have HVAL : Hid (bits .or .u32 (M : Int) (bits .andNot .u32 (s : Int) (E : Int)) = ((behW lw (v : Int) s : Nat) : Int)) := Lib.hid (by rw [hand, hor, hbe, Nat.or_comm])
  obtain ⟨n1, hn1⟩ : ∃ n, lw.ma.length = n := ⟨_, rfl⟩
  obtain ⟨n2, hn2⟩ : ∃ n, lw.en.length = n := ⟨_, rfl⟩
  rw [hn1] at h1 ⊢
  rw [hn2] at h2 ⊢
  have hb0 : Below w.heap.size w (w.alloc (.cells #[.bool lw.bw, .bool lw.al, .slice (some aM) n1 c1, .slice (some aE) n2 c2, .int .u32 (lw.st : Nat)] 26)) := by go_grown
  have hown0 : Own (w.alloc (.cells #[.bool lw.bw, .bool lw.al, .slice (some aM) n1 c1, .slice (some aE) n2 c2, .int .u32 (lw.st : Nat)] 26)) w.heap.size 26 [.bool lw.bw, .bool lw.al, .slice (some aM) n1 c1, .slice (some aE) n2 c2, .int .u32 (lw.st : Nat)] := Own.new w _ _
  have d2 := hown0.cell (j := 2) rfl
  have d3 := hown0.cell (j := 3) rfl
  have e1 := (hb0.cell hbM).trans hcM
  have e2 := (hb0.cell hbE).trans hcE
  clear hr hM hE hdM hdE hbe hand hor hn1 hn2 hown0
  go_enter Try.func27, Try.ntmps27
  go_wp2
  go_region
  all_goals
    go_wp2
    go_ret
    exact ⟨ret_int HVAL.out, by go_grown⟩

set_option maxHeartbeats 8000000 in
theorem isPath_any (A : Option Addr) (n c : Nat) (fw : List Nat) (nx : List (List Int)) (bw : Bool) (Ap : Option Addr) (np cp : Nat) (ps : List Int) (B : Nat) (w : World) (hx : RdU w B A fw) (he : EgI nx fw (Fol nx bw)) (hl : nx.length = n) (hc : ckWay nx = 0) (hp : RdI w B Ap ps) (hpl : ps.length = np) (hnm : np ≤ maxLen) (ok : Bool) (hok : ok = true ↔ (ps ≠ [] ∧ rowOk nx.length ps = true ∧ pthB nx bw ps = true)) :
    Calls Try.prog 25 #[.slice A n c, .slice Ap np cp] w fun e w' => e = .returned (.bool ok) ∧ w = w' := by
  unfold maxLen at hnm
  obtain ⟨b1, b2, b3⟩ := ckWay_bd hc
  have HFL := Lib.hid (he.len.trans hl)
  have HLT := Lib.hid he.lt
  have HPL := Lib.hid hpl
  have HC := Lib.hid hc
  have HE := Lib.hid he
  have HL := Lib.hid hl
  have HOUT : Hid (∀ (k : Nat) (b : Int), ps[k]? = some b → ¬ (0 ≤ b ∧ b < (n : Int)) → ok = false) := Lib.hid fun k b hb h => by
    cases e : ok with
    | false => rfl
    | true =>
      have h2 := pOk.out (nx := nx) hb (by rw [hl]; exact h)
      rw [(hok.1 e).2.1] at h2
      cases h2
  have HOFF : Hid (∀ (k : Nat) (a b : Int), 0 < k → ps[k - 1]? = some a → ps[k]? = some b → stB nx bw a b = false → ok = false) := Lib.hid fun k a b h0 ha hb h => by
    cases e : ok with
    | false => rfl
    | true =>
      have h2 := pOk.off h0 ha hb h
      rw [(hok.1 e).2.2] at h2
      cases h2
  have HALL : Hid (pOk nx bw ps np → ok = decide (0 < np)) := Lib.hid fun h => by
    have h2 := (hpl ▸ h).all
    by_cases h0 : 0 < np
    · rw [decide_eq_true h0]
      exact hok.2 ⟨fun e => by rw [e] at hpl; simp at hpl; omega, h2⟩
    · rw [decide_eq_false h0]
      cases e : ok with
      | false => rfl
      | true => exact absurd (List.eq_nil_of_length_eq_zero (by rw [hpl]; omega)) (hok.1 e).1
  have HZ : Hid (pOk nx bw ps 0) := Lib.hid pOk.zero
  have HST : Hid (∀ (a b W : Nat), a < n → b < n → fw[a]? = some W → stB nx bw (a : Int) (b : Int) = W.testBit b) := Lib.hid fun a b W ha hb hW => by
    rw [Bool.eq_iff_iff, Fol.stB hc (by rw [hl]; exact ha) (by rw [hl]; exact hb), he.mem a W hW b]
  rw [hl] at b1 b2
  clear hl hc b3 he hpl hok
  go_enter Try.func25, Try.ntmps25
  go_wp2_with fail
  go_loop [9] (fun z => ∃ k : Nat, k ≤ np ∧ z = .int .i64 k ∧ pOk nx bw ps k) (fun z => np - (intOf z).toNat)
  case atStart => exact ⟨0, Nat.zero_le _, rfl, HZ.out⟩
  case round =>
    obtain ⟨k, hk, rfl, hpk⟩ := hrel
    have HPK := Lib.hid hpk
    clear hpk
    by_cases hlt : k < np
    · obtain ⟨ap, b, rfl, hbl, hd, hcell⟩ := hp.at_ (k := k) (by rw [HPL.out]; exact hlt)
      have HD := Lib.hid hd
      clear hd
      by_cases hb0 : b < 0
      · have HF := Lib.hid (HOUT.out k b HD.out (by omega))
        have t1 : decide (b < 0) = true := decide_eq_true hb0
        go_wp2
        go_ret
        exact ⟨ret_bool HF.out.symm, rfl⟩
      · have t1 : decide (b < 0) = false := decide_eq_false hb0
        by_cases hbn : b < (n : Int)
        · obtain ⟨m, rfl⟩ := Int.eq_ofNat_of_zero_le (show 0 ≤ b by omega)
          have hmn : m < n := by omega
          have hm32 : m < 32 := by omega
          have t2 : decide ((n : Int) ≤ (m : Int)) = false := decide_eq_false (by omega)
          match k, hk, hlt, HPK, HD, hcell with
          | 0, hk, hlt, HPK, HD, hcell =>
            have HN := Lib.hid (HPK.out.next HD.out ⟨by omega, by rw [HL.out]; omega⟩ fun a h0 => by omega)
            have hcell0 : w.cell? ap = some (.int .i64 (m : Int)) := by simpa [Addr.add] using hcell
            go_wp2
            go_round
            case rel => exact ⟨1, by omega, by go_num, HN.out⟩
            case measure => (simp [intOf]; omega)
          | q + 1, hk, hlt, HPK, HD, hcell =>
            obtain ⟨ap', a, hap, hbl2, hd2, hcell2⟩ := hp.at_ (k := q) (by rw [HPL.out]; omega)
            injection hap with hap
            subst hap
            have hain := (HPK.out q a (by omega) hd2).1
            rw [HL.out] at hain
            obtain ⟨an, rfl⟩ := Int.eq_ofNat_of_zero_le hain.1
            have han : an < n := by omega
            obtain ⟨aw, W, rfl, hbW, hdW, hcW⟩ := hx.at_ (k := an) (by rw [HFL.out]; exact han)
            have hW := HLT.out an W hdW
            have hW32 : W < 4294967296 := by omega
            have hst := HST.out an m W han hmn hdW
            obtain ⟨t, ht⟩ : ∃ t, W.testBit m = t := ⟨_, rfl⟩
            rw [ht] at hst
            have HT := Lib.hid ht
            have k1 : IntKind.i64.wrap ((q : Int) + 1 - 1) = (q : Int) := by rw [IntWalk.i64_in _ ⟨by omega, by omega⟩]; omega
            have k2 : IntKind.i64.wrap (q : Int) = (q : Int) := IntWalk.i64_in _ ⟨by omega, by omega⟩
            have k3 : (q : Int) < (np : Int) := by omega
            have k4 : decide ((0 : Int) < (q : Int) + 1) = true := decide_eq_true (by omega)
            have hcellq : w.cell? ⟨ap.block, ap.off + (q + 1), none⟩ = some (.int .i64 (m : Int)) := by simpa [Addr.add] using hcell
            have hd2' : ps[q + 1 - 1]? = some (an : Int) := hd2
            have HD2 := Lib.hid hd2'
            have HSTT := Lib.hid hst
            clear hd2 hd2' hdW ht hst
            cases t with
            | true =>
              have HN := Lib.hid (HPK.out.next HD.out ⟨by omega, by rw [HL.out]; omega⟩ fun a h0 ha => by rw [HD2.out] at ha; injection ha with ha; subst ha; exact HSTT.out)
              go_wp2_with (go_at_call 35; (with_reducible refine (wayHas_any W m _ hW32 hm32).mono ?_); rw [HT.out]; rintro e w5 ⟨rfl, rfl⟩)
              go_round
              case rel => exact ⟨q + 1 + 1, by omega, by go_num, HN.out⟩
              case measure => (simp [intOf]; omega)
            | false =>
              have HF := Lib.hid (HOFF.out (q + 1) an m (by omega) HD2.out HD.out HSTT.out)
              go_wp2_with (go_at_call 35; (with_reducible refine (wayHas_any W m _ hW32 hm32).mono ?_); rw [HT.out]; rintro e w5 ⟨rfl, rfl⟩)
              go_ret
              exact ⟨ret_bool HF.out.symm, rfl⟩
        · have HF := Lib.hid (HOUT.out k b HD.out (by omega))
          have t2 : decide ((n : Int) ≤ b) = true := decide_eq_true (by omega)
          go_wp2
          go_ret
          exact ⟨ret_bool HF.out.symm, rfl⟩
    · have hkn : k = np := by omega
      have HF := Lib.hid (HALL.out (by rw [← hkn]; exact HPK.out))
      clear hkn
      go_wp2
      go_ret
      exact ⟨ret_bool (by rw [HF.out]), rfl⟩

theorem ckAlong_ok {nx : List (List Int)} {lw : Lw} {ps : List Int} (h : ckAlong nx lw ps = 0) : ckLaw nx lw = 0 ∧ ps ≠ [] ∧ rowOk nx.length ps = true ∧ pthB nx lw.bw ps = true := by
  unfold ckAlong at h
  split at h
  · rename_i h1
    split at h
    · rename_i h2
      exact ⟨h1, h2⟩
    · omega
  · rename_i h1; exact absurd h h1

set_option maxHeartbeats 8000000 in
theorem factAlong_any (A : Option Addr) (len cap : Nat) (nx : List (List Int)) (A1 : Option Addr) (c1 : Nat) (A2 : Option Addr) (c2 : Nat) (lw : Lw) (Ap : Option Addr) (np cp : Nat) (ps : List Int) (w : World) (hx : RdG w w.heap.size A nx) (hl : nx.length = len) (hm : len ≤ maxLen) (hr : RdL w w.heap.size A1 A2 lw) (hu : U32L lw) (hp : RdI w w.heap.size Ap ps) (hpl : ps.length = np) (hpm : np ≤ maxLen) (hcp : np ≤ cp) (hca : ckAlong nx lw ps = 0) :
    Calls Try.prog 12 #[.slice A len cap, .agg #[.bool lw.bw, .bool lw.al, .slice A1 lw.ma.length c1, .slice A2 lw.en.length c2, .int .u32 (lw.st : Nat)], .slice Ap np cp] w fun e w' => e = .returned (.tuple #[.int .u32 (alW lw ps lw.st : Nat), .int .i64 0]) ∧ Below w.heap.size w w' := by
  obtain ⟨hck, hne, hrk, hpt⟩ := ckAlong_ok hca
  obtain ⟨hc, hl1, hl2, hM, hE, hst8⟩ := ckLaw_ok hck
  obtain ⟨b1, b2, b3⟩ := ckWay_bd hc
  have HCK := Lib.hid hck
  have HC := Lib.hid hc
  have HL := Lib.hid hl
  have HPL := Lib.hid hpl
  have HPM := Lib.hid hpm
  have HRK := Lib.hid hrk
  have HM := Lib.hid hM
  have HE := Lib.hid hE
  have HX := Lib.hid hx
  have HR := Lib.hid hr
  have HL1 : Hid (lw.ma.length = len) := Lib.hid (hl1.trans hl)
  have HL2 : Hid (lw.en.length = len) := Lib.hid (hl2.trans hl)
  have HCHK := Lib.hid (fun (w2 : World) (h1 : RdG w2 w2.heap.size A nx) (h2 : RdL w2 w2.heap.size A1 A2 lw) => factCheck_any A len cap nx A1 c1 A2 c2 lw w2 h1 hl hm h2 hu)
  have HIP := Lib.hid (fun (fw : List Nat) (g : Nat) (w2 : World) (h1 : RdU w2 w2.heap.size (some ⟨g, 0, none⟩) fw) (h2 : EgI nx fw (Fol nx lw.bw)) (h3 : RdI w2 w2.heap.size Ap ps) => isPath_any (some ⟨g, 0, none⟩) len len fw nx lw.bw Ap np cp ps _ w2 h1 h2 hl hc h3 hpl hpm true ⟨fun _ => ⟨hne, hrk, hpt⟩, fun _ => rfl⟩)
  have HBH := Lib.hid (fun (v s : Nat) (w2 : World) (h1 : RdL w2 w2.heap.size A1 A2 lw) (h2 : v < len) (h3 : s < 256) => behind_any A1 c1 A2 c2 lw v s w2 h1 hM hE (by omega) (by omega) (by omega) h3)
  rw [hl] at b1 b2
  obtain ⟨m, rfl⟩ : ∃ m, np = m + 1 := ⟨np - 1, by
    have : np ≠ 0 := fun e => hne (List.eq_nil_of_length_eq_zero (by omega))
    omega⟩
  obtain ⟨n1, hn1⟩ : ∃ n, lw.ma.length = n := ⟨_, rfl⟩
  obtain ⟨n2, hn2⟩ : ∃ n, lw.en.length = n := ⟨_, rfl⟩
  obtain ⟨st, hst⟩ : ∃ n, lw.st = n := ⟨_, rfl⟩
  obtain ⟨bw, hbw⟩ : ∃ b, lw.bw = b := ⟨_, rfl⟩
  obtain ⟨al, hal⟩ : ∃ b, lw.al = b := ⟨_, rfl⟩
  rw [hn1, hn2, hst, hbw, hal] at HCHK HBH
  rw [hbw] at HIP
  rw [hst] at hst8
  rw [hn1, hn2, hst, hbw, hal]
  unfold maxLen at hpm
  have hb0 : Below w.heap.size w (w.alloc (.cells #[.bool bw, .bool al, .slice A1 n1 c1, .slice A2 n2 c2, .int .u32 (st : Nat)] 26)) := by go_grown
  have hown0 : Own (w.alloc (.cells #[.bool bw, .bool al, .slice A1 n1 c1, .slice A2 n2 c2, .int .u32 (st : Nat)] 26)) w.heap.size 26 [.bool bw, .bool al, .slice A1 n1 c1, .slice A2 n2 c2, .int .u32 (st : Nat)] := Own.new w _ _
  have hx0 := (hx.below hb0 (Nat.le_refl _)).more hb0.size
  have hr0 := (hr.below hb0 (Nat.le_refl _)).more hb0.size
  have a0 := hown0.cell (j := 0) rfl
  have a1 := hown0.cell (j := 1) rfl
  have a2 := hown0.cell (j := 2) rfl
  have a3 := hown0.cell (j := 3) rfl
  have a4 := hown0.cell (j := 4) rfl
  have HP := Lib.hid hp
  have k3 : ¬ ((cp : Int) < (m : Int)) := by omega
  clear hca hck hne hrk hpt hc hl1 hl2 hM hE hl hpl hn1 hn2 hst hbw hal b3 hx hr hp hu hm
  go_enter Try.func12, Try.ntmps12
  go_wp2_with fail
  refine (HCHK.out _ hx0 hr0).mono ?_
  rintro e w1 ⟨rfl, hb1⟩
  rw [HCK.out]
  have hbw1 : Below w.heap.size w w1 := hb0.trans (hb1.mono hb0.size)
  have hown1 := hown0.below hb1 hown0.lt
  have d0 := hown1.cell (j := 0) rfl
  have hx1 := (HX.out.below hbw1 (Nat.le_refl _)).more hbw1.size
  clear a0 a1 a2 a3 a4 hown0 hx0 hr0
  go_wp2_with fail
  refine (followers_any A len cap nx bw _ hx1 HL.out HC.out).mono ?_
  rintro e w2 ⟨fw, hfw, rfl, hof, hb2⟩
  have HFW := Lib.hid hfw
  have hrf := (OwnU.rd hof).more hof.lt
  have hbw2 : Below w.heap.size w w2 := hbw1.trans (hb2.mono hbw1.size)
  have hp2 := (HP.out.below hbw2 (Nat.le_refl _)).more hbw2.size
  have hr2 := (HR.out.below hbw2 (Nat.le_refl _)).more hbw2.size
  have hown2 := hown1.below hb2 hown1.lt
  have hl2 := hown2.lt
  clear hfw d0 hown1 hx1
  go_wp2_with fail
  refine (HIP.out fw _ _ hrf HFW.out hp2).mono ?_
  rintro e w5 ⟨rfl, rfl⟩
  have f0 := hown2.cell (j := 0) rfl
  have f1 := hown2.cell (j := 1) rfl
  have f2 := hown2.cell (j := 2) rfl
  have f3 := hown2.cell (j := 3) rfl
  have f4 := hown2.cell (j := 4) rfl
  have HAE : Hid (alW lw ps st = alW lw (ps.drop 0) st) := Lib.hid rfl
  have k1 : IntKind.i64.wrap ((m : Int) + 1 - 1) = (m : Int) := by rw [IntWalk.i64_in _ ⟨by omega, by omega⟩]; omega
  have k2 : IntKind.i64.wrap (m : Int) = (m : Int) := IntWalk.i64_in _ ⟨by omega, by omega⟩
  go_wp2
  go_loopw [9, 33] (fun s z wr => ∃ q W : Nat, q ≤ m ∧ z = .int .i64 q ∧ s = .int .u32 (W : Nat) ∧ W < 256 ∧ Hid (alW lw ps st = alW lw (ps.drop q) W) ∧ Below w2.heap.size w2 wr) (fun _ z _ => m - (intOf z).toNat)
  case atStart => exact ⟨0, st, Nat.zero_le _, rfl, rfl, hst8, HAE, Below.refl _ _⟩
  case round =>
    obtain ⟨q, W, hq, rfl, rfl, hW, HAW, hbr⟩ := hrel
    by_cases hqt : q < m
    · obtain ⟨ap, a, rfl, hbp, hpa, hca⟩ := (hp2.below hbr (Nat.le_refl _)).at_ (k := q) (by rw [HPL.out]; omega)
      have HAT := Lib.hid (alW_at (lw := lw) W hpa (List.getElem?_eq_getElem (show q + 1 < ps.length by rw [HPL.out]; omega)))
      obtain ⟨ha0, ha1⟩ := rowOk_in HRK.out hpa
      rw [HL.out] at ha1
      obtain ⟨an, rfl⟩ := Int.eq_ofNat_of_zero_le ha0
      have han : an < len := by omega
      have HLT := Lib.hid (behW_lt HE.out HM.out hW (an : Int))
      have hrr := (hr2.below hbr (Nat.le_refl _)).more hbr.size
      have g0 := (hbr.cell (p := ⟨w.heap.size, 0, none⟩) hl2).trans f0
      have g1 := (hbr.cell (p := ⟨w.heap.size, 1, none⟩) hl2).trans f1
      have g2 := (hbr.cell (p := ⟨w.heap.size, 2, none⟩) hl2).trans f2
      have g3 := (hbr.cell (p := ⟨w.heap.size, 3, none⟩) hl2).trans f3
      have g4 := (hbr.cell (p := ⟨w.heap.size, 4, none⟩) hl2).trans f4
      clear hpa
      go_wp2_with fail
      refine (HBH.out an W _ hrr han hW).mono ?_
      rintro e w6 ⟨rfl, hb6⟩
      go_wp2
      go_round
      case rel => exact ⟨q + 1, behW lw (an : Int) W, by omega, by go_num, rfl, HLT.out, Lib.hid (by rw [HAW.out, HAT.out]), hbr.trans (hb6.mono hbr.size)⟩
      case measure => (simp [intOf]; omega)
    · have HFIN : Hid (alW lw ps st = W) := Lib.hid (by rw [HAW.out]; exact alW_end W (by rw [HPL.out]; omega))
      go_wp2
      go_ret2
      exact ⟨by rw [HFIN.out]; rfl, hbw2.trans (hbr.mono hbw2.size)⟩

set_option maxHeartbeats 8000000 in
theorem factAlong_bad (A : Option Addr) (len cap : Nat) (nx : List (List Int)) (A1 : Option Addr) (c1 : Nat) (A2 : Option Addr) (c2 : Nat) (lw : Lw) (Ap : Option Addr) (np cp : Nat) (ps : List Int) (w : World) (hx : RdG w w.heap.size A nx) (hl : nx.length = len) (hm : len ≤ maxLen) (hr : RdL w w.heap.size A1 A2 lw) (hu : U32L lw) (hp : RdI w w.heap.size Ap ps) (hpl : ps.length = np) (hpm : np ≤ maxLen) (hca : ckAlong nx lw ps ≠ 0) :
    Calls Try.prog 12 #[.slice A len cap, .agg #[.bool lw.bw, .bool lw.al, .slice A1 lw.ma.length c1, .slice A2 lw.en.length c2, .int .u32 (lw.st : Nat)], .slice Ap np cp] w fun e w' => e = .returned (.tuple #[.int .u32 0, .int .i64 (ckAlong nx lw ps)]) ∧ Below w.heap.size w w' := by
  have HL := Lib.hid hl
  have HX := Lib.hid hx
  have HCHK := Lib.hid (fun (w2 : World) (h1 : RdG w2 w2.heap.size A nx) (h2 : RdL w2 w2.heap.size A1 A2 lw) => factCheck_any A len cap nx A1 c1 A2 c2 lw w2 h1 hl hm h2 hu)
  obtain ⟨n1, hn1⟩ : ∃ n, lw.ma.length = n := ⟨_, rfl⟩
  obtain ⟨n2, hn2⟩ : ∃ n, lw.en.length = n := ⟨_, rfl⟩
  obtain ⟨st, hst⟩ : ∃ n, lw.st = n := ⟨_, rfl⟩
  obtain ⟨bw, hbw⟩ : ∃ b, lw.bw = b := ⟨_, rfl⟩
  obtain ⟨al, hal⟩ : ∃ b, lw.al = b := ⟨_, rfl⟩
  rw [hn1, hn2, hst, hbw, hal] at HCHK
  rw [hn1, hn2, hst, hbw, hal]
  have hb0 : Below w.heap.size w (w.alloc (.cells #[.bool bw, .bool al, .slice A1 n1 c1, .slice A2 n2 c2, .int .u32 (st : Nat)] 26)) := by go_grown
  have hown0 : Own (w.alloc (.cells #[.bool bw, .bool al, .slice A1 n1 c1, .slice A2 n2 c2, .int .u32 (st : Nat)] 26)) w.heap.size 26 [.bool bw, .bool al, .slice A1 n1 c1, .slice A2 n2 c2, .int .u32 (st : Nat)] := Own.new w _ _
  have hx0 := (hx.below hb0 (Nat.le_refl _)).more hb0.size
  have hr0 := (hr.below hb0 (Nat.le_refl _)).more hb0.size
  have a0 := hown0.cell (j := 0) rfl
  have a1 := hown0.cell (j := 1) rfl
  have a2 := hown0.cell (j := 2) rfl
  have a3 := hown0.cell (j := 3) rfl
  have a4 := hown0.cell (j := 4) rfl
  by_cases hck : ckLaw nx lw = 0
  · have hc := (ckLaw_ok hck).1
    have HC := Lib.hid hc
    have hca5 : ckAlong nx lw ps = 5 := by
      have h2 : ckAlong nx lw ps = 0 ∨ ckAlong nx lw ps = 5 := by
        unfold ckAlong
        rw [if_pos hck]
        split
        · exact .inl rfl
        · exact .inr rfl
      exact h2.resolve_left hca
    have HCK := Lib.hid hck
    have HCA := Lib.hid hca5
    have HIP := Lib.hid (fun (fw : List Nat) (g : Nat) (w2 : World) (h1 : RdU w2 w2.heap.size (some ⟨g, 0, none⟩) fw) (h2 : EgI nx fw (Fol nx lw.bw)) (h3 : RdI w2 w2.heap.size Ap ps) => isPath_any (some ⟨g, 0, none⟩) len len fw nx lw.bw Ap np cp ps _ w2 h1 h2 hl hc h3 hpl hpm false ⟨fun e => (by cases e), fun e => absurd (ckAlong_good hck e.1 e.2.1 e.2.2) hca⟩)
    rw [hbw] at HIP
    have HP := Lib.hid hp
    clear hck hc hca hca5 hl hpl hn1 hn2 hst hbw hal hx hr hp hu hm
    go_enter Try.func12, Try.ntmps12
    go_wp2_with fail
    refine (HCHK.out _ hx0 hr0).mono ?_
    rintro e w1 ⟨rfl, hb1⟩
    rw [HCK.out]
    have hbw1 : Below w.heap.size w w1 := hb0.trans (hb1.mono hb0.size)
    have hown1 := hown0.below hb1 hown0.lt
    have d0 := hown1.cell (j := 0) rfl
    have hx1 := (HX.out.below hbw1 (Nat.le_refl _)).more hbw1.size
    clear a0 a1 a2 a3 a4 hown0 hx0 hr0
    go_wp2_with fail
    refine (followers_any A len cap nx bw _ hx1 HL.out HC.out).mono ?_
    rintro e w2 ⟨fw, hfw, rfl, hof, hb2⟩
    have HFW := Lib.hid hfw
    have hrf := (OwnU.rd hof).more hof.lt
    have hbw2 : Below w.heap.size w w2 := hbw1.trans (hb2.mono hbw1.size)
    have hp2 := (HP.out.below hbw2 (Nat.le_refl _)).more hbw2.size
    clear hfw d0 hown1 hx1
    go_wp2_with fail
    refine (HIP.out fw _ _ hrf HFW.out hp2).mono ?_
    rintro e w5 ⟨rfl, rfl⟩
    go_wp2
    go_ret2
    exact ⟨by rw [HCA.out]; rfl, hbw2⟩
  · have HCA := Lib.hid (ckAlong_law (ps := ps) hck)
    have HN := Lib.hid hck
    obtain ⟨ck, hk⟩ : ∃ k, ckLaw nx lw = k := ⟨_, rfl⟩
    rw [hk] at HCHK HCA HN
    have hne : (ck != 0) = true := by simp [HN.out]
    clear hck hca hl hpl hn1 hn2 hst hbw hal hx hr hp hu hm hk
    go_enter Try.func12, Try.ntmps12
    go_wp2_with fail
    refine (HCHK.out _ hx0 hr0).mono ?_
    rintro e w1 ⟨rfl, hb1⟩
    go_wp2
    go_ret2
    exact ⟨by rw [HCA.out]; rfl, hb0.trans (hb1.mono hb0.size)⟩

/-- .. of its first function: 12 -/
theorem alongIs : AlongIs := ⟨factAlong_any, factAlong_bad⟩

end Go.Proofs.Ytmbabbdcijgnoaa
