/-
  fact.alongSome, fact.Solve (I2): package fact keeps its contracts.
-/
import Derived.Test.YtmbabbdcijgnoaaFactSolve
namespace Go.Proofs.Ytmbabbdcijgnoaa
open Go.RowKit
set_option linter.unusedSimpArgs false
set_option linter.unusedVariables false
set_option maxRecDepth 100000

set_option maxHeartbeats 8000000 in
theorem alongSome_any (A : Option Addr) (len cap : Nat) (nx : List (List Int)) (A1 : Option Addr) (c1 : Nat) (A2 : Option Addr) (c2 : Nat) (lw : Lw) (w : World) (hx : RdG w w.heap.size A nx) (hl : nx.length = len) (hc : ckWay nx = 0) (hr : RdL w w.heap.size A1 A2 lw)
    (h1 : lw.ma.length = len) (h2 : lw.en.length = len) (hM : ∀ x ∈ lw.ma, x < 256) (hE : ∀ x ∈ lw.en, x < 256) (hs : lw.st < 256) :
    Calls Try.prog 21 #[.slice A len cap, .agg #[.bool lw.bw, .bool lw.al, .slice A1 len c1, .slice A2 len c2, .int .u32 (lw.st : Nat)]] w fun e w' => ∃ (G : Nat) (F : List Nat), Sm nx lw F ∧ e = .returned (.slice (some ⟨G, 0, none⟩) len len) ∧ Own w' G 24 (uv F) ∧ w.heap.size ≤ G ∧ Below w.heap.size w w' := by
  obtain ⟨b1, b2, b3⟩ := ckWay_bd hc
  have HC := Lib.hid hc
  have HL := Lib.hid hl
  have HR := Lib.hid hr
  have HX := Lib.hid hx
  have hmk := make_words (P := Try.prog) 23 24 Try.underlying23 (by kernel_rfl) len (by rw [hl] at b2; omega)
  have HFN := Lib.hid (fun (w2 : World) (h : RdG w2 w2.heap.size A nx) => firstNodes_any A len cap nx lw w2 h hl hc)
  have HFO := Lib.hid (fun (w2 : World) (h : RdG w2 w2.heap.size A nx) => followers_any A len cap nx lw.bw w2 h hl hc)
  have HRE := Lib.hid (fun (g c : Nat) (fw : List Nat) (s B : Nat) (w2 : World) (h : RdU w2 B (some ⟨g, 0, none⟩) fw) (he : EgI nx fw (Fol nx lw.bw)) (h5 : RcI nx lw s) => factReach_any (some ⟨g, 0, none⟩) len c fw nx lw s B w2 h he hl hc h5)
  have HSPR := Lib.hid (fun (AF : Option Addr) (cF : Nat) (fw : List Nat) (R g : Nat) (F : List Nat) (w2 : World) (h : RdU w2 g AF fw) (he : EgI nx fw (Fol nx lw.bw)) (h3 : R < 256) (h4 : ∀ j, R.testBit j = true ↔ Com nx lw j) (h5 : RdL w2 g A1 A2 lw) (h6 : Own w2 g 24 (uv F)) (h7 : FcI nx lw F) => spread_any len AF cF fw nx R A1 c1 A2 c2 lw g F w2 h he hl hc h3 h4 h5 hM hE h1 h2 h6 h7)
  have HST : Hid (FsF nx lw 0 (List.replicate len 0)) := Lib.hid (FsF.start len hl)
  have HDN : Hid (∀ F, FsF nx lw len F → FcI nx lw F) := Lib.hid fun F h => FsF.done hs (by rw [hl]; exact h)
  have HSM : Hid (∀ s0 F, Spr nx lw s0 F false (SpD len 0) → Sm nx lw F) := Lib.hid fun s0 F h => Sm.of hc hE hM (by rw [hl]; exact h)
  have HRC : Hid (∀ s, s < 256 → (∀ j, s.testBit j = true ↔ j ∈ sts nx lw) → RcI nx lw s) := Lib.hid fun s h3 h4 => ⟨h3, fun j h => .here ((h4 j).1 h), fun j h => (h4 j).2 h⟩
  have HSUM : Hid (∀ F, FcI nx lw F → F.sum ≤ 2040) := Lib.hid fun F h => h.sum_le b2
  rw [hl] at b1 b2
  obtain ⟨st, hst⟩ : ∃ n, lw.st = n := ⟨_, rfl⟩
  obtain ⟨bw, hbw⟩ : ∃ b, lw.bw = b := ⟨_, rfl⟩
  obtain ⟨al, hal⟩ : ∃ b, lw.al = b := ⟨_, rfl⟩
  have HYES : Hid (∀ k F, FsF nx lw k F → k ∈ sts nx lw → FsF nx lw (k + 1) (F.set k st)) := Lib.hid fun k F h hk => by rw [← hst]; exact h.yes hk
  rw [hst, hbw, hal] at HSPR
  rw [hbw] at HFN HFO HRE
  rw [hst, hbw, hal]
  rw [hst] at hs
  have hb0 : Below w.heap.size w (w.alloc (.cells #[.bool bw, .bool al, .slice A1 len c1, .slice A2 len c2, .int .u32 (st : Nat)] 26)) := by go_grown
  have hbox0 : Own (w.alloc (.cells #[.bool bw, .bool al, .slice A1 len c1, .slice A2 len c2, .int .u32 (st : Nat)] 26)) w.heap.size 26 [.bool bw, .bool al, .slice A1 len c1, .slice A2 len c2, .int .u32 (st : Nat)] := Own.new w _ _
  have hx0 := (hx.below hb0 (Nat.le_refl _)).more hb0.size
  have d0 := hbox0.cell (j := 0) rfl
  have hl0 := hbox0.lt
  have HSZ : Hid ((w.alloc (.cells #[.bool bw, .bool al, .slice A1 len c1, .slice A2 len c2, .int .u32 (st : Nat)] 26)).heap.size = w.heap.size + 1) := Lib.hid (by simp)
  clear hl hc b3 hr hM hE h1 h2 hst hbw hal hx
  go_enter Try.func21, Try.ntmps21
  go_wp2_with fail
  refine (HFN.out _ hx0).mono ?_
  rintro e w1 ⟨s, hs8, hsb, rfl, rfl⟩
  have HSB := Lib.hid hsb
  have HRCS := Lib.hid (HRC.out s hs8 hsb)
  clear hsb
  go_wp2_with fail
  refine (HFO.out _ hx0).mono ?_
  rintro e w2 ⟨fw, hfw, rfl, hof, hb2⟩
  have HFW := Lib.hid hfw
  have hbox2 := hbox0.below hb2 hl0
  rw [HSZ.out] at hof
  have hgf := hof.lt
  have hrf := OwnU.rd hof
  have hbw2 : Below w.heap.size w w2 := hb0.trans (hb2.mono hb0.size)
  have hr2 := (HR.out.below hbw2 (Nat.le_refl _)).more hbw2.size
  clear hfw hx0 d0 hof
  go_wp2_with fail
  refine (HRE.out _ _ fw s _ _ hrf HFW.out HRCS.out).mono ?_
  rintro e w3 ⟨R, hR8, hRb, rfl, rfl⟩
  have HRB := Lib.hid hRb
  have hrf2 := hrf.more hgf
  have hs32 : s < 4294967296 := by omega
  have hbl2 := hbox2.lt
  have hown4 := Own.new w2 24 (uv (List.replicate len 0))
  clear hRb hrf
  go_wp2_with fail
  go_loopw [26] (fun z wr => ∃ (k : Nat) (F : List Nat), k ≤ len ∧ z = .int .i64 k ∧ FsF nx lw k F ∧ Own wr w2.heap.size 24 (uv F) ∧ Below w2.heap.size w2 wr) (fun z _ => len - (intOf z).toNat)
  case atStart => exact ⟨0, _, Nat.zero_le _, rfl, HST.out, hown4, by go_grown⟩
  case round =>
    obtain ⟨k, F, hk, rfl, hfs, hown5, hb5⟩ := hrel
    have HFS := Lib.hid hfs
    clear hfs
    by_cases hkt : k < len
    · have hk32 : k < 32 := by omega
      obtain ⟨bt, hbt⟩ : ∃ t, s.testBit k = t := ⟨_, rfl⟩
      have HBT := Lib.hid hbt
      clear hbt
      cases bt with
      | false =>
        have HN := Lib.hid (HFS.out.no fun h => by have := (HSB.out k).2 h; rw [HBT.out] at this; cases this)
        go_wp2_with (go_at_call 35; (with_reducible refine (wayHas_any s k _ hs32 hk32).mono ?_); rw [HBT.out]; rintro e w7 ⟨rfl, rfl⟩)
        go_round
        case rel => exact ⟨k + 1, F, by omega, by go_num, HN.out, hown5, hb5⟩
        case measure => (simp [intOf]; omega)
      | true =>
        have HN := Lib.hid (HYES.out k F HFS.out ((HSB.out k).1 HBT.out))
        obtain ⟨x0, hx0⟩ : ∃ x0, F[k]? = some x0 := ⟨_, List.getElem?_eq_getElem (by rw [HFS.out.len, HL.out]; exact hkt)⟩
        have hcq := hown5.cell (uv_at hx0)
        have hfq := hown5.frozen k
        have d4 := (hb5.cell (p := ⟨w.heap.size, 4, none⟩) hbl2).trans (hbox2.cell (j := 4) rfl)
        have HOW := Lib.hid (OwnU.set hown5 k st)
        clear hx0
        go_wp2_with (go_at_call 35; (with_reducible refine (wayHas_any s k _ hs32 hk32).mono ?_); rw [HBT.out]; rintro e w7 ⟨rfl, rfl⟩)
        go_round
        case rel => exact ⟨k + 1, F.set k st, by omega, by go_num, HN.out, HOW.out, hb5.setCell (show w2.heap.size ≤ (⟨w2.heap.size, k, none⟩ : Addr).block from Nat.le_refl _) _⟩
        case measure => (simp [intOf]; omega)
    · have hkl : k = len := by omega
      have HI : Hid (FcI nx lw F) := Lib.hid (HDN.out F (by rw [← hkl]; exact HFS.out))
      clear hkl
      go_wp2_with fail
      go_loopw [] (fun wr => ∃ (F : List Nat), FcI nx lw F ∧ Own wr w2.heap.size 24 (uv F) ∧ Below w2.heap.size w2 wr) (fun wr => 2041 - cellSum wr w2.heap.size)
      case atStart => exact ⟨F, HI.out, hown5, hb5⟩
      case round =>
        obtain ⟨F2, hi2, hown6, hb6⟩ := hrel
        have HI2 := Lib.hid hi2
        have HCS := Lib.hid (cellSum_own hown6)
        have HOWN6 := Lib.hid hown6
        have a0 := (hb6.cell (p := ⟨w.heap.size, 0, none⟩) hbl2).trans (hbox2.cell (j := 0) rfl)
        have a1 := (hb6.cell (p := ⟨w.heap.size, 1, none⟩) hbl2).trans (hbox2.cell (j := 1) rfl)
        have a2 := (hb6.cell (p := ⟨w.heap.size, 2, none⟩) hbl2).trans (hbox2.cell (j := 2) rfl)
        have a3 := (hb6.cell (p := ⟨w.heap.size, 3, none⟩) hbl2).trans (hbox2.cell (j := 3) rfl)
        have a4 := (hb6.cell (p := ⟨w.heap.size, 4, none⟩) hbl2).trans (hbox2.cell (j := 4) rfl)
        have hrf6 := hrf2.below hb6 (Nat.le_refl _)
        have hr6 := hr2.below hb6 (Nat.le_refl _)
        clear hi2 hown6
        go_wp2_with fail
        refine (HSPR.out _ _ fw R w2.heap.size F2 _ hrf6 HFW.out hR8 HRB.out hr6 HOWN6.out HI2.out).mono ?_
        rintro e w8 ⟨ch, F3, rfl, hown8, hsp8, hb8⟩
        have HSP8 := Lib.hid hsp8
        have hb9 := hb6.trans hb8
        clear hsp8
        cases ch with
        | true =>
          have hlt := HSP8.out.lt rfl
          have hle := HSUM.out F3 HSP8.out.inv
          have HLT := Lib.hid (show 2041 - F3.sum < 2041 - F2.sum by omega)
          clear hlt hle
          go_wp2
          go_round
          case rel => exact ⟨F3, HSP8.out.inv, hown8, hb9⟩
          case measure => rw [cellSum_own hown8, HCS.out]; exact HLT.out
        | false =>
          have HS := Lib.hid (HSM.out _ F3 HSP8.out)
          go_wp2
          go_ret
          exact ⟨w2.heap.size, F3, HS.out, rfl, hown8, hbw2.size, hbw2.trans (hb9.mono hbw2.size)⟩

/-- the first k words turned -/
def flK (F : List Nat) (k : Nat) : List Nat := (flW F).take k ++ F.drop k

section
variable {F : List Nat} {k x : Nat}

theorem flK_zero : flK F 0 = F := by simp [flK]

theorem flK_all {n : Nat} (h : F.length = n) : flK F n = flW F := by
  unfold flK
  rw [List.drop_of_length_le (by omega), List.append_nil, List.take_of_length_le (by simp [flW]; omega)]

theorem flK_at (h : F[k]? = some x) : (flK F k)[k]? = some x := by
  have hk := (List.getElem?_eq_some_iff.1 h).1
  have e : ((flW F).take k).length = k := by simp [flW]; omega
  unfold flK
  rw [List.getElem?_append_right (by omega), e, Nat.sub_self, List.getElem?_drop, Nat.add_zero, h]

theorem flK_next (h : F[k]? = some x) : (flK F k).set k (x ^^^ 255) = flK F (k + 1) := by
  have hk := (List.getElem?_eq_some_iff.1 h).1
  have e : ((flW F).take k).length = k := by simp [flW]; omega
  have e2 : (flW F)[k]? = some (x ^^^ 255) := by unfold flW; rw [List.getElem?_map, h]; rfl
  unfold flK
  rw [List.set_append_right _ _ (by omega), e, Nat.sub_self, List.take_add_one, e2, List.append_assoc]
  congr 1
  have hd : F.drop k = x :: F.drop (k + 1) := drop_at h
  rw [hd]
  rfl

end

set_option maxHeartbeats 8000000 in
theorem factSolve_any (A : Option Addr) (len cap : Nat) (nx : List (List Int)) (A1 : Option Addr) (c1 : Nat) (A2 : Option Addr) (c2 : Nat) (lw : Lw) (w : World) (hx : RdG w w.heap.size A nx) (hl : nx.length = len) (hr : RdL w w.heap.size A1 A2 lw) (hu : U32L lw) (hck : ckLaw nx lw = 0) :
    Calls Try.prog 8 #[.slice A len cap, .agg #[.bool lw.bw, .bool lw.al, .slice A1 lw.ma.length c1, .slice A2 lw.en.length c2, .int .u32 (lw.st : Nat)]] w fun e w' => ∃ ws A' c', Slv nx lw ws ∧ e = .returned (.tuple #[.slice A' len c', .int .i64 0]) ∧ RdU w' w'.heap.size A' ws ∧ (∀ ad, A' = some ad → w.heap.size ≤ ad.block) ∧ Below w.heap.size w w' := by
  obtain ⟨hc, hl1, hl2, hM, hE, hst8⟩ := ckLaw_ok hck
  obtain ⟨b1, b2, b3⟩ := ckWay_bd hc
  have h1 : lw.ma.length = len := hl1.trans hl
  have h2 : lw.en.length = len := hl2.trans hl
  obtain ⟨o1, o2, o3, o4, o5⟩ := opL_ok hl1 hM hE hst8
  have HCK := Lib.hid hck
  have HL := Lib.hid hl
  have HX := Lib.hid hx
  have HR := Lib.hid hr
  have HCHK := Lib.hid (fun (w2 : World) (h1 : RdG w2 w2.heap.size A nx) (h2 : RdL w2 w2.heap.size A1 A2 lw) => factCheck_any A len cap nx A1 c1 A2 c2 lw w2 h1 hl (by unfold maxLen; omega) h2 hu)
  have HAS := Lib.hid (fun (w2 : World) (h3 : RdG w2 w2.heap.size A nx) (h4 : RdL w2 w2.heap.size A1 A2 lw) => alongSome_any A len cap nx A1 c1 A2 c2 lw w2 h3 hl hc h4 h1 h2 hM hE hst8)
  have HOP := Lib.hid (fun (w2 : World) (h4 : RdL w2 w2.heap.size A1 A2 lw) => opposite_any len A1 c1 A2 c2 lw w2 h4 hM hE hst8 h1 h2 (by omega))
  have HAO := Lib.hid (fun (A' : Option Addr) (c' : Nat) (w2 : World) (h3 : RdG w2 w2.heap.size A nx) (h4 : RdL w2 w2.heap.size A' A1 (opL lw)) => alongSome_any A len cap nx A' c' A1 c1 (opL lw) w2 h3 hl hc h4 (o1.trans hl) (o2.trans hl) o3 o4 o5)
  have HSOME : Hid (lw.al = false → ∀ F, Sm nx lw F → Slv nx lw F) := Lib.hid fun ha F h => h.slv ha
  have HALL : Hid (lw.al = true → ∀ F, Sm nx (opL lw) F → Slv nx lw (flW F)) := Lib.hid fun ha F h => h.op hc hl1 hM ha
  rw [hl] at b1 b2
  rw [h1, h2]
  rw [h1, h2] at HCHK
  obtain ⟨st, hst⟩ : ∃ n, lw.st = n := ⟨_, rfl⟩
  obtain ⟨bw, hbw⟩ : ∃ b, lw.bw = b := ⟨_, rfl⟩
  obtain ⟨al, hal⟩ : ∃ b, lw.al = b := ⟨_, rfl⟩
  obtain ⟨so, hso⟩ : ∃ n, (opL lw).st = n := ⟨_, rfl⟩
  have hob : (opL lw).bw = bw := hbw
  have hoa : (opL lw).al = false := rfl
  rw [hst, hbw, hal] at HCHK HAS HOP
  rw [hso] at HOP
  rw [hso, hob, hoa] at HAO
  rw [hst, hbw, hal]
  rw [hal] at HSOME HALL
  have hb0 : Below w.heap.size w (w.alloc (.cells #[.bool bw, .bool al, .slice A1 len c1, .slice A2 len c2, .int .u32 (st : Nat)] 26)) := by go_grown
  have hbox0 : Own (w.alloc (.cells #[.bool bw, .bool al, .slice A1 len c1, .slice A2 len c2, .int .u32 (st : Nat)] 26)) w.heap.size 26 [.bool bw, .bool al, .slice A1 len c1, .slice A2 len c2, .int .u32 (st : Nat)] := Own.new w _ _
  have hx0 := (hx.below hb0 (Nat.le_refl _)).more hb0.size
  have hr0 := (hr.below hb0 (Nat.le_refl _)).more hb0.size
  have a0 := hbox0.cell (j := 0) rfl
  have a1 := hbox0.cell (j := 1) rfl
  have a2 := hbox0.cell (j := 2) rfl
  have a3 := hbox0.cell (j := 3) rfl
  have a4 := hbox0.cell (j := 4) rfl
  have hl0 := hbox0.lt
  clear hx hl hr hu hck hc hl1 hl2 hM hE hst8 b3 h1 h2 o1 o2 o3 o4 o5 hst hbw hal hso hob hoa
  go_enter Try.func8, Try.ntmps8
  go_wp2_with fail
  refine (HCHK.out _ hx0 hr0).mono ?_
  rintro e w1 ⟨rfl, hb1⟩
  rw [HCK.out]
  have hbw1 : Below w.heap.size w w1 := hb0.trans (hb1.mono hb0.size)
  have hbox1 := hbox0.below hb1 hl0
  have hx1 := (HX.out.below hbw1 (Nat.le_refl _)).more hbw1.size
  have hr1 := (HR.out.below hbw1 (Nat.le_refl _)).more hbw1.size
  have d0 := hbox1.cell (j := 0) rfl
  have d1 := hbox1.cell (j := 1) rfl
  have d2 := hbox1.cell (j := 2) rfl
  have d3 := hbox1.cell (j := 3) rfl
  have d4 := hbox1.cell (j := 4) rfl
  clear a0 a1 a2 a3 a4 hx0 hr0 hbox0
  cases al with
  | false =>
    go_wp2_with fail
    refine (HAS.out _ hx1 hr1).mono ?_
    rintro e w2 ⟨G, F, hsm, rfl, hown2, hG, hb2⟩
    have HS := Lib.hid (HSOME.out (by trivial) F hsm)
    have HRD := Lib.hid ((OwnU.rd hown2).more hown2.lt)
    clear hsm hown2
    go_wp2
    go_ret2
    exact ⟨F, _, _, HS.out, rfl, HRD.out, fun ad h => by injection h with h; subst h; exact Nat.le_trans hbw1.size hG, hbw1.trans (hb2.mono hbw1.size)⟩
  | true =>
    go_wp2_with fail
    refine (HOP.out _ hr1).mono ?_
    rintro e w2 ⟨A', c', rfl, hr2, hb2⟩
    have hbw2 : Below w.heap.size w w2 := hbw1.trans (hb2.mono hbw1.size)
    have hx2 := (HX.out.below hbw2 (Nat.le_refl _)).more hbw2.size
    go_wp2_with fail
    refine (HAO.out _ _ _ hx2 hr2).mono ?_
    rintro e w3 ⟨G, F, hsm, rfl, hown3, hG, hb3⟩
    have HS := Lib.hid (HALL.out (by trivial) F hsm)
    have HLT := Lib.hid hsm.lt
    have hfl : F.length = len := hsm.len.trans HL.out
    have HFL := Lib.hid hfl
    have HZ : Hid (flK F 0 = F) := Lib.hid flK_zero
    have HEND : Hid (flK F len = flW F) := Lib.hid (flK_all hfl)
    have hgl3 := hown3.lt
    have hbw3 : Below w.heap.size w w3 := hbw2.trans (hb3.mono hbw2.size)
    clear hsm hfl
    go_wp2_with fail
    go_loopw [27] (fun z wr => ∃ (k : Nat), k ≤ len ∧ z = .int .i64 k ∧ Own wr G 24 (uv (flK F k)) ∧ Below w.heap.size w wr) (fun z _ => len - (intOf z).toNat)
    case atStart => exact ⟨0, Nat.zero_le _, rfl, by rw [HZ.out]; exact hown3, hbw3⟩
    case round =>
      obtain ⟨k, hk, rfl, hown4, hb4⟩ := hrel
      by_cases hkt : k < len
      · obtain ⟨x, hx⟩ : ∃ x, F[k]? = some x := ⟨_, List.getElem?_eq_getElem (by rw [HFL.out]; exact hkt)⟩
        have hx8 := HLT.out k x hx
        have hcq := hown4.cell (uv_at (flK_at hx))
        have hfq := hown4.frozen k
        have hxor : bits .xor .u32 ((x : Nat) : Int) 255 = ((x ^^^ 255 : Nat) : Int) := u32_xor_nat x 255 (by omega) (by omega)
        have HXOR := Lib.hid hxor
        have HOW : Hid (Own (wr.setCell ⟨G, k, none⟩ (.int .u32 ((x ^^^ 255 : Nat) : Int))) G 24 (uv (flK F (k + 1)))) := Lib.hid (by rw [← flK_next hx]; exact OwnU.set hown4 k _)
        have hGw : w.heap.size ≤ G := Nat.le_trans hbw2.size hG
        clear hx hxor
        go_wp2
        go_round
        case rel => exact ⟨k + 1, by omega, by go_num, by rw [HXOR.out]; exact HOW.out, hb4.setCell (show w.heap.size ≤ (⟨G, k, none⟩ : Addr).block from hGw) _⟩
        case measure => (simp [intOf]; omega)
      · have hkl : k = len := by omega
        have HRD : Hid (RdU wr wr.heap.size (some ⟨G, 0, none⟩) (flW F)) := Lib.hid (by rw [← HEND.out, ← hkl]; exact (OwnU.rd hown4).more hown4.lt)
        clear hkl hown4
        go_wp2
        go_ret2
        exact ⟨flW F, _, _, HS.out, rfl, HRD.out, fun ad h => by injection h with h; subst h; exact Nat.le_trans hbw2.size hG, hb4⟩

set_option maxHeartbeats 4000000 in
theorem factSolve_bad (A : Option Addr) (len cap : Nat) (nx : List (List Int)) (A1 : Option Addr) (c1 : Nat) (A2 : Option Addr) (c2 : Nat) (lw : Lw) (w : World) (hx : RdG w w.heap.size A nx) (hl : nx.length = len) (hm : len ≤ maxLen) (hr : RdL w w.heap.size A1 A2 lw) (hu : U32L lw) (hck : ckLaw nx lw ≠ 0) :
    Calls Try.prog 8 #[.slice A len cap, .agg #[.bool lw.bw, .bool lw.al, .slice A1 lw.ma.length c1, .slice A2 lw.en.length c2, .int .u32 (lw.st : Nat)]] w fun e w' => ∃ A' c', e = .returned (.tuple #[.slice A' 0 c', .int .i64 (ckLaw nx lw)]) ∧ Below w.heap.size w w' := by
  have HCHK := Lib.hid (fun (w2 : World) (h1 : RdG w2 w2.heap.size A nx) (h2 : RdL w2 w2.heap.size A1 A2 lw) => factCheck_any A len cap nx A1 c1 A2 c2 lw w2 h1 hl hm h2 hu)
  obtain ⟨n1, hn1⟩ : ∃ n, lw.ma.length = n := ⟨_, rfl⟩
  obtain ⟨n2, hn2⟩ : ∃ n, lw.en.length = n := ⟨_, rfl⟩
  obtain ⟨st, hst⟩ : ∃ n, lw.st = n := ⟨_, rfl⟩
  obtain ⟨ck, hk⟩ : ∃ k, ckLaw nx lw = k := ⟨_, rfl⟩
  rw [hn1, hn2, hst, hk] at HCHK
  rw [hn1, hn2, hst, hk]
  rw [hk] at hck
  have hne : (ck != 0) = true := by simp [hck]
  have hb0 : Below w.heap.size w (w.alloc (.cells #[.bool lw.bw, .bool lw.al, .slice A1 n1 c1, .slice A2 n2 c2, .int .u32 (st : Nat)] 26)) := by go_grown
  have hbox0 : Own (w.alloc (.cells #[.bool lw.bw, .bool lw.al, .slice A1 n1 c1, .slice A2 n2 c2, .int .u32 (st : Nat)] 26)) w.heap.size 26 [.bool lw.bw, .bool lw.al, .slice A1 n1 c1, .slice A2 n2 c2, .int .u32 (st : Nat)] := Own.new w _ _
  have hx0 := (hx.below hb0 (Nat.le_refl _)).more hb0.size
  have hr0 := (hr.below hb0 (Nat.le_refl _)).more hb0.size
  have a0 := hbox0.cell (j := 0) rfl
  have a1 := hbox0.cell (j := 1) rfl
  have a2 := hbox0.cell (j := 2) rfl
  have a3 := hbox0.cell (j := 3) rfl
  have a4 := hbox0.cell (j := 4) rfl
  clear hx hl hm hr hu hck hn1 hn2 hst hk
  go_enter Try.func8, Try.ntmps8
  go_wp2_with fail
  refine (HCHK.out _ hx0 hr0).mono ?_
  rintro e w1 ⟨rfl, hb1⟩
  go_wp2
  go_ret2
  exact ⟨none, 0, rfl, hb0.trans (hb1.mono hb0.size)⟩

/-- .. of its second function: 8 -/
theorem factIs : FactIs := ⟨factSolve_any, factSolve_bad⟩

end Go.Proofs.Ytmbabbdcijgnoaa
