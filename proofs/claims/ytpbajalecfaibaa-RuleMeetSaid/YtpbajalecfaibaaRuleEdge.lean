/-
  rule.Edge, rule.frontier, rule.Meet (F2).
-/
import Derived.Test.YtpbajalecfaibaaRuleTab
namespace Go.Proofs.Ytpbajalecfaibaa
open Go.RowKit
set_option linter.unusedSimpArgs false
set_option linter.unusedVariables false
set_option maxRecDepth 100000

theorem Tbl.exit {nx : List (List Int)} {ws : List Nat} (h : Tbl nx ws) {v t a V T : Nat} (hV : ws[v]? = some V) (hT : ws[t]? = some T) : ExitP nx a v t ↔ (V.testBit a = true ∧ (a = t ∨ T.testBit a = false)) := by
  unfold ExitP
  rw [h.mem v V hV]
  constructor
  · rintro ⟨h1, h2 | h2⟩
    · exact ⟨h1, .inl h2.symm⟩
    · refine ⟨h1, .inr ?_⟩
      cases hb : T.testBit a with
      | false => rfl
      | true => exact absurd ((h.mem t T hT a).1 hb) h2
  · rintro ⟨h1, h2 | h2⟩
    · exact ⟨h1, .inl h2.symm⟩
    · refine ⟨h1, .inr fun hd => ?_⟩
      rw [(h.mem t T hT a).2 hd] at h2
      cases h2

set_option maxHeartbeats 8000000 in
theorem ruleEdge_any (A : Option Addr) (len cap : Nat) (nx : List (List Int)) (w : World) (hx : RdG w w.heap.size A nx) (hl : nx.length = len) (hc : ckWay nx = 0) :
    Calls Try.prog 31 #[.slice A len cap] w fun e w' => ∃ ws A' c', Edg nx ws ∧ e = .returned (.tuple #[.slice A' len c', .int .i64 0]) ∧ RdU w' w'.heap.size A' ws ∧ Below w.heap.size w w' := by
  obtain ⟨b1, b2, b3⟩ := ckWay_bd hc
  have HC := Lib.hid hc
  have HL := Lib.hid hl
  have HST := Lib.hid ((EgI.start nx).congr (Q' := EdQ nx 0) fun i j _ => EdQ.zero.symm)
  have HEND := Lib.hid (fun (eg : List Nat) (h : EgI nx eg (EdQ nx nx.length)) => h.congr (Q' := EdgeP nx) fun i j _ => EdQ.all hc)
  rw [hl] at b1 b2 HST HEND
  have hmk := make_words (P := Try.prog) 34 23 Try.underlying34 (by kernel_rfl) len (by omega)
  clear hl hc b3
  go_enter Try.func31, Try.ntmps31
  go_wp2_with fail
  refine (ruleTable_any A len cap nx _ hx HL.out HC.out).mono ?_
  rintro e wo ⟨ws, A2, c2, htb, rfl, hrd, hb1⟩
  have hwl := htb.len
  rw [HL.out] at hwl
  have HWL := Lib.hid hwl
  have HTB := Lib.hid htb
  have hs1 := hb1.size
  have hxo := (hx.below hb1 (Nat.le_refl _)).more hs1
  clear htb hwl
  go_wp2_with fail
  have hown1 := Own.new wo 23 (uv (List.replicate len 0))
  go_loopw [25] (fun z wr => ∃ (i : Nat) (eg : List Nat), i ≤ len ∧ z = .int .i64 i ∧ EgI nx eg (EdQ nx i) ∧ Own wr wo.heap.size 23 (uv eg) ∧ Below wo.heap.size wo wr) (fun z _ => len - (intOf z).toNat)
  case atStart => exact ⟨0, _, Nat.zero_le _, rfl, HST.out, hown1, by go_grown⟩
  case round =>
    obtain ⟨i, eg, hi, rfl, heg, hown, hb⟩ := hrel
    have HEG := Lib.hid heg
    clear heg
    by_cases hlt : i < len
    · obtain ⟨ad, row, Ar, cr, rfl, hbx, hdx, hcx0, hrow⟩ := hxo.at_ (k := i) (by rw [HL.out]; exact hlt)
      have hrs := row_sc HC.out hdx
      subst hrs
      have HSL : (ni (sc nx i)).length = (sc nx i).length := by simp [ni]
      rw [HSL] at hcx0
      have hsl3 := sc_len HC.out i
      have HSC := Lib.hid (fun x (hx : x ∈ sc nx i) => sc_lt HC.out hx)
      obtain ⟨sl, hsl⟩ : ∃ sl, (sc nx i).length = sl := ⟨_, rfl⟩
      rw [hsl] at hcx0 hsl3
      have hcx := (hb.cell (p := ad.add i) hbx).trans hcx0
      have HSLE := Lib.hid hsl
      obtain ⟨V, hV⟩ : ∃ V, ws[i]? = some V := ⟨_, List.getElem?_eq_getElem (by rw [HWL.out]; exact hlt)⟩
      have HV := Lib.hid hV
      have hVl := HTB.out.lt i V hV
      have HEG0 := Lib.hid (HEG.out.congr (Q' := EdR nx i 0) fun a f _ => EdR.zero)
      obtain ⟨wi, rfl⟩ : ∃ wi : World, wi = wr := ⟨_, rfl⟩
      clear hV hdx HSL hsl hcx0
      go_wp2
      go_loopw [32] (fun z wr => ∃ (c : Nat) (eg2 : List Nat), c ≤ sl ∧ z = .int .i64 c ∧ EgI nx eg2 (EdR nx i c) ∧ Own wr wo.heap.size 23 (uv eg2) ∧ Below wo.heap.size wo wr) (fun z _ => sl - (intOf z).toNat)
      case atStart => exact ⟨0, eg, Nat.zero_le _, rfl, HEG0.out, hown, hb⟩
      case round =>
        obtain ⟨c, eg2, hc2, rfl, heg2, hown2, hb2⟩ := hrel
        have HEG2 := Lib.hid heg2
        clear heg2
        by_cases hct : c < sl
        · obtain ⟨t, htc⟩ : ∃ t, (sc nx i)[c]? = some t := ⟨_, List.getElem?_eq_getElem (by rw [HSLE.out]; exact hct)⟩
          have htl := HSC.out t (List.mem_of_getElem? htc)
          rw [HL.out] at htl
          obtain ⟨ar, t', rfl, hbr, hdt, hct2⟩ := (hrow.below hb2 (Nat.le_refl _)).at_ (k := c) (by simp [ni]; rw [HSLE.out]; exact hct)
          rw [ni_at htc] at hdt
          injection hdt with hdt
          subst hdt
          obtain ⟨T, hT⟩ : ∃ T, ws[t]? = some T := ⟨_, List.getElem?_eq_getElem (by rw [HWL.out]; exact htl)⟩
          have hTl := HTB.out.lt t T hT
          have HT := Lib.hid hT
          have HTC := Lib.hid htc
          have HEGA := Lib.hid (HEG2.out.congr (Q' := EdS nx i c t 0) fun a f _ => EdS.zero)
          have HEX := Lib.hid (fun a => HTB.out.exit (a := a) HV.out HT.out)
          obtain ⟨wj, rfl⟩ : ∃ wj : World, wj = wr := ⟨_, rfl⟩
          clear hT htc
          go_wp2
          go_loopw [38] (fun z wr => ∃ (a : Nat) (eg3 : List Nat), a ≤ len ∧ z = .int .i64 a ∧ EgI nx eg3 (EdS nx i c t a) ∧ Own wr wo.heap.size 23 (uv eg3) ∧ Below wo.heap.size wo wr) (fun z _ => len - (intOf z).toNat)
          case atStart => exact ⟨0, eg2, Nat.zero_le _, rfl, HEGA.out, hown2, hb2⟩
          case round =>
            obtain ⟨a, eg3, ha, rfl, heg3, hown3, hb3⟩ := hrel
            have HEG3 := Lib.hid heg3
            clear heg3
            by_cases hat : a < len
            · have hrd3 := hrd.below hb3 (Nat.le_refl _)
              obtain ⟨aw, V', rfl, hbw, hdV, hcV⟩ := hrd3.at_ (k := i) (by rw [HWL.out]; exact hlt)
              rw [HV.out] at hdV
              injection hdV with hdV
              subst hdV
              obtain ⟨aw', T', haw, hbw', hdT, hcT⟩ := hrd3.at_ (k := t) (by rw [HWL.out]; exact htl)
              injection haw with haw
              subst haw
              rw [HT.out] at hdT
              injection hdT with hdT
              subst hdT
              have ha32 : a < 32 := by omega
              have ht32 : t < 32 := by omega
              have ht8 : t < 8 := by omega
              have hV32 : V < 4294967296 := by omega
              have hT32 : T < 4294967296 := by omega
              have hex := HEX.out a
              obtain ⟨ba, hba⟩ : ∃ b, V.testBit a = b := ⟨_, rfl⟩
              obtain ⟨bt, hbt⟩ : ∃ b, T.testBit a = b := ⟨_, rfl⟩
              rw [hba, hbt] at hex
              have HBA := Lib.hid hba
              have HBT := Lib.hid hbt
              obtain ⟨x0, hx0⟩ : ∃ x0, eg3[a]? = some x0 := ⟨_, List.getElem?_eq_getElem (by rw [HEG3.out.len, HL.out]; exact hat)⟩
              have hx0l := HEG3.out.lt a x0 hx0
              have hcq := hown3.cell (uv_at hx0)
              have hfq := hown3.frozen a
              have hor : bits .or .u32 ((x0 : Nat) : Int) ((2 : Int) ^ t % 4294967296) = ((x0 ||| 2 ^ t : Nat) : Int) := by rw [pow_u32' ht32]; exact u32_or_nat _ _ (by omega) (pow_lt_32 ht32)
              have HOR := Lib.hid hor
              have HADD := Lib.hid (HEG3.out.add hx0 ht8)
              have HOW := Lib.hid (OwnU.set hown3 a (x0 ||| 2 ^ t))
              clear hba hbt hx0 hor
              by_cases hgo : ExitP nx a i t
              · have HN := Lib.hid (HADD.out.congr (Q' := EdS nx i c t (a + 1)) fun x f _ => EdS.more hgo)
                have hh := hex.1 hgo
                obtain ⟨rfl, hor2⟩ := hh
                clear hex hgo
                by_cases hat2 : a = t
                · subst hat2
                  clear hor2
                  go_wp2_with (go_at_call 40; (with_reducible refine (wayHas_any V a _ hV32 ha32).mono ?_); rw [HBA.out]; rintro e w5 ⟨rfl, rfl⟩)
                  go_region
                  all_goals
                    go_wp2
                    go_round
                    case rel => exact ⟨a + 1, eg3.set a (x0 ||| 2 ^ a), by omega, by go_num, HN.out, by rw [HOR.out]; exact HOW.out, (hb3.setCell (show wo.heap.size ≤ (⟨wo.heap.size, a, none⟩ : Addr).block from Nat.le_refl _) _).drew⟩
                    case measure => (simp [intOf]; omega)
                · have hbt0 := hor2.resolve_left hat2
                  subst hbt0
                  have hne : ((a : Int) == (t : Int)) = false := by simp; omega
                  clear hor2 hat2
                  go_wp2_with (first
                    | (go_at_call 40; (with_reducible refine (wayHas_any V a _ hV32 ha32).mono ?_); rw [HBA.out]; rintro e w5 ⟨rfl, rfl⟩)
                    | (go_at_call 40; (with_reducible refine (wayHas_any T a _ hT32 ha32).mono ?_); rw [HBT.out]; rintro e w5 ⟨rfl, rfl⟩))
                  go_region
                  all_goals
                    go_wp2
                    go_round
                    case rel => exact ⟨a + 1, eg3.set a (x0 ||| 2 ^ t), by omega, by go_num, HN.out, by rw [HOR.out]; exact HOW.out, (hb3.setCell (show wo.heap.size ≤ (⟨wo.heap.size, a, none⟩ : Addr).block from Nat.le_refl _) _).drew⟩
                    case measure => (simp [intOf]; omega)
              · have HN := Lib.hid (HEG3.out.congr (Q' := EdS nx i c t (a + 1)) fun x f _ => EdS.skip hgo)
                have hh : ba = false ∨ (ba = true ∧ a ≠ t ∧ bt = true) := by
                  cases ba with
                  | false => exact .inl rfl
                  | true =>
                    right
                    refine ⟨rfl, fun e => hgo (hex.2 ⟨rfl, .inl e⟩), ?_⟩
                    cases bt with
                    | true => rfl
                    | false => exact absurd (hex.2 ⟨rfl, .inr rfl⟩) hgo
                clear hex hgo HADD HOW HOR
                rcases hh with rfl | ⟨rfl, hat2, rfl⟩
                · go_wp2_with (go_at_call 40; (with_reducible refine (wayHas_any V a _ hV32 ha32).mono ?_); rw [HBA.out]; rintro e w5 ⟨rfl, rfl⟩)
                  go_round
                  case rel => exact ⟨a + 1, eg3, by omega, by go_num, HN.out, hown3, hb3⟩
                  case measure => (simp [intOf]; omega)
                · have hne : ((a : Int) == (t : Int)) = false := by simp; omega
                  clear hat2
                  go_wp2_with (first
                    | (go_at_call 40; (with_reducible refine (wayHas_any V a _ hV32 ha32).mono ?_); rw [HBA.out]; rintro e w5 ⟨rfl, rfl⟩)
                    | (go_at_call 40; (with_reducible refine (wayHas_any T a _ hT32 ha32).mono ?_); rw [HBT.out]; rintro e w5 ⟨rfl, rfl⟩))
                  go_round
                  case rel => exact ⟨a + 1, eg3, by omega, by go_num, HN.out, hown3, hb3⟩
                  case measure => (simp [intOf]; omega)
            · have hal : len ≤ a := by omega
              have HN := Lib.hid (HEG3.out.congr (Q' := EdR nx i (c + 1)) fun x f hx => EdS.done HTC.out (by rw [HL.out] at hx; omega))
              clear hal
              go_wp2
              go_round
              case rel => exact ⟨c + 1, eg3, by omega, by go_num, HN.out, hown3, hb3⟩
              case measure => (simp [intOf]; omega)
        · have hcl2 : (sc nx i).length ≤ c := by rw [HSLE.out]; omega
          have HN := Lib.hid (HEG2.out.congr (Q' := EdQ nx (i + 1)) fun x f _ => EdR.done hcl2)
          clear hcl2
          go_wp2
          go_round
          case rel => exact ⟨i + 1, eg2, by omega, by go_num, HN.out, hown2, hb2⟩
          case measure => (simp [intOf]; omega)
    · have hil : i = len := by omega
      have hE : EgI nx eg (EdgeP nx) := HEND.out eg (by rw [← hil]; exact HEG.out)
      have HE : Hid (Edg nx eg) := Lib.hid ⟨hE.len, hE.lt, hE.mem⟩
      have HRD := Lib.hid ((OwnU.rd hown).more hown.lt)
      clear hil hE hown
      go_wp2
      go_ret2
      exact ⟨eg, _, _, HE.out, rfl, HRD.out, hb1.trans (hb.mono hs1)⟩

theorem ruleEdge_bad (A : Option Addr) (len cap : Nat) (nx : List (List Int)) (w : World) (hx : RdG w w.heap.size A nx) (hl : nx.length = len) (hm : len ≤ maxLen) (hc : ckWay nx ≠ 0) :
    Calls Try.prog 31 #[.slice A len cap] w fun e w' => ∃ A' c', e = .returned (.tuple #[.slice A' 0 c', .int .i64 (ckWay nx)]) ∧ Below w.heap.size w w' := by
  have HC := Lib.hid hc
  have hne : (ckWay nx != 0) = true := by simp [hc]
  clear hc
  go_enter Try.func31, Try.ntmps31
  go_wp2_with fail
  refine (ruleTable_bad A len cap nx _ hx hl hm HC.out).mono ?_
  rintro e w1 ⟨A1, c1, rfl, hb1⟩
  go_wp2
  go_ret2
  exact ⟨none, 0, rfl, hb1⟩

end Go.Proofs.Ytpbajalecfaibaa
