/-
  way.Parts (E2): the strongly connected components.
-/
import Derived.Test.YtpbajalecfaibaaWayFin
import Derived.Test.YtpbajalecfaibaaWayCheck
namespace Go.Proofs.Ytpbajalecfaibaa
open Go.RowKit
set_option linter.unusedSimpArgs false
set_option linter.unusedVariables false
set_option maxRecDepth 100000

/-- words as values -/
def uv (ws : List Nat) : List Value := ws.map fun x => .int .u32 ((x : Nat) : Int)

theorem uv_at {ws : List Nat} {j x : Nat} (h : ws[j]? = some x) : (uv ws)[j]? = some (.int .u32 ((x : Nat) : Int)) := by simp [uv, h]

theorem uv_set (ws : List Nat) (i x : Nat) : (uv ws).set i (.int .u32 ((x : Nat) : Int)) = uv (ws.set i x) := by simp [uv, List.map_set]

theorem OwnU.rd {w : World} {g : Nat} {t : TypeId} {ws : List Nat} (h : Own w g t (uv ws)) : RdU w (g + 1) (some ⟨g, 0, none⟩) ws := fun _ =>
  ⟨⟨g, 0, none⟩, rfl, Nat.lt_succ_self _, fun j hj => by
    have hc := h.cell (j := j) (uv_at (List.getElem?_eq_getElem hj))
    have ha : (⟨g, 0, none⟩ : Addr).add j = ⟨g, j, none⟩ := by unfold Addr.add; split <;> simp_all
    rw [ha, hc]
    simp [hj]⟩

theorem make_words {P : Program} (t e : TypeId) (ht : P.underlying t = some (.slice e)) (hi : (P.info? e).map (fun i => (i.zero, i.size, i.bytes)) = some (some (.int .u32 0), 1, 4)) (n : Nat) (hn : n ≤ 65536) (w : World) :
    (Instr.makeSlice t (.int .i64 (n : Int)) (.int .i64 (n : Int))).run P w = .ok (.slice (some ⟨w.heap.size, 0, none⟩) n n) (w.alloc (.cells (uv (List.replicate n 0)).toArray e)) := by
  obtain ⟨i0, hi0, hz, hs, hb⟩ := info_parts hi
  have h := run_make (P := P) w t e i0 _ ht hi0 hz .i64 .i64 (n : Int) (n : Int) (by omega) (by omega) (by rw [hb]; omega) (by omega)
  simp only [Int.toNat_natCast, hs, Nat.mul_one] at h
  rw [h]
  have hm : madeCells (Value.int .u32 0).cells n = (uv (List.replicate n 0)).toArray := by
    apply Array.ext
    · simp [madeCells, uv]
    · intro j h1 h2
      simp [madeCells, uv, Value.cells, Nat.mod_one]
  rw [hm]

/-- there and back -/
def boB (nx : List (List Int)) (i j : Nat) : Bool := decide (j ∈ fiL nx i) && decide (i ∈ fiL nx j)

/-- of those below n -/
def boR (nx : List (List Int)) (i n : Nat) : List Nat := (List.range n).filter (boB nx i)

theorem boR_succ (nx : List (List Int)) (i n : Nat) : boR nx i (n + 1) = if boB nx i n = true then boR nx i n ++ [n] else boR nx i n := by
  unfold boR
  rw [List.range_succ, List.filter_append]
  by_cases h : boB nx i n = true
  · rw [if_pos h]; simp [h]
  · rw [if_neg h]; simp [h]

theorem boR_lt {nx : List (List Int)} {i n x : Nat} (h : x ∈ boR nx i n) : x < n := List.mem_range.1 (List.mem_filter.1 h).1

theorem boR_mem {nx : List (List Int)} (hc : ckWay nx = 0) {i j : Nat} (hi : i < nx.length) : j ∈ boR nx i nx.length ↔ Both nx i j := by
  unfold boR boB
  rw [List.mem_filter, List.mem_range, Bool.and_eq_true, decide_eq_true_eq, decide_eq_true_eq]
  constructor
  · rintro ⟨h1, h2, h3⟩
    exact ⟨(fi_mem hc hi).1 h2, (fi_mem hc h1).1 h3⟩
  · rintro ⟨h1, h2⟩
    have hj := h1.lt hc hi
    exact ⟨hj, (fi_mem hc hi).2 h1, (fi_mem hc hj).2 h2⟩

theorem Pts.of {nx : List (List Int)} (hc : ckWay nx = 0) {ps : List Nat} (hl : ps.length = nx.length) (h : ∀ r, r < nx.length → ps[r]? = some (setW (boR nx r nx.length))) : Pts nx ps := by
  refine ⟨hl, fun i W hW => ?_, fun i W hW j => ?_⟩
  · have hi : i < nx.length := by rw [← hl]; exact (List.getElem?_eq_some_iff.1 hW).1
    rw [h i hi] at hW
    injection hW with hW
    rw [← hW]
    exact setW_lt fun x hx => boR_lt hx
  · have hi : i < nx.length := by rw [← hl]; exact (List.getElem?_eq_some_iff.1 hW).1
    rw [h i hi] at hW
    injection hW with hW
    rw [← hW, setW_bit, boR_mem hc hi]

theorem setW_u32 {hs : List Nat} {n : Nat} (h : ∀ x ∈ hs, x < n) (hn : n ≤ 32) : setW hs < 4294967296 := by
  have := setW_lt (n := 32) (hs := hs) (fun x hx => by have := h x hx; omega)
  simpa using this

set_option maxHeartbeats 4000000 in
theorem wayParts_any (A : Option Addr) (len cap : Nat) (nx : List (List Int)) (w : World) (hx : RdG w w.heap.size A nx) (hl : nx.length = len) (hc : ckWay nx = 0) :
    Calls Try.prog 27 #[.slice A len cap] w fun e w' => ∃ ws A' c', Pts nx ws ∧ e = .returned (.tuple #[.slice A' len c', .int .i64 0]) ∧ RdU w' w'.heap.size A' ws ∧ Below w.heap.size w w' := by
  obtain ⟨b1, b2, b3⟩ := ckWay_bd hc
  have HC := Lib.hid hc
  have HL := Lib.hid hl
  have HPT := Lib.hid (fun ps => Pts.of hc (ps := ps))
  have HFL := Lib.hid (fun i (hi : i < nx.length) => fi_len hc hi)
  have HFT := Lib.hid (fun i (hi : i < nx.length) x (hx : x ∈ fiL nx i) => fi_lt hc hi hx)
  rw [hl] at b1 b2
  have hmm : len ≤ maxLen := by unfold maxLen; omega
  have hmk := make_words (P := Try.prog) 34 23 Try.underlying34 (by kernel_rfl) len (by omega)
  clear hl hc b3
  go_enter Try.func27, Try.ntmps27
  go_wp2_with fail
  refine (wayCheck_any A len cap nx _ hx HL.out hmm).mono ?_
  rintro e w1 ⟨rfl, hb1⟩
  rw [HC.out]
  have hx1 := (hx.below hb1 (Nat.le_refl _)).more hb1.size
  have hs1 := hb1.size
  go_wp2
  have hown1 := Own.new w1 23 (uv (List.replicate len 0))
  go_loopw [20] (fun z wr => ∃ (k : Nat) (aw : List Nat), k ≤ len ∧ z = .int .i64 k ∧ aw.length = len ∧ (∀ r, r < k → aw[r]? = some (setW (fiL nx r))) ∧ Own wr w1.heap.size 23 (uv aw) ∧ Below w1.heap.size w1 wr) (fun z _ => len - (intOf z).toNat)
  case atStart => exact ⟨0, _, Nat.zero_le _, rfl, by simp, fun r hr => by omega, hown1, by go_grown⟩
  case round =>
    obtain ⟨k, aw, hk, rfl, hal, haw, hown, hb⟩ := hrel
    have HAL := Lib.hid hal
    have HAW := Lib.hid haw
    have hsz := hb.size
    clear hal haw
    by_cases hlt : k < len
    · have hxr := (hx1.below hb (Nat.le_refl _)).more hsz
      have hkn : k < nx.length := by rw [HL.out]; exact hlt
      have hfl := HFL.out k hkn
      have hft := HFT.out k hkn
      rw [HL.out] at hfl hft
      have hgl := hown.lt
      go_wp2_with fail
      refine (wayFin_any A len cap nx k _ hxr HL.out HC.out hlt).mono ?_
      rintro e w2 ⟨A2, c2, rfl, hr2, hb2⟩
      have hown2 := hown.below hb2 hgl
      have hf2 := hown2.frozen k
      have hrd := own_rdI hr2 (by simp [ni])
      have hcl := hown2.cell (j := k) (uv_at (List.getElem?_eq_getElem (by rw [HAL.out]; exact hlt)))
      go_wp2_with fail
      refine (waySetOf_any A2 _ c2 (fiL nx k) _ _ hrd rfl (fun x hx => by have := hft x hx; omega) (by omega)).mono ?_
      rintro e w3 ⟨rfl, rfl⟩
      obtain ⟨m, hm⟩ : ∃ m, (fiL nx k).length = m := ⟨_, rfl⟩
      rw [hm]
      obtain ⟨sw, hsw⟩ : ∃ m, setW (fiL nx k) = m := ⟨_, rfl⟩
      rw [hsw]
      have HSW := Lib.hid hsw
      clear hm hsw
      go_wp2
      go_round
      case rel =>
        refine ⟨k + 1, aw.set k sw, by omega, by go_num, by rw [List.length_set]; exact HAL.out, fun r hr => ?_, ?_, ?_⟩
        · by_cases e : r = k
          · subst e
            rw [List.getElem?_set_self (by rw [HAL.out]; exact hlt), HSW.out]
          · rw [List.getElem?_set_ne (fun h => e h.symm)]
            exact HAW.out r (by omega)
        · have := hown2.set k (.int .u32 ((sw : Nat) : Int))
          rw [uv_set] at this
          exact this
        · exact (hb.trans (hb2.mono hsz)).setCell (Nat.le_refl _) _
      case measure => (simp [intOf]; omega)
    · have hkl : len = k := by omega
      subst hkl
      have hgl := hown.lt
      obtain ⟨wo, rfl⟩ : ∃ wo : World, wo = wr := ⟨_, rfl⟩
      have hbw : Below w.heap.size w wo := hb1.trans (hb.mono hs1)
      have hswo := hbw.size
      have hown2 := Own.new wo 23 (uv (List.replicate len 0))
      have hown1' := hown.alloc (.cells (uv (List.replicate len 0)).toArray 23)
      have HAT : Hid (∀ r, r < len → (uv aw)[r]? = some (.int .u32 ((setW (fiL nx r) : Nat) : Int))) := Lib.hid fun r hr => uv_at (HAW.out r hr)
      have HSL : Hid (∀ r, r < len → setW (fiL nx r) < 4294967296) := Lib.hid fun r hr => setW_u32 (n := len) (fun x hx => by have := HFT.out r (by rw [HL.out]; exact hr) x hx; rw [HL.out] at this; exact this) (by omega)
      have HST0 := Lib.hid (boR_succ nx)
      go_wp2
      go_loopw [36] (fun z wr => ∃ (i : Nat) (ps : List Nat), i ≤ len ∧ z = .int .i64 i ∧ ps.length = len ∧ (∀ r, r < i → ps[r]? = some (setW (boR nx r len))) ∧ (∀ r, i ≤ r → r < len → ps[r]? = some 0) ∧ Own wr wo.heap.size 23 (uv ps) ∧ Own wr w1.heap.size 23 (uv aw) ∧ Below wo.heap.size wo wr) (fun z _ => len - (intOf z).toNat)
      case atStart => exact ⟨0, _, Nat.zero_le _, rfl, by simp, fun r hr => by omega, fun r _ hr => by simp [hr], hown2, hown1', by go_grown⟩
      case round =>
        obtain ⟨i, ps, hi, rfl, hpl, hps, hpn, hownp, howna, hb2⟩ := hrel
        have HPL := Lib.hid hpl
        have HPS := Lib.hid hps
        have HPN := Lib.hid hpn
        have hsz2 := hb2.size
        clear hpl hps hpn
        by_cases hit : i < len
        · have hset : ps.set i 0 = ps := by
            apply List.ext_getElem?
            intro r
            rw [List.getElem?_set]
            split
            · rename_i e
              subst e
              split
              · exact (HPN.out i (Nat.le_refl _) hit).symm
              · rename_i h; exact absurd (by rw [HPL.out]; exact hit) h
            · rfl
          have HSET := Lib.hid hset
          clear hset
          obtain ⟨wi, rfl⟩ : ∃ wi : World, wi = wr := ⟨_, rfl⟩
          go_wp2
          go_loopw [41] (fun z wr => ∃ (j : Nat), j ≤ len ∧ z = .int .i64 j ∧ Own wr wo.heap.size 23 (uv (ps.set i (setW (boR nx i j)))) ∧ Own wr w1.heap.size 23 (uv aw) ∧ Below wo.heap.size wo wr) (fun z _ => len - (intOf z).toNat)
          case atStart => exact ⟨0, Nat.zero_le _, rfl, by show Own wi wo.heap.size 23 (uv (ps.set i 0)); rw [HSET.out]; exact hownp, howna, hb2⟩
          case round =>
            obtain ⟨j, hj, rfl, hownq, howna2, hb3⟩ := hrel
            by_cases hjt : j < len
            · have hca := howna2.cell (HAT.out i hit)
              have hcb := howna2.cell (HAT.out j hjt)
              have hla := HSL.out i hit
              have hlb := HSL.out j hjt
              have hcq := hownq.cell (j := i) (uv_at (List.getElem?_set_self (by rw [HPL.out]; exact hit)))
              have hfq := hownq.frozen i
              have hi32 : i < 32 := by omega
              have hj32 : j < 32 := by omega
              have hlq : setW (boR nx i j) < 4294967296 := setW_u32 (fun x hx => boR_lt hx) (by omega)
              have hba : (setW (fiL nx i)).testBit j = decide (j ∈ fiL nx i) := setW_bits
              have hbb : (setW (fiL nx j)).testBit i = decide (i ∈ fiL nx j) := setW_bits
              have hst := HST0.out i j
              have hbo : boB nx i j = (decide (j ∈ fiL nx i) && decide (i ∈ fiL nx j)) := rfl
              generalize setW (fiL nx i) = sa at *
              generalize setW (fiL nx j) = sb at *
              by_cases h1 : j ∈ fiL nx i
              · rw [decide_eq_true h1] at hba hbo
                by_cases h2 : i ∈ fiL nx j
                · rw [decide_eq_true h2] at hbb hbo
                  rw [if_pos (by rw [hbo]; rfl)] at hst
                  have hsw : setW (boR nx i (j + 1)) = setW (boR nx i j) ||| 2 ^ j := by rw [hst, setW_snoc]
                  have hor : bits .or .u32 ((setW (boR nx i j) : Nat) : Int) ((2 : Int) ^ j % 4294967296) = ((setW (boR nx i j) ||| 2 ^ j : Nat) : Int) := by rw [pow_u32' hj32]; exact u32_or_nat _ _ hlq (pow_lt_32 hj32)
                  have HOR := Lib.hid hor
                  have HSW := Lib.hid hsw
                  clear hor hsw hst hbo h1 h2
                  generalize setW (boR nx i j) = pw at *
                  go_wp2_with (first
                    | (go_at_call 40; (with_reducible refine (wayHas_any sa j _ hla hj32).mono ?_); rw [hba]; rintro e w5 ⟨rfl, rfl⟩)
                    | (go_at_call 40; (with_reducible refine (wayHas_any sb i _ hlb hi32).mono ?_); rw [hbb]; rintro e w5 ⟨rfl, rfl⟩))
                  go_region
                  go_wp2
                  go_round
                  case rel =>
                    refine ⟨j + 1, by omega, by go_num, ?_, ?_, ?_⟩
                    · rw [HSW.out, HOR.out]
                      have := hownq.set i (.int .u32 ((pw ||| 2 ^ j : Nat) : Int))
                      rw [uv_set, List.set_set] at this
                      exact this.drew
                    · exact (howna2.far (show w1.heap.size ≠ (⟨wo.heap.size, i, none⟩ : Addr).block from Nat.ne_of_lt hgl) _).drew
                    · exact (hb3.setCell (Nat.le_refl _) _).drew
                  case measure => (simp [intOf]; omega)
                · rw [decide_eq_false h2] at hbb hbo
                  rw [if_neg (by rw [hbo]; simp)] at hst
                  have HST := Lib.hid hst
                  clear hst hbo h1 h2
                  go_wp2_with (first
                    | (go_at_call 40; (with_reducible refine (wayHas_any sa j _ hla hj32).mono ?_); rw [hba]; rintro e w5 ⟨rfl, rfl⟩)
                    | (go_at_call 40; (with_reducible refine (wayHas_any sb i _ hlb hi32).mono ?_); rw [hbb]; rintro e w5 ⟨rfl, rfl⟩))
                  go_round
                  case rel => exact ⟨j + 1, by omega, by go_num, by rw [HST.out]; exact hownq, howna2, hb3⟩
                  case measure => (simp [intOf]; omega)
              · rw [decide_eq_false h1] at hba hbo
                rw [if_neg (by rw [hbo]; simp)] at hst
                have HST := Lib.hid hst
                clear hst hbo h1
                go_wp2_with (go_at_call 40; (with_reducible refine (wayHas_any sa j _ hla hj32).mono ?_); rw [hba]; rintro e w5 ⟨rfl, rfl⟩)
                go_round
                case rel => exact ⟨j + 1, by omega, by go_num, by rw [HST.out]; exact hownq, howna2, hb3⟩
                case measure => (simp [intOf]; omega)
            · have hjl : j = len := by omega
              have HJL := Lib.hid hjl
              rw [hjl] at hownq
              show Code.wp _ _ _ _ _
              clear hjl
              go_wp2
              go_round
              case rel =>
                refine ⟨i + 1, _, by omega, by go_num, by rw [List.length_set]; exact HPL.out, fun r hr => ?_, fun r h1 h2 => ?_, hownq, howna2, hb3⟩
                · by_cases e : r = i
                  · subst e
                    rw [List.getElem?_set_self (by rw [HPL.out]; exact hit)]
                  · rw [List.getElem?_set_ne (fun h => e h.symm)]
                    exact HPS.out r (by omega)
                · rw [List.getElem?_set_ne (by omega)]
                  exact HPN.out r (by omega) h2
              case measure => (simp [intOf]; omega)
        · have hil : i = len := by omega
          have HPT2 := Lib.hid (HPT.out ps (by rw [HPL.out, HL.out]) (fun r hr => by rw [HL.out] at hr ⊢; exact HPS.out r (by omega)))
          have HRU := Lib.hid ((OwnU.rd hownp).more hownp.lt)
          clear hil
          go_wp2
          go_ret2
          exact ⟨ps, _, _, HPT2.out, rfl, HRU.out, hbw.trans (hb2.mono hswo)⟩

theorem wayParts_bad (A : Option Addr) (len cap : Nat) (nx : List (List Int)) (w : World) (hx : RdG w w.heap.size A nx) (hl : nx.length = len) (hm : len ≤ maxLen) (hc : ckWay nx ≠ 0) :
    Calls Try.prog 27 #[.slice A len cap] w fun e w' => ∃ A' c', e = .returned (.tuple #[.slice A' 0 c', .int .i64 (ckWay nx)]) ∧ Below w.heap.size w w' := by
  have hne : (ckWay nx != 0) = true := by simp [hc]
  clear hc
  go_enter Try.func27, Try.ntmps27
  go_wp2_with fail
  refine (wayCheck_any A len cap nx _ hx hl hm).mono ?_
  rintro e w1 ⟨rfl, hb1⟩
  go_wp2
  go_ret2
  exact ⟨none, 0, rfl, hb1⟩

end Go.Proofs.Ytpbajalecfaibaa
