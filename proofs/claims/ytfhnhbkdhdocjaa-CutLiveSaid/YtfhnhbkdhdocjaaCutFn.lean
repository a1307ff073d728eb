/-
  cut.neededAtEnd, cut.requiredTests, cut.immediate; slices.Index over words, slices.Contains over bools (T1, T2).
-/
import Derived.Test.YtfhnhbkdhdocjaaMCut
import Derived.Test.YtfhnhbkdhdocjaaMLiveP
import Derived.Test.YtfhnhbkdhdocjaaMarks
import Derived.Test.YtfhnhbkdhdocjaaMRuleR
namespace Go.Proofs.Ytfhnhbkdhdocjaa
open Go.RowKit
set_option linter.unusedSimpArgs false
set_option linter.unusedVariables false
set_option maxRecDepth 100000

set_option maxHeartbeats 4000000 in
theorem neededAtEnd_any (n m : Nat) (Af AF : Option Addr) (fl fc flen fcap want : Nat) (b : Bk) (F : List Nat) (w : World) (hb : BkOk n m b) (hn : n ≤ 6) (hf : RdI w w.heap.size Af (nxB b)) (hfl : (nxB b).length = fl) (hF : RdU w w.heap.size AF F) (hFl : F.length = flen) (hFm : flen = m)
    (hlt : ∀ (i W : Nat), F[i]? = some W → W < 2 ^ n) (hw : want < 2 ^ n) :
    Calls Try.prog 115 #[.slice Af fl fc, .int .u32 (want : Nat), .slice AF flen fcap] w fun e w' => e = .returned (.int .u32 (edW b F want : Nat)) ∧ w' = w := by
  have h6 : 2 ^ n ≤ 2 ^ 6 := Nat.pow_le_pow_right (by omega) hn
  obtain ⟨js, hjs⟩ : ∃ js, nxB b = js := ⟨_, rfl⟩
  have h2 := nxB_len b
  have hjl : ∀ j ∈ js, 0 ≤ j ∧ j < flen := fun j hj => by have := nxB_lt hb (hjs ▸ hj); omega
  rw [hjs] at hf hfl h2
  have HFL := Lib.hid hfl
  have HFF := Lib.hid hFl
  by_cases h0 : js = []
  · have hr : edW b F want = want := by unfold edW; rw [if_pos (by rw [hjs]; exact h0)]
    have hz : fl = 0 := by rw [← hfl, h0]; rfl
    subst hz
    rw [hr]
    clear hr hjs h0 hf hF hfl
    go_enter Try.func115, Try.ntmps115
    go_wp2
    go_ret
    exact ⟨rfl, rfl⟩
  · have hpos : ((fl : Int) == 0) = false := by
      have : js.length ≠ 0 := fun e => h0 (List.eq_nil_of_length_eq_zero e)
      simp; omega
    have hor0 : ∀ k, orL F (js.take k) 0 < 2 ^ n := fun k => orL_lt hlt (Nat.two_pow_pos n)
    have HOR0 := Lib.hid hor0
    have HLT := Lib.hid hlt
    have HJL := Lib.hid hjl
    have HR : Hid (edW b F want = orL F js 0) := Lib.hid (by unfold edW; rw [hjs, if_neg h0])
    have hfl2 : fl ≤ 2 := by omega
    clear hjs hlt hjl h0 hb hor0 hfl hFl
    go_enter Try.func115, Try.ntmps115
    go_wp2
    go_loop [7, 16] (fun s z => ∃ (k X : Nat), k ≤ fl ∧ z = .int .i64 k ∧ s = .int .u32 (X : Nat) ∧ X = orL F (js.take k) 0) (fun _ z => fl - (intOf z).toNat)
    case atStart => exact ⟨0, 0, Nat.zero_le _, rfl, rfl, rfl⟩
    case round =>
      obtain ⟨k, X, hk, rfl, rfl, hX⟩ := hrel
      have hXl := HOR0.out k
      rw [← hX] at hXl
      have HX := Lib.hid hX
      clear hX
      by_cases hlt : k < fl
      · obtain ⟨adf, j, rfl, hblf, hdj, hcj⟩ := hf.at_ (k := k) (by rw [HFL.out]; exact hlt)
        obtain ⟨hj0, hj1⟩ := HJL.out j (List.mem_of_getElem? hdj)
        obtain ⟨jn, rfl⟩ := Int.eq_ofNat_of_zero_le hj0
        have hjn : jn < flen := by omega
        obtain ⟨adF, W, rfl, hblF, hdW, hcW⟩ := hF.at_ (k := jn) (by rw [HFF.out]; exact hjn)
        have hWl := HLT.out jn W hdW
        have hor : bits .or .u32 ((X : Nat) : Int) ((W : Nat) : Int) = ((X ||| W : Nat) : Int) := u32_or_nat _ _ (by omega) (by omega)
        have HOR := Lib.hid hor
        have HNX : Hid (X ||| W = orL F (js.take (k + 1)) 0) := Lib.hid (by rw [orL_take hdj, ← HX.out, Int.toNat_natCast, List.getD_eq_getElem?_getD, hdW]; rfl)
        clear hdj hdW hor
        go_wp2
        go_round
        case rel => exact ⟨k + 1, X ||| W, by omega, by go_num, by rw [HOR.out], HNX.out⟩
        case measure => (simp [intOf]; omega)
      · have hkl : js.take k = js := List.take_of_length_le (by rw [HFL.out]; omega)
        have HXJ : Hid (edW b F want = X) := Lib.hid (by rw [HR.out, HX.out, hkl])
        clear hkl
        go_wp2
        go_ret
        exact ⟨by rw [HXJ.out]; rfl, rfl⟩

set_option maxHeartbeats 1000000 in
theorem ixU_any (A : Option Addr) (n c : Nat) (L : List Nat) (x B : Nat) (w : World) (hx : RdU w B A L) (hl : L.length = n) (hm : n ≤ 65536) :
    Calls Try.prog 100 #[.slice A n c, .int .u32 (x : Nat)] w fun e w' => (∃ z : Int, e = .returned (.int .i64 z) ∧ (z = -1 ∧ x ∉ L ∨ ∃ k : Nat, z = (k : Int) ∧ L[k]? = some x)) ∧ w' = w := by
  have HL := Lib.hid hl
  clear hl
  go_enter Try.func100, Try.ntmps100
  go_wp2
  go_loop [8] (fun i => ∃ k : Nat, k ≤ n ∧ i = .int .i64 k ∧ x ∉ L.take k) (fun i => n - (intOf i).toNat)
  case atStart => exact ⟨0, Nat.zero_le _, rfl, by simp⟩
  case round =>
    obtain ⟨k, hk, rfl, hno⟩ := hrel
    have HNO := Lib.hid hno
    clear hno
    by_cases hlt : k < n
    · obtain ⟨ad, y, rfl, hbl, hy, hcell⟩ := hx.at_ (k := k) (by rw [HL.out]; exact hlt)
      have HY := Lib.hid hy
      clear hy
      by_cases hxy : x = y
      · subst hxy
        go_wp2
        go_ret
        exact ⟨⟨_, rfl, .inr ⟨k, rfl, HY.out⟩⟩, rfl⟩
      · have hb : ((x : Int) == (y : Int)) = false := by simp; omega
        have HXY := Lib.hid hxy
        clear hxy
        go_wp2
        go_round
        case rel =>
          refine ⟨k + 1, by omega, by go_num, fun h => ?_⟩
          rw [List.take_add_one, HY.out, Option.toList_some, List.mem_append] at h
          rcases h with h | h
          · exact HNO.out h
          · exact HXY.out (by simpa using h)
        case measure => (simp [intOf]; omega)
    · go_wp2
      go_ret
      have h := HNO.out
      rw [List.take_of_length_le (by rw [HL.out]; omega)] at h
      exact ⟨⟨_, rfl, .inl ⟨rfl, h⟩⟩, rfl⟩

set_option maxHeartbeats 1000000 in
theorem ixBo_any (A : Option Addr) (n c : Nat) (L : List Bool) (B : Nat) (w : World) (hx : RdBo w B A L) (hl : L.length = n) (hm : n ≤ 65536) :
    Calls Try.prog 125 #[.slice A n c, .bool true] w fun e w' => (∃ z : Int, e = .returned (.int .i64 z) ∧ (z = -1 ∧ true ∉ L ∨ 0 ≤ z ∧ true ∈ L)) ∧ w' = w := by
  have HL := Lib.hid hl
  clear hl
  go_enter Try.func125, Try.ntmps125
  go_wp2
  go_loop [8] (fun i => ∃ k : Nat, k ≤ n ∧ i = .int .i64 k ∧ true ∉ L.take k) (fun i => n - (intOf i).toNat)
  case atStart => exact ⟨0, Nat.zero_le _, rfl, by simp⟩
  case round =>
    obtain ⟨k, hk, rfl, hno⟩ := hrel
    have HNO := Lib.hid hno
    clear hno
    by_cases hlt : k < n
    · obtain ⟨ad, y, rfl, hbl, hy, hcell⟩ := hx.at_ (k := k) (by rw [HL.out]; exact hlt)
      have HY := Lib.hid hy
      clear hy
      cases y with
      | true =>
        go_wp2
        go_ret
        exact ⟨⟨_, rfl, .inr ⟨by omega, List.mem_of_getElem? HY.out⟩⟩, rfl⟩
      | false =>
        go_wp2
        go_round
        case rel =>
          refine ⟨k + 1, by omega, by go_num, fun h => ?_⟩
          rw [List.take_add_one, HY.out, Option.toList_some, List.mem_append] at h
          rcases h with h | h
          · exact HNO.out h
          · simp at h
        case measure => (simp [intOf]; omega)
    · go_wp2
      go_ret
      have h := HNO.out
      rw [List.take_of_length_le (by rw [HL.out]; omega)] at h
      exact ⟨⟨_, rfl, .inl ⟨rfl, h⟩⟩, rfl⟩

set_option maxHeartbeats 1000000 in
theorem hasBo_any (A : Option Addr) (n c : Nat) (L : List Bool) (B : Nat) (w : World) (hx : RdBo w B A L) (hl : L.length = n) (hm : n ≤ 65536) :
    Calls Try.prog 117 #[.slice A n c, .bool true] w fun e w' => e = .returned (.bool (decide (true ∈ L))) ∧ w' = w := by
  have HI := Lib.hid (ixBo_any A n c L B w hx hl hm)
  clear hx hl
  go_enter Try.func117, Try.ntmps117
  go_wp2_with fail
  refine HI.out.mono ?_
  rintro e w1 ⟨⟨z, rfl, hz⟩, rfl⟩
  rcases hz with ⟨rfl, hn⟩ | ⟨h0, hy⟩
  · have HN := Lib.hid hn
    clear hn
    go_wp2
    go_ret
    exact ⟨ret_bool (by simp [HN.out]), rfl⟩
  · have HN := Lib.hid hy
    clear hy
    go_wp2
    go_ret
    exact ⟨ret_bool (by simp [HN.out, h0]), rfl⟩

/-- who comes for sure, but for the node itself -/
theorem lst_others {nx : List (List Int)} {ws : List Nat} {i W O : Nat} (h : Lst nx ws) (h8 : nx.length ≤ 8) (hi : i < nx.length) (hW : ws[i]? = some W) (hO : W &&& (4294967295 - 2 ^ i) = O) (k : Nat) : O.testBit k = true ↔ k ≠ i ∧ SureP nx i k := by
  have hp : 2 ^ i < 2 ^ 32 := Nat.pow_lt_pow_right (by omega) (by omega)
  have hW8 := h.lt i W hW
  have hk : W.testBit k = true → k < 32 := fun e => by
    rcases Nat.lt_or_ge k 32 with h1 | h1
    · exact h1
    · exfalso
      rw [Nat.testBit_lt_two_pow (Nat.lt_of_lt_of_le hW8 (Nat.pow_le_pow_right (by omega) (by omega)))] at e
      cases e
  rw [← hO, Nat.testBit_and, Bool.and_eq_true, show 4294967295 - 2 ^ i = 2 ^ 32 - (2 ^ i + 1) by omega, Nat.testBit_two_pow_sub_succ hp, Bool.and_eq_true, decide_eq_true_eq, Nat.testBit_two_pow, Bool.not_eq_true', decide_eq_false_iff_not, h.mem i W hW]
  exact ⟨fun ⟨a, _, b⟩ => ⟨fun e => b e.symm, a⟩, fun ⟨a, b⟩ => ⟨b, hk ((h.mem i W hW k).2 b), fun e => a e.symm⟩⟩

theorem andNot_powC {L t : Nat} (hL : L < 4294967296) (ht : t < 32) : bits .andNot .u32 ((L : Nat) : Int) ((2 : Int) ^ t % 4294967296) = ((L &&& (4294967295 - 2 ^ t) : Nat) : Int) := by
  rw [pow_u32' ht]
  exact u32_andNot_nat _ _ hL (pow_lt_32 ht)

set_option maxHeartbeats 4000000 in
theorem immediate_any (A : Option Addr) (len cap i : Nat) (nx : List (List Int)) (ws : List Nat) (w : World) (hx : RdU w w.heap.size A ws) (hl : nx.length = len) (hc : ckWay nx = 0) (hL : Lst nx ws) (hi : i < len) :
    Calls Try.prog 77 #[.slice A len cap, .int .i64 (i : Nat)] w fun e w' => (∃ z : Int, e = .returned (.int .i64 z) ∧ ((z = -1 ∧ ∀ j, ¬ IpdP nx i j) ∨ ∃ j : Nat, z = (j : Int) ∧ IpdP nx i j)) ∧ Below w.heap.size w w' := by
  obtain ⟨b1, b2, _⟩ := ckWay_bd hc
  rw [hl] at b1 b2
  have hwl : ws.length = len := by rw [hL.len, hl]
  obtain ⟨W, hW⟩ : ∃ W, ws[i]? = some W := ⟨_, List.getElem?_eq_getElem (by rw [hwl]; exact hi)⟩
  have hW8 := hL.lt i W hW
  have hp8 : 2 ^ nx.length ≤ 2 ^ 8 := Nat.pow_le_pow_right (by omega) (by omega)
  obtain ⟨O, hO⟩ : ∃ O, W &&& (4294967295 - 2 ^ i) = O := ⟨_, rfl⟩
  have hbit := lst_others hL (by omega) (by omega) hW hO
  have hand := andNot_powC (L := W) (t := i) (by omega) (by omega)
  rw [hO] at hand
  have HAND := Lib.hid hand
  obtain ⟨ad, W', rfl, hbl, hdW, hcW⟩ := hx.at_ (k := i) (by rw [hwl]; exact hi)
  rw [hW] at hdW
  injection hdW with hdW
  subst hdW
  have hi32 : i < 32 := by omega
  have HIX := Lib.hid (fun (q : Nat) => ixU_any (some ad) len cap ws O w.heap.size (w.drewN q) (RdU.below hx (below_drewL (Below.refl _ w) q) (Nat.le_refl _)) hwl (by omega))
  by_cases h0 : O = 0
  · have HNO : Hid (∀ j, ¬ IpdP nx i j) := Lib.hid fun j hj => by
      have := (hbit j).2 ⟨hj.1, hj.2.1⟩
      rw [h0] at this
      simp at this
    subst h0
    clear hbit hand hO hW hL hc hl hwl hp8 hW8 hx
    go_enter Try.func77, Try.ntmps77
    go_wp2
    go_quiet (fail)
    rw [HAND.out]
    go_wp2
    go_ret
    exact ⟨⟨-1, rfl, .inl ⟨rfl, HNO.out⟩⟩, below_drewL (by go_grown) _⟩
  · have HO0 : Hid ((((O : Nat) : Int) == 0) = false) := Lib.hid (by simp; omega)
    have hex : ∃ k, k ≠ i ∧ SureP nx i k := by
      obtain ⟨k, hk⟩ := Nat.exists_testBit_of_ne_zero h0
      exact ⟨k, (hbit k).1 hk⟩
    have HF : Hid (∀ (j : Nat), ws[j]? = some O → IpdP nx i j) := Lib.hid fun j hj => (ipd_iff hc (by omega) hex).2 fun k => by rw [← hL.mem j O hj k, hbit]
    have HIN : Hid (O ∈ ws) := Lib.hid (by
      obtain ⟨k, h1, h2⟩ := hex
      obtain ⟨d, hd⟩ := ipd_ex hc (by omega) h1 h2
      have hdl := hd.2.1.lt hc (by omega)
      obtain ⟨V, hV⟩ : ∃ V, ws[d]? = some V := ⟨_, List.getElem?_eq_getElem (by rw [hL.len]; exact hdl)⟩
      have : V = O := Nat.eq_of_testBit_eq fun k => Bool.eq_iff_iff.2 (by rw [hL.mem d V hV k, hd.all k, hbit])
      rw [← this]
      exact List.mem_of_getElem? hV)
    clear hbit hand hO hW hL hc hl hwl hp8 hW8 hx hex h0
    go_enter Try.func77, Try.ntmps77
    go_wp2
    go_quiet (fail)
    rw [HAND.out]
    have ho0 := HO0.out
    go_wp2_with (go_at_call 100; (with_reducible refine (HIX.out _).mono ?_); rintro e w1 ⟨⟨z, rfl, hz⟩, rfl⟩)
    go_ret
    refine ⟨⟨z, rfl, ?_⟩, below_drewL (by go_grown) _⟩
    rcases hz with ⟨rfl, hn⟩ | ⟨k, rfl, hk⟩
    · exact absurd HIN.out hn
    · exact .inr ⟨k, rfl, HF.out k hk⟩

/-- a row has a mark -/
theorem row_marked {ms : List (List Bool)} {j : Nat} {r : List Bool} (h : ms[j]? = some r) : decide (true ∈ r) = true ↔ ∃ k, mkS ms j k := by
  rw [decide_eq_true_eq]
  unfold mkS
  rw [List.getD_eq_getElem?_getD, h, Option.getD_some]
  constructor
  · intro hm
    obtain ⟨k, hk⟩ := List.getElem?_of_mem hm
    exact ⟨k, by rw [List.getD_eq_getElem?_getD, hk]; rfl⟩
  · rintro ⟨k, hk⟩
    rw [List.getD_eq_getElem?_getD] at hk
    cases e : r[k]? with
    | none => rw [e] at hk; simp at hk
    | some b =>
      rw [e, Option.getD_some] at hk
      rw [← hk]
      exact List.mem_of_getElem? e

set_option maxHeartbeats 4000000 in
theorem requiredTests_any (A AM : Option Addr) (len cap cM T : Nat) (nx : List (List Int)) (ws : List Nat) (ms : List (List Bool)) (w : World) (hx : RdU w w.heap.size A ws) (hM : RdM2 w w.heap.size AM ms) (hl : nx.length = len) (hml : ms.length = len) (hr20 : ∀ r ∈ ms, r.length ≤ 65536) (hc : ckWay nx = 0) (hH : Hgs nx ws) (hT : T < 256) :
    Calls Try.prog 97 #[.slice A len cap, .slice AM len cM, .int .u32 (T : Nat)] w fun e w' => (∃ T' : Nat, e = .returned (.int .u32 (T' : Nat)) ∧ T' < 256 ∧ ∀ i, T'.testBit i = true ↔ T.testBit i = true ∨ ∃ j, HangP nx i j ∧ (mkT T j ∨ ∃ k, mkS ms j k)) ∧ w' = w := by
  obtain ⟨b1, b2, _⟩ := ckWay_bd hc
  rw [hl] at b1 b2
  have hwl : ws.length = len := by rw [hH.len, hl]
  have HWL := Lib.hid hwl
  have HML := Lib.hid hml
  have HH := Lib.hid hH
  have HR20 := Lib.hid hr20
  have HHL : Hid (∀ i j, HangP nx i j → i < len ∧ j < len) := Lib.hid fun i j h => by
    refine ⟨?_, by have := h.lt hc; omega⟩
    obtain ⟨z, hz, _⟩ := h
    rcases Nat.lt_or_ge i len with h1 | h1
    · exact h1
    · exfalso
      unfold sc at hz
      rw [List.getD_eq_getElem?_getD, List.getElem?_eq_none (by rw [hl]; exact h1)] at hz
      simp at hz
  have HWM : Hid (∀ (i W : Nat), ws[i]? = some W → W < 256) := Lib.hid fun i W h => by
    have := hH.lt i W h
    have : 2 ^ nx.length ≤ 2 ^ 8 := Nat.pow_le_pow_right (by omega) (by omega)
    omega
  clear hwl hml hH hc hl hr20
  go_enter Try.func97, Try.ntmps97
  go_wp2
  go_loop [7, 15] (fun s z => ∃ (k X : Nat), k ≤ len ∧ z = .int .i64 k ∧ s = .int .u32 (X : Nat) ∧ X < 256 ∧ Hid (∀ j, X.testBit j = true ↔ mkT T j ∨ (j < k ∧ ∃ l, mkS ms j l))) (fun _ z => len - (intOf z).toNat)
  case atStart => exact ⟨0, T, Nat.zero_le _, rfl, rfl, hT, Lib.hid fun j => ⟨.inl, fun h => h.elim id fun h => by omega⟩⟩
  case round =>
    obtain ⟨k, X, hk, rfl, rfl, hX, HX⟩ := hrel
    by_cases hlt : k < len
    · obtain ⟨adm, r, Ar, cr, rfl, hblm, hdr, hcr, hrr⟩ := hM.at_ (k := k) (by rw [HML.out]; exact hlt)
      have hrl := HR20.out r (List.mem_of_getElem? hdr)
      obtain ⟨rl, hrle⟩ : ∃ rl, r.length = rl := ⟨_, rfl⟩
      rw [hrle] at hcr hrl
      have HB := Lib.hid (hasBo_any Ar rl cr r _ w hrr hrle hrl)
      obtain ⟨bt, hbt⟩ : ∃ bt, decide (true ∈ r) = bt := ⟨_, rfl⟩
      have hmk := row_marked hdr
      rw [hbt] at HB hmk
      have HMK := Lib.hid hmk
      clear hmk hbt hrle hdr hrr
      cases bt with
      | false =>
        go_wp2_with (go_at_call 117; (with_reducible refine HB.out.mono ?_); rintro e w1 ⟨rfl, rfl⟩)
        go_round
        case rel => exact ⟨k + 1, X, by omega, by go_num, rfl, hX, Lib.hid fun j => by
          rw [HX.out]
          refine or_congr Iff.rfl ⟨fun ⟨h1, h2⟩ => ⟨by omega, h2⟩, fun ⟨h1, h2⟩ => ⟨?_, h2⟩⟩
          by_cases e : j = k
          · subst e; have := HMK.out.2 h2; cases this
          · omega⟩
        case measure => (simp [intOf]; omega)
      | true =>
        have HOR := Lib.hid (or_pow (L := X) (t := k) (by omega) (by omega))
        have hk32 : k < 32 := by omega
        go_wp2_with (go_at_call 117; (with_reducible refine HB.out.mono ?_); rintro e w1 ⟨rfl, rfl⟩)
        go_round
        case rel => exact ⟨k + 1, X ||| 2 ^ k, by omega, by go_num, by rw [HOR.out], Nat.or_lt_two_pow (n := 8) hX (Nat.pow_lt_pow_right (by omega) (by omega)), Lib.hid fun j => by
          rw [bit_or_pow, Bool.or_eq_true, decide_eq_true_eq, HX.out]
          constructor
          · rintro ((h | ⟨h, h2⟩) | rfl)
            · exact .inl h
            · exact .inr ⟨by omega, h2⟩
            · exact .inr ⟨by omega, HMK.out.1 (by simp)⟩
          · rintro (h | ⟨h, h2⟩)
            · exact .inl (.inl h)
            · by_cases e : k = j
              · exact .inr e
              · exact .inl (.inr ⟨by omega, h2⟩)⟩
        case measure => (simp [intOf]; omega)
    · have hke : k = len := by omega
      subst hke
      have HN : Hid (∀ i j, HangP nx i j → (X.testBit j = true ↔ mkT T j ∨ ∃ l, mkS ms j l)) := Lib.hid fun i j h => by
        rw [HX.out]
        exact or_congr Iff.rfl ⟨fun h2 => h2.2, fun h2 => ⟨(HHL.out i j h).2, h2⟩⟩
      go_wp2
      go_loop [2, 29] (fun s z => ∃ (i Y : Nat), i ≤ k ∧ z = .int .i64 i ∧ s = .int .u32 (Y : Nat) ∧ Y < 256 ∧ Hid (∀ a, Y.testBit a = true ↔ mkT T a ∨ (a < i ∧ ∃ j, HangP nx a j ∧ X.testBit j = true))) (fun _ z => k - (intOf z).toNat)
      case atStart => exact ⟨0, T, Nat.zero_le _, rfl, rfl, hT, Lib.hid fun j => ⟨.inl, fun h => h.elim id fun h => by omega⟩⟩
      case round =>
        obtain ⟨i, Y, hi, rfl, rfl, hY, HY⟩ := hrel
        by_cases hlt2 : i < k
        · obtain ⟨ad, W, rfl, hbl, hdW, hcW⟩ := hx.at_ (k := i) (by rw [HWL.out]; exact hlt2)
          have hW8 := HWM.out i W hdW
          have HDW := Lib.hid hdW
          have hmeet : (W &&& X = 0) ↔ ¬ ∃ j, HangP nx i j ∧ X.testBit j = true := by
            constructor
            · rintro h ⟨j, h1, h2⟩
              have h3 := (HH.out.mem i W hdW j).2 h1
              have : (W &&& X).testBit j = true := by rw [Nat.testBit_and, h3, h2]; rfl
              rw [h] at this
              simp at this
            · intro h
              apply Nat.eq_of_testBit_eq
              intro j
              rw [Nat.zero_testBit, Nat.testBit_and]
              cases e1 : W.testBit j with
              | false => rfl
              | true =>
                cases e2 : X.testBit j with
                | false => rfl
                | true => exact absurd ⟨j, (HH.out.mem i W hdW j).1 e1, e2⟩ h
          have HME := Lib.hid hmeet
          have hand : bits .and .u32 ((W : Nat) : Int) ((X : Nat) : Int) = ((W &&& X : Nat) : Int) := u32_and_nat _ _ (by omega) (by omega)
          obtain ⟨V, hV⟩ : ∃ V, W &&& X = V := ⟨_, rfl⟩
          rw [hV] at hand HME
          clear hdW hmeet hV
          by_cases h0 : V = 0
          · have ht : ((bits .and .u32 ((W : Nat) : Int) ((X : Nat) : Int)) != 0) = false := by rw [hand, h0]; rfl
            have HNO := Lib.hid (HME.out.1 h0)
            clear h0 hand
            go_wp2
            go_round
            case rel => exact ⟨i + 1, Y, by omega, by go_num, rfl, hY, Lib.hid fun a => by
              rw [HY.out]
              refine or_congr Iff.rfl ⟨fun ⟨h1, h2⟩ => ⟨by omega, h2⟩, fun ⟨h1, h2⟩ => ⟨?_, h2⟩⟩
              by_cases e : a = i
              · subst e; exact absurd h2 HNO.out
              · omega⟩
            case measure => (simp [intOf]; omega)
          · have ht : ((bits .and .u32 ((W : Nat) : Int) ((X : Nat) : Int)) != 0) = true := by rw [hand]; simp; omega
            have HYES : Hid (∃ j, HangP nx i j ∧ X.testBit j = true) := Lib.hid (Classical.not_not.1 fun h => h0 (HME.out.2 h))
            have HOR := Lib.hid (or_pow (L := Y) (t := i) (by omega) (by omega))
            have hi32 : i < 32 := by omega
            clear h0 hand
            go_wp2
            go_round
            case rel => exact ⟨i + 1, Y ||| 2 ^ i, by omega, by go_num, by rw [HOR.out], Nat.or_lt_two_pow (n := 8) hY (Nat.pow_lt_pow_right (by omega) (by omega)), Lib.hid fun a => by
              rw [bit_or_pow, Bool.or_eq_true, decide_eq_true_eq, HY.out]
              constructor
              · rintro ((h | ⟨h, h2⟩) | rfl)
                · exact .inl h
                · exact .inr ⟨by omega, h2⟩
                · exact .inr ⟨by omega, HYES.out⟩
              · rintro (h | ⟨h, h2⟩)
                · exact .inl (.inl h)
                · by_cases e : i = a
                  · exact .inr e
                  · exact .inl (.inr ⟨by omega, h2⟩)⟩
            case measure => (simp [intOf]; omega)
        · have hie : i = k := by omega
          subst hie
          go_wp2
          go_ret
          exact ⟨⟨Y, rfl, hY, fun a => by
            rw [HY.out]
            constructor
            · rintro (h | ⟨h, j, h1, h2⟩)
              · exact .inl h
              · exact .inr ⟨j, h1, (HN.out a j h1).1 h2⟩
            · rintro (h | ⟨j, h1, h2⟩)
              · exact .inl h
              · exact .inr ⟨(HHL.out a j h1).1, j, h1, (HN.out a j h1).2 h2⟩⟩, rfl⟩

end Go.Proofs.Ytfhnhbkdhdocjaa
