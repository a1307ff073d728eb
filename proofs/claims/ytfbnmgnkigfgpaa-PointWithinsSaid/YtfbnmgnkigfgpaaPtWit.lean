/-
  codemasonref.Within tells what may point to what, by inclusion (V2).
-/
import Derived.Test.YtfbnmgnkigfgpaaPtSet
import Derived.Test.YtfbnmgnkigfgpaaPtCk
import Derived.Test.YtfbnmgnkigfgpaaPtWords
namespace Go.Proofs.Ytfbnmgnkigfgpaa
open Go.RowKit
set_option linter.unusedSimpArgs false
set_option linter.unusedVariables false
set_option maxRecDepth 100000

/-- a pass of the reference: the map's box, the map, the pass's flag -/
structure WiI (l : List Qt) (w wr : World) (bt bm bf : Nat) (L0 L : List (Nat × Nat)) : Prop where
  tb : Own wr bt 47 [.map (some bm)]
  mp : OwnL wr bm L
  fl : Own wr bf 4 [.bool (decide (L0.length < L.length))]
  d1 : bt ≠ bm
  d2 : bf ≠ bm
  d3 : bt ≠ bf
  l1 : w.heap.size ≤ bm
  l2 : w.heap.size ≤ bf
  l3 : w.heap.size ≤ bt
  be : Below w.heap.size w wr
  ps : PsA l L0 L

theorem flag_put {L0 L : List (Nat × Nat)} {p : Nat × Nat} (h : L0.length ≤ L.length) : (decide (L0.length < L.length) || !decide (p ∈ L)) = decide (L0.length < (insP L p).length) := by
  rw [insP_len]
  by_cases hp : p ∈ L
  · rw [if_pos hp]; simp [hp]
  · rw [if_neg hp]
    have : decide (L0.length < L.length + 1) = true := decide_eq_true (by omega)
    rw [this]
    simp [hp]

section
variable {l : List Qt} {w X Y : World} {bt bm bf : Nat} {L0 L : List (Nat × Nat)}

theorem WiI.quiet (h : WiI l w X bt bm bf L0 L) (hb : Below X.heap.size X Y) : WiI l w Y bt bm bf L0 L :=
  ⟨h.tb.below hb h.tb.lt, h.mp.below hb h.mp.lt, h.fl.below hb h.fl.lt, h.d1, h.d2, h.d3, h.l1, h.l2, h.l3, h.be.trans (hb.mono h.be.size), h.ps⟩

theorem WiI.call (h : WiI l w X bt bm bf L0 L) {x y : Nat} (ha : An l x y) (hx : x < 8) (hy : y < 8) :
    Calls Try.prog 25 #[.int .i64 (x : Int), .int .i64 (y : Int), .pointer (some ⟨bt, 0, none⟩), .pointer (some ⟨bf, 0, none⟩)] X fun e w' => e = .returned (.tuple #[]) ∧ WiI l w w' bt bm bf L0 (insP L (x, y)) ∧ Wrote2 bm bf X w' :=
  (putW_any bt bm bf L x y _ X h.tb h.mp h.fl h.d1 h.d2 hx hy).mono fun e w' ⟨h1, h2, h3, h4⟩ => ⟨h1, ⟨h4.own h.tb h.d1 h.d3, h2, by rw [flag_put h.ps.gr.le] at h3; exact h3, h.d1, h.d2, h.d3, h.l1, h.l2, h.l3, h.be.trans (h4.below h.l1 h.l2 h.be.size), h.ps.put ha⟩, h4⟩

end

/-- between two passes -/
structure WiO (l : List Qt) (n : Nat) (w wr : World) (bt bm bf : Nat) (f : Bool) (L : List (Nat × Nat)) : Prop where
  tb : Own wr bt 47 [.map (some bm)]
  mp : OwnL wr bm L
  fl : Own wr bf 4 [.bool f]
  d1 : bt ≠ bm
  d2 : bf ≠ bm
  d3 : bt ≠ bf
  l1 : w.heap.size ≤ bm
  l2 : w.heap.size ≤ bf
  l3 : w.heap.size ≤ bt
  be : Below w.heap.size w wr
  snd : ∀ x ∈ L, An l x.1 x.2
  done : f = false → ∀ p ∈ l, DlA p L L n 0

theorem WiO.begin {l : List Qt} {n : Nat} {w X : World} {bt bm bf : Nat} {f : Bool} {L : List (Nat × Nat)} (h : WiO l n w X bt bm bf f L) : WiI l w (X.setCell ⟨bf, 0, none⟩ (.bool false)) bt bm bf L L :=
  ⟨h.tb.far (by simpa using h.d3) _, h.mp.keep (Below.heap_setCell _ _ _ _ (by simpa using h.d2.symm)), by
    rw [decide_eq_false (by omega)]
    exact Own.set h.fl 0 (.bool false), h.d1, h.d2, h.d3, h.l1, h.l2, h.l3, h.be.setCell (p := ⟨bf, 0, none⟩) h.l2 _, ⟨GrP.refl h.mp.1, h.snd⟩⟩

/-- is the flag up? -/
def flagAt (w : World) (p : Value) : Nat := match p with
  | .pointer (some a) => (match w.cell? a with | some (.bool true) => 1 | _ => 0)
  | _ => 0

theorem flagAt_own {w : World} {b : Nat} {t : TypeId} {f : Bool} (h : Own w b t [.bool f]) : flagAt w (.pointer (some ⟨b, 0, none⟩)) = if f = true then 1 else 0 := by
  have := h.cell (j := 0) rfl
  unfold flagAt
  simp only [this]
  cases f <;> rfl

theorem pow_256W {f : Nat} (h : f < 8) : 2 ^ f < 256 := by
  have : 2 ^ f ≤ 2 ^ 7 := Nat.pow_le_pow_right (by omega) (by omega)
  omega

theorem WiI.next {l : List Qt} {n : Nat} {w X : World} {bt bm bf : Nat} {L0 L : List (Nat × Nat)} {fl : Bool} (h : WiI l w X bt bm bf L0 L) (hd : ∀ p ∈ l, DlA p L0 L n 0) (hf : decide (L0.length < L.length) = fl) : WiO l n w (X.alloc (.cells #[.bool fl] 4)) bt bm X.heap.size fl L := by
  have hq := h.quiet (Y := X.alloc (.cells #[.bool fl] 4)) ((Below.refl _ _).alloc (Nat.le_refl _) _)
  refine ⟨hq.tb, hq.mp, Own.new X _ [.bool fl], h.d1, fun e => ?_, fun e => ?_, h.l1, h.be.size, h.l3, hq.be, h.ps.snd, fun e p hp => ?_⟩
  · have := h.mp.lt
    omega
  · have := h.tb.lt
    omega
  · subst e
    have hs := h.ps.gr.same (by have := of_decide_eq_false hf; omega)
    subst hs
    exact hd p hp

theorem WiI.short {l : List Qt} {n : Nat} {w X : World} {bt bm bf : Nat} {L0 L : List (Nat × Nat)} (h : WiI l w X bt bm bf L0 L) (hq : QOk n l) (h8 : n ≤ 8) : L.length ≤ 64 :=
  pairs_le h.mp.1 fun p hp => by
    have := (h.ps.snd p hp).lt hq
    omega

set_option maxHeartbeats 32000000 in
theorem refWithin_any (n : Nat) (A : Option Addr) (len cap : Nat) (q : List Qt) (w : World) (hx : RdPz w w.heap.size A (qI q)) (hl : q.length = len) (hq : QOk n q) (h1 : 1 ≤ n) (h8 : n ≤ 8) (hl12 : len ≤ 12) :
    Calls Try.prog 12 #[.int .i64 n, .slice A len cap] w fun e w' => ∃ S A' c', Tel n (An q) S ∧ e = .returned (.slice A' n c') ∧ RdU w' w'.heap.size A' S ∧ Below w.heap.size w w' := by
  have HL := Lib.hid hl
  have HQ := Lib.hid hq
  have hmm := @run_makeMap Try.prog
  clear hl hq
  go_enter Try.func12, Try.ntmps12
  go_upto_region 3 with fail
  clear hmm
  have hO0 : WiO q n w (((w.alloc (.map #[] 0)).alloc (.cells #[.map (some w.heap.size)] 47)).alloc (.cells #[.bool true] 4)) (w.heap.size + 1) w.heap.size (w.heap.size + 1 + 1) true [] :=
    ⟨(by
      have h := Own.new (w.alloc (.map #[] 0)) 47 [.map (some w.heap.size)]
      rw [show (w.alloc (.map #[] 0)).heap.size = w.heap.size + 1 from by simp] at h
      exact h.alloc _), ((OwnL.new w).alloc _).alloc _, (by
      have h := Own.new ((w.alloc (.map #[] 0)).alloc (.cells #[.map (some w.heap.size)] 47)) 4 [.bool true]
      rw [show ((w.alloc (.map #[] 0)).alloc (.cells #[.map (some w.heap.size)] 47)).heap.size = w.heap.size + 1 + 1 from by simp] at h
      exact h), by omega, by omega, by omega, Nat.le_refl _, by omega, by omega, by go_grown, (fun x hx => absurd hx (by simp)), (fun e => absurd e (by simp))⟩
  obtain ⟨wI, hwI⟩ : ∃ wI, wI = ((w.alloc (.map #[] 0)).alloc (.cells #[.map (some w.heap.size)] 47)).alloc (.cells #[.bool true] 4) := ⟨_, rfl⟩
  rw [← hwI] at hO0 ⊢
  clear hwI
  obtain ⟨b0, hb0⟩ : ∃ b, w.heap.size + 1 + 1 = b := ⟨_, rfl⟩
  rw [hb0] at hO0 ⊢
  clear hb0
  obtain ⟨bt, hbt⟩ : ∃ b, w.heap.size + 1 = b := ⟨_, rfl⟩
  rw [hbt] at hO0 ⊢
  clear hbt
  obtain ⟨bm, hbm⟩ : ∃ b, b = w.heap.size := ⟨_, rfl⟩
  have HO0 : Hid (WiO q n w wI bt bm b0 true []) := Lib.hid (by rw [hbm]; exact hO0)
  rw [← hbm]
  clear hbm hO0
  go_loopw [6] (fun p wr => ∃ (bf : Nat) (L : List (Nat × Nat)) (f : Bool), p = .pointer (some ⟨bf, 0, none⟩) ∧ WiO q n w wr bt bm bf f L) (fun p wr => 2 * (65 - mapLen wr bm) + flagAt wr p)
  case atStart => exact ⟨b0, [], true, rfl, HO0.out⟩
  case round =>
    obtain ⟨bf, L, f, rfl, hO⟩ := hrel
    have hcf := hO.fl.cell (j := 0) rfl
    have hff := hO.fl.frozen 0
    have HO := Lib.hid hO
    cases f with
    | false =>
      have HT : Hid (∀ a b, (a, b) ∈ L ↔ An q a b) := Lib.hid fun a b => ⟨fun h => hO.snd _ h, fun h => An.toldL HQ.out (hO.done rfl) h⟩
      have HBE := Lib.hid hO.be
      have hszo := hO.be.size
      have hmo := hO.mp
      have hct := hO.tb.cell (j := 0) rfl
      have HMO := Lib.hid hmo
      have hbtl := hO.tb.lt
      clear hO
      obtain ⟨wo, rfl⟩ : ∃ wo : World, wo = wr := ⟨_, rfl⟩
      go_wp2
      go_loopw [12, 13] (fun s z wr => ∃ (a : Nat) (A' : Option Addr) (c' : Nat), a ≤ n ∧ z = .int .i64 a ∧ s = .slice A' a c' ∧ wr.ownsRow wo.heap.size 38 1 (.slice A' a c') a (uv (rowsL L n a)) ∧ Below wo.heap.size wo wr) (fun _ z _ => n - (intOf z).toNat)
      case atStart => exact ⟨0, none, 0, Nat.zero_le _, rfl, rfl, World.ownsRow_nil _ _ _ _, Below.refl _ _⟩
      case round =>
        obtain ⟨a, A', c', ha, rfl, rfl, hown, hb⟩ := hrel
        have hsz := hb.size
        by_cases hal : a < n
        · have hmr := HMO.out.below hb HMO.out.lt
          have hctr := (hb.cell (p := ⟨bt, 0, none⟩) hbtl).trans hct
          have HMR := Lib.hid hmr
          have HOWN := Lib.hid hown
          clear hmr hown
          obtain ⟨wi, rfl⟩ : ∃ wi : World, wi = wr := ⟨_, rfl⟩
          go_wp2
          go_loop [14, 15] (fun s z => ∃ b : Nat, b ≤ n ∧ z = .int .i64 b ∧ s = .int .u32 ((wordL L a b : Nat) : Int)) (fun _ z => n - (intOf z).toNat)
          case atStart => exact ⟨0, Nat.zero_le _, rfl, rfl⟩
          case round =>
            obtain ⟨b, hb', rfl, rfl⟩ := hrel
            by_cases hbl : b < n
            · have hlt := wordL_lt (L := L) (a := a) b
              obtain ⟨q1, hq1⟩ : ∃ x, decide ((a, b) ∈ L) = x := ⟨_, rfl⟩
              obtain ⟨V, hV⟩ : ∃ V, wordL L a b = V := ⟨_, rfl⟩
              have hnx : wordL L a (b + 1) = if (a, b) ∈ L then V + 2 ^ b else V := by rw [← hV]; rfl
              rw [hV] at hlt ⊢
              clear hV
              cases q1 with
              | true =>
                rw [if_pos (of_decide_eq_true hq1)] at hnx
                have hl1 := HMR.out.run (x := a) (y := b) (by omega) (by omega) hq1
                have hsum : IntKind.u32.wrap ((V : Int) + (2 : Int) ^ b % 4294967296) = ((V + 2 ^ b : Nat) : Int) := by
                  have h2 := pow_256W (f := b) (by omega)
                  rw [pow_u32' (v := b) (by omega)]
                  show ((V : Int) + ((2 ^ b : Nat) : Int)) % 4294967296 = _
                  omega
                have HSUM := Lib.hid hsum
                have HNX := Lib.hid hnx
                clear hsum hnx hq1 hlt
                go_wp2
                go_round
                case rel => exact ⟨b + 1, by omega, by go_num, by rw [HNX.out]; first | rw [HSUM.out] | (rw [← HSUM.out]; rfl)⟩
                case measure => (simp [intOf]; omega)
              | false =>
                rw [if_neg (of_decide_eq_false hq1)] at hnx
                have hl1 := HMR.out.run (x := a) (y := b) (by omega) (by omega) hq1
                have HNX := Lib.hid hnx
                clear hnx hq1 hlt
                go_wp2
                go_round
                case rel => exact ⟨b + 1, by omega, by go_num, by rw [HNX.out]⟩
                case measure => (simp [intOf]; omega)
            · have hbn : b = n := by omega
              have hnx := rowsL_succ L n a
              obtain ⟨V, hV⟩ : ∃ V, wordL L a b = V := ⟨_, rfl⟩
              have hV2 : wordL L a n = V := by rw [← hbn]; exact hV
              rw [hV2] at hnx
              rw [hV]
              have HNX := Lib.hid hnx
              have h63 : a + 1 ≤ maxLen := by unfold maxLen; omega
              have hbig : (a + 1) * 4 ≤ 140737488355328 := by omega
              clear hnx hV hV2
              go_wp2_with (at_builtin; refine wpList_app rfl (.tmp 128) (.tmp 130) 23 rfl wo.heap.size 38 1 4 word_appQ _ rfl (own_below HOWN.out ((Below.refl _ _).alloc (Nat.le_refl _) _)) [.int .u32 (V : Int)] rfl rfl (fun h => by cases h) (cells_at rfl _ _) (uv1_oneQ _) h63 hbig (by simp; omega) ?_; intro A7 c7 w7 hown7 hg7 hb7)
              go_round
              case rel => exact ⟨a + 1, A7, c7, by omega, by go_num, rfl, by rw [HNX.out, uv_appendQ]; exact hown7, (hb.alloc hsz _).trans hb7⟩
              case measure => (simp [intOf]; omega)
        · have han : a = n := by omega
          have HR := Lib.hid (rowsL_tel h8 HT.out fun a b h => (h.lt HQ.out).2)
          rw [han] at hown ⊢
          go_wp2
          go_ret
          exact ⟨_, A', c', HR.out, rfl, own_rdUQ hown (rowsL_len _ _ _), HBE.out.trans (hb.mono hszo)⟩
    | true =>
      have HMU : Hid (2 * (65 - mapLen wr bm) + flagAt wr (.pointer (some ⟨bf, 0, none⟩)) = 2 * (65 - L.length) + 1) := Lib.hid (by rw [hO.mp.len, flagAt_own hO.fl, if_pos rfl])
      have HRNG : Hid (∀ x ∈ L, x.2 < n) := Lib.hid fun x hx => ((hO.snd x hx).lt HQ.out).2
      have HB := Lib.hid hO.begin
      have hdb := hO.d2
      clear hO
      obtain ⟨wp, rfl⟩ : ∃ wp : World, wp = wr := ⟨_, rfl⟩
      go_wp2
      go_loopw [21] (fun i wr => ∃ (m : Nat) (L1 : List (Nat × Nat)), m ≤ len ∧ i = .int .i64 m ∧ WiI q w wr bt bm bf L L1 ∧ Hid (∀ (j : Nat) (p : Qt), j < m → q[j]? = some p → DlA p L L1 n 0)) (fun i _ => len - (intOf i).toNat)
      case atStart => exact ⟨0, L, Nat.zero_le _, rfl, HB.out, Lib.hid fun j p h => absurd h (by omega)⟩
      case round =>
        obtain ⟨m, L1, hm, rfl, hW1, HJ⟩ := hrel
        by_cases hml : m < len
        · obtain ⟨ad, a, t, f, rfl, hbl, hd, hc0, hc1, hc2⟩ := RdQ.at_ (hx.below hW1.be (Nat.le_refl _)) (k := m) (by rw [HL.out]; exact hml)
          have HQM := Lib.hid hd
          have HP := Lib.hid (List.mem_of_getElem? hd)
          obtain ⟨p1, p2, p3, p4⟩ := HQ.out _ HP.out
          simp only at p1 p2 p3 p4
          obtain ⟨bs, hbs⟩ : ∃ b, wr.heap.size = b := ⟨_, rfl⟩
          have HNB : Hid (bs ≠ bm ∧ bs ≠ bf) := Lib.hid ⟨by have := hW1.mp.lt; omega, by have := hW1.fl.lt; omega⟩
          have HBS := Lib.hid hbs
          have hK : a = 1 ∨ a = 2 ∨ a = 3 ∨ a = 4 := by omega
          clear hd p1 p2 hbs
          obtain ⟨wm, rfl⟩ : ∃ wm : World, wm = wr := ⟨_, rfl⟩
          rcases hK with rfl | rfl | rfl | rfl
          · have hc0 : wm.cell? (ad.add (m * 3)) = some (.int .i64 1) := hc0
            have hWa := hW1.quiet (Y := wm.alloc (.cells #[.int .i64 1, .int .i64 (t : Int), .int .i64 (f : Int)] 41)) ((Below.refl _ _).alloc (Nat.le_refl _) _)
            have hBa : Own (wm.alloc (.cells #[.int .i64 1, .int .i64 (t : Int), .int .i64 (f : Int)] 41)) bs 41 [.int .i64 1, .int .i64 (t : Int), .int .i64 (f : Int)] := by rw [← HBS.out]; exact Own.new wm _ _
            have HC := Lib.hid (hWa.call (x := t) (y := f) (.addr HP.out rfl) (by omega) (by omega))
            have HWa := Lib.hid hWa
            have HBa := Lib.hid hBa
            clear hW1 hWa hBa
            go_wp2_with (go_at_call 25; (with_reducible refine HC.out.mono ?_); rintro e w5 ⟨rfl, hW5, hw5⟩)
            have hB5 := hw5.own HBa.out HNB.out.1 HNB.out.2
            have hD5 : DlA ⟨1, t, f⟩ L (insP L1 (t, f)) 0 0 := DlA.start fun _ => insP_self
            have hS5 : ∀ x ∈ L1, x ∈ insP L1 (t, f) := fun x hx => insP_sub hx
            have HS5 := Lib.hid hS5
            have HD5 := Lib.hid hD5
            clear hS5 hD5 hw5
            go_wp2
            simp only [HBS.out]
            go_loopw [10] (fun i wr => ∃ (X : Nat) (L2 : List (Nat × Nat)), X ≤ n ∧ i = .int .i64 X ∧ WiI q w wr bt bm bf L L2 ∧ Own wr bs 41 [.int .i64 1, .int .i64 (t : Int), .int .i64 (f : Int)] ∧ Hid (∀ x ∈ L1, x ∈ L2) ∧ Hid (DlA ⟨1, t, f⟩ L L2 X 0)) (fun i _ => n - (intOf i).toNat)
            case atStart => exact ⟨0, _, Nat.zero_le _, rfl, hW5, hB5, HS5, HD5⟩
            case round =>
              obtain ⟨X, L2, hX, rfl, hW2, hB2, HS2, HD2⟩ := hrel
              have hcm := hW2.tb.cell (j := 0) rfl
              have hk0 := hB2.cell (j := 0) rfl
              have hk1 := hB2.cell (j := 1) rfl
              have hk2 := hB2.cell (j := 2) rfl
              have HM2 := Lib.hid hW2.mp
              have HW2 := Lib.hid hW2
              have HB2 := Lib.hid hB2
              by_cases hXl : X < n
              · obtain ⟨Lx, hLx⟩ : ∃ Lx, Lx = L2 := ⟨_, rfl⟩
                subst hLx
                have HDx := HD2
                clear hW2 hB2
                obtain ⟨wx, rfl⟩ : ∃ wx : World, wx = wr := ⟨_, rfl⟩
                go_wp2
                go_loopw [11] (fun i wr => ∃ (Y : Nat) (L3 : List (Nat × Nat)), Y ≤ n ∧ i = .int .i64 Y ∧ WiI q w wr bt bm bf L L3 ∧ Own wr bs 41 [.int .i64 1, .int .i64 (t : Int), .int .i64 (f : Int)] ∧ Hid (∀ x ∈ Lx, x ∈ L3) ∧ Hid (DlA ⟨1, t, f⟩ L L3 X Y)) (fun i _ => n - (intOf i).toNat)
                case atStart => exact ⟨0, Lx, Nat.zero_le _, rfl, HW2.out, HB2.out, Lib.hid fun x hx => hx, HDx⟩
                case round =>
                  obtain ⟨Y, L3, hY, rfl, hW3, hB3, HS3, HD3⟩ := hrel
                  have hcm3 := hW3.tb.cell (j := 0) rfl
                  have hk03 := hB3.cell (j := 0) rfl
                  have hk13 := hB3.cell (j := 1) rfl
                  have hk23 := hB3.cell (j := 2) rfl
                  by_cases hYl : Y < n
                  · have HD4 := Lib.hid (HD3.out.col (fun e => absurd e (by simp)) (fun e => absurd e (by simp)))
                    have HW3 := Lib.hid hW3
                    have HB3 := Lib.hid hB3
                    clear hW3 hB3
                    go_wp2
                    go_round
                    case rel => exact ⟨Y + 1, L3, by omega, by go_num, HW3.out, HB3.out, HS3, HD4⟩
                    case measure => (simp [intOf]; omega)
                  · have hYn : Y = n := by omega
                    have HDn : Hid (DlA ⟨1, t, f⟩ L L3 X n) := Lib.hid (by rw [← hYn]; exact HD3.out)
                    have HD4 := Lib.hid (HDn.out.row HRNG.out (fun e => absurd e (by simp)))
                    have HS4 : Hid (∀ x ∈ L1, x ∈ L3) := Lib.hid fun x hx => HS3.out x (HS2.out x hx)
                    have HW3 := Lib.hid hW3
                    have HB3 := Lib.hid hB3
                    clear hW3 hB3
                    go_wp2
                    go_round
                    case rel => exact ⟨X + 1, L3, by omega, by go_num, HW3.out, HB3.out, HS4, HD4⟩
                    case measure => (simp [intOf]; omega)
              · have hXn : X = n := by omega
                have HDn : Hid (DlA ⟨1, t, f⟩ L L2 n 0) := Lib.hid (by rw [← hXn]; exact HD2.out)
                have HJ2 : Hid (∀ (j : Nat) (p : Qt), j < m + 1 → q[j]? = some p → DlA p L L2 n 0) := Lib.hid fun j p hj hp => by
                  by_cases e : j = m
                  · subst e
                    rw [HQM.out] at hp
                    injection hp with hp
                    subst hp
                    exact HDn.out
                  · exact (HJ.out j p (by omega) hp).sub HS2.out
                clear hW2 hB2
                go_wp2
                go_round
                case rel => exact ⟨m + 1, L2, by omega, by go_num, HW2.out, HJ2⟩
                case measure => (simp [intOf]; omega)
          · have hc0 : wm.cell? (ad.add (m * 3)) = some (.int .i64 2) := hc0
            have hWa := hW1.quiet (Y := wm.alloc (.cells #[.int .i64 2, .int .i64 (t : Int), .int .i64 (f : Int)] 41)) ((Below.refl _ _).alloc (Nat.le_refl _) _)
            have hBa : Own (wm.alloc (.cells #[.int .i64 2, .int .i64 (t : Int), .int .i64 (f : Int)] 41)) bs 41 [.int .i64 2, .int .i64 (t : Int), .int .i64 (f : Int)] := by rw [← HBS.out]; exact Own.new wm _ _
            have HWa := Lib.hid hWa
            have HBa := Lib.hid hBa
            have HD5 : Hid (DlA ⟨2, t, f⟩ L L1 0 0) := Lib.hid (DlA.start fun e => absurd e (by simp))
            clear hW1 hWa hBa
            go_wp2
            simp only [HBS.out]
            go_loopw [10] (fun i wr => ∃ (X : Nat) (L2 : List (Nat × Nat)), X ≤ n ∧ i = .int .i64 X ∧ WiI q w wr bt bm bf L L2 ∧ Own wr bs 41 [.int .i64 2, .int .i64 (t : Int), .int .i64 (f : Int)] ∧ Hid (∀ x ∈ L1, x ∈ L2) ∧ Hid (DlA ⟨2, t, f⟩ L L2 X 0)) (fun i _ => n - (intOf i).toNat)
            case atStart => exact ⟨0, L1, Nat.zero_le _, rfl, HWa.out, HBa.out, (Lib.hid fun x hx => hx), HD5⟩
            case round =>
              obtain ⟨X, L2, hX, rfl, hW2, hB2, HS2, HD2⟩ := hrel
              have hcm := hW2.tb.cell (j := 0) rfl
              have hk0 := hB2.cell (j := 0) rfl
              have hk1 := hB2.cell (j := 1) rfl
              have hk2 := hB2.cell (j := 2) rfl
              have HM2 := Lib.hid hW2.mp
              have HW2 := Lib.hid hW2
              have HB2 := Lib.hid hB2
              by_cases hXl : X < n
              · obtain ⟨q1, hq1⟩ : ∃ b, decide ((f, X) ∈ L2) = b := ⟨_, rfl⟩
                have HQ1 := Lib.hid (hW2.mp.look hq1)
                cases q1 with
                | false =>
                  have H2 : Hid ((f, X) ∈ L → (t, X) ∈ L2) := Lib.hid fun h => absurd (hW2.ps.gr.sub h) (of_decide_eq_false hq1)
                  obtain ⟨Lx, hLx⟩ : ∃ Lx, Lx = L2 := ⟨_, rfl⟩
                  subst hLx
                  have HDx := HD2
                  have hl1 := hW2.mp.run (x := f) (y := X) (by omega) (by omega) hq1
                  clear hW2 hB2 hq1
                  obtain ⟨wx, rfl⟩ : ∃ wx : World, wx = wr := ⟨_, rfl⟩
                  go_wp2
                  clear hl1
                  go_loopw [11] (fun i wr => ∃ (Y : Nat) (L3 : List (Nat × Nat)), Y ≤ n ∧ i = .int .i64 Y ∧ WiI q w wr bt bm bf L L3 ∧ Own wr bs 41 [.int .i64 2, .int .i64 (t : Int), .int .i64 (f : Int)] ∧ Hid (∀ x ∈ Lx, x ∈ L3) ∧ Hid (DlA ⟨2, t, f⟩ L L3 X Y)) (fun i _ => n - (intOf i).toNat)
                  case atStart => exact ⟨0, Lx, Nat.zero_le _, rfl, HW2.out, HB2.out, Lib.hid fun x hx => hx, HDx⟩
                  case round =>
                    obtain ⟨Y, L3, hY, rfl, hW3, hB3, HS3, HD3⟩ := hrel
                    have hcm3 := hW3.tb.cell (j := 0) rfl
                    have hk03 := hB3.cell (j := 0) rfl
                    have hk13 := hB3.cell (j := 1) rfl
                    have hk23 := hB3.cell (j := 2) rfl
                    by_cases hYl : Y < n
                    · have HD4 := Lib.hid (HD3.out.col (fun e => absurd e (by simp)) (fun e => absurd e (by simp)))
                      have HW3 := Lib.hid hW3
                      have HB3 := Lib.hid hB3
                      clear hW3 hB3
                      go_wp2
                      go_round
                      case rel => exact ⟨Y + 1, L3, by omega, by go_num, HW3.out, HB3.out, HS3, HD4⟩
                      case measure => (simp [intOf]; omega)
                    · have hYn : Y = n := by omega
                      have HDn : Hid (DlA ⟨2, t, f⟩ L L3 X n) := Lib.hid (by rw [← hYn]; exact HD3.out)
                      have HD4 := Lib.hid (HDn.out.row HRNG.out (fun _ h => HS3.out _ (H2.out h)))
                      have HS4 : Hid (∀ x ∈ L1, x ∈ L3) := Lib.hid fun x hx => HS3.out x (HS2.out x hx)
                      have HW3 := Lib.hid hW3
                      have HB3 := Lib.hid hB3
                      clear hW3 hB3
                      go_wp2
                      go_round
                      case rel => exact ⟨X + 1, L3, by omega, by go_num, HW3.out, HB3.out, HS4, HD4⟩
                      case measure => (simp [intOf]; omega)
                | true =>
                  have HC := Lib.hid (hW2.call (x := t) (y := X) (.copy HP.out rfl (hW2.ps.snd _ (of_decide_eq_true hq1))) (by omega) (by omega))
                  have HS2O := HS2
                  have hl1 := hW2.mp.run (x := f) (y := X) (by omega) (by omega) hq1
                  clear hW2 hB2 hq1 HS2
                  obtain ⟨wx, rfl⟩ : ∃ wx : World, wx = wr := ⟨_, rfl⟩
                  go_wp2_with (go_at_call 25; (with_reducible refine HC.out.mono ?_); rintro e w5 ⟨rfl, hW5, hw5⟩)
                  clear hl1
                  obtain ⟨Lx, hLx⟩ : ∃ Lx, insP L2 (t, X) = Lx := ⟨_, rfl⟩
                  have hB5 := hw5.own HB2.out HNB.out.1 HNB.out.2
                  have H2 : Hid ((f, X) ∈ L → (t, X) ∈ Lx) := Lib.hid fun _ => by rw [← hLx]; exact insP_self
                  have HS2 : Hid (∀ x ∈ L1, x ∈ Lx) := Lib.hid fun x hx => by rw [← hLx]; exact insP_sub (HS2O.out x hx)
                  have HDx : Hid (DlA ⟨2, t, f⟩ L Lx X 0) := Lib.hid (by rw [← hLx]; exact HD2.out.ins _)
                  rw [hLx] at hW5
                  clear hLx hw5 HC HS2O
                  go_loopw [11] (fun i wr => ∃ (Y : Nat) (L3 : List (Nat × Nat)), Y ≤ n ∧ i = .int .i64 Y ∧ WiI q w wr bt bm bf L L3 ∧ Own wr bs 41 [.int .i64 2, .int .i64 (t : Int), .int .i64 (f : Int)] ∧ Hid (∀ x ∈ Lx, x ∈ L3) ∧ Hid (DlA ⟨2, t, f⟩ L L3 X Y)) (fun i _ => n - (intOf i).toNat)
                  case atStart => exact ⟨0, Lx, Nat.zero_le _, rfl, hW5, hB5, Lib.hid fun x hx => hx, HDx⟩
                  case round =>
                    obtain ⟨Y, L3, hY, rfl, hW3, hB3, HS3, HD3⟩ := hrel
                    have hcm3 := hW3.tb.cell (j := 0) rfl
                    have hk03 := hB3.cell (j := 0) rfl
                    have hk13 := hB3.cell (j := 1) rfl
                    have hk23 := hB3.cell (j := 2) rfl
                    by_cases hYl : Y < n
                    · have HD4 := Lib.hid (HD3.out.col (fun e => absurd e (by simp)) (fun e => absurd e (by simp)))
                      have HW3 := Lib.hid hW3
                      have HB3 := Lib.hid hB3
                      clear hW3 hB3
                      go_wp2
                      go_round
                      case rel => exact ⟨Y + 1, L3, by omega, by go_num, HW3.out, HB3.out, HS3, HD4⟩
                      case measure => (simp [intOf]; omega)
                    · have hYn : Y = n := by omega
                      have HDn : Hid (DlA ⟨2, t, f⟩ L L3 X n) := Lib.hid (by rw [← hYn]; exact HD3.out)
                      have HD4 := Lib.hid (HDn.out.row HRNG.out (fun _ h => HS3.out _ (H2.out h)))
                      have HS4 : Hid (∀ x ∈ L1, x ∈ L3) := Lib.hid fun x hx => HS3.out x (HS2.out x hx)
                      have HW3 := Lib.hid hW3
                      have HB3 := Lib.hid hB3
                      clear hW3 hB3
                      go_wp2
                      go_round
                      case rel => exact ⟨X + 1, L3, by omega, by go_num, HW3.out, HB3.out, HS4, HD4⟩
                      case measure => (simp [intOf]; omega)
              · have hXn : X = n := by omega
                have HDn : Hid (DlA ⟨2, t, f⟩ L L2 n 0) := Lib.hid (by rw [← hXn]; exact HD2.out)
                have HJ2 : Hid (∀ (j : Nat) (p : Qt), j < m + 1 → q[j]? = some p → DlA p L L2 n 0) := Lib.hid fun j p hj hp => by
                  by_cases e : j = m
                  · subst e
                    rw [HQM.out] at hp
                    injection hp with hp
                    subst hp
                    exact HDn.out
                  · exact (HJ.out j p (by omega) hp).sub HS2.out
                clear hW2 hB2
                go_wp2
                go_round
                case rel => exact ⟨m + 1, L2, by omega, by go_num, HW2.out, HJ2⟩
                case measure => (simp [intOf]; omega)
          · have hc0 : wm.cell? (ad.add (m * 3)) = some (.int .i64 3) := hc0
            have hWa := hW1.quiet (Y := wm.alloc (.cells #[.int .i64 3, .int .i64 (t : Int), .int .i64 (f : Int)] 41)) ((Below.refl _ _).alloc (Nat.le_refl _) _)
            have hBa : Own (wm.alloc (.cells #[.int .i64 3, .int .i64 (t : Int), .int .i64 (f : Int)] 41)) bs 41 [.int .i64 3, .int .i64 (t : Int), .int .i64 (f : Int)] := by rw [← HBS.out]; exact Own.new wm _ _
            have HWa := Lib.hid hWa
            have HBa := Lib.hid hBa
            have HD5 : Hid (DlA ⟨3, t, f⟩ L L1 0 0) := Lib.hid (DlA.start fun e => absurd e (by simp))
            clear hW1 hWa hBa
            go_wp2
            simp only [HBS.out]
            go_loopw [10] (fun i wr => ∃ (X : Nat) (L2 : List (Nat × Nat)), X ≤ n ∧ i = .int .i64 X ∧ WiI q w wr bt bm bf L L2 ∧ Own wr bs 41 [.int .i64 3, .int .i64 (t : Int), .int .i64 (f : Int)] ∧ Hid (∀ x ∈ L1, x ∈ L2) ∧ Hid (DlA ⟨3, t, f⟩ L L2 X 0)) (fun i _ => n - (intOf i).toNat)
            case atStart => exact ⟨0, L1, Nat.zero_le _, rfl, HWa.out, HBa.out, (Lib.hid fun x hx => hx), HD5⟩
            case round =>
              obtain ⟨X, L2, hX, rfl, hW2, hB2, HS2, HD2⟩ := hrel
              have hcm := hW2.tb.cell (j := 0) rfl
              have hk0 := hB2.cell (j := 0) rfl
              have hk1 := hB2.cell (j := 1) rfl
              have hk2 := hB2.cell (j := 2) rfl
              have HM2 := Lib.hid hW2.mp
              have HW2 := Lib.hid hW2
              have HB2 := Lib.hid hB2
              by_cases hXl : X < n
              · obtain ⟨Lx, hLx⟩ : ∃ Lx, Lx = L2 := ⟨_, rfl⟩
                subst hLx
                have HDx := HD2
                clear hW2 hB2
                obtain ⟨wx, rfl⟩ : ∃ wx : World, wx = wr := ⟨_, rfl⟩
                go_wp2
                go_loopw [11] (fun i wr => ∃ (Y : Nat) (L3 : List (Nat × Nat)), Y ≤ n ∧ i = .int .i64 Y ∧ WiI q w wr bt bm bf L L3 ∧ Own wr bs 41 [.int .i64 3, .int .i64 (t : Int), .int .i64 (f : Int)] ∧ Hid (∀ x ∈ Lx, x ∈ L3) ∧ Hid (DlA ⟨3, t, f⟩ L L3 X Y)) (fun i _ => n - (intOf i).toNat)
                case atStart => exact ⟨0, Lx, Nat.zero_le _, rfl, HW2.out, HB2.out, Lib.hid fun x hx => hx, HDx⟩
                case round =>
                  obtain ⟨Y, L3, hY, rfl, hW3, hB3, HS3, HD3⟩ := hrel
                  have hcm3 := hW3.tb.cell (j := 0) rfl
                  have hk03 := hB3.cell (j := 0) rfl
                  have hk13 := hB3.cell (j := 1) rfl
                  have hk23 := hB3.cell (j := 2) rfl
                  by_cases hYl : Y < n
                  · have HM3 := Lib.hid hW3.mp
                    have HW3 := Lib.hid hW3
                    have HB3 := Lib.hid hB3
                    obtain ⟨q1, hq1⟩ : ∃ b, decide ((f, X) ∈ L3) = b := ⟨_, rfl⟩
                    obtain ⟨q2, hq2⟩ : ∃ b, decide ((X, Y) ∈ L3) = b := ⟨_, rfl⟩
                    have HQ1 := Lib.hid (hW3.mp.look hq1)
                    have HQ2 := Lib.hid (hW3.mp.look hq2)
                    have HSUB := Lib.hid (fun x (hx : x ∈ L) => hW3.ps.gr.sub hx)
                    cases q1 with
                    | false =>
                      have HD4 := Lib.hid (HD3.out.col (fun _ h1 h2 => absurd (HSUB.out _ h1) (of_decide_eq_false hq1)) (fun e => absurd e (by simp)))
                      have hl1 := HM3.out.run (x := f) (y := X) (by omega) (by omega) hq1
                      clear hW3 hB3 hq1 hq2
                      go_wp2
                      go_round
                      case rel => exact ⟨Y + 1, L3, by omega, by go_num, HW3.out, HB3.out, HS3, HD4⟩
                      case measure => (simp [intOf]; omega)
                    | true =>
                      cases q2 with
                      | false =>
                        have HD4 := Lib.hid (HD3.out.col (fun _ h1 h2 => absurd (HSUB.out _ h2) (of_decide_eq_false hq2)) (fun e => absurd e (by simp)))
                        have hl1 := HM3.out.run (x := f) (y := X) (by omega) (by omega) hq1
                        have hl2 := HM3.out.run (x := X) (y := Y) (by omega) (by omega) hq2
                        clear hW3 hB3 hq1 hq2
                        go_wp2
                        go_round
                        case rel => exact ⟨Y + 1, L3, by omega, by go_num, HW3.out, HB3.out, HS3, HD4⟩
                        case measure => (simp [intOf]; omega)
                      | true =>
                        have HC := Lib.hid (hW3.call (x := t) (y := Y) (.load HP.out rfl (hW3.ps.snd _ (of_decide_eq_true hq1)) (hW3.ps.snd _ (of_decide_eq_true hq2))) (by omega) (by omega))
                        have HD4 := Lib.hid ((HD3.out.ins (t, Y)).col (fun _ _ _ => insP_self) (fun e => absurd e (by simp)))
                        have HS4 : Hid (∀ x ∈ Lx, x ∈ insP L3 (t, Y)) := Lib.hid fun x hx => insP_sub (HS3.out x hx)
                        have hl1 := HM3.out.run (x := f) (y := X) (by omega) (by omega) hq1
                        have hl2 := HM3.out.run (x := X) (y := Y) (by omega) (by omega) hq2
                        clear hW3 hB3 hq1 hq2
                        go_wp2_with (go_at_call 25; (with_reducible refine HC.out.mono ?_); rintro e w5 ⟨rfl, hW5, hw5⟩; have hB5 := hw5.own HB3.out HNB.out.1 HNB.out.2; have hk05 := hB5.cell (j := 0) rfl)
                        go_round
                        case rel => exact ⟨Y + 1, _, by omega, by go_num, hW5, hB5, HS4, HD4⟩
                        case measure => (simp [intOf]; omega)
                  · have hYn : Y = n := by omega
                    have HDn : Hid (DlA ⟨3, t, f⟩ L L3 X n) := Lib.hid (by rw [← hYn]; exact HD3.out)
                    have HD4 := Lib.hid (HDn.out.row HRNG.out (fun e => absurd e (by simp)))
                    have HS4 : Hid (∀ x ∈ L1, x ∈ L3) := Lib.hid fun x hx => HS3.out x (HS2.out x hx)
                    have HW3 := Lib.hid hW3
                    have HB3 := Lib.hid hB3
                    clear hW3 hB3
                    go_wp2
                    go_round
                    case rel => exact ⟨X + 1, L3, by omega, by go_num, HW3.out, HB3.out, HS4, HD4⟩
                    case measure => (simp [intOf]; omega)
              · have hXn : X = n := by omega
                have HDn : Hid (DlA ⟨3, t, f⟩ L L2 n 0) := Lib.hid (by rw [← hXn]; exact HD2.out)
                have HJ2 : Hid (∀ (j : Nat) (p : Qt), j < m + 1 → q[j]? = some p → DlA p L L2 n 0) := Lib.hid fun j p hj hp => by
                  by_cases e : j = m
                  · subst e
                    rw [HQM.out] at hp
                    injection hp with hp
                    subst hp
                    exact HDn.out
                  · exact (HJ.out j p (by omega) hp).sub HS2.out
                clear hW2 hB2
                go_wp2
                go_round
                case rel => exact ⟨m + 1, L2, by omega, by go_num, HW2.out, HJ2⟩
                case measure => (simp [intOf]; omega)
          · have hc0 : wm.cell? (ad.add (m * 3)) = some (.int .i64 4) := hc0
            have hWa := hW1.quiet (Y := wm.alloc (.cells #[.int .i64 4, .int .i64 (t : Int), .int .i64 (f : Int)] 41)) ((Below.refl _ _).alloc (Nat.le_refl _) _)
            have hBa : Own (wm.alloc (.cells #[.int .i64 4, .int .i64 (t : Int), .int .i64 (f : Int)] 41)) bs 41 [.int .i64 4, .int .i64 (t : Int), .int .i64 (f : Int)] := by rw [← HBS.out]; exact Own.new wm _ _
            have HWa := Lib.hid hWa
            have HBa := Lib.hid hBa
            have HD5 : Hid (DlA ⟨4, t, f⟩ L L1 0 0) := Lib.hid (DlA.start fun e => absurd e (by simp))
            clear hW1 hWa hBa
            go_wp2
            simp only [HBS.out]
            go_loopw [10] (fun i wr => ∃ (X : Nat) (L2 : List (Nat × Nat)), X ≤ n ∧ i = .int .i64 X ∧ WiI q w wr bt bm bf L L2 ∧ Own wr bs 41 [.int .i64 4, .int .i64 (t : Int), .int .i64 (f : Int)] ∧ Hid (∀ x ∈ L1, x ∈ L2) ∧ Hid (DlA ⟨4, t, f⟩ L L2 X 0)) (fun i _ => n - (intOf i).toNat)
            case atStart => exact ⟨0, L1, Nat.zero_le _, rfl, HWa.out, HBa.out, (Lib.hid fun x hx => hx), HD5⟩
            case round =>
              obtain ⟨X, L2, hX, rfl, hW2, hB2, HS2, HD2⟩ := hrel
              have hcm := hW2.tb.cell (j := 0) rfl
              have hk0 := hB2.cell (j := 0) rfl
              have hk1 := hB2.cell (j := 1) rfl
              have hk2 := hB2.cell (j := 2) rfl
              have HM2 := Lib.hid hW2.mp
              have HW2 := Lib.hid hW2
              have HB2 := Lib.hid hB2
              by_cases hXl : X < n
              · obtain ⟨Lx, hLx⟩ : ∃ Lx, Lx = L2 := ⟨_, rfl⟩
                subst hLx
                have HDx := HD2
                clear hW2 hB2
                obtain ⟨wx, rfl⟩ : ∃ wx : World, wx = wr := ⟨_, rfl⟩
                go_wp2
                go_loopw [11] (fun i wr => ∃ (Y : Nat) (L3 : List (Nat × Nat)), Y ≤ n ∧ i = .int .i64 Y ∧ WiI q w wr bt bm bf L L3 ∧ Own wr bs 41 [.int .i64 4, .int .i64 (t : Int), .int .i64 (f : Int)] ∧ Hid (∀ x ∈ Lx, x ∈ L3) ∧ Hid (DlA ⟨4, t, f⟩ L L3 X Y)) (fun i _ => n - (intOf i).toNat)
                case atStart => exact ⟨0, Lx, Nat.zero_le _, rfl, HW2.out, HB2.out, Lib.hid fun x hx => hx, HDx⟩
                case round =>
                  obtain ⟨Y, L3, hY, rfl, hW3, hB3, HS3, HD3⟩ := hrel
                  have hcm3 := hW3.tb.cell (j := 0) rfl
                  have hk03 := hB3.cell (j := 0) rfl
                  have hk13 := hB3.cell (j := 1) rfl
                  have hk23 := hB3.cell (j := 2) rfl
                  by_cases hYl : Y < n
                  · have HM3 := Lib.hid hW3.mp
                    have HW3 := Lib.hid hW3
                    have HB3 := Lib.hid hB3
                    obtain ⟨q1, hq1⟩ : ∃ b, decide ((t, X) ∈ L3) = b := ⟨_, rfl⟩
                    obtain ⟨q2, hq2⟩ : ∃ b, decide ((f, Y) ∈ L3) = b := ⟨_, rfl⟩
                    have HQ1 := Lib.hid (hW3.mp.look hq1)
                    have HQ2 := Lib.hid (hW3.mp.look hq2)
                    have HSUB := Lib.hid (fun x (hx : x ∈ L) => hW3.ps.gr.sub hx)
                    cases q1 with
                    | false =>
                      have HD4 := Lib.hid (HD3.out.col (fun e => absurd e (by simp)) (fun _ h1 h2 => absurd (HSUB.out _ h1) (of_decide_eq_false hq1)))
                      have hl1 := HM3.out.run (x := t) (y := X) (by omega) (by omega) hq1
                      clear hW3 hB3 hq1 hq2
                      go_wp2
                      go_round
                      case rel => exact ⟨Y + 1, L3, by omega, by go_num, HW3.out, HB3.out, HS3, HD4⟩
                      case measure => (simp [intOf]; omega)
                    | true =>
                      cases q2 with
                      | false =>
                        have HD4 := Lib.hid (HD3.out.col (fun e => absurd e (by simp)) (fun _ h1 h2 => absurd (HSUB.out _ h2) (of_decide_eq_false hq2)))
                        have hl1 := HM3.out.run (x := t) (y := X) (by omega) (by omega) hq1
                        have hl2 := HM3.out.run (x := f) (y := Y) (by omega) (by omega) hq2
                        clear hW3 hB3 hq1 hq2
                        go_wp2
                        go_round
                        case rel => exact ⟨Y + 1, L3, by omega, by go_num, HW3.out, HB3.out, HS3, HD4⟩
                        case measure => (simp [intOf]; omega)
                      | true =>
                        have HC := Lib.hid (hW3.call (x := X) (y := Y) (.store HP.out rfl (hW3.ps.snd _ (of_decide_eq_true hq1)) (hW3.ps.snd _ (of_decide_eq_true hq2))) (by omega) (by omega))
                        have HD4 := Lib.hid ((HD3.out.ins (X, Y)).col (fun e => absurd e (by simp)) (fun _ _ _ => insP_self))
                        have HS4 : Hid (∀ x ∈ Lx, x ∈ insP L3 (X, Y)) := Lib.hid fun x hx => insP_sub (HS3.out x hx)
                        have hl1 := HM3.out.run (x := t) (y := X) (by omega) (by omega) hq1
                        have hl2 := HM3.out.run (x := f) (y := Y) (by omega) (by omega) hq2
                        clear hW3 hB3 hq1 hq2
                        go_wp2_with (go_at_call 25; (with_reducible refine HC.out.mono ?_); rintro e w5 ⟨rfl, hW5, hw5⟩; have hB5 := hw5.own HB3.out HNB.out.1 HNB.out.2; have hk05 := hB5.cell (j := 0) rfl)
                        go_round
                        case rel => exact ⟨Y + 1, _, by omega, by go_num, hW5, hB5, HS4, HD4⟩
                        case measure => (simp [intOf]; omega)
                  · have hYn : Y = n := by omega
                    have HDn : Hid (DlA ⟨4, t, f⟩ L L3 X n) := Lib.hid (by rw [← hYn]; exact HD3.out)
                    have HD4 := Lib.hid (HDn.out.row HRNG.out (fun e => absurd e (by simp)))
                    have HS4 : Hid (∀ x ∈ L1, x ∈ L3) := Lib.hid fun x hx => HS3.out x (HS2.out x hx)
                    have HW3 := Lib.hid hW3
                    have HB3 := Lib.hid hB3
                    clear hW3 hB3
                    go_wp2
                    go_round
                    case rel => exact ⟨X + 1, L3, by omega, by go_num, HW3.out, HB3.out, HS4, HD4⟩
                    case measure => (simp [intOf]; omega)
              · have hXn : X = n := by omega
                have HDn : Hid (DlA ⟨4, t, f⟩ L L2 n 0) := Lib.hid (by rw [← hXn]; exact HD2.out)
                have HJ2 : Hid (∀ (j : Nat) (p : Qt), j < m + 1 → q[j]? = some p → DlA p L L2 n 0) := Lib.hid fun j p hj hp => by
                  by_cases e : j = m
                  · subst e
                    rw [HQM.out] at hp
                    injection hp with hp
                    subst hp
                    exact HDn.out
                  · exact (HJ.out j p (by omega) hp).sub HS2.out
                clear hW2 hB2
                go_wp2
                go_round
                case rel => exact ⟨m + 1, L2, by omega, by go_num, HW2.out, HJ2⟩
                case measure => (simp [intOf]; omega)
        · have HD1 : Hid (∀ p ∈ q, DlA p L L1 n 0) := Lib.hid fun p hp => by
            obtain ⟨j, hj, rfl⟩ := List.getElem_of_mem hp
            exact HJ.out j q[j] (by rw [HL.out] at hj; omega) (List.getElem?_eq_getElem hj)
          obtain ⟨fl, hfl⟩ : ∃ b, decide (L.length < L1.length) = b := ⟨_, rfl⟩
          have hN := hW1.next HD1.out hfl
          have hcl := hW1.fl.cell (j := 0) rfl
          rw [hfl] at hcl
          have HN := Lib.hid hN
          have HS : Hid (L1.length ≤ 64 ∧ L.length ≤ L1.length) := Lib.hid ⟨hW1.short HQ.out h8, hW1.ps.gr.le⟩
          have HFL := Lib.hid hfl
          clear hfl hN hW1
          go_wp2
          go_round
          case rel => exact ⟨_, L1, fl, rfl, HN.out⟩
          case measure =>
            have e1 := HN.out.mp.len
            have e2 := flagAt_own HN.out.fl
            have e3 := HMU.out
            have e4 := HS.out
            show 2 * (65 - mapLen _ bm) + flagAt _ (.pointer (some ⟨_, 0, none⟩)) < 2 * (65 - mapLen wp bm) + flagAt wp (.pointer (some ⟨bf, 0, none⟩))
            rw [e3, e1, e2]
            have e5 := HFL.out
            cases fl with
            | true =>
              have := of_decide_eq_true e5
              simp
              omega
            | false =>
              simp
              omega

end Go.Proofs.Ytfbnmgnkigfgpaa
