/-
  color.first, color.remove: what is right goes, the least one first; color.Peel, color.Perfect (O2).
-/
import Derived.Test.YthmcigdoaededaaDoorColorQ
namespace Go.Proofs.YthmcigdoaededaaDoor
open Go.RowKit
set_option linter.unusedSimpArgs false
set_option linter.unusedVariables false
set_option maxRecDepth 100000

theorem u32_and_lf {n : Nat} {ad : Nat → Nat → Bool} {ws : List Nat} (h : AdW n ad ws) (hn : n ≤ 8) {v C : Nat} (hv : ws[v]? = some C) (R : List Nat) : bits .and .u32 ((C : Nat) : Int) ((lfW n R : Nat) : Int) = ((neW n ad R v : Nat) : Int) := by
  rw [u32_and_nat _ _ (by have := lt_256 hn (h.lt _ _ hv); omega) (by have := lt_256 hn (lfW_lt n R); omega), h.left hv]

/-- how long a slice is -/
def lenS : Value → Nat
  | .slice _ n _ => n
  | _ => 0

/-- what first tells -/
def FirstP (n : Nat) (ad : Nat → Nat → Bool) (q : Nat → Bool) (R : List Nat) (z : Int) : Prop :=
  z = -1 ∧ (∀ j, j < n → j ∉ R → q (neW n ad R j) = false) ∨ ∃ v : Nat, z = v ∧ v < n ∧ v ∉ R ∧ q (neW n ad R v) = true ∧ ∀ j, j < v → j ∉ R → q (neW n ad R j) = false

/-- what a closure over one box answers -/
def RightPerfect (g : Nat) (q : Nat → Bool) (n : Nat) (w0 : World) : Prop := ∀ (W : Nat) (w1 : World), W < 2 ^ n → Below w0.heap.size w0 w1 →
  Calls Tryd.prog 26 #[.int .u32 (W : Nat), .pointer (some ⟨g, 0, none⟩)] w1 fun e w' => e = .returned (.bool (q W)) ∧ Below w1.heap.size w1 w'

set_option maxHeartbeats 4000000 in
theorem firstPerfect_any (g : Nat) (q : Nat → Bool) (n : Nat) (ad : Nat → Nat → Bool) (ws : List Nat) (hws : AdW n ad ws) (hn : n ≤ 8) (A : Option Addr) (cap : Nat) (R : List Nat) (w0 w : World) (hf : RightPerfect g q n w0) (hx : RdU w0 w0.heap.size A ws) (hb0 : Below w0.heap.size w0 w) :
    Calls Tryd.prog 34 #[.slice A n cap, .int .u32 (lfW n R : Nat), .func (.func 26) #[] #[.pointer (some ⟨g, 0, none⟩)]] w fun e w' => (∃ z : Int, e = .returned (.int .i64 z) ∧ FirstP n ad q R z) ∧ Below w.heap.size w w' := by
  have HF := Lib.hid hf
  have HL := Lib.hid hws.len
  have HAND := Lib.hid (fun v C (hv : ws[v]? = some C) => u32_and_lf hws hn hv R)
  have hlf := lt_256 hn (lfW_lt n R)
  have HLB : Hid (∀ k, (lfW n R).testBit k = true ↔ k < n ∧ k ∉ R) := Lib.hid fun k => lfW_bit
  obtain ⟨L, hL⟩ : ∃ L, lfW n R = L := ⟨_, rfl⟩
  rw [hL] at hlf HAND HLB ⊢
  clear hf hL hws
  go_enter Tryd.func34, Tryd.ntmps34
  go_wp2
  go_loopw [11] (fun i wr => ∃ k : Nat, k ≤ n ∧ i = .int .i64 k ∧ Hid (∀ j, j < k → j ∉ R → q (neW n ad R j) = false) ∧ Below w.heap.size w wr) (fun i _ => n - (intOf i).toNat)
  case atStart => exact ⟨0, Nat.zero_le _, rfl, Lib.hid fun j h => by omega, Below.refl _ _⟩
  case round =>
    obtain ⟨k, hk, rfl, HU, hb⟩ := hrel
    have hbz : Below w0.heap.size w0 wr := hb0.trans (hb.mono hb0.size)
    by_cases hlt : k < n
    · obtain ⟨ad', C, rfl, hbl, hd, hc⟩ := (hx.below hbz (Nat.le_refl _)).at_ (k := k) (by rw [HL.out]; exact hlt)
      have hk8 : k < 8 := by omega
      have HB := Lib.hid (cHas_any L k wr hlf hk8)
      cases hb1 : L.testBit k with
      | false =>
        rw [hb1] at HB
        have HU2 : Hid (∀ j, j < k + 1 → j ∉ R → q (neW n ad R j) = false) := Lib.hid fun j hj h1 => by
          rcases Nat.lt_or_ge j k with h2 | h2
          · exact HU.out j h2 h1
          · have : j = k := by omega
            subst this
            rw [(HLB.out j).2 ⟨hlt, h1⟩] at hb1
            cases hb1
        clear hd hb1
        go_wp2_with (go_at_call 33; (with_reducible refine HB.out.mono ?_); rintro e w1 ⟨rfl, rfl⟩)
        go_round
        case rel => exact ⟨k + 1, by omega, by go_num, HU2, hb⟩
        case measure => (simp [intOf]; omega)
      | true =>
        rw [hb1] at HB
        have HKR := Lib.hid ((HLB.out k).1 hb1)
        have HA := Lib.hid (HAND.out k C hd)
        have HQ := Lib.hid (HF.out (neW n ad R k) wr neW_lt hbz)
        obtain ⟨b, hbq⟩ : ∃ b, q (neW n ad R k) = b := ⟨_, rfl⟩
        have HBQ := Lib.hid hbq
        rw [hbq] at HQ
        clear hd hb1 hbq
        cases b with
        | true =>
          go_wp2_with (first | (go_at_call 33; (with_reducible refine HB.out.mono ?_); rintro e w1 ⟨rfl, rfl⟩) | (go_at_call 26; rw [HA.out]; (with_reducible refine HQ.out.mono ?_); rintro e w2 ⟨rfl, hb2⟩))
          go_ret
          exact ⟨⟨_, rfl, .inr ⟨k, rfl, hlt, HKR.out.2, HBQ.out, HU.out⟩⟩, hb.trans (hb2.mono hb.size)⟩
        | false =>
          have HU2 : Hid (∀ j, j < k + 1 → j ∉ R → q (neW n ad R j) = false) := Lib.hid fun j hj h1 => by
            rcases Nat.lt_or_ge j k with h2 | h2
            · exact HU.out j h2 h1
            · have : j = k := by omega
              subst this
              exact HBQ.out
          go_wp2_with (first | (go_at_call 33; (with_reducible refine HB.out.mono ?_); rintro e w1 ⟨rfl, rfl⟩) | (go_at_call 26; rw [HA.out]; (with_reducible refine HQ.out.mono ?_); rintro e w2 ⟨rfl, hb2⟩))
          go_round
          case rel => exact ⟨k + 1, by omega, by go_num, HU2, hb.trans (hb2.mono hb.size)⟩
          case measure => (simp [intOf]; omega)
    · have hkn : k = n := by omega
      subst hkn
      go_wp2
      go_ret
      exact ⟨⟨_, rfl, .inl ⟨rfl, HU.out⟩⟩, hb⟩

set_option maxHeartbeats 4000000 in
theorem removePerfect_any (g : Nat) (q : Nat → Bool) (n : Nat) (ad : Nat → Nat → Bool) (ws : List Nat) (hws : AdW n ad ws) (hn : n ≤ 8) (A : Option Addr) (cap : Nat) (w : World) (hf : RightPerfect g q n w) (hx : RdU w w.heap.size A ws) :
    Calls Tryd.prog 25 #[.slice A n cap, .func (.func 26) #[] #[.pointer (some ⟨g, 0, none⟩)]] w fun e w' => (∃ A' c' R, e = .returned (.tuple #[.slice A' R.length c', .int .u32 (lfW n R : Nat)]) ∧ GoneL n ad q R ∧ RdI w' w'.heap.size A' (ni R)) ∧ Below w.heap.size w w' := by
  have HFI := Lib.hid (fun (R : List Nat) (w1 : World) (hb : Below w.heap.size w w1) => firstPerfect_any g q n ad ws hws hn A cap R w w1 hf hx hb)
  have HE := Lib.hid (everything_any n w hn)
  rw [← lfW_nil (by omega)] at HE
  have HS := Lib.hid (fun (R : List Nat) (v : Nat) (hv : v < n) => lfW_snoc (R := R) hn hv)
  have HLT := Lib.hid (fun (R : List Nat) => lt_256 hn (lfW_lt n R))
  clear hf hx hws
  go_enter Tryd.func25, Tryd.ntmps25
  go_wp2_with (go_at_call 28; (with_reducible refine HE.out.mono ?_); rintro e w1 ⟨rfl, rfl⟩)
  go_loopw [4, 5] (fun s l wr => ∃ (A' : Option Addr) (c' m : Nat) (R : List Nat), s = .slice A' m c' ∧ m = R.length ∧ l = .int .u32 (lfW n R : Nat) ∧ Hid (GoneI n ad q R) ∧ wr.ownsRow w.heap.size 3 1 (.slice A' m c') m (iv (ni R)) ∧ Below w.heap.size w wr) (fun s _ _ => n - lenS s)
  case atStart => exact ⟨none, 0, 0, [], rfl, rfl, rfl, Lib.hid (GoneI.nil n ad q), World.ownsRow_nil _ _ _ _, Below.refl _ _⟩
  case round =>
    obtain ⟨A', c', m, R, rfl, hm, rfl, HG, hown, hb⟩ := hrel
    have HM := Lib.hid hm
    have HF := Lib.hid (HFI.out R wr hb)
    have hmn : m ≤ n := by rw [hm]; exact HG.out.short
    have hsz := hb.size
    clear hm
    go_wp2_with fail
    refine HF.out.mono ?_
    rintro e w2 ⟨⟨z, rfl, hz⟩, hb2⟩
    have hown2 := own_below hown hb2
    have hbw : Below w.heap.size w w2 := hb.trans (hb2.mono hsz)
    have hsz2 := hbw.size
    rcases hz with ⟨rfl, hstop⟩ | ⟨v, rfl, hv, hvR, hq, hl⟩
    · have HST := Lib.hid hstop
      clear hstop
      go_wp2
      go_ret2
      exact ⟨⟨A', c', R, by rw [← HM.out]; rfl, ⟨HG.out, HST.out⟩, own_rdI hown2 (by rw [HM.out]; simp [ni])⟩, hbw⟩
    · have HG2 := Lib.hid (HG.out.snoc hv hvR hq hl)
      have hlt : m < n := by rw [HM.out]; exact HG.out.shorter hv hvR
      have hne : ((v : Int) == -1) = false := by simp
      have HS2 : Hid (bits .andNot .u32 ((lfW n R : Nat) : Int) ((2 : Int) ^ v % 4294967296) = ((lfW n (R ++ [v]) : Nat) : Int)) := Lib.hid (by
        have h9 : 2 ^ v < 2 ^ 8 := Nat.pow_lt_pow_right (by omega) (by omega)
        rw [pow_u32' (by omega), andC_u32 (HLT.out R) h9, HS.out R v hv])
      have h63 : m + 1 ≤ maxLen := by unfold maxLen; omega
      have hbig : (m + 1) * 8 ≤ 140737488355328 := by omega
      obtain ⟨L0, hL0⟩ : ∃ L0, lfW n R = L0 := ⟨_, rfl⟩
      rw [hL0] at HS2 ⊢
      clear hq hl hvR hL0
      go_wp2_with (at_builtin; refine wpList_app' rfl (.tmp 18) (.tmp 20) 23 rfl w.heap.size 3 1 8 int_app (iv (ni R)) rfl (own_below hown2 (by go_grown)) [.int .i64 v] rfl rfl (fun h => by cases h) (cells_at (by simp) _ _) (one_cell _) h63 hbig (by simp; omega) ?_; intro A5 c5 w5 hown5 hg5 hb5 hk5)
      go_round
      case rel => exact ⟨A5, c5, m + 1, R ++ [v], rfl, by rw [HM.out]; simp, by rw [HS2.out], HG2, by rw [show iv (ni (R ++ [v])) = iv (ni R) ++ [.int .i64 (v : Int)] by simp [iv, ni]]; exact hown5, hbw.trans ((by go_grown : Below w.heap.size w2 _).trans hb5)⟩
      case measure => (simp only [lenS]; omega)

end Go.Proofs.YthmcigdoaededaaDoor
