/-
  plan.afterStep, plan.Best: all that can have been done after each turn (Q1).
-/
import Derived.Test.YthmcigdoaededaaPureSteps
import Derived.Test.YthmcigdoaededaaOnesP
import Derived.Test.YthmcigdoaededaaMapRange
import Derived.Carry
namespace Go.Proofs.Ythmcigdoaededaa
open Go.RowKit
set_option linter.unusedSimpArgs false
set_option linter.unusedVariables false
set_option maxRecDepth 100000

theorem word_keyedP : Maps.Keyed Try.prog 42 := Maps.int_keyed Try.underlying42

/-- a set of words, as a map of truths -/
def fB (g : Nat → Bool) : Value → Option Value
  | .int .u32 x => if 0 ≤ x then (if g x.toNat = true then some (.bool true) else none) else none
  | _ => none

theorem fB_at (g : Nat → Bool) (W : Nat) : fB g (.int .u32 (W : Nat)) = if g W = true then some (.bool true) else none := by
  show (if 0 ≤ ((W : Nat) : Int) then (if g ((W : Nat) : Int).toNat = true then some (Value.bool true) else none) else none) = _
  rw [if_pos (by omega), Int.toNat_natCast]

theorem fB_inv {g : Nat → Bool} {x v : Value} (h : fB g x = some v) : ∃ W : Nat, x = .int .u32 (W : Nat) ∧ v = .bool true ∧ g W = true := by
  unfold fB at h
  split at h
  · rename_i x
    by_cases h0 : 0 ≤ x
    · rw [if_pos h0] at h
      obtain ⟨n, rfl⟩ := Int.eq_ofNat_of_zero_le h0
      rw [Int.toNat_natCast] at h
      cases hg : g n with
      | false => rw [hg, if_neg (by simp)] at h; cases h
      | true => rw [hg, if_pos rfl] at h; injection h with h; exact ⟨n, rfl, h.symm, hg⟩
    · rw [if_neg h0] at h; cases h
  · cases h

theorem fB_none : ∀ x, fB (fun _ => false) x = none := fun x => by
  unfold fB
  split
  · split <;> simp
  · rfl

/-- one more -/
def putB (g : Nat → Bool) (W : Nat) (x : Nat) : Bool := g x || decide (x = W)

theorem fB_put (g : Nat → Bool) (W : Nat) : fB (putB g W) (.int .u32 (W : Nat)) = some (.bool true) ∧ ∀ x, x ≠ .int .u32 (W : Nat) → fB (putB g W) x = fB g x := by
  refine ⟨by rw [fB_at]; simp [putB], fun x hx => ?_⟩
  unfold fB
  split
  · rename_i y
    by_cases h0 : 0 ≤ y
    · rw [if_pos h0, if_pos h0]
      have : putB g W y.toNat = g y.toNat := by
        unfold putB
        rw [decide_eq_false fun e => hx (by rw [← e, Int.toNat_of_nonneg h0]), Bool.or_false]
      rw [this]
    · rw [if_neg h0, if_neg h0]
  · rfl

theorem word_keyP {W : Nat} (hW : W < 4294967296) : KeyV Try.prog 42 (.int .u32 (W : Nat)) := ⟨.int .u32 (W : Nat), Maps.keyOf_int_mk Try.underlying42 (by
  simp only [Lit.wf, Bool.and_eq_true, decide_eq_true_eq]
  simp only [IntKind.min, IntKind.max, IntKind.bits, IntKind.signed]
  constructor <;> simp <;> omega)⟩

theorem zero_boolP (w : World) : (zeroValue 4).run Try.prog w = .ok (.bool false) w := by kernel_rfl

section
variable {P : Program} {k : TypeId} {w : World} {ops : Array Oper} {rest : List Oper} {o : Oper} {a : Act} {Q : Exit → Act → World → Prop}

theorem run_look_plain {w : World} {t e : TypeId} {b : Nat} {f : Value → Option Value} (K : Maps.Keyed P k) (ht : P.underlying t = some (.map k e)) (h : OwnF P k w b f) {key z : Value} (hz : (zeroValue e).run P w = .ok z w) (hk : KeyV P k key) :
    (Instr.lookup t (.map (some b)) key false).run P w = .ok ((f key).getD z) w := by
  obtain ⟨ms, clock, hb, hv, hd, hS⟩ := h
  obtain ⟨l, hl⟩ := hk
  have hg : (getObj b).run P w = .ok (.map ms.toArray clock) w := MapKept.run_getObj_map hb
  rcases K.find w hl ms (fun e h => (hv e h).1) with ⟨h1, h2⟩ | ⟨j, e0, h1, h2, h3⟩
  · have hqf : f key = none := by
      cases hq : f key with
      | none => rfl
      | some v =>
        obtain ⟨e, he, hek⟩ := hS key v hq
        exact absurd hek (h2 e he)
    rw [hqf]
    unfold Instr.lookup
    rw [Sem.run_bind, run_underlying ht]
    simp only [Result.andThen, Sem.run_bind, hg, Sem.run_pure, Result.andThen_ok, K.check w _ hl]
    rw [h1]
    simp [hz, Sem.run_bind]
  · have hm := List.mem_of_getElem? h2
    have hqt : f key = some e0.val := by rw [← h3]; exact (hv e0 hm).2
    rw [hqt]
    unfold Instr.lookup
    rw [Sem.run_bind, run_underlying ht]
    simp only [Result.andThen, Sem.run_bind, hg, Sem.run_pure, Result.andThen_ok, K.check w _ hl]
    rw [h1]
    simp

theorem wpList_look_plain (hg : o.guard = none) (m x : Operand) (t : TypeId) (hop : o.op = Op.lookup t m x false) {e : TypeId} (K : Maps.Keyed P k) (ht : P.underlying t = some (.map k e)) {b : Nat} {f : Value → Option Value} (hm : a.eval m = .map (some b)) (h : OwnF P k w b f) {key z v : Value} (hz : ∀ w, (zeroValue e).run P w = .ok z w) (hx : a.eval x = key) (hk : KeyV P k key) (hv : (f key).getD z = v)
    (hK : wpList P ops Q rest (a.put o.dst v) w) : wpList P ops Q (o :: rest) a w := by
  refine wpList_plain hg fun K' hK' => ?_
  unfold Oper.wp
  simp only [execOp, hop, hm, hx, Sem.run_bind, run_look_plain K ht h (hz w) hk, Result.andThen, Sem.run_pure]
  rw [hv]
  exact hK' _ _ hK

end

/-! ### one turn -/

/-- while the words that can be there now are gone through: those of the next turn, in a map of their own -/
structure AfI (wo wr : World) (bs : Nat) (G g : Nat → Bool) (left : Value → Prop) (cnt : Nat) : Prop where
  rng : RngS Try.prog 42 wr bs (wo.heap.size + 1) (fB G) left cnt
  nxt : OwnS Try.prog 42 wr wo.heap.size (fB g)
  bel : Below wo.heap.size wo wr
  bsl : bs < wo.heap.size

theorem AfI.step {wo wr w6 : World} {bs : Nat} {G g : Nat → Bool} {left left' : Value → Prop} {cnt cnt' : Nat} (h : AfI wo wr bs G g left cnt) (hR : RngS Try.prog 42 w6 bs (wo.heap.size + 1) (fB G) left' cnt') (hw : Wrote (wo.heap.size + 1) wr w6) : AfI wo w6 bs G g left' cnt' :=
  ⟨hR, h.nxt.keep (hw.block _ h.nxt.lt (by omega)), h.bel.trans (hw.below (by omega) h.bel.size), h.bsl⟩

theorem AfI.put {wo w6 w7 : World} {bs : Nat} {G g g' : Nat → Bool} {left : Value → Prop} {cnt : Nat} (h : AfI wo w6 bs G g left cnt) (hS : OwnS Try.prog 42 w7 wo.heap.size (fB g')) (hT : Turned wo.heap.size w6 w7) : AfI wo w7 bs G g' left cnt := by
  have hb := h.bsl
  exact ⟨h.rng.keep (hT.block _ (by omega)) (hT.block _ (by omega)), hS, h.bel.trans (hT.below (Nat.le_refl _)), hb⟩

/-- a read that draws only -/
theorem AfI.drewN {wo w6 : World} {bs : Nat} {G g : Nat → Bool} {left : Value → Prop} {cnt : Nat} (h : AfI wo w6 bs G g left cnt) (q : Nat) : AfI wo (w6.drewN q) bs G g left cnt :=
  ⟨h.rng.keep (by simp) (by simp), h.nxt.keep (by simp), ⟨h.bel.os, h.bel.tape, h.bel.output, h.bel.size, h.bel.block⟩, h.bsl⟩

/-- those gone through are told -/
def GoneS (n m : Nat) (ps : List (Nat × Nat)) (G : Nat → Bool) (left : Value → Prop) (W : Nat) : Prop := ∃ D, G D = true ∧ ¬ left (.int .u32 (D : Nat)) ∧ StepTo n m ps D W

/-- and the parts above c of what may be done where D is done -/
def PartS (n m : Nat) (ps : List (Nat × Nat)) (G : Nat → Bool) (left : Value → Prop) (D c W : Nat) : Prop := GoneS n m ps G left W ∨ ∃ S, SubW S (rdW n ps D) ∧ c < S ∧ szW S 8 ≤ m ∧ W = D ||| S

theorem PartS.start {n m D W : Nat} {ps : List (Nat × Nat)} {G : Nat → Bool} {left : Value → Prop} : PartS n m ps G left D (rdW n ps D) W ↔ GoneS n m ps G left W :=
  ⟨fun h => h.elim id fun ⟨S, h1, h2, _⟩ => by have := h1.le; omega, .inl⟩

theorem PartS.skip {n m D c W : Nat} {ps : List (Nat × Nat)} {G : Nat → Bool} {left : Value → Prop} (hc : SubW c (rdW n ps D)) (h0 : c ≠ 0) (hm : ¬ szW c 8 ≤ m) : PartS n m ps G left D ((c - 1) &&& rdW n ps D) W ↔ PartS n m ps G left D c W := by
  have hlt := sub_next_lt (R := rdW n ps D) h0
  constructor
  · rintro (h | ⟨S, h1, h2, h3, h4⟩)
    · exact .inl h
    · rcases Nat.lt_trichotomy S c with h | h | h
      · have := sub_next c (Nat.le_refl _) hc h1 h; omega
      · subst h; exact absurd h3 hm
      · exact .inr ⟨S, h1, h, h3, h4⟩
  · rintro (h | ⟨S, h1, h2, h3, h4⟩)
    · exact .inl h
    · exact .inr ⟨S, h1, by omega, h3, h4⟩

theorem PartS.take {n m D c W : Nat} {ps : List (Nat × Nat)} {G : Nat → Bool} {left : Value → Prop} (hc : SubW c (rdW n ps D)) (h0 : c ≠ 0) (hm : szW c 8 ≤ m) : PartS n m ps G left D ((c - 1) &&& rdW n ps D) W ↔ PartS n m ps G left D c W ∨ W = D ||| c := by
  have hlt := sub_next_lt (R := rdW n ps D) h0
  constructor
  · rintro (h | ⟨S, h1, h2, h3, h4⟩)
    · exact .inl (.inl h)
    · rcases Nat.lt_trichotomy S c with h | h | h
      · have := sub_next c (Nat.le_refl _) hc h1 h; omega
      · subst h; exact .inr h4
      · exact .inl (.inr ⟨S, h1, h, h3, h4⟩)
  · rintro ((h | ⟨S, h1, h2, h3, h4⟩) | h)
    · exact .inl h
    · exact .inr ⟨S, h1, by omega, h3, h4⟩
    · exact .inr ⟨c, hc, hlt, hm, h⟩

theorem PartS.done {n m D W : Nat} {ps : List (Nat × Nat)} {G : Nat → Bool} {left : Value → Prop} (hD : G D = true) : PartS n m ps G left D 0 W ↔ GoneS n m ps G (fun x => left x ∧ x ≠ .int .u32 (D : Nat)) W := by
  constructor
  · rintro (⟨D', h1, h2, h3⟩ | ⟨S, h1, h2, h3, h4⟩)
    · exact ⟨D', h1, fun h => h2 h.1, h3⟩
    · exact ⟨D, hD, fun h => h.2 rfl, S, h1, h2, h3, h4⟩
  · rintro ⟨D', h1, h2, h3⟩
    by_cases he : D' = D
    · subst he
      obtain ⟨S, h4, h5, h6, h7⟩ := h3
      exact .inr ⟨S, h4, h5, h6, h7⟩
    · refine .inl ⟨D', h1, fun h => h2 ⟨h, fun e => he ?_⟩, h3⟩
      injection e with _ e
      omega

/-- the set told by g is what t turns come to -/
def SetI (n m : Nat) (ps : List (Nat × Nat)) (t : Nat) (g : Nat → Bool) : Prop := ∀ W, g W = true ↔ RchT n m ps t W

theorem putB_iff {g : Nat → Bool} {V W : Nat} : putB g V W = true ↔ g W = true ∨ W = V := by unfold putB; rw [Bool.or_eq_true, decide_eq_true_eq]

theorem andP_256 {a b : Nat} (ha : a < 256) (hb : b < 256) : bits .and .u32 ((a : Nat) : Int) ((b : Nat) : Int) = ((a &&& b : Nat) : Int) := u32_and_nat _ _ (by omega) (by omega)

theorem orP_256 {a b : Nat} (ha : a < 256) (hb : b < 256) : bits .or .u32 ((a : Nat) : Int) ((b : Nat) : Int) = ((a ||| b : Nat) : Int) := u32_or_nat _ _ (by omega) (by omega)

set_option maxHeartbeats 16000000 in
theorem afterStep_any (n m t : Nat) (ps : List (Nat × Nat)) (A : Option Addr) (cap bs : Nat) (G : Nat → Bool) (w : World) (hx : RdU w w.heap.size A (tabN n (bfF ps))) (hn : n ≤ 8) (hm : m ≤ 8) (hin : ∀ p ∈ ps, p.1 < n ∧ p.2 < n) (hS : OwnS Try.prog 42 w bs (fB G)) (hG : SetI n m ps t G) :
    Calls Try.prog 32 #[.slice A n cap, .map (some bs), .int .i64 m] w fun e w' => ∃ g, e = .returned (.map (some w.heap.size)) ∧ OwnS Try.prog 42 w' w.heap.size (fB g) ∧ SetI n m ps (t + 1) g ∧ Below w.heap.size w w' := by
  have hmm := @run_makeMap Try.prog
  have HS := Lib.hid hS
  have HG := Lib.hid hG
  have HX := Lib.hid hx
  have HIN := Lib.hid hin
  have hbl := hS.lt
  have HLT : Hid (∀ D, G D = true → D < 256) := Lib.hid fun D h => lt_256P hn ((hG D).1 h).lt
  clear hx hS hG hin
  go_enter Try.func32, Try.ntmps32
  go_wp2_with (at_range; refine wpList_range_stamp rfl (.tmp 12) 54 rfl Try.underlying54 rfl (HS.out.alloc _) ?_; intro w4 cnt4 hR4 hb4 hs4)
  simp only [Act.put, List.setIfInBounds_toArray, List.set_cons_zero, List.set_cons_succ]
  have e2 : (w.alloc (.map #[] 0)).heap.size = w.heap.size + 1 := by simp
  rw [e2] at hR4 hb4 hs4 ⊢
  have HA : Hid (AfI w w4 bs G (fun _ => false) (fun _ => True) cnt4) := Lib.hid (by
    have h1 : OwnS Try.prog 42 (w.alloc (.map #[] 0)) w.heap.size (fB (fun _ => false)) := (OwnS.new w).congr fun x => (fB_none x).symm
    exact ⟨hR4, h1.below hb4 (by omega), (by go_grown : Below w.heap.size w _).trans (hb4.mono (by omega)), hbl⟩)
  clear hR4 hb4 hs4 e2
  go_loopw [] (fun wr => ∃ (left : Value → Prop) (cnt : Nat) (g : Nat → Bool), Hid (AfI w wr bs G g left cnt) ∧ Hid (∀ W, g W = true ↔ GoneS n m ps G left W)) (fun wr => wr.rangeLeft bs (w.heap.size + 1))
  case atStart => exact ⟨_, cnt4, _, HA, Lib.hid fun W => ⟨fun h => by simp at h, fun ⟨D, _, h, _⟩ => absurd trivial h⟩⟩
  case round =>
    obtain ⟨left, cnt, g, HA, HGS⟩ := hrel
    go_wp2_with (at_next; refine wpList_next_stamp rfl (.tmp 13) rfl rfl HA.out.rng ?_ ?_)
    · intro hdone
      have HSI : Hid (SetI n m ps (t + 1) g) := Lib.hid fun W => by
        rw [HGS.out W, rch_succ]
        constructor
        · rintro ⟨D, h1, _, h3⟩
          exact ⟨D, (HG.out D).1 h1, h3⟩
        · rintro ⟨D, h1, h3⟩
          have h4 := (HG.out D).2 h1
          exact ⟨D, h4, hdone _ _ (by rw [fB_at, if_pos h4]), h3⟩
      clear hdone
      go_wp2
      go_ret
      exact ⟨g, rfl, HA.out.nxt, HSI.out, HA.out.bel⟩
    · intro key v w6 cnt6 hkey hf hlk hlt hR6 hw6 hs6 hen
      obtain ⟨D, rfl, rfl, hgD⟩ := fB_inv hf
      have hD8 := HLT.out D hgD
      have HGD := Lib.hid hgD
      have HA6 := Lib.hid (HA.out.step hR6 hw6)
      have HLT6 := Lib.hid hlt
      have HRY := Lib.hid (ready_any n A cap ps D w.heap.size w6 (HX.out.below HA6.out.bel (Nat.le_refl _)) hn HIN.out hD8)
      obtain ⟨R, hR⟩ : ∃ R, rdW n ps D = R := ⟨_, rfl⟩
      have hR8 : R < 256 := by rw [← hR]; exact lt_256P hn (rdW_lt n ps D)
      rw [hR] at HRY
      have HR := Lib.hid hR
      clear hkey hf hlk hgD hR6 hw6 hlt hR
      go_wp2_with (go_at_call 30; (with_reducible refine HRY.out.mono ?_); rintro e w7 ⟨rfl, rfl⟩)
      go_loopw [10] (fun x wr => ∃ (c : Nat) (g : Nat → Bool), x = .int .u32 (c : Nat) ∧ c < 256 ∧ Hid (SubW c R) ∧ Hid (AfI w wr bs G g (fun x => left x ∧ x ≠ .int .u32 (D : Nat)) cnt6) ∧ Hid (∀ W, g W = true ↔ PartS n m ps G left D c W)) (fun x _ => (intOf x).toNat)
      case atStart => exact ⟨R, g, rfl, hR8, Lib.hid fun _ h => h, HA6, Lib.hid fun W => by rw [HGS.out W, ← HR.out, PartS.start]⟩
      case round =>
        obtain ⟨c, g, rfl, hc8, HSB, HA7, HGP⟩ := hrel
        by_cases hc0 : c = 0
        · subst hc0
          have HGD2 : Hid (∀ W, g W = true ↔ GoneS n m ps G (fun x => left x ∧ x ≠ .int .u32 (D : Nat)) W) := Lib.hid fun W => by rw [HGP.out W, PartS.done HGD.out]
          go_wp2
          go_round
          case rel => exact ⟨_, cnt6, g, HA7, HGD2⟩
          case measure => rw [HA7.out.rng.left_eq, HA.out.rng.left_eq]; exact HLT6.out
        · have hne : ((c : Int) != 0) = true := by simp only [bne_iff_ne, ne_eq]; omega
          have hw1 : IntKind.u32.wrap ((c : Int) - 1) = ((c - 1 : Nat) : Int) := by rw [IntKind.wrap_u32]; omega
          have hand := andP_256 (a := c - 1) (b := R) (by omega) hR8
          have hlt2 := sub_next_lt (R := R) hc0
          have HSB2 : Hid (SubW ((c - 1) &&& R) R) := Lib.hid (sub_and _ _)
          have HON := Lib.hid (onesP_any c wr hc8)
          have hs8 := szW_leF c 8
          by_cases hm2 : szW c 8 ≤ m
          · have hor := orP_256 hD8 hc8
            have hor32 : D ||| c < 256 := Nat.or_lt_two_pow (n := 8) hD8 hc8
            have HGP2 : Hid (∀ W, putB g (D ||| c) W = true ↔ PartS n m ps G left D ((c - 1) &&& R) W) := Lib.hid fun W => by
              rw [putB_iff, HGP.out W, ← HR.out, PartS.take (by rw [HR.out]; exact HSB.out) hc0 hm2]
            have HPB := Lib.hid (fB_put g (D ||| c))
            have HKV := Lib.hid (word_keyP (W := D ||| c) (by omega))
            obtain ⟨V, hV⟩ : ∃ V, D ||| c = V := ⟨_, rfl⟩
            obtain ⟨S, hS⟩ : ∃ S, szW c 8 = S := ⟨_, rfl⟩
            obtain ⟨c2, hc2⟩ : ∃ c2, (c - 1) &&& R = c2 := ⟨_, rfl⟩
            rw [hV] at hor HGP2 HPB HKV
            rw [hS] at hm2 HON hs8
            rw [hc2] at hand hlt2 HSB2 HGP2
            clear hV hS hc2 hor32
            go_wp2_with (first
              | (go_at_call 38; (with_reducible refine HON.out.mono ?_); rintro e w8 ⟨rfl, q8, rfl⟩; have HA8 := Lib.hid (HA7.out.drewN q8))
              | (at_mapUpdate; refine wpList_put_stamp rfl (.tmp 32) (.tmp 35) (.const (.bool true)) 54 (.inl rfl) word_keyedP Try.underlying54 rfl HA8.out.nxt rfl rfl HKV.out HPB.out.1 HPB.out.2 ?_; intro w9 hS9 hT9))
            go_round
            case rel => exact ⟨c2, _, rfl, by omega, HSB2, Lib.hid (HA8.out.put hS9 hT9), HGP2⟩
            case measure => (simp [intOf]; omega)
          · have HGP2 : Hid (∀ W, g W = true ↔ PartS n m ps G left D ((c - 1) &&& R) W) := Lib.hid fun W => by
              rw [HGP.out W, ← HR.out, PartS.skip (by rw [HR.out]; exact HSB.out) hc0 hm2]
            obtain ⟨S, hS⟩ : ∃ S, szW c 8 = S := ⟨_, rfl⟩
            obtain ⟨c2, hc2⟩ : ∃ c2, (c - 1) &&& R = c2 := ⟨_, rfl⟩
            rw [hS] at hm2 HON hs8
            rw [hc2] at hand hlt2 HSB2 HGP2
            clear hS hc2
            go_wp2_with (go_at_call 38; (with_reducible refine HON.out.mono ?_); rintro e w8 ⟨rfl, q8, rfl⟩; have HA8 := Lib.hid (HA7.out.drewN q8))
            go_round
            case rel => exact ⟨c2, g, rfl, by omega, HSB2, HA8, HGP2⟩
            case measure => (simp [intOf]; omega)

/-! ### the fewest turns -/

theorem set_start (n m : Nat) (ps : List (Nat × Nat)) : SetI n m ps 0 (putB (fun _ => false) 0) := fun W => by
  rw [putB_iff, rch_zero]
  simp

set_option maxHeartbeats 8000000 in
theorem best_ok (n : Nat) (A : Option Addr) (len cap : Nat) (ps : List (Nat × Nat)) (m : Nat) (w : World) (hx : RdM w w.heap.size A (mvI ps)) (hl : ps.length = len) (hk : TkOk n ps) (hm1 : 1 ≤ m) (hm8 : m ≤ 8) :
    Calls Try.prog 19 #[.int .i64 n, .slice A len cap, .int .i64 m] w fun e w' => (∃ k : Nat, Fewest n m (fun a b => (a, b) ∈ ps) k ∧ e = .returned (.tuple #[.int .i64 k, .int .i64 0])) ∧ Below w.heap.size w w' := by
  have hmm := @run_makeMap Try.prog
  have HPR := Lib.hid (predecessors_ok n A len cap ps m w hx hl hk hm1 hm8)
  have h8 := hk.small
  have HIN := Lib.hid hk.ins
  have HEV := Lib.hid (fun w => everythingP_any n w h8)
  obtain ⟨b, hbf, hb1, hbn⟩ := hk.fewest hm1
  have HBF := Lib.hid hbf
  have HFULL := Lib.hid (hbf.full h8 hk.ins)
  have HLEAST : Hid (∀ t, RchT n m ps t (2 ^ n - 1) → b ≤ t) := Lib.hid fun t h => h.fewest h8 HIN.out hbf
  have hp8 : 2 ^ n ≤ 256 := Nat.pow_le_pow_right (n := 2) (by omega) h8
  obtain ⟨V, hV⟩ : ∃ V, 2 ^ n - 1 = V := ⟨_, rfl⟩
  rw [hV] at HFULL HLEAST HEV
  have hV8 : V < 256 := by omega
  have HKV := Lib.hid (word_keyP (W := V) (by omega))
  have HK0 := Lib.hid (word_keyP (W := 0) (by omega))
  have HP0 := Lib.hid (fB_put (fun _ => false) 0)
  clear hl hk hx hbf hV
  go_enter Try.func19, Try.ntmps19
  go_wp2_with fail
  refine HPR.out.mono ?_
  rintro e w1 ⟨⟨A1, c1, rfl, hrd⟩, hw1⟩
  have hs1 := hw1.size
  have HS0 : Hid (OwnS Try.prog 42 (w1.alloc (.map #[] 0)) w1.heap.size (fB (fun _ => false))) := Lib.hid ((OwnS.new w1).congr fun x => (fB_none x).symm)
  go_wp2_with (refine wpList_put_stamp rfl (.tmp 22) (.const (.int .u32 0)) (.const (.bool true)) 54 (.inr rfl) word_keyedP Try.underlying54 rfl HS0.out rfl rfl HK0.out HP0.out.1 HP0.out.2 ?_; intro w3 hS3 hT3)
  have hT3b : Below w1.heap.size w1 w3 := (by go_grown : Below w1.heap.size w1 _).trans (hT3.below (Nat.le_refl _))
  clear hT3
  go_loopw [10, 11] (fun mv st wr => ∃ (t bm : Nat) (g : Nat → Bool), t ≤ b ∧ st = .int .i64 t ∧ mv = .map (some bm) ∧ Hid (OwnS Try.prog 42 wr bm (fB g)) ∧ Hid (SetI n m ps t g) ∧ Below w1.heap.size w1 wr) (fun _ st _ => b - (intOf st).toNat)
  case atStart => exact ⟨0, w1.heap.size, _, Nat.zero_le _, rfl, rfl, Lib.hid hS3, Lib.hid (set_start n m ps), hT3b⟩
  case round =>
    obtain ⟨t, bm, g, ht, rfl, rfl, HS, HSI, hb2⟩ := hrel
    have hs2 := hb2.size
    have HSF := Lib.hid HS.out.f
    cases hg : g V with
    | false =>
      have htb : t < b := by
        rcases Nat.lt_or_ge t b with h | h
        · exact h
        · have e : t = b := by omega
          subst e
          rw [(HSI.out V).2 HFULL.out] at hg
          cases hg
      have HLK : Hid ((fB g (.int .u32 (V : Nat))).getD (.bool false) = .bool false) := Lib.hid (by rw [fB_at, hg]; rfl)
      have HAS := Lib.hid (afterStep_any n m t ps A1 c1 bm g wr ((hrd.below hb2 (Nat.le_refl _)).more hs2) h8 hm8 HIN.out HS.out HSI.out)
      clear hg
      go_wp2_with (first
        | (go_at_call 29; (with_reducible refine (HEV.out _).mono ?_); rintro e w4 ⟨rfl, rfl⟩)
        | (at_lookup; refine wpList_look_plain rfl (.tmp 24) (.tmp 26) 54 rfl word_keyedP Try.underlying54 rfl HSF.out zero_boolP rfl HKV.out HLK.out ?_)
        | (go_at_call 32; (with_reducible refine HAS.out.mono ?_); rintro e w5 ⟨g2, rfl, hS5, hG5, hb5⟩))
      go_round
      case rel => exact ⟨t + 1, wr.heap.size, g2, by omega, by go_num, rfl, Lib.hid hS5, Lib.hid hG5, hb2.trans (hb5.mono hs2)⟩
      case measure => (simp [intOf]; omega)
    | true =>
      have HTB : Hid (t = b) := Lib.hid (by
        have := HLEAST.out t ((HSI.out V).1 hg)
        omega)
      have HLK : Hid ((fB g (.int .u32 (V : Nat))).getD (.bool false) = .bool true) := Lib.hid (by rw [fB_at, hg]; rfl)
      clear hg
      go_wp2_with (first
        | (go_at_call 29; (with_reducible refine (HEV.out _).mono ?_); rintro e w4 ⟨rfl, rfl⟩)
        | (at_lookup; refine wpList_look_plain rfl (.tmp 24) (.tmp 26) 54 rfl word_keyedP Try.underlying54 rfl HSF.out zero_boolP rfl HKV.out HLK.out ?_))
      go_ret2
      exact ⟨⟨t, by rw [HTB.out]; exact HBF.out, rfl⟩, hw1.trans (hb2.mono hs1)⟩

set_option maxHeartbeats 1000000 in
theorem best_bad (n : Int) (A : Option Addr) (len cap : Nat) (l : List (Int × Int)) (m : Int) (z : Int) (w : World) (hx : RdM w w.heap.size A l) (hl : l.length = len) (hm : len ≤ maxLen) (hz : TkCode n l z) (h0 : z ≠ 0) :
    Calls Try.prog 19 #[.int .i64 n, .slice A len cap, .int .i64 m] w fun e w' => e = .returned (.tuple #[.int .i64 0, .int .i64 z]) ∧ Below w.heap.size w w' := by
  have HPR := Lib.hid (predecessors_bad n A len cap l m z w hx hl hm hz h0)
  have hne : (z != 0) = true := by simpa using h0
  clear hx hl hm hz h0
  go_enter Try.func19, Try.ntmps19
  go_wp2_with fail
  refine HPR.out.mono ?_
  rintro e w1 ⟨rfl, hb1⟩
  go_wp2
  go_ret2
  exact ⟨rfl, hb1⟩

set_option maxHeartbeats 1000000 in
theorem best_range (n : Nat) (A : Option Addr) (len cap : Nat) (ps : List (Nat × Nat)) (m : Int) (w : World) (hx : RdM w w.heap.size A (mvI ps)) (hl : ps.length = len) (hk : TkOk n ps) (hm : m < 1 ∨ 8 < m) :
    Calls Try.prog 19 #[.int .i64 n, .slice A len cap, .int .i64 m] w fun e w' => e = .returned (.tuple #[.int .i64 0, .int .i64 4]) ∧ Below w.heap.size w w' := by
  have HPR := Lib.hid (predecessors_range n A len cap ps m w hx hl hk hm)
  clear hx hl hk hm
  go_enter Try.func19, Try.ntmps19
  go_wp2_with fail
  refine HPR.out.mono ?_
  rintro e w1 ⟨rfl, hb1⟩
  go_wp2
  go_ret2
  exact ⟨rfl, hb1⟩

theorem bestIs : BestIs := ⟨fun n A len cap ps m w hx hl hk h1 h8 => best_ok n A len cap ps m w hx hl hk h1 h8, best_bad, best_range⟩

end Go.Proofs.Ythmcigdoaededaa
