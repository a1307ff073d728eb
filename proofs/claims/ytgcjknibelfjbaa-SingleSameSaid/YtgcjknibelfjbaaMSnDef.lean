/-
  Several texts in one: SnScope, SnAllow, SnOncely, SnDefs, SnOnce.
-/
import Derived.Test.YtgcjknibelfjbaaMapFun
import Derived.Test.YtgcjknibelfjbaaPureOnce
import Derived.Test.YtgcjknibelfjbaaSnCk
import Derived.Test.YtgcjknibelfjbaaMWay
import Derived.Test.YtgcjknibelfjbaaWords
import Derived.Deep.RegionWith
import Derived.BigQuiet
import Derived.IntWalk
import Derived.Test.YtgcjknibelfjbaaSnCheck
import Derived.Test.YtgcjknibelfjbaaMRule
import Derived.Deep.RegionHeld3

/-
  single's scope: allowsName, allows, allowsJoins, allowsBlock (M3).
-/

namespace Go.Proofs.Ytgcjknibelfjbaa
open Go.RowKit
set_option linter.unusedSimpArgs false
set_option linter.unusedVariables false
set_option maxRecDepth 100000

theorem below_drewNS {B : Nat} {X Y : World} (h : Below B X Y) (q : Nat) : Below B X (Y.drewN q) := ⟨h.os, h.tape, h.output, h.size, h.block⟩

/-- what is known of names, as values -/
def nmF (g : Int → Option (Int × Int)) : Value → Option Value
  | .int .i64 n => (g n).map fun p => .agg #[.int .i64 p.1, .int .i64 p.2]
  | _ => none

theorem name_keyed : Maps.Keyed Try.prog 3 := Maps.int_keyed Try.underlying3

theorem zero_pair (w : World) : (zeroValue 104).run Try.prog w = .ok (.agg #[.int .i64 0, .int .i64 0]) w := by kernel_rfl

theorem name_key {n : Int} (h : 0 ≤ n ∧ n < 128) : KeyV Try.prog 3 (.int .i64 n) := by
  have hw : (Lit.int .i64 n).wf = true := by
    simp only [Lit.wf, Bool.and_eq_true, decide_eq_true_eq]
    simp only [IntKind.min, IntKind.max, IntKind.bits, IntKind.signed]
    constructor
    · show (-9223372036854775808 : Int) ≤ n; omega
    · show (n : Int) ≤ 9223372036854775807; omega
  refine ⟨.int .i64 n, ?_⟩
  unfold keyOf
  rw [Try.underlying3]
  simp only [mapKey, Try.underlying3, hw]
  simp

theorem nmF_hit {g : Int → Option (Int × Int)} {n b q : Int} (h : g n = some (b, q)) : nmF g (.int .i64 n) = some (.agg #[.int .i64 b, .int .i64 q]) := by simp [nmF, h]

theorem nmF_miss {g : Int → Option (Int × Int)} {n : Int} (h : g n = none) : nmF g (.int .i64 n) = none := by simp [nmF, h]

set_option maxHeartbeats 8000000 in
theorem allowsName_any (g : Int → Option (Int × Int)) (T : List Nat) (m : Nat) (A : Option Addr) (n c : Nat) (i place name : Int) (w : World) (hm : OwnF Try.prog 3 w m (nmF g)) (hT : RdU w w.heap.size A T) (hTl : T.length = n) (hT8 : ∀ (k W : Nat), T[k]? = some W → W < 256)
    (hi : i = -1 ∨ (0 ≤ i ∧ i < n)) (hg : ∀ n b q, g n = some (b, q) → b = -1 ∨ (0 ≤ b ∧ b < 8)) (hn : 0 ≤ name ∧ name < 128) :
    Calls Try.prog 85 #[.agg #[.map (some m), .slice A n c], .int .i64 i, .int .i64 place, .int .i64 name] w fun e w' => e = .returned (.bool (alN g T i place name)) ∧ Below w.heap.size w w' := by
  have HTL := Lib.hid hTl
  have HT8 := Lib.hid hT8
  have hml := hm.lt
  cases hgn : g name with
  | none =>
    have hf := nmF_miss hgn
    have HF := Lib.hid hf
    rcases hi with rfl | ⟨h0, h1⟩
    · have hr : alN g T (-1) place name = false := by unfold alN; rw [hgn]; rfl
      rw [hr]
      clear hr hgn hf
      go_enter Try.func85, Try.ntmps85
      go_wp2_with (at_lookup; refine wpList_look_miss rfl (.tmp 13) (.tmp 14) 68 rfl name_keyed Try.underlying68 rfl (hm.alloc _) zero_pair rfl (name_key hn) HF.out ?_)
      go_ret
      exact ⟨rfl, by go_grown⟩
    · obtain ⟨k, rfl⟩ := Int.eq_ofNat_of_zero_le h0
      have hk : k < n := by omega
      obtain ⟨ad, W, rfl, hbl, hd, hcell⟩ := hT.at_ (k := k) (by rw [hTl]; exact hk)
      have hW := hT8 k W hd
      have hr : alN g T (k : Int) place name = decide (W = 0) := by
        unfold alN
        rw [hgn]
        simp only []
        rw [if_neg (by omega), Int.toNat_natCast, List.getD_eq_getElem?_getD, hd]
        rfl
      rw [hr]
      have hk1 : ((k : Int) == -1) = false := by simp
      by_cases hW0 : W = 0
      · have hw0 : (((W : Nat) : Int) == 0) = true := by simp [hW0]
        have HD : Hid (decide (W = 0) = true) := Lib.hid (by simp [hW0])
        rw [HD.out]
        clear hr hgn hf hd hW0
        go_enter Try.func85, Try.ntmps85
        go_wp2_with (at_lookup; refine wpList_look_miss rfl (.tmp 13) (.tmp 14) 68 rfl name_keyed Try.underlying68 rfl (hm.alloc _) zero_pair rfl (name_key hn) HF.out ?_)
        go_ret
        exact ⟨rfl, by go_grown⟩
      · have hw0 : (((W : Nat) : Int) == 0) = false := by simp; omega
        have HD : Hid (decide (W = 0) = false) := Lib.hid (by simp [hW0])
        rw [HD.out]
        clear hr hgn hf hd hW0
        go_enter Try.func85, Try.ntmps85
        go_wp2_with (at_lookup; refine wpList_look_miss rfl (.tmp 13) (.tmp 14) 68 rfl name_keyed Try.underlying68 rfl (hm.alloc _) zero_pair rfl (name_key hn) HF.out ?_)
        go_quiet (fail)
        go_wp2
        go_ret
        exact ⟨rfl, below_drewNS (by go_grown) _⟩
  | some x =>
    obtain ⟨b, q⟩ := x
    have hf := nmF_hit hgn
    have HF := Lib.hid hf
    rcases hg name b q hgn with rfl | ⟨hb0, hb8⟩
    · have hr : alN g T i place name = true := by unfold alN; rw [hgn]; rfl
      rw [hr]
      clear hr hgn hf hg
      go_enter Try.func85, Try.ntmps85
      go_wp2_with (at_lookup; refine wpList_look_hit rfl (.tmp 13) (.tmp 14) 68 rfl name_keyed Try.underlying68 rfl (hm.alloc _) zero_pair rfl (name_key hn) HF.out ?_)
      go_ret
      exact ⟨rfl, by go_grown⟩
    · obtain ⟨bn, rfl⟩ := Int.eq_ofNat_of_zero_le hb0
      have hb1 : ((bn : Int) == -1) = false := by simp
      rcases hi with rfl | ⟨h0, h1⟩
      · have hr : alN g T (-1) place name = false := by
          unfold alN
          rw [hgn]
          simp only []
          rw [if_neg (by omega)]
          exact if_pos trivial
        rw [hr]
        clear hr hgn hf hg
        go_enter Try.func85, Try.ntmps85
        go_wp2_with (at_lookup; refine wpList_look_hit rfl (.tmp 13) (.tmp 14) 68 rfl name_keyed Try.underlying68 rfl (hm.alloc _) zero_pair rfl (name_key hn) HF.out ?_)
        go_ret
        exact ⟨rfl, by go_grown⟩
      · obtain ⟨k, rfl⟩ := Int.eq_ofNat_of_zero_le h0
        have hk : k < n := by omega
        obtain ⟨ad, W, rfl, hbl, hd, hcell⟩ := hT.at_ (k := k) (by rw [hTl]; exact hk)
        have hW := hT8 k W hd
        have hW32 : W < 4294967296 := by omega
        have hbn32 : bn < 32 := by omega
        have hr : alN g T (k : Int) place name = if W = 0 then true else if bn = k then decide (q < place) else W.testBit bn := by
          unfold alN
          rw [hgn]
          simp only []
          rw [if_neg (by omega), if_neg (by omega), Int.toNat_natCast, Int.toNat_natCast, List.getD_eq_getElem?_getD, hd, Option.getD_some]
          by_cases e : bn = k
          · have e' : (bn : Int) = (k : Int) := by omega
            simp only [e, e', if_true]
          · have e' : ¬ ((bn : Int) = (k : Int)) := by omega
            simp only [e, e', if_false]
        rw [hr]
        have hk1 : ((k : Int) == -1) = false := by simp
        by_cases hW0 : W = 0
        · have hw0 : (((W : Nat) : Int) == 0) = true := by simp [hW0]
          rw [if_pos hW0]
          clear hr hgn hf hd hW0 hg
          go_enter Try.func85, Try.ntmps85
          go_wp2_with (at_lookup; refine wpList_look_hit rfl (.tmp 13) (.tmp 14) 68 rfl name_keyed Try.underlying68 rfl (hm.alloc _) zero_pair rfl (name_key hn) HF.out ?_)
          go_ret
          exact ⟨rfl, by go_grown⟩
        · have hw0 : (((W : Nat) : Int) == 0) = false := by simp; omega
          rw [if_neg hW0]
          by_cases hbk : bn = k
          · have he : ((bn : Int) == (k : Int)) = true := by simp [hbk]
            rw [if_pos hbk]
            clear hr hgn hf hd hW0 hg hbk
            go_enter Try.func85, Try.ntmps85
            go_wp2_with (at_lookup; refine wpList_look_hit rfl (.tmp 13) (.tmp 14) 68 rfl name_keyed Try.underlying68 rfl (hm.alloc _) zero_pair rfl (name_key hn) HF.out ?_)
            go_ret
            exact ⟨rfl, by go_grown⟩
          · have he : ((bn : Int) == (k : Int)) = false := by simp; omega
            rw [if_neg hbk]
            obtain ⟨B, hB⟩ : ∃ B, W.testBit bn = B := ⟨_, rfl⟩
            have HHAS : Hid (∀ Z : World, Calls Try.prog 70 #[.int .u32 (W : Nat), .int .i64 bn] Z fun e w' => e = .returned (.bool B) ∧ Z = w') := Lib.hid fun Z => by rw [← hB]; exact wayHas_any W bn Z hW32 hbn32
            rw [hB]
            clear hr hgn hf hd hW0 hg hbk hB
            go_enter Try.func85, Try.ntmps85
            go_wp2_with (at_lookup; refine wpList_look_hit rfl (.tmp 13) (.tmp 14) 68 rfl name_keyed Try.underlying68 rfl (hm.alloc _) zero_pair rfl (name_key hn) HF.out ?_)
            go_quiet ((go_at_call 70; exact Calls.quiet_of_same ((HHAS.out _).mono fun _ _ h => ⟨h.1, h.2.symm⟩)))
            go_wp2
            go_ret
            exact ⟨rfl, below_drewNS (by go_grown) _⟩

/-- what the scope says -/
structure Scp (w : World) (m : Nat) (g : Int → Option (Int × Int)) (T : List Nat) (A : Option Addr) (n : Nat) : Prop where
  map : OwnF Try.prog 3 w m (nmF g)
  tab : RdU w w.heap.size A T
  len : T.length = n
  lt : ∀ (k W : Nat), T[k]? = some W → W < 256
  blk : ∀ n b q, g n = some (b, q) → b = -1 ∨ (0 ≤ b ∧ b < 8)

theorem Scp.quiet {w w' : World} {m : Nat} {g : Int → Option (Int × Int)} {T : List Nat} {A : Option Addr} {n : Nat} (h : Scp w m g T A n) (hb : Below w.heap.size w w') : Scp w' m g T A n :=
  ⟨h.map.below hb h.map.lt, (h.tab.below hb (Nat.le_refl _)).more hb.size, h.len, h.lt, h.blk⟩

def alAll (g : Int → Option (Int × Int)) (T : List Nat) (i place : Int) (xs : List Int) : Bool := xs.all (alN g T i place)

theorem alAll_drop {g : Int → Option (Int × Int)} {T : List Nat} {i place : Int} {xs : List Int} {k : Nat} {x : Int} (h : xs[k]? = some x) : alAll g T i place (xs.drop k) = (alN g T i place x && alAll g T i place (xs.drop (k + 1))) := by
  rw [drop_at h]
  rfl

set_option maxHeartbeats 4000000 in
theorem allows_any (g : Int → Option (Int × Int)) (T : List Nat) (m : Nat) (A Ax : Option Addr) (n c nx cx : Nat) (i place : Int) (xs : List Int) (w : World) (hs : Scp w m g T A n) (hx : RdI w w.heap.size Ax xs) (hxl : xs.length = nx) (hxm : nx ≤ 64) (hok : nmsOk xs = true) (hi : i = -1 ∨ (0 ≤ i ∧ i < n)) :
    Calls Try.prog 65 #[.agg #[.map (some m), .slice A n c], .int .i64 i, .int .i64 place, .slice Ax nx cx] w fun e w' => e = .returned (.bool (alAll g T i place xs)) ∧ Below w.heap.size w w' := by
  have HXL := Lib.hid hxl
  have HOK := Lib.hid hok
  have HS := Lib.hid hs
  have HI := Lib.hid hi
  obtain ⟨R, hR⟩ : ∃ R, alAll g T i place xs = R := ⟨_, rfl⟩
  have HR0 : Hid (R = alAll g T i place (xs.drop 0)) := Lib.hid hR.symm
  rw [hR]
  clear hxl hok hs hi hR
  have hbox := Own.new w 75 [.map (some m), .slice A n c]
  go_enter Try.func65, Try.ntmps65
  go_wp2
  go_loopw [13] (fun z wr => ∃ k : Nat, k ≤ nx ∧ z = .int .i64 k ∧ R = alAll g T i place (xs.drop k) ∧ Own wr w.heap.size 75 [.map (some m), .slice A n c] ∧ Below w.heap.size w wr) (fun z _ => nx - (intOf z).toNat)
  case atStart => exact ⟨0, Nat.zero_le _, rfl, HR0.out, hbox, by go_grown⟩
  case round =>
    obtain ⟨k, hk, rfl, hr, hbx, hb⟩ := hrel
    have HR := Lib.hid hr
    have HBX := Lib.hid hbx
    have hsz := hb.size
    have hbl := hbx.lt
    clear hr
    by_cases hlt : k < nx
    · obtain ⟨ad, x, rfl, hbl2, hd, hcell⟩ := (hx.below hb (Nat.le_refl _)).at_ (k := k) (by rw [HXL.out]; exact hlt)
      have hnm := nmsOk_at HOK.out (List.mem_of_getElem? hd)
      have HD := Lib.hid (alAll_drop (g := g) (T := T) (i := i) (place := place) hd)
      have hsr := HS.out.quiet hb
      obtain ⟨q, hq⟩ : ∃ q, alN g T i place x = q := ⟨_, rfl⟩
      have HAN := Lib.hid (allowsName_any g T m A n c i place x wr hsr.map hsr.tab hsr.len hsr.lt HI.out hsr.blk hnm)
      rw [hq] at HAN HD
      have p0 := hbx.cell (j := 0) rfl
      have p1 := hbx.cell (j := 1) rfl
      clear hd hq hsr hbx hnm
      cases q
      · have HE : Hid (R = false) := Lib.hid (by rw [HR.out, HD.out]; rfl)
        go_wp2_with (go_at_call 85; (with_reducible refine HAN.out.mono ?_); rintro e w2 ⟨rfl, hb2⟩)
        go_ret
        exact ⟨ret_bool HE.out.symm, hb.trans (hb2.mono hsz)⟩
      · have HE : Hid (R = alAll g T i place (xs.drop (k + 1))) := Lib.hid (by rw [HR.out, HD.out]; rfl)
        go_wp2_with (go_at_call 85; (with_reducible refine HAN.out.mono ?_); rintro e w2 ⟨rfl, hb2⟩)
        go_round
        case rel => exact ⟨k + 1, by omega, by go_num, HE.out, HBX.out.below hb2 hbl, hb.trans (hb2.mono hsz)⟩
        case measure => (simp [intOf]; omega)
    · have HE : Hid (R = true) := Lib.hid (by rw [HR.out, List.drop_of_length_le (by rw [HXL.out]; omega)]; rfl)
      clear hbx
      go_wp2
      go_ret
      exact ⟨ret_bool HE.out.symm, hb⟩

/-- one join, from each source -/
def alJ1 (g : Int → Option (Int × Int)) (T : List Nat) : List Int → List Int → Bool
  | f :: ss, n :: ns => alN g T f 21 n && alJ1 g T ss ns
  | _, _ => true

def alJ (g : Int → Option (Int × Int)) (T : List Nat) (srcs : List Int) (js : List Jn) : Bool := js.all fun j => alJ1 g T srcs j.fr

theorem alJ1_drop {g : Int → Option (Int × Int)} {T : List Nat} {ss ns : List Int} {k : Nat} {f n : Int} (h : ss[k]? = some f) (h2 : ns[k]? = some n) : alJ1 g T (ss.drop k) (ns.drop k) = (alN g T f 21 n && alJ1 g T (ss.drop (k + 1)) (ns.drop (k + 1))) := by
  rw [drop_at h, drop_at h2]
  rfl

theorem alJ1_over {g : Int → Option (Int × Int)} {T : List Nat} {ss ns : List Int} {k : Nat} (h : ss.length ≤ k) : alJ1 g T (ss.drop k) (ns.drop k) = true := by
  rw [List.drop_of_length_le h]
  unfold alJ1
  rfl

theorem alJ_drop {g : Int → Option (Int × Int)} {T : List Nat} {ss : List Int} {js : List Jn} {k : Nat} {j : Jn} (h : js[k]? = some j) : alJ g T ss (js.drop k) = (alJ1 g T ss j.fr && alJ g T ss (js.drop (k + 1))) := by
  rw [drop_at h]
  rfl

set_option maxHeartbeats 8000000 in
theorem allowsJoins_any (g : Int → Option (Int × Int)) (T : List Nat) (m : Nat) (A Aj As : Option Addr) (n c nj cj ns cs : Nat) (js : List Jn) (ss : List Int) (w : World) (hs : Scp w m g T A n) (hj : RdJ w w.heap.size Aj js) (hr : RdI w w.heap.size As ss) (hjl : js.length = nj) (hsl : ss.length = ns) (hjm : nj ≤ 64) (hsm : ns ≤ 9) (hok : ∀ j ∈ js, ckJn ns j = 0)
    (hi : ∀ f ∈ ss, f = -1 ∨ (0 ≤ f ∧ f < n)) :
    Calls Try.prog 35 #[.agg #[.map (some m), .slice A n c], .slice Aj nj cj, .slice As ns cs] w fun e w' => e = .returned (.bool (alJ g T ss js)) ∧ Below w.heap.size w w' := by
  have HJL := Lib.hid hjl
  have HSL := Lib.hid hsl
  have HOK := Lib.hid hok
  have HS := Lib.hid hs
  have HI := Lib.hid hi
  have HRJ := Lib.hid hj
  have HRS := Lib.hid hr
  obtain ⟨R, hR⟩ : ∃ R, alJ g T ss js = R := ⟨_, rfl⟩
  have HR0 : Hid (R = alJ g T ss (js.drop 0)) := Lib.hid hR.symm
  rw [hR]
  clear hjl hsl hok hs hi hR hj hr
  have hbox := Own.new w 75 [.map (some m), .slice A n c]
  go_enter Try.func35, Try.ntmps35
  go_wp2
  go_loopw [13] (fun z wr => ∃ k : Nat, k ≤ nj ∧ z = .int .i64 k ∧ R = alJ g T ss (js.drop k) ∧ Own wr w.heap.size 75 [.map (some m), .slice A n c] ∧ Below w.heap.size w wr) (fun z _ => nj - (intOf z).toNat)
  case atStart => exact ⟨0, Nat.zero_le _, rfl, HR0.out, hbox, by go_grown⟩
  case round =>
    obtain ⟨k, hk, rfl, hr, hbx, hb⟩ := hrel
    have HR := Lib.hid hr
    have HBX := Lib.hid hbx
    have hsz := hb.size
    have hbl := hbx.lt
    clear hr hbox
    by_cases hlt : k < nj
    · obtain ⟨ad2, ⟨to, fr⟩, Af, cf, rfl, hbl2, hd2, hrf, e0, e1, _⟩ := (HRJ.out.below hb (Nat.le_refl _)).at_ (k := k) (by rw [HJL.out]; exact hlt)
      have hjo := ckJn_ok (HOK.out _ (List.mem_of_getElem? hd2))
      simp only [] at e0 e1 hrf hjo
      obtain ⟨hfl, _, hfo⟩ := hjo
      have hfl2 : fr.length = ns := hfl
      rw [hfl2] at e1
      have HFL := Lib.hid hfl2
      have HFO := Lib.hid hfo
      have HRF := Lib.hid hrf
      have HDJ := Lib.hid (alJ_drop (g := g) (T := T) (ss := ss) hd2)
      simp only [] at HDJ
      have hbl2r : (ad2.add (k * 2)).block < wr.heap.size := by omega
      obtain ⟨wo, rfl⟩ : ∃ wo : World, wo = wr := ⟨_, rfl⟩
      have HT1 : Hid (alJ1 g T ss fr = alJ1 g T (ss.drop 0) (fr.drop 0)) := Lib.hid rfl
      have hjb := Own.new wo 59 [.int .i64 to, .slice Af ns cf]
      have HJB := Lib.hid hjb
      have HBX1 := Lib.hid (hbx.alloc (.cells #[.int .i64 to, .slice Af ns cf] 59))
      clear hd2 hfl hfl2 hfo hrf hjb hbx
      go_wp2
      go_loopw [19] (fun z wr => ∃ p : Nat, p ≤ ns ∧ z = .int .i64 p ∧ alJ1 g T ss fr = alJ1 g T (ss.drop p) (fr.drop p) ∧ Own wr w.heap.size 75 [.map (some m), .slice A n c] ∧ Own wr wo.heap.size 59 [.int .i64 to, .slice Af ns cf] ∧ Below wo.heap.size wo wr) (fun z _ => ns - (intOf z).toNat)
      case atStart => exact ⟨0, Nat.zero_le _, rfl, HT1.out, HBX1.out, HJB.out, by go_grown⟩
      case round =>
        obtain ⟨p, hp, rfl, hrp, hbx, hjb, hbp⟩ := hrel
        have HRP := Lib.hid hrp
        have HBX2 := Lib.hid hbx
        have HJB2 := Lib.hid hjb
        have hszp := hbp.size
        have hblp := hbx.lt
        have hblj := hjb.lt
        have hbw : Below w.heap.size w wr := hb.trans (hbp.mono hsz)
        clear hrp
        by_cases hpt : p < ns
        · obtain ⟨ad4, f, rfl, hbl4, hd4, hc4⟩ := (HRS.out.below hbw (Nat.le_refl _)).at_ (k := p) (by rw [HSL.out]; exact hpt)
          obtain ⟨ad6, x, rfl, hbl6, hd6, hc6⟩ := (HRF.out.below (hbp.mono hsz) (Nat.le_refl _)).at_ (k := p) (by rw [HFL.out]; exact hpt)
          have hx := nmsOk_at HFO.out (List.mem_of_getElem? hd6)
          have hfi := HI.out f (List.mem_of_getElem? hd4)
          have HD4 := Lib.hid (alJ1_drop (g := g) (T := T) hd4 hd6)
          obtain ⟨q, hq⟩ : ∃ q, alN g T f 21 x = q := ⟨_, rfl⟩
          have hal : alAll g T f 21 [x] = q := by rw [← hq]; simp [alAll]
          have HAL := Lib.hid (fun (Z : World) (ap : Addr) (ca : Nat) (hZ : Below wr.heap.size wr Z) (hc : Z.cell? ap = some (.int .i64 x)) => allows_any g T m A (some ap) n c 1 ca f 21 [x] Z (HS.out.quiet (hbw.trans (hZ.mono hbw.size))) ((rdI_one hc).more (block_lt hc)) rfl (by omega) (by simp [nmsOk, isNm_iff.2 hx]) hfi)
          rw [hal] at HAL
          rw [hq] at HD4
          have p0 := hbx.cell (j := 0) rfl
          have p1 := hbx.cell (j := 1) rfl
          have j1 := hjb.cell (j := 1) rfl
          have hb4r : (ad4.add p).block < wr.heap.size := by omega
          have hb6r : (ad6.add p).block < wr.heap.size := by omega
          have hZb : Below wr.heap.size wr (wr.alloc (.cells #[.int .i64 x] 3)).drew := Below.drew (by go_grown)
          have hZc : (wr.alloc (.cells #[.int .i64 x] 3)).drew.cell? ⟨wr.heap.size, 0, none⟩ = some (.int .i64 x) := by simp
          have HAL2 := Lib.hid (HAL.out _ ⟨wr.heap.size, 0, none⟩ 1 hZb hZc)
          clear hd4 hd6 hq hal hbx hjb hfi hx hZb hZc HAL
          cases q
          · have HE : Hid (R = false) := Lib.hid (by rw [HR.out, HDJ.out, HRP.out, HD4.out]; rfl)
            go_wp2
            go_region_with (go_at_call 65; (with_reducible refine HAL2.out.mono ?_); rintro e w2 ⟨rfl, hb2⟩; have hb3 : Below wr.heap.size wr w2 := Below.trans (Below.drew (by go_grown) : Below wr.heap.size wr (wr.alloc (.cells #[.int .i64 x] 3)).drew) (hb2.mono (by go_size)))
            all_goals
              go_wp2
              go_ret
              exact ⟨ret_bool HE.out.symm, hbw.trans (hb3.mono hbw.size)⟩
          · have HE : Hid (alJ1 g T ss fr = alJ1 g T (ss.drop (p + 1)) (fr.drop (p + 1))) := Lib.hid (by rw [HRP.out, HD4.out]; rfl)
            go_wp2
            go_region_with (go_at_call 65; (with_reducible refine HAL2.out.mono ?_); rintro e w2 ⟨rfl, hb2⟩; have hb3 : Below wr.heap.size wr w2 := Below.trans (Below.drew (by go_grown) : Below wr.heap.size wr (wr.alloc (.cells #[.int .i64 x] 3)).drew) (hb2.mono (by go_size)))
            all_goals
              go_wp2
              go_round
              case rel => exact ⟨p + 1, by omega, by go_num, HE.out, HBX2.out.below hb3 hblp, HJB2.out.below hb3 hblj, hbp.trans (hb3.mono hszp)⟩
              case measure => (simp [intOf]; omega)
        · have HE : Hid (R = alJ g T ss (js.drop (k + 1))) := Lib.hid (by rw [HR.out, HDJ.out, HRP.out, alJ1_over (by rw [HSL.out]; omega)]; rfl)
          clear hbx hjb
          go_wp2
          go_round
          case rel => exact ⟨k + 1, by omega, by go_num, HE.out, HBX2.out, hbw⟩
          case measure => (simp [intOf]; omega)
    · have HE : Hid (R = true) := Lib.hid (by rw [HR.out, List.drop_of_length_le (by rw [HJL.out]; omega)]; rfl)
      clear hbx
      go_wp2
      go_ret
      exact ⟨ret_bool HE.out.symm, hb⟩

end Go.Proofs.Ytgcjknibelfjbaa

/-
  single's scope: allowsBlock (M3).
-/

namespace Go.Proofs.Ytgcjknibelfjbaa
open Go.RowKit
set_option linter.unusedSimpArgs false
set_option linter.unusedVariables false
set_option maxRecDepth 100000

def alC (g : Int → Option (Int × Int)) (T : List Nat) (i : Int) : Nat → List St → Bool
  | _, [] => true
  | k, s :: r => alAll g T i (1 + (k : Int)) (opsN s.op s.a s.b s.v) && alC g T i (k + 1) r

def alB (g : Int → Option (Int × Int)) (T : List Nat) (i : Int) (s : Sg) : Bool := alC g T i 0 s.code && ((decide (s.test = -1) || alN g T i 21 s.test) && alAll g T i 21 s.last)

theorem alC_drop {g : Int → Option (Int × Int)} {T : List Nat} {i : Int} {co : List St} {k : Nat} {s : St} (h : co[k]? = some s) : alC g T i k (co.drop k) = (alAll g T i (1 + (k : Int)) (opsN s.op s.a s.b s.v) && alC g T i (k + 1) (co.drop (k + 1))) := by
  rw [drop_at h]
  rfl

theorem alC_over {g : Int → Option (Int × Int)} {T : List Nat} {i : Int} {co : List St} {k : Nat} (h : co.length ≤ k) : alC g T i k (co.drop k) = true := by
  rw [List.drop_of_length_le h]
  rfl

theorem ckStN_ops {o t a b v : Int} (h : ckStN ⟨o, t, a, b, v⟩ = 0) : (0 ≤ t ∧ t < 128) ∧ nmsOk (opsN o a b v) = true := by
  by_cases hbad : o ≠ 2 ∧ ckOpn 0 o v ≠ 0
  · rw [ckStN_first hbad.1 hbad.2] at h
    exact absurd h hbad.2
  · have h2 := ckStN_then (t := t) (a := a) (b := b) (v := v) (o := o) (by
      by_cases h : o = 2
      · exact .inl h
      · exact .inr (Classical.byContradiction fun h2 => hbad ⟨h, h2⟩))
    rw [h2] at h
    split at h
    · rename_i h3; exact ⟨isNm_iff.1 h3.1, h3.2⟩
    · cases h

set_option maxHeartbeats 8000000 in
theorem allowsBlock_any (g : Int → Option (Int × Int)) (T : List Nat) (m i : Nat) (A Aj Ac Al : Option Addr) (n c n2 cj n1 cc n3 cl : Nat) (js : List Jn) (co : List St) (te th el : Int) (la : List Int) (w : World) (hs : Scp w m g T A n) (hc : RdS w w.heap.size Ac co) (hl : RdI w w.heap.size Al la)
    (hcl : co.length = n1) (hll : la.length = n3) (b1 : n1 ≤ 20) (b3 : n3 ≤ 6) (hi : i < n) (hco : ckStNs co = 0) (hte : -1 ≤ te ∧ te < 128) (hla : ∀ x ∈ la, 0 ≤ x ∧ x < 128) :
    Calls Try.prog 36 #[.agg #[.map (some m), .slice A n c], .int .i64 i, .agg #[.slice Aj n2 cj, .slice Ac n1 cc, .int .i64 te, .int .i64 th, .int .i64 el, .slice Al n3 cl]] w fun e w' => e = .returned (.bool (alB g T i ⟨js, co, te, th, el, la⟩)) ∧ Below w.heap.size w w' := by
  have HCL := Lib.hid hcl
  have HCO := Lib.hid hco
  have HS := Lib.hid hs
  have HRC := Lib.hid hc
  have hii : (i : Int) = -1 ∨ (0 ≤ (i : Int) ∧ (i : Int) < n) := by omega
  have hok : nmsOk la = true := List.all_eq_true.2 fun x hx => isNm_iff.2 (hla x hx)
  have HLA := Lib.hid (fun (Z : World) (hZ : Below w.heap.size w Z) => allows_any g T m A Al n c n3 cl i 21 la Z (HS.out.quiet hZ) ((hl.below hZ (Nat.le_refl _)).more hZ.size) hll (by omega) hok hii)
  obtain ⟨qL, hqL⟩ : ∃ q, alAll g T i 21 la = q := ⟨_, rfl⟩
  rw [hqL] at HLA
  obtain ⟨R, hR⟩ : ∃ R, alB g T i ⟨js, co, te, th, el, la⟩ = R := ⟨_, rfl⟩
  have HRR : Hid (R = (alC g T i 0 co && ((decide (te = -1) || alN g T i 21 te) && qL))) := Lib.hid (by rw [← hR, ← hqL]; rfl)
  rw [hR]
  clear hcl hco hs hc hl hll hla hok hqL hR
  have hbox := Own.new w 75 [.map (some m), .slice A n c]
  have hbox2 := Own.new (w.alloc (.cells #[.map (some m), .slice A n c] 75)) 43 [.slice Aj n2 cj, .slice Ac n1 cc, .int .i64 te, .int .i64 th, .int .i64 el, .slice Al n3 cl]
  have hbox1 := hbox.alloc (.cells #[.slice Aj n2 cj, .slice Ac n1 cc, .int .i64 te, .int .i64 th, .int .i64 el, .slice Al n3 cl] 43)
  have HBOX1 := Lib.hid hbox1
  have HBOX2 : Hid (Own ((w.alloc (.cells #[.map (some m), .slice A n c] 75)).alloc (.cells #[.slice Aj n2 cj, .slice Ac n1 cc, .int .i64 te, .int .i64 th, .int .i64 el, .slice Al n3 cl] 43)) (w.heap.size + 1) 43 [.slice Aj n2 cj, .slice Ac n1 cc, .int .i64 te, .int .i64 th, .int .i64 el, .slice Al n3 cl]) := Lib.hid (by simpa using hbox2)
  have HC0 : Hid (alC g T i 0 co = alC g T i 0 (co.drop 0)) := Lib.hid rfl
  clear hbox hbox1 hbox2
  go_enter Try.func36, Try.ntmps36
  go_wp2
  go_loopw [12] (fun z wr => ∃ k : Nat, k ≤ n1 ∧ z = .int .i64 k ∧ alC g T i 0 co = alC g T i k (co.drop k) ∧ Own wr w.heap.size 75 [.map (some m), .slice A n c] ∧ Own wr (w.heap.size + 1) 43 [.slice Aj n2 cj, .slice Ac n1 cc, .int .i64 te, .int .i64 th, .int .i64 el, .slice Al n3 cl] ∧ Below w.heap.size w wr) (fun z _ => n1 - (intOf z).toNat)
  case atStart => exact ⟨0, Nat.zero_le _, rfl, HC0.out, HBOX1.out, HBOX2.out, by go_grown⟩
  case round =>
    obtain ⟨k, hk, rfl, hr, hbx, hbx2, hb⟩ := hrel
    have HR := Lib.hid hr
    have HBX := Lib.hid hbx
    have HBX2 := Lib.hid hbx2
    have hsz := hb.size
    have hbl := hbx.lt
    have hbl2 := hbx2.lt
    clear hr
    by_cases hlt : k < n1
    · obtain ⟨ad2, o, t, a, b, v, rfl, hblc, hd2, e0, e1, e2, e3, e4⟩ := (RdS.below HRC.out hb (Nat.le_refl _)).at_ (k := k) (by rw [HCL.out]; exact hlt)
      have hops := (ckStN_ops (ckStNs_at HCO.out hd2)).2
      have HD := Lib.hid (alC_drop (g := g) (T := T) (i := (i : Int)) hd2)
      simp only [] at HD
      have hol := opsN_len o a b v
      have HOP := Lib.hid (operands_any o t a b v)
      obtain ⟨N, hN⟩ : ∃ N, opsN o a b v = N := ⟨_, rfl⟩
      obtain ⟨mN, hmN⟩ : ∃ m, N.length = m := ⟨_, rfl⟩
      rw [hN] at HD HOP hol hops
      rw [hmN] at HOP hol
      obtain ⟨q, hq⟩ : ∃ q, alAll g T i (1 + (k : Int)) N = q := ⟨_, rfl⟩
      have HAL := Lib.hid (fun (Z : World) (A' : Option Addr) (c' : Nat) (hZ : Below wr.heap.size wr Z) (hx : RdI Z Z.heap.size A' N) => allows_any g T m A A' n c mN c' i (1 + (k : Int)) N Z (HS.out.quiet (hb.trans (hZ.mono hsz))) hx hmN (by omega) hops hii)
      rw [hq] at HAL HD
      have hbl2c : (ad2.add (k * 5)).block < wr.heap.size := by omega
      have hwrap : IntKind.i64.wrap (1 + (k : Int)) = 1 + (k : Int) := IntWalk.i64_in _ ⟨by omega, by omega⟩
      have p0 := hbx.cell (j := 0) rfl
      have p1 := hbx.cell (j := 1) rfl
      clear hd2 hN hmN hq hops hbx hbx2
      cases q
      · have HE : Hid (R = false) := Lib.hid (by rw [HRR.out, HR.out, HD.out]; rfl)
        go_wp2
        go_region_with (first
          | (go_at_call 66; (with_reducible refine (HOP.out _).mono ?_); rintro e w5 ⟨A5, c5, rfl, hr5, hb5⟩; have HR5 := Lib.hid hr5; have hb5' : Below wr.heap.size wr w5 := Below.trans (by go_grown) (hb5.mono (by go_size)); have HB5 := Lib.hid hb5'; have p0' := (hb5'.cell (p := ⟨w.heap.size, 0, none⟩) (by omega)).trans p0; have p1' := (hb5'.cell (p := ⟨w.heap.size, 1, none⟩) (by omega)).trans p1; clear hr5 hb5)
          | (go_at_call 65; (with_reducible refine (HAL.out _ _ _ HB5.out HR5.out).mono ?_); rintro e w2 ⟨rfl, hb2⟩; have hb3 : Below wr.heap.size wr w2 := HB5.out.trans (hb2.mono HB5.out.size)))
        all_goals
          go_wp2
          go_ret
          exact ⟨ret_bool HE.out.symm, hb.trans (hb3.mono hsz)⟩
      · have HE : Hid (alC g T i 0 co = alC g T i (k + 1) (co.drop (k + 1))) := Lib.hid (by rw [HR.out, HD.out]; rfl)
        go_wp2
        go_region_with (first
          | (go_at_call 66; (with_reducible refine (HOP.out _).mono ?_); rintro e w5 ⟨A5, c5, rfl, hr5, hb5⟩; have HR5 := Lib.hid hr5; have hb5' : Below wr.heap.size wr w5 := Below.trans (by go_grown) (hb5.mono (by go_size)); have HB5 := Lib.hid hb5'; have p0' := (hb5'.cell (p := ⟨w.heap.size, 0, none⟩) (by omega)).trans p0; have p1' := (hb5'.cell (p := ⟨w.heap.size, 1, none⟩) (by omega)).trans p1; clear hr5 hb5)
          | (go_at_call 65; (with_reducible refine (HAL.out _ _ _ HB5.out HR5.out).mono ?_); rintro e w2 ⟨rfl, hb2⟩; have hb3 : Below wr.heap.size wr w2 := HB5.out.trans (hb2.mono HB5.out.size)))
        all_goals
          go_wp2
          go_round
          case rel => exact ⟨k + 1, by omega, by go_num, HE.out, HBX.out.below hb3 hbl, HBX2.out.below hb3 hbl2, hb.trans (hb3.mono hsz)⟩
          case measure => (simp [intOf]; omega)
    · have hall : alC g T i 0 co = true := by rw [HR.out]; exact alC_over (by rw [HCL.out]; omega)
      have HE : Hid (R = ((decide (te = -1) || alN g T i 21 te) && qL)) := Lib.hid (by rw [HRR.out, hall]; rfl)
      have p0 := hbx.cell (j := 0) rfl
      have p1 := hbx.cell (j := 1) rfl
      have s2 := hbx2.cell (j := 2) rfl
      have s5 := hbx2.cell (j := 5) rfl
      clear hall hbx hbx2
      by_cases ht : te = -1
      · have f1 : (te == -1) = true := by simp [ht]
        have HE2 : Hid (R = qL) := Lib.hid (by rw [HE.out, ht]; simp)
        clear ht
        go_wp2_with (go_at_call 65; (with_reducible refine (HLA.out _ hb).mono ?_); rintro e w2 ⟨rfl, hb2⟩)
        go_ret
        exact ⟨ret_bool HE2.out.symm, hb.trans (hb2.mono hsz)⟩
      · have f1 : (te == -1) = false := by simp [ht]
        obtain ⟨qT, hqT⟩ : ∃ q, alN g T i 21 te = q := ⟨_, rfl⟩
        have HE2 : Hid (R = (qT && qL)) := Lib.hid (by rw [HE.out, hqT]; simp [ht])
        have hte2 : 0 ≤ te ∧ te < 128 := by omega
        have hal : alAll g T i 21 [te] = qT := by rw [← hqT]; simp [alAll]
        have HAT := Lib.hid (fun (Z : World) (ap : Addr) (ca : Nat) (hZ : Below wr.heap.size wr Z) (hc : Z.cell? ap = some (.int .i64 te)) => allows_any g T m A (some ap) n c 1 ca i 21 [te] Z (HS.out.quiet (hb.trans (hZ.mono hsz))) ((rdI_one hc).more (block_lt hc)) rfl (by omega) (by simp [nmsOk, isNm_iff.2 hte2]) hii)
        rw [hal] at HAT
        clear ht hqT hal
        go_wp2_with fail
        (with_reducible refine (HAT.out _ _ _ (by go_grown) (cell_new (by simp) rfl)).mono ?_)
        rintro e w2 ⟨rfl, hb2⟩
        have hb3 : Below wr.heap.size wr w2 := Below.trans (by go_grown) (hb2.mono (by go_size))
        have hbw3 := hb.trans (hb3.mono hsz)
        have p0' := (hb3.cell (p := ⟨w.heap.size, 0, none⟩) (by omega)).trans p0
        have p1' := (hb3.cell (p := ⟨w.heap.size, 1, none⟩) (by omega)).trans p1
        have s5' := (hb3.cell (p := ⟨w.heap.size + 1, 5, none⟩) (by omega)).trans s5
        have hsz3 := hbw3.size
        clear p0 p1 s2 s5 hb2
        cases qT
        · go_wp2
          go_ret
          exact ⟨ret_bool (by rw [HE2.out]; rfl), hbw3⟩
        · go_wp2_with (go_at_call 65; (with_reducible refine (HLA.out _ hbw3).mono ?_); rintro e w4 ⟨rfl, hb4⟩)
          go_ret
          exact ⟨ret_bool (by rw [HE2.out]; rfl), hbw3.trans (hb4.mono hsz3)⟩

end Go.Proofs.Ytgcjknibelfjbaa

/-
  What single.Once looks at, and M3: plain.
-/

namespace Go.Proofs.Ytgcjknibelfjbaa
open Go.RowKit
set_option linter.unusedSimpArgs false
set_option linter.unusedVariables false
set_option maxRecDepth 100000

/-- whose ways lead into it -/
theorem nxP_wayS' {p : List Bk} (h1 : 1 ≤ p.length) (h2 : p.length ≤ 8) (h : ∀ b ∈ p, (b.th = -1 ∨ (0 ≤ b.th ∧ b.th < p.length)) ∧ (b.test ≠ -1 → 0 ≤ b.el ∧ b.el < p.length)) : ckWay (nxP p) = 0 := by
  have hl : (nxP p).length = p.length := by simp [nxP]
  refine ckWay_of (by omega) (by omega) fun r hr => ?_
  rw [hl]
  obtain ⟨b, hb, rfl⟩ := List.mem_map.1 hr
  obtain ⟨h3, h4⟩ := h b hb
  refine ⟨Nat.le_trans (nxB_len _) (by omega), fun x hx => ?_⟩
  unfold nxB at hx
  rw [List.mem_append] at hx
  rcases hx with hx | hx
  · split at hx
    · cases hx
    · rw [List.mem_singleton] at hx; omega
  · split at hx
    · rename_i h5
      rw [List.mem_singleton] at hx
      have := h4 h5.1
      omega
    · cases hx

/-- all blocks, from one on -/
def onR (g : Int → Option (Int × Int)) (T : List Nat) : Nat → List (List Int) → List Sg → Bool
  | i, f :: fs, s :: r => (alJ g T f s.joins && alB g T i s) && onR g T (i + 1) fs r
  | _, _, _ => true

theorem onR_drop {g : Int → Option (Int × Int)} {T : List Nat} {fs : List (List Int)} {l : List Sg} {k : Nat} {f : List Int} {s : Sg} (h : fs[k]? = some f) (h2 : l[k]? = some s) : onR g T k (fs.drop k) (l.drop k) = ((alJ g T f s.joins && alB g T k s) && onR g T (k + 1) (fs.drop (k + 1)) (l.drop (k + 1))) := by
  rw [drop_at h, drop_at h2]
  rfl

theorem onR_over {g : Int → Option (Int × Int)} {T : List Nat} {fs : List (List Int)} {l : List Sg} {k : Nat} (h : l.length ≤ k) : onR g T k (fs.drop k) (l.drop k) = true := by
  rw [List.drop_of_length_le h]
  cases fs.drop k <;> rfl

theorem onR_all {g : Int → Option (Int × Int)} {T : List Nat} : ∀ {fs : List (List Int)} {l : List Sg} {i : Nat}, fs.length = l.length → (onR g T i fs l = true ↔ ∀ (k : Nat) (f : List Int) (s : Sg), fs[k]? = some f → l[k]? = some s → alJ g T f s.joins = true ∧ alB g T ((i + k : Nat) : Int) s = true)
  | [], [], i, _ => by simp [onR]
  | [], _ :: _, _, h => by simp at h
  | _ :: _, [], _, h => by simp at h
  | f :: fs, s :: l, i, h => by
    rw [onR, Bool.and_eq_true, Bool.and_eq_true, onR_all (fs := fs) (l := l) (i := i + 1) (by simpa using h)]
    constructor
    · rintro ⟨⟨h1, h2⟩, h3⟩ k f' s' hf hs
      cases k with
      | zero =>
        simp at hf hs
        subst hf hs
        exact ⟨h1, h2⟩
      | succ k =>
        have := h3 k f' s' (by simpa using hf) (by simpa using hs)
        rw [show i + 1 + k = i + (k + 1) by omega] at this
        exact this
    · intro h1
      refine ⟨h1 0 f s rfl rfl, fun k f' s' hf hs => ?_⟩
      have := h1 (k + 1) f' s' (by simpa using hf) (by simpa using hs)
      rw [show i + (k + 1) = i + 1 + k by omega] at this
      exact this

theorem alJ1_all {g : Int → Option (Int × Int)} {T : List Nat} : ∀ {ss ns : List Int}, alJ1 g T ss ns = true ↔ ∀ (k : Nat) (f n : Int), ss[k]? = some f → ns[k]? = some n → alN g T f 21 n = true
  | [], _ => by simp [alJ1]
  | _ :: _, [] => by simp [alJ1]
  | f :: ss, n :: ns => by
    rw [alJ1, Bool.and_eq_true, alJ1_all]
    constructor
    · rintro ⟨h1, h2⟩ k f' n' hf hn
      cases k with
      | zero => simp at hf hn; subst hf hn; exact h1
      | succ k => exact h2 k f' n' (by simpa using hf) (by simpa using hn)
    · exact fun h => ⟨h 0 f n rfl rfl, fun k f' n' hf hn => h (k + 1) f' n' (by simpa using hf) (by simpa using hn)⟩

theorem alC_all {g : Int → Option (Int × Int)} {T : List Nat} {i : Int} : ∀ {co : List St} {k0 : Nat}, alC g T i k0 co = true ↔ ∀ (k : Nat) (s : St), co[k]? = some s → ∀ x ∈ opsN s.op s.a s.b s.v, alN g T i (1 + ((k0 + k : Nat) : Int)) x = true
  | [], _ => by simp [alC]
  | s :: co, k0 => by
    rw [alC, Bool.and_eq_true, alC_all (co := co) (k0 := k0 + 1)]
    unfold alAll
    rw [List.all_eq_true]
    constructor
    · rintro ⟨h1, h2⟩ k u hu
      cases k with
      | zero => simp at hu; subst hu; exact h1
      | succ k =>
        have := h2 k u (by simpa using hu)
        rw [show k0 + 1 + k = k0 + (k + 1) by omega] at this
        exact this
    · intro h
      refine ⟨h 0 s rfl, fun k u hu => ?_⟩
      have := h (k + 1) u (by simpa using hu)
      rw [show k0 + (k + 1) = k0 + 1 + k by omega] at this
      exact this

/-- M3: what Once says -/
theorem once_iff {nv : Nat} {l : List Sg} {T : List Nat} (hc : ckSingle nv l = 0) (hT : Tb (nxP (bareP l)) T l.length) : ((dfAll nv l).2 && onR (dfAll nv l).1 T 0 (frP l) l) = true ↔ OnP nv l := by
  obtain ⟨v1, v2, b3, b4, b5, b6, b7, b8⟩ := ckSingle_bd hc
  have hw : ckWay (nxP (bareP l)) = 0 := by
    have hl : (bareP l).length = l.length := by simp [bareP]
    refine nxP_wayS' (by omega) (by omega) fun b hb => ?_
    obtain ⟨s, hs, rfl⟩ := List.mem_map.1 hb
    obtain ⟨k, hk, rfl⟩ := List.getElem_of_mem hs
    have := ckForms_at b7 (List.getElem?_eq_getElem hk)
    unfold frmBad at this
    rw [hl]
    unfold bareS
    simp only []
    omega
  have hD := dfAll_is nv l
  have ok : ∀ (i : Nat) (s : Sg), l[i]? = some s → ∃ row, (frP l)[i]? = some row ∧ SgOk nv l.length row.length s := fun i s hs => by
    obtain ⟨row, hr⟩ := frP_get (List.getElem?_eq_some_iff.1 hs).1
    exact ⟨row, hr, ckSingle_at hc hs hr⟩
  have c20 : ∀ (i : Nat) (s : Sg), l[i]? = some s → s.code.length ≤ 20 := fun i s hs => Nat.le_trans (manyC_le hs) b5
  have gd : ∀ (i : Nat) (s : Sg), l[i]? = some s → l.getD i sg0 = s := fun i s hs => by rw [List.getD_eq_getElem?_getD, hs]; rfl
  -- each name once
  have hone : (dfAll nv l).2 = true ↔ ∀ n : Int, 0 ≤ n → n < 128 → (if n < nv then 1 else 0) + setAll n l ≤ 1 := by
    rw [hD.one]
    constructor
    · intro h n h0 _
      have := h n
      rw [cnt_all] at this
      by_cases e : n < nv
      · rw [if_pos ⟨h0, e⟩] at this; rw [if_pos e]; exact this
      · rw [if_neg (fun h => e h.2)] at this; rw [if_neg e]; exact this
    · intro h m
      rcases Nat.eq_zero_or_pos (cntD m (defsAll nv l)) with hz | hp
      · omega
      · obtain ⟨⟨b, q⟩, hm⟩ := cntD_pos hp
        have hmr : 0 ≤ m ∧ m < 128 := by
          rcases defsAll_mem.1 hm with ⟨h1, _⟩ | ⟨k, s, hs, _, h1⟩
          · omega
          · obtain ⟨row, _, hok⟩ := ok k s hs
            rcases h1 with ⟨_, j, hj, rfl⟩ | ⟨p, u, hu, rfl, _⟩
            · exact (ckJn_ok (hok.joins j hj)).2.1
            · have := ckStNs_at hok.code hu
              unfold ckStN at this
              (repeat' split at this) <;> omega
        have := h m hmr.1 hmr.2
        rw [cnt_all]
        by_cases e : m < nv
        · rw [if_pos ⟨hmr.1, e⟩]; rw [if_pos e] at this; exact this
        · rw [if_neg (fun h => e h.2)]; rw [if_neg e] at this; exact this
  rw [Bool.and_eq_true]
  have use : (dfAll nv l).2 = true → (onR (dfAll nv l).1 T 0 (frP l) l = true ↔ ∀ (i : Nat) (s : Sg), l[i]? = some s → Rea (nxP (bareP l)) (-1) 0 i → OnB nv l i s) := fun h1 => by
    have atStep : ∀ (i : Nat) (s : Sg) (k : Nat) (x : Int), l[i]? = some s → k ≤ s.code.length → 0 ≤ x → (alN (dfAll nv l).1 T i (1 + (k : Int)) x = true ↔ (0 ≤ (i : Int) ∧ ¬ Rea (nxP (bareP l)) (-1) 0 ((i : Int)).toNat) ∨ Av nv l x i k) := fun i s k x hs hk hx =>
      alN_iff hw hT h1 hx (.inr ⟨i, rfl, (List.getElem?_eq_some_iff.1 hs).1, by rw [gd i s hs]; exact hk, fun q _ => Iff.rfl⟩)
    have atEnd : ∀ (i : Nat) (s : Sg) (x : Int), l[i]? = some s → 0 ≤ x → (alN (dfAll nv l).1 T i 21 x = true ↔ (0 ≤ (i : Int) ∧ ¬ Rea (nxP (bareP l)) (-1) 0 ((i : Int)).toNat) ∨ Av nv l x i s.code.length) := fun i s x hs hx =>
      alN_iff hw hT h1 hx (.inr ⟨i, rfl, (List.getElem?_eq_some_iff.1 hs).1, by rw [gd i s hs]; exact Nat.le_refl _, fun q hq => by
        have := c20 i s hs
        rw [gd i s hs] at hq
        omega⟩)
    have atStart : ∀ (x : Int), 0 ≤ x → (alN (dfAll nv l).1 T (-1) 21 x = true ↔ Av nv l x (-1) 0) := fun x hx => by
      rw [alN_iff (k := 0) hw hT h1 hx (.inl rfl)]
      constructor
      · rintro (h | h)
        · omega
        · exact h
      · exact .inr
    rw [onR_all (frP_len l)]
    constructor
    · intro h i s hs hr
      obtain ⟨row, hrow, hok⟩ := ok i s hs
      obtain ⟨hj, hb⟩ := h i row s hrow hs
      rw [Nat.zero_add] at hb
      unfold alB at hb
      rw [Bool.and_eq_true, Bool.and_eq_true, alC_all] at hb
      obtain ⟨hb1, hb2, hb3⟩ := hb
      have rea : ∀ {P : Prop}, (0 ≤ (i : Int) ∧ ¬ Rea (nxP (bareP l)) (-1) 0 ((i : Int)).toNat) ∨ P → P := fun h => h.elim (fun h => absurd (by simpa using hr) h.2) id
      refine ⟨fun j hjm k f n hf hn => ?_, fun k st hst => ?_, fun ht => ?_, fun n hn => ?_⟩
      · rw [List.getD_eq_getElem?_getD, hrow, Option.getD_some] at hf
        have h2 := alJ1_all.1 (List.all_eq_true.1 hj j hjm) k f n hf hn
        have hn0 := (nmsOk_at (ckJn_ok (hok.joins j hjm)).2.2 (List.mem_of_getElem? hn)).1
        rcases (frG_mem hrow).1 (List.mem_of_getElem? hf) with ⟨_, rfl⟩ | ⟨i', rfl, hi', _⟩
        · rw [if_neg (by omega)]
          exact .inr ((atStart n hn0).1 h2)
        · have hi2 : i' < l.length := by simpa [nxP, bareP] using hi'
          rw [if_pos (by omega), Int.toNat_natCast, gd i' _ (List.getElem?_eq_getElem hi2)]
          exact (atEnd i' _ n (List.getElem?_eq_getElem hi2) hn0).1 h2
      · have hops := hb1 k st hst
        rw [Nat.zero_add] at hops
        have hkl := (List.getElem?_eq_some_iff.1 hst).1
        have hnm := (ckStN_ops (o := st.op) (t := st.to) (a := st.a) (b := st.b) (v := st.v) (ckStNs_at hok.code hst)).2
        refine ⟨fun e => ?_, fun e => ?_⟩
        · have hm : st.v ∈ opsN st.op st.a st.b st.v := by unfold opsN; rw [if_neg (by omega), if_pos e]; simp
          exact rea ((atStep i s k st.v hs (by omega) (nmsOk_at hnm hm).1).1 (hops _ hm))
        · have hma : st.a ∈ opsN st.op st.a st.b st.v := by unfold opsN; rw [if_neg (by omega), if_neg (by omega)]; simp
          have hmb : st.b ∈ opsN st.op st.a st.b st.v := by unfold opsN; rw [if_neg (by omega), if_neg (by omega)]; simp
          exact ⟨rea ((atStep i s k st.a hs (by omega) (nmsOk_at hnm hma).1).1 (hops _ hma)), rea ((atStep i s k st.b hs (by omega) (nmsOk_at hnm hmb).1).1 (hops _ hmb))⟩
      · rw [Bool.or_eq_true, decide_eq_true_eq] at hb2
        rcases hb2 with hb2 | hb2
        · omega
        · exact rea ((atEnd i s s.test hs ht).1 hb2)
      · exact rea ((atEnd i s n hs (hok.last n hn).1).1 (List.all_eq_true.1 hb3 n hn))
    · intro h i row s hrow hs
      obtain ⟨row', hrow', hok⟩ := ok i s hs
      rw [hrow] at hrow'
      injection hrow' with hrow'
      subst hrow'
      rw [Nat.zero_add]
      by_cases hr : Rea (nxP (bareP l)) (-1) 0 i
      · have hB := h i s hs hr
        refine ⟨List.all_eq_true.2 fun j hjm => alJ1_all.2 fun k f n hf hn => ?_, ?_⟩
        · have hn0 := (nmsOk_at (ckJn_ok (hok.joins j hjm)).2.2 (List.mem_of_getElem? hn)).1
          have h2 := hB.joins j hjm k f n (by rw [List.getD_eq_getElem?_getD, hrow]; exact hf) hn
          rcases (frG_mem hrow).1 (List.mem_of_getElem? hf) with ⟨_, rfl⟩ | ⟨i', rfl, hi', _⟩
          · rw [if_neg (by omega)] at h2
            refine (atStart n hn0).2 (h2.resolve_left fun h => by omega)
          · have hi2 : i' < l.length := by simpa [nxP, bareP] using hi'
            rw [if_pos (by omega), Int.toNat_natCast, gd i' _ (List.getElem?_eq_getElem hi2)] at h2
            exact (atEnd i' _ n (List.getElem?_eq_getElem hi2) hn0).2 h2
        · unfold alB
          rw [Bool.and_eq_true, Bool.and_eq_true, alC_all]
          refine ⟨fun k st hst x hx => ?_, ?_, List.all_eq_true.2 fun n hn => (atEnd i s n hs (hok.last n hn).1).2 (.inr (hB.last n hn))⟩
          · rw [Nat.zero_add]
            have hkl := (List.getElem?_eq_some_iff.1 hst).1
            have hnm := (ckStN_ops (o := st.op) (t := st.to) (a := st.a) (b := st.b) (v := st.v) (ckStNs_at hok.code hst)).2
            have hx0 := (nmsOk_at hnm hx).1
            refine (atStep i s k x hs (by omega) hx0).2 (.inr ?_)
            have h2 := hB.code k st hst
            have hop : 1 ≤ st.op := by
              have := ckStNs_at hok.code hst
              unfold ckStN at this
              split at this <;> omega
            unfold opsN at hx
            split at hx
            · cases hx
            · split at hx
              · rename_i e
                rw [List.mem_singleton] at hx
                rw [hx]
                exact h2.1 e
              · have := h2.2 (by omega)
                simp only [List.mem_cons, List.not_mem_nil, or_false] at hx
                rcases hx with rfl | rfl
                · exact this.1
                · exact this.2
          · rw [Bool.or_eq_true, decide_eq_true_eq]
            by_cases e : s.test = -1
            · exact .inl e
            · have h0 : 0 ≤ s.test := by have := hok.test; omega
              exact .inr ((atEnd i s s.test hs h0).2 (.inr (hB.test h0)))
      · have un : ∀ {P : Prop}, (0 ≤ (i : Int) ∧ ¬ Rea (nxP (bareP l)) (-1) 0 ((i : Int)).toNat) ∨ P := .inl ⟨by omega, by simpa using hr⟩
        refine ⟨List.all_eq_true.2 fun j hjm => alJ1_all.2 fun k f n hf hn => ?_, ?_⟩
        · have hn0 := (nmsOk_at (ckJn_ok (hok.joins j hjm)).2.2 (List.mem_of_getElem? hn)).1
          rcases (frG_mem hrow).1 (List.mem_of_getElem? hf) with ⟨h0, _⟩ | ⟨i', rfl, hi', hsc⟩
          · subst h0
            exact absurd (Rea.me _ 0) hr
          · have hi2 : i' < l.length := by simpa [nxP, bareP] using hi'
            refine (atEnd i' _ n (List.getElem?_eq_getElem hi2) hn0).2 (.inl ⟨by omega, fun h2 => hr ?_⟩)
            rw [Int.toNat_natCast] at h2
            exact h2.step hsc (nat_ne i)
        · unfold alB
          rw [Bool.and_eq_true, Bool.and_eq_true, alC_all]
          refine ⟨fun k st hst x hx => ?_, ?_, List.all_eq_true.2 fun n hn => (atEnd i s n hs (hok.last n hn).1).2 un⟩
          · rw [Nat.zero_add]
            have hkl := (List.getElem?_eq_some_iff.1 hst).1
            have hnm := (ckStN_ops (o := st.op) (t := st.to) (a := st.a) (b := st.b) (v := st.v) (ckStNs_at hok.code hst)).2
            exact (atStep i s k x hs (by omega) (nmsOk_at hnm hx).1).2 un
          · rw [Bool.or_eq_true, decide_eq_true_eq]
            by_cases e : s.test = -1
            · exact .inl e
            · have h0 : 0 ≤ s.test := by have := hok.test; omega
              exact .inr ((atEnd i s s.test hs h0).2 un)
  constructor
  · rintro ⟨h1, h2⟩
    exact ⟨hone.1 h1, (use h1).1 h2⟩
  · intro h
    have h1 := hone.2 h.one
    exact ⟨h1, (use h1).2 h.use⟩

end Go.Proofs.Ytgcjknibelfjbaa

/-
  single.definitions, with its closure (M3).
-/

namespace Go.Proofs.Ytgcjknibelfjbaa
open Go.RowKit
set_option linter.unusedSimpArgs false
set_option linter.unusedVariables false
set_option maxRecDepth 100000

/-- the two variables that the closure turns, and the map: blocks G, G+1 and G+2 -/
structure Dfm (w : World) (M G : Nat) (st : Ds) : Prop where
  map : OwnF Try.prog 3 w M (nmF st.1)
  set : Own w G 68 [.map (some M)]
  once : Own w (G + 1) 4 [.bool st.2]
  lt : M < G

theorem Dfm.quiet {w w' : World} {M G : Nat} {st : Ds} (h : Dfm w M G st) (hb : Below w.heap.size w w') : Dfm w' M G st :=
  ⟨h.map.below hb h.map.lt, h.set.below hb h.set.lt, h.once.below hb h.once.lt, h.lt⟩

/-- all other blocks stay -/
structure KpD (w w' : World) (M G : Nat) : Prop where
  size : w.heap.size ≤ w'.heap.size
  block : ∀ k, k < w.heap.size → k ≠ M → k ≠ G + 1 → w'.heap[k]? = w.heap[k]?

theorem KpD.own {w w' : World} {M G k : Nat} {t : TypeId} {cs : List Value} (h : KpD w w' M G) (ho : Own w k t cs) (hM : k ≠ M) (hG : k ≠ G + 1) : Own w' k t cs := (h.block k ho.lt hM hG).trans ho

theorem Dfm.put {w w2 : World} {M G : Nat} {st st' : Ds} {o' : Bool} {c : Obj} (h : Dfm w M G st) (hT : Turned M ((w.setCell ⟨G + 1, 0, none⟩ (.bool o')).alloc c) w2) (hmp : OwnF Try.prog 3 w2 M (nmF st'.1)) (hst : st'.2 = o') : Dfm w2 M G st' ∧ Below M w w2 ∧ KpD w w2 M G := by
  have hlt := h.lt
  have h1 := h.set.lt
  have h2 := h.once.lt
  have hs : Own ((w.setCell ⟨G + 1, 0, none⟩ (.bool o')).alloc c) G 68 [.map (some M)] := (h.set.far (p := ⟨G + 1, 0, none⟩) (show G ≠ G + 1 by omega) _).alloc c
  have ho : Own ((w.setCell ⟨G + 1, 0, none⟩ (.bool o')).alloc c) (G + 1) 4 [.bool o'] := by
    have := (h.once.set 0 (.bool o')).alloc c
    simpa using this
  have hsz : w.heap.size ≤ w2.heap.size := by rw [hT.size]; simp
  refine ⟨⟨hmp, hT.own (by omega) hs, ?_, hlt⟩, ?_, hsz, fun k hk hM hG => ?_⟩
  · rw [hst]
    exact hT.own (by omega) ho
  · have hml := h.map.lt
    have hb : Below M w ((w.setCell ⟨G + 1, 0, none⟩ (.bool o')).alloc c) := ((Below.refl M w).setCell (p := ⟨G + 1, 0, none⟩) (show M ≤ G + 1 by omega) _).alloc (by simpa using Nat.le_of_lt hml) c
    exact hb.trans (hT.below (Nat.le_refl _))
  · rw [hT.block k hM, Below.heap_alloc _ _ _ (by simpa using hk), Below.heap_setCell _ _ _ _ hG]

set_option maxHeartbeats 4000000 in
theorem define_any (M G : Nat) (st : Ds) (n b q : Int) (w : World) (h : Dfm w M G st) (hn : 0 ≤ n ∧ n < 128) :
    Calls Try.prog 62 #[.int .i64 n, .int .i64 b, .int .i64 q, .pointer (some ⟨G, 0, none⟩), .pointer (some ⟨G + 1, 0, none⟩)] w fun e w' => e = .returned (.tuple #[]) ∧ Dfm w' M G (dfS st (n, b, q)) ∧ Below M w w' ∧ KpD w w' M G := by
  obtain ⟨f, o⟩ := st
  have HD := Lib.hid h
  obtain ⟨hm, hs, ho, hMG⟩ := h
  simp only [] at hm ho
  have hml := hm.lt
  have hgl := hs.lt
  have hgl1 := ho.lt
  have c0 := hs.cell (j := 0) rfl
  have c1 := ho.cell (j := 0) rfl
  have fz := ho.frozen 0
  have h1 : nmF (dfS (f, o) (n, b, q)).1 (.int .i64 n) = some (.agg #[.int .i64 b, .int .i64 q]) := by simp [nmF, dfS]
  have h2 : ∀ x, x ≠ (.int .i64 n : Value) → nmF (dfS (f, o) (n, b, q)).1 x = nmF f x := fun x hx => by
    unfold nmF
    split
    · rename_i m
      have : m ≠ n := fun e => hx (by rw [e])
      simp [dfS, this]
    · rfl
  have H1 := Lib.hid h1
  have H2 := Lib.hid h2
  clear h1 h2 hs ho
  cases hf : f n with
  | none =>
    have HF := Lib.hid (nmF_miss hf)
    have HOO : Hid ((dfS (f, o) (n, b, q)).2 = o) := Lib.hid (by simp [dfS, hf])
    clear hf
    cases o
    all_goals
      go_enter Try.func62, Try.ntmps62
      go_wp2_with (first
        | (at_lookup; refine wpList_look_miss rfl (.tmp 11) (.tmp 12) 68 rfl name_keyed Try.underlying68 rfl hm zero_pair rfl (name_key hn) HF.out ?_)
        | (at_mapUpdate; refine wpList_put_fun rfl (.tmp 21) (.tmp 22) (.tmp 25) 68 rfl name_keyed Try.underlying68 rfl (hm.below (by go_grown) (Nat.lt_succ_self _)) rfl rfl (name_key hn) H1.out H2.out ?_; intro w2 hmp2 hT2))
      have hfin := HD.out.put hT2 hmp2 HOO.out
      go_returns
      exact ⟨rfl, hfin⟩
  | some x =>
    obtain ⟨xb, xq⟩ := x
    have HF := Lib.hid (nmF_hit hf)
    have HOO : Hid ((dfS (f, o) (n, b, q)).2 = false) := Lib.hid (by simp [dfS, hf])
    clear hf
    cases o
    all_goals
      go_enter Try.func62, Try.ntmps62
      go_wp2_with (first
        | (at_lookup; refine wpList_look_hit rfl (.tmp 11) (.tmp 12) 68 rfl name_keyed Try.underlying68 rfl hm zero_pair rfl (name_key hn) HF.out ?_)
        | (at_mapUpdate; refine wpList_put_fun rfl (.tmp 21) (.tmp 22) (.tmp 25) 68 rfl name_keyed Try.underlying68 rfl (hm.below (by go_grown) (Nat.lt_succ_self _)) rfl rfl (name_key hn) H1.out H2.out ?_; intro w2 hmp2 hT2))
      have hfin := HD.out.put hT2 hmp2 HOO.out
      go_returns
      exact ⟨rfl, hfin⟩

theorem KpD.trans {a b c : World} {M G : Nat} (h : KpD a b M G) (h2 : KpD b c M G) : KpD a c M G := ⟨Nat.le_trans h.size h2.size, fun k hk hM hG => (h2.block k (Nat.lt_of_lt_of_le hk h.size) hM hG).trans (h.block k hk hM hG)⟩

theorem KpD.of_below {a b : World} {M G : Nat} (h : Below a.heap.size a b) : KpD a b M G := ⟨h.size, fun k hk _ _ => h.block k hk⟩

theorem nmF_ds0 : nmF ds0.1 = fun _ => none := by
  funext x
  unfold nmF ds0
  split <;> rfl

theorem ckStN_ops0 {s : St} (h : ckStN s = 0) : (0 ≤ s.to ∧ s.to < 128) ∧ True := by
  refine ⟨?_, trivial⟩
  unfold ckStN at h
  (repeat' split at h) <;> omega

/-- what definitions returns -/
def DefsTo (n : Nat) (l : List Sg) (e : Ending) (w' : World) : Prop :=
  ∃ M, e = .returned (.tuple #[.map (some M), .bool (dfAll n l).2]) ∧ OwnF Try.prog 3 w' M (nmF (dfAll n l).1)

set_option maxHeartbeats 16000000 in
theorem definitions_any (n : Nat) (A : Option Addr) (len cap : Nat) (l : List Sg) (w : World) (hx : RdN w w.heap.size A l) (hl : l.length = len) (hc : ckSingle n l = 0) :
    Calls Try.prog 33 #[.int .i64 n, .slice A len cap] w fun e w' => DefsTo n l e w' ∧ Below w.heap.size w w' := by
  obtain ⟨b1, b2, b3, b4, b5, b6, b7, b8⟩ := ckSingle_bd hc
  have HC := Lib.hid hc
  have HL := Lib.hid hl
  have HMC := Lib.hid b5
  have HMJ := Lib.hid b6
  rw [hl] at b3 b4
  have hn6 : n ≤ 6 := by omega
  obtain ⟨R, hR⟩ : ∃ R, dfAll n l = R := ⟨_, rfl⟩
  have HR0 : Hid (R = ((defsV 0 n).drop 0 ++ defsL 0 l).foldl dfS ds0) := Lib.hid hR.symm
  have HVD := Lib.hid (fun (k : Nat) (h : k < n) => defsV_at (v := 0) h)
  have HVL : Hid ((defsV 0 n).drop n = []) := Lib.hid (List.drop_of_length_le (by rw [defsV_len]; exact Nat.le_refl _))
  unfold DefsTo
  rw [hR]
  have hmm := @run_makeMap Try.prog
  clear hc hl b1 b2 b5 b6 b7 b8 hR
  go_enter Try.func33, Try.ntmps33
  go_wp2
  have hD0 : Dfm (((w.alloc (.map #[] 0)).alloc (.cells #[.map (some w.heap.size)] 68)).alloc (.cells #[.bool true] 4)) w.heap.size (w.heap.size + 1) ds0 := by
    refine ⟨by rw [nmF_ds0]; exact ((OwnF.new w).alloc _).alloc _, ?_, ?_, by omega⟩
    · have h := (Own.new (w.alloc (.map #[] 0)) 68 [.map (some w.heap.size)]).alloc (.cells #[.bool true] 4)
      simpa using h
    · have h := Own.new ((w.alloc (.map #[] 0)).alloc (.cells #[.map (some w.heap.size)] 68)) 4 [.bool true]
      have e : ((w.alloc (.map #[] 0)).alloc (.cells #[.map (some w.heap.size)] 68)).heap.size = w.heap.size + 1 + 1 := by simp
      rw [e] at h
      exact h
  have HD0 := Lib.hid hD0
  clear hD0 hmm
  go_loopw [19] (fun z wr => ∃ (k : Nat) (st : Ds), k ≤ n ∧ z = .int .i64 k ∧ R = ((defsV 0 n).drop k ++ defsL 0 l).foldl dfS st ∧ Dfm wr w.heap.size (w.heap.size + 1) st ∧ Below w.heap.size w wr) (fun z _ => n - (intOf z).toNat)
  case atStart => exact ⟨0, ds0, Nat.zero_le _, rfl, HR0.out, HD0.out, by go_grown⟩
  case round =>
    obtain ⟨k, st, hk, rfl, hr, hdm, hb⟩ := hrel
    have HR := Lib.hid hr
    have HDM := Lib.hid hdm
    have hsz := hb.size
    clear hr
    by_cases hlt : k < n
    · have HR2 : Hid (R = ((defsV 0 n).drop (k + 1) ++ defsL 0 l).foldl dfS (dfS st ((k : Int), -1, 21))) := Lib.hid (by
        rw [HR.out, HVD.out k hlt, Nat.zero_add]
        rfl)
      have HDF := Lib.hid (define_any w.heap.size (w.heap.size + 1) st (k : Int) (-1) 21 wr hdm (by omega))
      clear hdm
      go_wp2_with (go_at_call 62; (with_reducible refine HDF.out.mono ?_); rintro e w2 ⟨rfl, hd2, hb2, hk2⟩; have HD2 := Lib.hid hd2; clear hd2)
      go_round
      case rel => exact ⟨k + 1, _, by omega, by go_num, HR2.out, HD2.out, hb.trans hb2⟩
      case measure => (simp [intOf]; omega)
    · have HR2 : Hid (R = (defsL 0 (l.drop 0)).foldl dfS st) := Lib.hid (by
        rw [HR.out, show k = n by omega, HVL.out]
        rfl)
      obtain ⟨wv, rfl⟩ : ∃ wv : World, wv = wr := ⟨_, rfl⟩
      clear hdm
      go_wp2
      go_loopw [28] (fun z wr => ∃ (i : Nat) (st : Ds), i ≤ len ∧ z = .int .i64 i ∧ R = (defsL i (l.drop i)).foldl dfS st ∧ Dfm wr w.heap.size (w.heap.size + 1) st ∧ Below w.heap.size w wr) (fun z _ => len - (intOf z).toNat)
      case atStart => exact ⟨0, st, Nat.zero_le _, rfl, HR2.out, HDM.out, hb⟩
      case round =>
        obtain ⟨i, st2, hi, rfl, hr3, hdm3, hb3⟩ := hrel
        have HR3 := Lib.hid hr3
        have HDM3 := Lib.hid hdm3
        have hsz3 := hb3.size
        clear hr3
        by_cases hit : i < len
        · obtain ⟨ad, ⟨js, co, te, th, el, la⟩, Aj, cj, Ac, cc, Al, cl, rfl, hbl, hd, hrj, hrc, hrl, e0, e1, e2, e3, e4, e5⟩ := hx.at_ (k := i) (by rw [HL.out]; exact hit)
          have e0 := (hb3.cell hbl).trans e0
          have e1 := (hb3.cell (p := ⟨(ad.add (i * 6)).block, (ad.add (i * 6)).off + 1, none⟩) hbl).trans e1
          have e2 := (hb3.cell (p := ⟨(ad.add (i * 6)).block, (ad.add (i * 6)).off + 2, none⟩) hbl).trans e2
          have e3 := (hb3.cell (p := ⟨(ad.add (i * 6)).block, (ad.add (i * 6)).off + 3, none⟩) hbl).trans e3
          have e4 := (hb3.cell (p := ⟨(ad.add (i * 6)).block, (ad.add (i * 6)).off + 4, none⟩) hbl).trans e4
          have e5 := (hb3.cell (p := ⟨(ad.add (i * 6)).block, (ad.add (i * 6)).off + 5, none⟩) hbl).trans e5
          obtain ⟨row, hrow⟩ := frP_get (l := l) (j := i) (by rw [HL.out]; exact hit)
          have hsg := ckSingle_at HC.out hd hrow
          have hm1 := manyC_le hd
          have hm2 := manyJ_le hd
          have hmc := HMC.out
          have hmj := HMJ.out
          have HDL := Lib.hid (defsL_drop hd)
          have HJN := Lib.hid hsg.joins
          have HCO := Lib.hid hsg.code
          simp only [] at e0 e1 e2 e3 e4 e5 hm1 hm2 HDL HJN HCO hrj hrc
          obtain ⟨m1, hm1e⟩ : ∃ m, co.length = m := ⟨_, rfl⟩
          obtain ⟨m2, hm2e⟩ : ∃ m, js.length = m := ⟨_, rfl⟩
          obtain ⟨m3, hm3e⟩ : ∃ m, la.length = m := ⟨_, rfl⟩
          have HM1 := Lib.hid hm1e
          have HM2 := Lib.hid hm2e
          rw [hm1e] at e1 hm1
          rw [hm2e] at e0 hm2
          rw [hm3e] at e5
          have HRJ := Lib.hid hrj
          have HRC := Lib.hid hrc
          have hblr : (ad.add (i * 6)).block < wr.heap.size := by omega
          obtain ⟨wo, rfl⟩ : ∃ wo : World, wo = wr := ⟨_, rfl⟩
          have hbox := Own.new wo 43 [.slice Aj m2 cj, .slice Ac m1 cc, .int .i64 te, .int .i64 th, .int .i64 el, .slice Al m3 cl]
          have HBOX := Lib.hid hbox
          obtain ⟨rest, hrest⟩ : ∃ r, defsL (i + 1) (l.drop (i + 1)) = r := ⟨_, rfl⟩
          have HRE := Lib.hid hrest
          rw [hrest] at HDL
          have HR4 : Hid (R = (defsJ i (js.drop 0) ++ (defsC i 0 co ++ rest)).foldl dfS st2) := Lib.hid (by rw [HR3.out, HDL.out]; rfl)
          have HQ : Hid (Dfm (wo.alloc (.cells #[.slice Aj m2 cj, .slice Ac m1 cc, .int .i64 te, .int .i64 th, .int .i64 el, .slice Al m3 cl] 43)) w.heap.size (w.heap.size + 1) st2) := Lib.hid (hdm3.quiet (by go_grown))
          have hMo : w.heap.size + 1 + 1 < wo.heap.size := hdm3.once.lt
          clear hd hsg hrow hm1e hm2e hm3e hrj hrc hrl hbox hrest hdm3
          go_wp2
          go_loopw [36] (fun z wr => ∃ (c : Nat) (st : Ds), c ≤ m2 ∧ z = .int .i64 c ∧ R = (defsJ i (js.drop c) ++ (defsC i 0 co ++ rest)).foldl dfS st ∧ Dfm wr w.heap.size (w.heap.size + 1) st ∧ Own wr wo.heap.size 43 [.slice Aj m2 cj, .slice Ac m1 cc, .int .i64 te, .int .i64 th, .int .i64 el, .slice Al m3 cl] ∧ Below w.heap.size w wr ∧ wo.heap.size ≤ wr.heap.size) (fun z _ => m2 - (intOf z).toNat)
          case atStart => exact ⟨0, st2, Nat.zero_le _, rfl, HR4.out, HQ.out, HBOX.out, by go_grown, by simp⟩
          case round =>
            obtain ⟨c, st3, hcm, rfl, hr5, hdm5, hbx, hb5, hsz5⟩ := hrel
            have HR5 := Lib.hid hr5
            have HBX := Lib.hid hbx
            have hszw5 := hb5.size
            have hbl5 := hbx.lt
            clear hr5
            by_cases hct : c < m2
            · obtain ⟨ad3, ⟨to, fr⟩, Af, cf, rfl, hbl3, hd3, hrf, d0, d1, _⟩ := (HRJ.out.below hb5 (Nat.le_refl _)).at_ (k := c) (by rw [HM2.out]; exact hct)
              have hto := (ckJn_ok (HJN.out _ (List.mem_of_getElem? hd3))).2.1
              have HDJ := Lib.hid (defsJ_drop (i := i) hd3)
              simp only [] at d0 d1 hto HDJ
              obtain ⟨nr, hnr⟩ : ∃ n, fr.length = n := ⟨_, rfl⟩
              rw [hnr] at d1
              have HR6 : Hid (R = (defsJ i (js.drop (c + 1)) ++ (defsC i 0 co ++ rest)).foldl dfS (dfS st3 (to, (i : Int), 0))) := Lib.hid (by rw [HR5.out, HDJ.out]; rfl)
              have hbl3r : (ad3.add (c * 2)).block < wr.heap.size := by omega
              have HDF := Lib.hid (fun (Z : World) (hZ : Below wr.heap.size wr Z) => define_any w.heap.size (w.heap.size + 1) st3 to (i : Int) 0 Z (hdm5.quiet hZ) hto)
              clear hd3 hnr hrf hdm5 hbx
              go_wp2_with (go_at_call 62; (with_reducible refine (HDF.out _ (by go_grown)).mono ?_); rintro e w2 ⟨rfl, hd2, hb2, hk2⟩; have HD2 := Lib.hid hd2; have HK2 := Lib.hid hk2; clear hd2 hk2)
              go_round
              case rel => exact ⟨c + 1, _, by omega, by go_num, HR6.out, HD2.out, HK2.out.own (HBX.out.alloc _) (by omega) (by omega), (by go_grown : Below w.heap.size w _).trans hb2, Nat.le_trans hsz5 (Nat.le_trans (by simp) HK2.out.size)⟩
              case measure => (simp [intOf]; omega)
            · have HR6 : Hid (R = (defsC i 0 (co.drop 0) ++ rest).foldl dfS st3) := Lib.hid (by
                rw [HR5.out, List.drop_of_length_le (by rw [HM2.out]; omega)]
                rfl)
              have p1 := hbx.cell (j := 1) rfl
              have HDM5 := Lib.hid hdm5
              obtain ⟨wp, rfl⟩ : ∃ wp : World, wp = wr := ⟨_, rfl⟩
              clear hdm5 hbx
              go_wp2
              go_loopw [49] (fun z wr => ∃ (c : Nat) (st : Ds), c ≤ m1 ∧ z = .int .i64 c ∧ R = (defsC i c (co.drop c) ++ rest).foldl dfS st ∧ Dfm wr w.heap.size (w.heap.size + 1) st ∧ Below w.heap.size w wr) (fun z _ => m1 - (intOf z).toNat)
              case atStart => exact ⟨0, st3, Nat.zero_le _, rfl, HR6.out, HDM5.out, hb5⟩
              case round =>
                obtain ⟨q, st4, hqm, rfl, hr7, hdm7, hb7⟩ := hrel
                have HR7 := Lib.hid hr7
                have hszw7 := hb7.size
                clear hr7
                by_cases hqt : q < m1
                · obtain ⟨ad4, o, t, a, b, v, rfl, hbl4, hd4, g0, g1, g2, g3, g4⟩ := (RdS.below HRC.out hb7 (Nat.le_refl _)).at_ (k := q) (by rw [HM1.out]; exact hqt)
                  have hto := (ckStN_ops0 (ckStNs_at HCO.out hd4)).1
                  have HDC := Lib.hid (defsC_drop (i := i) hd4)
                  simp only [] at HDC
                  have HR8 : Hid (R = (defsC i (q + 1) (co.drop (q + 1)) ++ rest).foldl dfS (dfS st4 (t, (i : Int), 1 + (q : Int)))) := Lib.hid (by rw [HR7.out, HDC.out]; rfl)
                  have hbl4r : (ad4.add (q * 5)).block < wr.heap.size := by omega
                  have hwrap : IntKind.i64.wrap (1 + (q : Int)) = 1 + (q : Int) := IntWalk.i64_in _ ⟨by omega, by omega⟩
                  have HDF := Lib.hid (fun (Z : World) (hZ : Below wr.heap.size wr Z) => define_any w.heap.size (w.heap.size + 1) st4 t (i : Int) (1 + (q : Int)) Z (hdm7.quiet hZ) hto)
                  clear hd4 hdm7
                  go_wp2_with (go_at_call 62; (with_reducible refine (HDF.out _ (by go_grown)).mono ?_); rintro e w2 ⟨rfl, hd2, hb2, hk2⟩; have HD2 := Lib.hid hd2; clear hd2)
                  go_round
                  case rel => exact ⟨q + 1, _, by omega, by go_num, HR8.out, HD2.out, (by go_grown : Below w.heap.size w _).trans hb2⟩
                  case measure => (simp [intOf]; omega)
                · have HR8 : Hid (R = (defsL (i + 1) (l.drop (i + 1))).foldl dfS st4) := Lib.hid (by
                    rw [HR7.out, List.drop_of_length_le (by rw [HM1.out]; omega), HRE.out]
                    rfl)
                  have HDM7 := Lib.hid hdm7
                  clear hdm7
                  go_wp2
                  go_round
                  case rel => exact ⟨i + 1, st4, by omega, by go_num, HR8.out, HDM7.out, hb7⟩
                  case measure => (simp [intOf]; omega)
        · have HRS : Hid (st2 = R) := Lib.hid (by
            rw [HR3.out, List.drop_of_length_le (by rw [HL.out]; omega)]
            rfl)
          have c0 := hdm3.set.cell (j := 0) rfl
          have c1 := hdm3.once.cell (j := 0) rfl
          clear hdm3
          go_wp2
          go_quiet (fail)
          go_wp2
          go_ret2
          exact ⟨⟨w.heap.size, (by rw [← HRS.out]; rfl), by rw [← HRS.out]; exact HDM3.out.map⟩, below_drewNS hb3 _⟩

end Go.Proofs.Ytgcjknibelfjbaa

/-
  single.Once (M3).
-/

namespace Go.Proofs.Ytgcjknibelfjbaa
open Go.RowKit
set_option linter.unusedSimpArgs false
set_option linter.unusedVariables false
set_option maxRecDepth 100000

theorem Tbl.tb {nx : List (List Int)} {ws : List Nat} (h : Tbl nx ws) : Tb nx ws nx.length := ⟨h.len, h.mem⟩

theorem tb_ex {nx : List (List Int)} (hc : ckWay nx = 0) : ∃ T, Tb nx T nx.length := by
  refine ⟨(List.range nx.length).map fun i => (word_of nx.length fun j => Dom nx j i).choose, by simp, fun i W hW j => ?_⟩
  have hi : i < nx.length := by simpa using (List.getElem?_eq_some_iff.1 hW).1
  rw [List.getElem?_map, List.getElem?_range hi] at hW
  injection hW with hW
  rw [← hW, (word_of nx.length fun j => Dom nx j i).choose_spec.2 j]
  exact ⟨fun h => h.2, fun h => ⟨(h.lt hc).1, h⟩⟩

/-- where names are set: in blocks, or ahead of all -/
theorem defs_blk {nv : Nat} {l : List Sg} (h8 : l.length ≤ 8) : ∀ n b q, (dfAll nv l).1 n = some (b, q) → b = -1 ∨ (0 ≤ b ∧ b < 8) := fun n b q h => by
  rcases defsAll_mem.1 ((dfAll_is nv l).mem n (b, q) h) with ⟨_, h1, _⟩ | ⟨k, s, hs, h1, _⟩
  · exact .inl h1
  · have := (List.getElem?_eq_some_iff.1 hs).1
    exact .inr (by omega)

theorem frP_from {l : List Sg} {i : Nat} {row : List Int} (h : (frP l)[i]? = some row) : ∀ f ∈ row, f = -1 ∨ (0 ≤ f ∧ f < l.length) := fun f hf => by
  rcases (frG_mem h).1 hf with ⟨_, h1⟩ | ⟨k, h1, h2, _⟩
  · exact .inl h1
  · have : k < l.length := by simpa [nxP, bareP] using h2
    exact .inr (by omega)

set_option maxHeartbeats 16000000 in
theorem snOnce_any (n : Nat) (A : Option Addr) (len cap : Nat) (l : List Sg) (w0 : World) (hx0 : RdN w0 w0.heap.size A l) (hl : l.length = len) (hin : ∀ s ∈ l, InSg s) (hc : ckSingle n l = 0) :
    Calls Try.prog 14 #[.int .i64 n, .slice A len cap] w0 fun e w' => ∃ b : Bool, e = .returned (.tuple #[.bool b, .int .i64 0]) ∧ (b = true ↔ OnP n l) ∧ Below w0.heap.size w0 w' := by
  obtain ⟨b1, b2, b3, b4, b5, b6, b7, b8⟩ := ckSingle_bd hc
  have HC := Lib.hid hc
  have HL := Lib.hid hl
  have HMC := Lib.hid b5
  have HMJ := Lib.hid b6
  have HWAY : Hid (ckWay (nxP (bareP l)) = 0) := Lib.hid (bareP_way (vars := n) b3 b4 b7)
  have HNL : Hid ((nxP (bareP l)).length = len) := Lib.hid (by rw [← hl]; simp [bareP, nxP])
  have HBK := Lib.hid (defs_blk (nv := n) (l := l) b4)
  rw [hl] at b3 b4
  have hn1 : 1 ≤ n := by omega
  have hn6 : n ≤ 6 := by omega
  have HCK := Lib.hid (singleChk_any n A len cap l w0 hx0 hl (by unfold maxLen; omega) hin)
  unfold ChkS at HCK
  rw [hc] at HCK
  have HFL : Hid ((frP l).length = len) := Lib.hid (by rw [frP_len, hl])
  have HON := Lib.hid (fun (T : List Nat) (hT : Tb (nxP (bareP l)) T l.length) => once_iff hc hT)
  have HDF := Lib.hid (fun (Z : World) (hx : RdN Z Z.heap.size A l) => definitions_any n A len cap l Z hx hl hc)
  unfold DefsTo at HDF
  obtain ⟨O, hO⟩ : ∃ O, (dfAll n l).2 = O := ⟨_, rfl⟩
  obtain ⟨f, hf⟩ : ∃ f, (dfAll n l).1 = f := ⟨_, rfl⟩
  rw [hO, hf] at HON
  rw [hO, hf] at HDF
  rw [hf] at HBK
  clear hc hl b1 b2 b5 b6 b7 b8 hin hO hf
  go_enter Try.func14, Try.ntmps14
  go_wp2_with fail
  (with_reducible refine HCK.out.mono ?_)
  rintro e w1 ⟨A1, n1, c1, rfl, hnx, hb1⟩
  obtain ⟨rfl, hg1⟩ := hnx trivial
  go_wp2_with fail
  refine (HDF.out _ ((hx0.below hb1 (Nat.le_refl _)).more hb1.size)).mono ?_
  rintro e w2 ⟨⟨M, rfl, hm2⟩, hb2⟩
  have HM2 := Lib.hid hm2
  have hbw2 := hb1.trans (hb2.mono hb1.size)
  have HG2 := Lib.hid ((hg1.below hb2 (Nat.le_refl _)).more hb2.size)
  clear HCK HDF hnx hg1 hb1 hb2 hm2
  cases O
  · have HNO : Hid (false = true ↔ OnP n l) := Lib.hid (by
      obtain ⟨T, hT⟩ := tb_ex HWAY.out
      have e : (nxP (bareP l)).length = l.length := by rw [HNL.out, HL.out]
      rw [e] at hT
      have := HON.out T hT
      simpa using this)
    clear HON
    go_wp2
    go_ret2
    exact ⟨false, rfl, HNO.out, hbw2⟩
  · go_wp2_with fail
    refine (ruleTable_any A1 n1 c1 (nxP (bareP l)) w2 HG2.out HNL.out HWAY.out).mono ?_
    rintro e w3 ⟨ws, A3, c3, hT, rfl, hu3, hb3⟩
    have hTb : Tb (nxP (bareP l)) ws l.length := by
      have h := hT.tb
      rw [HNL.out, ← HL.out] at h
      exact h
    have HON2 := Lib.hid (HON.out ws hTb)
    have hs3 : Scp w3 M f ws A3 n1 := ⟨HM2.out.below hb3 HM2.out.lt, hu3, by rw [hT.len, HNL.out], hT.lt, HBK.out⟩
    have HS3 := Lib.hid hs3
    have hbw3 := hbw2.trans (hb3.mono hbw2.size)
    have HG3 := Lib.hid ((HG2.out.below hb3 (Nat.le_refl _)).more hb3.size)
    clear HON hTb hs3 hu3 hT hb3 HG2 hbw2
    have hbox := Own.new w3 75 [.map (some M), .slice A3 n1 c3]
    have HBOX := Lib.hid hbox
    clear hbox
    go_wp2_with fail
    refine (sources_any A1 n1 c1 (nxP (bareP l)) _ ((HG3.out.below (by go_grown) (Nat.le_refl _)).more (by simp)) HNL.out HWAY.out (nxP_nodup HWAY.out)).mono ?_
    rintro e w4 ⟨A5, c5, rfl, hg5, hb4⟩
    have hg5' : RdG w4 w4.heap.size A5 (frP l) := hg5
    have HG5 := Lib.hid hg5'
    have hb34 : Below w3.heap.size w3 w4 := Below.trans (by go_grown) (hb4.mono (by simp))
    have HB4 := Lib.hid (HBOX.out.below hb4 (by simp))
    have HS4 := Lib.hid (HS3.out.quiet hb34)
    have hbw4 := hbw3.trans (hb34.mono hbw3.size)
    have hsz4 := hbw4.size
    have hbl4 := HB4.out.lt
    obtain ⟨gb, hgb⟩ : ∃ gb, w3.heap.size = gb := ⟨_, rfl⟩
    rw [hgb] at HB4 hbl4 ⊢
    obtain ⟨R, hR⟩ : ∃ R, onR f ws 0 (frP l) l = R := ⟨_, rfl⟩
    rw [hR] at HON2
    have HR0 : Hid (R = onR f ws 0 ((frP l).drop 0) (l.drop 0)) := Lib.hid hR.symm
    have HON3 : Hid (R = true ↔ OnP n l) := Lib.hid (by have := HON2.out; simpa using this)
    clear hg5 hg5' hb4 hb34 HBOX HS3 HG3 hgb hR HON2
    go_wp2
    go_loopw [43] (fun z wr => ∃ k : Nat, k ≤ n1 ∧ z = .int .i64 k ∧ R = onR f ws k ((frP l).drop k) (l.drop k) ∧ Below w4.heap.size w4 wr) (fun z _ => n1 - (intOf z).toNat)
    case atStart => exact ⟨0, Nat.zero_le _, rfl, HR0.out, Below.refl _ _⟩
    case round =>
      obtain ⟨k, hk, rfl, hr, hb⟩ := hrel
      have HR := Lib.hid hr
      have hsz := hb.size
      have hbw := hbw4.trans (hb.mono hsz4)
      clear hr
      by_cases hlt : k < n1
      · obtain ⟨ad, ⟨js, co, te, th, el, la⟩, Aj, cj, Ac, cc, Al, cl, rfl, hbl, hd, hrj, hrc, hrl, e0, e1, e2, e3, e4, e5⟩ := (hx0.below hbw (Nat.le_refl _)).at_ (k := k) (by rw [HL.out]; exact hlt)
        obtain ⟨af, row, Ar, cr, rfl, hblf, hdf, hcf, hrr⟩ := (HG5.out.below hb (Nat.le_refl _)).at_ (k := k) (by rw [HFL.out]; exact hlt)
        have hsg := ckSingle_at HC.out hd hdf
        have HD := Lib.hid (onR_drop (g := f) (T := ws) hdf hd)
        have hm1 := manyC_le hd
        have hm2 := manyJ_le hd
        have hmc := HMC.out
        have hmj := HMJ.out
        have hfrm := frP_from hdf
        rw [HL.out] at hfrm
        have hjn := hsg.joins
        have hcode := hsg.code
        have htest := hsg.test
        have hlast := hsg.last
        have hll := hsg.len
        simp only [] at e0 e1 e2 e3 e4 e5 hrj hrc hrl hm1 hm2 hjn hcode htest hlast hll HD
        obtain ⟨m1, hm1e⟩ : ∃ m, co.length = m := ⟨_, rfl⟩
        obtain ⟨m2, hm2e⟩ : ∃ m, js.length = m := ⟨_, rfl⟩
        obtain ⟨ns, hns⟩ : ∃ m, row.length = m := ⟨_, rfl⟩
        rw [hm1e] at e1 hm1
        rw [hm2e] at e0 hm2
        rw [hll] at e5
        rw [hns] at hcf hjn
        have hns9 : ns ≤ 9 := by rw [← hns]; have := frP_row hdf; have := HL.out; omega
        have p0 := (HB4.out.below hb hbl4).cell (j := 0) rfl
        have p1 := (HB4.out.below hb hbl4).cell (j := 1) rfl
        have HAJ := Lib.hid (fun (Z : World) (hZ : Below wr.heap.size wr Z) => allowsJoins_any f ws M A3 Aj Ar n1 c3 m2 cj ns cr js row Z (HS4.out.quiet (hb.trans (hZ.mono hsz))) (((hrj.more (by omega)).below hZ (Nat.le_refl _)).more hZ.size) (((hrr.more (by omega)).below hZ (Nat.le_refl _)).more hZ.size) hm2e hns (by omega) hns9 hjn hfrm)
        have HAB := Lib.hid (fun (Z : World) (hZ : Below wr.heap.size wr Z) => allowsBlock_any f ws M k A3 Aj Ac Al n1 c3 m2 cj m1 cc n cl js co te th el la Z (HS4.out.quiet (hb.trans (hZ.mono hsz))) ((RdS.below (RdS.more hrc (by omega)) hZ (Nat.le_refl _)).more hZ.size) (((hrl.more (by omega)).below hZ (Nat.le_refl _)).more hZ.size) hm1e hll (by omega) (by omega) hlt hcode htest hlast)
        obtain ⟨qJ, hqJ⟩ : ∃ q, alJ f ws row js = q := ⟨_, rfl⟩
        obtain ⟨qB, hqB⟩ : ∃ q, alB f ws (k : Int) ⟨js, co, te, th, el, la⟩ = q := ⟨_, rfl⟩
        rw [hqJ] at HAJ HD
        rw [hqB] at HAB HD
        have hblr : (ad.add (k * 6)).block < wr.heap.size := by omega
        have hblfr : (af.add k).block < wr.heap.size := by omega
        have hgbr : gb < wr.heap.size := by omega
        clear hd hdf hsg hm1e hm2e hns hll hjn hcode htest hlast hfrm hrj hrc hrl hrr hqJ hqB
        have HSA : Hid (∀ w' : World, Below wr.heap.size wr w' → w'.cell? ⟨gb, 0, none⟩ = some (.map (some M)) ∧ w'.cell? ⟨gb, 1, none⟩ = some (.slice A3 n1 c3) ∧ w'.cell? (ad.add (k * 6)) = some (.slice Aj m2 cj) ∧ w'.cell? ⟨(ad.add (k * 6)).block, (ad.add (k * 6)).off + 1, none⟩ = some (.slice Ac m1 cc) ∧ w'.cell? ⟨(ad.add (k * 6)).block, (ad.add (k * 6)).off + 2, none⟩ = some (.int .i64 te) ∧ w'.cell? ⟨(ad.add (k * 6)).block, (ad.add (k * 6)).off + 3, none⟩ = some (.int .i64 th) ∧ w'.cell? ⟨(ad.add (k * 6)).block, (ad.add (k * 6)).off + 4, none⟩ = some (.int .i64 el) ∧ w'.cell? ⟨(ad.add (k * 6)).block, (ad.add (k * 6)).off + 5, none⟩ = some (.slice Al n cl)) := Lib.hid fun w' h =>
          ⟨(h.cell (p := ⟨gb, 0, none⟩) hgbr).trans p0, (h.cell (p := ⟨gb, 1, none⟩) hgbr).trans p1, (h.cell hblr).trans e0, (h.cell (p := ⟨(ad.add (k * 6)).block, (ad.add (k * 6)).off + 1, none⟩) hblr).trans e1, (h.cell (p := ⟨(ad.add (k * 6)).block, (ad.add (k * 6)).off + 2, none⟩) hblr).trans e2, (h.cell (p := ⟨(ad.add (k * 6)).block, (ad.add (k * 6)).off + 3, none⟩) hblr).trans e3, (h.cell (p := ⟨(ad.add (k * 6)).block, (ad.add (k * 6)).off + 4, none⟩) hblr).trans e4, (h.cell (p := ⟨(ad.add (k * 6)).block, (ad.add (k * 6)).off + 5, none⟩) hblr).trans e5⟩
        cases qJ
        · have HE : Hid (R = false) := Lib.hid (by rw [HR.out, HD.out]; rfl)
          go_wp2
          refine wp_region_held_drew (S := (fun w' => w'.cell? ⟨gb, 0, none⟩ = some (.map (some M)) ∧ w'.cell? ⟨gb, 1, none⟩ = some (.slice A3 n1 c3) ∧ w'.cell? (ad.add (k * 6)) = some (.slice Aj m2 cj) ∧ w'.cell? ⟨(ad.add (k * 6)).block, (ad.add (k * 6)).off + 1, none⟩ = some (.slice Ac m1 cc) ∧ w'.cell? ⟨(ad.add (k * 6)).block, (ad.add (k * 6)).off + 2, none⟩ = some (.int .i64 te) ∧ w'.cell? ⟨(ad.add (k * 6)).block, (ad.add (k * 6)).off + 3, none⟩ = some (.int .i64 th) ∧ w'.cell? ⟨(ad.add (k * 6)).block, (ad.add (k * 6)).off + 4, none⟩ = some (.int .i64 el) ∧ w'.cell? ⟨(ad.add (k * 6)).block, (ad.add (k * 6)).off + 5, none⟩ = some (.slice Al n cl))) (by kernel_rfl) (HSA.out _ (Below.drew (Below.refl _ _))) (fun hHeld => ?_)
          refine wpAnyH_take (i := 1) (oi := { dst := some 49, op := .move (.tmp 1), type := 22, pos := "single.go:208", after := #[], guard := none }) (v := .slice (some ad) n1 cap) rfl (by kernel_rfl) (by kernel_rfl) (by kernel_rfl) (fun _ _ _ h => h) (Or.inl ⟨by rfl, fun w hSw => by ((try dsimp only at hSw); go_simp)⟩) (by assumption) ?_
          (try simp only [Act.put, List.setIfInBounds_toArray, List.set_cons_zero, List.set_cons_succ])
          refine wpAnyH_take (i := 2) (oi := { dst := some 50, op := .move (.tmp 13), type := 3, pos := "single.go:208", after := #[], guard := none }) (v := .int .i64 (k : Int)) rfl (by kernel_rfl) (by kernel_rfl) (by kernel_rfl) (fun _ _ _ h => h) (Or.inl ⟨by rfl, fun w hSw => by ((try dsimp only at hSw); go_simp)⟩) (by assumption) ?_
          (try simp only [Act.put, List.setIfInBounds_toArray, List.set_cons_zero, List.set_cons_succ])
          refine wpAnyH_take (i := 6) (oi := { dst := some 54, op := .move (.tmp 14), type := 26, pos := "single.go:208", after := #[], guard := none }) (v := .slice Ar ns cr) rfl (by kernel_rfl) (by kernel_rfl) (by kernel_rfl) (fun _ _ _ h => h) (Or.inl ⟨by rfl, fun w hSw => by ((try dsimp only at hSw); go_simp)⟩) (by assumption) ?_
          (try simp only [Act.put, List.setIfInBounds_toArray, List.set_cons_zero, List.set_cons_succ])
          refine wpAnyH_take (i := 3) (oi := { dst := some 51, op := .indexAddr 22 (.tmp 49) (.tmp 50), type := 0, pos := "single.go:208", after := #[{ on := 1, ground := .data }, { on := 2, ground := .data }], guard := none }) (v := .pointer (some (ad.add (k * 6)))) rfl (by kernel_rfl) (by kernel_rfl) (by kernel_rfl) (fun _ _ _ h => h) (Or.inl ⟨by rfl, fun w hSw => by ((try dsimp only at hSw); go_simp)⟩) (by assumption) ?_
          (try simp only [Act.put, List.setIfInBounds_toArray, List.set_cons_zero, List.set_cons_succ])
          refine wpAnyH_take (i := 4) (oi := { dst := some 52, op := .fieldAddr 43 (.tmp 51) 0, type := 0, pos := "single.go:208", after := #[{ on := 3, ground := .data }], guard := none }) (v := .pointer (some (ad.add (k * 6)))) rfl (by kernel_rfl) (by kernel_rfl) (by kernel_rfl) (fun _ _ _ h => h) (Or.inl ⟨by rfl, fun w hSw => by ((try dsimp only at hSw); go_simp)⟩) (by assumption) ?_
          (try simp only [Act.put, List.setIfInBounds_toArray, List.set_cons_zero, List.set_cons_succ])
          refine wpAnyH_take (i := 0) (oi := { dst := some 48, op := .load 75 (.tmp 12), type := 75, pos := "single.go:208", after := #[], guard := none }) (v := .agg #[.map (some M), .slice A3 n1 c3]) rfl (by kernel_rfl) (by kernel_rfl) (by kernel_rfl) (fun _ _ _ h => h) (Or.inl ⟨by rfl, fun w hSw => by ((try dsimp only at hSw); go_simp)⟩) (by assumption) ?_
          (try simp only [Act.put, List.setIfInBounds_toArray, List.set_cons_zero, List.set_cons_succ])
          refine wpAnyH_take (i := 5) (oi := { dst := some 53, op := .load 40 (.tmp 52), type := 40, pos := "single.go:208", after := #[{ on := 4, ground := .data }], guard := none }) (v := .slice Aj m2 cj) rfl (by kernel_rfl) (by kernel_rfl) (by kernel_rfl) (fun _ _ _ h => h) (Or.inl ⟨by rfl, fun w hSw => by ((try dsimp only at hSw); go_simp)⟩) (by assumption) ?_
          (try simp only [Act.put, List.setIfInBounds_toArray, List.set_cons_zero, List.set_cons_succ])
          refine wpAnyH_ready (rs := [7]) (by kernel_rfl) (by simp) ?_
          refine AllReadyH.cons rfl (fun K hK => ?_) AllReadyH.nil
          go_simp
          go_at_call 35
          (with_reducible refine (HAJ.out _ (Below.drew (Below.refl _ _))).mono ?_)
          rintro e w5 ⟨rfl, hb5⟩
          have hb5' : Below wr.heap.size wr w5 := (Below.drew (Below.refl _ _) : Below wr.heap.size wr wr.drew).trans (hb5.mono (Nat.le_refl _))
          go_simp
          refine hK.out _ _ (HSA.out _ hb5') (fun hHeld2 => ?_)
          clear hK K
          (try simp only [Act.put, List.setIfInBounds_toArray, List.set_cons_zero, List.set_cons_succ])
          refine wpAnyH_take (i := 8) (oi := { dst := some 56, op := .unOp .not 4 (.tmp 55), type := 4, pos := "single.go:208", after := #[{ on := 7, ground := .data }], guard := none }) (v := .bool true) rfl (by kernel_rfl) (by kernel_rfl) (by kernel_rfl) (fun _ _ _ h => h) (Or.inl ⟨by rfl, fun w hSw => by ((try dsimp only at hSw); go_simp)⟩) (by assumption) ?_
          (try simp only [Act.put, List.setIfInBounds_toArray, List.set_cons_zero, List.set_cons_succ])
          refine wpAnyH_take (i := 9) (oi := { dst := some 57, op := .move (.tmp 56), type := 4, pos := "single.go:208", after := #[{ on := 8, ground := .data }, { on := 7, ground := .chain }], guard := none }) (v := .bool true) rfl (by kernel_rfl) (by kernel_rfl) (by kernel_rfl) (fun _ _ _ h => h) (Or.inl ⟨by rfl, fun w hSw => by ((try dsimp only at hSw); go_simp)⟩) (by assumption) ?_
          (try simp only [Act.put, List.setIfInBounds_toArray, List.set_cons_zero, List.set_cons_succ])
          refine wpAnyH_take (i := 10) (v := undef) rfl (by kernel_rfl) (by kernel_rfl) (by kernel_rfl) (fun _ _ _ h => h) (Or.inr ⟨by rfl, rfl⟩) (by assumption) ?_
          (try simp only [Act.put, List.setIfInBounds_toArray, List.set_cons_zero, List.set_cons_succ])
          refine wpAnyH_take (i := 11) (v := undef) rfl (by kernel_rfl) (by kernel_rfl) (by kernel_rfl) (fun _ _ _ h => h) (Or.inr ⟨by rfl, rfl⟩) (by assumption) ?_
          (try simp only [Act.put, List.setIfInBounds_toArray, List.set_cons_zero, List.set_cons_succ])
          refine wpAnyH_take (i := 12) (v := undef) rfl (by kernel_rfl) (by kernel_rfl) (by kernel_rfl) (fun _ _ _ h => h) (Or.inr ⟨by rfl, rfl⟩) (by assumption) ?_
          (try simp only [Act.put, List.setIfInBounds_toArray, List.set_cons_zero, List.set_cons_succ])
          refine wpAnyH_take (i := 13) (v := undef) rfl (by kernel_rfl) (by kernel_rfl) (by kernel_rfl) (fun _ _ _ h => h) (Or.inr ⟨by rfl, rfl⟩) (by assumption) ?_
          (try simp only [Act.put, List.setIfInBounds_toArray, List.set_cons_zero, List.set_cons_succ])
          refine wpAnyH_take (i := 14) (v := undef) rfl (by kernel_rfl) (by kernel_rfl) (by kernel_rfl) (fun _ _ _ h => h) (Or.inr ⟨by rfl, rfl⟩) (by assumption) ?_
          (try simp only [Act.put, List.setIfInBounds_toArray, List.set_cons_zero, List.set_cons_succ])
          refine wpAnyH_take (i := 15) (v := undef) rfl (by kernel_rfl) (by kernel_rfl) (by kernel_rfl) (fun _ _ _ h => h) (Or.inr ⟨by rfl, rfl⟩) (by assumption) ?_
          (try simp only [Act.put, List.setIfInBounds_toArray, List.set_cons_zero, List.set_cons_succ])
          refine wpAnyH_ready (rs := [16]) (by kernel_rfl) (by simp) ?_
          refine AllReadyH.cons rfl (fun K hK => ?_) AllReadyH.nil
          go_simp
          refine hK.out _ _ (HSA.out _ hb5') (fun hHeld3 => ?_)
          clear hK K
          (try simp only [Act.put, List.setIfInBounds_toArray, List.set_cons_zero, List.set_cons_succ])
          refine wpAnyH_take (i := 17) (v := undef) rfl (by kernel_rfl) (by kernel_rfl) (by kernel_rfl) (fun _ _ _ h => h) (Or.inr ⟨by rfl, rfl⟩) (by assumption) ?_
          (try simp only [Act.put, List.setIfInBounds_toArray, List.set_cons_zero, List.set_cons_succ])
          refine wpAnyH_take (i := 18) (v := .bool true) rfl (by kernel_rfl) (by kernel_rfl) (by kernel_rfl) (fun _ _ _ h => h) (Or.inl ⟨by rfl, fun w hSw => by go_simp⟩) (by assumption) ?_
          (try simp only [Act.put, List.setIfInBounds_toArray, List.set_cons_zero, List.set_cons_succ])
          refine wpAnyH_done (by kernel_rfl) ?_ _
          go_wp2
          go_ret2
          exact ⟨false, rfl, (by have := HON3.out; rw [HE.out] at this; exact this), hbw.trans (hb5'.mono (by omega))⟩
        · cases qB
          · have HE : Hid (R = false) := Lib.hid (by rw [HR.out, HD.out]; rfl)
            go_wp2
            go_region_held3 (fun w' => w'.cell? ⟨gb, 0, none⟩ = some (.map (some M)) ∧ w'.cell? ⟨gb, 1, none⟩ = some (.slice A3 n1 c3) ∧ w'.cell? (ad.add (k * 6)) = some (.slice Aj m2 cj) ∧ w'.cell? ⟨(ad.add (k * 6)).block, (ad.add (k * 6)).off + 1, none⟩ = some (.slice Ac m1 cc) ∧ w'.cell? ⟨(ad.add (k * 6)).block, (ad.add (k * 6)).off + 2, none⟩ = some (.int .i64 te) ∧ w'.cell? ⟨(ad.add (k * 6)).block, (ad.add (k * 6)).off + 3, none⟩ = some (.int .i64 th) ∧ w'.cell? ⟨(ad.add (k * 6)).block, (ad.add (k * 6)).off + 4, none⟩ = some (.int .i64 el) ∧ w'.cell? ⟨(ad.add (k * 6)).block, (ad.add (k * 6)).off + 5, none⟩ = some (.slice Al n cl))
              (first | exact HSA.out _ (Below.drew (Below.refl _ _)) | exact HSA.out _ hb5' | exact HSA.out _ hb6')
              (first
                | (go_at_call 35; (with_reducible refine (HAJ.out _ (Below.drew (Below.refl _ _))).mono ?_); rintro e w5 ⟨rfl, hb5⟩; have hb5' : Below wr.heap.size wr w5 := (Below.drew (Below.refl _ _) : Below wr.heap.size wr wr.drew).trans (hb5.mono (Nat.le_refl _)))
                | (go_at_call 36; (with_reducible refine (HAB.out _ hb5').mono ?_); rintro e w6 ⟨rfl, hb6⟩; have hb6' : Below wr.heap.size wr w6 := hb5'.trans (hb6.mono hb5'.size)))
            all_goals
              go_wp2
              go_ret2
              exact ⟨false, rfl, (by have := HON3.out; rw [HE.out] at this; exact this), hbw.trans (hb6'.mono (by omega))⟩
          · have HE : Hid (R = onR f ws (k + 1) ((frP l).drop (k + 1)) (l.drop (k + 1))) := Lib.hid (by rw [HR.out, HD.out]; rfl)
            go_wp2
            go_region_held3 (fun w' => w'.cell? ⟨gb, 0, none⟩ = some (.map (some M)) ∧ w'.cell? ⟨gb, 1, none⟩ = some (.slice A3 n1 c3) ∧ w'.cell? (ad.add (k * 6)) = some (.slice Aj m2 cj) ∧ w'.cell? ⟨(ad.add (k * 6)).block, (ad.add (k * 6)).off + 1, none⟩ = some (.slice Ac m1 cc) ∧ w'.cell? ⟨(ad.add (k * 6)).block, (ad.add (k * 6)).off + 2, none⟩ = some (.int .i64 te) ∧ w'.cell? ⟨(ad.add (k * 6)).block, (ad.add (k * 6)).off + 3, none⟩ = some (.int .i64 th) ∧ w'.cell? ⟨(ad.add (k * 6)).block, (ad.add (k * 6)).off + 4, none⟩ = some (.int .i64 el) ∧ w'.cell? ⟨(ad.add (k * 6)).block, (ad.add (k * 6)).off + 5, none⟩ = some (.slice Al n cl))
              (first | exact HSA.out _ (Below.drew (Below.refl _ _)) | exact HSA.out _ hb5' | exact HSA.out _ hb6')
              (first
                | (go_at_call 35; (with_reducible refine (HAJ.out _ (Below.drew (Below.refl _ _))).mono ?_); rintro e w5 ⟨rfl, hb5⟩; have hb5' : Below wr.heap.size wr w5 := (Below.drew (Below.refl _ _) : Below wr.heap.size wr wr.drew).trans (hb5.mono (Nat.le_refl _)))
                | (go_at_call 36; (with_reducible refine (HAB.out _ hb5').mono ?_); rintro e w6 ⟨rfl, hb6⟩; have hb6' : Below wr.heap.size wr w6 := hb5'.trans (hb6.mono hb5'.size)))
            all_goals
              go_wp2
              go_round
              case rel => exact ⟨k + 1, by omega, by go_num, HE.out, hb.trans (hb6'.mono hsz)⟩
              case measure => (simp [intOf]; omega)
      · have HE : Hid (R = true) := Lib.hid (by rw [HR.out]; exact onR_over (by rw [HL.out]; omega))
        go_wp2
        go_ret2
        exact ⟨true, rfl, (by have := HON3.out; rw [HE.out] at this; exact this), hbw⟩

end Go.Proofs.Ytgcjknibelfjbaa
