/-
  codemasonref.Tame and Loop (G).
-/
import Derived.Test.YtpbajalecfaibaaRuleRef
import Derived.Test.YtpbajalecfaibaaWaySets
import Derived.Test.YtpbajalecfaibaaPureLoop
import Derived.Deep.RegionWith
namespace Go.Proofs.Ytpbajalecfaibaa
open Go.RowKit
set_option linter.unusedSimpArgs false
set_option linter.unusedVariables false
set_option maxRecDepth 100000

theorem bk_lt {nx : List (List Int)} {p : Nat × Nat} (hc : ckWay nx = 0) (h : p ∈ bkL nx) : p.1 < nx.length ∧ p.2 < nx.length := by
  have := bkM_mem.1 h
  exact ⟨this.1, this.2.1⟩

theorem bkL_len (nx : List (List Int)) (hc : ckWay nx = 0) : (bkL nx).length ≤ 64 := by
  obtain ⟨b1, b2, _⟩ := ckWay_bd hc
  have h := bkM_len nx nx.length
  have : nx.length * nx.length ≤ 8 * 8 := Nat.mul_le_mul b2 b2
  unfold bkL
  omega

/-- the first k pairs that go back are ruled -/
def TmK (nx : List (List Int)) (k : Nat) : Prop := ∀ a b, (a, b) ∈ (bkL nx).take k → Dom nx b a

theorem TmK.next {nx : List (List Int)} {k a b : Nat} (h : TmK nx k) (hk : (bkL nx)[k]? = some (a, b)) (hd : Dom nx b a) : TmK nx (k + 1) := fun x y hm => by
  rw [List.take_add_one, hk, Option.toList_some, List.mem_append, List.mem_singleton] at hm
  rcases hm with hm | hm
  · exact h x y hm
  · injection hm with e1 e2
    subst e1 e2
    exact hd

set_option maxHeartbeats 4000000 in
theorem refTame_any (f : Nat → Nat → Bool) (T : Bool) (A : Option Addr) (len cap : Nat) (nx : List (List Int)) (w : World) (hf : ∀ i j, f i j = true ↔ Dom nx i j) (hT : T = true ↔ TameP nx) (hx : RdG w w.heap.size A nx) (hl : nx.length = len) (hc : ckWay nx = 0) :
    Calls Try.prog 22 #[.slice A len cap] w fun e w' => e = .returned (.bool T) ∧ Below w.heap.size w w' := by
  obtain ⟨b1, b2, _⟩ := ckWay_bd hc
  have HC := Lib.hid hc
  have HL := Lib.hid hl
  have HF := Lib.hid hf
  have HT := Lib.hid hT
  have hb64 := bkL_len nx hc
  rw [hl] at b1 b2
  have hback := refBack_any A len cap nx w hx hl hc
  clear hl hc hf hT
  go_enter Try.func22, Try.ntmps22
  go_wp2_with fail
  refine hback.mono ?_
  rintro e w1 ⟨A1, c1, rfl, hrb, hb1⟩
  obtain ⟨bl, hbl⟩ : ∃ bl, (bkL nx).length = bl := ⟨_, rfl⟩
  rw [hbl] at hb64 ⊢
  have HBL := Lib.hid hbl
  have hs1 := hb1.size
  obtain ⟨wo, rfl⟩ : ∃ wo : World, wo = w1 := ⟨_, rfl⟩
  clear hbl hback
  go_wp2
  go_loopw [8] (fun z wr => ∃ k : Nat, k ≤ bl ∧ z = .int .i64 k ∧ Hid (TmK nx k) ∧ Below wo.heap.size wo wr) (fun z _ => bl - (intOf z).toNat)
  case atStart => exact ⟨0, Nat.zero_le _, rfl, Lib.hid (fun a b h => by simp at h), Below.refl _ _⟩
  case round =>
    obtain ⟨k, hk, rfl, HK, hb⟩ := hrel
    have hsz := hb.size
    by_cases hlt : k < bl
    · obtain ⟨ap, a, b, rfl, hblp, hpd, hca, hcb⟩ := RdR.pair (RdR.below hrb hb (Nat.le_refl _)) (k := k) (by rw [HBL.out]; exact hlt)
      obtain ⟨ha, hb'⟩ := bk_lt HC.out (List.mem_of_getElem? hpd)
      rw [HL.out] at ha hb'
      dsimp only at ha hb'
      have hbr : Below w.heap.size w wr := hb1.trans (hb.mono hs1)
      obtain ⟨v, hv⟩ : ∃ v, f b a = v := ⟨_, rfl⟩
      have hvd := HF.out b a
      rw [hv] at hvd
      have HV := Lib.hid hv
      have HPD := Lib.hid hpd
      have hpb : (ap.add (k * 2)).block < wr.heap.size := by omega
      clear hv hpd
      go_wp2_with fail
      have hba : Below wr.heap.size wr (wr.alloc (.cells #[.int .i64 (a : Int), .int .i64 (b : Int)] 57)) := by go_grown
      have hxr : RdG (wr.alloc (.cells #[.int .i64 (a : Int), .int .i64 (b : Int)] 57)) (wr.alloc (.cells #[.int .i64 (a : Int), .int .i64 (b : Int)] 57)).heap.size A nx := (hx.below (hbr.trans (hba.mono hbr.size)) (Nat.le_refl _)).more (Nat.le_trans hbr.size hba.size)
      refine (refRules_any f _ _ cap nx b a _ HF.out hxr HL.out HC.out hb' ha).mono ?_
      rw [HV.out]
      rintro e w3 ⟨rfl, hb3⟩
      have hb13 : Below wo.heap.size wo w3 := hb.trans ((hba.trans (hb3.mono hba.size)).mono hsz)
      clear hba hxr
      cases v with
      | true =>
        have HN := Lib.hid (HK.out.next HPD.out (hvd.1 rfl))
        clear hvd
        go_wp2
        go_round
        case rel => exact ⟨k + 1, by omega, by go_num, HN, hb13⟩
        case measure => (simp [intOf]; omega)
      | false =>
        have hTf : T = false := by
          cases T with
          | false => rfl
          | true =>
            have := hvd.2 (HT.out.1 rfl a b (List.mem_of_getElem? HPD.out))
            cases this
        subst hTf
        clear hvd
        go_wp2
        go_ret
        exact ⟨rfl, hb1.trans (hb13.mono hs1)⟩
    · have hkl : k = bl := by omega
      subst hkl
      have HR : Hid (T = true) := Lib.hid (HT.out.2 fun a b h => HK.out a b (by rw [← HBL.out, List.take_length]; exact h))
      go_wp2
      go_ret
      exact ⟨by rw [HR.out]; rfl, hb1.trans (hb.mono hs1)⟩

/-- G1: the part of the loop at h that the first k pairs give -/
def LpK (nx : List (List Int)) (h k acc : Nat) : Prop := ∀ x, acc.testBit x = true ↔ ∃ a, (a, h) ∈ (bkL nx).take k ∧ Dom nx h a ∧ (x = h ∨ (Rea nx (-1) 0 x ∧ Rea nx (h : Int) x a))

/-- .. and the nodes below c that come to a without h -/
def LpC (nx : List (List Int)) (h a acc c acc' : Nat) : Prop := ∀ x, acc'.testBit x = true ↔ acc.testBit x = true ∨ x = h ∨ (x < c ∧ Rea nx (-1) 0 x ∧ Rea nx (h : Int) x a)

theorem LpK.skip {nx : List (List Int)} {h k acc a b : Nat} (hl : LpK nx h k acc) (hk : (bkL nx)[k]? = some (a, b)) (hn : ¬ (b = h ∧ Dom nx h a)) : LpK nx h (k + 1) acc := fun x => by
  rw [hl, List.take_add_one, hk, Option.toList_some]
  simp only [List.mem_append, List.mem_singleton]
  constructor
  · rintro ⟨c, h1, h2⟩; exact ⟨c, .inl h1, h2⟩
  · rintro ⟨c, h1 | h1, h2, h3⟩
    · exact ⟨c, h1, h2, h3⟩
    · injection h1 with e1 e2
      subst e1 e2
      exact absurd ⟨rfl, h2⟩ hn

theorem LpK.take {nx : List (List Int)} (hc : ckWay nx = 0) {h k acc acc' a : Nat} (hl : LpK nx h k acc) (hk : (bkL nx)[k]? = some (a, h)) (hd : Dom nx h a) (hcc : LpC nx h a acc nx.length acc') : LpK nx h (k + 1) acc' := fun x => by
  rw [hcc, hl, List.take_add_one, hk, Option.toList_some]
  simp only [List.mem_append, List.mem_singleton]
  constructor
  · rintro (⟨c, h1, h2⟩ | h1 | ⟨_, h1, h2⟩)
    · exact ⟨c, .inl h1, h2⟩
    · exact ⟨a, .inr rfl, hd, .inl h1⟩
    · exact ⟨a, .inr rfl, hd, .inr ⟨h1, h2⟩⟩
  · rintro ⟨c, h1 | h1, h2, h3⟩
    · exact .inl ⟨c, h1, h2, h3⟩
    · injection h1 with e1 _
      subst e1
      rcases h3 with h3 | ⟨h3, h4⟩
      · exact .inr (.inl h3)
      · exact .inr (.inr ⟨(Rea.lt hc h3 (ckWay_bd hc).1), h3, h4⟩)

theorem LpC.yes {nx : List (List Int)} {h a acc c acc' : Nat} (hl : LpC nx h a acc c acc') (h1 : Rea nx (-1) 0 c) (h2 : Rea nx (h : Int) c a) : LpC nx h a acc (c + 1) (acc' ||| 2 ^ c) := fun x => by
  rw [Nat.testBit_or, Bool.or_eq_true, hl, Nat.testBit_two_pow, decide_eq_true_eq]
  constructor
  · rintro ((h3 | h3 | ⟨h3, h4⟩) | h3)
    · exact .inl h3
    · exact .inr (.inl h3)
    · exact .inr (.inr ⟨by omega, h4⟩)
    · subst h3; exact .inr (.inr ⟨by omega, h1, h2⟩)
  · rintro (h3 | h3 | ⟨h3, h4⟩)
    · exact .inl (.inl h3)
    · exact .inl (.inr (.inl h3))
    · by_cases e : c = x
      · exact .inr e
      · exact .inl (.inr (.inr ⟨by omega, h4⟩))

theorem LpC.no {nx : List (List Int)} {h a acc c acc' : Nat} (hl : LpC nx h a acc c acc') (hn : ¬ (Rea nx (-1) 0 c ∧ Rea nx (h : Int) c a)) : LpC nx h a acc (c + 1) acc' := fun x => by
  rw [hl]
  constructor
  · rintro (h3 | h3 | ⟨h3, h4⟩)
    · exact .inl h3
    · exact .inr (.inl h3)
    · exact .inr (.inr ⟨by omega, h4⟩)
  · rintro (h3 | h3 | ⟨h3, h4⟩)
    · exact .inl h3
    · exact .inr (.inl h3)
    · by_cases e : c = x
      · subst e; exact absurd h4 hn
      · exact .inr (.inr ⟨by omega, h4⟩)

theorem LpC.start (nx : List (List Int)) (h a acc : Nat) : LpC nx h a acc 0 (acc ||| 2 ^ h) := fun x => by
  rw [Nat.testBit_or, Bool.or_eq_true, Nat.testBit_two_pow, decide_eq_true_eq]
  constructor
  · rintro (h1 | h1)
    · exact .inl h1
    · exact .inr (.inl h1.symm)
  · rintro (h1 | h1 | ⟨h1, _⟩)
    · exact .inl h1
    · exact .inr h1.symm
    · omega

theorem LpK.done {nx : List (List Int)} {h acc W : Nat} (hl : LpK nx h (bkL nx).length acc) (hW : ∀ x, W.testBit x = true ↔ LoopP nx h x) : acc = W := word_ext fun x => by
  rw [hl, hW, List.take_length]
  exact Iff.rfl

set_option maxHeartbeats 4000000 in
theorem refLoop_any (f : Nat → Nat → Bool) (W : Nat) (A : Option Addr) (len cap : Nat) (nx : List (List Int)) (h : Nat) (w : World) (hf : ∀ i j, f i j = true ↔ Dom nx i j) (hW : ∀ x, W.testBit x = true ↔ LoopP nx h x) (hx : RdG w w.heap.size A nx) (hl : nx.length = len) (hc : ckWay nx = 0) (hh : h < len) :
    Calls Try.prog 19 #[.slice A len cap, .int .i64 h] w fun e w' => e = .returned (.int .u32 (W : Nat)) ∧ Below w.heap.size w w' := by
  obtain ⟨b1, b2, _⟩ := ckWay_bd hc
  have HC := Lib.hid hc
  have HL := Lib.hid hl
  have HF := Lib.hid hf
  have HW := Lib.hid hW
  have hb64 := bkL_len nx hc
  rw [hl] at b1 b2
  have hback := refBack_any A len cap nx w hx hl hc
  have hh2 := pow_lt_32 (v := h) (by omega)
  have hhe := pow_u32' (v := h) (by omega)
  have HHE := Lib.hid hhe
  clear hl hc hf hW hhe
  go_enter Try.func19, Try.ntmps19
  go_wp2_with fail
  refine hback.mono ?_
  rintro e w1 ⟨A1, c1, rfl, hrb, hb1⟩
  obtain ⟨bl, hbl⟩ : ∃ bl, (bkL nx).length = bl := ⟨_, rfl⟩
  rw [hbl] at hb64 ⊢
  have HBL := Lib.hid hbl
  have hs1 := hb1.size
  obtain ⟨wo, rfl⟩ : ∃ wo : World, wo = w1 := ⟨_, rfl⟩
  clear hbl hback
  go_wp2
  go_loopw [5, 12] (fun y z wr => ∃ k acc : Nat, k ≤ bl ∧ z = .int .i64 k ∧ y = .int .u32 (acc : Nat) ∧ acc < 256 ∧ Hid (LpK nx h k acc) ∧ Below wo.heap.size wo wr) (fun _ z _ => bl - (intOf z).toNat)
  case atStart => exact ⟨0, 0, Nat.zero_le _, rfl, rfl, by omega, Lib.hid (fun x => by simp), Below.refl _ _⟩
  case round =>
    obtain ⟨k, acc, hk, rfl, rfl, hacc, HK, hb⟩ := hrel
    have hsz := hb.size
    by_cases hlt : k < bl
    · obtain ⟨ap, a, b, rfl, hblp, hpd, hca, hcb⟩ := RdR.pair (RdR.below hrb hb (Nat.le_refl _)) (k := k) (by rw [HBL.out]; exact hlt)
      obtain ⟨ha, hb'⟩ := bk_lt HC.out (List.mem_of_getElem? hpd)
      rw [HL.out] at ha hb'
      dsimp only at ha hb'
      have hbr : Below w.heap.size w wr := hb1.trans (hb.mono hs1)
      have HPD := Lib.hid hpd
      have hpb : (ap.add (k * 2)).block < wr.heap.size := by omega
      clear hpd
      by_cases hbh : b = h
      · subst hbh
        have e0 : ((b : Int) != (b : Int)) = false := by simp
        obtain ⟨v, hv⟩ : ∃ v, f b a = v := ⟨_, rfl⟩
        have hvd := HF.out b a
        rw [hv] at hvd
        have HV := Lib.hid hv
        clear hv
        go_wp2_with fail
        have hba : Below wr.heap.size wr (wr.alloc (.cells #[.int .i64 (a : Int), .int .i64 (b : Int)] 57)) := by go_grown
        have hxr : RdG (wr.alloc (.cells #[.int .i64 (a : Int), .int .i64 (b : Int)] 57)) (wr.alloc (.cells #[.int .i64 (a : Int), .int .i64 (b : Int)] 57)).heap.size A nx := (hx.below (hbr.trans (hba.mono hbr.size)) (Nat.le_refl _)).more (Nat.le_trans hbr.size hba.size)
        have hcell : (wr.alloc (.cells #[.int .i64 (a : Int), .int .i64 (b : Int)] 57)).cell? ⟨wr.heap.size, 0, none⟩ = some (.int .i64 (a : Int)) := cell_new rfl rfl
        have hasz : (wr.alloc (.cells #[.int .i64 (a : Int), .int .i64 (b : Int)] 57)).heap.size = wr.heap.size + 1 := by simp
        refine (refRules_any f _ _ cap nx b a _ HF.out hxr HL.out HC.out hh ha).mono ?_
        rw [HV.out]
        rintro e w3 ⟨rfl, hb3⟩
        have hb03 := hba.trans (hb3.mono hba.size)
        have hb13 : Below wo.heap.size wo w3 := hb.trans (hb03.mono hsz)
        have hcell3 := (hb3.cell (p := ⟨wr.heap.size, 0, none⟩) (by rw [hasz]; show wr.heap.size < _; omega)).trans hcell
        have hs3 := hb3.size
        rw [hasz] at hs3
        clear hba hxr hcell hasz hb3 hb03
        cases v with
        | false =>
          have HN := Lib.hid (HK.out.skip HPD.out (fun ⟨_, h2⟩ => by have := hvd.2 h2; cases this))
          clear hvd
          go_wp2
          go_round
          case rel => exact ⟨k + 1, acc, by omega, by go_num, rfl, hacc, HN, hb13⟩
          case measure => (simp [intOf]; omega)
        | true =>
          have HD := Lib.hid (hvd.1 rfl)
          have hbx : Below w.heap.size w w3 := hb1.trans (hb13.mono hs1)
          have hor : bits .or .u32 (acc : Int) ((2 ^ b : Nat) : Int) = ((acc ||| 2 ^ b : Nat) : Int) := u32_or_nat _ _ (by omega) (by omega)
          have HOL := Lib.hid (or_lt8 hacc (show b < 8 by omega))
          have HTK := Lib.hid (fun acc' => HK.out.take HC.out HPD.out HD.out (acc' := acc'))
          clear hvd hbr
          obtain ⟨wu, rfl⟩ : ∃ wu : World, wu = w3 := ⟨_, rfl⟩
          obtain ⟨gb, hgb⟩ : ∃ gb, gb = wr.heap.size := ⟨_, rfl⟩
          rw [← hgb] at hcell3 hs3
          have hgl : gb < wu.heap.size := by omega
          have HGB := Lib.hid hgb
          go_wp2
          rw [← HGB.out]
          clear hsz hb hca hcb hpb hgb HGB
          go_loopw [5, 8] (fun y z wr => ∃ c acc' : Nat, c ≤ len ∧ z = .int .i64 c ∧ y = .int .u32 (acc' : Nat) ∧ acc' < 256 ∧ Hid (LpC nx b a acc c acc') ∧ Below wu.heap.size wu wr) (fun _ z _ => len - (intOf z).toNat)
          case atStart => exact ⟨0, acc ||| 2 ^ b, Nat.zero_le _, rfl, by rw [← hor, HHE.out], HOL.out, Lib.hid (LpC.start nx b a acc), Below.refl _ _⟩
          case round =>
            obtain ⟨c, acc', hc', rfl, rfl, hacc', HEC, hbi⟩ := hrel
            have hszi := hbi.size
            by_cases hct : c < len
            · have hxi : RdG wr wr.heap.size A nx := (hx.below (hbx.trans (hbi.mono hbx.size)) (Nat.le_refl _)).more (Nat.le_trans hbx.size hszi)
              have hcc : wr.drew.cell? ⟨gb, 0, none⟩ = some (.int .i64 (a : Int)) := (hbi.cell (p := ⟨gb, 0, none⟩) hgl).trans hcell3
              have hgr : gb < wr.heap.size := by omega
              have hp2 := pow_lt_32 (v := c) (by omega)
              have hpe := pow_u32' (v := c) (by omega)
              have HPE := Lib.hid hpe
              have hor2 : bits .or .u32 (acc' : Int) ((2 ^ c : Nat) : Int) = ((acc' ||| 2 ^ c : Nat) : Int) := u32_or_nat _ _ (by omega) (by omega)
              have HOL2 := Lib.hid (or_lt8 hacc' (show c < 8 by omega))
              obtain ⟨v1, hv1⟩ := bool_of (Rea nx (-1) 0 c)
              obtain ⟨v2, hv2⟩ := bool_of (Rea nx (b : Int) c a)
              have HV1 := Lib.hid hv1
              have HV2 := Lib.hid hv2
              have hr1 := refReach_any A len cap nx 0 (-1) wr.drew hxi HL.out HC.out b1
              rw [show ((0 : Nat) : Int) = 0 from rfl] at hr1
              have HR1 := Lib.hid hr1
              clear hr1
              have HR2 := Lib.hid fun (w5 : World) (hx5 : RdG w5 w5.heap.size A nx) => refReach_any A len cap nx c (b : Int) w5 hx5 HL.out HC.out hct
              clear hpe hv1 hv2
              cases v1 with
              | false =>
                have HN := Lib.hid (HEC.out.no (fun ⟨h1, _⟩ => by have := HV1.out.2 h1; cases this))
                go_wp2
                refine wp_region_any (by kernel_rfl) ?_
                change wpAny _ _ _ _ _ _ _ (World.drew _)
                refine wpAny_take (i := 0) (v := .slice A len cap) rfl (by kernel_rfl) (by kernel_rfl) (by kernel_rfl) (fun _ _ _ h => h) (Or.inl ⟨by rfl, fun w => by go_simp⟩) ?_
                refine wpAny_take (i := 2) (v := .int .i64 (c : Int)) rfl (by kernel_rfl) (by kernel_rfl) (by kernel_rfl) (fun _ _ _ h => h) (Or.inl ⟨by rfl, fun w => by go_simp⟩) ?_
                refine wpAny_ready (rs := [1]) (by kernel_rfl) (by simp) ?_
                refine AllReady.cons rfl (fun K hK => ?_) AllReady.nil
                go_simp
                (with_reducible refine HR1.out.mono ?_)
                rintro e w5 ⟨hs5, A5, c5, hrc5, rfl, hr5, hb5⟩
                have hl5 := hrc5.len
                have H5 := Lib.hid (has_any (c : Int) A5 hs5.length c5 (ni hs5) _ w5 hr5 (by simp [ni]) (by rw [HL.out] at hl5; unfold maxLen; omega))
                have hE5 : hasB (ni hs5) (c : Int) = false := has_iff (by rw [hrc5.mem, HV1.out])
                rw [hE5] at H5
                clear hr5 hrc5 hE5
                go_wp2_with fail
                refine wpAny_ready (rs := [3]) (by kernel_rfl) (by simp) ?_
                refine AllReady.cons rfl (fun K hK => ?_) AllReady.nil
                go_simp
                (with_reducible refine H5.out.mono ?_)
                rintro e w6 ⟨rfl, rfl⟩
                go_wp2_with fail
                refine wpAny_ready (rs := [4]) (by kernel_rfl) (by simp) ?_
                refine AllReady.cons rfl (fun K hK => ?_) AllReady.nil
                go_simp
                refine hK _ _ ?_
                clear hK K
                refine wpAny_take (i := 5) (v := undef) rfl (by kernel_rfl) (by kernel_rfl) (by kernel_rfl) (fun _ _ _ h => h) (Or.inr ⟨by rfl, rfl⟩) ?_
                refine wpAny_take (i := 6) (v := undef) rfl (by kernel_rfl) (by kernel_rfl) (by kernel_rfl) (fun _ _ _ h => h) (Or.inr ⟨by rfl, rfl⟩) ?_
                refine wpAny_take (i := 7) (v := undef) rfl (by kernel_rfl) (by kernel_rfl) (by kernel_rfl) (fun _ _ _ h => h) (Or.inr ⟨by rfl, rfl⟩) ?_
                have hb6 : Below wu.heap.size wu w5 := hbi.trans (Below.mono (B := wr.drew.heap.size) (show Below wr.drew.heap.size wr w5 from ⟨hb5.os, hb5.tape, hb5.output, hb5.size, hb5.block⟩) hszi)
                refine wpAny_take (i := 9) (v := undef) rfl (by kernel_rfl) (by kernel_rfl) (by kernel_rfl) (fun _ _ _ h => h) (Or.inr ⟨by rfl, rfl⟩) ?_
                refine wpAny_ready (rs := [8, 10]) (by kernel_rfl) (by simp) ?_
                refine AllReady.cons rfl (fun K hK => ?_) (AllReady.cons rfl (fun K hK => ?_) AllReady.nil)
                · go_simp
                  refine hK _ _ ?_
                  clear hK K
                  refine wpAny_take (i := 10) (v := undef) rfl (by kernel_rfl) (by kernel_rfl) (by kernel_rfl) (fun _ _ _ h => h) (Or.inr ⟨by rfl, rfl⟩) ?_
                  refine wpAny_take (i := 11) (v := undef) rfl (by kernel_rfl) (by kernel_rfl) (by kernel_rfl) (fun _ _ _ h => h) (Or.inr ⟨by rfl, rfl⟩) ?_
                  refine wpAny_take (i := 12) (v := .bool false) rfl (by kernel_rfl) (by kernel_rfl) (by kernel_rfl) (fun _ _ _ h => h) (Or.inl ⟨by rfl, fun w => by go_simp⟩) ?_
                  refine wpAny_done (by kernel_rfl) ?_ _
                  go_wp2
                  go_round
                  case rel => exact ⟨c + 1, acc', by omega, by go_num, rfl, hacc', HN, hb6⟩
                  case measure => (simp [intOf]; omega)
                · go_simp
                  refine hK _ _ ?_
                  clear hK K
                  refine wpAny_take (i := 8) (v := undef) rfl (by kernel_rfl) (by kernel_rfl) (by kernel_rfl) (fun _ _ _ h => h) (Or.inr ⟨by rfl, rfl⟩) ?_
                  refine wpAny_take (i := 11) (v := undef) rfl (by kernel_rfl) (by kernel_rfl) (by kernel_rfl) (fun _ _ _ h => h) (Or.inr ⟨by rfl, rfl⟩) ?_
                  refine wpAny_take (i := 12) (v := .bool false) rfl (by kernel_rfl) (by kernel_rfl) (by kernel_rfl) (fun _ _ _ h => h) (Or.inl ⟨by rfl, fun w => by go_simp⟩) ?_
                  refine wpAny_done (by kernel_rfl) ?_ _
                  go_wp2
                  go_round
                  case rel => exact ⟨c + 1, acc', by omega, by go_num, rfl, hacc', HN, hb6⟩
                  case measure => (simp [intOf]; omega)
              | true =>
                have hbk : ∀ w5, Below wr.drew.heap.size wr.drew w5 → RdG w5 w5.heap.size A nx := fun w5 hb5 => (RdG.below (show RdG wr.drew wr.drew.heap.size A nx from hxi) hb5 (Nat.le_refl _)).more hb5.size
                cases v2 with
                | false =>
                  have HN := Lib.hid (HEC.out.no (fun ⟨_, h2⟩ => by have := HV2.out.2 h2; cases this))
                  go_wp2
                  go_region_with (first
                    | (go_at_call 39; (with_reducible refine HR1.out.mono ?_); rintro e w5 ⟨hs5, A5, c5, hrc5, rfl, hr5, hb5⟩; have hl5 := hrc5.len; have H5 := Lib.hid (has_any (c : Int) A5 hs5.length c5 (ni hs5) _ w5 hr5 (by simp [ni]) (by rw [HL.out] at hl5; unfold maxLen; omega)); have hE5 : hasB (ni hs5) (c : Int) = true := has_iff (by rw [hrc5.mem]; simpa using HV1.out); rw [hE5] at H5; have hx5 := hbk w5 hb5; have hcc5 := (hb5.cell (p := ⟨gb, 0, none⟩) (by show gb < wr.heap.size; exact hgr)).trans hcc; have hs5' : gb < w5.heap.size := Nat.lt_of_lt_of_le hgr hb5.size; clear hr5 hrc5 hE5)
                    | (go_at_call 39; (with_reducible refine (HR2.out w5 hx5).mono ?_); rintro e w7 ⟨hs7, A7, c7, hrc7, rfl, hr7, hb7⟩; have hl7 := hrc7.len; have H7 := Lib.hid (has_any (a : Int) A7 hs7.length c7 (ni hs7) _ w7 hr7 (by simp [ni]) (by rw [HL.out] at hl7; unfold maxLen; omega)); have hE7 : hasB (ni hs7) (a : Int) = false := has_iff (by rw [hrc7.mem]; simpa using HV2.out); rw [hE7] at H7; have hcc7 := (hb7.cell (p := ⟨gb, 0, none⟩) hs5').trans hcc5; clear hr7 hrc7 hE7)
                    | (go_at_call 30; (with_reducible refine H5.out.mono ?_); rintro e w6 ⟨rfl, rfl⟩)
                    | (go_at_call 30; (with_reducible refine H7.out.mono ?_); rintro e w8 ⟨rfl, rfl⟩))
                  all_goals
                    have hb6 : Below wu.heap.size wu w7 := hbi.trans ((Below.mono (B := wr.drew.heap.size) (show Below wr.drew.heap.size wr w5 from ⟨hb5.os, hb5.tape, hb5.output, hb5.size, hb5.block⟩) hszi).trans (hb7.mono (Nat.le_trans hszi hb5.size)))
                    go_wp2
                    go_round
                    case rel => exact ⟨c + 1, acc', by omega, by go_num, rfl, hacc', HN, hb6⟩
                    case measure => (simp [intOf]; omega)
                | true =>
                  have HY := Lib.hid (HEC.out.yes (HV1.out.1 rfl) (HV2.out.1 rfl))
                  go_wp2
                  go_region_with (first
                    | (go_at_call 39; (with_reducible refine HR1.out.mono ?_); rintro e w5 ⟨hs5, A5, c5, hrc5, rfl, hr5, hb5⟩; have hl5 := hrc5.len; have H5 := Lib.hid (has_any (c : Int) A5 hs5.length c5 (ni hs5) _ w5 hr5 (by simp [ni]) (by rw [HL.out] at hl5; unfold maxLen; omega)); have hE5 : hasB (ni hs5) (c : Int) = true := has_iff (by rw [hrc5.mem]; simpa using HV1.out); rw [hE5] at H5; have hx5 := hbk w5 hb5; have hcc5 := (hb5.cell (p := ⟨gb, 0, none⟩) (by show gb < wr.heap.size; exact hgr)).trans hcc; have hs5' : gb < w5.heap.size := Nat.lt_of_lt_of_le hgr hb5.size; clear hr5 hrc5 hE5)
                    | (go_at_call 39; (with_reducible refine (HR2.out w5 hx5).mono ?_); rintro e w7 ⟨hs7, A7, c7, hrc7, rfl, hr7, hb7⟩; have hl7 := hrc7.len; have H7 := Lib.hid (has_any (a : Int) A7 hs7.length c7 (ni hs7) _ w7 hr7 (by simp [ni]) (by rw [HL.out] at hl7; unfold maxLen; omega)); have hE7 : hasB (ni hs7) (a : Int) = true := has_iff (by rw [hrc7.mem]; simpa using HV2.out); rw [hE7] at H7; have hcc7 := (hb7.cell (p := ⟨gb, 0, none⟩) hs5').trans hcc5; clear hr7 hrc7 hE7)
                    | (go_at_call 30; (with_reducible refine H5.out.mono ?_); rintro e w6 ⟨rfl, rfl⟩)
                    | (go_at_call 30; (with_reducible refine H7.out.mono ?_); rintro e w8 ⟨rfl, rfl⟩))
                  all_goals
                    have hb6 : Below wu.heap.size wu w7 := hbi.trans ((Below.mono (B := wr.drew.heap.size) (show Below wr.drew.heap.size wr w5 from ⟨hb5.os, hb5.tape, hb5.output, hb5.size, hb5.block⟩) hszi).trans (hb7.mono (Nat.le_trans hszi hb5.size)))
                    go_wp2
                    go_round
                    case rel => exact ⟨c + 1, acc' ||| 2 ^ c, by omega, by go_num, by rw [← hor2, HPE.out], HOL2.out, HY, hb6⟩
                    case measure => (simp [intOf]; omega)
            · have hcl : c = len := by omega
              subst hcl
              have HN := Lib.hid (HTK.out acc' (by rw [HL.out]; exact HEC.out))
              go_wp2
              go_round
              case rel => exact ⟨k + 1, acc', by omega, by go_num, rfl, hacc', HN, hb13.trans (hbi.mono hb13.size)⟩
              case measure => (simp [intOf]; omega)
      · have e0 : ((b : Int) != (h : Int)) = true := by simp; omega
        have HN := Lib.hid (HK.out.skip HPD.out (fun ⟨h1, _⟩ => hbh h1))
        clear hbh
        go_wp2
        go_round
        case rel => exact ⟨k + 1, acc, by omega, by go_num, rfl, hacc, HN, by go_grown⟩
        case measure => (simp [intOf]; omega)
    · have hkl : k = bl := by omega
      subst hkl
      have HDN := Lib.hid (LpK.done (by rw [HBL.out]; exact HK.out) HW.out)
      go_wp2
      go_ret
      exact ⟨by rw [← HDN.out]; rfl, hb1.trans (hb.mono hs1)⟩

end Go.Proofs.Ytpbajalecfaibaa
