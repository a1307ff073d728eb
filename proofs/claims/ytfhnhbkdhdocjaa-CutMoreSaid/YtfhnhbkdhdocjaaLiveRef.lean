/-
  codemasonref.Reads, codemasonref.comes: what a step uses, places (K1).
-/
import Derived.Test.YtfhnhbkdhdocjaaMPure
import Derived.Test.YtfhnhbkdhdocjaaMBlkR
import Derived.Test.YtfhnhbkdhdocjaaMBase
namespace Go.Proofs.Ytfhnhbkdhdocjaa
open Go.RowKit
set_option linter.unusedSimpArgs false
set_option linter.unusedVariables false
set_option maxRecDepth 100000

/-- what a step uses, as a word -/
def rdW (s : St) : Nat := if s.op = 1 then 0 else if s.op = 2 then 2 ^ s.v.toNat else 2 ^ s.a.toNat ||| 2 ^ s.b.toNat

theorem testBit_pow (a v : Nat) : (2 ^ a).testBit v = decide (a = v) := by
  rw [Nat.testBit_two_pow]

theorem rdW_bit {n : Nat} {s : St} (hc : ckStep n n s.op s.to s.a s.b s.v = 0) (v : Nat) : (rdW s).testBit v = true ↔ UsesS s v := by
  obtain ⟨_, hcase⟩ := ckStep_cases hc
  unfold rdW UsesS
  rcases hcase with ⟨h1, _⟩ | ⟨h1, h2, h3⟩ | ⟨h1, h2, h3, h4, h5, h6⟩
  · rw [if_pos h1]; simp; omega
  · rw [if_neg (by omega), if_pos h1, testBit_pow, decide_eq_true_eq]; omega
  · rw [if_neg (by omega), if_neg (by omega), Nat.testBit_or, testBit_pow, testBit_pow, Bool.or_eq_true, decide_eq_true_eq, decide_eq_true_eq]; omega

theorem rdW_lt {n : Nat} {s : St} (hc : ckStep n n s.op s.to s.a s.b s.v = 0) (hn : n ≤ 6) : rdW s < 2 ^ 6 := by
  obtain ⟨_, hcase⟩ := ckStep_cases hc
  have hp : ∀ {k : Nat}, k < 6 → 2 ^ k < 2 ^ 6 := fun h => Nat.pow_lt_pow_right (by omega) h
  unfold rdW
  rcases hcase with ⟨h1, _⟩ | ⟨h1, h2, h3⟩ | ⟨h1, h2, h3, h4, h5, h6⟩
  · rw [if_pos h1]; decide
  · rw [if_neg (by omega), if_pos h1]; exact hp (by omega)
  · rw [if_neg (by omega), if_neg (by omega)]; exact Nat.or_lt_two_pow (hp (by omega)) (hp (by omega))

set_option maxHeartbeats 4000000 in
theorem reads_any (n : Nat) (o t a b v : Int) (w : World) (hc : ckStep n n o t a b v = 0) (hn : n ≤ 6) :
    Calls Try.prog 48 #[.agg #[.int .i64 o, .int .i64 t, .int .i64 a, .int .i64 b, .int .i64 v]] w fun e w' => e = .returned (.int .u32 (rdW ⟨o, t, a, b, v⟩ : Nat)) ∧ Below w.heap.size w w' := by
  obtain ⟨_, hcase⟩ := ckStep_cases hc
  clear hc
  rcases hcase with ⟨rfl, _⟩ | ⟨rfl, h2, h3⟩ | ⟨h1, h2, h3, h4, h5, h6⟩
  · rw [show rdW ⟨1, t, a, b, v⟩ = 0 from rfl]
    go_enter Try.func48, Try.ntmps48
    go_wp2
    go_ret
    exact ⟨rfl, by go_grown⟩
  · obtain ⟨vn, rfl⟩ := Int.eq_ofNat_of_zero_le h2
    have hvn : vn < 32 := by omega
    have hp := pow_u32' hvn
    have hr : rdW ⟨2, t, a, b, (vn : Int)⟩ = 2 ^ vn := rfl
    rw [hr]
    clear hr
    go_enter Try.func48, Try.ntmps48
    go_wp2
    go_ret
    refine ⟨?_, by go_grown⟩
    first | rfl | (rw [← hp]; rfl) | (simp only [hp])
  · obtain ⟨an, rfl⟩ := Int.eq_ofNat_of_zero_le h3
    obtain ⟨bn, rfl⟩ := Int.eq_ofNat_of_zero_le h5
    have han : an < 32 := by omega
    have hbn : bn < 32 := by omega
    have hp := pow_u32' han
    have hq := pow_u32' hbn
    have hor : bits .or .u32 ((2 : Int) ^ an) ((2 : Int) ^ bn) = ((2 ^ an ||| 2 ^ bn : Nat) : Int) := by
      have h1 : (2 : Int) ^ an = ((2 ^ an : Nat) : Int) := by simp
      have h2 : (2 : Int) ^ bn = ((2 ^ bn : Nat) : Int) := by simp
      rw [h1, h2]
      exact u32_or_nat _ _ (pow_lt_32 han) (pow_lt_32 hbn)
    have hr : rdW ⟨o, t, (an : Int), (bn : Int), v⟩ = 2 ^ an ||| 2 ^ bn := by unfold rdW; rw [if_neg (by show ¬ o = 1; omega), if_neg (by show ¬ o = 2; omega)]; rfl
    rw [hr]
    have o1 : (o == 1) = false := by simp; omega
    have o2 : (o == 2) = false := by simp; omega
    clear hr
    go_enter Try.func48, Try.ntmps48
    go_wp2
    go_ret
    refine ⟨?_, by go_grown⟩
    first | rfl | exact congrArg (fun x => Ending.returned (.int .u32 x)) hor

/-! ### Places -/

/-- places as values -/
def cSp (x : Nat × Nat) : List Value := [.int .i64 (x.1 : Int), .int .i64 (x.2 : Int)]

theorem cSp_len (x : Nat × Nat) : (cSp x).length = 2 := rfl

theorem cSp_one (l : List (Nat × Nat)) : ∀ u ∈ rv cSp l, u.oneCell' = true := rv_all (fun x u hu => by
  simp [cSp] at hu
  rcases hu with rfl | rfl <;> rfl) l

theorem sp_app : AppTy Try.prog 85 32 2 16 := appTy_of (z := .agg #[.int .i64 0, .int .i64 0]) Try.underlying85 (by kernel_rfl) rfl (by omega)

theorem sp_at {w : World} {B : Nat} {A : Option Addr} {l : List (Nat × Nat)} {k : Nat} (h : RdR cSp w B A 2 l) (hk : k < l.length) :
    ∃ (ad : Addr) (x y : Nat), A = some ad ∧ (ad.add (k * 2)).block < B ∧ l[k]? = some (x, y) ∧ w.cell? (ad.add (k * 2)) = some (.int .i64 (x : Int)) ∧ w.cell? ⟨(ad.add (k * 2)).block, (ad.add (k * 2)).off + 1, none⟩ = some (.int .i64 (y : Int)) := by
  obtain ⟨ad, p, e, hb, hd, hc⟩ := RdR.cell cSp_len (by omega) h hk
  obtain ⟨x, y⟩ := p
  exact ⟨ad, x, y, e, hb, hd, hc 0 _ rfl, hc 1 _ rfl⟩

/-- a place more, once -/
def addP (l : List (Nat × Nat)) (x : Nat × Nat) : List (Nat × Nat) := if x ∈ l then l else l ++ [x]

theorem addP_mem {l : List (Nat × Nat)} {x y : Nat × Nat} : y ∈ addP l x ↔ y ∈ l ∨ y = x := by
  unfold addP
  split
  · constructor
    · exact .inl
    · rintro (h | rfl)
      · exact h
      · assumption
  · simp

theorem addP_pre (l : List (Nat × Nat)) (x : Nat × Nat) {k : Nat} {y : Nat × Nat} (h : l[k]? = some y) : (addP l x)[k]? = some y := by
  unfold addP
  split
  · exact h
  · rw [List.getElem?_append_left (List.getElem?_eq_some_iff.1 h).1]; exact h

theorem addP_len (l : List (Nat × Nat)) (x : Nat × Nat) : l.length ≤ (addP l x).length ∧ (addP l x).length ≤ l.length + 1 := by
  unfold addP
  split
  · omega
  · simp

set_option maxHeartbeats 4000000 in
theorem comesP_any (base : Nat) (A : Option Addr) (n cap : Nat) (l : List (Nat × Nat)) (x y : Nat) (w : World) (hown : w.ownsRow base 32 2 (.slice A n cap) n (rv cSp l)) (hl : l.length = n) (hb : base ≤ w.heap.size) (hm : n ≤ 65536) :
    Calls Try.prog 49 #[.slice A n cap, .agg #[.int .i64 (x : Int), .int .i64 (y : Int)]] w fun e w' => ∃ A' c', e = .returned (.slice A' (addP l (x, y)).length c') ∧
      w'.ownsRow base 32 2 (.slice A' (addP l (x, y)).length c') (addP l (x, y)).length (rv cSp (addP l (x, y))) ∧ w.grownBy w' (Value.slice A n cap).ownBlock ∧
      ((Value.slice A' (addP l (x, y)).length c').ownBlock = (Value.slice A n cap).ownBlock ∨ ∃ g, (Value.slice A' (addP l (x, y)).length c').ownBlock = some g ∧ w.heap.size ≤ g) := by
  have HL := Lib.hid hl
  have HO := Lib.hid hown
  have hx := own_rdR (c := cSp) hown hl
  obtain ⟨R, hR⟩ : ∃ R, addP l (x, y) = R := ⟨_, rfl⟩
  have HR := Lib.hid hR
  rw [hR]
  clear hl hown hR
  go_enter Try.func49, Try.ntmps49
  go_wp2
  go_loopw [9] (fun z wr => ∃ k : Nat, k ≤ n ∧ z = .int .i64 k ∧ (x, y) ∉ l.take k ∧ Below w.heap.size w wr ∧ wr.cell? ⟨w.heap.size, 0, none⟩ = some (.int .i64 (x : Int)) ∧ wr.cell? ⟨w.heap.size, 1, none⟩ = some (.int .i64 (y : Int)) ∧ w.heap.size < wr.heap.size) (fun z _ => n - (intOf z).toNat)
  case atStart => exact ⟨0, Nat.zero_le _, rfl, by simp, by go_grown, by simp, by simp, by simp⟩
  case round =>
    obtain ⟨k, hk, rfl, hni, hbw, hb0, hb1, hsz⟩ := hrel
    have HNI := Lib.hid hni
    clear hni
    by_cases hlt : k < n
    · obtain ⟨ad, u, v, rfl, hbl, hd, hc0, hc1⟩ := sp_at (hx.below hbw (Nat.le_refl _)) (k := k) (by rw [HL.out]; exact hlt)
      have HD := Lib.hid hd
      clear hd
      by_cases he : x = u ∧ y = v
      · obtain ⟨rfl, rfl⟩ := he
        have hin : R = l := by rw [← HR.out]; unfold addP; rw [if_pos (List.mem_of_getElem? HD.out)]
        have HIN := Lib.hid hin
        have HOB := Lib.hid (own_below HO.out (hbw.alloc (Nat.le_of_lt hsz) (.cells #[.int .i64 (x : Int), .int .i64 (y : Int)] 32)))
        have hgb : w.grownBy (wr.alloc (.cells #[.int .i64 (x : Int), .int .i64 (y : Int)] 32)) (Value.slice (some ad) n cap).ownBlock := by
          have h := hbw.alloc (Nat.le_of_lt hsz) (.cells #[.int .i64 (x : Int), .int .i64 (y : Int)] 32)
          exact ⟨h.os, h.tape, h.output, h.size, fun g hg _ => h.block g hg⟩
        clear hin
        go_wp2
        go_ret
        exact ⟨_, _, by rw [HIN.out, HL.out]; rfl, by rw [HIN.out, HL.out]; exact HOB.out, hgb, .inl (by rw [HIN.out, HL.out])⟩
      · have hnext : (x, y) ∉ l.take (k + 1) := by
          rw [List.take_add_one, HD.out, Option.toList_some, List.mem_append]
          rintro (h | h)
          · exact HNI.out h
          · simp at h; exact he h
        have HNX := Lib.hid hnext
        clear hnext
        by_cases h1 : x = u
        · subst h1
          have h2 : ((y : Int) == (v : Int)) = false := by simp; omega
          clear he
          go_wp2
          go_round
          case rel => exact ⟨k + 1, by omega, by go_num, HNX.out, by go_grown, (World.cell?_alloc_lt _ _ _ hsz).trans hb0, (World.cell?_alloc_lt _ _ _ hsz).trans hb1, by simp; omega⟩
          case measure => (simp [intOf]; omega)
        · have h2 : ((x : Int) == (u : Int)) = false := by simp; omega
          clear he h1
          go_wp2
          go_round
          case rel => exact ⟨k + 1, by omega, by go_num, HNX.out, by go_grown, (World.cell?_alloc_lt _ _ _ hsz).trans hb0, (World.cell?_alloc_lt _ _ _ hsz).trans hb1, by simp; omega⟩
          case measure => (simp [intOf]; omega)
    · have hkl : n ≤ k := by omega
      have hni : (x, y) ∉ l := by
        have := HNI.out
        rwa [List.take_of_length_le (by rw [HL.out]; exact hkl)] at this
      have hin : R = l ++ [(x, y)] := by rw [← HR.out]; unfold addP; rw [if_neg hni]
      have hlen : R.length = n + 1 := by simp [hin, HL.out]
      have HLEN := Lib.hid hlen
      have HIN := Lib.hid hin
      have HRV : Hid (rv cSp (l ++ [(x, y)]) = rv cSp l ++ [.int .i64 (x : Int), .int .i64 (y : Int)]) := Lib.hid (by rw [rv_append, rv_one]; rfl)
      have hob := own_below HO.out hbw
      have h63 : n + 1 ≤ maxLen := by unfold maxLen; omega
      have hbig : (n + 1) * 16 ≤ 140737488355328 := by omega
      have HGB : Hid (w.grownBy wr (Value.slice A n cap).ownBlock) := Lib.hid ⟨hbw.os, hbw.tape, hbw.output, hbw.size, fun g hg _ => hbw.block g hg⟩
      clear hni hin hlen hkl
      go_wp2_with (at_builtin; refine wpList_app' rfl (.tmp 18) (.tmp 20) 85 rfl base 32 2 16 sp_app _ rfl (hob.alloc _) [.int .i64 (x : Int), .int .i64 (y : Int)] rfl rfl (fun h => by cases h) (cells_at rfl _ _) (by intro u hu; simp at hu; rcases hu with rfl | rfl <;> rfl) h63 hbig (by simp; omega) ?_; intro A5 c5 w5 hown5 hg5 hb5 hp5)
      go_ret
      refine ⟨A5, c5, by rw [HLEN.out]; rfl, by rw [HLEN.out, HIN.out, HRV.out]; exact hown5, ?_, ?_⟩
      · have hs := hg5.size
        have hsb := hbw.size
        refine ⟨hg5.os.trans hbw.os, hg5.tape.trans hbw.tape, hg5.output.trans hbw.output, by simp at hs; omega, fun g hg hne => ?_⟩
        exact (hg5.block g (by simp; omega) hne).trans ((Below.heap_alloc wr _ g (by omega)).trans (hbw.block g hg))
      · rw [HLEN.out]
        rcases hp5 with h | h
        · exact .inl h
        · exact .inr ⟨_, h, by simp; omega⟩

end Go.Proofs.Ytfhnhbkdhdocjaa
