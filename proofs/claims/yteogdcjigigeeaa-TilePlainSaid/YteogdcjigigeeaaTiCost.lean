/-
  tile.matches, tile.costWith return what they say (W1, W2).
-/
import Derived.Test.YteogdcjigigeeaaTiLeaf
namespace Go.Proofs.Yteogdcjigigeeaa
open Go.RowKit
set_option linter.unusedSimpArgs false
set_option linter.unusedVariables false
set_option maxRecDepth 100000

theorem below_drewNT {B n : Nat} {w w' : World} (h : Below B w w') : Below B w (w'.drewN n) := ⟨h.os, h.tape, h.output, h.size, h.block⟩

set_option maxHeartbeats 4000000 in
theorem matches_any {vars : Int} (A : Option Addr) (len cap : Nat) (l : List Tm) (w : World) (hx : RdT w w.heap.size A l) (hl : l.length = len) (hc : ckTerms vars l = 0) (i : Nat) (o a b v : Int) (hd : l[i]? = some ⟨o, a, b, v⟩) (to tl tr tc : Int) (hk : TiOk ⟨to, tl, tr, tc⟩) :
    Calls Try.prog 31 #[.slice A len cap, .agg #[.int .i64 o, .int .i64 a, .int .i64 b, .int .i64 v], .agg #[.int .i64 to, .int .i64 tl, .int .i64 tr, .int .i64 tc]] w fun e w' => e = .returned (.bool (mtc l ⟨o, a, b, v⟩ ⟨to, tl, tr, tc⟩)) ∧ Below w.heap.size w w' := by
  have hcs := ckTerms_cases hc hd
  have hi := (List.getElem?_eq_some_iff.1 hd).1
  by_cases h1 : o = to
  · subst h1
    have e1 : (o == o) = true := by simp
    by_cases ho : o < 3
    · have hlf := hk.leaf (show o ≤ 2 by omega)
      have htl : tl = 0 := hlf.1
      have htr : tr = 0 := hlf.2
      subst htl htr
      have HE : Hid (mtc l ⟨o, a, b, v⟩ ⟨o, 0, 0, tc⟩ = true) := Lib.hid (mtc_iff.2 ⟨rfl, .inl rfl, .inl rfl⟩)
      clear hx hl hcs hd hk hlf
      go_enter Try.func31, Try.ntmps31
      go_wp2
      go_quiet (fail)
      go_wp2
      go_ret
      exact ⟨ret_bool HE.out.symm, below_drewNT (by go_grown)⟩
    · obtain ⟨an, rfl⟩ := Int.eq_ofNat_of_zero_le (by omega : 0 ≤ a)
      obtain ⟨bn, rfl⟩ := Int.eq_ofNat_of_zero_le (by omega : 0 ≤ b)
      have han : an < len := by omega
      have hbn : bn < len := by omega
      obtain ⟨ad, oa, aa, ba, va, rfl, hbl, hda, hca, _, _, _⟩ := hx.at_ (k := an) (by omega)
      obtain ⟨ad', ob, ab, bb, vb, he, hbl', hdb, hcb, _, _, _⟩ := hx.at_ (k := bn) (by omega)
      injection he with he
      subst he
      have hta := tmA_at hda
      have htb := tmA_at hdb
      have hsa : (tl = 0) ∨ (tl ≠ 0 ∧ oa = tl) ∨ (tl ≠ 0 ∧ oa ≠ tl) := by omega
      have hsb : (tr = 0) ∨ (tr ≠ 0 ∧ ob = tr) ∨ (tr ≠ 0 ∧ ob ≠ tr) := by omega
      have hmt : mtc l ⟨o, (an : Int), (bn : Int), v⟩ ⟨o, tl, tr, tc⟩ = decide ((tl = 0 ∨ oa = tl) ∧ (tr = 0 ∨ ob = tr)) := by
        unfold mtc
        rw [show (⟨o, (an : Int), (bn : Int), v⟩ : Tm).a.toNat = an from rfl, show (⟨o, (an : Int), (bn : Int), v⟩ : Tm).b.toNat = bn from rfl, hta, htb]
        simp
      have HM := Lib.hid hmt
      clear hx hl hcs hd hk hda hdb hta htb hmt ho
      rcases hsa with h2 | ⟨h2, h3⟩ | ⟨h2, h3⟩
      · subst h2
        rcases hsb with h4 | ⟨h4, h5⟩ | ⟨h4, h5⟩
        · subst h4
          have HE : Hid (mtc l ⟨o, (an : Int), (bn : Int), v⟩ ⟨o, 0, 0, tc⟩ = true) := Lib.hid (by rw [HM.out]; simp)
          go_enter Try.func31, Try.ntmps31
          go_wp2
          go_quiet (fail)
          go_wp2
          go_ret
          exact ⟨ret_bool HE.out.symm, below_drewNT (by go_grown)⟩
        · subst h5
          have HE : Hid (mtc l ⟨o, (an : Int), (bn : Int), v⟩ ⟨o, 0, ob, tc⟩ = true) := Lib.hid (by rw [HM.out]; simp)
          have g4 : (ob == 0) = false := by simp [h4]
          have g5 : (ob == ob) = true := by simp
          clear h4
          go_enter Try.func31, Try.ntmps31
          go_wp2
          go_quiet (fail)
          go_wp2
          go_ret
          exact ⟨ret_bool HE.out.symm, below_drewNT (by go_grown)⟩
        · have HE : Hid (mtc l ⟨o, (an : Int), (bn : Int), v⟩ ⟨o, 0, tr, tc⟩ = false) := Lib.hid (by rw [HM.out]; simp [h4, h5])
          have g4 : (tr == 0) = false := by simp [h4]
          have g5 : (ob == tr) = false := by simp [h5]
          clear h4 h5
          go_enter Try.func31, Try.ntmps31
          go_wp2
          go_quiet (fail)
          go_wp2
          go_ret
          exact ⟨ret_bool HE.out.symm, below_drewNT (by go_grown)⟩
      · subst h3
        have g2 : (oa == 0) = false := by simp [h2]
        have g3 : (oa == oa) = true := by simp
        rcases hsb with h4 | ⟨h4, h5⟩ | ⟨h4, h5⟩
        · subst h4
          have HE : Hid (mtc l ⟨o, (an : Int), (bn : Int), v⟩ ⟨o, oa, 0, tc⟩ = true) := Lib.hid (by rw [HM.out]; simp)
          clear h2
          go_enter Try.func31, Try.ntmps31
          go_wp2
          go_quiet (fail)
          go_wp2
          go_ret
          exact ⟨ret_bool HE.out.symm, below_drewNT (by go_grown)⟩
        · subst h5
          have HE : Hid (mtc l ⟨o, (an : Int), (bn : Int), v⟩ ⟨o, oa, ob, tc⟩ = true) := Lib.hid (by rw [HM.out]; simp)
          have g4 : (ob == 0) = false := by simp [h4]
          have g5 : (ob == ob) = true := by simp
          clear h2 h4
          go_enter Try.func31, Try.ntmps31
          go_wp2
          go_quiet (fail)
          go_wp2
          go_ret
          exact ⟨ret_bool HE.out.symm, below_drewNT (by go_grown)⟩
        · have HE : Hid (mtc l ⟨o, (an : Int), (bn : Int), v⟩ ⟨o, oa, tr, tc⟩ = false) := Lib.hid (by rw [HM.out]; simp [h4, h5])
          have g4 : (tr == 0) = false := by simp [h4]
          have g5 : (ob == tr) = false := by simp [h5]
          clear h2 h4 h5
          go_enter Try.func31, Try.ntmps31
          go_wp2
          go_quiet (fail)
          go_wp2
          go_ret
          exact ⟨ret_bool HE.out.symm, below_drewNT (by go_grown)⟩
      · have HE : Hid (mtc l ⟨o, (an : Int), (bn : Int), v⟩ ⟨o, tl, tr, tc⟩ = false) := Lib.hid (by rw [HM.out]; simp [h2, h3])
        have g2 : (tl == 0) = false := by simp [h2]
        have g3 : (oa == tl) = false := by simp [h3]
        clear h2 h3 hsb
        go_enter Try.func31, Try.ntmps31
        go_wp2
        go_quiet (fail)
        go_wp2
        go_ret
        exact ⟨ret_bool HE.out.symm, below_drewNT (by go_grown)⟩
  · have HE : Hid (mtc l ⟨o, a, b, v⟩ ⟨to, tl, tr, tc⟩ = false) := Lib.hid (by unfold mtc; simp [h1])
    have e1 : (o == to) = false := by simp [h1]
    clear hx hl hcs hd hk h1
    go_enter Try.func31, Try.ntmps31
    go_wp2
    go_quiet (fail)
    go_wp2
    go_ret
    exact ⟨ret_bool HE.out.symm, below_drewNT (by go_grown)⟩

/-! ### What a tile and its leaves cost -/

/-- a way as it lies in memory -/
def cCh : Cho → List Value
  | none => [.int .i64 (-1), .int .i64 0]
  | some (n, c) => [.int .i64 (n : Nat), .int .i64 (c : Nat)]

theorem cCh_len (x : Cho) : (cCh x).length = 2 := by cases x <;> rfl

theorem cCh_one (x : Cho) : ∀ u ∈ cCh x, u.oneCell' = true := fun u hu => by
  cases x <;> (simp [cCh] at hu; rcases hu with rfl | rfl <;> rfl)

/-- a slice of ways -/
def RdCh (w : World) (B : Nat) (A : Option Addr) (l : List Cho) : Prop := RdR cCh w B A 2 l

theorem RdCh.below {w w' : World} {B B' : Nat} {A : Option Addr} {l : List Cho} (h : RdCh w B A l) (hb : Below B' w w') (hB : B ≤ B') : RdCh w' B A l := Rd.below h hb hB

theorem RdCh.more {w : World} {B B' : Nat} {A : Option Addr} {l : List Cho} (h : RdCh w B A l) (hB : B ≤ B') : RdCh w B' A l := Rd.more h hB

theorem RdCh.at_ {w : World} {B : Nat} {A : Option Addr} {l : List Cho} {k : Nat} (h : RdCh w B A l) (hk : k < l.length) :
    ∃ (ad : Addr) (x : Cho), A = some ad ∧ (ad.add (k * 2)).block < B ∧ l[k]? = some x ∧ ∀ t c, cCh x = [.int .i64 t, .int .i64 c] → w.cell? (ad.add (k * 2)) = some (.int .i64 t) ∧ w.cell? ⟨(ad.add (k * 2)).block, (ad.add (k * 2)).off + 1, none⟩ = some (.int .i64 c) := by
  obtain ⟨ad, x, hA, hb, hx, hc⟩ := RdR.cell cCh_len (by omega) h hk
  exact ⟨ad, x, hA, hb, hx, fun t c he => ⟨hc 0 _ (by rw [he]; rfl), hc 1 _ (by rw [he]; rfl)⟩⟩

theorem csW_at {h : Nat → Cho} {js : List Nat} {k j : Nat} {c : Nat} (hj : js[k]? = some j) : csW h (js.drop k) c = match h j with | none => none | some (_, d) => csW h (js.drop (k + 1)) (c + d) := by
  rw [drop_at hj]
  rfl

def csC (x : Option Nat) : Int := match x with | none => 0 | some d => (d : Nat)

set_option maxHeartbeats 4000000 in
theorem costWith_any (h : Nat → Cho) (D : Option Addr) (n dc : Nat) (w : World) (hD : RdCh w w.heap.size D ((List.range n).map h)) (A : Option Addr) (len cap : Nat) (js : List Nat) (hA : RdI w w.heap.size A (ni js)) (hl : js.length = len) (hjs : ∀ j ∈ js, j < n) (h4 : len ≤ 4) (hb : ∀ j ∈ js, ∀ m x, h j = some (m, x) → x ≤ bigC) (to tl tr : Int) (tc : Nat) (h99 : tc ≤ 99) :
    Calls Try.prog 32 #[.agg #[.int .i64 to, .int .i64 tl, .int .i64 tr, .int .i64 (tc : Nat)], .slice A len cap, .slice D n dc] w fun e w' => e = .returned (.tuple #[.int .i64 (csC (csW h js tc)), .bool (csW h js tc).isSome]) ∧ Below w.heap.size w w' := by
  have HL := Lib.hid hl
  have HJ := Lib.hid hjs
  have HB := Lib.hid hb
  have HBC : Hid (bigC = 3051757812500) := Lib.hid rfl
  clear hl hjs hb
  go_enter Try.func32, Try.ntmps32
  go_wp2
  go_loopw [15, 8] (fun i s wr => ∃ k acc : Nat, k ≤ len ∧ i = .int .i64 k ∧ s = .int .i64 (acc : Nat) ∧ csW h js tc = csW h (js.drop k) acc ∧ acc ≤ 99 + k * bigC ∧ Below w.heap.size w wr) (fun i _ _ => len - (intOf i).toNat)
  case atStart => exact ⟨0, tc, Nat.zero_le _, rfl, rfl, rfl, by omega, by go_grown⟩
  case round =>
    obtain ⟨k, acc, hk, rfl, rfl, hr, hacc, hb⟩ := hrel
    have HR := Lib.hid hr
    have HACC := Lib.hid hacc
    clear hr hacc
    by_cases hlt : k < len
    · obtain ⟨ad, xj, rfl, hbl, hd, hcell⟩ := (hA.below hb (Nat.le_refl _)).at_ (k := k) (by simp [ni]; rw [HL.out]; exact hlt)
      obtain ⟨j, hj, rfl⟩ : ∃ j : Nat, js[k]? = some j ∧ xj = (j : Int) := by
        unfold ni at hd
        rw [List.getElem?_map] at hd
        cases hx : js[k]? with
        | none => rw [hx] at hd; cases hd
        | some j => rw [hx] at hd; injection hd with hd; exact ⟨j, rfl, hd.symm⟩
      have hjn := HJ.out j (List.mem_of_getElem? hj)
      have hjb := HB.out j (List.mem_of_getElem? hj)
      obtain ⟨dd, x, rfl, hbl2, hx, hcx⟩ := (hD.below hb (Nat.le_refl _)).at_ (k := j) (by simp; exact hjn)
      have hxj : h j = x := by
        rw [List.getElem?_map, List.getElem?_range hjn] at hx
        injection hx
      have HS := Lib.hid (csW_at (h := h) (c := acc) hj)
      have HX := Lib.hid hxj
      clear hd hj hx hxj
      cases x with
      | none =>
        obtain ⟨hc0, hc1⟩ := hcx _ _ rfl
        have hE : Hid (csW h js tc = none) := Lib.hid (by rw [HR.out, HS.out, HX.out])
        clear hcx hjb
        go_wp2
        go_ret2
        exact ⟨by rw [hE.out]; rfl, hb⟩
      | some p =>
        obtain ⟨m, d⟩ := p
        obtain ⟨hc0, hc1⟩ := hcx _ _ rfl
        have hd1 := hjb m d HX.out
        have hE : Hid (csW h js tc = csW h (js.drop (k + 1)) (acc + d)) := Lib.hid (by rw [HR.out, HS.out, HX.out])
        have hsum : acc + d ≤ 99 + (k + 1) * bigC := by have := HACC.out; rw [Nat.add_mul, Nat.one_mul]; omega
        have hsm : acc + d ≤ 99 + 4 * 3051757812500 := by
          have h5 : (k + 1) * bigC ≤ 4 * bigC := Nat.mul_le_mul_right _ (by omega)
          rw [← HBC.out]
          omega
        have HSUM := Lib.hid hsum
        have hm1 : (((m : Nat) : Int) == -1) = false := by simp
        clear hcx hjb hsum
        go_wp2
        go_round
        case rel => exact ⟨k + 1, acc + d, by omega, by go_num, by go_num, hE.out, HSUM.out, hb⟩
        case measure => (simp [intOf]; omega)
    · have hkn : k = js.length := by rw [HL.out]; omega
      have hE : Hid (csW h js tc = some acc) := Lib.hid (by rw [HR.out, hkn, List.drop_length]; rfl)
      go_wp2
      go_ret2
      exact ⟨by rw [hE.out]; rfl, hb⟩

end Go.Proofs.Yteogdcjigigeeaa
