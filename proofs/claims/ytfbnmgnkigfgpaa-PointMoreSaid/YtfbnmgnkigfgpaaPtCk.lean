/-
  Pointer assignments in memory; point.below, point.check and codemasonref.PointCheck return what they say (V1, V2).
-/
import Derived.Test.YtfbnmgnkigfgpaaPurePoint
import Derived.Test.YtfbnmgnkigfgpaaMBase
import Derived.BigQuiet
namespace Go.Proofs.Ytfbnmgnkigfgpaa
open Go.RowKit
set_option linter.unusedSimpArgs false
set_option linter.unusedVariables false
set_option maxRecDepth 100000

/-- an assignment as it lies in memory -/
structure Pz where
  k : Int
  t : Int
  f : Int

def cPz (p : Pz) : List Value := [.int .i64 p.k, .int .i64 p.t, .int .i64 p.f]

theorem cPz_len (p : Pz) : (cPz p).length = 3 := rfl

theorem cPz_one (p : Pz) : ∀ u ∈ cPz p, u.oneCell' = true := fun u hu => by
  simp [cPz] at hu
  rcases hu with rfl | rfl | rfl <;> rfl

/-- a slice of assignments -/
def RdPz (w : World) (B : Nat) (A : Option Addr) (l : List Pz) : Prop := RdR cPz w B A 3 l

theorem RdPz.below {w w' : World} {B B' : Nat} {A : Option Addr} {l : List Pz} (h : RdPz w B A l) (hb : Below B' w w') (hB : B ≤ B') : RdPz w' B A l := Rd.below h hb hB

theorem RdPz.more {w : World} {B B' : Nat} {A : Option Addr} {l : List Pz} (h : RdPz w B A l) (hB : B ≤ B') : RdPz w B' A l := Rd.more h hB

theorem RdPz.at_ {w : World} {B : Nat} {A : Option Addr} {l : List Pz} {k : Nat} (h : RdPz w B A l) (hk : k < l.length) :
    ∃ (ad : Addr) (a t f : Int), A = some ad ∧ (ad.add (k * 3)).block < B ∧ l[k]? = some ⟨a, t, f⟩ ∧ w.cell? (ad.add (k * 3)) = some (.int .i64 a) ∧
      w.cell? ⟨(ad.add (k * 3)).block, (ad.add (k * 3)).off + 1, none⟩ = some (.int .i64 t) ∧ w.cell? ⟨(ad.add (k * 3)).block, (ad.add (k * 3)).off + 2, none⟩ = some (.int .i64 f) := by
  obtain ⟨ad, x, hA, hb, hx, hc⟩ := RdR.cell cPz_len (by omega) h hk
  exact ⟨ad, x.k, x.t, x.f, hA, hb, hx, hc 0 _ rfl, hc 1 _ rfl, hc 2 _ rfl⟩

/-- assignments of variables, as they lie in memory -/
def qI (l : List Qt) : List Pz := l.map fun q => ⟨(q.k : Int), (q.t : Int), (q.f : Int)⟩

theorem qI_len (l : List Qt) : (qI l).length = l.length := by simp [qI]

theorem RdQ.at_ {w : World} {B : Nat} {A : Option Addr} {l : List Qt} {k : Nat} (h : RdPz w B A (qI l)) (hk : k < l.length) :
    ∃ (ad : Addr) (a t f : Nat), A = some ad ∧ (ad.add (k * 3)).block < B ∧ l[k]? = some ⟨a, t, f⟩ ∧ w.cell? (ad.add (k * 3)) = some (.int .i64 (a : Int)) ∧
      w.cell? ⟨(ad.add (k * 3)).block, (ad.add (k * 3)).off + 1, none⟩ = some (.int .i64 (t : Int)) ∧ w.cell? ⟨(ad.add (k * 3)).block, (ad.add (k * 3)).off + 2, none⟩ = some (.int .i64 (f : Int)) := by
  obtain ⟨ad, a, t, f, h1, h2, h3, h4, h5, h6⟩ := RdPz.at_ h (k := k) (by rw [qI_len]; exact hk)
  have e : l[k]? = some l[k] := List.getElem?_eq_getElem hk
  unfold qI at h3
  rw [List.getElem?_map, e] at h3
  simp at h3
  obtain ⟨rfl, rfl, rfl⟩ := h3
  exact ⟨ad, _, _, _, h1, h2, e, h4, h5, h6⟩

/-! ### The check -/

def sizesPz (n : Int) (l : List Pz) : Prop := 1 ≤ n ∧ n ≤ 8 ∧ l.length ≤ 12

instance (n : Int) (l : List Pz) : Decidable (sizesPz n l) := inferInstanceAs (Decidable (1 ≤ n ∧ n ≤ 8 ∧ l.length ≤ 12))

/-- the first assignment that is none -/
def ckL (n : Int) : List Pz → Int
  | [] => 0
  | p :: l => if 1 ≤ p.k ∧ p.k ≤ 4 then (if 0 ≤ p.t ∧ p.t < n ∧ 0 ≤ p.f ∧ p.f < n then ckL n l else 2) else 6

def ckPz (n : Int) (l : List Pz) : Int := if sizesPz n l then ckL n l else 1

def ckGo (n : Int) (l : List Pz) (s : List Int) : Int := if s.length ≤ 200 then (if ckPz n l = 0 then (if insideB l.length s = true then 0 else 5) else ckPz n l) else 1

theorem ckL_at {n : Int} {l : List Pz} {i : Nat} {a t f : Int} (h : l[i]? = some ⟨a, t, f⟩) : ckL n (l.drop i) = if 1 ≤ a ∧ a ≤ 4 then (if 0 ≤ t ∧ t < n ∧ 0 ≤ f ∧ f < n then ckL n (l.drop (i + 1)) else 2) else 6 := by
  rw [drop_at h]
  rfl

theorem ckL_ok {n : Nat} : ∀ {l : List Pz}, ckL n l = 0 → ∃ q, l = qI q ∧ QOk n q
  | [], _ => ⟨[], rfl, fun p hp => by cases hp⟩
  | p :: l, h => by
    unfold ckL at h
    split at h
    · rename_i h1
      split at h
      · rename_i h2
        obtain ⟨q, rfl, hq⟩ := ckL_ok (l := l) h
        obtain ⟨a, ha⟩ : ∃ a : Nat, p.k = a := ⟨p.k.toNat, by omega⟩
        obtain ⟨t, ht⟩ : ∃ a : Nat, p.t = a := ⟨p.t.toNat, by omega⟩
        obtain ⟨f, hf⟩ : ∃ a : Nat, p.f = a := ⟨p.f.toNat, by omega⟩
        refine ⟨⟨a, t, f⟩ :: q, ?_, fun x hx => ?_⟩
        · show p :: qI q = ⟨(a : Int), (t : Int), (f : Int)⟩ :: qI q
          rw [← ha, ← ht, ← hf]
        · rcases List.mem_cons.1 hx with rfl | hx
          · show 1 ≤ a ∧ a ≤ 4 ∧ t < n ∧ f < n
            omega
          · exact hq x hx
      · cases h
    · cases h

theorem ckPz_ok {n : Int} {l : List Pz} (h : ckPz n l = 0) : ∃ (k : Nat) (q : List Qt), n = (k : Int) ∧ 1 ≤ k ∧ k ≤ 8 ∧ l = qI q ∧ q.length ≤ 12 ∧ QOk k q := by
  unfold ckPz at h
  split at h
  · rename_i h1
    obtain ⟨ha, hb, hc⟩ := h1
    obtain ⟨k, rfl⟩ : ∃ k : Nat, n = k := ⟨n.toNat, by omega⟩
    obtain ⟨q, rfl, hq⟩ := ckL_ok h
    exact ⟨k, q, rfl, by omega, by omega, rfl, by rw [qI_len] at hc; exact hc, hq⟩
  · cases h

theorem ckL_of {n : Nat} : ∀ {q : List Qt}, QOk n q → ckL n (qI q) = 0
  | [], _ => rfl
  | p :: q, hq => by
    have hp := hq p List.mem_cons_self
    show (if 1 ≤ (p.k : Int) ∧ (p.k : Int) ≤ 4 then (if 0 ≤ (p.t : Int) ∧ (p.t : Int) < n ∧ 0 ≤ (p.f : Int) ∧ (p.f : Int) < n then ckL n (qI q) else 2) else 6) = 0
    rw [if_pos (by omega), if_pos (by omega)]
    exact ckL_of fun x hx => hq x (List.mem_cons_of_mem _ hx)

theorem ckPz_of {n : Nat} {q : List Qt} (h1 : 1 ≤ n) (h8 : n ≤ 8) (hl : q.length ≤ 12) (hq : QOk n q) : ckPz n (qI q) = 0 := by
  unfold ckPz
  rw [if_pos ⟨by omega, by omega, by rw [qI_len]; omega⟩]
  exact ckL_of hq

theorem pn_len (s : List Nat) : (ni s).length = s.length := by simp [ni]

theorem pn_inv {vs : List Nat} {k : Nat} {x : Int} (h : (ni vs)[k]? = some x) : ∃ v : Nat, x = (v : Int) ∧ vs[k]? = some v := by
  unfold ni at h
  rw [List.getElem?_map] at h
  cases hv : vs[k]? with
  | none => rw [hv] at h; cases h
  | some v => rw [hv] at h; injection h with h; exact ⟨v, h.symm, rfl⟩

theorem ckGo_nil (n : Int) (l : List Pz) : ckGo n l [] = ckPz n l := by
  unfold ckGo
  rw [if_pos (by simp)]
  split
  · rename_i h
    rw [h]
    rfl
  · rfl

theorem insideB_nat {m : Nat} : ∀ {s : List Int}, insideB m s = true → ∃ k, s = ni k ∧ ∀ x ∈ k, x < m
  | [], _ => ⟨[], rfl, fun x hx => by cases hx⟩
  | x :: s, h => by
    unfold insideB at h
    split at h
    · cases h
    · rename_i h1
      obtain ⟨k, rfl, hk⟩ := insideB_nat h
      refine ⟨x.toNat :: k, ?_, fun y hy => ?_⟩
      · show x :: ni k = ((x.toNat : Nat) : Int) :: ni k
        rw [Int.toNat_of_nonneg (by omega)]
      · rcases List.mem_cons.1 hy with rfl | hy
        · omega
        · exact hk y hy

theorem ckGo_ok {n : Int} {l : List Pz} {s : List Int} (h : ckGo n l s = 0) : ckPz n l = 0 ∧ s.length ≤ 200 ∧ insideB l.length s = true := by
  unfold ckGo at h
  split at h
  · rename_i h1
    split at h
    · rename_i h2
      split at h
      · rename_i h3
        exact ⟨h2, h1, h3⟩
      · cases h
    · rename_i h2
      exact absurd h h2
  · cases h

/-! ### The program's -/

set_option maxHeartbeats 400000 in
theorem below_any (n : Int) (w : World) : Calls Try.prog 33 #[.int .i64 n] w fun e w' => e = .returned (.func (.func 43) #[] #[.pointer (some ⟨w.heap.size, 0, none⟩)]) ∧ Own w' w.heap.size 3 [.int .i64 n] ∧ Below w.heap.size w w' := by
  have hO := Own.new w 3 [.int .i64 n]
  go_enter Try.func33, Try.ntmps33
  go_wp2
  go_ret
  exact ⟨rfl, hO, by go_grown⟩

set_option maxHeartbeats 400000 in
theorem belowIn_any (g : Nat) (n x : Int) (w : World) (hc : w.cell? ⟨g, 0, none⟩ = some (.int .i64 n)) : Calls Try.prog 43 #[.int .i64 x, .pointer (some ⟨g, 0, none⟩)] w fun e w' => e = .returned (.bool (decide (0 ≤ x ∧ x < n))) ∧ w' = w := by
  go_enter Try.func43, Try.ntmps43
  go_wp2
  all_goals (go_ret; refine ⟨ret_bool ?_, rfl⟩; simp; try omega)

theorem belowIn_told {n x : Int} {b : Bool} (hb : decide (0 ≤ x ∧ x < n) = b) (g : Nat) (w : World) (hc : w.cell? ⟨g, 0, none⟩ = some (.int .i64 n)) : Calls Try.prog 43 #[.int .i64 x, .pointer (some ⟨g, 0, none⟩)] w fun e w' => e = .returned (.bool b) ∧ w' = w := by
  rw [← hb]
  exact belowIn_any g n x w hc

set_option maxHeartbeats 4000000 in
theorem pzCheck_any (n : Int) (A : Option Addr) (len cap : Nat) (l : List Pz) (w : World) (hx : RdPz w w.heap.size A l) (hl : l.length = len) (hm : len ≤ maxLen) :
    Calls Try.prog 20 #[.int .i64 n, .slice A len cap] w fun e w' => e = .returned (.int .i64 (ckPz n l)) ∧ Below w.heap.size w w' := by
  have HM := Lib.hid hm
  unfold maxLen at hm
  by_cases hz : sizesPz n l
  · have HZ : Hid (ckPz n l = ckL n l) := Lib.hid (by unfold ckPz; rw [if_pos hz])
    obtain ⟨h1, h8, hl8⟩ := hz
    rw [hl] at hl8
    have HL := Lib.hid hl
    have g1 : ¬ n < 1 := by omega
    have g2 : ¬ 8 < n := by omega
    have g3 : ¬ (12 : Int) < (len : Int) := by omega
    clear hl
    go_enter Try.func20, Try.ntmps20
    go_wp2_with fail
    refine (below_any n _).mono ?_
    rintro e w1 ⟨rfl, hO, hb1⟩
    have hx1 := (hx.below hb1 (Nat.le_refl _)).more hb1.size
    have hsz1 := hO.lt
    go_wp2
    go_loopw [23] (fun i wr => ∃ k : Nat, k ≤ len ∧ i = .int .i64 k ∧ ckL n l = ckL n (l.drop k) ∧ Below w1.heap.size w1 wr) (fun i _ => len - (intOf i).toNat)
    case atStart => exact ⟨0, Nat.zero_le _, rfl, rfl, Below.refl _ _⟩
    case round =>
      obtain ⟨k, hk, rfl, hr, hb⟩ := hrel
      have HR := Lib.hid hr
      have hsz := hb.size
      have hcb := (hO.below hb hsz1).cell (j := 0) rfl
      clear hr
      by_cases hlt : k < len
      · obtain ⟨ad, a, t, f, rfl, hbl, hd, hc0, hc1, hc2⟩ := RdPz.at_ (hx1.below hb (Nat.le_refl _)) (k := k) (by rw [HL.out]; exact hlt)
        have HD := Lib.hid (ckL_at (n := n) hd)
        clear hd
        by_cases hk1 : a < 1
        · have hb0 : Hid (ckL n l = 6) := Lib.hid (by rw [HR.out, HD.out, if_neg (by omega)])
          go_wp2
          go_ret
          exact ⟨ret_int (by rw [HZ.out, hb0.out]), hb1.trans ((hb.trans (by go_grown)).mono hb1.size)⟩
        · by_cases hk4 : 4 < a
          · have hb0 : Hid (ckL n l = 6) := Lib.hid (by rw [HR.out, HD.out, if_neg (by omega)])
            go_wp2
            go_ret
            exact ⟨ret_int (by rw [HZ.out, hb0.out]), hb1.trans ((hb.trans (by go_grown)).mono hb1.size)⟩
          · by_cases ht : 0 ≤ t ∧ t < n
            · have htb : decide (0 ≤ t ∧ t < n) = true := decide_eq_true ht
              have hcbx : ∀ o, (wr.alloc o).cell? ⟨w.heap.size, 0, none⟩ = some (.int .i64 n) := fun o => (World.cell?_alloc_lt _ _ _ (by show w.heap.size < _; omega)).trans hcb
              have HT := Lib.hid (belowIn_told htb w.heap.size)
              by_cases hf : 0 ≤ f ∧ f < n
              · have hfb : decide (0 ≤ f ∧ f < n) = true := decide_eq_true hf
                have hb0 : Hid (ckL n l = ckL n (l.drop (k + 1))) := Lib.hid (by rw [HR.out, HD.out, if_pos (by omega), if_pos ⟨ht.1, ht.2, hf.1, hf.2⟩])
                have HF := Lib.hid (belowIn_told hfb w.heap.size)
                clear ht hf htb hfb
                go_wp2_with (go_at_call 43; (first | (with_reducible refine (HT.out _ (hcbx _)).mono ?_) | (with_reducible refine (HF.out _ (hcbx _)).mono ?_)); rintro e w5 ⟨rfl, rfl⟩)
                go_round
                case rel => exact ⟨k + 1, by omega, by go_num, hb0.out, hb.trans (by go_grown)⟩
                case measure => (simp [intOf]; omega)
              · have hfb : decide (0 ≤ f ∧ f < n) = false := decide_eq_false hf
                have hb0 : Hid (ckL n l = 2) := Lib.hid (by rw [HR.out, HD.out, if_pos (by omega), if_neg (by omega)])
                have HF := Lib.hid (belowIn_told hfb w.heap.size)
                clear ht hf htb hfb
                go_wp2_with (go_at_call 43; (first | (with_reducible refine (HT.out _ (hcbx _)).mono ?_) | (with_reducible refine (HF.out _ (hcbx _)).mono ?_)); rintro e w5 ⟨rfl, rfl⟩)
                go_ret
                exact ⟨ret_int (by rw [HZ.out, hb0.out]), hb1.trans ((hb.trans (by go_grown)).mono hb1.size)⟩
            · have htb : decide (0 ≤ t ∧ t < n) = false := decide_eq_false ht
              have hcbx : ∀ o, (wr.alloc o).cell? ⟨w.heap.size, 0, none⟩ = some (.int .i64 n) := fun o => (World.cell?_alloc_lt _ _ _ (by show w.heap.size < _; omega)).trans hcb
              have hb0 : Hid (ckL n l = 2) := Lib.hid (by rw [HR.out, HD.out, if_pos (by omega), if_neg (by omega)])
              have HT := Lib.hid (belowIn_told htb w.heap.size)
              clear ht htb
              go_wp2_with (go_at_call 43; (with_reducible refine (HT.out _ (hcbx _)).mono ?_); rintro e w5 ⟨rfl, rfl⟩)
              go_ret
              exact ⟨ret_int (by rw [HZ.out, hb0.out]), hb1.trans ((hb.trans (by go_grown)).mono hb1.size)⟩
      · go_wp2
        go_ret
        exact ⟨ret_int (by rw [HZ.out, HR.out, List.drop_of_length_le (by rw [HL.out]; omega)]; rfl), hb1.trans (hb.mono hb1.size)⟩
  · have g : n < 1 ∨ 8 < n ∨ 12 < len := by
      unfold sizesPz at hz
      rw [hl] at hz
      omega
    have HZ : Hid (ckPz n l = 1) := Lib.hid (by unfold ckPz; rw [if_neg hz])
    clear hz hl
    by_cases g1 : n < 1
    · go_enter Try.func20, Try.ntmps20
      go_wp2
      go_ret
      exact ⟨ret_int HZ.out.symm, Below.refl _ _⟩
    · by_cases g2 : 8 < n
      · go_enter Try.func20, Try.ntmps20
        go_wp2
        go_ret
        exact ⟨ret_int HZ.out.symm, Below.refl _ _⟩
      · have g3 : (12 : Int) < (len : Int) := by omega
        go_enter Try.func20, Try.ntmps20
        go_wp2
        go_ret
        exact ⟨ret_int HZ.out.symm, Below.refl _ _⟩

/-! ### The reference's -/

set_option maxHeartbeats 4000000 in
theorem pointCheck_any (n : Int) (A : Option Addr) (len cap : Nat) (l : List Pz) (A2 : Option Addr) (len2 cap2 : Nat) (s : List Int) (w : World) (hx : RdPz w w.heap.size A l) (hl : l.length = len) (hm : len ≤ maxLen) (hy : RdI w w.heap.size A2 s) (hl2 : s.length = len2) (hm2 : len2 ≤ maxLen) :
    Calls Try.prog 10 #[.int .i64 n, .slice A len cap, .slice A2 len2 cap2] w fun e w' => e = .returned (.int .i64 (ckGo n l s)) ∧ Below w.heap.size w w' := by
  unfold maxLen at hm hm2
  by_cases hz : s.length ≤ 200 ∧ sizesPz n l
  · have HZ : Hid (ckGo n l s = if ckL n l = 0 then (if insideB len s = true then 0 else 5) else ckL n l) := Lib.hid (by unfold ckGo ckPz; rw [if_pos hz.1, if_pos hz.2, hl])
    obtain ⟨h2, h1, h8, hl8⟩ := hz
    rw [hl] at hl8
    rw [hl2] at h2
    have HL := Lib.hid hl
    have HL2 := Lib.hid hl2
    have g1 : ¬ n < 1 := by omega
    have g2 : ¬ 8 < n := by omega
    have g3 : ¬ (12 : Int) < (len : Int) := by omega
    have g4 : ¬ (200 : Int) < (len2 : Int) := by omega
    clear hl hl2
    go_enter Try.func10, Try.ntmps10
    go_wp2
    go_loopw [27] (fun i wr => ∃ k : Nat, k ≤ len ∧ i = .int .i64 k ∧ ckL n l = ckL n (l.drop k) ∧ Below w.heap.size w wr) (fun i _ => len - (intOf i).toNat)
    case atStart => exact ⟨0, Nat.zero_le _, rfl, rfl, Below.refl _ _⟩
    case round =>
      obtain ⟨k, hk, rfl, hr, hb⟩ := hrel
      have HR := Lib.hid hr
      have hsz := hb.size
      clear hr
      by_cases hlt : k < len
      · obtain ⟨ad, a, t, f, rfl, hbl, hd, hc0, hc1, hc2⟩ := RdPz.at_ (hx.below hb (Nat.le_refl _)) (k := k) (by rw [HL.out]; exact hlt)
        have HD := Lib.hid (ckL_at (n := n) hd)
        clear hd
        by_cases hk1 : a < 1
        · have hb0 : Hid (ckL n l = 6) := Lib.hid (by rw [HR.out, HD.out, if_neg (by omega)])
          go_wp2
          go_ret
          exact ⟨ret_int (by rw [HZ.out, hb0.out]; rfl), hb.trans (by go_grown)⟩
        · by_cases hk4 : 4 < a
          · have hb0 : Hid (ckL n l = 6) := Lib.hid (by rw [HR.out, HD.out, if_neg (by omega)])
            go_wp2
            go_ret
            exact ⟨ret_int (by rw [HZ.out, hb0.out]; rfl), hb.trans (by go_grown)⟩
          · by_cases ht : 0 ≤ t ∧ t < n ∧ 0 ≤ f ∧ f < n
            · have hb0 : Hid (ckL n l = ckL n (l.drop (k + 1))) := Lib.hid (by rw [HR.out, HD.out, if_pos (by omega), if_pos ht])
              have HT : Hid (decide (0 ≤ t ∧ t < n ∧ 0 ≤ f ∧ f < n) = true) := Lib.hid (decide_eq_true ht)
              clear ht
              go_wp2_with (go_at_call 24; (with_reducible refine (inside2_any n t f _ _ _ (by simp) (by simp)).mono ?_); rw [HT.out]; rintro e w2 ⟨rfl, rfl⟩)
              go_round
              case rel => exact ⟨k + 1, by omega, by go_num, hb0.out, hb.trans (by go_grown)⟩
              case measure => (simp [intOf]; omega)
            · have hb0 : Hid (ckL n l = 2) := Lib.hid (by rw [HR.out, HD.out, if_pos (by omega), if_neg ht])
              have HT : Hid (decide (0 ≤ t ∧ t < n ∧ 0 ≤ f ∧ f < n) = false) := Lib.hid (decide_eq_false ht)
              clear ht
              go_wp2_with (go_at_call 24; (with_reducible refine (inside2_any n t f _ _ _ (by simp) (by simp)).mono ?_); rw [HT.out]; rintro e w2 ⟨rfl, rfl⟩)
              go_ret
              exact ⟨ret_int (by rw [HZ.out, hb0.out]; rfl), hb.trans (by go_grown)⟩
      · have hb0 : Hid (ckL n l = 0) := Lib.hid (by rw [HR.out, List.drop_of_length_le (by rw [HL.out]; omega)]; rfl)
        have hy1 := hy.below hb (Nat.le_refl _)
        obtain ⟨bo, hbo⟩ : ∃ b, insideB len s = b := ⟨_, rfl⟩
        have HI := Lib.hid (inside_any len A2 len2 cap2 s _ wr hy1 HL2.out (by omega))
        rw [hbo] at HI
        have HB := Lib.hid hbo
        clear hbo
        cases bo with
        | true =>
          go_wp2_with (go_at_call 24; (with_reducible refine HI.out.mono ?_); rintro e w2 ⟨rfl, rfl⟩)
          go_ret
          exact ⟨ret_int (by rw [HZ.out, hb0.out, if_pos rfl, if_pos HB.out]), hb⟩
        | false =>
          go_wp2_with (go_at_call 24; (with_reducible refine HI.out.mono ?_); rintro e w2 ⟨rfl, rfl⟩)
          go_ret
          exact ⟨ret_int (by rw [HZ.out, hb0.out, if_pos rfl, if_neg (by rw [HB.out]; simp)]), hb⟩
  · have g : n < 1 ∨ 8 < n ∨ 12 < len ∨ 200 < len2 := by
      unfold sizesPz at hz
      rw [hl, hl2] at hz
      omega
    have HZ : Hid (ckGo n l s = 1) := Lib.hid (by
      unfold ckGo ckPz
      split
      · rename_i h
        rw [if_neg fun q => hz ⟨h, q⟩]
        rfl
      · rfl)
    clear hz hl hl2
    by_cases g1 : n < 1
    · go_enter Try.func10, Try.ntmps10
      go_wp2
      go_ret
      exact ⟨ret_int HZ.out.symm, Below.refl _ _⟩
    · by_cases g2 : 8 < n
      · go_enter Try.func10, Try.ntmps10
        go_wp2
        go_ret
        exact ⟨ret_int HZ.out.symm, Below.refl _ _⟩
      · by_cases g3 : (12 : Int) < (len : Int)
        · go_enter Try.func10, Try.ntmps10
          go_wp2
          go_ret
          exact ⟨ret_int HZ.out.symm, Below.refl _ _⟩
        · have g4 : (200 : Int) < (len2 : Int) := by omega
          go_enter Try.func10, Try.ntmps10
          go_wp2
          go_ret
          exact ⟨ret_int HZ.out.symm, Below.refl _ _⟩

/-- no script -/
theorem pointCheck_nil (n : Int) (A : Option Addr) (len cap : Nat) (l : List Pz) (w : World) (hx : RdPz w w.heap.size A l) (hl : l.length = len) (hm : len ≤ maxLen) :
    Calls Try.prog 10 #[.int .i64 n, .slice A len cap, .slice none 0 0] w fun e w' => e = .returned (.int .i64 (ckPz n l)) ∧ Below w.heap.size w w' := by
  rw [← ckGo_nil]
  exact pointCheck_any n A len cap l none 0 0 [] w hx hl hm (fun h => by simp at h) rfl (by omega)

end Go.Proofs.Ytfbnmgnkigfgpaa
