/-
  swap.Order, swap.Rounds (N1).
-/
import Derived.Test.YtlknmfabfmmggaaSwapFrom
import Derived.Deep.Cut
namespace Go.Proofs.Ytlknmfabfmmggaa
open Go.RowKit
set_option linter.unusedSimpArgs false
set_option linter.unusedVariables false
set_option maxRecDepth 100000

theorem mv_one (a b : Int) : rv cMv [(a, b)] = [.int .i64 a, .int .i64 b] := rfl

theorem rv_snoc (o : List (Nat × Nat)) (a b : Nat) : rv cMv (mvI (o ++ [(a, b)])) = rv cMv (mvI o) ++ [.int .i64 (a : Int), .int .i64 (b : Int)] := by
  rw [mvI_append, rv_append]
  rfl

def lenM : Value → Nat
  | .slice _ n _ => n
  | _ => 0

/-- Order between two rounds -/
structure OrdAt (B g n : Nat) (F0 F : Nat → Nat) (o : List (Nat × Nat)) (s : Value) (w : World) : Prop where
  tab : TabAt w g n F
  row : w.ownsRow B 32 2 s o.length (rv cMv (mvI o))
  inv : OdI n F0 F o

theorem OrdAt.size {B g n : Nat} {F0 F : Nat → Nat} {o : List (Nat × Nat)} {s : Value} {w : World} (h : OrdAt B g n F0 F o s w) (hc : nWait n F0 + nCirc n F0 ≤ 16) : o.length ≤ 16 := by
  have := h.inv.len
  omega

set_option maxHeartbeats 16000000 in
theorem order_any (n : Nat) (A : Option Addr) (len cap : Nat) (q : List (Nat × Nat)) (w : World) (hx : RdM w w.heap.size A (mvI q)) (hl : q.length = len) (hok : MvOk n q) :
    Calls Try.prog 9 #[.int .i64 n, .slice A len cap] w fun e w' => ∃ A' c' o, e = .returned (.tuple #[.slice A' o.length c', .int .i64 0]) ∧ w'.ownsRow w.heap.size 32 2 (.slice A' o.length c') o.length (rv cMv (mvI o)) ∧ Ordd n (nvF q) o ∧ Below w.heap.size w w' := by
  have h8 := hok.small
  have hst := nvF_st hok.ins
  have hc0 : nWait n (nvF q) + nCirc n (nvF q) ≤ 16 := by
    have h1 := cntN_le (fun k => nvF q k != k) n
    have h2 := cntN_le (circB n (nvF q)) n
    unfold nWait nCirc
    omega
  have HC0 := Lib.hid hc0
  have HS := Lib.hid (sources_in n A len cap q w hx hl hok.pos h8 (by have := hok.short; omega) hok.ins)
  have HST := Lib.hid hst
  have HND := Lib.hid hok.nd
  obtain ⟨F0, hF0⟩ : ∃ F0, nvF q = F0 := ⟨_, rfl⟩
  rw [hF0] at HST HC0 HS ⊢
  clear hc0 hst hl hok hx hF0
  go_enter Try.func9, Try.ntmps9
  go_wp2_with fail
  refine HS.out.mono ?_
  rintro e w1 ⟨hres, hb1⟩
  rcases hres with ⟨g, rfl, hgw, hT, _⟩ | ⟨_, hbad⟩
  · have hs1 : w.heap.size ≤ w1.heap.size := hb1.size
    have hg1 : g < w1.heap.size := Own.lt hT
    clear HS
    have HO0 : Hid (OrdAt w1.heap.size g n F0 F0 [] (.slice none 0 0) w1) := Lib.hid ⟨hT, World.ownsRow_nil _ _ _ _, OdI.zero HST.out⟩
    clear hT
    go_upto_region 5 with fail
    go_loopw [8] (fun s wr => ∃ (F : Nat → Nat) (A' : Option Addr) (c' : Nat) (o : List (Nat × Nat)), s = .slice A' o.length c' ∧ Hid (OrdAt w1.heap.size g n F0 F o (.slice A' o.length c') wr) ∧ Below w.heap.size w wr ∧ w1.heap.size ≤ wr.heap.size) (fun s _ => 17 - lenM s)
    case atStart => exact ⟨F0, none, 0, [], rfl, HO0, hb1, Nat.le_refl _⟩
    case round =>
      obtain ⟨F, A', c', o, rfl, HI, hb, hsw⟩ := hrel
      have hT := HI.out.tab
      have hol := HI.out.size HC0.out
      have hov := Lib.hid (overwritable_any g n F wr h8 hT)
      obtain ⟨m, hm⟩ : ∃ m, o.length = m := ⟨_, rfl⟩
      have HMM := Lib.hid hm
      have hown : wr.ownsRow w1.heap.size 32 2 (.slice A' m c') m (rv cMv (mvI o)) := by rw [← hm]; exact HI.out.row
      have hinv : Hid (OdI n F0 F o) := Lib.hid HI.out.inv
      rw [hm] at hol ⊢
      clear hm HI
      have ha_ : m + 1 ≤ maxLen := by unfold maxLen; omega
      have hb_ : (m + 1) * 16 ≤ 140737488355328 := by omega
      go_wp2_with fail
      refine hov.out.mono ?_
      rintro e w2 ⟨⟨z, rfl, hz⟩, rfl⟩
      clear hov
      rcases hz with ⟨rfl, hstuck⟩ | ⟨t, rfl, hover⟩
      · have HSTK := Lib.hid hstuck
        have hwt := Lib.hid (waiting_any g n F wr h8 hT)
        clear hstuck
        go_wp2_with fail
        refine hwt.out.mono ?_
        rintro e w2 ⟨⟨z, rfl, hz⟩, rfl⟩
        clear hwt
        rcases hz with ⟨rfl, hdone⟩ | ⟨c, rfl, hcn, hcf⟩
        · have HD := Lib.hid (hinv.out.done hdone)
          clear hdone
          go_wp2
          go_ret2
          exact ⟨A', c', o, by rw [HMM.out]; rfl, by rw [HMM.out]; exact own_mono hown hs1, HD.out, hb⟩
        · have HNX := Lib.hid (hinv.out.two (c := c) ⟨hcn, hcf, HSTK.out⟩)
          have hcz : ((c : Int) == -1) = false := by simp
          clear hcf
          go_wp2_with (first
            | (at_builtin; refine wpList_app rfl (.tmp 29) (.tmp 33) 22 rfl w1.heap.size 32 2 16 mv_app _ rfl (hown.alloc _) [.int .i64 (n : Int), .int .i64 (c : Int)] rfl rfl (fun h => by cases h) (cells_at rfl _ _) (cMv_two _ _) ha_ hb_ (by simp; omega) ?_; intro A5 c5 w5 hown5 hg5 hb5; have hb5' : Below w1.heap.size wr w5 := (by go_grown : Below w1.heap.size wr _).trans hb5; have hT5 := hT.below hb5' hg1; have hs5 := hb5.size)
            | (go_at_call 16; (with_reducible refine (redirect_any g n F c n _ h8 hT5).mono ?_); rintro e w6 ⟨rfl, hT6, hW6⟩))
          have hb5w : Below w.heap.size w w5 := hb.trans (hb5'.mono hs1)
          have hsz6 := hW6.size
          simp only [World.size_alloc] at hs5
          go_round
          case rel =>
            refine ⟨redF F c n, A5, c5, o ++ [(n, c)], by rw [List.length_append, HMM.out]; rfl, Lib.hid ⟨hT6, ?_, HNX.out⟩, hb5w.trans (hW6.below hgw hb5w.size), by omega⟩
            rw [List.length_append, HMM.out, rv_snoc]
            exact own_wroteM hown5 hW6 hg1
          case measure =>
            show 17 - (m + 1) < 17 - m
            omega
      · have HNX := Lib.hid (hinv.out.one hover)
        have htn := hover.lt
        have htz : ((t : Int) == -1) = false := by simp
        clear hover
        have hc := hT.cell htn
        obtain ⟨ft, hft⟩ : ∃ ft, F t = ft := ⟨_, rfl⟩
        have HFT := Lib.hid hft
        rw [hft] at HNX hc
        clear hft
        go_wp2_with (first
          | (at_builtin; refine wpList_app rfl (.tmp 39) (.tmp 46) 22 rfl w1.heap.size 32 2 16 mv_app _ rfl (hown.alloc _) [.int .i64 (t : Int), .int .i64 (ft : Int)] rfl rfl (fun h => by cases h) (cells_at rfl _ _) (cMv_two _ _) ha_ hb_ (by simp; omega) ?_; intro A5 c5 w5 hown5 hg5 hb5; have hb5' : Below w1.heap.size wr w5 := (by go_grown : Below w1.heap.size wr _).trans hb5; have hT5 := hT.below hb5' hg1; have hc5 := hT5.cell htn; rw [HFT.out] at hc5; have hs5 := hb5.size)
          | (go_at_call 16; (with_reducible refine (redirect_any g n F ft t _ h8 hT5).mono ?_); rintro e w6 ⟨rfl, hT6, hW6⟩))
        have hb5w : Below w.heap.size w w5 := hb.trans (hb5'.mono hs1)
        have hsz6 := hW6.size
        simp only [World.size_alloc] at hs5
        go_round
        case rel =>
          refine ⟨redF F ft t, A5, c5, o ++ [(t, ft)], by rw [List.length_append, HMM.out]; rfl, Lib.hid ⟨hT6, ?_, HNX.out⟩, hb5w.trans (hW6.below hgw hb5w.size), by omega⟩
          rw [List.length_append, HMM.out, rv_snoc]
          exact own_wroteM hown5 hW6 hg1
        case measure =>
          show 17 - (m + 1) < 17 - m
          omega
  · exact absurd HND.out hbad

theorem sources_bad (n : Int) (A : Option Addr) (len cap : Nat) (l : List (Int × Int)) (w : World) (hx : RdM w w.heap.size A l) (hl : l.length = len) (hm : len ≤ maxLen) (hc : ckMv n l ≠ 0) :
    Calls Try.prog 13 #[.int .i64 n, .slice A len cap] w fun e w' => e = .returned (.tuple #[.slice none 0 0, .int .i64 (ckMv n l)]) ∧ Below w.heap.size w w' := by
  by_cases hz : sizesM n l
  · by_cases ha : allM n l = true
    · by_cases hn : (l.map Prod.fst).Nodup
      · exact absurd (ckMv_zero hz ha hn) hc
      · rw [ckMv_form hz ha hn]
        obtain ⟨h1, h8, hl8⟩ := hz
        obtain ⟨k, rfl⟩ : ∃ k : Nat, n = k := ⟨n.toNat, by omega⟩
        obtain ⟨q, rfl, hi⟩ := allM_nat ha
        rw [mvI_fst, ni_nd] at hn
        rw [mvI_len] at hl hl8
        refine (sources_in k A len cap q w hx hl (by omega) (by omega) (by omega) hi).mono ?_
        rintro e w1 ⟨h | ⟨rfl, _⟩, hb⟩
        · obtain ⟨_, _, _, _, hnd⟩ := h
          exact absurd hnd hn
        · exact ⟨rfl, hb⟩
    · have ha2 : allM n l = false := by simpa using ha
      rw [ckMv_arg hz ha2]
      exact sources_arg n A len cap l w hx hl hz ha2
  · rw [ckMv_large hz]
    exact sources_large n A len cap l w hl hm hz

set_option maxHeartbeats 2000000 in
theorem order_bad (n : Int) (A : Option Addr) (len cap : Nat) (l : List (Int × Int)) (w : World) (hx : RdM w w.heap.size A l) (hl : l.length = len) (hm : len ≤ maxLen) (hc : ckMv n l ≠ 0) :
    Calls Try.prog 9 #[.int .i64 n, .slice A len cap] w fun e w' => e = .returned (.tuple #[.slice none 0 0, .int .i64 (ckMv n l)]) ∧ Below w.heap.size w w' := by
  have HS := Lib.hid (sources_bad n A len cap l w hx hl hm hc)
  obtain ⟨x, hx2⟩ : ∃ x, ckMv n l = x := ⟨_, rfl⟩
  rw [hx2] at HS hc ⊢
  have hne : (x != 0) = true := by simp [hc]
  clear hx hl hm hc hx2
  go_enter Try.func9, Try.ntmps9
  go_wp2_with fail
  refine HS.out.mono ?_
  rintro e w1 ⟨rfl, hb1⟩
  go_wp2
  go_ret2
  exact ⟨rfl, hb1⟩

set_option maxHeartbeats 2000000 in
theorem rounds_bad (n : Int) (A : Option Addr) (len cap : Nat) (l : List (Int × Int)) (w : World) (hx : RdM w w.heap.size A l) (hl : l.length = len) (hm : len ≤ maxLen) (hc : ckMv n l ≠ 0) :
    Calls Try.prog 6 #[.int .i64 n, .slice A len cap] w fun e w' => e = .returned (.tuple #[.int .i64 0, .int .i64 (ckMv n l)]) ∧ Below w.heap.size w w' := by
  have HS := Lib.hid (order_bad n A len cap l w hx hl hm hc)
  obtain ⟨x, hx2⟩ : ∃ x, ckMv n l = x := ⟨_, rfl⟩
  rw [hx2] at HS ⊢
  clear hx hl hm hc hx2
  go_enter Try.func6, Try.ntmps6
  go_wp2_with fail
  refine HS.out.mono ?_
  rintro e w1 ⟨rfl, hb1⟩
  go_wp2
  go_loopw [8, 19] (fun s i wr => s = .int .i64 0 ∧ i = .int .i64 0 ∧ wr = w1) (fun _ _ _ => 0)
  case atStart => exact ⟨rfl, rfl, rfl⟩
  case round =>
    obtain ⟨rfl, rfl, rfl⟩ := hrel
    go_wp2
    go_ret2
    exact ⟨rfl, hb1⟩

theorem toN_take {n k a b : Nat} {o : List (Nat × Nat)} (h : o[k]? = some (a, b)) : toN n (o.take (k + 1)) = toN n (o.take k) + (if a == n then 1 else 0) := by
  unfold toN
  rw [List.take_add_one, h, Option.toList_some, List.filter_append, List.length_append]
  congr 1
  by_cases he : a = n
  · simp [he]
  · simp [he]

set_option maxHeartbeats 4000000 in
theorem rounds_any (n : Nat) (A : Option Addr) (len cap : Nat) (q : List (Nat × Nat)) (w : World) (hx : RdM w w.heap.size A (mvI q)) (hl : q.length = len) (hok : MvOk n q) :
    Calls Try.prog 6 #[.int .i64 n, .slice A len cap] w fun e w' => e = .returned (.tuple #[.int .i64 (nCirc n (nvF q) : Nat), .int .i64 0]) ∧ Below w.heap.size w w' := by
  have HS := Lib.hid (order_any n A len cap q w hx hl hok)
  have hc0 : nWait n (nvF q) + nCirc n (nvF q) ≤ 16 := by
    have h1 := cntN_le (fun k => nvF q k != k) n
    have h2 := cntN_le (circB n (nvF q)) n
    have h3 := hok.small
    unfold nWait nCirc
    omega
  clear hx hl hok
  go_enter Try.func6, Try.ntmps6
  go_wp2_with fail
  refine HS.out.mono ?_
  rintro e w1 ⟨A', c', o, rfl, hown, hord, hb1⟩
  have hol : o.length ≤ 16 := by have := hord.len; omega
  have HT := Lib.hid hord.tmp
  have hrd := own_rdM hown (mvI_len o)
  obtain ⟨m, hm⟩ : ∃ m, o.length = m := ⟨_, rfl⟩
  have HM := Lib.hid hm
  rw [hm] at hol ⊢
  have hs1 := hb1.size
  clear hown hord hm HS
  go_wp2
  go_loopw [8, 19] (fun s i wr => ∃ k : Nat, k ≤ m ∧ i = .int .i64 k ∧ s = .int .i64 (toN n (o.take k) : Nat) ∧ Below w1.heap.size w1 wr) (fun _ i _ => m - (intOf i).toNat)
  case atStart => exact ⟨0, Nat.zero_le _, rfl, rfl, Below.refl _ _⟩
  case round =>
    obtain ⟨k, hk, rfl, rfl, hb2⟩ := hrel
    have hsz := hb2.size
    by_cases hlt : k < m
    · obtain ⟨ad, a, b, rfl, hbl, hd, hc0, hc1⟩ := RdN.at_ (hrd.below hb2 (Nat.le_refl _)) (k := k) (by rw [HM.out]; exact hlt)
      have HD := Lib.hid (toN_take (n := n) hd)
      obtain ⟨u, hu⟩ : ∃ u, toN n (o.take k) = u := ⟨_, rfl⟩
      have hun : u ≤ 16 := by
        rw [← hu]
        unfold toN
        have h1 := List.length_filter_le (fun m : Nat × Nat => m.1 == n) (o.take k)
        have h2 := List.length_take_le k o
        omega
      rw [hu] at HD ⊢
      clear hd hu
      by_cases he : a = n
      · have hb : ((a : Int) == (n : Int)) = true := by simp [he]
        have HE : Hid (toN n (o.take (k + 1)) = u + 1) := Lib.hid (by rw [HD.out, he]; simp)
        clear he
        go_wp2
        go_round
        case rel => exact ⟨k + 1, by omega, by go_num, by rw [HE.out]; go_num, hb2.trans (by go_grown)⟩
        case measure => (simp [intOf]; omega)
      · have hb : ((a : Int) == (n : Int)) = false := by simp; omega
        have HE : Hid (toN n (o.take (k + 1)) = u) := Lib.hid (by rw [HD.out, beq_no he]; rfl)
        clear he
        go_wp2
        go_round
        case rel => exact ⟨k + 1, by omega, by go_num, by rw [HE.out], hb2.trans (by go_grown)⟩
        case measure => (simp [intOf]; omega)
    · have hkm : k = m := by omega
      subst hkm
      have HT2 : Hid (toN n (o.take k) = nCirc n (nvF q)) := Lib.hid (by rw [List.take_of_length_le (by rw [HM.out]; exact Nat.le_refl _)]; exact HT.out)
      rw [HT2.out]
      go_wp2
      go_ret2
      exact ⟨rfl, hb1.trans (hb2.mono hs1)⟩

end Go.Proofs.Ytlknmfabfmmggaa
