/-
  single.isLong, graph (M2).
-/
import Derived.Test.YtgcjknibelfjbaaSnFrom
import Derived.Test.YtgcjknibelfjbaaBlocks
import Derived.Test.YtgcjknibelfjbaaMBlock
import Derived.Test.YtgcjknibelfjbaaSingleCk
namespace Go.Proofs.Ytgcjknibelfjbaa
open Go.RowKit
set_option linter.unusedSimpArgs false
set_option linter.unusedVariables false
set_option maxRecDepth 100000

set_option maxHeartbeats 4000000 in
theorem isLong_any (A : Option Addr) (len cap : Nat) (l : List Sg) (w : World) (hx : RdN w w.heap.size A l) (hl : l.length = len) (h8 : len ≤ 8) (hin : ∀ s ∈ l, InSg s) :
    Calls Try.prog 54 #[.slice A len cap] w fun e w' => e = .returned (.bool (decide (20 < manyC l ∨ 64 < manyJ l))) ∧ Below w.heap.size w w' := by
  have HL := Lib.hid hl
  have hsm : Hid (∀ k, k ≤ 8 → manyC (l.take k) ≤ 28147497670247 ∧ manyJ (l.take k) ≤ 35184372087808) := Lib.hid fun k hk => by
    have h1 := manyC_small (p := l.take k) fun b hb => hin b (List.mem_of_mem_take hb)
    have h2 : (l.take k).length ≤ 8 := by rw [List.length_take]; omega
    omega
  have HMT := Lib.hid (fun (k : Nat) (b : Sg) (h : l[k]? = some b) => And.intro (manyC_take h) (manyJ_take h))
  have HFULL : Hid (l.take len = l) := Lib.hid (by rw [← hl, List.take_length])
  obtain ⟨D, hD⟩ : ∃ D, decide (20 < manyC l ∨ 64 < manyJ l) = D := ⟨_, rfl⟩
  have HDD := Lib.hid hD
  rw [hD]
  clear hl hin hD
  go_enter Try.func54, Try.ntmps54
  go_wp2
  go_loopw [3, 4, 9] (fun z5 z6 z wr => ∃ k : Nat, k ≤ len ∧ z = .int .i64 k ∧ z5 = .int .i64 (manyC (l.take k) : Nat) ∧ z6 = .int .i64 (manyJ (l.take k) : Nat) ∧ Below w.heap.size w wr) (fun _ _ z _ => len - (intOf z).toNat)
  case atStart => exact ⟨0, Nat.zero_le _, rfl, by simp [manyC], by simp [manyJ], Below.refl _ _⟩
  case round =>
    obtain ⟨k, hk, rfl, rfl, rfl, hb⟩ := hrel
    have hsz := hb.size
    by_cases hlt : k < len
    · obtain ⟨ad, s, Aj, cj, Ac, cc, Al, cl, rfl, hbl, hd, _, _, _, e0, e1, e2, e3, e4, e5⟩ := (hx.below hb (Nat.le_refl _)).at_ (k := k) (by rw [HL.out]; exact hlt)
      obtain ⟨hmt, hmj⟩ := HMT.out k s hd
      have hs1 := hsm.out k (by omega)
      have hs2 := hsm.out (k + 1) (by omega)
      rw [hmt, hmj] at hs2
      have HT := Lib.hid hmt
      have HT2 := Lib.hid hmj
      obtain ⟨m, hme⟩ : ∃ m, manyC (l.take k) = m := ⟨_, rfl⟩
      obtain ⟨m2, hme2⟩ : ∃ m, manyJ (l.take k) = m := ⟨_, rfl⟩
      obtain ⟨n1, hn1⟩ : ∃ n, s.code.length = n := ⟨_, rfl⟩
      obtain ⟨n2, hn2⟩ : ∃ n, s.joins.length = n := ⟨_, rfl⟩
      obtain ⟨n3, hn3⟩ : ∃ n, s.last.length = n := ⟨_, rfl⟩
      rw [hme, hn1] at HT
      rw [hme2, hn2] at HT2
      rw [hme, hme2] at hs1 ⊢
      rw [hme, hme2, hn1, hn2] at hs2
      rw [hn1] at e1
      rw [hn2] at e0
      rw [hn3] at e5
      obtain ⟨g1, g2⟩ := hs1
      obtain ⟨g3, g4⟩ := hs2
      clear hd hmt hmj hme hme2 hn1 hn2 hn3
      go_wp2
      go_round
      case rel => exact ⟨k + 1, by omega, by go_num, by rw [HT.out]; go_num, by rw [HT2.out]; go_num, by go_grown⟩
      case measure => (simp [intOf]; omega)
    · have hkl : k = len := by omega
      have hmp : manyC (l.take k) = manyC l := by rw [hkl, HFULL.out]
      have hmq : manyJ (l.take k) = manyJ l := by rw [hkl, HFULL.out]
      rw [hmp, hmq]
      obtain ⟨m, hme⟩ : ∃ m, manyC l = m := ⟨_, rfl⟩
      obtain ⟨m2, hme2⟩ : ∃ m, manyJ l = m := ⟨_, rfl⟩
      rw [hme, hme2] at HDD ⊢
      clear hmp hmq hme hme2 hkl
      by_cases h1 : 20 < m
      · have f1 : decide (20 < (m : Int)) = true := by simp; omega
        have HD : Hid (D = true) := Lib.hid (by rw [← HDD.out]; simp [h1])
        clear h1
        go_wp2
        go_ret
        exact ⟨ret_bool HD.out.symm, hb⟩
      · have f1 : decide (20 < (m : Int)) = false := by simp; omega
        have HD : Hid (D = decide (64 < (m2 : Int))) := Lib.hid (by
          rw [← HDD.out]
          by_cases h2 : 64 < m2
          · rw [decide_eq_true (.inr h2), decide_eq_true (by omega)]
          · rw [decide_eq_false (by omega), decide_eq_false (by omega)])
        clear h1
        go_wp2
        go_ret
        exact ⟨ret_bool HD.out.symm, hb⟩

/-- which name is tested does not matter -/
def minS (s : Sg) : Bk := ⟨[], min s.test 0, s.th, s.el⟩

def minP (l : List Sg) : List Bk := l.map minS

theorem minB_nx (s : Sg) : nxB (minS s) = nxB (bareS s) ∨ s.test < -1 := by
  by_cases h : s.test < -1
  · exact .inr h
  · left
    unfold nxB minS bareS
    simp only []
    have e : (min s.test 0 ≠ -1) ↔ (s.test ≠ -1) := by omega
    by_cases h2 : s.test ≠ -1 ∧ s.th ≠ s.el
    · have h3 : min s.test 0 ≠ -1 ∧ s.th ≠ s.el := ⟨e.2 h2.1, h2.2⟩
      rw [if_pos h2, if_pos h3]
    · have h3 : ¬ (min s.test 0 ≠ -1 ∧ s.th ≠ s.el) := fun h3 => h2 ⟨e.1 h3.1, h3.2⟩
      rw [if_neg h2, if_neg h3]

/-- the blocks' ends, without Last -/
def endBad (n : Int) (s : Sg) : Prop := s.test < -1 ∨ (s.test = -1 ∧ s.th ≠ -1 ∧ ¬ (0 ≤ s.th ∧ s.th < n)) ∨ (0 ≤ s.test ∧ ¬ (0 ≤ s.th ∧ s.th < n ∧ 0 ≤ s.el ∧ s.el < n))

theorem minS_ck (n : Int) (s : Sg) : ckBk 1 n (minS s) ≠ 0 ↔ endBad n s := by
  unfold ckBk minS endBad
  simp only [ckStepsF]
  (repeat' split) <;> omega

theorem manyS_minP (l : List Sg) : manyS (minP l) = 0 := by
  induction l with
  | nil => rfl
  | cons s l ih => simp only [minP, List.map_cons, manyS]; exact (by simpa [minS, minP] using ih)

/-- ends right: the program made of them is right, and goes the same ways -/
theorem minP_ok {l : List Sg} (h1 : 1 ≤ l.length) (h2 : l.length ≤ 8) (h : ∀ s ∈ l, ¬ endBad l.length s) : ckProg (1 : Nat) (minP l) = 0 ∧ nxP (minP l) = nxP (bareP l) := by
  constructor
  · have hl : (minP l).length = l.length := by simp [minP]
    refine ckProg_of (by omega) (by omega) (by omega) (by omega) (by rw [manyS_minP]; omega) (ckBks_of fun b hb => ?_)
    obtain ⟨s, hs, rfl⟩ := List.mem_map.1 hb
    rw [hl]
    exact Classical.byContradiction fun hn => h s hs ((minS_ck _ s).1 hn)
  · unfold nxP minP bareP
    rw [List.map_map, List.map_map]
    refine List.map_congr_left fun s hs => ?_
    rcases minB_nx s with h3 | h3
    · exact h3
    · exact absurd (.inl h3) (h s hs)

/-- .. and wrong: that one is wrong -/
theorem minP_bad {l : List Sg} {s : Sg} (h1 : 1 ≤ l.length) (h2 : l.length ≤ 8) (hs : s ∈ l) (h : endBad l.length s) : ckProg (1 : Nat) (minP l) ≠ 0 := fun h0 => by
  have hl : (minP l).length = l.length := by simp [minP]
  have h3 := (ckProg_bd h0).2.2.2.2.2
  obtain ⟨k, hk, rfl⟩ := List.getElem_of_mem hs
  have h4 := ckBks_at h3 (k := k) (b := minS l[k]) (by unfold minP; rw [List.getElem?_map, List.getElem?_eq_getElem hk]; rfl)
  rw [hl] at h4
  exact (minS_ck _ _).2 h h4

/-- ends and Last together -/
theorem forms_iff {vars : Int} {l : List Sg} : ckForms vars l.length l = 0 ↔ (∀ s ∈ l, ¬ endBad l.length s) ∧ ∀ s ∈ l, (s.last.length : Int) = vars := by
  have key : ∀ s : Sg, ¬ frmBad vars l.length s ↔ ¬ endBad l.length s ∧ (s.last.length : Int) = vars := fun s => by
    unfold frmBad endBad
    omega
  constructor
  · intro h
    refine ⟨fun s hs => ?_, fun s hs => ?_⟩
    · obtain ⟨k, hk, rfl⟩ := List.getElem_of_mem hs
      exact ((key _).1 (ckForms_at h (List.getElem?_eq_getElem hk))).1
    · obtain ⟨k, hk, rfl⟩ := List.getElem_of_mem hs
      exact ((key _).1 (ckForms_at h (List.getElem?_eq_getElem hk))).2
  · exact fun h => ckForms_of fun s hs => (key s).2 ⟨h.1 s hs, h.2 s hs⟩

/-- blocks stored so far -/
def minQ (l : List Sg) (k : Nat) : List (Bk × Option Addr × Nat) := (l.take k).map (fun s => (minS s, none, 0)) ++ List.replicate (l.length - k) (⟨[], 0, 0, 0⟩, none, 0)

theorem minQ_len {l : List Sg} {k : Nat} (h : k ≤ l.length) : (minQ l k).length = l.length := by
  unfold minQ
  rw [List.length_append, List.length_map, List.length_take, List.length_replicate]
  omega

theorem minQ_set {l : List Sg} {k : Nat} {s : Sg} (h : l[k]? = some s) : minQ l (k + 1) = (minQ l k).set k (minS s, none, 0) := by
  have hk := (List.getElem?_eq_some_iff.1 h).1
  unfold minQ
  rw [List.take_add_one, h, Option.toList_some, List.map_append, show l.length - k = (l.length - (k + 1)) + 1 by omega, List.replicate_succ, List.set_append, if_neg (by rw [List.length_map, List.length_take]; omega)]
  simp [List.length_take, Nat.min_eq_left (Nat.le_of_lt hk)]

theorem minQ_all (l : List Sg) : (minQ l l.length).map (·.1) = minP l := by
  unfold minQ minP
  simp

theorem CodeFits.min (l : List Sg) : CodeFits (minP l) := fun b hb => by
  obtain ⟨s, _, rfl⟩ := List.mem_map.1 hb
  simp [minS]

/-- the program made of the ends, in a block of the call's own -/
theorem minQ_rd {w : World} {g : Nat} {l : List Sg} {k : Nat} (hk : k ≤ l.length) (h : Own w g 45 (rv cBk (minQ l k))) : RdP w w.heap.size (some ⟨g, 0, none⟩) ((minQ l k).map (·.1)) := by
  refine FdG.rd (S := 0) ⟨h, fun r q hq => ?_⟩
  have he : q.1.code = [] ∧ q.2.1 = none := by
    unfold minQ at hq
    have hm := List.mem_of_getElem? hq
    rw [List.mem_append] at hm
    rcases hm with hm | hm
    · obtain ⟨s, _, rfl⟩ := List.mem_map.1 hm
      exact ⟨rfl, rfl⟩
    · rw [List.mem_replicate] at hm
      rw [hm.2]
      exact ⟨rfl, rfl⟩
  refine ⟨?_, by rw [he.1]; simp, fun ad hA => by rw [he.2] at hA; cases hA⟩
  rw [he.1]
  exact fun hm => by simp at hm

set_option maxHeartbeats 4000000 in
theorem graph_fill (A : Option Addr) (len cap : Nat) (l : List Sg) (w : World) (hx : RdN w w.heap.size A l) (hl : l.length = len) (h1 : 1 ≤ len) (h8 : len ≤ 8) (R : Ending → World → Prop)
    (hR : ∀ (A' : Option Addr) (c' : Nat) (X : World), RdP X X.heap.size A' (minP l) → Below w.heap.size w X → Calls Try.prog 42 #[.int .i64 1, .slice A' len c'] X fun e w' => ∃ A2 n2 c2 e2, e = .returned (.tuple #[.slice A2 n2 c2, .int .i64 e2]) ∧ R (.returned (.tuple #[.slice A2 n2 c2, .int .i64 e2])) w') :
    Calls Try.prog 55 #[.slice A len cap] w R := by
  have HL := Lib.hid hl
  have HR := Lib.hid hR
  have hmk := make_blocks (P := Try.prog) 36 45 Try.underlying36 (by kernel_rfl) len (by omega)
  have hq0 : rv cBk (List.replicate len ((⟨[], 0, 0, 0⟩ : Bk), (none : Option Addr), 0)) = rv cBk (minQ l 0) := by unfold minQ; simp [hl]
  rw [hq0] at hmk
  have HSET := Lib.hid (fun (k : Nat) (s : Sg) (h : l[k]? = some s) => minQ_set h)
  have HQL := Lib.hid (fun (k : Nat) (h : k ≤ l.length) => minQ_len h)
  have HALL := Lib.hid (minQ_all l)
  clear hl hR hq0
  go_enter Try.func55, Try.ntmps55
  go_wp2
  have hown0 := Own.new w 45 (rv cBk (minQ l 0))
  clear hmk
  go_loopw [12] (fun z wr => ∃ k : Nat, k ≤ len ∧ z = .int .i64 k ∧ Own wr w.heap.size 45 (rv cBk (minQ l k)) ∧ Below w.heap.size w wr) (fun z _ => len - (intOf z).toNat)
  case atStart => exact ⟨0, Nat.zero_le _, rfl, hown0, by go_grown⟩
  case round =>
    obtain ⟨k, hk, rfl, hown, hb⟩ := hrel
    have hsz := hb.size
    have hgl := hown.lt
    by_cases hlt : k < len
    · obtain ⟨ad, ⟨js, co, te, th, el, la⟩, Aj, cj, Ac, cc, Al, cl, rfl, hbl, hd, _, _, _, e0, e1, e2, e3, e4, e5⟩ := (hx.below hb (Nat.le_refl _)).at_ (k := k) (by rw [HL.out]; exact hlt)
      have HST := Lib.hid (HSET.out k _ hd)
      have HQK : Hid (k < (minQ l k).length) := Lib.hid (by rw [HQL.out k (by rw [HL.out]; omega), HL.out]; exact hlt)
      simp only [] at e0 e1 e2 e3 e4 e5
      obtain ⟨n1, hn1⟩ : ∃ n, co.length = n := ⟨_, rfl⟩
      obtain ⟨n2, hn2⟩ : ∃ n, js.length = n := ⟨_, rfl⟩
      obtain ⟨n3, hn3⟩ : ∃ n, la.length = n := ⟨_, rfl⟩
      rw [hn1] at e1
      rw [hn2] at e0
      rw [hn3] at e5
      have HOWN := Lib.hid hown
      obtain ⟨q, hqi⟩ : ∃ q, (minQ l k)[k]? = some q := ⟨_, List.getElem?_eq_getElem HQK.out⟩
      have c0 := hown.cell (rv_at cBk_len hqi (i := 0) (by omega))
      have c1 := hown.cell (rv_at cBk_len hqi (i := 1) (by omega))
      have c2 := hown.cell (rv_at cBk_len hqi (i := 2) (by omega))
      have c3 := hown.cell (rv_at cBk_len hqi (i := 3) (by omega))
      have f0 := hown.frozen (k * 4)
      have f1 := hown.frozen (k * 4 + 1)
      have f2 := hown.frozen (k * 4 + 2)
      have f3 := hown.frozen (k * 4 + 3)
      rw [Nat.add_zero] at c0
      have HPUT : Hid (∀ v, min te 0 = v → ∀ X : World, Below wr.heap.size wr X → Own ((((X.setCell ⟨w.heap.size, k * 4, none⟩ (.slice none 0 0)).setCell ⟨w.heap.size, k * 4 + 1, none⟩ (.int .i64 v)).setCell ⟨w.heap.size, k * 4 + 2, none⟩ (.int .i64 th)).setCell ⟨w.heap.size, k * 4 + 3, none⟩ (.int .i64 el)) w.heap.size 45 (rv cBk (minQ l (k + 1)))) := Lib.hid fun v hv X hX => by
        rw [HST.out]
        have h := rv_set4 (qs := minQ l k) (i := k) (c := 0) (A := none) (b := minS ⟨js, co, te, th, el, la⟩) HQK.out
        rw [← h]
        have e : min (⟨js, co, te, th, el, la⟩ : Sg).test 0 = v := hv
        unfold minS
        rw [e]
        exact ((((HOWN.out.below hX hgl).set (k * 4) (.slice none 0 0)).set (k * 4 + 1) (.int .i64 v)).set (k * 4 + 2) (.int .i64 th)).set (k * 4 + 3) (.int .i64 el)
      have HMIN : Hid (min te 0 = if 0 < te then 0 else te) := Lib.hid (by split <;> omega)
      have hs0 : w.heap.size ≤ w.heap.size := Nat.le_refl _
      clear hd hn1 hn2 hn3 hown hqi
      go_wp2
      go_round
      case rel => exact ⟨k + 1, by omega, by go_num, Own.alloc (HPUT.out _ HMIN.out wr (Below.refl _ _)) _, ((((hb.setCell hs0 _).setCell hs0 _).setCell hs0 _).setCell hs0 _).alloc (by simpa using hsz) _⟩
      case measure => (simp [intOf]; omega)
    · have hkl : k = l.length := by rw [HL.out]; omega
      have HP : Hid (RdP wr wr.heap.size (some ⟨w.heap.size, 0, none⟩) (minP l)) := Lib.hid (by
        rw [← HALL.out, ← hkl]
        exact minQ_rd (by omega) hown)
      clear hkl hown
      go_wp2_with fail
      refine (HR.out _ _ _ HP.out hb).mono ?_
      rintro e w2 ⟨A2, n2, c2, e2, rfl, hR2⟩
      have HR2 := Lib.hid hR2
      clear hR2
      go_wp2
      exact HR2.out

/-- ends right -/
theorem graph_ok (A : Option Addr) (len cap : Nat) (l : List Sg) (w : World) (hx : RdN w w.heap.size A l) (hl : l.length = len) (h1 : 1 ≤ len) (h8 : len ≤ 8) (hok : ∀ s ∈ l, ¬ endBad l.length s) :
    Calls Try.prog 55 #[.slice A len cap] w fun e w' => ∃ A' c', e = .returned (.tuple #[.slice A' len c', .int .i64 0]) ∧ RdG w' w'.heap.size A' (nxP (bareP l)) ∧ Below w.heap.size w w' := by
  obtain ⟨hc, hn⟩ := minP_ok (l := l) (by omega) (by omega) hok
  have hml : (minP l).length = len := by rw [← hl]; simp [minP]
  refine graph_fill A len cap l w hx hl h1 h8 _ fun A' c' X hP hX => ?_
  refine (blockWay_any 1 A' len c' (minP l) X hP hml hc).mono ?_
  rintro e w' ⟨A2, c2, rfl, hg, hb⟩
  rw [hn] at hg
  exact ⟨A2, len, c2, 0, rfl, A2, c2, rfl, hg, hX.trans (hb.mono hX.size)⟩

end Go.Proofs.Ytgcjknibelfjbaa
