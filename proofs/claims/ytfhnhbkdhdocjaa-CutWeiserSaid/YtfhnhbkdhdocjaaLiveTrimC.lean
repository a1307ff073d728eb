/-
  live.check, live.In, slices.Clone of blocks (K1, K2).
-/
import Derived.Test.YtfhnhbkdhdocjaaMLiveP
import Derived.Test.YtfhnhbkdhdocjaaLiveIs
import Derived.Test.YtfhnhbkdhdocjaaMBlock
import Derived.Lib.SliceRun
namespace Go.Proofs.Ytfhnhbkdhdocjaa
open Go.RowKit
set_option linter.unusedSimpArgs false
set_option linter.unusedVariables false
set_option maxRecDepth 100000

theorem shr_zeroL {s n : Nat} (h : s < 2 ^ n) : (((s : Nat) : Int) / 2 ^ n != 0) = false := by
  have h2 : ((s : Nat) : Int) / 2 ^ n = ((s / 2 ^ n : Nat) : Int) := by simp
  rw [h2, Nat.div_eq_of_lt h]
  rfl

theorem shr_notL {s n : Nat} (h : ¬ s < 2 ^ n) : (((s : Nat) : Int) / 2 ^ n != 0) = true := by
  have h2 : ((s : Nat) : Int) / 2 ^ n = ((s / 2 ^ n : Nat) : Int) := by simp
  have h3 : 0 < s / 2 ^ n := Nat.div_pos (by omega) (Nat.two_pow_pos n)
  rw [h2]
  simp only [bne_iff_ne, ne_eq]
  omega

set_option maxHeartbeats 4000000 in
theorem liveCheck_any (n want : Nat) (A : Option Addr) (len cap : Nat) (p : List Bk) (w : World) (hx : RdP w w.heap.size A p) (hl : p.length = len) (hc : ckProg n p = 0) (hw : want < 2 ^ n) :
    Calls Try.prog 46 #[.int .i64 n, .slice A len cap, .int .u32 (want : Nat)] w fun e w' => ∃ A' c', e = .returned (.tuple #[.slice A' len c', .int .i64 0]) ∧ RdG w' w'.heap.size A' (nxP p) ∧ Below w.heap.size w w' := by
  have HW := Lib.hid (blockIs.way n A len cap p w hx hl hc)
  have hs := shr_zeroL hw
  have hn : n < 32 := by have := (ckProg_bd hc).2.1; omega
  clear hx hl hc
  go_enter Try.func46, Try.ntmps46
  go_wp2_with (go_at_call 79; (with_reducible refine HW.out.mono ?_); rintro e w1 ⟨A1, c1, rfl, hg1, hb1⟩)
  go_returns
  exact ⟨A1, c1, rfl, hg1, hb1⟩

set_option maxHeartbeats 4000000 in
theorem liveCheck_bad (vars : Int) (want : Nat) (A : Option Addr) (len cap : Nat) (p : List Bk) (w : World) (hx : RdP w w.heap.size A p) (hl : p.length = len) (hm : len ≤ maxLen) (hin : ∀ b ∈ p, InBk b) (hw : want < 4294967296) (hc : ckWant vars p want ≠ 0) :
    Calls Try.prog 46 #[.int .i64 vars, .slice A len cap, .int .u32 (want : Nat)] w fun e w' => ∃ A' c', e = .returned (.tuple #[.slice A' 0 c', .int .i64 (ckWant vars p want)]) ∧ Below w.heap.size w w' := by
  by_cases h0 : ckProg vars p = 0
  · obtain ⟨n, rfl, hn1, hn6⟩ := ckProg_nat h0
    have hlt : ¬ want < 2 ^ n := fun h => hc (by unfold ckWant; rw [if_pos h0, Int.toNat_natCast, if_pos h])
    have he : ckWant n p want = 4 := by unfold ckWant; rw [if_pos h0, Int.toNat_natCast, if_neg hlt]
    have HW := Lib.hid (blockIs.way n A len cap p w hx hl h0)
    have hs := shr_notL hlt
    have hn : n < 32 := by omega
    rw [he]
    clear hx hl h0 hin hc he hlt
    go_enter Try.func46, Try.ntmps46
    go_wp2_with (go_at_call 79; (with_reducible refine HW.out.mono ?_); rintro e w1 ⟨A1, c1, rfl, hg1, hb1⟩)
    go_returns
    exact ⟨_, _, rfl, hb1⟩
  · have he : ckWant vars p want = ckProg vars p := by unfold ckWant; rw [if_neg h0]
    have HW := Lib.hid (blockIs.wayBad vars A len cap p w hx hl hm hin h0)
    rw [he]
    obtain ⟨c, hce⟩ : ∃ c, ckProg vars p = c := ⟨_, rfl⟩
    rw [hce] at HW h0 ⊢
    have hne : (c != 0) = true := by simp [h0]
    clear hx hl hin hc he h0 hce
    go_enter Try.func46, Try.ntmps46
    go_wp2_with (go_at_call 79; (with_reducible refine HW.out.mono ?_); rintro e w1 ⟨A1, c1, rfl, hb1⟩)
    go_returns
    exact ⟨_, _, rfl, hb1⟩

set_option maxHeartbeats 4000000 in
theorem liveIn_any (n want : Nat) (A : Option Addr) (len cap : Nat) (p : List Bk) (w : World) (hx : RdP w w.heap.size A p) (hl : p.length = len) (hc : ckProg n p = 0) (hw : want < 2 ^ n) :
    Calls Try.prog 17 #[.int .i64 n, .slice A len cap, .int .u32 (want : Nat)] w fun e w' => ∃ A' c' L, e = .returned (.tuple #[.slice A' len c', .int .i64 0]) ∧ RdU w' w'.heap.size A' L ∧ LvW n p want L ∧ Below w.heap.size w w' := by
  have HCK := Lib.hid (liveCheck_any n want A len cap p w hx hl hc hw)
  have HLB := Lib.hid (fun (AN : Option Addr) (cN : Nat) (Z : World) (hZ : Below w.heap.size w Z) (hN : RdG Z Z.heap.size AN (nxP p)) => liveBefore_any n want A AN len cap cN p Z ((hx.below hZ (Nat.le_refl _)).more hZ.size) hN hl hc hw)
  clear hx hl hc
  go_enter Try.func17, Try.ntmps17
  go_wp2_with fail
  (with_reducible refine HCK.out.mono ?_)
  rintro e w1 ⟨A1, c1, rfl, hg1, hb1⟩
  go_wp2_with fail
  refine (HLB.out _ _ _ hb1 hg1).mono ?_
  rintro e w2 ⟨F, rfl, hown, hF, hb2⟩
  have hrd := (OwnU.rd hown).more hown.lt
  have HF := Lib.hid hF
  clear hF hown
  go_wp2
  go_ret2
  exact ⟨_, _, F, rfl, hrd, ⟨HF.out.len, HF.out.lt, HF.out.bit⟩, hb1.trans (hb2.mono hb1.size)⟩

set_option maxHeartbeats 4000000 in
theorem liveIn_bad (vars : Int) (want : Nat) (A : Option Addr) (len cap : Nat) (p : List Bk) (w : World) (hx : RdP w w.heap.size A p) (hl : p.length = len) (hm : len ≤ maxLen) (hin : ∀ b ∈ p, InBk b) (hw : want < 4294967296) (hc : ckWant vars p want ≠ 0) :
    Calls Try.prog 17 #[.int .i64 vars, .slice A len cap, .int .u32 (want : Nat)] w fun e w' => ∃ A' c', e = .returned (.tuple #[.slice A' 0 c', .int .i64 (ckWant vars p want)]) ∧ Below w.heap.size w w' := by
  have HCK := Lib.hid (liveCheck_bad vars want A len cap p w hx hl hm hin hw hc)
  obtain ⟨c, hce⟩ : ∃ c, ckWant vars p want = c := ⟨_, rfl⟩
  rw [hce] at HCK hc ⊢
  have hne : (c != 0) = true := by simp [hc]
  clear hx hl hin hc hce
  go_enter Try.func17, Try.ntmps17
  go_wp2_with (go_at_call 46; (with_reducible refine HCK.out.mono ?_); rintro e w1 ⟨A1, c1, rfl, hb1⟩)
  go_returns
  exact ⟨_, _, rfl, hb1⟩

theorem liveIs : LiveIs where
  in_ := fun n want A len cap p w hx hl hc hw => liveIn_any n want A len cap p w hx hl hc hw
  inBad := fun vars want A len cap p w hx hl hm hin hw hc => liveIn_bad vars want A len cap p w hx hl hm hin hw hc

set_option maxHeartbeats 4000000 in
theorem cloneB_any (A : Option Addr) (len cap : Nat) (qs : List (Bk × Option Addr × Nat)) (w : World) (hx : RdR cBk w w.heap.size A 4 qs) (hl : qs.length = len) (h1 : 1 ≤ len) (h8 : len ≤ 8) :
    Calls Try.prog 51 #[.slice A len cap] w fun e w' => ∃ g c', e = .returned (.slice (some ⟨g, 0, none⟩) len c') ∧ w'.ownsRow w.heap.size 79 4 (.slice (some ⟨g, 0, none⟩) len c') len (rv cBk qs) ∧ Below w.heap.size w w' := by
  obtain ⟨ad, rfl⟩ : ∃ ad, A = some ad := by
    obtain ⟨ad, e, _⟩ := hx (by rw [hl]; omega)
    exact ⟨ad, e⟩
  have HL1 : Hid ((rv cBk qs).length = len * 4) := Lib.hid (by rw [rv_len cBk_len, hl])
  have HNW : Hid (∀ Z : World, Below w.heap.size w Z → ∀ a, some ad = some a → ∀ j u, (rv cBk qs)[j]? = some u → Z.cell? (a.add j) = some u) := Lib.hid fun Z hZ => RdR.newsB cBk_len (RdR.below hx hZ (Nat.le_refl _))
  have ha_ : 0 + len ≤ maxLen := by unfold maxLen; omega
  have hb_ : (0 + len) * 48 ≤ 140737488355328 := by omega
  have qT : ∀ (w : World) (a : Option Addr) (n c n' c' : Nat), (binOp .eql 22 (.slice a n c) (.slice none n' c')).run Try.prog w = .ok (.bool a.isNone) w := fun w a n c n' c' => Lib.run_eql_slice_nil w _ _ a n c n' c' Try.underlying22
  clear hl hx
  go_enter Try.func51, Try.ntmps51
  go_wp2_with (at_builtin; refine wpList_app rfl (.tmp 5) (.tmp 6) 22 rfl w.heap.size 79 4 48 block_app [] rfl (own_empty_m _ _ _ _ _ (by simp) (by simp)) (rv cBk qs) rfl HL1.out (fun h => by cases h) (HNW.out _ (by go_grown)) (cBk_one _) ha_ hb_ (by simp) ?_; intro A1 c1 w1 hown1 hg1 hb1; rw [Nat.zero_add, List.nil_append] at hown1)
  obtain ⟨g, rfl, hg0, hg1'⟩ := own_form hown1 (by omega)
  have hbw : Below w.heap.size w w1 := ((by go_grown : Below w.heap.size w (w.alloc (.cells #[] 79)))).trans hb1
  clear hg1 hb1
  go_ret
  exact ⟨g, c1, rfl, by simpa using hown1, hbw⟩

end Go.Proofs.Ytfhnhbkdhdocjaa
