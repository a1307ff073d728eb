/-
  color.Peel, color.Perfect (O2).
-/
import Derived.Test.YthmcigdoaededaaDoorColorR
import Derived.Deep.QuietTactic
import Derived.Laws.EntriesVeiled
namespace Go.Proofs.YthmcigdoaededaaDoor
open Go.RowKit
set_option linter.unusedSimpArgs false
set_option linter.unusedVariables false
set_option maxRecDepth 100000

set_option maxHeartbeats 1000000 in
theorem perfectF_any (g n cap : Nat) (ad : Nat → Nat → Bool) (ws : List Nat) (hg : Gr ad) (hws : AdW n ad ws) (hn : n ≤ 8) (A : Option Addr) (w : World) (hx : RdU w w.heap.size A ws) (hO : Own w g 39 [.slice A n cap]) : RightPerfect g (clqN n ad) n w := by
  intro W w1 hW hb
  have hO1 := hO.below hb hO.lt
  have hc := hO1.cell (j := 0) rfl
  have hlt := hO1.lt
  have HC := Lib.hid (isClique_any n ad ws hg hws hn A cap W w.heap.size w1 (hx.below hb (Nat.le_refl _)) hW)
  clear hO hO1
  go_enter Tryd.func26, Tryd.ntmps26
  go_wp2_with (go_at_call 27; (with_reducible refine HC.out.mono ?_); rintro e w2 ⟨rfl, rfl⟩)
  go_ret
  exact ⟨rfl, Below.refl _ _⟩


set_option maxHeartbeats 4000000 in
theorem perfect_any (n : Nat) (A : Option Addr) (len cap : Nat) (ps : List (Nat × Nat)) (w : World) (hx : RdM w w.heap.size A (mvI ps)) (hl : ps.length = len) (hk : ClOk n ps) :
    Calls Tryd.prog 14 #[.int .i64 n, .slice A len cap] w fun e w' => (∀ l, pfL n (clP ps) n [] = some l → Tells w' n l e ∧ Below w.heap.size w w') ∧ (pfL n (clP ps) n [] = none → e = .returned (.tuple #[.slice none 0 0, .int .i64 5]) ∧ Below w.heap.size w w') := by
  have HF := Lib.hid (conflicts_ok n A len cap ps w hx hl hk)
  have HG := Lib.hid hk.gr
  have hn := hk.small
  clear hk hl hx
  go_enter Tryd.func14, Tryd.ntmps14
  go_wp2_with fail
  refine HF.out.mono ?_
  rintro e w1 ⟨A2, c2, ws, rfl, hrd, hws, hb1⟩
  have hbx1 := Own.new w1 39 [.slice A2 n c2]
  have hc1 := hbx1.cell (j := 0) rfl
  have hlt1 := hbx1.lt
  have hs1 := hb1.size
  have hrd2 := (hrd.below (by go_grown : Below w1.heap.size w1 (w1.alloc (.cells #[.slice A2 n c2] 39))) (Nat.le_refl _)).more (by simp : w1.heap.size ≤ (w1.alloc (.cells #[.slice A2 n c2] 39)).heap.size)
  have HR := Lib.hid (removePerfect_any w1.heap.size (clqN n (clP ps)) n (clP ps) ws hws hn A2 c2 _ (perfectF_any w1.heap.size n c2 (clP ps) ws HG.out hws hn A2 _ hrd2 hbx1) hrd2)
  clear hrd hws hrd2
  go_wp2_with fail
  refine HR.out.mono ?_
  rintro e w2 ⟨⟨A3, c3, R, rfl, hR, hrd3⟩, hb2⟩
  have hbw : Below w.heap.size w w2 := hb1.trans ((by go_grown : Below w.heap.size w1 _).trans (hb2.mono (by simp; omega)))
  have HP := Lib.hid hR.perfect
  have HALL := Lib.hid hR.gone.all
  clear hR
  by_cases h0 : lfW n R = 0
  · have HRN := Lib.hid (HALL.out.1 h0)
    rw [if_pos h0] at HP
    rw [h0]
    clear h0
    go_wp2
    go_ret2
    rw [HP.out]
    exact ⟨fun l hl => by
      injection hl with hl
      subst hl
      exact ⟨⟨A3, c3, by rw [HRN.out]; rfl, hrd3⟩, hbw⟩, fun h => absurd h (by simp)⟩
  · have hne : ((lfW n R : Nat) : Int) ≠ 0 := by omega
    have hbe : (((lfW n R : Nat) : Int) != 0) = true := by simpa using h0
    rw [if_neg h0] at HP
    clear h0
    go_wp2
    go_ret2
    rw [HP.out]
    exact ⟨fun l hl => absurd hl (by simp), fun _ => ⟨rfl, hbw⟩⟩

set_option maxHeartbeats 1000000 in
theorem perfect_bad (n : Int) (A : Option Addr) (len cap : Nat) (l : List (Int × Int)) (w : World) (hx : RdM w w.heap.size A l) (hl : l.length = len) (hm : len ≤ maxLen) (hc : ckCl n l ≠ 0) :
    Calls Tryd.prog 14 #[.int .i64 n, .slice A len cap] w fun e w' => e = .returned (.tuple #[.slice none 0 0, .int .i64 (ckCl n l)]) ∧ Below w.heap.size w w' := by
  have HF := Lib.hid (conflicts_bad n A len cap l w hx hl hm hc)
  obtain ⟨x, hx0⟩ : ∃ x, ckCl n l = x := ⟨_, rfl⟩
  rw [hx0] at HF hc ⊢
  have hb0 : (x != 0) = true := by simpa using hc
  clear hx hl hm hx0 hc
  go_enter Tryd.func14, Tryd.ntmps14
  go_wp2_with fail
  refine HF.out.mono ?_
  rintro e w1 ⟨rfl, hb1⟩
  have hs1 := hb1.size
  go_wp2
  go_ret2
  exact ⟨rfl, hb1.trans (by go_grown)⟩

theorem perfectIs : PerfectIs := ⟨fun n A len cap ps l w hx hl hk hp => (perfect_any n A len cap ps w hx hl hk).mono fun _ _ h => h.1 l hp, fun n A len cap ps w hx hl hk hp => (perfect_any n A len cap ps w hx hl hk).mono fun _ _ h => h.2 hp, perfect_bad⟩

end Go.Proofs.YthmcigdoaededaaDoor
