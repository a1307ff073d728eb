/-
  What the laws of package plan lean on: codemasonlaw.handsCode, codemasonkeep.tasks (Q1).
-/
import Derived.Test.YthmcigdoaededaaLawColor
import Derived.Test.YthmcigdoaededaaPlanIs
namespace Go.Proofs.Ythmcigdoaededaa
open Go.RowKit Go.ChangeShapes Go.WideShapes Go.ChangeAt Go.Deep
set_option linter.unusedSimpArgs false
set_option linter.unusedVariables false
set_option maxRecDepth 100000

/-- the code of tasks and hands -/
inductive HdCode (n : Int) (l : List (Int × Int)) (m : Int) : Int → Prop
  | tasks (z : Int) : TkCode n l z → z ≠ 0 → HdCode n l m z
  | range : TkCode n l 0 → (m < 1 ∨ 8 < m) → HdCode n l m 4
  | ok : TkCode n l 0 → 1 ≤ m → m ≤ 8 → HdCode n l m 0

theorem HdCode.same {n m z z' : Int} {l : List (Int × Int)} (h : HdCode n l m z) (h' : HdCode n l m z') : z = z' := by
  cases h with
  | tasks _ h1 h2 =>
    cases h' with
    | tasks _ g1 _ => exact h1.same g1
    | range g1 => exact absurd (h1.same g1) h2
    | ok g1 => exact absurd (h1.same g1) h2
  | range h1 h2 =>
    cases h' with
    | tasks _ g1 g2 => exact absurd (g1.same h1) g2
    | range => rfl
    | ok _ g2 g3 => omega
  | ok h1 h2 h3 =>
    cases h' with
    | tasks _ g1 g2 => exact absurd (g1.same h1) g2
    | range _ g2 => omega
    | ok => rfl

theorem hd_ex (n : Int) (l : List (Int × Int)) (m : Int) : ∃ z, HdCode n l m z := by
  obtain ⟨z, hz⟩ := tk_ex n l
  by_cases h0 : z = 0
  · subst h0
    by_cases h1 : m < 1 ∨ 8 < m
    · exact ⟨4, .range hz h1⟩
    · exact ⟨0, .ok hz (by omega) (by omega)⟩
  · exact ⟨z, .tasks z hz h0⟩

set_option maxHeartbeats 2000000 in
theorem handsCode_any (n m : Int) (A : Option Addr) (len cap : Nat) (l : List (Int × Int)) (z : Int) (w : World) (hx : RdM w w.heap.size A l) (hl : l.length = len) (hm : len ≤ maxLen) (hz : HdCode n l m z) :
    Calls Try.prog 15 #[.int .i64 n, .slice A len cap, .int .i64 m] w fun e w' => e = .returned (.int .i64 z) ∧ Below w.heap.size w w' := by
  have HT := Lib.hid (tasksCheck_any n A len cap l w hx hl hm)
  cases hz with
  | tasks _ h1 h2 =>
    have HZ := Lib.hid h1
    have hne : (z == 0) = false := by simpa using h2
    clear hx hl hm h1 h2
    go_enter Try.func15, Try.ntmps15
    go_wp2_with fail
    refine HT.out.mono ?_
    rintro e w2 ⟨⟨z2, hz2, rfl⟩, hb2⟩
    obtain rfl := HZ.out.same hz2
    clear hz2
    go_wp2
    go_ret
    exact ⟨rfl, hb2⟩
  | range h1 h2 =>
    have HZ := Lib.hid h1
    clear hx hl hm h1
    by_cases h3 : m < 1
    · clear h2
      go_enter Try.func15, Try.ntmps15
      go_wp2_with fail
      refine HT.out.mono ?_
      rintro e w2 ⟨⟨z2, hz2, rfl⟩, hb2⟩
      obtain rfl := HZ.out.same hz2
      clear hz2
      go_wp2
      go_ret
      exact ⟨rfl, hb2⟩
    · have h4 : 8 < m := by omega
      clear h2
      go_enter Try.func15, Try.ntmps15
      go_wp2_with fail
      refine HT.out.mono ?_
      rintro e w2 ⟨⟨z2, hz2, rfl⟩, hb2⟩
      obtain rfl := HZ.out.same hz2
      clear hz2
      go_wp2
      go_ret
      exact ⟨rfl, hb2⟩
  | ok h1 h2 h3 =>
    have HZ := Lib.hid h1
    clear hx hl hm h1
    go_enter Try.func15, Try.ntmps15
    go_wp2_with fail
    refine HT.out.mono ?_
    rintro e w2 ⟨⟨z2, hz2, rfl⟩, hb2⟩
    obtain rfl := HZ.out.same hz2
    clear hz2
    go_wp2
    go_ret
    exact ⟨rfl, hb2⟩

end Go.Proofs.Ythmcigdoaededaa
