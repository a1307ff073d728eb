/-
  What the laws of package block share: equal lists of lists; codemasonlaw.progCode, codemasonkeep.runs.
-/
import Derived.Test.YtdckagledddkdaaBlockIs
import Derived.Test.YtdckagledddkdaaIntsSame
import Derived.Test.YtdckagledddkdaaTermed
import Derived.Deep.RegionWith
namespace Go.Proofs.Ytdckagledddkdaa
open Go.RowKit Go.ChangeShapes Go.WideShapes Go.ChangeAt Go.Deep
set_option linter.unusedSimpArgs false
set_option linter.unusedVariables false
set_option maxRecDepth 100000

set_option maxHeartbeats 1000000 in
theorem lists_same (A B : Option Addr) (n ca cb : Nat) (nx : List (List Int)) (w : World) (hx : RdG w w.heap.size A nx) (hy : RdG w w.heap.size B nx) (hl : nx.length = n) (hm : n ≤ maxLen) (hrows : ∀ row ∈ nx, row.length ≤ maxLen) :
    Calls Try.prog 10 #[.slice A n ca, .slice B n cb] w fun e w' => e = .returned (.bool true) ∧ Below w.heap.size w w' := by
  unfold maxLen at hm
  have HL := Lib.hid hl
  have HRW := Lib.hid hrows
  clear hl hrows
  go_enter Try.func10, Try.ntmps10
  go_wp2
  go_loopw [5] (fun i wr => ∃ k : Nat, k ≤ n ∧ i = .int .i64 k ∧ Below w.heap.size w wr) (fun i _ => n - (intOf i).toNat)
  case atStart => exact ⟨0, Nat.zero_le _, rfl, Below.refl _ _⟩
  case round =>
    obtain ⟨k, hk, rfl, hb⟩ := hrel
    have hsz := hb.size
    by_cases hlt : k < n
    · obtain ⟨ad, row, Ar, cr, rfl, hbl, hd, hcell, hrow⟩ := (hx.below hb (Nat.le_refl _)).at_ (k := k) (by rw [HL.out]; exact hlt)
      obtain ⟨ad2, row2, Ar2, cr2, rfl, hbl2, hd2, hcell2, hrow2⟩ := (hy.below hb (Nat.le_refl _)).at_ (k := k) (by rw [HL.out]; exact hlt)
      rw [hd] at hd2
      injection hd2 with hd2
      subst hd2
      have hrm := HRW.out row (List.mem_of_getElem? hd)
      obtain ⟨rl, hrl⟩ : ∃ rl, row.length = rl := ⟨_, rfl⟩
      rw [hrl] at hcell hcell2 hrm
      have HRL := Lib.hid hrl
      clear hd hrl
      have HI := Lib.hid (ints_same Ar Ar2 rl cr cr2 row wr.drew (hrow.more hsz) (hrow2.more hsz) HRL.out hrm)
      clear hrow hrow2
      go_wp2
      go_region_with (go_at_call 20; (with_reducible refine HI.out.mono ?_); rintro e w5 ⟨rfl, hb5⟩)
      all_goals
        go_wp2
        go_round
        case rel => exact ⟨k + 1, by omega, by go_num, hb.drew.trans (hb5.mono hsz)⟩
        case measure => (simp [intOf]; omega)
    · go_wp2
      go_ret
      exact ⟨rfl, hb⟩

theorem nxP_len (p : List Bk) : (nxP p).length = p.length := by simp [nxP]

theorem nxP_rows (p : List Bk) : ∀ row ∈ nxP p, row.length ≤ maxLen := fun row hr => by
  obtain ⟨b, _, rfl⟩ := List.mem_map.1 hr
  have := nxB_len b
  unfold maxLen
  omega

end Go.Proofs.Ytdckagledddkdaa
