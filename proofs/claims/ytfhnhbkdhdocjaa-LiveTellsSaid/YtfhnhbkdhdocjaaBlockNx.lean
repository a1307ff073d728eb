/-
  codemasonref.Nexts (J2): where one may go from each block.
-/
import Derived.Test.YtfhnhbkdhdocjaaBlockRef
import Derived.Test.YtfhnhbkdhdocjaaMBase
namespace Go.Proofs.Ytfhnhbkdhdocjaa
open Go.RowKit
set_option linter.unusedSimpArgs false
set_option linter.unusedVariables false
set_option maxRecDepth 100000

theorem nxP_take {p : List Bk} {k : Nat} {b : Bk} (h : p[k]? = some b) : nxP (p.take (k + 1)) = nxP (p.take k) ++ [nxB b] := by
  unfold nxP
  rw [List.take_add_one, h, Option.toList_some, List.map_append]
  rfl

theorem own_lt {w : World} {base : Nat} {e : TypeId} {A : Option Addr} {n c : Nat} {xs : List Value} (h : w.ownsRow base e 1 (.slice A n c) n xs) : ∀ ad, A = some ad → ad.block < w.heap.size ∧ base ≤ ad.block := fun ad hA => by
  subst hA
  have := h.lt ad.block rfl
  exact ⟨this.2, this.1⟩

set_option maxHeartbeats 8000000 in
theorem refNextsN_any (A : Option Addr) (len cap : Nat) (p : List Bk) (w : World) (hx : RdP w w.heap.size A p) (hl : p.length = len) (h8 : len ≤ 8) :
    Calls Try.prog 50 #[.slice A len cap] w fun e w' => ∃ A' c', e = .returned (.slice A' len c') ∧ RdG w' w'.heap.size A' (nxP p) ∧ Below w.heap.size w w' ∧ (∀ ad, A' = some ad → w.heap.size ≤ ad.block ∧ ∀ r, r < (nxP p).length → ∀ Ar m cr, w'.cell? (ad.add r) = some (.slice Ar m cr) → ∀ a, Ar = some a → w.heap.size ≤ a.block) := by
  have HL := Lib.hid hl
  have HFULL : Hid (p.take len = p) := Lib.hid (by rw [← hl, List.take_length])
  have HTK := Lib.hid (fun (k : Nat) (b : Bk) (h : p[k]? = some b) => nxP_take h)
  clear hl
  go_enter Try.func50, Try.ntmps50
  go_wp2
  go_loopw [3, 9] (fun s z wr => ∃ (k : Nat) (A1 : Option Addr) (c1 : Nat) (cs : List Value), k ≤ len ∧ z = .int .i64 k ∧ s = .slice A1 k c1 ∧ GrG wr w.heap.size A1 k c1 (nxP (p.take k)) cs ∧ Below w.heap.size w wr) (fun _ z _ => len - (intOf z).toNat)
  case atStart => exact ⟨0, none, 0, [], Nat.zero_le _, rfl, rfl, GrG.start _ _, Below.refl _ _⟩
  case round =>
    obtain ⟨k, A1, c1, cs, hk, rfl, rfl, hgr, hb⟩ := hrel
    have HGR := Lib.hid hgr
    have hsz := hb.size
    by_cases hlt : k < len
    · obtain ⟨ad, ⟨code, te, th, el⟩, Ac, cc, rfl, hbl, hd, hrow, hc0, hc1, hc2, hc3⟩ := (hx.below hb (Nat.le_refl _)).at_ (k := k) (by rw [HL.out]; exact hlt)
      have HT := Lib.hid (HTK.out k _ hd)
      simp only [] at hc0 hc1 hc2 hc3 hrow
      obtain ⟨cl, hcl⟩ : ∃ cl, code.length = cl := ⟨_, rfl⟩
      rw [hcl] at hc0
      have hrow1 := hgr.own
      have g63 : k + 1 ≤ maxLen := by unfold maxLen; omega
      have gbig : (k + 1) * 24 ≤ 140737488355328 := by omega
      have h63 : 0 + 1 ≤ maxLen := by unfold maxLen; omega
      have hbig : (0 + 1) * 8 ≤ 140737488355328 := by omega
      have i63 : 1 + 1 ≤ maxLen := by unfold maxLen; omega
      have ibig : (1 + 1) * 8 ≤ 140737488355328 := by omega
      obtain ⟨B, hB⟩ : ∃ B : Value, B = .slice Ac cl cc := ⟨_, rfl⟩
      have hbB : Below wr.heap.size wr (wr.alloc (.cells #[.slice Ac cl cc, .int .i64 te, .int .i64 th, .int .i64 el] 79)) := by go_grown
      clear hd hcl hgr hrow B hB
      by_cases h1 : th = -1
      · subst h1
        by_cases h2 : te ≠ -1 ∧ (-1 : Int) ≠ el
        · have hn : nxB ⟨code, te, -1, el⟩ = [el] := by unfold nxB; rw [if_pos rfl, if_pos h2]; rfl
          have HNX := Lib.hid hn
          have e1 : (te != -1) = true := by simp [h2.1]
          have e2 : ((-1 : Int) != el) = true := by simp [h2.2]
          clear hn h2
          go_wp2_with (first
            | (at_builtin; refine wpList_app rfl (.tmp 31) (.tmp 34) 39 rfl (wr.heap.size + 1) 3 1 8 int_app [] rfl (World.ownsRow_nil _ _ _ _) [.int .i64 el] rfl rfl (fun h => by cases h) (cells_at (by simp) _ _) (one_cell _) h63 hbig (by simp) ?_; intro A5 c5 w5 hown5 hg5 hb5; have hbx : Below wr.heap.size wr w5 := (by go_grown : Below wr.heap.size wr ((wr.alloc (.cells #[.slice Ac cl cc, .int .i64 te, .int .i64 (-1), .int .i64 el] 79)).alloc (.cells #[.int .i64 el] 3))).trans (hb5.mono (by omega)))
            | (at_builtin; refine wpList_app' rfl (.tmp 36) (.tmp 38) 80 rfl w.heap.size 39 1 24 rows_app _ rfl (own_below hrow1 (hbx.alloc hbx.size _)) [.slice A5 1 c5] rfl rfl (fun h => by cases h) (cells_at rfl _ _) (row_cell _ _ _) g63 gbig (by simp; have := hbx.size; omega) ?_; intro A9 c9 w9 hown9 hg9 hb9 hp9))
          go_round
          case rel =>
            have hX := hbx.alloc hbx.size (.cells #[.slice A5 1 c5] 39)
            have hl5 := own_lt hown5
            refine ⟨k + 1, A9, c9, _, by omega, by go_num, rfl, by rw [HT.out, HNX.out]; exact HGR.out.app hX hsz rfl ((own_rdI hown5 rfl).below ((Below.refl _ _).alloc (Nat.le_refl _) _) (Nat.le_refl _) |>.more (by simp)) (fun a ha => ⟨by have := (hl5 a ha).1; simp; omega, by have := (hl5 a ha).2; omega⟩) hown9 hg9 hp9, hb.trans ((hX.mono hsz).trans hb9)⟩
          case measure => (simp [intOf]; omega)
        · have hn : nxB ⟨code, te, -1, el⟩ = [] := by unfold nxB; rw [if_pos rfl, if_neg h2]; rfl
          have HNX := Lib.hid hn
          have h3 : te = -1 ∨ (te ≠ -1 ∧ el = -1) := by omega
          clear hn h2
          rcases h3 with rfl | ⟨h3, rfl⟩
          · go_wp2_with (at_builtin; refine wpList_app' rfl (.tmp 36) (.tmp 38) 80 rfl w.heap.size 39 1 24 rows_app _ rfl (own_below hrow1 (by go_grown)) [.slice none 0 0] rfl rfl (fun h => by cases h) (cells_at (by simp) _ _) (row_cell _ _ _) g63 gbig (by simp; omega) ?_; intro A9 c9 w9 hown9 hg9 hb9 hp9)
            go_round
            case rel =>
              have hX : Below wr.heap.size wr ((wr.alloc (.cells #[.slice Ac cl cc, .int .i64 (-1), .int .i64 (-1), .int .i64 el] 79)).alloc (.cells #[.slice none 0 0] 39)) := by go_grown
              exact ⟨k + 1, A9, c9, _, by omega, by go_num, rfl, by rw [HT.out, HNX.out]; exact HGR.out.app hX hsz rfl (fun h => by simp at h) (fun a ha => by cases ha) hown9 hg9 hp9, hb.trans ((hX.mono hsz).trans hb9)⟩
            case measure => (simp [intOf]; omega)
          · have e1 : (te != -1) = true := by simp [h3]
            clear h3
            go_wp2_with (at_builtin; refine wpList_app' rfl (.tmp 36) (.tmp 38) 80 rfl w.heap.size 39 1 24 rows_app _ rfl (own_below hrow1 (by go_grown)) [.slice none 0 0] rfl rfl (fun h => by cases h) (cells_at (by simp) _ _) (row_cell _ _ _) g63 gbig (by simp; omega) ?_; intro A9 c9 w9 hown9 hg9 hb9 hp9)
            go_round
            case rel =>
              have hX : Below wr.heap.size wr ((wr.alloc (.cells #[.slice Ac cl cc, .int .i64 te, .int .i64 (-1), .int .i64 (-1)] 79)).alloc (.cells #[.slice none 0 0] 39)) := by go_grown
              exact ⟨k + 1, A9, c9, _, by omega, by go_num, rfl, by rw [HT.out, HNX.out]; exact HGR.out.app hX hsz rfl (fun h => by simp at h) (fun a ha => by cases ha) hown9 hg9 hp9, hb.trans ((hX.mono hsz).trans hb9)⟩
            case measure => (simp [intOf]; omega)
      · have e0 : (th != -1) = true := by simp [h1]
        by_cases h2 : te ≠ -1 ∧ th ≠ el
        · have hn : nxB ⟨code, te, th, el⟩ = [th, el] := by unfold nxB; rw [if_neg h1, if_pos h2]; rfl
          have HNX := Lib.hid hn
          have e1 : (te != -1) = true := by simp [h2.1]
          have e2 : (th != el) = true := by simp [h2.2]
          clear hn h2 h1
          · go_wp2_with (first
              | (at_builtin; refine wpList_app rfl (.tmp 16) (.tmp 19) 39 rfl (wr.heap.size + 1) 3 1 8 int_app [] rfl (World.ownsRow_nil _ _ _ _) [.int .i64 th] rfl rfl (fun h => by cases h) (cells_at (by simp) _ _) (one_cell _) h63 hbig (by simp) ?_; intro A5 c5 w5 hown5 hg5 hb5; have hbx : Below wr.heap.size wr w5 := (by go_grown : Below wr.heap.size wr ((wr.alloc (.cells #[.slice Ac cl cc, .int .i64 te, .int .i64 th, .int .i64 el] 79)).alloc (.cells #[.int .i64 th] 3))).trans (hb5.mono (by omega)); have hs5 : wr.heap.size + 1 + 1 ≤ w5.heap.size := (by have := hb5.size; simpa using this); have q1 : w5.cell? ⟨wr.heap.size, 1, none⟩ = some (.int .i64 te) := (hb5.cell (p := ⟨wr.heap.size, 1, none⟩) (by simp)).trans (by simp); have q2 : w5.cell? ⟨wr.heap.size, 2, none⟩ = some (.int .i64 th) := (hb5.cell (p := ⟨wr.heap.size, 2, none⟩) (by simp)).trans (by simp); have q3 : w5.cell? ⟨wr.heap.size, 3, none⟩ = some (.int .i64 el) := (hb5.cell (p := ⟨wr.heap.size, 3, none⟩) (by simp)).trans (by simp))
              | (at_builtin; refine wpList_app rfl (.tmp 31) (.tmp 34) 39 rfl (wr.heap.size + 1) 3 1 8 int_app _ rfl (own_below hown5 (by go_grown)) [.int .i64 el] rfl rfl (fun h => by cases h) (cells_at rfl _ _) (one_cell _) i63 ibig (by simp; omega) ?_; intro A6 c6 w6 hown6 hg6 hb6; have hbx6 : Below wr.heap.size wr w6 := hbx.trans (((by go_grown : Below w5.heap.size w5 (w5.alloc (.cells #[.int .i64 el] 3))).mono hbx.size).trans (hb6.mono (by omega))); have hs6 := hbx6.size)
              | (at_builtin; refine wpList_app' rfl (.tmp 36) (.tmp 38) 80 rfl w.heap.size 39 1 24 rows_app _ rfl (own_below hrow1 (hbx6.alloc hbx6.size _)) [.slice A6 2 c6] rfl rfl (fun h => by cases h) (cells_at rfl _ _) (row_cell _ _ _) g63 gbig (by simp; omega) ?_; intro A9 c9 w9 hown9 hg9 hb9 hp9))
            go_round
            case rel =>
              have hX := hbx6.alloc hbx6.size (.cells #[.slice A6 2 c6] 39)
              have hl5 := own_lt hown6
              refine ⟨k + 1, A9, c9, _, by omega, by go_num, rfl, by rw [HT.out, HNX.out]; exact HGR.out.app hX hsz rfl ((own_rdI hown6 rfl).below ((Below.refl _ _).alloc (Nat.le_refl _) _) (Nat.le_refl _) |>.more (by simp)) (fun a ha => ⟨by have := (hl5 a ha).1; simp; omega, by have := (hl5 a ha).2; omega⟩) hown9 hg9 hp9, hb.trans ((hX.mono hsz).trans hb9)⟩
            case measure => (simp [intOf]; omega)
        · have hn : nxB ⟨code, te, th, el⟩ = [th] := by unfold nxB; rw [if_neg h1, if_neg h2]; rfl
          have HNX := Lib.hid hn
          have h3 : te = -1 ∨ (te ≠ -1 ∧ el = th) := by omega
          clear hn h2 h1
          rcases h3 with rfl | ⟨h3, rfl⟩
          · go_wp2_with (first
              | (at_builtin; refine wpList_app rfl (.tmp 16) (.tmp 19) 39 rfl (wr.heap.size + 1) 3 1 8 int_app [] rfl (World.ownsRow_nil _ _ _ _) [.int .i64 th] rfl rfl (fun h => by cases h) (cells_at (by simp) _ _) (one_cell _) h63 hbig (by simp) ?_; intro A5 c5 w5 hown5 hg5 hb5; have hbx : Below wr.heap.size wr w5 := (by go_grown : Below wr.heap.size wr ((wr.alloc (.cells #[.slice Ac cl cc, .int .i64 (-1), .int .i64 th, .int .i64 el] 79)).alloc (.cells #[.int .i64 th] 3))).trans (hb5.mono (by omega)); have hs5 : wr.heap.size + 1 + 1 ≤ w5.heap.size := (by have := hb5.size; simpa using this); have q1 : w5.cell? ⟨wr.heap.size, 1, none⟩ = some (.int .i64 (-1)) := (hb5.cell (p := ⟨wr.heap.size, 1, none⟩) (by simp)).trans (by simp); have q2 : w5.cell? ⟨wr.heap.size, 2, none⟩ = some (.int .i64 th) := (hb5.cell (p := ⟨wr.heap.size, 2, none⟩) (by simp)).trans (by simp); have q3 : w5.cell? ⟨wr.heap.size, 3, none⟩ = some (.int .i64 el) := (hb5.cell (p := ⟨wr.heap.size, 3, none⟩) (by simp)).trans (by simp))
              | (at_builtin; refine wpList_app' rfl (.tmp 36) (.tmp 38) 80 rfl w.heap.size 39 1 24 rows_app _ rfl (own_below hrow1 (hbx.alloc hbx.size _)) [.slice A5 1 c5] rfl rfl (fun h => by cases h) (cells_at rfl _ _) (row_cell _ _ _) g63 gbig (by simp; omega) ?_; intro A9 c9 w9 hown9 hg9 hb9 hp9))
            go_round
            case rel =>
              have hX := hbx.alloc hbx.size (.cells #[.slice A5 1 c5] 39)
              have hl5 := own_lt hown5
              refine ⟨k + 1, A9, c9, _, by omega, by go_num, rfl, by rw [HT.out, HNX.out]; exact HGR.out.app hX hsz rfl ((own_rdI hown5 rfl).below ((Below.refl _ _).alloc (Nat.le_refl _) _) (Nat.le_refl _) |>.more (by simp)) (fun a ha => ⟨by have := (hl5 a ha).1; simp; omega, by have := (hl5 a ha).2; omega⟩) hown9 hg9 hp9, hb.trans ((hX.mono hsz).trans hb9)⟩
            case measure => (simp [intOf]; omega)
          · have e1 : (te != -1) = true := by simp [h3]
            clear h3
            go_wp2_with (first
              | (at_builtin; refine wpList_app rfl (.tmp 16) (.tmp 19) 39 rfl (wr.heap.size + 1) 3 1 8 int_app [] rfl (World.ownsRow_nil _ _ _ _) [.int .i64 el] rfl rfl (fun h => by cases h) (cells_at (by simp) _ _) (one_cell _) h63 hbig (by simp) ?_; intro A5 c5 w5 hown5 hg5 hb5; have hbx : Below wr.heap.size wr w5 := (by go_grown : Below wr.heap.size wr ((wr.alloc (.cells #[.slice Ac cl cc, .int .i64 te, .int .i64 el, .int .i64 el] 79)).alloc (.cells #[.int .i64 el] 3))).trans (hb5.mono (by omega)); have hs5 : wr.heap.size + 1 + 1 ≤ w5.heap.size := (by have := hb5.size; simpa using this); have q1 : w5.cell? ⟨wr.heap.size, 1, none⟩ = some (.int .i64 te) := (hb5.cell (p := ⟨wr.heap.size, 1, none⟩) (by simp)).trans (by simp); have q2 : w5.cell? ⟨wr.heap.size, 2, none⟩ = some (.int .i64 el) := (hb5.cell (p := ⟨wr.heap.size, 2, none⟩) (by simp)).trans (by simp); have q3 : w5.cell? ⟨wr.heap.size, 3, none⟩ = some (.int .i64 el) := (hb5.cell (p := ⟨wr.heap.size, 3, none⟩) (by simp)).trans (by simp))
              | (at_builtin; refine wpList_app' rfl (.tmp 36) (.tmp 38) 80 rfl w.heap.size 39 1 24 rows_app _ rfl (own_below hrow1 (hbx.alloc hbx.size _)) [.slice A5 1 c5] rfl rfl (fun h => by cases h) (cells_at rfl _ _) (row_cell _ _ _) g63 gbig (by simp; omega) ?_; intro A9 c9 w9 hown9 hg9 hb9 hp9))
            go_round
            case rel =>
              have hX := hbx.alloc hbx.size (.cells #[.slice A5 1 c5] 39)
              have hl5 := own_lt hown5
              refine ⟨k + 1, A9, c9, _, by omega, by go_num, rfl, by rw [HT.out, HNX.out]; exact HGR.out.app hX hsz rfl ((own_rdI hown5 rfl).below ((Below.refl _ _).alloc (Nat.le_refl _) _) (Nat.le_refl _) |>.more (by simp)) (fun a ha => ⟨by have := (hl5 a ha).1; simp; omega, by have := (hl5 a ha).2; omega⟩) hown9 hg9 hp9, hb.trans ((hX.mono hsz).trans hb9)⟩
            case measure => (simp [intOf]; omega)
    · have hkl : len = k := by omega
      subst hkl
      have HRD := Lib.hid hgr.rd
      have HNW := Lib.hid hgr.new
      rw [HFULL.out] at HRD HNW
      clear hgr
      go_wp2
      go_ret
      exact ⟨A1, c1, rfl, HRD.out, hb, HNW.out⟩

theorem refNexts_any (A : Option Addr) (len cap : Nat) (p : List Bk) (w : World) (hx : RdP w w.heap.size A p) (hl : p.length = len) (h8 : len ≤ 8) :
    Calls Try.prog 50 #[.slice A len cap] w fun e w' => ∃ A' c', e = .returned (.slice A' len c') ∧ RdG w' w'.heap.size A' (nxP p) ∧ Below w.heap.size w w' := by
  refine (refNextsN_any A len cap p w hx hl h8).mono ?_
  rintro e w' ⟨A', c', h1, h2, h3, _⟩
  exact ⟨A', c', h1, h2, h3⟩

end Go.Proofs.Ytfhnhbkdhdocjaa
