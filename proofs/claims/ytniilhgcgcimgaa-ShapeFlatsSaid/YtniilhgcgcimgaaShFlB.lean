/-
  (*shape.flattener).newBlock, branch (U2).
-/
import Derived.Test.YtniilhgcgcimgaaShFl
import Derived.Test.YtniilhgcgcimgaaRegionStepsB
import Derived.Test.YtniilhgcgcimgaaShRun
import Derived.BigQuiet
import Derived.IntWalk
namespace Go.Proofs.Ytniilhgcgcimgaa
open Go.RowKit
set_option linter.unusedSimpArgs false
set_option linter.unusedVariables false
set_option maxRecDepth 100000

theorem block_appF : AppTy Try.prog 34 39 4 48 := appTy_of (z := .agg #[.slice none 0 0, .int .i64 0, .int .i64 0, .int .i64 0]) Try.underlying34 (by kernel_rfl) rfl (by omega)

set_option maxHeartbeats 4000000 in
theorem newBlock_any (B g : Nat) (F : Nat → Prop) (p : List Bk) (w : World) (h : FlQ B g F p w) (hm : p.length ≤ 65536) :
    Calls Try.prog 28 #[.pointer (some ⟨g, 0, none⟩)] w fun e w' => e = .returned (.int .i64 (p.length : Nat)) ∧ ∃ F', FlQ B g F' (p ++ [bkO]) w' ∧ Fr F F' w w' := by
  obtain ⟨A, c, qs, rfl, h⟩ := h
  have HMAP : Hid (∀ x : Bk × Option Addr × Nat, (qs ++ [x]).map (·.1) = qs.map (·.1) ++ [x.1]) := Lib.hid fun x => by simp
  rw [List.length_map] at hm ⊢
  have HADD : Hid (∀ (X w8 : World) (A8 : Option Addr) (c8 : Nat), Below w.heap.size w X → w8.ownsRow B 39 4 (.slice A8 (qs.length + 1) c8) (qs.length + 1) (rv cBk qs ++ cBk (bkO, none, 0)) → X.grownBy w8 (Value.slice A qs.length c).ownBlock → ((Value.slice A8 (qs.length + 1) c8).ownBlock = (Value.slice A qs.length c).ownBlock ∨ (Value.slice A8 (qs.length + 1) c8).ownBlock = some X.heap.size) →
    Own w8 g 60 [.slice A qs.length c] ∧ FlP B g (Fnew F w.heap.size w8.heap.size) A8 c8 (qs ++ [(bkO, none, 0)]) (w8.setCell ⟨g, 0, none⟩ (.slice A8 (qs.length + 1) c8)) ∧ Fr F (Fnew F w.heap.size w8.heap.size) w (w8.setCell ⟨g, 0, none⟩ (.slice A8 (qs.length + 1) c8))) := Lib.hid fun X w8 A8 c8 hX hown hg hbl => by
      have h1 := h.box.below hX h.box.lt
      exact ⟨(hg.block g h1.lt (fun e => h.na e.symm)).trans h1, h.add hX hown hg hbl⟩
  have HAR := Lib.hid h.arr
  have HBG := Lib.hid (Nat.le_trans h.bg (Nat.le_of_lt h.lt))
  have c0 := h.box.cell (j := 0) rfl
  have hgl := h.lt
  have HB : Hid (Below w.heap.size w (w.alloc (.cells #[.slice none 0 0, .int .i64 (-1), .int .i64 (-1), .int .i64 0] 39))) := Lib.hid (by go_grown)
  clear h
  obtain ⟨n, hn⟩ : ∃ n, qs.length = n := ⟨_, rfl⟩
  have HLEN : Hid ((qs ++ [((bkO, none, 0) : Bk × Option Addr × Nat)]).length = n + 1) := Lib.hid (by simp [hn])
  rw [hn] at hm HADD HAR c0 ⊢
  have hbig : (n + 1) * 48 ≤ 140737488355328 := by omega
  have hmx : n + 1 ≤ maxLen := by unfold maxLen; omega
  clear hn
  go_enter Try.func28, Try.ntmps28
  go_wp2_with (at_builtin; refine wpList_app' rfl (.tmp 7) (.tmp 9) 34 rfl B 39 4 48 block_appF _ rfl (own_below HAR.out HB.out) [.slice none 0 0, .int .i64 (-1), .int .i64 (-1), .int .i64 0] rfl rfl (fun h => by cases h) (cells_at (by simp) _ _) (fun u hu => by simp only [List.mem_cons, List.not_mem_nil, or_false] at hu; rcases hu with rfl | rfl | rfl | rfl <;> rfl) hmx hbig (Nat.le_trans HBG.out HB.out.size) ?_; intro A8 c8 w8 hown8 hg8 hb8 hp8; obtain ⟨hO8, hF8, hR8⟩ := HADD.out _ w8 A8 c8 HB.out hown8 hg8 hp8; have HF8 := Lib.hid hF8; have HR8 := Lib.hid hR8; have z0 := hO8.cell (j := 0) rfl; have f0 := hO8.frozen 0; have hl8 := hO8.lt; have HY := Lib.hid hO8; clear hF8 hR8 hO8 hown8 hg8 hb8 hp8)
  go_returns
  refine ⟨by go_num, _, ⟨A8, c8, _, HMAP.out _, HF8.out⟩, HR8.out⟩

/-- a block's end with some of its three numbers stored -/
def brL (b : Bk) (ts th el : Int) : Nat → Bk
  | 0 => b
  | 1 => ⟨b.code, ts, b.th, b.el⟩
  | 2 => ⟨b.code, ts, th, b.el⟩
  | _ => ⟨b.code, ts, th, el⟩

def BrS (B g ga c : Nat) (F : Nat → Prop) (qs : List (Bk × Option Addr × Nat)) (i : Nat) (q : Bk × Option Addr × Nat) (ts th el : Int) (Y : World) (x : Nat × Unit) (w : World) : Prop :=
  FlP B g F (some ⟨ga, 0, none⟩) c (qs.set i (brL q.1 ts th el x.1, q.2)) w ∧ Fr F F Y w

theorem set_twice {α : Type} (l : List α) (i : Nat) (x y : α) : (l.set i x).set i y = l.set i y := by simp

theorem set_at_same {α : Type} {l : List α} {i : Nat} {x : α} (h : l[i]? = some x) : l.set i x = l := by
  obtain ⟨hl, e⟩ := List.getElem?_eq_some_iff.1 h
  subst e
  exact List.set_getElem_self hl

section
variable {B g ga c i n : Nat} {F : Nat → Prop} {qs : List (Bk × Option Addr × Nat)} {q : Bk × Option Addr × Nat} {ts th el : Int} {Y w : World}

theorem BrS.nought (h : FlP B g F (some ⟨ga, 0, none⟩) c qs Y) (hq : qs[i]? = some q) (y : Unit) : BrS B g ga c F qs i q ts th el Y (0, y) Y :=
  ⟨by show FlP B g F _ c (qs.set i q) Y; rw [set_at_same hq]; exact h, Fr.refl _ _⟩

theorem BrS.drew {x : Nat × Unit} {k : Nat} (h : BrS B g ga c F qs i q ts th el Y x w) : BrS B g ga c F qs i q ts th el Y x (w.drewN k) :=
  ⟨h.1.up (below_drewR (Below.refl _ _) k), h.2.via (below_drewR (Below.refl _ _) k)⟩

theorem BrS.box {x : Nat × Unit} (hn : qs.length = n) (h : BrS B g ga c F qs i q ts th el Y x w) : Own w g 60 [.slice (some ⟨ga, 0, none⟩) n c] := by
  have := h.1.box
  rwa [List.length_set, hn] at this

theorem BrS.cell {x : Nat × Unit} (hq : qs[i]? = some q) (h : BrS B g ga c F qs i q ts th el Y x w) {j : Nat} (hj : j < 4) : (∃ v, w.cell? ⟨ga, i * 4 + j, none⟩ = some v) ∧ w.frozen? ⟨ga, i * 4 + j, none⟩ = false := by
  have hl := (List.getElem?_eq_some_iff.1 hq).1
  exact ⟨⟨_, (h.1.arr.cellAt (i * 4 + j) (by rw [List.length_set]; omega)).trans ((rv_at cBk_len (List.getElem?_set_self hl) hj).trans (List.getElem?_eq_getElem (by rw [cBk_len]; exact hj)))⟩, h.1.arr.frozenAt _⟩

theorem BrS.st (hq : qs[i]? = some q) {k : Nat} {y : Unit} {v : Int} (hk : k < 3) (hv : v = if k = 0 then ts else if k = 1 then th else el) (h : BrS B g ga c F qs i q ts th el Y (k, y) w) : BrS B g ga c F qs i q ts th el Y (k + 1, y) (w.setCell ⟨ga, i * 4 + (k + 1), none⟩ (.int .i64 v)) := by
  have hl := (List.getElem?_eq_some_iff.1 hq).1
  subst hv
  match k, hk with
  | 0, _ =>
    have hh := h.1.put (i := i) (j := 1) (q := (brL q.1 ts th el 0, q.2)) (q' := (brL q.1 ts th el 1, q.2)) (v := .int .i64 ts) (List.getElem?_set_self hl) (by omega) rfl rfl rfl
    rw [set_twice] at hh
    exact ⟨hh.1, h.2.trans hh.2⟩
  | 1, _ =>
    have hh := h.1.put (i := i) (j := 2) (q := (brL q.1 ts th el 1, q.2)) (q' := (brL q.1 ts th el 2, q.2)) (v := .int .i64 th) (List.getElem?_set_self hl) (by omega) rfl rfl rfl
    rw [set_twice] at hh
    exact ⟨hh.1, h.2.trans hh.2⟩
  | 2, _ =>
    have hh := h.1.put (i := i) (j := 3) (q := (brL q.1 ts th el 2, q.2)) (q' := (brL q.1 ts th el 3, q.2)) (v := .int .i64 el) (List.getElem?_set_self hl) (by omega) rfl rfl rfl
    rw [set_twice] at hh
    exact ⟨hh.1, h.2.trans hh.2⟩

theorem BrS.all {x : Nat × Unit} (hx : 3 ≤ x.1) (hq : qs[i]? = some q) (h : BrS B g ga c F qs i q ts th el Y x w) : FlQ B g F (brB (qs.map (·.1)) i ts th el) w := by
  refine ⟨_, _, _, ?_, h.1⟩
  have e : brL q.1 ts th el x.1 = ⟨q.1.code, ts, th, el⟩ := by
    match x.1, hx with
    | k + 3, _ => rfl
  have e2 : (qs.map (·.1)).getD i bk0 = q.1 := by rw [List.getD_eq_getElem?_getD, List.getElem?_map, hq]; rfl
  unfold brB
  rw [e2, List.map_set, e]

end

set_option maxHeartbeats 8000000 in
theorem branch_any (B g i : Nat) (F : Nat → Prop) (p : List Bk) (ts th el : Int) (w : World) (h : FlQ B g F p w) (hi : i < p.length) (hm : p.length ≤ 65536) :
    Calls Try.prog 51 #[.pointer (some ⟨g, 0, none⟩), .int .i64 (i : Nat), .int .i64 ts, .int .i64 th, .int .i64 el] w fun e w' => e = .returned (.tuple #[]) ∧ FlQ B g F (brB p i ts th el) w' ∧ Fr F F w w' := by
  obtain ⟨A, c, qs, rfl, h⟩ := h
  rw [List.length_map] at hi hm
  obtain ⟨q, hq⟩ : ∃ q, qs[i]? = some q := ⟨_, List.getElem?_eq_getElem hi⟩
  have HQ := Lib.hid hq
  obtain ⟨n, hn⟩ : ∃ n, qs.length = n := ⟨_, rfl⟩
  have HN := Lib.hid hn
  obtain ⟨ga, rfl⟩ : ∃ ga, A = some ⟨ga, 0, none⟩ := by
    rcases h.arr.2 with ⟨h1, h2⟩ | ⟨k, cap, cur, h1, h2⟩
    · omega
    · injection h1 with h1
      exact ⟨k, h1⟩
  have HS0 : Hid (BrS B g ga c F qs i q ts th el w.drew (0, ()) w.drew) := Lib.hid (BrS.nought (h.up (Below.drew (Below.refl _ _))) hq ())
  have HW0 : Hid (Below w.heap.size w w.drew) := Lib.hid (Below.drew (Below.refl _ _))
  have hin : i < n := by omega
  have hn6 : n ≤ 65536 := by omega
  have hgl := h.lt
  clear h hq hn hi hm
  go_enter Try.func51, Try.ntmps51
  go_upto_region 0 with fail
  refine wp_region_stepsB (X := Nat × (Unit)) (BrS B g ga c F qs i q ts th el w.drew) (fun x j => doneL [0, 0, 0, 0, 0, 0, 0, 0, 0, 0, 0, 0, 0, 0, 0, 0, 0, 0, 0, 0, 1, 0, 0, 2, 0, 0, 3] x.1 j) (effL [0, 0, 0, 0, 0, 0, 0, 0, 0, 0, 0, 0, 0, 0, 0, 0, 0, 0, 0, 0, 1, 0, 0, 2, 0, 0, 3]) (0, ()) (fun x => [.pointer (some ⟨g, 0, none⟩), .pointer (some ⟨g, 0, none⟩), .pointer (some ⟨g, 0, none⟩), .slice (some ⟨ga, 0, none⟩) n c, .int .i64 (i : Nat), .pointer (some ⟨g, 0, none⟩), .pointer (some ⟨g, 0, none⟩), .pointer (some ⟨g, 0, none⟩), .slice (some ⟨ga, 0, none⟩) n c, .int .i64 (i : Nat), .pointer (some ⟨g, 0, none⟩), .pointer (some ⟨g, 0, none⟩), .pointer (some ⟨g, 0, none⟩), .slice (some ⟨ga, 0, none⟩) n c, .int .i64 (i : Nat), .int .i64 ts, .int .i64 th, .int .i64 el, .pointer (some ⟨ga, i * 4, none⟩), .pointer (some ⟨ga, i * 4 + 1, none⟩), undef, .pointer (some ⟨ga, i * 4, none⟩), .pointer (some ⟨ga, i * 4 + 2, none⟩), undef, .pointer (some ⟨ga, i * 4, none⟩), .pointer (some ⟨ga, i * 4 + 3, none⟩), undef]) _ (by kernel_rfl) (by kernel_rfl) (by kernel_rfl) (fun x => by simp only [putsD, Act.put, List.setIfInBounds_toArray, List.set_cons_zero, List.set_cons_succ]; exact rfl) h0L HS0.out (fun x => ?_) (fun x wz hDz hSz => ?_)
  · refine AllS.val (by rfl) (by rfl) (fun w hSw hPw => by go_simp) ?_
    refine AllS.val (by rfl) (by rfl) (fun w hSw hPw => by go_simp) ?_
    refine AllS.val (by rfl) (by rfl) (fun w hSw hPw => by go_simp) ?_
    refine AllS.val (by rfl) (by rfl) (fun w hSw hPw => ?_) ?_
    · (try dsimp only at hSw)
      have hq := BrS.box HN.out hSw
      have c0 := hq.cell (j := 0) rfl
      go_simp
    refine AllS.val (by rfl) (by rfl) (fun w hSw hPw => by go_simp) ?_
    refine AllS.val (by rfl) (by rfl) (fun w hSw hPw => by go_simp) ?_
    refine AllS.val (by rfl) (by rfl) (fun w hSw hPw => by go_simp) ?_
    refine AllS.val (by rfl) (by rfl) (fun w hSw hPw => by go_simp) ?_
    refine AllS.val (by rfl) (by rfl) (fun w hSw hPw => ?_) ?_
    · (try dsimp only at hSw)
      have hq := BrS.box HN.out hSw
      have c0 := hq.cell (j := 0) rfl
      go_simp
    refine AllS.val (by rfl) (by rfl) (fun w hSw hPw => by go_simp) ?_
    refine AllS.val (by rfl) (by rfl) (fun w hSw hPw => by go_simp) ?_
    refine AllS.val (by rfl) (by rfl) (fun w hSw hPw => by go_simp) ?_
    refine AllS.val (by rfl) (by rfl) (fun w hSw hPw => by go_simp) ?_
    refine AllS.val (by rfl) (by rfl) (fun w hSw hPw => ?_) ?_
    · (try dsimp only at hSw)
      have hq := BrS.box HN.out hSw
      have c0 := hq.cell (j := 0) rfl
      go_simp
    refine AllS.val (by rfl) (by rfl) (fun w hSw hPw => by go_simp) ?_
    refine AllS.val (by rfl) (by rfl) (fun w hSw hPw => by go_simp) ?_
    refine AllS.val (by rfl) (by rfl) (fun w hSw hPw => by go_simp) ?_
    refine AllS.val (by rfl) (by rfl) (fun w hSw hPw => by go_simp) ?_
    refine AllS.val (by rfl) (by rfl) (fun w hSw hPw => by go_simp) ?_
    refine AllS.val (by rfl) (by rfl) (fun w hSw hPw => by go_simp) ?_
    refine AllS.turn (fun _ _ => rfl) (by rfl) (fun w hSw hPw K hK => ?_) ?_
    · (try dsimp only at hSw)
      have h0 := leH (hPw.me rfl)
      have hx0 : x.1 = 0 := by exact Nat.le_zero.1 h0
      obtain ⟨p, y⟩ := x
      (try dsimp only at hx0)
      subst hx0
      obtain ⟨⟨v, u1⟩, v1⟩ := BrS.cell HQ.out hSw (j := 1) (by omega)
      go_simp
      exact hK (1, y) _ (nxtL rfl (by decide)) (BrS.st HQ.out (k := 0) (by omega) rfl hSw)
    refine AllS.val (by rfl) (by rfl) (fun w hSw hPw => by go_simp) ?_
    refine AllS.val (by rfl) (by rfl) (fun w hSw hPw => by go_simp) ?_
    refine AllS.turn (fun _ _ => rfl) (by rfl) (fun w hSw hPw K hK => ?_) ?_
    · (try dsimp only at hSw)
      have h0 := leH (hPw.me rfl)
      have h1 := geH (hPw.need (k := 20) rfl (by kernel_rfl))
      have hx0 : x.1 = 1 := by exact Nat.le_antisymm h0 h1
      obtain ⟨p, y⟩ := x
      (try dsimp only at hx0)
      subst hx0
      obtain ⟨⟨v, u1⟩, v1⟩ := BrS.cell HQ.out hSw (j := 2) (by omega)
      go_simp
      exact hK (2, y) _ (nxtL rfl (by decide)) (BrS.st HQ.out (k := 1) (by omega) rfl hSw)
    refine AllS.val (by rfl) (by rfl) (fun w hSw hPw => by go_simp) ?_
    refine AllS.val (by rfl) (by rfl) (fun w hSw hPw => by go_simp) ?_
    refine AllS.turn (fun _ _ => rfl) (by rfl) (fun w hSw hPw K hK => ?_) ?_
    · (try dsimp only at hSw)
      have h0 := leH (hPw.me rfl)
      have h1 := geH (hPw.need (k := 23) rfl (by kernel_rfl))
      have hx0 : x.1 = 2 := by exact Nat.le_antisymm h0 h1
      obtain ⟨p, y⟩ := x
      (try dsimp only at hx0)
      subst hx0
      obtain ⟨⟨v, u1⟩, v1⟩ := BrS.cell HQ.out hSw (j := 3) (by omega)
      go_simp
      exact hK (3, y) _ (nxtL rfl (by decide)) (BrS.st HQ.out (k := 2) (by omega) rfl hSw)
    exact AllS.nil
  go_wp2
  go_returns
  exact ⟨rfl, BrS.all (geH (hDz 26 (by decide) (by decide))) HQ.out hSz, (Fr.of_below F HW0.out).trans hSz.2⟩

end Go.Proofs.Ytniilhgcgcimgaa
