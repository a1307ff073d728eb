/-
  shape.executeDue, shape.Build (U2).
-/
import Derived.Test.YtlfmofhimkndoaaShBlk
import Derived.Test.YtlfmofhimkndoaaMBlock
import Derived.IntWalk
namespace Go.Proofs.Ytlfmofhimkndoaa
open Go.RowKit
set_option linter.unusedSimpArgs false
set_option linter.unusedVariables false
set_option maxRecDepth 100000

/-- what executeDue answers -/
def DueTo (n i : Nat) (r : List Bk) (w : World) (e : Ending) (w' : World) : Prop := ∃ v, e = .returned v ∧ LstV w.heap.size (xdSh n i r) v w' ∧ Below w.heap.size w w'

/-- the region that executes a block, value by value -/
def DuS (X : World) (lo : Nat) (S : Sh) (x : Nat × Value × Value) (w : World) : Prop := Below X.heap.size X w ∧ match x.1 with
  | 0 => True
  | 1 => LstV lo S x.2.1 w
  | _ => LstV lo S x.2.2 w

theorem add_zeroH (a : Addr) : a.add 0 = a := by unfold Addr.add; simp

theorem shape_app : AppTy Try.prog 22 55 5 88 := appTy_of (z := .agg #[.int .i64 0, .int .i64 0, .slice none 0 0, .slice none 0 0, .slice none 0 0]) Try.underlying22 (by kernel_rfl) rfl (by omega)

set_option maxHeartbeats 16000000 in
theorem executeDue_last (A : Option Addr) (len cap n i : Nat) (p : List Bk) (w : World) (hx : RdP w w.heap.size A p) (hl : p.length = len) (hm : ∀ b ∈ p, b.code.length ≤ 65535) (hlen : len ≤ 65535) (hi : i + 1 = len) :
    Calls Try.prog 29 #[.agg #[.slice A len cap, .int .i64 (n : Nat), .int .i64 ((n : Nat) + 1 : Int)], .int .i64 i] w fun e w' => DueTo n i (p.drop i) w e w' := by
  obtain ⟨ad, ⟨code, te, th, el⟩, Ac, cc, rfl, hbl, hd, hrow, hc0, hc1, hc2, hc3⟩ := hx.at_ (k := i) (by omega)
  have hcl := hm _ (List.mem_of_getElem? hd)
  simp only at hrow hc0 hc1 hc2 hc3 hcl
  have HR : Hid (xdSh n i (p.drop i) = xbSh n ⟨code, te, th, el⟩) := Lib.hid (by
    rw [drop_at hd, List.drop_of_length_le (by omega)]
    cases i <;> rfl)
  obtain ⟨cl, hcle⟩ : ∃ cl, code.length = cl := ⟨_, rfl⟩
  rw [hcle] at hc0 hcl
  have HEB := Lib.hid (fun (Z : World) (hZ : Below w.heap.size w Z) => executeBlock_any (some ad) len cap n Ac cl cc code te th el Z (hrow.up hZ) hcle hcl)
  have HC := Lib.hid (fun (Z : World) (hZ : Below w.heap.size w Z) => show Z.cell? (ad.add (i * 4)) = some (.slice Ac cl cc) ∧ Z.cell? ⟨(ad.add (i * 4)).block, (ad.add (i * 4)).off + 1, none⟩ = some (.int .i64 te) ∧ Z.cell? ⟨(ad.add (i * 4)).block, (ad.add (i * 4)).off + 2, none⟩ = some (.int .i64 th) ∧ Z.cell? ⟨(ad.add (i * 4)).block, (ad.add (i * 4)).off + 3, none⟩ = some (.int .i64 el) from
    ⟨(hZ.cell hbl).trans hc0, (hZ.cell (p := ⟨(ad.add (i * 4)).block, (ad.add (i * 4)).off + 1, none⟩) hbl).trans hc1, (hZ.cell (p := ⟨(ad.add (i * 4)).block, (ad.add (i * 4)).off + 2, none⟩) hbl).trans hc2, (hZ.cell (p := ⟨(ad.add (i * 4)).block, (ad.add (i * 4)).off + 3, none⟩) hbl).trans hc3⟩)
  have HB : Hid (Own (w.alloc (.cells #[.slice (some ad) len cap, .int .i64 (n : Nat), .int .i64 ((n : Nat) + 1 : Int)] 58)) w.heap.size 58 [.slice (some ad) len cap, .int .i64 (n : Nat), .int .i64 ((n : Nat) + 1 : Int)]) := Lib.hid (Own.new w _ _)
  have HBX : Hid (Below w.heap.size w (w.alloc (.cells #[.slice (some ad) len cap, .int .i64 (n : Nat), .int .i64 ((n : Nat) + 1 : Int)] 58))) := Lib.hid (by go_grown)
  unfold DueTo
  rw [HR.out]
  have hsub : (len : Int) - 1 = (i : Int) := by omega
  have hlt : i < len := by omega
  clear hx hl hm hd hrow hc0 hc1 hc2 hc3 hcle hbl hi
  go_enter Try.func29, Try.ntmps29
  go_upto_region 2 with fail
  obtain ⟨X, hX⟩ : ∃ X, X = w.alloc (.cells #[.slice (some ad) len cap, .int .i64 (n : Nat), .int .i64 ((n : Nat) + 1 : Int)] 58) := ⟨_, rfl⟩
  rw [← hX] at HB HBX ⊢
  clear hX hsub
  obtain ⟨n0, hn0⟩ : ∃ n0, w.heap.size = n0 := ⟨_, rfl⟩
  have HN := Lib.hid hn0
  rw [hn0] at HB
  simp only [hn0]
  clear hn0
  have b0 := HB.out.cell (j := 0) rfl
  have b1 := HB.out.cell (j := 1) rfl
  have b2 := HB.out.cell (j := 2) rfl
  have hbl := HB.out.lt
  refine wp_region_steps (X := Nat × (Value × Value)) (DuS X n0 (xbSh n ⟨code, te, th, el⟩)) (fun x j => doneL [0, 0, 0, 0, 0, 0, 1, 2] x.1 j) (effL [0, 0, 0, 0, 0, 0, 1, 2]) (0, (undef, undef)) (fun x => [.agg #[.slice (some ad) len cap, .int .i64 (n : Nat), .int .i64 ((n : Nat) + 1 : Int)], .pointer (some ⟨n0, 0, none⟩), .slice (some ad) len cap, .int .i64 i, .pointer (some (ad.add (i * 4))), .agg #[.slice Ac cl cc, .int .i64 te, .int .i64 th, .int .i64 el], x.2.1, x.2.2]) _ (by kernel_rfl) (by kernel_rfl) (by kernel_rfl) (fun x => by simp only [putsD, Act.put, List.setIfInBounds_toArray, List.set_cons_zero, List.set_cons_succ]; exact rfl) h0L ⟨Below.drew (Below.refl _ _), trivial⟩ (fun x => ?_) (fun x wz hDz hSz => ?_)
  · refine AllS.val (by rfl) (by rfl) (fun w hSw hPw => ?_) ?_
    · (try dsimp only at hSw)
      have c0 := (hSw.1.cell (p := ⟨n0, 0, none⟩) hbl).trans b0
      have c1 := (hSw.1.cell (p := ⟨n0, 1, none⟩) hbl).trans b1
      have c2 := (hSw.1.cell (p := ⟨n0, 2, none⟩) hbl).trans b2
      go_simp
    refine AllS.val (by rfl) (by rfl) (fun w hSw hPw => by go_simp) ?_
    refine AllS.val (by rfl) (by rfl) (fun w hSw hPw => ?_) ?_
    · (try dsimp only at hSw)
      have c0 := (hSw.1.cell (p := ⟨n0, 0, none⟩) hbl).trans b0
      go_simp
    refine AllS.val (by rfl) (by rfl) (fun w hSw hPw => by go_simp) ?_
    refine AllS.val (by rfl) (by rfl) (fun w hSw hPw => by go_simp) ?_
    refine AllS.val (by rfl) (by rfl) (fun w hSw hPw => ?_) ?_
    · (try dsimp only at hSw)
      obtain ⟨d0, d1, d2, d3⟩ := HC.out w (below_via HBX.out hSw.1)
      go_simp
    refine AllS.turn (fun _ _ => rfl) (by rfl) (fun w hSw hPw K hK => ?_) ?_
    · (try dsimp only at hSw)
      have h0 := leH (hPw.me rfl)
      have hx0 : x.1 = 0 := by exact Nat.le_zero.1 h0
      obtain ⟨p, y1, y2⟩ := x
      (try dsimp only at hx0)
      subst hx0
      obtain ⟨hq, _⟩ := hSw
      go_simp
      go_at_call 44
      refine (HEB.out _ (below_via HBX.out hq)).mono ?_
      rintro e w7 ⟨v7, rfl, hv7, hb7⟩
      go_simp
      exact hK (1, v7, y2) _ (nxtL rfl (by decide)) ⟨below_via hq hb7, hv7.mono (by rw [← HN.out]; exact (below_via HBX.out hq).size)⟩
    refine AllS.turn (fun _ _ => rfl) (by rfl) (fun w hSw hPw K hK => ?_) ?_
    · (try dsimp only at hSw)
      have h0 := leH (hPw.me rfl)
      have h1 := geH (hPw.need (k := 6) rfl (by kernel_rfl))
      have hx0 : x.1 = 1 := Nat.le_antisymm h0 h1
      obtain ⟨p, y1, y2⟩ := x
      (try dsimp only at hx0)
      subst hx0
      obtain ⟨hq, hy⟩ := hSw
      go_simp
      exact hK (2, y1, y1) _ (nxtL rfl (by decide)) ⟨hq, hy⟩
    exact AllS.nil
  have hd4 := geH (hDz 7 (by decide) (by decide))
  obtain ⟨p, y1, y2⟩ := x
  (try dsimp only at hd4)
  obtain ⟨q, rfl⟩ : ∃ q, p = q + 2 := ⟨p - 2, by simp at hd4; omega⟩
  obtain ⟨hq, hy⟩ := hSz
  (try dsimp only at hy)
  have HY := Lib.hid hy
  have HBE := Lib.hid (below_via HBX.out hq)
  clear hDz hd4 hy hq b0 b1 b2
  go_wp2
  go_ret
  exact ⟨_, rfl, by rw [HN.out]; exact HY.out, HBE.out⟩

/-- the region that appends the choice, value by value -/
def DvS (X : World) (B n k : Nat) (es : List Se) (S1 S2 : Sh) (A : Option Addr) (c : Nat) (x : Nat × Value × Value × Value × Value × Value × Value) (w : World) : Prop := Below B X w ∧ (x.1 ≤ 4 → Below X.heap.size X w) ∧ match x.1 with
  | 0 => True
  | 1 => LstV X.heap.size S1 x.2.1 w
  | 2 => LstV X.heap.size S1 x.2.1 w ∧ LstV X.heap.size S2 x.2.2.1 w
  | 3 => ∃ A1 c1 A2 c2, x.2.2.2.1 = .agg #[.int .i64 2, .int .i64 n, .slice none 0 0, .slice A1 S1.len c1, .slice A2 S2.len c2] ∧ RdH w X.heap.size w.heap.size S1 A1 0 ∧ RdH w X.heap.size w.heap.size S2 A2 0
  | 4 => ∃ A1 c1 A2 c2 g, x.2.2.2.2.1 = .slice (some ⟨g, 0, none⟩) 1 1 ∧ RdH w X.heap.size w.heap.size S1 A1 0 ∧ RdH w X.heap.size w.heap.size S2 A2 0 ∧ ∀ ad : Addr, some (⟨g, 0, none⟩ : Addr) = some ad → ∀ j u, (cSe ⟨2, n, [], none, 0, S1, A1, c1, S2, A2, c2⟩)[j]? = some u → w.cell? (ad.add j) = some u
  | 5 => ∃ R, R = (fun e => shL (es ++ [e])) ∧ ∃ A1 c1 A2 c2, LstV B (R ⟨2, n, [], none, 0, S1, A1, c1, S2, A2, c2⟩) x.2.2.2.2.2.1 w
  | _ => ∃ R, R = (fun e => shL (es ++ [e])) ∧ ∃ A1 c1 A2 c2, LstV B (R ⟨2, n, [], none, 0, S1, A1, c1, S2, A2, c2⟩) x.2.2.2.2.2.2 w

/-- the choice appended to the list so far -/
theorem due_app {X w w8 : World} {B n k c c8 : Nat} {A A8 A1 A2 : Option Addr} {c1 c2 : Nat} {S1 S2 : Sh} {es : List Se} (hes : es.length = k) (hown : X.ownsRow B 55 5 (.slice A k c) k (rv cSe es)) (hso : ∀ e ∈ es, SeOk X B X.heap.size e ∧ ∀ b, (Value.slice A k c).ownBlock = some b → SeOk X B b e ∨ SeOk X (b + 1) X.heap.size e)
    (hq : Below X.heap.size X w) (hB : B ≤ X.heap.size) (h1 : RdH w X.heap.size w.heap.size S1 A1 0) (h2 : RdH w X.heap.size w.heap.size S2 A2 0)
    (hown8 : w8.ownsRow B 55 5 (.slice A8 (k + 1) c8) (k + 1) (rv cSe es ++ cSe ⟨2, n, [], none, 0, S1, A1, c1, S2, A2, c2⟩)) (hg8 : w.grownBy w8 (Value.slice A k c).ownBlock) :
    LstV B (shL (es ++ [⟨2, n, [], none, 0, S1, A1, c1, S2, A2, c2⟩])) (.slice A8 (k + 1) c8) w8 := by
  have hs := hq.size
  have hs8 := hg8.size
  have hlt : ∀ b, (Value.slice A k c).ownBlock = some b → b < X.heap.size := fun b hb => (hown.lt b hb).2
  have hkeep : ∀ b, X.heap.size ≤ b → b < w.heap.size → w8.heap[b]? = w.heap[b]? := fun b hb hb2 => hg8.block b hb2 fun e => by have := hlt b e.symm; omega
  refine ⟨A8, c8, by rw [shL_len, List.length_append, hes]; rfl, rdH_own (by rw [rv_append, rv_one]; exact hown8) (by rw [List.length_append, hes]; rfl) fun e he => ?_⟩
  rcases List.mem_append.1 he with he | he
  · obtain ⟨o1, o2⟩ := hso e he
    have hkX : ∀ b, b < X.heap.size → (Value.slice A k c).ownBlock ≠ some b → w8.heap[b]? = X.heap[b]? := fun b hb hne => (hg8.block b (by omega) fun e => hne e.symm).trans (hq.block b hb)
    cases hob : (Value.slice A k c).ownBlock with
    | none => exact (o1.keep fun b _ hb => hkX b hb (by rw [hob]; simp)).more (Nat.le_refl _) (by omega)
    | some g =>
      have hgl := hlt g hob
      rcases o2 g hob with o | o
      · exact (o.keep fun b _ hb => hkX b (by omega) (by rw [hob]; simp; omega)).more (Nat.le_refl _) (by omega)
      · exact (o.keep fun b hb1 hb => hkX b hb (by rw [hob]; simp; omega)).more (by have := (hown.lt g hob).1; omega) (by omega)
  · rw [List.mem_singleton.1 he]
    exact ⟨RdSL.nil _ _ _, (h1.keep hkeep).more hB (by omega), (h2.keep hkeep).more hB (by omega)⟩

set_option maxHeartbeats 16000000 in
theorem executeDue_first (A : Option Addr) (len cap n : Nat) (p : List Bk) (w : World) (hx : RdP w w.heap.size A p) (hl : p.length = len) (hm : ∀ b ∈ p, b.code.length ≤ 65535) (hlen : len ≤ 65535) (hi : 1 < len)
    (hih : ∀ (Z : World), Below w.heap.size w Z → Calls Try.prog 29 #[.agg #[.slice A len cap, .int .i64 (n : Nat), .int .i64 ((n : Nat) + 1 : Int)], .int .i64 (1 : Nat)] Z fun e w' => DueTo n 1 (p.drop 1) Z e w') :
    Calls Try.prog 29 #[.agg #[.slice A len cap, .int .i64 (n : Nat), .int .i64 ((n : Nat) + 1 : Int)], .int .i64 (0 : Nat)] w fun e w' => DueTo n 0 (p.drop 0) w e w' := by
  obtain ⟨ad, ⟨code, te, th, el⟩, Ac, cc, rfl, hbl, hd, hrow, hc0, hc1, hc2, hc3⟩ := hx.at_ (k := 0) (by omega)
  have hcl := hm _ (List.mem_of_getElem? hd)
  simp only at hrow hc0 hc1 hc2 hc3 hcl
  have HR : Hid (xdSh n 0 (p.drop 0) = .cons 2 n [] (xdSh n 1 (p.drop 1)) (xbSh n ⟨code, te, th, el⟩) .nil) := Lib.hid (by
    obtain ⟨b1, hb1⟩ : ∃ b, p[1]? = some b := ⟨_, List.getElem?_eq_getElem (by omega)⟩
    rw [drop_at hd, drop_at hb1]
    rfl)
  obtain ⟨cl, hcle⟩ : ∃ cl, code.length = cl := ⟨_, rfl⟩
  rw [hcle] at hc0 hcl
  have HEB := Lib.hid (fun (Z : World) (hZ : Below w.heap.size w Z) => executeBlock_any (some ad) len cap n Ac cl cc code te th el Z (hrow.up hZ) hcle hcl)
  rw [Nat.zero_mul, add_zeroH] at hbl hc0 hc1 hc2 hc3
  have hw1 : IntKind.i64.wrap 1 = 1 := rfl
  have hlt : 0 < len := by omega
  have HC := Lib.hid (fun (Z : World) (hZ : Below w.heap.size w Z) => show Z.cell? ad = some (.slice Ac cl cc) ∧ Z.cell? ⟨ad.block, ad.off + 1, none⟩ = some (.int .i64 te) ∧ Z.cell? ⟨ad.block, ad.off + 2, none⟩ = some (.int .i64 th) ∧ Z.cell? ⟨ad.block, ad.off + 3, none⟩ = some (.int .i64 el) from
    ⟨(hZ.cell hbl).trans hc0, (hZ.cell (p := ⟨ad.block, ad.off + 1, none⟩) hbl).trans hc1, (hZ.cell (p := ⟨ad.block, ad.off + 2, none⟩) hbl).trans hc2, (hZ.cell (p := ⟨ad.block, ad.off + 3, none⟩) hbl).trans hc3⟩)
  obtain ⟨S1, hS1⟩ : ∃ S, xdSh n 1 (p.drop 1) = S := ⟨_, rfl⟩
  obtain ⟨S2, hS2⟩ : ∃ S, xbSh n ⟨code, te, th, el⟩ = S := ⟨_, rfl⟩
  unfold DueTo at hih ⊢
  rw [hS1] at hih HR
  rw [hS2] at HEB HR
  rw [HR.out]
  have HIH := Lib.hid hih
  have HB : Hid (Own (w.alloc (.cells #[.slice (some ad) len cap, .int .i64 (n : Nat), .int .i64 ((n : Nat) + 1 : Int)] 58)) w.heap.size 58 [.slice (some ad) len cap, .int .i64 (n : Nat), .int .i64 ((n : Nat) + 1 : Int)]) := Lib.hid (Own.new w _ _)
  have HBX : Hid (Below w.heap.size w (w.alloc (.cells #[.slice (some ad) len cap, .int .i64 (n : Nat), .int .i64 ((n : Nat) + 1 : Int)] 58))) := Lib.hid (by go_grown)
  obtain ⟨L1, hL1⟩ : ∃ L1, len = L1 + 1 := ⟨len - 1, by omega⟩
  have hsub : (len : Int) - 1 = (L1 : Int) := by omega
  have hne : ((0 : Int) == (L1 : Int)) = false := by simp; omega
  clear hx hl hm hd hrow hc0 hc1 hc2 hc3 hcle hbl hi hS1 hS2 HR hih hL1
  go_enter Try.func29, Try.ntmps29
  go_upto_region 6 with fail
  obtain ⟨X, hX⟩ : ∃ X, X = w.alloc (.cells #[.slice (some ad) len cap, .int .i64 (n : Nat), .int .i64 ((n : Nat) + 1 : Int)] 58) := ⟨_, rfl⟩
  rw [← hX] at HB HBX ⊢
  clear hX hsub hne
  obtain ⟨n0, hn0⟩ : ∃ n0, w.heap.size = n0 := ⟨_, rfl⟩
  have HN := Lib.hid hn0
  rw [hn0] at HB
  simp only [hn0]
  clear hn0
  have HOW : Hid (X.ownsRow (n0 + 1) 55 5 (.slice none 0 0) 0 (rv cSe [])) := Lib.hid (World.ownsRow_nil _ _ _ _)
  have HSO : Hid (∀ e ∈ ([] : List Se), SeOk X (n0 + 1) X.heap.size e ∧ ∀ b, (Value.slice none 0 0).ownBlock = some b → SeOk X (n0 + 1) b e ∨ SeOk X (b + 1) X.heap.size e) := Lib.hid fun e he => by cases he
  have b0 := HB.out.cell (j := 0) rfl
  have b1 := HB.out.cell (j := 1) rfl
  have b2 := HB.out.cell (j := 2) rfl
  have hbl := HB.out.lt
  have hXB : n0 + 1 ≤ X.heap.size := hbl
  refine wp_region_steps (X := Nat × (Value × Value × Value × Value × Value × Value)) (DvS X (n0 + 1) n 0 ([] : List Se) S1 S2 none 0) (fun x j => doneL [0, 0, 0, 0, 0, 0, 1, 0, 0, 0, 0, 0, 0, 2, 3, 4, 5, 6] x.1 j) (effL [0, 0, 0, 0, 0, 0, 1, 0, 0, 0, 0, 0, 0, 2, 3, 4, 5, 6]) (0, (undef, undef, undef, undef, undef, undef)) (fun x => [.slice none 0 0, .pointer (some ⟨n0, 1, none⟩), .int .i64 (n : Nat), .agg #[.slice (some ad) len cap, .int .i64 (n : Nat), .int .i64 ((n : Nat) + 1 : Int)], .int .i64 0, .int .i64 1, x.2.1, .agg #[.slice (some ad) len cap, .int .i64 (n : Nat), .int .i64 ((n : Nat) + 1 : Int)], .pointer (some ⟨n0, 0, none⟩), .slice (some ad) len cap, .int .i64 0, .pointer (some ad), .agg #[.slice Ac cl cc, .int .i64 te, .int .i64 th, .int .i64 el], x.2.2.1, x.2.2.2.1, x.2.2.2.2.1, x.2.2.2.2.2.1, x.2.2.2.2.2.2]) _ (by kernel_rfl) (by kernel_rfl) (by kernel_rfl) (fun x => by simp only [putsD, Act.put, List.setIfInBounds_toArray, List.set_cons_zero, List.set_cons_succ]; exact rfl) h0L ⟨Below.drew (Below.refl _ _), fun _ => Below.drew (Below.refl _ _), trivial⟩ (fun x => ?_) (fun x wz hDz hSz => ?_)
  · refine AllS.val (by rfl) (by rfl) (fun w hSw hPw => by go_simp) ?_
    refine AllS.val (by rfl) (by rfl) (fun w hSw hPw => by go_simp) ?_
    refine AllS.val (by rfl) (by rfl) (fun w hSw hPw => ?_) ?_
    · (try dsimp only at hSw)
      have c1 := (hSw.1.cell (p := ⟨n0, 1, none⟩) (by show n0 < n0 + 1; omega)).trans b1
      go_simp
    refine AllS.val (by rfl) (by rfl) (fun w hSw hPw => ?_) ?_
    · (try dsimp only at hSw)
      have c0 := (hSw.1.cell (p := ⟨n0, 0, none⟩) (by show n0 < n0 + 1; omega)).trans b0
      have c1 := (hSw.1.cell (p := ⟨n0, 1, none⟩) (by show n0 < n0 + 1; omega)).trans b1
      have c2 := (hSw.1.cell (p := ⟨n0, 2, none⟩) (by show n0 < n0 + 1; omega)).trans b2
      go_simp
    refine AllS.val (by rfl) (by rfl) (fun w hSw hPw => by go_simp) ?_
    refine AllS.val (by rfl) (by rfl) (fun w hSw hPw => by go_simp) ?_
    refine AllS.turn (fun _ _ => rfl) (by rfl) (fun w hSw hPw K hK => ?_) ?_
    · (try dsimp only at hSw)
      have h0 := leH (hPw.me rfl)
      have hx0 : x.1 = 0 := by exact Nat.le_zero.1 h0
      obtain ⟨p, y1, y2, y3, y4, y5, y6⟩ := x
      (try dsimp only at hx0)
      subst hx0
      obtain ⟨hq, hqX, _⟩ := hSw
      have hqX := hqX (Nat.zero_le _)
      go_simp
      go_at_call 29
      refine (HIH.out _ (below_via HBX.out hqX)).mono ?_
      rintro e w7 ⟨v7, rfl, hv7, hb7⟩
      go_simp
      exact hK (1, v7, y2, y3, y4, y5, y6) _ (nxtL rfl (by decide)) ⟨hq.trans (hb7.mono (Nat.le_trans hXB hqX.size)), fun _ => below_via hqX hb7, hv7.mono hqX.size⟩
    refine AllS.val (by rfl) (by rfl) (fun w hSw hPw => ?_) ?_
    · (try dsimp only at hSw)
      have c0 := (hSw.1.cell (p := ⟨n0, 0, none⟩) (by show n0 < n0 + 1; omega)).trans b0
      have c1 := (hSw.1.cell (p := ⟨n0, 1, none⟩) (by show n0 < n0 + 1; omega)).trans b1
      have c2 := (hSw.1.cell (p := ⟨n0, 2, none⟩) (by show n0 < n0 + 1; omega)).trans b2
      go_simp
    refine AllS.val (by rfl) (by rfl) (fun w hSw hPw => by go_simp) ?_
    refine AllS.val (by rfl) (by rfl) (fun w hSw hPw => ?_) ?_
    · (try dsimp only at hSw)
      have c0 := (hSw.1.cell (p := ⟨n0, 0, none⟩) (by show n0 < n0 + 1; omega)).trans b0
      go_simp
    refine AllS.val (by rfl) (by rfl) (fun w hSw hPw => by go_simp) ?_
    refine AllS.val (by rfl) (by rfl) (fun w hSw hPw => by go_simp) ?_
    refine AllS.val (by rfl) (by rfl) (fun w hSw hPw => ?_) ?_
    · (try dsimp only at hSw)
      obtain ⟨d0, d1, d2, d3⟩ := HC.out w (HBX.out.trans (hSw.1.mono (by rw [HN.out]; omega)))
      go_simp
    refine AllS.turn (fun _ _ => rfl) (by rfl) (fun w hSw hPw K hK => ?_) ?_
    · (try dsimp only at hSw)
      have h0 := leH (hPw.me rfl)
      have h1 := geH (hPw.need (k := 6) rfl (by kernel_rfl))
      have hx0 : x.1 = 1 := Nat.le_antisymm h0 h1
      obtain ⟨p, y1, y2, y3, y4, y5, y6⟩ := x
      (try dsimp only at hx0)
      subst hx0
      obtain ⟨hq, hqX, hy1⟩ := hSw
      have hqX := hqX (by show (1 : Nat) ≤ 4; omega)
      go_simp
      go_at_call 44
      refine (HEB.out _ (below_via HBX.out hqX)).mono ?_
      rintro e w7 ⟨v7, rfl, hv7, hb7⟩
      go_simp
      exact hK (2, y1, v7, y3, y4, y5, y6) _ (nxtL rfl (by decide)) ⟨hq.trans (hb7.mono (Nat.le_trans hXB hqX.size)), fun _ => below_via hqX hb7, hy1.up hb7, hv7.mono hqX.size⟩
    refine AllS.turn (fun _ _ => rfl) (by rfl) (fun w hSw hPw K hK => ?_) ?_
    · (try dsimp only at hSw)
      have h0 := leH (hPw.me rfl)
      have h1 := geH (hPw.need (k := 13) rfl (by kernel_rfl))
      have hx0 : x.1 = 2 := Nat.le_antisymm h0 h1
      obtain ⟨p, y1, y2, y3, y4, y5, y6⟩ := x
      (try dsimp only at hx0)
      subst hx0
      obtain ⟨hq, hqX, ⟨A1, k1, e1, hr1⟩, A3, k3, e2, hr2⟩ := hSw
      (try dsimp only at e1)
      (try dsimp only at e2)
      subst e1
      subst e2
      go_simp
      exact hK (3, .slice A1 S1.len k1, .slice A3 S2.len k3, .agg #[.int .i64 2, .int .i64 (n : Nat), .slice none 0 0, .slice A1 S1.len k1, .slice A3 S2.len k3], y4, y5, y6) _ (nxtL rfl (by decide)) ⟨hq, fun _ => hqX (by show (2 : Nat) ≤ 4; omega), A1, k1, A3, k3, rfl, hr1, hr2⟩
    refine AllS.turn (fun _ _ => rfl) (by rfl) (fun w hSw hPw K hK => ?_) ?_
    · (try dsimp only at hSw)
      have h0 := leH (hPw.me rfl)
      have h1 := geH (hPw.need (k := 14) rfl (by kernel_rfl))
      have hx0 : x.1 = 3 := Nat.le_antisymm h0 h1
      obtain ⟨p, y1, y2, y3, y4, y5, y6⟩ := x
      (try dsimp only at hx0)
      subst hx0
      obtain ⟨hq, hqX, A1, k1, A3, k3, e3, hr1, hr2⟩ := hSw
      (try dsimp only at e3)
      subst e3
      have hqX := hqX (by show (3 : Nat) ≤ 4; omega)
      go_simp
      exact hK (4, y1, y2, .agg #[.int .i64 2, .int .i64 (n : Nat), .slice none 0 0, .slice A1 S1.len k1, .slice A3 S2.len k3], .slice (some ⟨w.heap.size, 0, none⟩) 1 1, y5, y6) _ (nxtL rfl (by decide)) ⟨hq.trans ((by go_grown : Below w.heap.size w _).mono (Nat.le_trans hXB hqX.size)), fun _ => below_via hqX (by go_grown), A1, k1, A3, k3, w.heap.size, rfl, hr1.up (by go_grown), hr2.up (by go_grown), cells_at rfl (cSe ⟨2, n, [], none, 0, S1, A1, k1, S2, A3, k3⟩) _⟩
    refine AllS.turn (fun _ _ => rfl) (by rfl) (fun w hSw hPw K hK => ?_) ?_
    · (try dsimp only at hSw)
      have h0 := leH (hPw.me rfl)
      have h1 := geH (hPw.need (k := 15) rfl (by kernel_rfl))
      have hx0 : x.1 = 4 := Nat.le_antisymm h0 h1
      obtain ⟨p, y1, y2, y3, y4, y5, y6⟩ := x
      (try dsimp only at hx0)
      subst hx0
      obtain ⟨hq, hqX, A1, k1, A3, k3, g, e4, hr1, hr2, hcs⟩ := hSw
      (try dsimp only at e4)
      subst e4
      have hqX := hqX (by show (4 : Nat) ≤ 4; omega)
      refine oper_app' (.tmp 32) (.tmp 47) 22 rfl (n0 + 1) 55 5 88 shape_app (rv cSe ([] : List Se)) rfl (own_below HOW.out hqX) (cSe ⟨2, n, [], none, 0, S1, A1, k1, S2, A3, k3⟩) rfl rfl (fun h => by cases h) hcs (cSe_one _) (by unfold maxLen; omega) (by omega) (Nat.le_trans hXB hqX.size) ?_
      intro A8 c8 w8 hown8 hg8 hb8 hbl8
      exact hK (5, y1, y2, y3, _, .slice A8 (0 + 1) c8, y6) _ (nxtL rfl (by decide)) ⟨hq.trans hb8, fun h => absurd h (by show ¬ (5 : Nat) ≤ 4; omega), _, rfl, A1, k1, A3, k3, due_app rfl HOW.out HSO.out hqX hXB hr1 hr2 hown8 hg8⟩
    refine AllS.turn (fun _ _ => rfl) (by rfl) (fun w hSw hPw K hK => ?_) ?_
    · (try dsimp only at hSw)
      have h0 := leH (hPw.me rfl)
      have h1 := geH (hPw.need (k := 16) rfl (by kernel_rfl))
      have hx0 : x.1 = 5 := Nat.le_antisymm h0 h1
      obtain ⟨p, y1, y2, y3, y4, y5, y6⟩ := x
      (try dsimp only at hx0)
      subst hx0
      obtain ⟨hq, hqX, R, hR, A1, k1, A3, k3, hy⟩ := hSw
      go_simp
      exact hK (6, y1, y2, y3, y4, y5, y5) _ (nxtL rfl (by decide)) ⟨hq, fun h => absurd h (by show ¬ (6 : Nat) ≤ 4; omega), R, hR, A1, k1, A3, k3, hy⟩
    exact AllS.nil
  have hd4 := geH (hDz 17 (by decide) (by decide))
  obtain ⟨p, y1, y2, y3, y4, y5, y6⟩ := x
  (try dsimp only at hd4)
  obtain ⟨q, rfl⟩ : ∃ q, p = q + 6 := ⟨p - 6, by simp at hd4; omega⟩
  obtain ⟨hq, _, R, hR, A1, k1, A3, k3, hy⟩ := hSz
  (try dsimp only at hy)
  subst hR
  have HY := Lib.hid hy
  have HBE := Lib.hid (HBX.out.trans (hq.mono (by rw [HN.out]; omega)))
  clear hDz hd4 hy hq b0 b1 b2
  go_wp2
  go_ret
  exact ⟨_, rfl, HY.out.mono (by rw [HN.out]; omega), HBE.out⟩


set_option maxHeartbeats 16000000 in
theorem executeDue_more (A : Option Addr) (len cap n i : Nat) (p : List Bk) (w : World) (hx : RdP w w.heap.size A p) (hl : p.length = len) (hm : ∀ b ∈ p, b.code.length ≤ 65535) (hlen : len ≤ 65535) (hi : i + 2 < len)
    (hih : ∀ (Z : World), Below w.heap.size w Z → Calls Try.prog 29 #[.agg #[.slice A len cap, .int .i64 (n : Nat), .int .i64 ((n : Nat) + 1 : Int)], .int .i64 (i + 2 : Nat)] Z fun e w' => DueTo n (i + 2) (p.drop (i + 2)) Z e w') :
    Calls Try.prog 29 #[.agg #[.slice A len cap, .int .i64 (n : Nat), .int .i64 ((n : Nat) + 1 : Int)], .int .i64 (i + 1 : Nat)] w fun e w' => DueTo n (i + 1) (p.drop (i + 1)) w e w' := by
  obtain ⟨ad, ⟨code, te, th, el⟩, Ac, cc, rfl, hbl, hd, hrow, hc0, hc1, hc2, hc3⟩ := hx.at_ (k := i + 1) (by omega)
  have hcl := hm _ (List.mem_of_getElem? hd)
  simp only at hrow hc0 hc1 hc2 hc3 hcl
  have HR : Hid (xdSh n (i + 1) (p.drop (i + 1)) = .cons 1 0 [⟨4, n, n, n + 1, 0⟩] .nil .nil (.cons 2 n [] (xdSh n (i + 2) (p.drop (i + 2))) (xbSh n ⟨code, te, th, el⟩) .nil)) := Lib.hid (by
    obtain ⟨b1, hb1⟩ : ∃ b, p[i + 2]? = some b := ⟨_, List.getElem?_eq_getElem (by omega)⟩
    rw [drop_at hd, show i + 1 + 1 = i + 2 from rfl, drop_at hb1]
    rfl)
  obtain ⟨cl, hcle⟩ : ∃ cl, code.length = cl := ⟨_, rfl⟩
  rw [hcle] at hc0 hcl
  have HEB := Lib.hid (fun (Z : World) (hZ : Below w.heap.size w Z) => executeBlock_any (some ad) len cap n Ac cl cc code te th el Z (hrow.up hZ) hcle hcl)
  obtain ⟨i1, hi1⟩ : ∃ i1, i + 1 = i1 := ⟨_, rfl⟩
  rw [hi1] at hc0 hc1 hc2 hc3 hbl HR ⊢
  have HC := Lib.hid (fun (Z : World) (hZ : Below w.heap.size w Z) => show Z.cell? (ad.add (i1 * 4)) = some (.slice Ac cl cc) ∧ Z.cell? ⟨(ad.add (i1 * 4)).block, (ad.add (i1 * 4)).off + 1, none⟩ = some (.int .i64 te) ∧ Z.cell? ⟨(ad.add (i1 * 4)).block, (ad.add (i1 * 4)).off + 2, none⟩ = some (.int .i64 th) ∧ Z.cell? ⟨(ad.add (i1 * 4)).block, (ad.add (i1 * 4)).off + 3, none⟩ = some (.int .i64 el) from
    ⟨(hZ.cell hbl).trans hc0, (hZ.cell (p := ⟨(ad.add (i1 * 4)).block, (ad.add (i1 * 4)).off + 1, none⟩) hbl).trans hc1, (hZ.cell (p := ⟨(ad.add (i1 * 4)).block, (ad.add (i1 * 4)).off + 2, none⟩) hbl).trans hc2, (hZ.cell (p := ⟨(ad.add (i1 * 4)).block, (ad.add (i1 * 4)).off + 3, none⟩) hbl).trans hc3⟩)
  have hgt : decide (0 < i1) = true := by simp; omega
  have hlt : i1 < len := by omega
  have HCO := Lib.hid (fun (Z : World) => codeOf_any none 0 0 [] 4 n n ((n : Int) + 1) 0 Z (fun h => by simp at h) rfl (by omega))
  obtain ⟨i2, hi2⟩ : ∃ i2, i + 2 = i2 := ⟨_, rfl⟩
  rw [hi2] at hih HR
  have hadd : (i1 : Int) + 1 = (i2 : Int) := by omega
  have hw2 : IntKind.i64.wrap (i2 : Int) = (i2 : Int) := IntWalk.i64_in _ ⟨by omega, by omega⟩
  obtain ⟨S1, hS1⟩ : ∃ S, xdSh n i2 (p.drop i2) = S := ⟨_, rfl⟩
  obtain ⟨S2, hS2⟩ : ∃ S, xbSh n ⟨code, te, th, el⟩ = S := ⟨_, rfl⟩
  unfold DueTo at hih ⊢
  rw [hS1] at hih HR
  rw [hS2] at HEB HR
  rw [HR.out]
  have HIH := Lib.hid hih
  have HB : Hid (Own (w.alloc (.cells #[.slice (some ad) len cap, .int .i64 (n : Nat), .int .i64 ((n : Nat) + 1 : Int)] 58)) w.heap.size 58 [.slice (some ad) len cap, .int .i64 (n : Nat), .int .i64 ((n : Nat) + 1 : Int)]) := Lib.hid (Own.new w _ _)
  have HBX : Hid (Below w.heap.size w (w.alloc (.cells #[.slice (some ad) len cap, .int .i64 (n : Nat), .int .i64 ((n : Nat) + 1 : Int)] 58))) := Lib.hid (by go_grown)
  obtain ⟨L1, hL1⟩ : ∃ L1, len = L1 + 1 := ⟨len - 1, by omega⟩
  have hsub : (len : Int) - 1 = (L1 : Int) := by omega
  have hne : (((i1 : Nat) : Int) == (L1 : Int)) = false := by simp; omega
  clear hx hl hm hd hrow hc0 hc1 hc2 hc3 hcle hbl hi hS1 hS2 HR hih hL1 hi1 hi2
  go_enter Try.func29, Try.ntmps29
  have c1 := HB.out.cell (j := 1) rfl
  have c2 := HB.out.cell (j := 2) rfl
  have hz0 : (w.alloc (.cells #[.slice (some ad) len cap, .int .i64 (n : Nat), .int .i64 ((n : Nat) + 1 : Int)] 58)).heap.size = w.heap.size + 1 := by simp
  have HZ0 := Lib.hid hz0
  clear hz0
  go_upto_region 6 with (first
    | (go_at_call 27; refine (HCO.out _).mono ?_; rintro e w2 ⟨A2, k2, rfl, hr2, hb2⟩; have HR2 := Lib.hid hr2; have HB2 := Lib.hid hb2; have HS2 : Hid (w.heap.size + 1 ≤ w2.heap.size) := Lib.hid (by rw [← HZ0.out]; exact hb2.size); clear hr2 hb2)
    | (at_builtin; refine wpList_app' rfl (.tmp 21) (.tmp 30) 22 rfl (w.heap.size + 1) 55 5 88 shape_app [] rfl (World.ownsRow_nil _ _ _ _) (cSe ⟨1, 0, [⟨4, n, n, n + 1, 0⟩], A2, k2, .nil, none, 0, .nil, none, 0⟩) rfl rfl (fun h => by cases h) (cells_at rfl _ _) (cSe_one _) (by unfold maxLen; omega) (by omega) (by have := HS2.out; simp; omega) ?_; intro A8 c8 w8 hown8 hg8 hb8 hp8))
  have hs2 := HS2.out
  have HOW : Hid (w8.ownsRow (w.heap.size + 1) 55 5 (.slice A8 1 c8) 1 (rv cSe [⟨1, 0, [⟨4, n, n, n + 1, 0⟩], A2, k2, .nil, none, 0, .nil, none, 0⟩])) := Lib.hid (by simpa [rv] using hown8)
  have hkp : ∀ b, b < w2.heap.size → w8.heap[b]? = w2.heap[b]? := fun b hb => (hg8.block b (by simp; omega) (by simp [Value.ownBlock])).trans ((by go_grown : Below w2.heap.size w2 (w2.alloc (.cells #[.int .i64 1, .int .i64 0, .slice A2 1 k2, .slice none 0 0, .slice none 0 0] 55))).block b hb)
  have hs8 : w2.heap.size + 1 ≤ w8.heap.size := by have := hg8.size; simpa using this
  have hr8 : RdSL w8 (w.heap.size + 1) w2.heap.size A2 [⟨4, n, n, n + 1, 0⟩] := (RdSL.more HR2.out (by rw [HZ0.out]; omega) (Nat.le_refl _)).keep fun b _ hb => hkp b hb
  have HSO : Hid (∀ e ∈ ([⟨1, 0, [⟨4, n, n, n + 1, 0⟩], A2, k2, .nil, none, 0, .nil, none, 0⟩] : List Se), SeOk w8 (w.heap.size + 1) w8.heap.size e ∧ ∀ b, (Value.slice A8 1 c8).ownBlock = some b → SeOk w8 (w.heap.size + 1) b e ∨ SeOk w8 (b + 1) w8.heap.size e) := Lib.hid fun e he => by
    rw [List.mem_singleton.1 he]
    refine ⟨⟨hr8.more (Nat.le_refl _) (by omega), trivial, trivial⟩, fun b hb => .inl ⟨hr8.more (Nat.le_refl _) ?_, trivial, trivial⟩⟩
    rcases hp8 with hp8 | hp8
    · rw [show (Value.slice A8 (0 + 1) c8).ownBlock = (Value.slice A8 1 c8).ownBlock from rfl, hb] at hp8
      cases hp8
    · rw [show (Value.slice A8 (0 + 1) c8).ownBlock = (Value.slice A8 1 c8).ownBlock from rfl, hb] at hp8
      injection hp8 with hp8
      simp at hp8
      omega
  have HB0 : Hid (Below (w.heap.size + 1) (w.alloc (.cells #[.slice (some ad) len cap, .int .i64 (n : Nat), .int .i64 ((n : Nat) + 1 : Int)] 58)) w8) := Lib.hid (by
    have h1 := HB2.out
    rw [HZ0.out] at h1
    exact h1.trans (((by go_grown : Below w2.heap.size w2 _).mono hs2).trans hb8))
  have HB8 := Lib.hid (HB.out.below HB0.out (by omega))
  have HBX8 := Lib.hid (HBX.out.trans (HB0.out.mono (by omega)))
  clear hown8 hg8 hb8 hp8 hkp hs8 hr8 HB0 HB2 HR2 HS2 HB HBX hs2 HZ0 c1 c2 hgt hsub hne
  obtain ⟨X, rfl⟩ : ∃ Z : World, Z = w8 := ⟨_, rfl⟩
  obtain ⟨n0, hn0⟩ : ∃ n0, w.heap.size = n0 := ⟨_, rfl⟩
  have HN := Lib.hid hn0
  rw [hn0] at HB8 HOW HSO
  simp only [hn0]
  clear hn0
  have HB := HB8
  have HBX := HBX8
  have b0 := HB.out.cell (j := 0) rfl
  have b1 := HB.out.cell (j := 1) rfl
  have b2 := HB.out.cell (j := 2) rfl
  have hbl := HB.out.lt
  have hXB : n0 + 1 ≤ X.heap.size := hbl
  refine wp_region_steps (X := Nat × (Value × Value × Value × Value × Value × Value)) (DvS X (n0 + 1) n 1 [⟨1, 0, [⟨4, n, n, n + 1, 0⟩], A2, k2, .nil, none, 0, .nil, none, 0⟩] S1 S2 A8 c8) (fun x j => doneL [0, 0, 0, 0, 0, 0, 1, 0, 0, 0, 0, 0, 0, 2, 3, 4, 5, 6] x.1 j) (effL [0, 0, 0, 0, 0, 0, 1, 0, 0, 0, 0, 0, 0, 2, 3, 4, 5, 6]) (0, (undef, undef, undef, undef, undef, undef)) (fun x => [.slice A8 1 c8, .pointer (some ⟨n0, 1, none⟩), .int .i64 (n : Nat), .agg #[.slice (some ad) len cap, .int .i64 (n : Nat), .int .i64 ((n : Nat) + 1 : Int)], .int .i64 i1, .int .i64 i2, x.2.1, .agg #[.slice (some ad) len cap, .int .i64 (n : Nat), .int .i64 ((n : Nat) + 1 : Int)], .pointer (some ⟨n0, 0, none⟩), .slice (some ad) len cap, .int .i64 i1, .pointer (some (ad.add (i1 * 4))), .agg #[.slice Ac cl cc, .int .i64 te, .int .i64 th, .int .i64 el], x.2.2.1, x.2.2.2.1, x.2.2.2.2.1, x.2.2.2.2.2.1, x.2.2.2.2.2.2]) _ (by kernel_rfl) (by kernel_rfl) (by kernel_rfl) (fun x => by simp only [putsD, Act.put, List.setIfInBounds_toArray, List.set_cons_zero, List.set_cons_succ]; exact rfl) h0L ⟨Below.drew (Below.refl _ _), fun _ => Below.drew (Below.refl _ _), trivial⟩ (fun x => ?_) (fun x wz hDz hSz => ?_)
  · refine AllS.val (by rfl) (by rfl) (fun w hSw hPw => by go_simp) ?_
    refine AllS.val (by rfl) (by rfl) (fun w hSw hPw => by go_simp) ?_
    refine AllS.val (by rfl) (by rfl) (fun w hSw hPw => ?_) ?_
    · (try dsimp only at hSw)
      have c1 := (hSw.1.cell (p := ⟨n0, 1, none⟩) (by show n0 < n0 + 1; omega)).trans b1
      go_simp
    refine AllS.val (by rfl) (by rfl) (fun w hSw hPw => ?_) ?_
    · (try dsimp only at hSw)
      have c0 := (hSw.1.cell (p := ⟨n0, 0, none⟩) (by show n0 < n0 + 1; omega)).trans b0
      have c1 := (hSw.1.cell (p := ⟨n0, 1, none⟩) (by show n0 < n0 + 1; omega)).trans b1
      have c2 := (hSw.1.cell (p := ⟨n0, 2, none⟩) (by show n0 < n0 + 1; omega)).trans b2
      go_simp
    refine AllS.val (by rfl) (by rfl) (fun w hSw hPw => by go_simp) ?_
    refine AllS.val (by rfl) (by rfl) (fun w hSw hPw => by go_simp) ?_
    refine AllS.turn (fun _ _ => rfl) (by rfl) (fun w hSw hPw K hK => ?_) ?_
    · (try dsimp only at hSw)
      have h0 := leH (hPw.me rfl)
      have hx0 : x.1 = 0 := by exact Nat.le_zero.1 h0
      obtain ⟨p, y1, y2, y3, y4, y5, y6⟩ := x
      (try dsimp only at hx0)
      subst hx0
      obtain ⟨hq, hqX, _⟩ := hSw
      have hqX := hqX (Nat.zero_le _)
      go_simp
      go_at_call 29
      refine (HIH.out _ (below_via HBX.out hqX)).mono ?_
      rintro e w7 ⟨v7, rfl, hv7, hb7⟩
      go_simp
      exact hK (1, v7, y2, y3, y4, y5, y6) _ (nxtL rfl (by decide)) ⟨hq.trans (hb7.mono (Nat.le_trans hXB hqX.size)), fun _ => below_via hqX hb7, hv7.mono hqX.size⟩
    refine AllS.val (by rfl) (by rfl) (fun w hSw hPw => ?_) ?_
    · (try dsimp only at hSw)
      have c0 := (hSw.1.cell (p := ⟨n0, 0, none⟩) (by show n0 < n0 + 1; omega)).trans b0
      have c1 := (hSw.1.cell (p := ⟨n0, 1, none⟩) (by show n0 < n0 + 1; omega)).trans b1
      have c2 := (hSw.1.cell (p := ⟨n0, 2, none⟩) (by show n0 < n0 + 1; omega)).trans b2
      go_simp
    refine AllS.val (by rfl) (by rfl) (fun w hSw hPw => by go_simp) ?_
    refine AllS.val (by rfl) (by rfl) (fun w hSw hPw => ?_) ?_
    · (try dsimp only at hSw)
      have c0 := (hSw.1.cell (p := ⟨n0, 0, none⟩) (by show n0 < n0 + 1; omega)).trans b0
      go_simp
    refine AllS.val (by rfl) (by rfl) (fun w hSw hPw => by go_simp) ?_
    refine AllS.val (by rfl) (by rfl) (fun w hSw hPw => by go_simp) ?_
    refine AllS.val (by rfl) (by rfl) (fun w hSw hPw => ?_) ?_
    · (try dsimp only at hSw)
      obtain ⟨d0, d1, d2, d3⟩ := HC.out w (HBX.out.trans (hSw.1.mono (by rw [HN.out]; omega)))
      go_simp
    refine AllS.turn (fun _ _ => rfl) (by rfl) (fun w hSw hPw K hK => ?_) ?_
    · (try dsimp only at hSw)
      have h0 := leH (hPw.me rfl)
      have h1 := geH (hPw.need (k := 6) rfl (by kernel_rfl))
      have hx0 : x.1 = 1 := Nat.le_antisymm h0 h1
      obtain ⟨p, y1, y2, y3, y4, y5, y6⟩ := x
      (try dsimp only at hx0)
      subst hx0
      obtain ⟨hq, hqX, hy1⟩ := hSw
      have hqX := hqX (by show (1 : Nat) ≤ 4; omega)
      go_simp
      go_at_call 44
      refine (HEB.out _ (below_via HBX.out hqX)).mono ?_
      rintro e w7 ⟨v7, rfl, hv7, hb7⟩
      go_simp
      exact hK (2, y1, v7, y3, y4, y5, y6) _ (nxtL rfl (by decide)) ⟨hq.trans (hb7.mono (Nat.le_trans hXB hqX.size)), fun _ => below_via hqX hb7, hy1.up hb7, hv7.mono hqX.size⟩
    refine AllS.turn (fun _ _ => rfl) (by rfl) (fun w hSw hPw K hK => ?_) ?_
    · (try dsimp only at hSw)
      have h0 := leH (hPw.me rfl)
      have h1 := geH (hPw.need (k := 13) rfl (by kernel_rfl))
      have hx0 : x.1 = 2 := Nat.le_antisymm h0 h1
      obtain ⟨p, y1, y2, y3, y4, y5, y6⟩ := x
      (try dsimp only at hx0)
      subst hx0
      obtain ⟨hq, hqX, ⟨A1, k1, e1, hr1⟩, A3, k3, e2, hr2⟩ := hSw
      (try dsimp only at e1)
      (try dsimp only at e2)
      subst e1
      subst e2
      go_simp
      exact hK (3, .slice A1 S1.len k1, .slice A3 S2.len k3, .agg #[.int .i64 2, .int .i64 (n : Nat), .slice none 0 0, .slice A1 S1.len k1, .slice A3 S2.len k3], y4, y5, y6) _ (nxtL rfl (by decide)) ⟨hq, fun _ => hqX (by show (2 : Nat) ≤ 4; omega), A1, k1, A3, k3, rfl, hr1, hr2⟩
    refine AllS.turn (fun _ _ => rfl) (by rfl) (fun w hSw hPw K hK => ?_) ?_
    · (try dsimp only at hSw)
      have h0 := leH (hPw.me rfl)
      have h1 := geH (hPw.need (k := 14) rfl (by kernel_rfl))
      have hx0 : x.1 = 3 := Nat.le_antisymm h0 h1
      obtain ⟨p, y1, y2, y3, y4, y5, y6⟩ := x
      (try dsimp only at hx0)
      subst hx0
      obtain ⟨hq, hqX, A1, k1, A3, k3, e3, hr1, hr2⟩ := hSw
      (try dsimp only at e3)
      subst e3
      have hqX := hqX (by show (3 : Nat) ≤ 4; omega)
      go_simp
      exact hK (4, y1, y2, .agg #[.int .i64 2, .int .i64 (n : Nat), .slice none 0 0, .slice A1 S1.len k1, .slice A3 S2.len k3], .slice (some ⟨w.heap.size, 0, none⟩) 1 1, y5, y6) _ (nxtL rfl (by decide)) ⟨hq.trans ((by go_grown : Below w.heap.size w _).mono (Nat.le_trans hXB hqX.size)), fun _ => below_via hqX (by go_grown), A1, k1, A3, k3, w.heap.size, rfl, hr1.up (by go_grown), hr2.up (by go_grown), cells_at rfl (cSe ⟨2, n, [], none, 0, S1, A1, k1, S2, A3, k3⟩) _⟩
    refine AllS.turn (fun _ _ => rfl) (by rfl) (fun w hSw hPw K hK => ?_) ?_
    · (try dsimp only at hSw)
      have h0 := leH (hPw.me rfl)
      have h1 := geH (hPw.need (k := 15) rfl (by kernel_rfl))
      have hx0 : x.1 = 4 := Nat.le_antisymm h0 h1
      obtain ⟨p, y1, y2, y3, y4, y5, y6⟩ := x
      (try dsimp only at hx0)
      subst hx0
      obtain ⟨hq, hqX, A1, k1, A3, k3, g, e4, hr1, hr2, hcs⟩ := hSw
      (try dsimp only at e4)
      subst e4
      have hqX := hqX (by show (4 : Nat) ≤ 4; omega)
      refine oper_app' (.tmp 32) (.tmp 47) 22 rfl (n0 + 1) 55 5 88 shape_app (rv cSe [⟨1, 0, [⟨4, n, n, n + 1, 0⟩], A2, k2, .nil, none, 0, .nil, none, 0⟩]) rfl (own_below HOW.out hqX) (cSe ⟨2, n, [], none, 0, S1, A1, k1, S2, A3, k3⟩) rfl rfl (fun h => by cases h) hcs (cSe_one _) (by unfold maxLen; omega) (by omega) (Nat.le_trans hXB hqX.size) ?_
      intro A8 c8 w8 hown8 hg8 hb8 hbl8
      exact hK (5, y1, y2, y3, _, .slice A8 (1 + 1) c8, y6) _ (nxtL rfl (by decide)) ⟨hq.trans hb8, fun h => absurd h (by show ¬ (5 : Nat) ≤ 4; omega), _, rfl, A1, k1, A3, k3, due_app rfl HOW.out HSO.out hqX hXB hr1 hr2 hown8 hg8⟩
    refine AllS.turn (fun _ _ => rfl) (by rfl) (fun w hSw hPw K hK => ?_) ?_
    · (try dsimp only at hSw)
      have h0 := leH (hPw.me rfl)
      have h1 := geH (hPw.need (k := 16) rfl (by kernel_rfl))
      have hx0 : x.1 = 5 := Nat.le_antisymm h0 h1
      obtain ⟨p, y1, y2, y3, y4, y5, y6⟩ := x
      (try dsimp only at hx0)
      subst hx0
      obtain ⟨hq, hqX, R, hR, A1, k1, A3, k3, hy⟩ := hSw
      go_simp
      exact hK (6, y1, y2, y3, y4, y5, y5) _ (nxtL rfl (by decide)) ⟨hq, fun h => absurd h (by show ¬ (6 : Nat) ≤ 4; omega), R, hR, A1, k1, A3, k3, hy⟩
    exact AllS.nil
  have hd4 := geH (hDz 17 (by decide) (by decide))
  obtain ⟨p, y1, y2, y3, y4, y5, y6⟩ := x
  (try dsimp only at hd4)
  obtain ⟨q, rfl⟩ : ∃ q, p = q + 6 := ⟨p - 6, by simp at hd4; omega⟩
  obtain ⟨hq, _, R, hR, A1, k1, A3, k3, hy⟩ := hSz
  (try dsimp only at hy)
  subst hR
  have HY := Lib.hid hy
  have HBE := Lib.hid (HBX.out.trans (hq.mono (by rw [HN.out]; omega)))
  clear hDz hd4 hy hq b0 b1 b2
  go_wp2
  go_ret
  exact ⟨_, rfl, HY.out.mono (by rw [HN.out]; omega), HBE.out⟩


theorem executeDue_any (A : Option Addr) (len cap n : Nat) (p : List Bk) (hl : p.length = len) (hm : ∀ b ∈ p, b.code.length ≤ 65535) (hlen : len ≤ 65535) : ∀ (m i : Nat) (w : World), len - i ≤ m → i < len → RdP w w.heap.size A p →
    Calls Try.prog 29 #[.agg #[.slice A len cap, .int .i64 (n : Nat), .int .i64 ((n : Nat) + 1 : Int)], .int .i64 (i : Nat)] w fun e w' => DueTo n i (p.drop i) w e w'
  | 0, i, w, h, hi, _ => by omega
  | m + 1, i, w, h, hi, hx => by
    by_cases hlast : i + 1 = len
    · exact executeDue_last A len cap n i p w hx hl hm hlen hlast
    · cases i with
      | zero => exact executeDue_first A len cap n p w hx hl hm hlen (by omega) fun Z hZ => executeDue_any A len cap n p hl hm hlen m 1 Z (by omega) (by omega) ((hx.below hZ (Nat.le_refl _)).more hZ.size)
      | succ i => exact executeDue_more A len cap n i p w hx hl hm hlen (by omega) fun Z hZ => executeDue_any A len cap n p hl hm hlen m (i + 2) Z (by omega) (by omega) ((hx.below hZ (Nat.le_refl _)).more hZ.size)

/-- U2: what is wrong with Build's arguments -/
def ckBld (vars : Int) (p : List Bk) : Int := if ckProg vars p = 0 then (if 4 < vars then 1 else 0) else ckProg vars p

/-- the last region of Build, value by value -/
def BdR (X : World) (lo n : Nat) (S1 S : Sh) (x : Nat × Value × Value × Value × Value) (w : World) : Prop := Below X.heap.size X w ∧ match x.1 with
  | 0 => True
  | 1 => LstV lo S1 x.2.1 w
  | 2 => ∃ A c, x.2.2.1 = .agg #[.int .i64 3, .int .i64 ((n : Nat) + 1 : Int), .slice none 0 0, .slice A S1.len c, .slice none 0 0] ∧ RdH w lo w.heap.size S1 A 0
  | 3 => LstV lo S x.2.2.2.1 w
  | _ => LstV lo S x.2.2.2.2 w

/-- the literal of the whole -/
theorem bld_lit {lo n k3 k1 : Nat} {A3 A1 : Option Addr} {S1 : Sh} {w : World} (h : RdSL w lo w.heap.size A3 [⟨1, (n : Int) + 1, 0, 0, 1⟩]) (h1 : RdH w lo w.heap.size S1 A1 0) (hlo : lo ≤ w.heap.size) :
    LstV lo (.cons 1 0 [snS (n + 1) 1] .nil .nil (.cons 3 ((n : Nat) + 1 : Int) [] S1 .nil .nil)) (.slice (some ⟨w.heap.size, 0, none⟩) 2 2) (w.alloc (.cells #[.int .i64 1, .int .i64 0, .slice A3 1 k3, .slice none 0 0, .slice none 0 0, .int .i64 3, .int .i64 ((n : Nat) + 1 : Int), .slice none 0 0, .slice A1 S1.len k1, .slice none 0 0] 55)) := by
  refine ⟨_, _, rfl, rdH_lit (es := [⟨1, 0, [snS (n + 1) 1], A3, k3, .nil, none, 0, .nil, none, 0⟩, ⟨3, (n : Nat) + 1, [], none, 0, S1, A1, k1, .nil, none, 0⟩]) (Own.new w _ _) hlo fun x hx => ?_⟩
  rcases List.mem_cons.1 hx with rfl | hx
  · exact ⟨h.up (by go_grown), trivial, trivial⟩
  · rw [List.mem_singleton.1 hx]
    exact ⟨RdSL.nil _ _ _, h1.up (by go_grown), trivial⟩

set_option maxHeartbeats 16000000 in
theorem build_any (A : Option Addr) (len cap n : Nat) (p : List Bk) (w : World) (hx : RdP w w.heap.size A p) (hl : p.length = len) (hc : ckProg n p = 0) (hn : n ≤ 4) :
    Calls Try.prog 11 #[.int .i64 n, .slice A len cap] w fun e w' => ∃ v, e = .returned (.tuple #[v, .int .i64 0]) ∧ LstV w.heap.size (blSh n p) v w' ∧ Below w.heap.size w w' := by
  obtain ⟨b1, b2, b3, b4, b5, _⟩ := ckProg_bd hc
  rw [hl] at b3 b4
  have hm : ∀ b ∈ p, b.code.length ≤ 65535 := fun b hb => by
    obtain ⟨k, hk, rfl⟩ := List.getElem_of_mem hb
    have := manyS_le (List.getElem?_eq_getElem hk)
    omega
  have HCK := Lib.hid (blockCheck_any n A len cap p w hx hl (by unfold maxLen; omega) (CodeFits.of_ok hc))
  rw [hc] at HCK
  have HCO := Lib.hid (fun (Z : World) => codeOf_any none 0 0 [] 1 ((n : Int) + 1) 0 0 1 Z (fun h => by simp at h) rfl (by omega))
  obtain ⟨S1, hS1⟩ : ∃ S, xdSh n 0 p = S := ⟨_, rfl⟩
  have HIH := Lib.hid (fun (Z : World) (hZ : Below w.heap.size w Z) => executeDue_any A len cap n p hl hm (by omega) len 0 Z (by omega) (by omega) ((hx.below hZ (Nat.le_refl _)).more hZ.size))
  unfold DueTo at HIH
  rw [List.drop_zero, hS1] at HIH
  have HR : Hid (blSh n p = .cons 1 0 [snS (n + 1) 1] .nil .nil (.cons 3 ((n : Nat) + 1 : Int) [] S1 .nil .nil)) := Lib.hid (by unfold blSh; rw [hS1]; rfl)
  rw [HR.out]
  have hgt : decide (4 < n) = false := by simp; omega
  clear hx hl hc hm hS1 b1 b2 b5 b3
  go_enter Try.func11, Try.ntmps11
  go_upto_region 8 with (first
    | (go_at_call 26; (with_reducible refine HCK.out.mono ?_); rintro e w1 ⟨rfl, hb1⟩; have HB1 := Lib.hid hb1; clear hb1)
    | (go_at_call 28; (with_reducible refine (setNumber_any _ _ _).mono ?_); rintro e w2 ⟨rfl, hb2⟩; have HB2 := Lib.hid hb2; clear hb2)
    | (go_at_call 27; refine (HCO.out _).mono ?_; rintro e w3 ⟨A3, k3, rfl, hr3, hb3⟩; have HR3 := Lib.hid hr3; have HB3 := Lib.hid hb3; clear hr3 hb3))
  obtain ⟨Y, hY⟩ : ∃ Y, Y = w1.alloc (.cells #[.slice A len cap, .int .i64 (n : Nat), .int .i64 ((n : Nat) + 1 : Int)] 58) := ⟨_, rfl⟩
  have HBY : Hid (Own Y w1.heap.size 58 [.slice A len cap, .int .i64 (n : Nat), .int .i64 ((n : Nat) + 1 : Int)]) := Lib.hid (by rw [hY]; exact Own.new w1 _ _)
  have HY1 : Hid (Below w1.heap.size w1 Y) := Lib.hid (by rw [hY]; go_grown)
  rw [← hY] at HB2
  clear hY
  have HSS : Hid (w3.heap.size = w3.heap.size) := Lib.hid rfl
  obtain ⟨X, hX⟩ : ∃ X, X = w3.alloc (.cells #[.int .i64 1, .int .i64 0, .slice A3 1 k3, .slice none 0 0, .slice none 0 0] 55) := ⟨_, rfl⟩
  have HSX : Hid (Own X w3.heap.size 55 [.int .i64 1, .int .i64 0, .slice A3 1 k3, .slice none 0 0, .slice none 0 0]) := Lib.hid (by rw [hX]; exact Own.new w3 _ _)
  have HX3 : Hid (Below w3.heap.size w3 X) := Lib.hid (by rw [hX]; go_grown)
  have HYX := Lib.hid (below_via (below_via HB2.out HB3.out) HX3.out)
  have HBB := Lib.hid (HBY.out.below HYX.out HBY.out.lt)
  have HBX := Lib.hid (below_via (below_via HB1.out HY1.out) HYX.out)
  have HRX : Hid (RdSL X w.heap.size X.heap.size A3 [⟨1, (n : Int) + 1, 0, 0, 1⟩]) := Lib.hid ((RdSL.up HR3.out HX3.out).more (below_via (below_via HB1.out HY1.out) HB2.out).size (Nat.le_refl _))
  rw [← hX]
  clear hX HR3 HB3 HB2 HY1 HYX HBY HB1 HSS hgt
  obtain ⟨n0, hn0⟩ : ∃ n0, w1.heap.size = n0 := ⟨_, rfl⟩
  obtain ⟨n1, hn1⟩ : ∃ n1, w3.heap.size = n1 := ⟨_, rfl⟩
  rw [hn0] at HBB
  rw [hn1] at HSX
  simp only [hn0, hn1]
  clear hn0 hn1 HX3
  have b0 := HBB.out.cell (j := 0) rfl
  have b1 := HBB.out.cell (j := 1) rfl
  have b2 := HBB.out.cell (j := 2) rfl
  have hbl := HBB.out.lt
  have s0 := HSX.out.cell (j := 0) rfl
  have s1 := HSX.out.cell (j := 1) rfl
  have s2 := HSX.out.cell (j := 2) rfl
  have s3 := HSX.out.cell (j := 3) rfl
  have s4 := HSX.out.cell (j := 4) rfl
  have hsl := HSX.out.lt
  refine wp_region_steps (X := Nat × (Value × Value × Value × Value)) (BdR X w.heap.size n S1 (.cons 1 0 [snS (n + 1) 1] .nil .nil (.cons 3 ((n : Nat) + 1 : Int) [] S1 .nil .nil))) (fun x j => doneL [0, 0, 0, 0, 1, 2, 3, 4, 0] x.1 j) (effL [0, 0, 0, 0, 1, 2, 3, 4, 0]) (0, (undef, undef, undef, undef)) (fun x => [.agg #[.int .i64 1, .int .i64 0, .slice A3 1 k3, .slice none 0 0, .slice none 0 0], .pointer (some ⟨n0, 2, none⟩), .int .i64 ((n : Nat) + 1 : Int), .agg #[.slice A len cap, .int .i64 (n : Nat), .int .i64 ((n : Nat) + 1 : Int)], x.2.1, x.2.2.1, x.2.2.2.1, x.2.2.2.2, .int .i64 0]) _ (by kernel_rfl) (by kernel_rfl) (by kernel_rfl) (fun x => by simp only [putsD, Act.put, List.setIfInBounds_toArray, List.set_cons_zero, List.set_cons_succ]; exact rfl) h0L ⟨Below.drew (Below.refl _ _), trivial⟩ (fun x => ?_) (fun x wz hDz hSz => ?_)
  · refine AllS.val (by rfl) (by rfl) (fun w hSw hPw => ?_) ?_
    · (try dsimp only at hSw)
      have c0 := (hSw.1.cell (p := ⟨n1, 0, none⟩) hsl).trans s0
      have c1 := (hSw.1.cell (p := ⟨n1, 1, none⟩) hsl).trans s1
      have c2 := (hSw.1.cell (p := ⟨n1, 2, none⟩) hsl).trans s2
      have c3 := (hSw.1.cell (p := ⟨n1, 3, none⟩) hsl).trans s3
      have c4 := (hSw.1.cell (p := ⟨n1, 4, none⟩) hsl).trans s4
      go_simp
    refine AllS.val (by rfl) (by rfl) (fun w hSw hPw => by go_simp) ?_
    refine AllS.val (by rfl) (by rfl) (fun w hSw hPw => ?_) ?_
    · (try dsimp only at hSw)
      have c0 := (hSw.1.cell (p := ⟨n0, 2, none⟩) hbl).trans b2
      go_simp
    refine AllS.val (by rfl) (by rfl) (fun w hSw hPw => ?_) ?_
    · (try dsimp only at hSw)
      have c0 := (hSw.1.cell (p := ⟨n0, 0, none⟩) hbl).trans b0
      have c1 := (hSw.1.cell (p := ⟨n0, 1, none⟩) hbl).trans b1
      have c2 := (hSw.1.cell (p := ⟨n0, 2, none⟩) hbl).trans b2
      go_simp
    refine AllS.turn (fun _ _ => rfl) (by rfl) (fun w hSw hPw K hK => ?_) ?_
    · (try dsimp only at hSw)
      have h0 := leH (hPw.me rfl)
      have hx0 : x.1 = 0 := by exact Nat.le_zero.1 h0
      obtain ⟨p, y1, y2, y3, y4⟩ := x
      (try dsimp only at hx0)
      subst hx0
      obtain ⟨hq, _⟩ := hSw
      go_simp
      go_at_call 29
      refine (HIH.out _ (below_via HBX.out hq)).mono ?_
      rintro e w7 ⟨v7, rfl, hv7, hb7⟩
      go_simp
      exact hK (1, v7, y2, y3, y4) _ (nxtL rfl (by decide)) ⟨below_via hq hb7, hv7.mono (below_via HBX.out hq).size⟩
    refine AllS.turn (fun _ _ => rfl) (by rfl) (fun w hSw hPw K hK => ?_) ?_
    · (try dsimp only at hSw)
      have h0 := leH (hPw.me rfl)
      have h1 := geH (hPw.need (k := 4) rfl (by kernel_rfl))
      have hx0 : x.1 = 1 := Nat.le_antisymm h0 h1
      obtain ⟨p, y1, y2, y3, y4⟩ := x
      (try dsimp only at hx0)
      subst hx0
      obtain ⟨hq, A1, k1, e1, hr1⟩ := hSw
      (try dsimp only at e1)
      subst e1
      go_simp
      exact hK (2, .slice A1 S1.len k1, .agg #[.int .i64 3, .int .i64 ((n : Nat) + 1 : Int), .slice none 0 0, .slice A1 S1.len k1, .slice none 0 0], y3, y4) _ (nxtL rfl (by decide)) ⟨hq, A1, k1, rfl, hr1⟩
    refine AllS.turn (fun _ _ => rfl) (by rfl) (fun w hSw hPw K hK => ?_) ?_
    · (try dsimp only at hSw)
      have h0 := leH (hPw.me rfl)
      have h1 := geH (hPw.need (k := 5) rfl (by kernel_rfl))
      have hx0 : x.1 = 2 := Nat.le_antisymm h0 h1
      obtain ⟨p, y1, y2, y3, y4⟩ := x
      (try dsimp only at hx0)
      subst hx0
      obtain ⟨hq, A1, k1, e1, hr1⟩ := hSw
      (try dsimp only at e1)
      subst e1
      have HT := bld_lit (n := n) (k3 := k3) (k1 := k1) (HRX.out.up hq) hr1 (below_via HBX.out hq).size
      go_simp
      exact hK (3, y1, .agg #[.int .i64 3, .int .i64 ((n : Nat) + 1 : Int), .slice none 0 0, .slice A1 S1.len k1, .slice none 0 0], .slice (some ⟨w.heap.size, 0, none⟩) 2 2, y4) _ (nxtL rfl (by decide)) ⟨below_via hq (by go_grown), HT⟩
    refine AllS.turn (fun _ _ => rfl) (by rfl) (fun w hSw hPw K hK => ?_) ?_
    · (try dsimp only at hSw)
      have h0 := leH (hPw.me rfl)
      have h1 := geH (hPw.need (k := 6) rfl (by kernel_rfl))
      have hx0 : x.1 = 3 := Nat.le_antisymm h0 h1
      obtain ⟨p, y1, y2, y3, y4⟩ := x
      (try dsimp only at hx0)
      subst hx0
      obtain ⟨hq, hy⟩ := hSw
      go_simp
      exact hK (4, y1, y2, y3, y3) _ (nxtL rfl (by decide)) ⟨hq, hy⟩
    refine AllS.val (by rfl) (by rfl) (fun w hSw hPw => by go_simp) ?_
    exact AllS.nil
  have hd4 := geH (hDz 7 (by decide) (by decide))
  obtain ⟨p, y1, y2, y3, y4⟩ := x
  (try dsimp only at hd4)
  obtain ⟨q, rfl⟩ : ∃ q, p = q + 4 := ⟨p - 4, by simp at hd4; omega⟩
  obtain ⟨hq, hy⟩ := hSz
  (try dsimp only at hy)
  have HY := Lib.hid hy
  have HBE := Lib.hid (below_via HBX.out hq)
  clear hDz hd4 hy hq b0 b1 b2 s0 s1 s2 s3 s4
  go_wp2
  go_returns
  exact ⟨_, rfl, HY.out, HBE.out⟩

set_option maxHeartbeats 4000000 in
theorem build_bad (A : Option Addr) (len cap : Nat) (vars : Int) (p : List Bk) (w : World) (hx : RdP w w.heap.size A p) (hl : p.length = len) (hm : len ≤ maxLen) (hin : ∀ b ∈ p, InBk b) (hc : ckBld vars p ≠ 0) :
    Calls Try.prog 11 #[.int .i64 vars, .slice A len cap] w fun e w' => e = .returned (.tuple #[.slice none 0 0, .int .i64 (ckBld vars p)]) ∧ Below w.heap.size w w' := by
  have HCK := Lib.hid (blockCheck_any vars A len cap p w hx hl hm (CodeFits.of_in hin))
  unfold ckBld at hc ⊢
  by_cases h0 : ckProg vars p = 0
  · rw [if_pos h0] at hc ⊢
    have h4 : 4 < vars := by
      rcases Int.lt_or_le 4 vars with h | h
      · exact h
      · rw [if_neg (by omega)] at hc; exact absurd rfl hc
    rw [if_pos h4]
    rw [h0] at HCK
    have hgt : decide (4 < vars) = true := by simp; omega
    clear hx hin hc h0
    go_enter Try.func11, Try.ntmps11
    go_wp2_with (go_at_call 26; (with_reducible refine HCK.out.mono ?_); rintro e w1 ⟨rfl, hb1⟩)
    go_returns
    exact ⟨rfl, hb1⟩
  · rw [if_neg h0]
    obtain ⟨c, hce⟩ : ∃ c, ckProg vars p = c := ⟨_, rfl⟩
    rw [hce] at HCK h0 ⊢
    have hne : (c != 0) = true := by simp [h0]
    clear hx hin hc h0 hce
    go_enter Try.func11, Try.ntmps11
    go_wp2_with (go_at_call 26; (with_reducible refine HCK.out.mono ?_); rintro e w1 ⟨rfl, hb1⟩)
    go_returns
    exact ⟨rfl, hb1⟩

end Go.Proofs.Ytlfmofhimkndoaa
