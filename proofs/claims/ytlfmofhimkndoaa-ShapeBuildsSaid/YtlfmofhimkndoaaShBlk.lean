/-
  shape.executeBlock (U2): a block as shapes.
-/
import Derived.Test.YtlfmofhimkndoaaShCode
namespace Go.Proofs.Ytlfmofhimkndoaa
open Go.RowKit
set_option linter.unusedSimpArgs false
set_option linter.unusedVariables false
set_option maxRecDepth 100000

/-- a shape of steps, as a value -/
def CodV (lo m : Nat) (l : List St) (v : Value) (w : World) : Prop := ∃ A c, v = .agg #[.int .i64 1, .int .i64 0, .slice A m c, .slice none 0 0, .slice none 0 0] ∧ l.length = m ∧ RdSL w lo w.heap.size A l

theorem CodV.up {lo m : Nat} {l : List St} {v : Value} {w w' : World} (h : CodV lo m l v w) (hb : Below w.heap.size w w') : CodV lo m l v w' := by
  obtain ⟨A, c, e, hl, h1⟩ := h
  exact ⟨A, c, e, hl, h1.up hb⟩

/-- a list of shapes, as a value -/
def LstV (lo : Nat) (l : Sh) (v : Value) (w : World) : Prop := ∃ A c, v = .slice A l.len c ∧ RdH w lo w.heap.size l A 0

theorem LstV.up {lo : Nat} {l : Sh} {v : Value} {w w' : World} (h : LstV lo l v w) (hb : Below w.heap.size w w') : LstV lo l v w' := by
  obtain ⟨A, c, e, h1⟩ := h
  exact ⟨A, c, e, h1.up hb⟩

theorem LstV.mono {lo lo' : Nat} {l : Sh} {v : Value} {w : World} (h : LstV lo l v w) (hl : lo' ≤ lo) : LstV lo' l v w := by
  obtain ⟨A, c, e, h1⟩ := h
  exact ⟨A, c, e, h1.more hl (Nat.le_refl _)⟩

theorem LstV.rd {lo : Nat} {l : Sh} {A : Option Addr} {n c : Nat} {w : World} (h : LstV lo l (.slice A n c) w) : RdH w lo w.heap.size l A 0 ∧ n = l.len := by
  obtain ⟨A', c', e, h1⟩ := h
  injection e with e1 e2 e3
  subst e1 e2
  exact ⟨h1, rfl⟩

/-- a literal of one shape of steps -/
theorem lstV_one {lo m : Nat} {l : List St} {A : Option Addr} {c : Nat} {w : World} (h : RdSL w lo w.heap.size A l) (hlo : lo ≤ w.heap.size) {s : St} {code : List St} (hl : l = cpS code ++ [s]) (hm : l.length = m) :
    LstV lo (cdSh code s .nil) (.slice (some ⟨w.heap.size, 0, none⟩) 1 1) (w.alloc (.cells #[.int .i64 1, .int .i64 0, .slice A m c, .slice none 0 0, .slice none 0 0] 55)) := by
  subst hl
  subst hm
  refine ⟨_, _, rfl, rdH_lit (es := [⟨1, 0, cpS code ++ [s], A, c, .nil, none, 0, .nil, none, 0⟩]) (Own.new w _ _) hlo fun x hx => ?_⟩
  rw [List.mem_singleton.1 hx]
  exact ⟨h.up (by go_grown), trivial, trivial⟩

/-- a literal of a shape of steps, and one with a test -/
theorem lstV_two {lo m k : Nat} {l : List St} {A At : Option Addr} {c ct : Nat} {w : World} (h : RdSL w lo w.heap.size A l) (hlo : lo ≤ w.heap.size) {s : St} {code : List St} (hl : l = cpS code ++ [s]) (hm : l.length = m) {te : Int} {th : Sh} (ht : RdH w lo w.heap.size th At 0) (hk : th.len = k) :
    LstV lo (cdSh code s (.cons 2 te [] th .nil .nil)) (.slice (some ⟨w.heap.size, 0, none⟩) 2 2) (w.alloc (.cells #[.int .i64 1, .int .i64 0, .slice A m c, .slice none 0 0, .slice none 0 0, .int .i64 2, .int .i64 te, .slice none 0 0, .slice At k ct, .slice none 0 0] 55)) := by
  subst hl
  subst hm
  subst hk
  refine ⟨_, _, rfl, rdH_lit (es := [⟨1, 0, cpS code ++ [s], A, c, .nil, none, 0, .nil, none, 0⟩, ⟨2, te, [], none, 0, th, At, ct, .nil, none, 0⟩]) (Own.new w _ _) hlo fun x hx => ?_⟩
  rcases List.mem_cons.1 hx with rfl | hx
  · exact ⟨h.up (by go_grown), trivial, trivial⟩
  · rw [List.mem_singleton.1 hx]
    exact ⟨RdSL.nil _ _ _, ht.up (by go_grown), trivial⟩

/-- the region, value by value -/
def BlS (X : World) (lo m : Nat) (l : List St) (S : Sh) (x : Nat × Value × Value × Value) (w : World) : Prop := Below X.heap.size X w ∧ match x.1 with
  | 0 => True
  | 1 => True
  | 2 => CodV lo m l x.2.1 w
  | 3 => LstV lo S x.2.2.1 w
  | _ => LstV lo S x.2.2.2 w

set_option maxHeartbeats 16000000 in
theorem executeBlock_any (A : Option Addr) (len cap n : Nat) (Ac : Option Addr) (cl cc : Nat) (code : List St) (te th el : Int) (w : World) (hx : RdS w w.heap.size Ac code) (hl : code.length = cl) (hm : cl ≤ 65535) :
    Calls Try.prog 44 #[.agg #[.slice A len cap, .int .i64 (n : Nat), .int .i64 ((n : Nat) + 1 : Int)], .agg #[.slice Ac cl cc, .int .i64 te, .int .i64 th, .int .i64 el]] w fun e w' => ∃ v, e = .returned v ∧ LstV w.heap.size (xbSh n ⟨code, te, th, el⟩) v w' ∧ Below w.heap.size w w' := by
  have HL := Lib.hid hl
  have HX := Lib.hid hx
  have HB : Hid (Own ((w.alloc (.cells #[.slice A len cap, .int .i64 (n : Nat), .int .i64 ((n : Nat) + 1 : Int)] 58)).alloc (.cells #[.slice Ac cl cc, .int .i64 te, .int .i64 th, .int .i64 el] 65)) w.heap.size 58 [.slice A len cap, .int .i64 (n : Nat), .int .i64 ((n : Nat) + 1 : Int)]) := Lib.hid ((Own.new w 58 [.slice A len cap, .int .i64 (n : Nat), .int .i64 ((n : Nat) + 1 : Int)]).alloc _)
  have HK : Hid (Own ((w.alloc (.cells #[.slice A len cap, .int .i64 (n : Nat), .int .i64 ((n : Nat) + 1 : Int)] 58)).alloc (.cells #[.slice Ac cl cc, .int .i64 te, .int .i64 th, .int .i64 el] 65)) (w.heap.size + 1) 65 [.slice Ac cl cc, .int .i64 te, .int .i64 th, .int .i64 el]) := Lib.hid (own_two w _ 65 [.slice Ac cl cc, .int .i64 te, .int .i64 th, .int .i64 el])
  have HBX : Hid (Below w.heap.size w ((w.alloc (.cells #[.slice A len cap, .int .i64 (n : Nat), .int .i64 ((n : Nat) + 1 : Int)] 58)).alloc (.cells #[.slice Ac cl cc, .int .i64 te, .int .i64 th, .int .i64 el] 65))) := Lib.hid (by go_grown)
  by_cases ht : te = -1
  · subst ht
    have HS : Hid (xbSh n ⟨code, -1, th, el⟩ = cdSh code (prS n th) .nil) := Lib.hid rfl
    rw [HS.out]
    obtain ⟨s, hs⟩ : ∃ s, prS n th = s := ⟨_, rfl⟩
    have HPR := Lib.hid (proceed_any A len cap n th)
    rw [hs] at HPR ⊢
    obtain ⟨so, st, sa, sb, sv⟩ := s
    simp only at HPR
    clear hs
    have HCO := Lib.hid (fun (Z : World) (hZ : Below w.heap.size w Z) => codeOf_any Ac cl cc code so st sa sb sv Z (hx.up hZ) hl hm)
    clear hx hl
    go_enter Try.func44, Try.ntmps44
    go_upto_region 2 with fail
    obtain ⟨X, hX⟩ : ∃ X, X = (w.alloc (.cells #[.slice A len cap, .int .i64 (n : Nat), .int .i64 ((n : Nat) + 1 : Int)] 58)).alloc (.cells #[.slice Ac cl cc, .int .i64 (-1), .int .i64 th, .int .i64 el] 65) := ⟨_, rfl⟩
    rw [← hX] at HB HK HBX ⊢
    clear hX
    obtain ⟨n0, hn0⟩ : ∃ n0, w.heap.size = n0 := ⟨_, rfl⟩
    obtain ⟨n1, hn1⟩ : ∃ n1, n0 + 1 = n1 := ⟨_, rfl⟩
    have HN := Lib.hid hn0
    rw [hn0] at HB HK
    rw [hn1] at HK
    simp only [hn0, hn1]
    clear hn0 hn1
    have b0 := HB.out.cell (j := 0) rfl
    have b1 := HB.out.cell (j := 1) rfl
    have b2 := HB.out.cell (j := 2) rfl
    have hbl := HB.out.lt
    have k0 := HK.out.cell (j := 0) rfl
    have k2 := HK.out.cell (j := 2) rfl
    have hkl := HK.out.lt
    refine wp_region_steps (X := Nat × (Value × Value × Value)) (BlS X n0 (cl + 1) (cpS code ++ [⟨so, st, sa, sb, sv⟩]) (cdSh code ⟨so, st, sa, sb, sv⟩ .nil)) (fun x j => doneL [0, 0, 0, 0, 0, 1, 2, 3, 4] x.1 j) (effL [0, 0, 0, 0, 0, 1, 2, 3, 4]) (0, (undef, undef, undef)) (fun x => [.pointer (some ⟨n1, 0, none⟩), .slice Ac cl cc, .agg #[.slice A len cap, .int .i64 (n : Nat), .int .i64 ((n : Nat) + 1 : Int)], .pointer (some ⟨n1, 2, none⟩), .int .i64 th, .agg #[.int .i64 so, .int .i64 st, .int .i64 sa, .int .i64 sb, .int .i64 sv], x.2.1, x.2.2.1, x.2.2.2]) _ (by kernel_rfl) (by kernel_rfl) (by kernel_rfl) (fun x => by simp only [putsD, Act.put, List.setIfInBounds_toArray, List.set_cons_zero, List.set_cons_succ]; exact rfl) h0L ⟨Below.drew (Below.refl _ _), trivial⟩ (fun x => ?_) (fun x wz hDz hSz => ?_)
    · refine AllS.val (by rfl) (by rfl) (fun w hSw hPw => by go_simp) ?_
      refine AllS.val (by rfl) (by rfl) (fun w hSw hPw => ?_) ?_
      · (try dsimp only at hSw)
        have c0 := (hSw.1.cell (p := ⟨n1, 0, none⟩) hkl).trans k0
        go_simp
      refine AllS.val (by rfl) (by rfl) (fun w hSw hPw => ?_) ?_
      · (try dsimp only at hSw)
        have c0 := (hSw.1.cell (p := ⟨n0, 0, none⟩) hbl).trans b0
        have c1 := (hSw.1.cell (p := ⟨n0, 1, none⟩) hbl).trans b1
        have c2 := (hSw.1.cell (p := ⟨n0, 2, none⟩) hbl).trans b2
        go_simp
      refine AllS.val (by rfl) (by rfl) (fun w hSw hPw => by go_simp) ?_
      refine AllS.val (by rfl) (by rfl) (fun w hSw hPw => ?_) ?_
      · (try dsimp only at hSw)
        have c0 := (hSw.1.cell (p := ⟨n1, 2, none⟩) hkl).trans k2
        go_simp
      refine AllS.turn (fun _ _ => rfl) (by rfl) (fun w hSw hPw K hK => ?_) ?_
      · (try dsimp only at hSw)
        have h0 := leH (hPw.me rfl)
        have hx0 : x.1 = 0 := by exact Nat.le_zero.1 h0
        obtain ⟨p, y1, y2, y3⟩ := x
        (try dsimp only at hx0)
        subst hx0
        obtain ⟨hq, _⟩ := hSw
        go_simp
        go_at_call 56
        (with_reducible refine (HPR.out _).mono ?_)
        rintro e w7 ⟨rfl, hb7⟩
        go_simp
        exact hK (1, y1, y2, y3) _ (nxtL rfl (by decide)) ⟨below_via hq hb7, trivial⟩
      refine AllS.turn (fun _ _ => rfl) (by rfl) (fun w hSw hPw K hK => ?_) ?_
      · (try dsimp only at hSw)
        have h0 := leH (hPw.me rfl)
        have h1 := geH (hPw.need (k := 5) rfl (by kernel_rfl))
        have hx0 : x.1 = 1 := Nat.le_antisymm h0 h1
        obtain ⟨p, y1, y2, y3⟩ := x
        (try dsimp only at hx0)
        subst hx0
        obtain ⟨hq, _⟩ := hSw
        go_simp
        go_at_call 27
        refine (HCO.out _ (below_via HBX.out hq)).mono ?_
        rintro e w7 ⟨A7, c7, rfl, hr7, hb7⟩
        go_simp
        exact hK (2, .agg #[.int .i64 1, .int .i64 0, .slice A7 (cl + 1) c7, .slice none 0 0, .slice none 0 0], y2, y3) _ (nxtL rfl (by decide)) ⟨below_via hq hb7, A7, c7, rfl, by rw [List.length_append, cpS_len, HL.out]; rfl, RdSL.more hr7 (by rw [← HN.out]; exact (below_via HBX.out hq).size) (Nat.le_refl _)⟩
      refine AllS.turn (fun _ _ => rfl) (by rfl) (fun w hSw hPw K hK => ?_) ?_
      · (try dsimp only at hSw)
        have h0 := leH (hPw.me rfl)
        have h1 := geH (hPw.need (k := 6) rfl (by kernel_rfl))
        have hx0 : x.1 = 2 := Nat.le_antisymm h0 h1
        obtain ⟨p, y1, y2, y3⟩ := x
        (try dsimp only at hx0)
        subst hx0
        obtain ⟨hq, A7, c7, hy, hl7, hr7⟩ := hSw
        (try dsimp only at hy)
        subst hy
        go_simp
        exact hK (3, _, .slice (some ⟨w.heap.size, 0, none⟩) 1 1, y3) _ (nxtL rfl (by decide)) ⟨below_via hq (by go_grown), lstV_one hr7 (by rw [← HN.out]; exact (below_via HBX.out hq).size) rfl hl7⟩
      refine AllS.turn (fun _ _ => rfl) (by rfl) (fun w hSw hPw K hK => ?_) ?_
      · (try dsimp only at hSw)
        have h0 := leH (hPw.me rfl)
        have h1 := geH (hPw.need (k := 7) rfl (by kernel_rfl))
        have hx0 : x.1 = 3 := Nat.le_antisymm h0 h1
        obtain ⟨p, y1, y2, y3⟩ := x
        (try dsimp only at hx0)
        subst hx0
        obtain ⟨hq, hy⟩ := hSw
        go_simp
        exact hK (4, y1, y2, y2) _ (nxtL rfl (by decide)) ⟨hq, hy⟩
      exact AllS.nil
    have hd4 := geH (hDz 8 (by decide) (by decide))
    obtain ⟨p, y1, y2, y3⟩ := x
    (try dsimp only at hd4)
    obtain ⟨q, rfl⟩ : ∃ q, p = q + 4 := ⟨p - 4, by simp at hd4; omega⟩
    obtain ⟨hq, hy⟩ := hSz
    (try dsimp only at hy)
    have HY := Lib.hid hy
    have HBE := Lib.hid (below_via HBX.out hq)
    clear hDz hd4 hy hq b0 b1 b2 k0 k2
    go_wp2
    go_ret
    exact ⟨_, rfl, by rw [HN.out]; exact HY.out, HBE.out⟩
  · have hne : (te == -1) = false := by simp [ht]
    have HS : Hid (xbSh n ⟨code, te, th, el⟩ = cdSh code (prS n el) (.cons 2 te [] (cdSh [] (prS n th) .nil) .nil .nil)) := Lib.hid (by unfold xbSh; rw [if_neg ht])
    rw [HS.out]
    obtain ⟨s, hs⟩ : ∃ s, prS n el = s := ⟨_, rfl⟩
    have HPR := Lib.hid (proceed_any A len cap n el)
    rw [hs] at HPR ⊢
    obtain ⟨so, st, sa, sb, sv⟩ := s
    obtain ⟨s2, hs2⟩ : ∃ s, prS n th = s := ⟨_, rfl⟩
    have HPT := Lib.hid (proceed_any A len cap n th)
    rw [hs2] at HPT ⊢
    obtain ⟨uo, ut, ua, ub, uv⟩ := s2
    simp only at HPR HPT
    have HCO := Lib.hid (fun (Z : World) (hZ : Below w.heap.size w Z) => codeOf_any Ac cl cc code so st sa sb sv Z (hx.up hZ) hl hm)
    have HCN := Lib.hid (fun (Z : World) => codeOf_any none 0 0 [] uo ut ua ub uv Z (fun h => by simp at h) rfl (by omega))
    clear hs hs2 hx hl ht
    go_enter Try.func44, Try.ntmps44
    have c0 := HB.out.cell (j := 0) rfl
    go_upto_region 4 with (first
      | (go_at_call 56; (with_reducible refine (HPT.out _).mono ?_); rintro e w1 ⟨rfl, hb1⟩)
      | (go_at_call 27; refine (HCN.out _).mono ?_; rintro e w2 ⟨A2, k2, rfl, hr2, hb2⟩))
    have HX4 : Hid (LstV w.heap.size (cdSh [] ⟨uo, ut, ua, ub, uv⟩ .nil) (.slice (some ⟨w2.heap.size, 0, none⟩) 1 1) (w2.alloc (.cells #[.int .i64 1, .int .i64 0, .slice A2 1 k2, .slice none 0 0, .slice none 0 0] 55))) := Lib.hid (lstV_one (s := ⟨uo, ut, ua, ub, uv⟩) (code := []) (RdSL.more hr2 (below_via HBX.out hb1).size (Nat.le_refl _)) (below_via (below_via HBX.out hb1) hb2).size rfl rfl)
    have HB02 : Hid (Below ((w.alloc (.cells #[.slice A len cap, .int .i64 (n : Nat), .int .i64 ((n : Nat) + 1 : Int)] 58)).alloc (.cells #[.slice Ac cl cc, .int .i64 te, .int .i64 th, .int .i64 el] 65)).heap.size ((w.alloc (.cells #[.slice A len cap, .int .i64 (n : Nat), .int .i64 ((n : Nat) + 1 : Int)] 58)).alloc (.cells #[.slice Ac cl cc, .int .i64 te, .int .i64 th, .int .i64 el] 65)) (w2.alloc (.cells #[.int .i64 1, .int .i64 0, .slice A2 1 k2, .slice none 0 0, .slice none 0 0] 55))) := Lib.hid (below_via (below_via hb1 hb2) (by go_grown))
    have HBX4 := Lib.hid (below_via HBX.out HB02.out)
    have HB4 := Lib.hid (HB.out.below HB02.out HB.out.lt)
    have HK4 := Lib.hid (HK.out.below HB02.out HK.out.lt)
    obtain ⟨g4, hg4⟩ : ∃ g4, w2.heap.size = g4 := ⟨_, rfl⟩
    rw [hg4] at HX4
    obtain ⟨X, hX⟩ : ∃ X, X = w2.alloc (.cells #[.int .i64 1, .int .i64 0, .slice A2 1 k2, .slice none 0 0, .slice none 0 0] 55) := ⟨_, rfl⟩
    rw [← hX] at HX4 HBX4 HB4 HK4
    rw [← hX]
    clear hX HB02 hb1 hb2 hr2 HB HK HBX c0 HPT HCN HS
    obtain ⟨n0, hn0⟩ : ∃ n0, w.heap.size = n0 := ⟨_, rfl⟩
    obtain ⟨n1, hn1⟩ : ∃ n1, n0 + 1 = n1 := ⟨_, rfl⟩
    have HN := Lib.hid hn0
    rw [hn0] at HB4 HK4 HX4
    rw [hn1] at HK4
    simp only [hn0, hn1, hg4]
    clear hn0 hn1 hg4
    have b0 := HB4.out.cell (j := 0) rfl
    have b1 := HB4.out.cell (j := 1) rfl
    have b2 := HB4.out.cell (j := 2) rfl
    have hbl := HB4.out.lt
    have k0 := HK4.out.cell (j := 0) rfl
    have k1 := HK4.out.cell (j := 1) rfl
    have k3 := HK4.out.cell (j := 3) rfl
    have hkl := HK4.out.lt
    refine wp_region_steps (X := Nat × (Value × Value × Value)) (BlS X n0 (cl + 1) (cpS code ++ [⟨so, st, sa, sb, sv⟩]) (cdSh code ⟨so, st, sa, sb, sv⟩ (.cons 2 te [] (cdSh [] ⟨uo, ut, ua, ub, uv⟩ .nil) .nil .nil))) (fun x j => doneL [0, 0, 0, 0, 0, 1, 2, 0, 0, 0, 0, 3, 4] x.1 j) (effL [0, 0, 0, 0, 0, 1, 2, 0, 0, 0, 0, 3, 4]) (0, (undef, undef, undef)) (fun x => [.pointer (some ⟨n1, 0, none⟩), .slice Ac cl cc, .agg #[.slice A len cap, .int .i64 (n : Nat), .int .i64 ((n : Nat) + 1 : Int)], .pointer (some ⟨n1, 3, none⟩), .int .i64 el, .agg #[.int .i64 so, .int .i64 st, .int .i64 sa, .int .i64 sb, .int .i64 sv], x.2.1, .pointer (some ⟨n1, 1, none⟩), .int .i64 te, .slice (some ⟨g4, 0, none⟩) 1 1, .agg #[.int .i64 2, .int .i64 te, .slice none 0 0, .slice (some ⟨g4, 0, none⟩) 1 1, .slice none 0 0], x.2.2.1, x.2.2.2]) _ (by kernel_rfl) (by kernel_rfl) (by kernel_rfl) (fun x => by simp only [putsD, Act.put, List.setIfInBounds_toArray, List.set_cons_zero, List.set_cons_succ]; exact rfl) h0L ⟨Below.drew (Below.refl _ _), trivial⟩ (fun x => ?_) (fun x wz hDz hSz => ?_)
    · refine AllS.val (by rfl) (by rfl) (fun w hSw hPw => by go_simp) ?_
      refine AllS.val (by rfl) (by rfl) (fun w hSw hPw => ?_) ?_
      · (try dsimp only at hSw)
        have c0 := (hSw.1.cell (p := ⟨n1, 0, none⟩) hkl).trans k0
        go_simp
      refine AllS.val (by rfl) (by rfl) (fun w hSw hPw => ?_) ?_
      · (try dsimp only at hSw)
        have c0 := (hSw.1.cell (p := ⟨n0, 0, none⟩) hbl).trans b0
        have c1 := (hSw.1.cell (p := ⟨n0, 1, none⟩) hbl).trans b1
        have c2 := (hSw.1.cell (p := ⟨n0, 2, none⟩) hbl).trans b2
        go_simp
      refine AllS.val (by rfl) (by rfl) (fun w hSw hPw => by go_simp) ?_
      refine AllS.val (by rfl) (by rfl) (fun w hSw hPw => ?_) ?_
      · (try dsimp only at hSw)
        have c0 := (hSw.1.cell (p := ⟨n1, 3, none⟩) hkl).trans k3
        go_simp
      refine AllS.turn (fun _ _ => rfl) (by rfl) (fun w hSw hPw K hK => ?_) ?_
      · (try dsimp only at hSw)
        have h0 := leH (hPw.me rfl)
        have hx0 : x.1 = 0 := by exact Nat.le_zero.1 h0
        obtain ⟨p, y1, y2, y3⟩ := x
        (try dsimp only at hx0)
        subst hx0
        obtain ⟨hq, _⟩ := hSw
        go_simp
        go_at_call 56
        (with_reducible refine (HPR.out _).mono ?_)
        rintro e w7 ⟨rfl, hb7⟩
        go_simp
        exact hK (1, y1, y2, y3) _ (nxtL rfl (by decide)) ⟨below_via hq hb7, trivial⟩
      refine AllS.turn (fun _ _ => rfl) (by rfl) (fun w hSw hPw K hK => ?_) ?_
      · (try dsimp only at hSw)
        have h0 := leH (hPw.me rfl)
        have h1 := geH (hPw.need (k := 5) rfl (by kernel_rfl))
        have hx0 : x.1 = 1 := Nat.le_antisymm h0 h1
        obtain ⟨p, y1, y2, y3⟩ := x
        (try dsimp only at hx0)
        subst hx0
        obtain ⟨hq, _⟩ := hSw
        go_simp
        go_at_call 27
        refine (HCO.out _ (below_via HBX4.out hq)).mono ?_
        rintro e w7 ⟨A7, c7, rfl, hr7, hb7⟩
        go_simp
        exact hK (2, .agg #[.int .i64 1, .int .i64 0, .slice A7 (cl + 1) c7, .slice none 0 0, .slice none 0 0], y2, y3) _ (nxtL rfl (by decide)) ⟨below_via hq hb7, A7, c7, rfl, by rw [List.length_append, cpS_len, HL.out]; rfl, RdSL.more hr7 (by rw [← HN.out]; exact (below_via HBX4.out hq).size) (Nat.le_refl _)⟩
      refine AllS.val (by rfl) (by rfl) (fun w hSw hPw => by go_simp) ?_
      refine AllS.val (by rfl) (by rfl) (fun w hSw hPw => ?_) ?_
      · (try dsimp only at hSw)
        have c0 := (hSw.1.cell (p := ⟨n1, 1, none⟩) hkl).trans k1
        go_simp
      refine AllS.val (by rfl) (by rfl) (fun w hSw hPw => by go_simp) ?_
      refine AllS.val (by rfl) (by rfl) (fun w hSw hPw => by go_simp) ?_
      refine AllS.turn (fun _ _ => rfl) (by rfl) (fun w hSw hPw K hK => ?_) ?_
      · (try dsimp only at hSw)
        have h0 := leH (hPw.me rfl)
        have h1 := geH (hPw.need (k := 6) rfl (by kernel_rfl))
        have hx0 : x.1 = 2 := Nat.le_antisymm h0 h1
        obtain ⟨p, y1, y2, y3⟩ := x
        (try dsimp only at hx0)
        subst hx0
        obtain ⟨hq, A7, c7, hy, hl7, hr7⟩ := hSw
        (try dsimp only at hy)
        subst hy
        have h9 := (HX4.out.up hq).rd.1
        have HT := lstV_two (m := cl + 1) (k := 1) (A := A7) (At := some ⟨g4, 0, none⟩) (c := c7) (ct := 1) (w := w) (lo := n0) (s := ⟨so, st, sa, sb, sv⟩) (code := code) hr7 (by rw [← HN.out]; exact (below_via HBX4.out hq).size) rfl hl7 (te := te) (th := cdSh [] ⟨uo, ut, ua, ub, uv⟩ .nil) h9 rfl
        go_simp
        exact hK (3, .agg #[.int .i64 1, .int .i64 0, .slice A7 (cl + 1) c7, .slice none 0 0, .slice none 0 0], .slice (some ⟨w.heap.size, 0, none⟩) 2 2, y3) _ (nxtL rfl (by decide)) ⟨below_via hq (by go_grown), HT⟩
      refine AllS.turn (fun _ _ => rfl) (by rfl) (fun w hSw hPw K hK => ?_) ?_
      · (try dsimp only at hSw)
        have h0 := leH (hPw.me rfl)
        have h1 := geH (hPw.need (k := 11) rfl (by kernel_rfl))
        have hx0 : x.1 = 3 := Nat.le_antisymm h0 h1
        obtain ⟨p, y1, y2, y3⟩ := x
        (try dsimp only at hx0)
        subst hx0
        obtain ⟨hq, hy⟩ := hSw
        go_simp
        exact hK (4, y1, y2, y2) _ (nxtL rfl (by decide)) ⟨hq, hy⟩
      exact AllS.nil
    have hd4 := geH (hDz 12 (by decide) (by decide))
    obtain ⟨p, y1, y2, y3⟩ := x
    (try dsimp only at hd4)
    obtain ⟨q, rfl⟩ : ∃ q, p = q + 4 := ⟨p - 4, by simp at hd4; omega⟩
    obtain ⟨hq, hy⟩ := hSz
    (try dsimp only at hy)
    have HY := Lib.hid hy
    have HBE := Lib.hid (below_via HBX4.out hq)
    clear hDz hd4 hy hq b0 b1 b2 k0 k1 k3
    go_wp2
    go_ret
    exact ⟨_, rfl, by rw [HN.out]; exact HY.out, HBE.out⟩

end Go.Proofs.Ytlfmofhimkndoaa
