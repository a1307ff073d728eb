/-
  live.spread, live.liveBefore (K1).
-/
import Derived.Test.YtfhnhbkdhdocjaaLiveNeed
import Derived.Test.YtfhnhbkdhdocjaaRound
import Derived.Test.YtfhnhbkdhdocjaaWordsOwn
namespace Go.Proofs.Ytfhnhbkdhdocjaa
open Go.RowKit Go.Shelf
set_option linter.unusedSimpArgs false
set_option linter.unusedVariables false
set_option maxRecDepth 100000
attribute [local go_sem] Oper.semAt_some

/-- the nodes that have come -/
def InF {n : Nat} (pre : List (Fin n)) (i : Nat) : Prop := ∃ x ∈ pre, x.1 = i

theorem InF.snoc {n : Nat} {pre : List (Fin n)} {x : Fin n} {i : Nat} (h : InF (pre ++ [x]) i) : InF pre i ∨ i = x.1 := by
  obtain ⟨y, hy, e⟩ := h
  rcases List.mem_append.1 hy with hy | hy
  · exact .inl ⟨y, hy, e⟩
  · rw [List.mem_singleton] at hy
    exact .inr (by rw [← e, hy])

/-- what spread holds between two rounds -/
structure SpI (n : Nat) (p : List Bk) (want s0 len g h capN : Nat) (AN : Option Addr) {m : Nat} (pre : List (Fin m)) (W : World) : Prop where
  nx : Own W h 80 [.slice AN len capN]
  wt : Own W (h + 1) 23 [.int .u32 (want : Nat)]
  ins : Own W (h + 2) 24 [.slice (some ⟨g, 0, none⟩) len len]
  ex : ∃ (F : List Nat) (ch : Bool), Own W (h + 3) 4 [.bool ch] ∧ Own W g 23 (uv F) ∧ Spd n p want s0 F ch (InF pre)

theorem SpI.kept {n : Nat} {p : List Bk} {want s0 len g h capN : Nat} {AN : Option Addr} {m : Nat} {pre : List (Fin m)} {W W' : World} {row : Option Nat} (hi : SpI n p want s0 len g h capN AN pre W) (hg : W.grownBy W' row) (hr : ∀ r, row = some r → ∃ o : Obj, W.heap[r]? = some o ∧ o.isCells = false) : SpI n p want s0 len g h capN AN pre W' := by
  obtain ⟨h1, h2, h3, F, ch, h4, h5, h6⟩ := hi
  exact ⟨h1.kept hg hr, h2.kept hg hr, h3.kept hg hr, F, ch, h4.kept hg hr, h5.kept hg hr, h6⟩

theorem SpI.below {n : Nat} {p : List Bk} {want s0 len g h capN : Nat} {AN : Option Addr} {m : Nat} {pre : List (Fin m)} {W W' : World} (hi : SpI n p want s0 len g h capN AN pre W) (hb : Below W.heap.size W W') : SpI n p want s0 len g h capN AN pre W' := by
  obtain ⟨h1, h2, h3, F, ch, h4, h5, h6⟩ := hi
  exact ⟨h1.below hb h1.lt, h2.below hb h2.lt, h3.below hb h3.lt, F, ch, h4.below hb h4.lt, h5.below hb h5.lt, h6⟩

theorem Spd.to {n : Nat} {p : List Bk} {want s0 : Nat} {F : List Nat} {ch : Bool} {D D' : Nat → Prop} (h : Spd n p want s0 F ch D) (hD : ∀ i, D' i → D i) : Spd n p want s0 F ch D' := ⟨h.inv, h.up, h.more, fun hch i b W hi => h.same hch i b W (hD i hi)⟩

theorem kpB_below {n₀ Bs : Nat} {W W' : World} (h : Below W.heap.size W W') (hn : n₀ ≤ W.heap.size) (hB : Bs < W.heap.size) : KpB n₀ Bs W W' := ⟨h.mono hn, h.block Bs hB⟩

theorem keeps_drewN (W : World) (q : Nat) : KeepsOthers W (W.drewN q) := ⟨Nat.le_refl _, fun _ _ h _ => h⟩

set_option maxHeartbeats 8000000 in
theorem spreadLive_any (n want : Nat) (A AN : Option Addr) (len cap capN g : Nat) (p : List Bk) (qs : List (Bk × Option Addr × Nat)) (F : List Nat) (w : World) (hq : qs.map (·.1) = p) (hx : RdR cBk w g A 4 qs) (hr : RawOk w g qs) (hN : RdG w g AN (nxP p)) (hl : p.length = len)
    (hc : ckProg n p = 0) (hw : want < 2 ^ n) (hown : Own w g 23 (uv F)) (hI : FlI n p want F) :
    Calls Try.prog 80 #[.slice A len cap, .slice AN len capN, .int .u32 (want : Nat), .slice (some ⟨g, 0, none⟩) len len] w fun e w' => ∃ (ch : Bool) (F' : List Nat), e = .returned (.bool ch) ∧ Own w' g 23 (uv F') ∧ Spd n p want F.sum F' ch (fun i => i < len) ∧ Below g w w' := by
  obtain ⟨b1, b2, b3, b4, b5, b6⟩ := ckProg_bd hc
  clear b6
  have HL := Lib.hid hl
  have HC := Lib.hid hc
  have HQ := Lib.hid hq
  have HR := Lib.hid hr
  have hql : qs.length = len := by rw [← hl, ← hq, List.length_map]
  have HQL := Lib.hid hql
  have h6 : 2 ^ n ≤ 2 ^ 6 := Nat.pow_le_pow_right (by omega) (by omega)
  have hw32 : want < 4294967296 := by omega
  have hgl := hown.lt
  rw [hl] at b3 b4
  have hn6 : n ≤ 6 := by omega
  obtain ⟨s0, hs0⟩ : ∃ s, F.sum = s := ⟨_, rfl⟩
  have HS0 : Hid (Spd n p want s0 F false (InF ([] : List (Fin qs.length)))) := Lib.hid (by rw [← hs0]; exact Spd.start hI fun i ⟨x, hx, _⟩ => by cases hx)
  rw [hs0]
  clear hl hc hq hr hI hql hs0
  have hro : Fence.wide.round = none := rfl
  have h1 : 1 ≤ 7 := by omega
  refine (callsIn_wide (n := 7)).1 ?_
  refine callsIn_of_wp_marks Try.func80 rfl trivial ?_ hro
  simp only [Try.ntmps80, List.size_toArray, List.length_cons, List.length_nil, Nat.reduceAdd, Nat.reduceSub, Array.replicate_succ, Array.replicate_zero, List.push_toArray, List.append_toArray, List.nil_append, List.cons_append]
  gi_wp2_with (refine ⟨trivial, ?_⟩; gi_at_call 101; refine (backB_in Fence.wide _ trivial hro _ _ _ _).mono ?_; rintro e w' ⟨rfl, rfl⟩)
  obtain ⟨Y0, hY0⟩ : ∃ Y0 : World, Y0 = w.alloc (Obj.cells #[Value.slice AN len capN] 80) := ⟨_, rfl⟩
  obtain ⟨Y1, hY1⟩ : ∃ Y1 : World, Y1 = Y0.alloc (Obj.cells #[Value.int IntKind.u32 ↑want] 23) := ⟨_, rfl⟩
  obtain ⟨Y2, hY2⟩ : ∃ Y2 : World, Y2 = Y1.alloc (Obj.cells #[Value.slice (some { block := g, off := 0 }) len len] 24) := ⟨_, rfl⟩
  obtain ⟨Y3, hY3⟩ : ∃ Y3 : World, Y3 = Y2.alloc (Obj.cells #[Value.bool false] 4) := ⟨_, rfl⟩
  obtain ⟨W0, hW0⟩ : ∃ W0 : World, W0 = Y3.alloc (Obj.cells #[Value.slice A len cap] 22) := ⟨_, rfl⟩
  rw [← hY0, ← hY1, ← hY2, ← hY3, ← hW0]
  have z0 : Y0.heap.size = w.heap.size + 1 := by rw [hY0]; simp
  have z1 : Y1.heap.size = w.heap.size + 1 + 1 := by rw [hY1]; simp [z0]
  have z2 : Y2.heap.size = w.heap.size + 1 + 1 + 1 := by rw [hY2]; simp [z1]
  have z3 : Y3.heap.size = w.heap.size + 1 + 1 + 1 + 1 := by rw [hY3]; simp [z2]
  have z4 : W0.heap.size = w.heap.size + 1 + 1 + 1 + 1 + 1 := by rw [hW0]; simp [z3]
  have k0 : Own W0 w.heap.size 80 [.slice AN len capN] := by
    rw [hW0, hY3, hY2, hY1, hY0]
    exact ((((Own.new w 80 [.slice AN len capN]).alloc _).alloc _).alloc _).alloc _
  have k1 : Own W0 (w.heap.size + 1) 23 [.int .u32 (want : Nat)] := by
    have h := Own.new Y0 23 [.int .u32 (want : Nat)]
    rw [z0] at h
    rw [hW0, hY3, hY2, hY1]
    exact ((h.alloc _).alloc _).alloc _
  have k2 : Own W0 (w.heap.size + 2) 24 [.slice (some ⟨g, 0, none⟩) len len] := by
    have h := Own.new Y1 24 [.slice (some ⟨g, 0, none⟩) len len]
    rw [z1] at h
    rw [hW0, hY3, hY2]
    exact (h.alloc _).alloc _
  have k3 : Own W0 (w.heap.size + 3) 4 [.bool false] := by
    have h := Own.new Y2 4 [.bool false]
    rw [z2] at h
    rw [hW0, hY3]
    exact h.alloc _
  have k4 : Own W0 (w.heap.size + 4) 22 [.slice A len cap] := by
    have h := Own.new Y3 22 [.slice A len cap]
    rw [z3] at h
    rw [hW0]
    exact h
  have hB0 : Below w.heap.size w W0 := by
    rw [hW0, hY3, hY2, hY1, hY0]
    go_grown
  have hownG : Own W0 g 23 (uv F) := hown.below hB0 hgl
  have hB0g : Below g w W0 := hB0.mono (Nat.le_of_lt hgl)
  clear hW0 hY3 hY2 hY1 hY0 z0 z1 z2 z3
  have hs1 : w.heap.size + 1 + 1 + 1 + 1 < W0.heap.size := by omega
  have hs2 : g ≤ W0.heap.size := by omega
  have hcap0 : W0.cell? ⟨w.heap.size + 1 + 1 + 1 + 1, 0, none⟩ = some (.slice A len cap) := k4.cell (j := 0) rfl
  refine wpIn_rangeFunc_ownH hro h1 (gf := 119) (lb := #[.pointer (some ⟨w.heap.size + 1 + 1 + 1 + 1, 0, none⟩)]) rfl trivial (enters_of Try.func119 (by kernel_rfl) rfl)
    (backB_stops Fence.wide _ trivial hro (by omega) (w.heap.size + 1 + 1 + 1 + 1) g len cap A qs HQL.out (by omega) W0 hs1 hs2 hcap0 (RdR.below hx hB0g (Nat.le_refl _))) KpB.t (KpB.b hs2 hs1) (Below.refl _ _) (fun _ => rfl)
    (fun pre W => SpI n p want s0 len g w.heap.size capN AN pre W ∧ (Below g w W ∧ W0.heap.size ≤ W.heap.size))
    (fun _ _ _ => False)
    (OwnFrom.and (_root_.Go.Own.from (fun s X Y row hs hg hr => hs.kept hg hr) _) (OwnFrom.and (ownFrom_below (Nat.le_of_lt hgl) hs2) (fun _ _ _ _ h hg _ => Nat.le_trans h hg.size)))
    (fun _ _ _ _ _ hs _ _ => hs)
    ⟨⟨k0, k1, k2, F, false, k3, hownG, HS0.out⟩, hB0g, Nat.le_refl _⟩
    (fun x a' W => ∃ Bx, W0.heap.size ≤ Bx ∧ Own W Bx 79 [.slice qs[x.1].2.1 qs[x.1].1.code.length qs[x.1].2.2, .int .i64 qs[x.1].1.test, .int .i64 qs[x.1].1.th, .int .i64 qs[x.1].1.el] ∧
      a' = { tmps := #[.slice A len cap, .slice AN len capN, .int .u32 (want : Nat), .slice (some ⟨g, 0, none⟩) len len, undef, .pointer (some ⟨w.heap.size, 0, none⟩), .pointer (some ⟨w.heap.size + 1, 0, none⟩), .pointer (some ⟨w.heap.size + 1 + 1, 0, none⟩), .bool false, .pointer (some ⟨w.heap.size + 1 + 1 + 1, 0, none⟩), .int .i64 (x.1 : Int), .pointer (some ⟨Bx, 0, none⟩), undef, undef, undef, .slice A len cap, .func (.func 119) #[] #[.pointer (some ⟨w.heap.size + 1 + 1 + 1 + 1, 0, none⟩)], .int .i64 (x.1 : Int), .agg #[.slice qs[x.1].2.1 qs[x.1].1.code.length qs[x.1].2.2, .int .i64 qs[x.1].1.test, .int .i64 qs[x.1].1.th, .int .i64 qs[x.1].1.el], undef, undef, undef, undef, undef, undef, undef, undef, undef, undef, undef, undef, undef, undef, undef, undef, undef, undef, undef, undef, undef, undef, undef, undef, undef, undef, undef], defers := [] })
    (fun x a' => _root_.Go.Own.from (fun s X Y row hs hg hr => by obtain ⟨Bx, h1, h2, h4⟩ := hs; exact ⟨Bx, h1, h2.kept hg hr, h4⟩) _)
    ?assign ?body ?done ?stop
  case assign =>
    rintro lb pre x W K ⟨i1, i3, i4⟩ hK
    simp only [encB]
    have hgW : g ≤ W.heap.size := by have := i3.size; omega
    gi_wp2
    exact hK _ _ ((KeepsOthers.alloc _ _).from _) (KpB.alloc W hgW (by omega) _) ⟨i1.below (by go_grown), i3.alloc hgW _, by simp; omega⟩ ⟨W.heap.size, i4, Own.new _ _ _, rfl⟩
  case body =>
    rintro lb pre ⟨m, hm2⟩ a' W hlb ⟨r, hr⟩ ⟨⟨i1, i2, i5, F1, ch, i6, i7, hsp⟩, i3, i4⟩ ⟨Bx, hBx, bX, rfl⟩ hlt
    simp only at bX ⊢
    have hmlen : m < len := by have := HQL.out; omega
    have hqm : qs[m]? = some qs[m] := List.getElem?_eq_getElem hm2
    obtain ⟨hcode, hccap⟩ := HR.out m _ hqm
    have hpm : p[m]? = some qs[m].1 := by rw [← HQ.out, List.getElem?_map, hqm]; rfl
    generalize qs[m] = q at *
    obtain ⟨⟨code, te, th, el⟩, Ac, cc⟩ := q
    simp only at bX hcode hccap hpm ⊢
    obtain ⟨cl, hcl⟩ : ∃ cl, code.length = cl := ⟨_, rfl⟩
    rw [hcl] at bX hccap ⊢
    have HCL := Lib.hid hcl
    have HPM := Lib.hid hpm
    have hbk := ckProg_at HC.out hpm
    have hcm := manyS_le hpm
    simp only at hcm
    rw [hcl] at hcm
    obtain ⟨adn, row, Ar, cr, hAN, hbln, hdn, hcn, hrdn⟩ := (hN.below i3 (Nat.le_refl _)).at_ (k := m) (by rw [nxP, List.length_map, HL.out]; exact hmlen)
    subst hAN
    have hrow : row = nxB ⟨code, te, th, el⟩ := by
      rw [nxP, List.getElem?_map, hpm] at hdn
      injection hdn with hdn
      exact hdn.symm
    subst hrow
    have HBK := Lib.hid hbk
    have HRD := Lib.hid hrdn
    have HI7 := Lib.hid i7
    have HI3 := Lib.hid i3
    have HSP := Lib.hid hsp
    obtain ⟨fl, hfl⟩ : ∃ fl, (nxB ⟨code, te, th, el⟩).length = fl := ⟨_, rfl⟩
    rw [hfl] at hcn
    have HFL := Lib.hid hfl
    have hF1 : F1.length = len := by rw [hsp.inv.len, HL.out]
    have HF1 := Lib.hid hF1
    have hgW : g ≤ W.heap.size := by have := i3.size; omega
    have hblW : (adn.add m).block < W.heap.size := by omega
    have c1 := i1.cell (j := 0) rfl
    have c2 := i2.cell (j := 0) rfl
    have c5 := i5.cell (j := 0) rfl
    have x0 := bX.cell (j := 0) rfl
    have x1 := bX.cell (j := 1) rfl
    have x2 := bX.cell (j := 2) rfl
    have x3 := bX.cell (j := 3) rfl
    have hl1 := i1.lt
    have hl2 := i2.lt
    have hl5 := i5.lt
    have hlX := bX.lt
    have HLB : Hid (∀ Z : World, Below W.heap.size W Z → Calls Try.prog 53 #[.agg #[.slice Ac cl cc, .int .i64 te, .int .i64 th, .int .i64 el], .slice Ar fl cr, .int .u32 (want : Nat), .slice (some ⟨g, 0, none⟩) len len] Z fun e w' => e = .returned (.int .u32 (lbW ⟨code, te, th, el⟩ F1 want : Nat)) ∧ Below Z.heap.size Z w') := Lib.hid fun Z hZ =>
      liveBehind_any n p.length Ac Ar (some ⟨g, 0, none⟩) cl cc fl cr len len want 0 ⟨code, te, th, el⟩ F1 Z HBK.out (by omega) HCL.out ((HRD.out.below hZ (by omega)).more (by have := hZ.size; omega)) HFL.out ((OwnU.rd (HI7.out.below hZ (by omega))).more (by have := hZ.size; omega)) HF1.out HL.out.symm HSP.out.inv.lt hw
    have HCODE := Lib.hid hcode
    have HCELLS : Hid (∀ Z : World, Below W.heap.size W Z → Z.cell? ⟨Bx, 0, none⟩ = some (.slice Ac cl cc) ∧ Z.cell? ⟨Bx, 1, none⟩ = some (.int .i64 te) ∧ Z.cell? ⟨Bx, 2, none⟩ = some (.int .i64 th) ∧ Z.cell? ⟨Bx, 3, none⟩ = some (.int .i64 el) ∧
        Z.cell? ⟨w.heap.size, 0, none⟩ = some (.slice (some adn) len capN) ∧ Z.cell? ⟨w.heap.size + 1, 0, none⟩ = some (.int .u32 (want : Nat)) ∧ Z.cell? ⟨w.heap.size + 2, 0, none⟩ = some (.slice (some ⟨g, 0, none⟩) len len) ∧ Z.cell? (adn.add m) = some (.slice Ar fl cr)) := Lib.hid fun Z hZ =>
      ⟨(hZ.cell (p := ⟨Bx, 0, none⟩) hlX).trans x0, (hZ.cell (p := ⟨Bx, 1, none⟩) hlX).trans x1, (hZ.cell (p := ⟨Bx, 2, none⟩) hlX).trans x2, (hZ.cell (p := ⟨Bx, 3, none⟩) hlX).trans x3,
        (hZ.cell (p := ⟨w.heap.size, 0, none⟩) hl1).trans c1, (hZ.cell (p := ⟨w.heap.size + 1, 0, none⟩) hl2).trans c2, (hZ.cell (p := ⟨w.heap.size + 2, 0, none⟩) hl5).trans c5, (hZ.cell hblW).trans hcn⟩
    clear hcl hpm hbk hfl hF1 hsp hdn hrdn hcode i7
    gi_wp2
    have hS0 : Below W.heap.size W W.drew := (Below.refl _ W).drew
    refine region_round_held (fun Z => Below W.heap.size W Z) (by kernel_rfl) (by kernel_rfl) (by rintro ⟨a, w, h⟩; exact h) ?_
    refine wpAnyH_take (i := 0) (v := ?_) rfl (by kernel_rfl) (by kernel_rfl) (by kernel_rfl) (fun _ _ _ h => h) (Or.inl ⟨by rfl, ?_⟩) hS0 ?_
    rotate_left
    · intro Z hS
      obtain ⟨y0, y1, y2, y3, y4, y5, y6, y7⟩ := HCELLS.out Z hS
      go_simp
      try with_reducible rfl
    simp only [Act.put, List.setIfInBounds_toArray, List.set_cons_zero, List.set_cons_succ]
    refine wpAnyH_take (i := 1) (v := ?_) rfl (by kernel_rfl) (by kernel_rfl) (by kernel_rfl) (fun _ _ _ h => h) (Or.inl ⟨by rfl, ?_⟩) hS0 ?_
    rotate_left
    · intro Z hS
      obtain ⟨y0, y1, y2, y3, y4, y5, y6, y7⟩ := HCELLS.out Z hS
      go_simp
      try with_reducible rfl
    simp only [Act.put, List.setIfInBounds_toArray, List.set_cons_zero, List.set_cons_succ]
    refine wpAnyH_take (i := 2) (v := ?_) rfl (by kernel_rfl) (by kernel_rfl) (by kernel_rfl) (fun _ _ _ h => h) (Or.inl ⟨by rfl, ?_⟩) hS0 ?_
    rotate_left
    · intro Z hS
      obtain ⟨y0, y1, y2, y3, y4, y5, y6, y7⟩ := HCELLS.out Z hS
      go_simp
      try with_reducible rfl
    simp only [Act.put, List.setIfInBounds_toArray, List.set_cons_zero, List.set_cons_succ]
    refine wpAnyH_take (i := 3) (v := ?_) rfl (by kernel_rfl) (by kernel_rfl) (by kernel_rfl) (fun _ _ _ h => h) (Or.inl ⟨by rfl, ?_⟩) hS0 ?_
    rotate_left
    · intro Z hS
      obtain ⟨y0, y1, y2, y3, y4, y5, y6, y7⟩ := HCELLS.out Z hS
      go_simp
      try with_reducible rfl
    simp only [Act.put, List.setIfInBounds_toArray, List.set_cons_zero, List.set_cons_succ]
    refine wpAnyH_take (i := 4) (v := ?_) rfl (by kernel_rfl) (by kernel_rfl) (by kernel_rfl) (fun _ _ _ h => h) (Or.inl ⟨by rfl, ?_⟩) hS0 ?_
    rotate_left
    · intro Z hS
      obtain ⟨y0, y1, y2, y3, y4, y5, y6, y7⟩ := HCELLS.out Z hS
      go_simp
      try with_reducible rfl
    simp only [Act.put, List.setIfInBounds_toArray, List.set_cons_zero, List.set_cons_succ]
    refine wpAnyH_take (i := 5) (v := ?_) rfl (by kernel_rfl) (by kernel_rfl) (by kernel_rfl) (fun _ _ _ h => h) (Or.inl ⟨by rfl, ?_⟩) hS0 ?_
    rotate_left
    · intro Z hS
      obtain ⟨y0, y1, y2, y3, y4, y5, y6, y7⟩ := HCELLS.out Z hS
      go_simp
      try with_reducible rfl
    simp only [Act.put, List.setIfInBounds_toArray, List.set_cons_zero, List.set_cons_succ]
    refine wpAnyH_take (i := 6) (v := ?_) rfl (by kernel_rfl) (by kernel_rfl) (by kernel_rfl) (fun _ _ _ h => h) (Or.inl ⟨by rfl, ?_⟩) hS0 ?_
    rotate_left
    · intro Z hS
      obtain ⟨y0, y1, y2, y3, y4, y5, y6, y7⟩ := HCELLS.out Z hS
      go_simp
      try with_reducible rfl
    simp only [Act.put, List.setIfInBounds_toArray, List.set_cons_zero, List.set_cons_succ]
    obtain ⟨LB, hLB⟩ : ∃ LB, lbW ⟨code, te, th, el⟩ F1 want = LB := ⟨_, rfl⟩
    rw [hLB] at HLB
    have HLBE := Lib.hid hLB
    clear hLB
    refine wpAnyH_ready (rs := [7, 8]) (by kernel_rfl) (by simp) (AllReadyH.cons rfl (fun K hK => ?_) (AllReadyH.cons rfl (fun K hK => ?_) AllReadyH.nil))
    focus
      go_simp
      refine (HLB.out _ hS0).mono ?_
      rintro e w5 ⟨rfl, hb5⟩
      have hS5 : Below W.heap.size W w5 := hS0.trans hb5
      refine hK.out _ _ hS5 (fun _ => ?_)
      clear hK K
      refine wpAnyH_ready (rs := [8]) (by kernel_rfl) (by simp) (AllReadyH.cons rfl (fun K hK => ?_) AllReadyH.nil)
      go_simp
      refine hK.out _ _ (hS5.alloc hS5.size _) (fun _ => ?_)
      clear hK K
      refine wpAnyH_ready (rs := [9]) (by kernel_rfl) (by simp) (AllReadyH.cons rfl (fun K hK => ?_) AllReadyH.nil)
      go_simp
      refine hK.out _ _ (hS5.alloc hS5.size _) (fun _ => ?_)
      clear hK K
      refine wpAnyH_done (by kernel_rfl) ?_ _
      have hB5 : Below W.heap.size W (w5.alloc (Obj.cells #[Value.int IntKind.u32 ↑LB] 23)) := hS5.alloc hS5.size _
      have hO5 : Own (w5.alloc (Obj.cells #[Value.int IntKind.u32 ↑LB] 23)) w5.heap.size 23 [.int .u32 (LB : Nat)] := Own.new _ _ _
      have hBL : W.heap.size ≤ w5.heap.size := hS5.size
      obtain ⟨W5, hW5⟩ : ∃ W5, w5.alloc (Obj.cells #[Value.int IntKind.u32 ↑LB] 23) = W5 := ⟨_, rfl⟩
      rw [hW5] at hB5 hO5 ⊢
      clear hW5 hS5 hb5
      obtain ⟨BL, hBLe⟩ : ∃ BL, w5.heap.size = BL := ⟨_, rfl⟩
      rw [hBLe] at hO5 hBL ⊢
      clear hBLe
    rotate_left
    focus
      go_simp
      refine hK.out _ _ (hS0.alloc (Nat.le_refl _) _) (fun hS1 => ?_)
      clear hK K
      refine wpAnyH_ready (rs := [7]) (by kernel_rfl) (by simp) (AllReadyH.cons rfl (fun K hK => ?_) AllReadyH.nil)
      go_simp
      refine (HLB.out _ hS1).mono ?_
      rintro e w5 ⟨rfl, hb5⟩
      have hS5 : Below W.heap.size W w5 := hS1.trans (hb5.mono (by simp))
      have hq5 : Own w5 W.heap.size 23 [.int .u32 0] := (Own.new W.drew 23 [.int .u32 0]).below hb5 (by simp)
      have hc5 := hq5.cell (j := 0) rfl
      have hf5 := hq5.frozen 0
      refine hK.out _ _ hS5 (fun _ => ?_)
      clear hK K
      refine wpAnyH_ready (rs := [9]) (by kernel_rfl) (by simp) (AllReadyH.cons rfl (fun K hK => ?_) AllReadyH.nil)
      go_simp
      refine hK.out _ _ (hS5.setCell (p := ⟨W.heap.size, 0, none⟩) (Nat.le_refl _) _) (fun _ => ?_)
      clear hK K
      refine wpAnyH_done (by kernel_rfl) ?_ _
      have hB5 : Below W.heap.size W (w5.setCell ⟨W.heap.size, 0, none⟩ (Value.int IntKind.u32 ↑LB)) := hS5.setCell (p := ⟨W.heap.size, 0, none⟩) (Nat.le_refl _) _
      have hO5 : Own (w5.setCell ⟨W.heap.size, 0, none⟩ (Value.int IntKind.u32 ↑LB)) W.heap.size 23 [.int .u32 (LB : Nat)] := hq5.set 0 _
      have hBL : W.heap.size ≤ W.heap.size := Nat.le_refl _
      obtain ⟨W5, hW5⟩ : ∃ W5, w5.setCell ⟨W.heap.size, 0, none⟩ (Value.int IntKind.u32 ↑LB) = W5 := ⟨_, rfl⟩
      rw [hW5] at hB5 hO5 ⊢
      clear hW5 hS5 hb5 hq5 hc5 hf5 hS1
      obtain ⟨BL, hBLe⟩ : ∃ BL, BL = W.heap.size := ⟨_, rfl⟩
      rw [show (Value.pointer (some ⟨W.heap.size, 0, none⟩)) = Value.pointer (some ⟨BL, 0, none⟩) by rw [hBLe]]
      rw [← hBLe] at hO5
      replace hBL : W.heap.size ≤ BL := by omega
      clear hBLe
    all_goals
      have hB5s := hB5.size
      have hOlt := hO5.lt
      obtain ⟨y0, y1, y2, y3, y4, y5, y6, y7⟩ := HCELLS.out W5 hB5
      have h12 : 1 ≤ 7 - 1 - 1 := by omega
      have hko5 := keeps_below hB5
      gi_wp2_with (refine ⟨trivial, ?_⟩; gi_at_call 81; refine (CallsIn.inRound lb (backS_in Fence.wide _ trivial hro _ _ _ _)).mono ?_; rintro e w' ⟨rfl, rfl⟩)
      have hN := Own.new W5 49 [.slice Ac cl cc]
      have hr5 : (W5.alloc (.cells #[.slice Ac cl cc] 49)).heap[lb]? = some (.loop r) := (Below.heap_alloc W5 _ lb (Array.getElem?_eq_some_iff.1 (hko5.same _ _ hr rfl)).1).trans (hko5.same _ _ hr rfl)
      have hB6 : Below W.heap.size W (W5.alloc (.cells #[.slice Ac cl cc] 49)) := hB5.alloc hB5s _
      have hO6 := hO5.alloc (.cells #[.slice Ac cl cc] 49)
      have hKF6 : KeepsFrom W0.heap.size W (W5.alloc (.cells #[.slice Ac cl cc] 49)) := (hko5.trans (KeepsOthers.alloc _ _)).from _
      refine wpIn_rangeFunc_ownN (l₀ := lb) (r₀ := r) rfl hr5 h12 (gf := 102) (lb := #[.pointer (some ⟨W5.heap.size, 0, none⟩)]) rfl trivial (enters_of Try.func102 (by kernel_rfl) rfl)
        ((backS_stops Fence.wide _ trivial hro (by omega) W5.heap.size W.heap.size cl cc Ac code HCL.out (by omega) _ (by simp) (by simp; omega) (hN.cell (j := 0) rfl) (((HCODE.out.below HI3.out (Nat.le_refl _)).more hgW).below hB6 (Nat.le_refl _))).inRound lb) KpB.t (KpB.b (by simp; omega) (by simp)) (Below.refl _ _) (fun _ => rfl)
        (fun pre' W' => (Own W' BL 23 [.int .u32 (codF code pre' LB : Nat)] ∧ (Below W.heap.size W W' ∧ KeepsFrom W0.heap.size W W')) ∧ W5.heap.size < W'.heap.size)
        (fun _ _ _ => False)
        (OwnFrom.and (OwnFrom.and (_root_.Go.Own.from (fun s X Y row hs hg hr => hs.kept hg hr) _) (OwnFrom.and (ownFrom_below (Nat.le_refl _) (by simp; omega)) (ownFrom_keepsFrom (by simp; omega)))) (fun _ _ _ _ h hg _ => Nat.lt_of_lt_of_le h hg.size))
        (fun _ _ _ _ _ hs _ _ => hs)
        ⟨⟨hO6, hB6, hKF6⟩, by simp⟩
        (fun x a' W' => ∃ Bs, W5.heap.size < Bs ∧ Own W' Bs 87 [.int .i64 code[x.1].op, .int .i64 code[x.1].to, .int .i64 code[x.1].a, .int .i64 code[x.1].b, .int .i64 code[x.1].v] ∧
          a' = { tmps := #[.slice A len cap, .slice (some adn) len capN, .int .u32 (want : Nat), .slice (some ⟨g, 0, none⟩) len len, undef, .pointer (some ⟨w.heap.size, 0, none⟩), .pointer (some ⟨w.heap.size + 1, 0, none⟩), .pointer (some ⟨w.heap.size + 1 + 1, 0, none⟩), .bool false, .pointer (some ⟨w.heap.size + 1 + 1 + 1, 0, none⟩), .int .i64 (m : Int), .pointer (some ⟨Bx, 0, none⟩), .pointer (some ⟨BL, 0, none⟩), undef, .pointer (some ⟨Bs, 0, none⟩), .slice A len cap, .func (.func 119) #[] #[.pointer (some ⟨w.heap.size + 1 + 1 + 1 + 1, 0, none⟩)], .int .i64 (m : Int), .agg #[.slice Ac cl cc, .int .i64 te, .int .i64 th, .int .i64 el], .agg #[.slice Ac cl cc, .int .i64 te, .int .i64 th, .int .i64 el], .slice (some adn) len capN, .int .i64 (m : Int), .pointer (some (adn.add m)), .slice Ar fl cr, .int .u32 (want : Nat), .slice (some ⟨g, 0, none⟩) len len, .int .u32 (LB : Nat), .pointer (some ⟨Bx, 0, none⟩), .slice Ac cl cc, .func (.func 102) #[] #[.pointer (some ⟨W5.heap.size, 0, none⟩)], .int .i64 (x.1 : Int), .agg #[.int .i64 code[x.1].op, .int .i64 code[x.1].to, .int .i64 code[x.1].a, .int .i64 code[x.1].b, .int .i64 code[x.1].v], undef, undef, undef, undef, undef, undef, undef, undef, undef, undef, undef, undef, undef, undef], defers := [] })
        (fun x a' => _root_.Go.Own.from (fun s X Y row hs hg hr => by obtain ⟨Bs, h1, h2, h4⟩ := hs; exact ⟨Bs, h1, h2.kept hg hr, h4⟩) _)
        ?assign2 ?body2 ?done2 ?stop2
      case assign2 =>
        rintro l2 pre' x W' K ⟨⟨j1, j2, j3⟩, j4⟩ hK
        simp only [encS]
        have hs' := j2.size
        gi_wp2
        exact hK _ _ ((KeepsOthers.alloc _ _).from _) (KpB.alloc W' hs' j4 _) ⟨⟨j1.alloc _, j2.alloc hs' _, j3.trans ((KeepsOthers.alloc _ _).from _)⟩, by simp; omega⟩ ⟨W'.heap.size, j4, Own.new _ _ _, rfl⟩
      case body2 =>
        rintro l2 pre' ⟨k, hk2⟩ a'' W' _ _ ⟨⟨j1, j2, j3⟩, j4⟩ ⟨Bs, hBs, bS, rfl⟩ hlt2
        simp only at bS ⊢
        have hcs := (StOk.of HBK.out.code) code[k] (List.getElem_mem hk2)
        have hst := codF_snoc code pre' ⟨k, hk2⟩ LB
        have hLBn : LB < 2 ^ n := by rw [← HLBE.out]; exact lbW_lt HBK.out HSP.out.inv.lt hw
        have hXn := codF_lt (StOk.of HBK.out.code) pre' hLBn
        simp only at hst
        have HST := Lib.hid hst
        generalize code[k] = s at *
        obtain ⟨o, t, a, b, v⟩ := s
        simp only at hcs HST bS ⊢
        clear hst hlt2
        generalize codF code pre' LB = X at *
        have s0' := bS.cell (j := 0) rfl
        have s1' := bS.cell (j := 1) rfl
        have s2' := bS.cell (j := 2) rfl
        have s3' := bS.cell (j := 3) rfl
        have s4' := bS.cell (j := 4) rfl
        have l0' := j1.cell (j := 0) rfl
        have hj1 := j1.lt
        have h13 : 1 ≤ 7 - 1 - 1 - 1 := by omega
        have h14 : 1 ≤ 7 - 1 - 1 - 1 - 1 := by omega
        gi_wp2_with (refine ⟨trivial, ?_⟩; gi_at_call 82; refine (CallsIn.inRound l2 (CallsIn.inRound lb (callsIn_wide.2 (beforeStep_any n o t a b v X _ hcs hn6 hXn)))).mono ?_; rintro e w7 ⟨rfl, hb7⟩; have hj7 := j1.below hb7 hj1; have u0 := hj7.cell (j := 0) rfl; have u1 := hj7.frozen 0)
        have hne2 : BL ≠ W5.heap.size := by omega
        have hs' := j2.size
        have hs7 := hb7.size
        refine ⟨((keeps_below hb7).trans (KeepsOthers.setCell _ _ _)).from _, (kpB_below hb7 hs' j4).t (KpB.setCell _ (p := ⟨BL, 0, none⟩) hBL (by simp; omega) _), ⟨⟨by rw [HST.out]; exact hj7.set 0 _, (j2.trans (hb7.mono hs')).setCell (p := ⟨BL, 0, none⟩) hBL _, j3.trans (((keeps_below hb7).trans (KeepsOthers.setCell _ _ _)).from _)⟩, by simp; omega⟩⟩
      case done2 =>
        rintro ys' W' rfl ⟨⟨j1, j2, j3⟩, j4⟩
        rw [codF_all] at j1
        have HTR : Hid (codW code LB = trW ⟨code, te, th, el⟩ F1 want) := Lib.hid (by unfold trW; rw [HLBE.out])
        rw [HTR.out] at j1
        obtain ⟨X, hX⟩ : ∃ X, trW ⟨code, te, th, el⟩ F1 want = X := ⟨_, rfl⟩
        rw [hX] at j1
        have HX := Lib.hid hX
        obtain ⟨z0, z1, z2, z3, z5, z6, z7, z8⟩ := HCELLS.out W' j2
        have lx := j1.cell (j := 0) rfl
        obtain ⟨W1, hW1⟩ : ∃ W1, F1[m]? = some W1 := ⟨_, List.getElem?_eq_getElem (by rw [HF1.out]; exact hmlen)⟩
        have lg := (HI7.out.below j2 (by omega)).cell (uv_at hW1)
        have HW1 := Lib.hid hW1
        have hj2 := j2.size
        by_cases hXW : X = W1
        · have hne : ((X : Int) != (W1 : Int)) = false := by simp [hXW]
          have HXW := Lib.hid hXW
          clear hX hW1 hXW
          gi_wp2
          refine region_round_quiet (by kernel_rfl) (by kernel_rfl) (by rintro ⟨a, w, h⟩; exact h) (by kernel_rfl) ?_
          repeat (quiet_step (fail))
          refine wpQuiet_nil ?_
          intro Z hZ
          obtain ⟨nq, hZ⟩ := hZ
          subst hZ
          gi_wp2
          have hbq := below_drewL j2 nq
          exact ⟨j3.trans ((keeps_drewN W' nq).from _), kpB_below hbq hgW (by omega), ⟨i1.below hbq hl1, i2.below hbq hl2, i5.below hbq hl5, F1, ch, i6.below hbq i6.lt, HI7.out.below hbq (by omega), HSP.out.stay (fun i h => InF.snoc h) HPM.out HW1.out (HX.out.trans HXW.out)⟩, HI3.out.trans (hbq.mono hgW), Nat.le_trans i4 hbq.size⟩
        · have hne : ((X : Int) != (W1 : Int)) = true := by simp; omega
          have HXW := Lib.hid hXW
          clear hX hW1 hXW
          gi_wp2
          refine region_round_quiet (by kernel_rfl) (by kernel_rfl) (by rintro ⟨a, w, h⟩; exact h) (by kernel_rfl) ?_
          repeat (quiet_step (fail))
          refine wpQuiet_nil ?_
          intro Z hZ
          obtain ⟨nq, hZ⟩ := hZ
          subst hZ
          have hbq := below_drewL j2 nq
          have hkq := j3.trans ((keeps_drewN W' nq).from _)
          have hjq : Own (W'.drewN nq) BL 23 [.int .u32 (X : Nat)] := j1
          have hgq := HI7.out.below hbq (by omega)
          have q1 := hjq.cell (j := 0) rfl
          have q2 := (i5.below hbq hl5).cell (j := 0) rfl
          have q3 := hgq.cell (uv_at HW1.out)
          have q4 := hgq.frozen m
          have hq6 := i6.below hbq i6.lt
          have q5 := hq6.cell (j := 0) rfl
          have q6 := hq6.frozen 0
          have hsq := hbq.size
          generalize W'.drewN nq = Wq at *
          have HOW := Lib.hid (OwnU.set hgq m X)
          gi_wp2
          have hgo := HSP.out.go (D' := InF (pre ++ [⟨m, hm2⟩])) HC.out hw HPM.out HW1.out (by rw [HX.out]; exact HXW.out)
          rw [HX.out] at hgo
          have hbf : Below g W ((Wq.setCell ⟨g, m, none⟩ (.int .u32 (X : Nat))).setCell ⟨w.heap.size + 1 + 1 + 1, 0, none⟩ (.bool true)) := ((hbq.mono hgW).setCell (p := ⟨g, m, none⟩) (Nat.le_refl _) _).setCell (p := ⟨w.heap.size + 1 + 1 + 1, 0, none⟩) (by simp; omega) _
          have hBs : ((Wq.setCell ⟨g, m, none⟩ (.int .u32 (X : Nat))).setCell ⟨w.heap.size + 1 + 1 + 1, 0, none⟩ (.bool true)).heap[w.heap.size + 1 + 1 + 1 + 1]? = W.heap[w.heap.size + 1 + 1 + 1 + 1]? :=
            (Below.heap_setCell _ _ _ _ (by simp)).trans ((Below.heap_setCell _ _ _ _ (by simp; omega)).trans (hbq.block _ (by omega)))
          exact ⟨hkq.trans (((KeepsOthers.setCell _ _ _).trans (KeepsOthers.setCell _ _ _)).from _), ⟨hbf, hBs⟩, ⟨((i1.below hbq hl1).far (by simp; omega) _).far (by simp; omega) _, ((i2.below hbq hl2).far (by simp; omega) _).far (by simp) _, ((i5.below hbq hl5).far (by simp; omega) _).far (by simp) _, F1.set m X, true, (hq6.far (by simp; omega) _).set 0 _, HOW.out.far (by simp; omega) _, hgo⟩, HI3.out.trans hbf, Nat.le_trans i4 (Nat.le_trans hsq (by simp))⟩
      case stop2 =>
        rintro c pre' W' _ h
        exact h.elim
  case done =>
    rintro D ys W hD rfl ⟨⟨i1, i2, i5, F1, ch, i6, i7, hsp⟩, i3, i4⟩ hK
    have hcS := i6.cell (j := 0) rfl
    have HSP := Lib.hid hsp
    have HK := Lib.hid hK
    have HI7 := Lib.hid i7
    clear hsp hK i7
    gi_wp2
    refine ⟨by simp, .inl ⟨_, _, rfl, run_takeDeferred HK.out, ?_⟩⟩
    have hne : g ≠ D := by omega
    exact ⟨_, results_tmp rfl _ _ _, ch, F1, rfl, (World.putObj_heap_other hne).trans HI7.out, HSP.out.to fun i hi => ⟨⟨i, by rw [HQL.out]; exact hi⟩, bks_mem (by simp), rfl⟩, i3.trans (belowK_b (w := w) (Nat.le_of_lt hgl) W D _ _ (by omega) HK.out rfl rfl)⟩
  case stop =>
    rintro D c pre W _ _ h _
    exact h.elim

set_option maxHeartbeats 8000000 in
theorem liveBefore_any (n want : Nat) (A AN : Option Addr) (len cap capN : Nat) (p : List Bk) (w : World) (hx : RdP w w.heap.size A p) (hN : RdG w w.heap.size AN (nxP p)) (hl : p.length = len) (hc : ckProg n p = 0) (hw : want < 2 ^ n) :
    Calls Try.prog 47 #[.slice A len cap, .slice AN len capN, .int .u32 (want : Nat)] w fun e w' => ∃ F, e = .returned (.slice (some ⟨w.heap.size, 0, none⟩) len len) ∧ Own w' w.heap.size 23 (uv F) ∧ FlX n p want F ∧ Below w.heap.size w w' := by
  obtain ⟨b1, b2, b3, b4, b5, b6⟩ := ckProg_bd hc
  clear b6
  have HL := Lib.hid hl
  have HC := Lib.hid hc
  obtain ⟨qs, hq1, hq2, hq3⟩ := rdP_raw hx
  have HI0 := Lib.hid (FlI.start n p want)
  have HSP := Lib.hid (fun (F : List Nat) (w2 : World) (hb : Below w.heap.size w w2) (h1 : Own w2 w.heap.size 23 (uv F)) (h2 : FlI n p want F) => spreadLive_any n want A AN len cap capN w.heap.size p qs F w2 hq1 (RdR.below hq2 hb (Nat.le_refl _)) (hq3.below hb (Nat.le_refl _)) (hN.below hb (Nat.le_refl _)) hl hc hw h1 h2)
  have HDN : Hid (∀ s0 F, Spd n p want s0 F false (fun i => i < len) → FlX n p want F) := Lib.hid fun s0 F h => h.done hc fun i hi => by rw [← hl]; exact hi
  have HSM : Hid (∀ F, FlI n p want F → F.sum ≤ 512) := Lib.hid fun F h => h.sum_le hc
  rw [hl] at b3 b4 HI0
  have hmk := make_words (P := Try.prog) 24 23 Try.underlying24 (by kernel_rfl) len (by omega)
  have hown0 := Own.new w 23 (uv (List.replicate len 0))
  have hb0 : Below w.heap.size w (w.alloc (.cells (uv (List.replicate len 0)).toArray 23)) := by go_grown
  clear hx hl hc hN hq1 hq2 hq3
  go_enter Try.func47, Try.ntmps47
  go_wp2_with fail
  go_loopw [] (fun wr => ∃ (F : List Nat), FlI n p want F ∧ Own wr w.heap.size 23 (uv F) ∧ Below w.heap.size w wr) (fun wr => 513 - cellSum wr w.heap.size)
  case atStart => exact ⟨_, HI0.out, hown0, hb0⟩
  case round =>
    obtain ⟨F, hF, hown, hb⟩ := hrel
    have HF := Lib.hid hF
    have HCS := Lib.hid (cellSum_own hown)
    have HCALL := Lib.hid (HSP.out F wr hb hown hF)
    clear hF hown
    go_wp2_with fail
    refine HCALL.out.mono ?_
    rintro e w8 ⟨ch, F3, rfl, hown8, hsp8, hb8⟩
    have HSP8 := Lib.hid hsp8
    have hb9 := hb.trans hb8
    clear hsp8
    cases ch with
    | true =>
      have hlt := HSP8.out.more rfl
      have hle := HSM.out F3 HSP8.out.inv
      have HLT := Lib.hid (show 513 - F3.sum < 513 - F.sum by omega)
      clear hlt hle
      go_wp2
      go_round
      case rel => exact ⟨F3, HSP8.out.inv, hown8, hb9⟩
      case measure => rw [cellSum_own hown8, HCS.out]; exact HLT.out
    | false =>
      have HX := Lib.hid (HDN.out _ _ HSP8.out)
      go_wp2
      go_ret
      exact ⟨F3, rfl, hown8, HX.out, hb9⟩

end Go.Proofs.Ytfhnhbkdhdocjaa
