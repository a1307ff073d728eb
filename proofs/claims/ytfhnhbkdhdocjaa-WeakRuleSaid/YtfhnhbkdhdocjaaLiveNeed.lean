/-
  live.neededSteps (K2).
-/
import Derived.Test.YtfhnhbkdhdocjaaLiveStep
import Derived.Test.YtfhnhbkdhdocjaaBackS
import Derived.Test.YtfhnhbkdhdocjaaRevS
import Derived.Test.YtfhnhbkdhdocjaaLiveTrim
namespace Go.Proofs.Ytfhnhbkdhdocjaa
open Go.RowKit Go.Shelf
set_option linter.unusedSimpArgs false
set_option linter.unusedVariables false
set_option maxRecDepth 100000
attribute [local go_sem] Oper.semAt_some

/-- append, inside a fence -/
theorem wpListIn_app {F : Fence} {nF : Nat} {P : Program} {w : World} {ops : Array Oper} {rest : List Oper} {o : Oper} {a : Act} {Q : Exit → Act → World → Prop} (hgd : o.guard = none) (s x : Operand) (t : TypeId)
    (ho : o.op = .call { callee := .builtin .append, args := #[s, x], argTypes := #[t, t] }) (base : Nat) (e : TypeId) (size bytes : Nat) (hT : AppTy P t e size bytes)
    {A : Option Addr} {n c : Nat} (xs : List Value) (hs : a.eval s = .slice A n c) (hown : w.ownsRow base e size (.slice A n c) n xs)
    {A2 : Option Addr} {m c2 : Nat} (news : List Value) (hx : a.eval x = .slice A2 m c2) (hl : news.length = m * size) (hn : A2 = none → m = 0) (hnews : ∀ ad, A2 = some ad → ∀ j u, news[j]? = some u → w.cell? (ad.add j) = some u) (h1 : ∀ u ∈ news, u.oneCell' = true)
    (hb1 : n + m ≤ maxLen) (hb2 : (n + m) * bytes ≤ 140737488355328) (hbase : base ≤ w.heap.size)
    (h : ∀ A' c' w', w'.ownsRow base e size (.slice A' (n + m) c') (n + m) (xs ++ news) → w.grownBy w' (Value.slice A n c).ownBlock → Below base w w' →
      ((Value.slice A' (n + m) c').ownBlock = (Value.slice A n c).ownBlock ∨ (Value.slice A' (n + m) c').ownBlock = some w.heap.size) → wpListIn F nF P ops Q rest (a.put o.dst (.slice A' (n + m) c')) w') : wpListIn F nF P ops Q (o :: rest) a w := by
  refine wpListIn_plain hgd fun K hK => ?_
  obtain ⟨A', c', w', hrun, h2, h3, h5⟩ := run_app (P := P) (w := w) base t o.type e size bytes hT A n c xs hown A2 m c2 news hl hn hnews h1 hb1 hb2 hbase
  unfold Oper.wpIn
  refine ⟨by simp [Oper.about, ho, resolve, Target.leads, Sem.run_pure], ?_⟩
  rw [Oper.semAt_plain F _ _ (by rw [ho]; intro c hc'; cases hc')]
  simp [execOp, ho, resolve, invoke, builtin, hs, hx, hrun, Result.andThen]
  exact hK _ _ (h A' c' w' h2 h3 (own_base hown h3 hbase) h5)

/-- a row is kept where what is no cells turns -/
theorem row_kept {W W' : World} {row : Option Nat} {base size n : Nat} {e : TypeId} {v : Value} {xs : List Value} (h : W.ownsRow base e size v n xs) (hg : W.grownBy W' row) (hr : ∀ r, row = some r → ∃ o : Obj, W.heap[r]? = some o ∧ o.isCells = false) : W'.ownsRow base e size v n xs := by
  refine h.kept hg ?_
  rcases h.2 with ⟨rfl, _⟩ | ⟨g, cap, cur, rfl, _, hgb, _⟩
  · exact .inl rfl
  · refine .inr fun e' => ?_
    obtain ⟨o, ho, hc⟩ := hr g (by simpa [Value.ownBlock] using e'.symm)
    rw [hgb] at ho
    cases ho
    cases hc

/-- a row's block holds cells -/
theorem row_cells {W : World} {base size n : Nat} {e : TypeId} {v : Value} {xs : List Value} (h : W.ownsRow base e size v n xs) : ∀ (j : Nat) (o : Obj), v.ownBlock = some j → W.heap[j]? = some o → o.isCells = true := fun j o ej ho => by
  rcases h.2 with ⟨rfl, _⟩ | ⟨g, cap, cur, rfl, _, hgb, _⟩
  · simp [Value.ownBlock] at ej
  · obtain rfl : g = j := by simpa [Value.ownBlock] using ej
    rw [hgb] at ho
    cases ho
    rfl

theorem keeps_below {W W' : World} (h : Below W.heap.size W W') : KeepsOthers W W' := ⟨h.size, fun k o hk _ => (h.block k (Array.getElem?_eq_some_iff.1 hk).1).trans hk⟩

theorem own_lower {w : World} {base base' size n : Nat} {e : TypeId} {v : Value} {xs : List Value} (h : w.ownsRow base e size v n xs) (hb : base' ≤ base) : w.ownsRow base' e size v n xs := by
  refine ⟨h.1, ?_⟩
  rcases h.2 with h' | ⟨g, cap, cur, h1, h2, h3⟩
  · exact .inl h'
  · exact .inr ⟨g, cap, cur, h1, Nat.le_trans hb h2, h3⟩

/-- what neededSteps holds between two rounds -/
structure NdI (c : List St) (L h base : Nat) (pre : List (Fin c.length)) (W : World) : Prop where
  live : Own W h 23 [.int .u32 ((nedF c pre L).2 : Nat)]
  ex : ∃ (A1 : Option Addr) (c1 : Nat), Own W (h + 1) 49 [.slice A1 (nedF c pre L).1.length c1] ∧ W.ownsRow base 87 5 (.slice A1 (nedF c pre L).1.length c1) (nedF c pre L).1.length (rv cSt (nedF c pre L).1)

theorem NdI.kept {c : List St} {L h base : Nat} {pre : List (Fin c.length)} {W W' : World} {row : Option Nat} (hi : NdI c L h base pre W) (hg : W.grownBy W' row) (hr : ∀ r, row = some r → ∃ o : Obj, W.heap[r]? = some o ∧ o.isCells = false) : NdI c L h base pre W' := by
  obtain ⟨h1, A1, c1, h2, h3⟩ := hi
  exact ⟨h1.kept hg hr, A1, c1, h2.kept hg hr, row_kept h3 hg hr⟩

theorem own_grow {X Y : World} {row : Option Nat} {g : Nat} {t : TypeId} {cs : List Value} (h : Own X g t cs) (hg : X.grownBy Y row) (hr : row ≠ some g) : Own Y g t cs := (hg.block g h.lt (fun e => hr e.symm)).trans h

theorem cellsS_atL {X : World} {k : Nat} (hk : k = X.heap.size) (s : St) (cs : Array Value) (hcs : cs = (cSt s).toArray) (t : TypeId) : ∀ ad : Addr, some (⟨k, 0, none⟩ : Addr) = some ad → ∀ j u, (cSt s)[j]? = some u → (X.alloc (.cells cs t)).cell? (ad.add j) = some u := by
  subst hcs
  exact cells_at hk (cSt s) t

theorem cSt_oneS (s : St) : ∀ u ∈ cSt s, u.oneCell' = true := fun u hu => cSt_oneL [s] u (by simpa [rv] using hu)

theorem own_same {W : World} {g : Nat} {t : TypeId} {cs cs' : List Value} (h : Own W g t cs) (h' : Own W g t cs') : cs = cs' := by
  unfold Own at h h'
  rw [h] at h'
  injection h' with h'
  injection h' with h'
  have := congrArg Array.toList h'
  simpa using this

set_option maxHeartbeats 8000000 in
theorem neededSteps_any (n : Nat) (A : Option Addr) (len cap L : Nat) (l : List St) (w : World) (hx : RdS w w.heap.size A l) (hl : l.length = len) (hm : len ≤ 65536) (hc : StOk n l) (hn : n ≤ 6) (hL : L < 2 ^ n) :
    Calls Try.prog 52 #[.slice A len cap, .int .u32 (L : Nat)] w fun e w' => ∃ A' c', e = .returned (.slice A' (nedL l L).1.length c') ∧ w'.ownsRow w.heap.size 87 5 (.slice A' (nedL l L).1.length c') (nedL l L).1.length (rv cSt (nedL l L).1) ∧ Below w.heap.size w w' := by
  have HL := Lib.hid hl
  have HC := Lib.hid hc
  have h6 : 2 ^ n ≤ 2 ^ 6 := Nat.pow_le_pow_right (by omega) hn
  clear hl hc
  have hro : Fence.wide.round = none := rfl
  have h1 : 1 ≤ 5 := by omega
  refine (callsIn_wide (n := 5)).1 ?_
  refine callsIn_of_wp_marks Try.func52 rfl trivial ?_ hro
  simp only [Try.ntmps52, List.size_toArray, List.length_cons, List.length_nil, Nat.reduceAdd, Nat.reduceSub, Array.replicate_succ, Array.replicate_zero, List.push_toArray, List.append_toArray, List.nil_append, List.cons_append]
  gi_wp2_with (refine ⟨trivial, ?_⟩; gi_at_call 81; refine (backS_in Fence.wide _ trivial hro _ _ _ _).mono ?_; rintro e w' ⟨rfl, rfl⟩)
  obtain ⟨W0, hW0⟩ : ∃ W0 : World, W0 = (((w.alloc (Obj.cells #[Value.int IntKind.u32 ↑L] 23)).alloc (Obj.cells #[Value.slice none 0 0] 49)).alloc (Obj.cells #[Value.slice A len cap] 49)) := ⟨_, rfl⟩
  have hlive0 : Own W0 w.heap.size 23 [.int .u32 (L : Nat)] := by
    rw [hW0]
    exact ((Own.new w 23 [.int .u32 (L : Nat)]).alloc _).alloc _
  have hbox0 : Own W0 (w.heap.size + 1) 49 [.slice none 0 0] := by
    rw [hW0]
    refine (?_ : Own _ _ _ _).alloc _
    have h := Own.new (w.alloc (Obj.cells #[Value.int IntKind.u32 ↑L] 23)) 49 [.slice none 0 0]
    rwa [World.size_alloc] at h
  have hcap0 : W0.cell? ⟨w.heap.size + 1 + 1, 0, none⟩ = some (.slice A len cap) := by
    rw [hW0]
    have h := (Own.new ((w.alloc (Obj.cells #[Value.int IntKind.u32 ↑L] 23)).alloc (Obj.cells #[Value.slice none 0 0] 49)) 49 [.slice A len cap]).cell (j := 0) rfl
    rwa [World.size_alloc, World.size_alloc] at h
  have hB0 : Below w.heap.size w W0 := by rw [hW0]; go_grown
  have hs0 : W0.heap.size = w.heap.size + 1 + 1 + 1 := by rw [hW0]; simp
  rw [← hW0]
  clear hW0
  have HS := Lib.hid hs0
  have hs1 : w.heap.size + 1 + 1 < W0.heap.size := by omega
  have hs2 : w.heap.size ≤ W0.heap.size := by omega
  clear hs0
  refine wpIn_rangeFunc_ownH hro h1 (gf := 102) (lb := #[.pointer (some ⟨w.heap.size + 1 + 1, 0, none⟩)]) rfl trivial (enters_of Try.func102 (by kernel_rfl) rfl)
    (backS_stops Fence.wide _ trivial hro (by omega) (w.heap.size + 1 + 1) w.heap.size len cap A l HL.out (by omega) W0 hs1 hs2 hcap0 (hx.below hB0 (Nat.le_refl _))) KpB.t (KpB.b hs2 hs1) (Below.refl _ _) (fun _ => rfl)
    (fun pre W => NdI l L w.heap.size W0.heap.size pre W ∧ (Below w.heap.size w W ∧ W0.heap.size ≤ W.heap.size))
    (fun _ _ _ => False)
    (OwnFrom.and (_root_.Go.Own.from (fun s X Y row hs hg hr => hs.kept hg hr) _) (OwnFrom.and (ownFrom_below (Nat.le_refl _) hs2) (fun _ _ _ _ h hg _ => Nat.le_trans h hg.size)))
    (fun _ _ _ _ _ hs _ _ => hs)
    ⟨⟨hlive0, none, 0, hbox0, World.ownsRow_nil _ _ _ _⟩, hB0, Nat.le_refl _⟩
    (fun x a' W => ∃ Bx A1 n1 c1, W0.heap.size ≤ Bx ∧ Own W Bx 87 [.int .i64 l[x.1].op, .int .i64 l[x.1].to, .int .i64 l[x.1].a, .int .i64 l[x.1].b, .int .i64 l[x.1].v] ∧ Own W (w.heap.size + 1) 49 [.slice A1 n1 c1] ∧ (Value.slice A1 n1 c1).ownBlock ≠ some Bx ∧
      a' = { tmps := #[.slice A len cap, .int .u32 (L : Nat), undef, .pointer (some ⟨w.heap.size, 0, none⟩), .slice none 0 0, .pointer (some ⟨w.heap.size + 1, 0, none⟩), undef, .pointer (some ⟨Bx, 0, none⟩), .slice A len cap, .func (.func 102) #[] #[.pointer (some ⟨w.heap.size + 1 + 1, 0, none⟩)], .int .i64 (x.1 : Int), .agg #[.int .i64 l[x.1].op, .int .i64 l[x.1].to, .int .i64 l[x.1].a, .int .i64 l[x.1].b, .int .i64 l[x.1].v], undef, undef, undef, undef, undef, undef, undef, undef, undef, undef, undef, undef, undef, undef], defers := [] })
    (fun x a' => _root_.Go.Own.from (fun s X Y row hs hg hr => by obtain ⟨Bx, A1, n1, c1, h1, h2, h3, h4⟩ := hs; exact ⟨Bx, A1, n1, c1, h1, h2.kept hg hr, h3.kept hg hr, h4⟩) _)
    ?assign ?body ?done ?stop
  case assign =>
    rintro lb pre x W K ⟨i1, i3, i4⟩ hK
    simp only [encS]
    have i2 := i1
    obtain ⟨j1, A1, c1, j2, j3⟩ := i2
    have hne : (Value.slice A1 (nedF l pre L).1.length c1).ownBlock ≠ some W.heap.size := fun e => by
      have := (j3.lt _ e).2
      omega
    gi_wp2
    exact hK _ _ ((KeepsOthers.alloc _ _).from _) (KpB.alloc W i3.size (by omega) _) ⟨⟨j1.alloc _, A1, c1, j2.alloc _, own_below j3 (by go_grown)⟩, i3.alloc i3.size _, by simp; omega⟩ ⟨W.heap.size, A1, _, c1, i4, Own.new _ _ _, j2.alloc _, hne, rfl⟩
  case body =>
    rintro lb pre ⟨m, hm2⟩ a' W hlb ⟨r, hr⟩ ⟨⟨i1, A1, c1, i2, i5⟩, i3, i4⟩ ⟨Bx, A2, n2, c2, hBx, bX, bS, hne, rfl⟩ hlt
    simp only at bX ⊢
    have e1 := own_same i2 bS
    simp only [List.cons.injEq, Value.slice.injEq, and_true] at e1
    obtain ⟨rfl, rfl, rfl⟩ := e1
    have hcs := HC.out l[m] (List.getElem_mem hm2)
    have hst := nedF_snoc l pre ⟨m, hm2⟩ L
    have hlen := nedF_len l pre L
    have hlt6 := nedF_lt HC.out pre hL
    have HNS : Hid (NdI l L w.heap.size W0.heap.size pre W) := Lib.hid ⟨i1, A1, c1, i2, i5⟩
    have hlt2 : pre.length < len := by have := HL.out; omega
    simp only at hst
    have HST := Lib.hid hst
    generalize l[m] = s at *
    obtain ⟨o, t, a, b, v⟩ := s
    simp only at hcs HST bX ⊢
    clear hst hlt
    obtain ⟨⟨t0, t1⟩, _⟩ := ckStep_cases hcs
    obtain ⟨tn, rfl⟩ := Int.eq_ofNat_of_zero_le t0
    have htn : tn < 32 := by omega
    rw [show (((tn : Nat) : Int)).toNat = tn from rfl] at HST
    generalize nedF l pre L = st at *
    obtain ⟨r, X⟩ := st
    simp only at HST i1 i2 i5 bS hne hlen hlt6 ⊢
    have hX32 : X < 4294967296 := by omega
    obtain ⟨bt, hbt⟩ : ∃ bt, X.testBit tn = bt := ⟨_, rfl⟩
    rw [hbt] at HST
    have HB := Lib.hid hbt
    clear hbt bS
    have hc0 := i1.cell (j := 0) rfl
    have hb1 := bX.cell (j := 1) rfl
    have h12 : 1 ≤ 5 - 1 - 1 := by omega
    cases bt with
    | false =>
      rw [if_neg (by simp)] at HST
      gi_wp2_with (refine ⟨trivial, ?_⟩; gi_at_call 76; refine (CallsIn.inRound lb (callsIn_wide.2 (hasBit_any X tn _ hX32 htn))).mono ?_; rw [HB.out]; rintro e w5 ⟨rfl, rfl⟩)
      exact ⟨KeepsFrom.refl _ _, KpB.refl _ _ _, ⟨by rw [HST.out]; exact i1, A1, c1, by rw [HST.out]; exact i2, by rw [HST.out]; exact i5⟩, i3, i4⟩
    | true =>
      rw [if_pos rfl] at HST
      obtain ⟨k, hk⟩ : ∃ k, r.length = k := ⟨_, rfl⟩
      have HK := Lib.hid hk
      rw [hk] at i2 i5 hne hlen
      have h63 : k + 1 ≤ maxLen := by unfold maxLen; omega
      have hbig : (k + 1) * 40 ≤ 140737488355328 := by omega
      have hc1 := i2.cell (j := 0) rfl
      have hb0 := bX.cell (j := 0) rfl
      have hb2 := bX.cell (j := 2) rfl
      have hb3 := bX.cell (j := 3) rfl
      have hb4 := bX.cell (j := 4) rfl
      have hrb : ∀ g, g < W0.heap.size → (Value.slice A1 k c1).ownBlock ≠ some g := fun g hg e => by have := (i5.lt g e).1; omega
      have HRB := Lib.hid hrb
      have HI1 := Lib.hid i1
      have HI2 := Lib.hid i2
      have HI3 := Lib.hid i3
      have HI5 := Lib.hid i5
      have HBX := Lib.hid bX
      have HNE := Lib.hid hne
      clear hk hrb i1 i2 i3 i5 bX hne
      gi_wp2_with (first
        | (refine ⟨trivial, ?_⟩; gi_at_call 76; refine (CallsIn.inRound lb (callsIn_wide.2 (hasBit_any X tn _ hX32 htn))).mono ?_; rw [HB.out]; rintro e w5 ⟨rfl, rfl⟩)
        | (gi_at_builtin; refine wpListIn_app rfl (.tmp 16) (.tmp 18) 49 rfl W0.heap.size 87 5 40 stepl_app (rv cSt r) rfl (own_below HI5.out (by go_grown)) (cSt ⟨o, tn, a, b, v⟩) rfl rfl (fun h => by cases h) (cellsS_atL (by simp) ⟨o, tn, a, b, v⟩ _ rfl _) (cSt_oneS _) h63 hbig (by simp; omega) ?_
           intro A4 c4 w4 hown4 hg4 hb4' hk4
           have hX4 := own_grow (HBX.out.alloc (Obj.cells #[Value.int IntKind.i64 o, Value.int IntKind.i64 ↑tn, Value.int IntKind.i64 a, Value.int IntKind.i64 b, Value.int IntKind.i64 v] 87)) hg4 HNE.out
           have hI14 := own_grow (HI1.out.alloc (Obj.cells #[Value.int IntKind.i64 o, Value.int IntKind.i64 ↑tn, Value.int IntKind.i64 a, Value.int IntKind.i64 b, Value.int IntKind.i64 v] 87)) hg4 (HRB.out _ (by omega))
           have hI24 := own_grow (HI2.out.alloc (Obj.cells #[Value.int IntKind.i64 o, Value.int IntKind.i64 ↑tn, Value.int IntKind.i64 a, Value.int IntKind.i64 b, Value.int IntKind.i64 v] 87)) hg4 (HRB.out _ (by omega))
           have x0 := hX4.cell (j := 0) rfl
           have x1 := hX4.cell (j := 1) rfl
           have x2 := hX4.cell (j := 2) rfl
           have x3 := hX4.cell (j := 3) rfl
           have x4 := hX4.cell (j := 4) rfl
           have y0 := hI14.cell (j := 0) rfl
           have z0 := hI24.cell (j := 0) rfl
           have z1 := hI24.frozen 0
           have hxne : w.heap.size + 1 ≠ Bx := by omega)
        | (refine ⟨trivial, ?_⟩; gi_at_call 82; refine (CallsIn.inRound lb (callsIn_wide.2 (beforeStep_any n o tn a b v X _ hcs hn hlt6))).mono ?_; rintro e w6 ⟨rfl, hb6⟩
           have hI16 := (hI14.far (p := ⟨w.heap.size + 1, 0, none⟩) (by simp) (.slice A4 (k + 1) c4)).below hb6 (by simp; have := hI14.lt; omega)
           have u0 := hI16.cell (j := 0) rfl
           have u1 := hI16.frozen 0))
      have hsz4 := hb4'.size
      have hsz3 := HI3.out.size
      simp only [World.size_alloc] at hsz4
      have hko : KeepsOthers W (w6.setCell ⟨w.heap.size, 0, none⟩ (.int .u32 ((befW ⟨o, (tn : Int), a, b, v⟩ X : Nat) : Int))) :=
        ((((KeepsOthers.alloc W _).trans (KeepsOthers.of_grownBy hg4 (row_cells (own_below HI5.out (by go_grown))))).trans (KeepsOthers.setCell _ _ _)).trans (keeps_below hb6)).trans (KeepsOthers.setCell _ _ _)
      have hbw : Below w.heap.size W (w6.setCell ⟨w.heap.size, 0, none⟩ (.int .u32 ((befW ⟨o, (tn : Int), a, b, v⟩ X : Nat) : Int))) :=
        ((((((Below.refl _ W).alloc hsz3 _).trans (hb4'.mono hs2)).setCell (p := ⟨w.heap.size + 1, 0, none⟩) (by simp) _).trans (hb6.mono (by simp; omega)))).setCell (p := ⟨w.heap.size, 0, none⟩) (Nat.le_refl _) _
      have hBs : (w6.setCell ⟨w.heap.size, 0, none⟩ (.int .u32 ((befW ⟨o, (tn : Int), a, b, v⟩ X : Nat) : Int))).heap[w.heap.size + 1 + 1]? = W.heap[w.heap.size + 1 + 1]? := by
        refine (Below.heap_setCell _ _ _ _ (by simp; omega)).trans ((hb6.block _ (by simp; omega)).trans ((Below.heap_setCell _ _ _ _ (by simp)).trans ((hb4'.block _ (by omega)).trans (Below.heap_alloc _ _ _ (by omega)))))
      have hlr : (r ++ [(⟨o, (tn : Int), a, b, v⟩ : St)]).length = k + 1 := by simp [HK.out]
      refine ⟨hko.from _, ⟨hbw, hBs⟩, ⟨?_, A4, c4, ?_, ?_⟩, HI3.out.trans hbw, Nat.le_trans i4 hbw.size⟩
      · rw [HST.out]
        exact hI16.set 0 _
      · rw [HST.out]
        simp only [hlr]
        exact ((hI24.set 0 (.slice A4 (k + 1) c4)).below hb6 (by simp; have := hI24.lt; omega)).far (by simp) _
      · rw [HST.out]
        simp only [hlr]
        rw [rv_append]
        have := own_farW (own_below (own_farW hown4 (p := ⟨w.heap.size + 1, 0, none⟩) (by simp; omega) (.slice A4 (k + 1) c4)) hb6) (p := ⟨w.heap.size, 0, none⟩) (by simp; omega) (.int .u32 ((befW ⟨o, (tn : Int), a, b, v⟩ X : Nat) : Int))
        simpa [rv] using this
  case done =>
    rintro D ys W hD rfl ⟨⟨i1, A1, c1, i2, i5⟩, i3, i4⟩ hK
    have hall := nedF_all l L
    rw [hall] at i1 i2 i5
    simp only [List.length_reverse] at i1 i2 i5
    obtain ⟨R, hR⟩ : ∃ R, (nedL l L).1 = R := ⟨_, rfl⟩
    rw [hR] at i2 i5
    have HR := Lib.hid hR
    have hlr := nd_len l L
    rw [hR, HL.out] at hlr
    obtain ⟨m, hm3⟩ : ∃ m, R.length = m := ⟨_, rfl⟩
    rw [hm3] at i2 i5 hlr
    have HM := Lib.hid hm3
    have hcS := i2.cell (j := 0) rfl
    have HI2 := Lib.hid i2
    have HI5 := Lib.hid i5
    have HK := Lib.hid hK
    clear hall hR hm3 i1 i2 i5 hK
    gi_wp2_with (refine ⟨trivial, ?_⟩; gi_at_call 83; refine (callsIn_wide.2 (reverseS_any A1 m c1 R.reverse W0.heap.size W HI5.out (by simp [HM.out]) (by omega) i4)).mono ?_; rintro e w7 ⟨rfl, hown7, hb7, hk7⟩; have hcS7 := (HI2.out.below hb7 (by omega)).cell (j := 0) rfl)
    have hK7 := hk7.same D _ HK.out rfl
    rw [List.reverse_reverse] at hown7
    refine ⟨by simp, .inl ⟨_, _, rfl, run_takeDeferred hK7, ?_⟩⟩
    refine ⟨_, results_tmp rfl _ _ _, A1, c1, ?_, ?_, i3.trans ((hb7.mono hs2).trans (belowK_b (w := w) (Nat.le_refl _) w7 D _ _ (by omega) hK7 rfl rfl))⟩
    · rw [HR.out, HM.out]
      rfl
    · rw [HR.out, HM.out]
      exact own_lower (ownsRow_putObj hown7 _ hK7 rfl) hs2
  case stop =>
    rintro D c pre W _ _ h _
    exact h.elim

end Go.Proofs.Ytfhnhbkdhdocjaa
