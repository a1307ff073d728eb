/-
  term.needs: which terms the last one depends on.
-/
import Derived.Test.YtfhnhbkdhdocjaaBack
import Derived.Test.YtfhnhbkdhdocjaaRegion
namespace Go.Proofs.Ytfhnhbkdhdocjaa
open Go.RowKit Go.Shelf
set_option linter.unusedSimpArgs false
set_option linter.unusedVariables false
set_option maxRecDepth 100000
attribute [local go_sem] Oper.semAt_some

theorem bool_info : (Try.prog.info? 4).map (fun i => (i.zero, i.size, i.bytes)) = some (some (.bool false), 1, 1) := by kernel_rfl

def leafB (o : Int) : Bool := o == 1 || o == 2

set_option maxHeartbeats 1000000 in
theorem isLeaf_in (F : Fence) (n : Nat) (h7 : F.fn 91) (hro : F.round = none) (o : Int) (w : World) :
    CallsIn F n Try.prog 91 #[.int .i64 o] w fun e w' => e = .returned (.bool (leafB o)) ∧ w = w' := by
  refine callsIn_of_wp Try.func91 rfl h7 ?_ hro
  simp only [Try.ntmps91, List.size_toArray, List.length_cons, List.length_nil, Nat.reduceAdd, Nat.reduceSub, Array.replicate_succ, Array.replicate_zero, List.push_toArray, List.append_toArray, List.nil_append, List.cons_append]
  gi_wp2
  all_goals
    go_ret
    refine ⟨ret_bool ?_, rfl⟩
    unfold leafB
    first | rfl | ((go_light; (try simp only [Bool.not_eq_true', Bool.not_eq_false', decide_eq_true_eq, decide_eq_false_iff_not, beq_iff_eq, beq_eq_false_iff_ne, bne_iff_ne, bne_eq_false_iff_eq, ne_eq, Bool.and_eq_true, Bool.or_eq_true, Bool.and_eq_false_iff, Bool.or_eq_false_iff, Decidable.not_not] at *)); simp [*])

/-- the two stores of a round -/
def wf (W : World) (g an bn : Nat) (b7 b9 : Bool) : World :=
  match b7, b9 with
  | false, false => W.drew
  | true, false => W.drew.setCell ⟨g, an, none⟩ (.bool true)
  | false, true => W.drew.setCell ⟨g, bn, none⟩ (.bool true)
  | true, true => (W.drew.setCell ⟨g, an, none⟩ (.bool true)).setCell ⟨g, bn, none⟩ (.bool true)

def ndf (nd : List Bool) (an bn : Nat) (b7 b9 : Bool) : List Bool :=
  match b7, b9 with
  | false, false => nd
  | true, false => nd.set an true
  | false, true => nd.set bn true
  | true, true => (nd.set an true).set bn true

set_option maxHeartbeats 4000000 in
theorem needs_in (F : Fence) (n : Nat) (h3 : F.fn 90) (h5 : F.fn 110) (h6 : F.fn 120) (h7 : F.fn 91) (hro : F.round = none) (hn : 5 ≤ n)
    (vars : Int) (A : Option Addr) (len cap : Nat) (l : List Tm) (w : World) (hx : RdT w w.heap.size A l) (hl : l.length = len) (hc : ckTerms vars l = 0) :
    CallsIn F n Try.prog 90 #[.slice A len cap] w fun e w' => ∃ g, e = .returned (.slice (some ⟨g, 0, none⟩) len len) ∧ Own w' g 4 (bv (needL l)) ∧ Below w.heap.size w w' ∧ w.heap.size ≤ g := by
  obtain ⟨_, _, b3, b4⟩ := ckTerms_bd hc
  have HL := Lib.hid hl
  have HC := Lib.hid hc
  rw [hl] at b3 b4
  clear hl hc
  have h1 : 1 ≤ n := by omega
  have hmk := make_bools (P := Try.prog) 76 4 Try.underlying76 bool_info len (by omega)
  have hbv : (bv (List.replicate len false))[len - 1]? = some (.bool false) := bv_at (by rw [List.getElem?_replicate, if_pos (by omega)])
  refine callsIn_of_wp_marks Try.func90 rfl h3 ?_ hro
  simp only [Try.ntmps90, List.size_toArray, List.length_cons, List.length_nil, Nat.reduceAdd, Nat.reduceSub, Array.replicate_succ, Array.replicate_zero, List.push_toArray, List.append_toArray, List.nil_append, List.cons_append]
  gi_wp2_with (gi_at_call 110; refine (back_in F (n - 1) h5 hro _ _ _ _).mono ?_; rintro e w' ⟨rfl, rfl⟩)
  obtain ⟨W0, hW0⟩ : ∃ W0 : World, W0 = (((w.alloc (Obj.cells ((bv (List.replicate len false)).set (len - 1) (Value.bool true)).toArray 4)).alloc (Obj.cells #[Value.slice (some { block := w.heap.size, off := 0 }) len len] 76)).alloc (Obj.cells #[Value.slice A len cap] 50)) := ⟨_, rfl⟩
  have hown0 : Own W0 w.heap.size 4 (bv (need0 l)) := by
    rw [hW0]
    refine ((?_ : Own _ _ _ _).alloc _).alloc _
    have h := Own.new w 4 ((bv (List.replicate len false)).set (len - 1) (Value.bool true))
    rw [show (bv (List.replicate len false)).set (len - 1) (Value.bool true) = bv (need0 l) from by simp [bv, need0, List.map_set, HL.out]] at h ⊢
    exact h
  have hbox0 : Own W0 (w.heap.size + 1) 76 [.slice (some ⟨w.heap.size, 0, none⟩) len len] := by
    rw [hW0]
    refine (?_ : Own _ _ _ _).alloc _
    have h := Own.new (w.alloc (Obj.cells ((bv (List.replicate len false)).set (len - 1) (Value.bool true)).toArray 4)) 76 [.slice (some ⟨w.heap.size, 0, none⟩) len len]
    rwa [World.size_alloc] at h
  have hcap0 : W0.cell? ⟨w.heap.size + 1 + 1, 0, none⟩ = some (.slice A len cap) := by
    rw [hW0]
    have h := (Own.new ((w.alloc (Obj.cells ((bv (List.replicate len false)).set (len - 1) (Value.bool true)).toArray 4)).alloc (Obj.cells #[Value.slice (some { block := w.heap.size, off := 0 }) len len] 76)) 50 [.slice A len cap]).cell (j := 0) rfl
    rwa [World.size_alloc, World.size_alloc] at h
  have hB0 : Below w.heap.size w W0 := by rw [hW0]; go_grown
  have hs0 : W0.heap.size = w.heap.size + 1 + 1 + 1 := by rw [hW0]; simp
  rw [← hW0]
  clear hW0 hmk hbv
  have HS := Lib.hid hs0
  have hs1 : w.heap.size + 1 + 1 < W0.heap.size := by omega
  have hs2 : w.heap.size ≤ W0.heap.size := by omega
  clear hs0
  refine wpIn_rangeFunc_ownH hro h1 (gf := 120) (lb := #[.pointer (some ⟨w.heap.size + 1 + 1, 0, none⟩)]) rfl h6 (enters_of Try.func120 (by kernel_rfl) rfl)
    (back_stops F (n - 1) h6 hro (by omega) (w.heap.size + 1 + 1) w.heap.size len cap A l HL.out (by omega) W0 hs1 hs2 hcap0 (hx.below hB0 (Nat.le_refl _))) KpB.t (KpB.b hs2 hs1) (Below.refl _ _) (fun _ => rfl)
    (fun pre W => (Own W w.heap.size 4 (bv (pre.foldl (needStep l) (need0 l))) ∧ Own W (w.heap.size + 1) 76 [.slice (some ⟨w.heap.size, 0, none⟩) len len]) ∧ (Below w.heap.size w W ∧ W0.heap.size ≤ W.heap.size))
    (fun _ _ _ => False)
    (OwnFrom.and (_root_.Go.Own.from (fun s A B row hs hg hr => ⟨hs.1.kept hg hr, hs.2.kept hg hr⟩) _) (OwnFrom.and (ownFrom_below (Nat.le_refl _) hs2) (fun _ _ _ _ h hg _ => Nat.le_trans h hg.size)))
    (fun _ _ _ _ _ hs _ _ => hs)
    ⟨⟨hown0, hbox0⟩, hB0, Nat.le_refl _⟩
    (fun x a' W => ∃ Bx, W0.heap.size ≤ Bx ∧ Own W Bx 56 [.int .i64 l[x.1].op, .int .i64 l[x.1].a, .int .i64 l[x.1].b, .int .i64 l[x.1].v] ∧
      a' = { tmps := #[.slice A len cap, undef, .slice none 0 0, .pointer (some ⟨w.heap.size + 1, 0, none⟩), .int .i64 (x.1 : Int), .pointer (some ⟨Bx, 0, none⟩), .slice A len cap, .int .i64 len, .slice (some ⟨w.heap.size, 0, none⟩) len len, .slice (some ⟨w.heap.size, 0, none⟩) len len, .slice A len cap, .int .i64 len, .int .i64 ((len : Int) - 1), .pointer (some ⟨w.heap.size, len - 1, none⟩), .slice A len cap, .func (.func 120) #[] #[.pointer (some ⟨w.heap.size + 1 + 1, 0, none⟩)], .int .i64 (x.1 : Int), .agg #[.int .i64 l[x.1].op, .int .i64 l[x.1].a, .int .i64 l[x.1].b, .int .i64 l[x.1].v], undef, undef, undef, undef, undef, undef, undef, undef, undef, undef, undef, undef, undef, undef, undef, undef, undef, undef, undef], defers := [] })
    (fun x a' => _root_.Go.Own.from (fun s A B row hs hg hr => by obtain ⟨Bx, h1, h2, h3⟩ := hs; exact ⟨Bx, h1, h2.kept hg hr, h3⟩) _)
    ?assign ?body ?done ?stop
  case assign =>
    rintro lb pre x W K ⟨⟨i1, i2⟩, i3, i4⟩ hK
    simp only [encT]
    gi_wp2
    exact hK _ _ ((KeepsOthers.alloc _ _).from _) (KpB.alloc W i3.size (by omega) _) ⟨⟨i1.alloc _, i2.alloc _⟩, i3.alloc i3.size _, by simp; omega⟩ ⟨W.heap.size, i4, Own.new _ _ _, rfl⟩
  case body =>
    rintro lb pre ⟨m, hm⟩ a' W hlb ⟨r, hr⟩ ⟨⟨i1, i2⟩, i3, i4⟩ ⟨Bx, hBx, bX, rfl⟩ hlt
    simp only at bX ⊢
    have hml : m < len := by rw [← HL.out]; exact hm
    have hcase := ckTerms_cases (o := l[m].op) (a := l[m].a) (b := l[m].b) (v := l[m].v) HC.out (List.getElem?_eq_getElem hm)
    have hst : List.foldl (needStep l) (need0 l) (pre ++ [⟨m, hm⟩]) = needStep l (List.foldl (needStep l) (need0 l) pre) ⟨m, hm⟩ := by rw [List.foldl_append]; rfl
    have hndl : (List.foldl (needStep l) (need0 l) pre).length = len := by rw [needFold_len]; simp [need0, HL.out]
    have hstep : needStep l (List.foldl (needStep l) (need0 l) pre) ⟨m, hm⟩ = if (List.foldl (needStep l) (need0 l) pre).getD m false = true ∧ ¬ (l[m].op = 1 ∨ l[m].op = 2) then ((List.foldl (needStep l) (need0 l) pre).set l[m].a.toNat true).set l[m].b.toNat true else List.foldl (needStep l) (need0 l) pre := rfl
    rw [hstep] at hst
    generalize hnd : List.foldl (needStep l) (need0 l) pre = nd at *
    generalize l[m].op = o at *
    generalize l[m].a = a at *
    generalize l[m].b = b at *
    generalize l[m].v = v at *
    clear hstep
    have hcS := i2.cell (j := 0) rfl
    have hc0 := bX.cell (j := 0) rfl
    have hc1 := bX.cell (j := 1) rfl
    have hc2 := bX.cell (j := 2) rfl
    obtain ⟨bb, hbb⟩ : ∃ bb, nd[m]? = some bb := ⟨_, List.getElem?_eq_getElem (show m < nd.length by omega)⟩
    have hcN := i1.cell (bv_at hbb)
    rw [show nd.getD m false = bb from by simp [hbb]] at hst
    have HST := Lib.hid hst
    have HND := Lib.hid hndl
    clear hst hndl hnd hbb
    cases bb with
    | false =>
      rw [if_neg (by simp)] at HST
      gi_wp2
      exact ⟨KeepsFrom.refl _ _, KpB.refl _ _ _, ⟨by rw [HST.out]; exact i1, i2⟩, i3, i4⟩
    | true =>
      by_cases hop : o = 1 ∨ o = 2
      · rw [if_neg (by simp [hop])] at HST
        have hlf : leafB o = true := by unfold leafB; simp; exact hop
        clear hop hcase
        have h12 : 1 ≤ n - 1 - 1 := by omega
        gi_wp2_with (gi_at_call 91; refine (CallsIn.inRound lb (isLeaf_in F _ h7 hro _ _)).mono ?_; rintro e w2 ⟨rfl, rfl⟩)
        exact ⟨KeepsFrom.refl _ _, KpB.refl _ _ _, ⟨by rw [HST.out]; exact i1, i2⟩, i3, i4⟩
      · rw [if_pos ⟨rfl, hop⟩] at HST
        have hlf : leafB o = false := by unfold leafB; simp; omega
        obtain ⟨ha0, ha1, hb0, hb1⟩ : 0 ≤ a ∧ a < m ∧ 0 ≤ b ∧ b < m := by omega
        obtain ⟨an, rfl⟩ := Int.eq_ofNat_of_zero_le ha0
        obtain ⟨bn, rfl⟩ := Int.eq_ofNat_of_zero_le hb0
        clear hop hcase
        have h12 : 1 ≤ n - 1 - 1 := by omega
        have han : an < len := by omega
        have hbn : bn < len := by omega
        obtain ⟨xa, hxa⟩ : ∃ x, nd[an]? = some x := ⟨_, List.getElem?_eq_getElem (show an < nd.length by have := HND.out; omega)⟩
        obtain ⟨xb, hxb⟩ : ∃ x, nd[bn]? = some x := ⟨_, List.getElem?_eq_getElem (show bn < nd.length by have := HND.out; omega)⟩
        have hca := i1.cell (bv_at hxa)
        have hcb := i1.cell (bv_at hxb)
        have hfa := i1.frozen an
        have hfb := i1.frozen bn
        clear hxa hxb
        gi_wp2_with (gi_at_call 91; refine (CallsIn.inRound lb (isLeaf_in F _ h7 hro _ _)).mono ?_; rintro e w2 ⟨rfl, rfl⟩)
        have hne1 : w.heap.size ≠ Bx := by omega
        have hX : ∀ b7 b9 : Bool, Own (wf W w.heap.size an bn b7 b9) w.heap.size 4 (bv (ndf nd an bn b7 b9)) ∧ Own (wf W w.heap.size an bn b7 b9) (w.heap.size + 1) 76 [.slice (some ⟨w.heap.size, 0, none⟩) len len] ∧
            Own (wf W w.heap.size an bn b7 b9) Bx 56 [.int .i64 o, .int .i64 an, .int .i64 bn, .int .i64 v] := by
          intro b7 b9
          unfold wf ndf
          refine ⟨?_, ?_, ?_⟩
          · cases b7 <;> cases b9
            · exact i1.drew
            · exact OwnB.set i1.drew bn true
            · exact OwnB.set i1.drew an true
            · exact OwnB.set (OwnB.set i1.drew an true) bn true
          · cases b7 <;> cases b9
            · exact i2.drew
            · exact i2.drew.far (by simp) _
            · exact i2.drew.far (by simp) _
            · exact (i2.drew.far (by simp) _).far (by simp) _
          · cases b7 <;> cases b9
            · exact bX.drew
            · exact bX.drew.far (Ne.symm hne1) _
            · exact bX.drew.far (Ne.symm hne1) _
            · exact (bX.drew.far (Ne.symm hne1) _).far (Ne.symm hne1) _
        have hnl : ∀ b7 b9 : Bool, (ndf nd an bn b7 b9).length = len := by
          intro b7 b9
          have := HND.out
          unfold ndf
          cases b7 <;> cases b9 <;> simp [this]
        refine regionIn_inv (fun listed a' w' => ∃ b0 b1 b2 b3 b4 b5 b6 b7 b8 b9 : Bool, listed = #[b0, b1, b2, b3, b4, b5, b6, b7, b8, b9] ∧ (b9 = true → b7 = true) ∧ a' = { tmps := #[.slice A len cap, undef, .slice none 0 0, .pointer (some ⟨w.heap.size + 1, 0, none⟩), .int .i64 m, .pointer (some ⟨Bx, 0, none⟩), .slice A len cap, .int .i64 len, .slice (some ⟨w.heap.size, 0, none⟩) len len, .slice (some ⟨w.heap.size, 0, none⟩) len len, .slice A len cap, .int .i64 len, .int .i64 ((len : Int) - 1), .pointer (some ⟨w.heap.size, len - 1, none⟩), .slice A len cap, .func (.func 120) #[] #[.pointer (some ⟨w.heap.size + 1 + 1, 0, none⟩)], .int .i64 m, .agg #[.int .i64 o, .int .i64 an, .int .i64 bn, .int .i64 v], .slice (some ⟨w.heap.size, 0, none⟩) len len, .int .i64 m, .pointer (some ⟨w.heap.size, m, none⟩), .bool true, .bool true, .pointer (some ⟨Bx, 0, none⟩), .int .i64 o, .bool false, .bool true, .bool true, bif b0 then .slice (some ⟨w.heap.size, 0, none⟩) len len else undef, bif b1 then .pointer (some ⟨Bx, 1, none⟩) else undef, bif b2 then .int .i64 an else undef, bif b3 then .slice (some ⟨w.heap.size, 0, none⟩) len len else undef, bif b4 then .pointer (some ⟨Bx, 2, none⟩) else undef, bif b5 then .int .i64 bn else undef, bif b6 then .pointer (some ⟨w.heap.size, an, none⟩) else undef, bif b8 then .pointer (some ⟨w.heap.size, bn, none⟩) else undef, undef], defers := [] } ∧
          w' = wf W w.heap.size an bn b7 b9) (by kernel_rfl) (by kernel_rfl) ?h0 ?hstep ?hdone
        case h0 => exact ⟨false, false, false, false, false, false, false, false, false, false, rfl, (fun h => h), rfl, rfl⟩
        case hstep =>
          rintro listed a' w' i op ⟨b0, b1, b2, b3, b4, b5, b6, b7, b8, b9, rfl, hb97, rfl, rfl⟩ ho hl hp
          obtain ⟨hX1, hX2, hX3⟩ := hX b7 b9
          obtain ⟨ya, hya⟩ : ∃ y, (ndf nd an bn b7 b9)[an]? = some y := ⟨_, List.getElem?_eq_getElem (by rw [hnl]; exact han)⟩
          obtain ⟨yb, hyb⟩ : ∃ y, (ndf nd an bn b7 b9)[bn]? = some y := ⟨_, List.getElem?_eq_getElem (by rw [hnl]; exact hbn)⟩
          have q1 := hX1.cell (bv_at hya)
          have q2 := hX1.cell (bv_at hyb)
          have q3 := hX1.frozen an
          have q4 := hX1.frozen bn
          have q5 := hX2.cell (j := 0) rfl
          have q6 := hX3.cell (j := 1) rfl
          have q7 := hX3.cell (j := 2) rfl
          clear hX hnl hya hyb hX1 hX2 hX3 hca hcb hcS hc0 hc1 hc2 hcN
          have HWX := Lib.hid (rfl : wf W w.heap.size an bn b7 b9 = wf W w.heap.size an bn b7 b9)
          generalize hWX : wf W w.heap.size an bn b7 b9 = X at *
          have HX := Lib.hid hWX
          clear hWX HWX
          rcases i with _ | _ | _ | _ | _ | _ | _ | _ | _ | _ | i
          all_goals
            simp at ho
          all_goals
            subst ho
            simp [Region.binds] at hl hp
            subst hl
            try (rcases b0 with _ | _; (· (exfalso; revert hp; simp; done)))
            try (rcases b1 with _ | _; (· (exfalso; revert hp; simp; done)))
            try (rcases b2 with _ | _; (· (exfalso; revert hp; simp; done)))
            try (rcases b3 with _ | _; (· (exfalso; revert hp; simp; done)))
            try (rcases b4 with _ | _; (· (exfalso; revert hp; simp; done)))
            try (rcases b5 with _ | _; (· (exfalso; revert hp; simp; done)))
            try (rcases b6 with _ | _; (· (exfalso; revert hp; simp; done)))
            try (rcases b7 with _ | _; (· (exfalso; revert hp; simp; done)))
            try (rcases b8 with _ | _; (· (exfalso; revert hp; simp; done)))
            try (rcases b9 with _ | _; (· (exfalso; revert hp; simp; done)))
            refine wpOpIn_cont (fun K' hK => ?_)
            simp only [wpOpIn]
            go_simp
            refine hK _ _ ?_
            clear hK
          all_goals
            first
              | exact ⟨_, _, _, _, _, _, _, _, _, _, rfl, hb97, rfl, HX.out.symm⟩
              | (obtain rfl : b9 = false := by cases b9 <;> simp_all
                 exact ⟨_, _, _, _, _, _, _, true, _, _, rfl, fun _ => rfl, rfl, by rw [← HX.out]; rfl⟩)
              | exact ⟨_, _, _, _, _, _, _, _, _, true, rfl, fun _ => rfl, rfl, by rw [← HX.out]; rfl⟩
        case hdone =>
          rintro listed a' w' ⟨b0, b1, b2, b3, b4, b5, b6, b7, b8, b9, rfl, hb97, rfl, rfl⟩ hd
          have h7 : b7 = true := by simpa using hd 7 (by simp)
          have h9 : b9 = true := by simpa using hd 9 (by simp)
          subst h7 h9
          obtain ⟨hX1, hX2, hX3⟩ := hX true true
          clear hX hnl hca hcb hcS hc0 hc1 hc2 hcN
          have hXB : Below w.heap.size W (wf W w.heap.size an bn true true) := (((Below.refl _ W).drew).setCell (p := ⟨w.heap.size, an, none⟩) (Nat.le_refl _) _).setCell (p := ⟨w.heap.size, bn, none⟩) (Nat.le_refl _) _
          have hXK : KpB w.heap.size (w.heap.size + 1 + 1) W (wf W w.heap.size an bn true true) := (((KpB.refl _ _ W).drew).t (KpB.setCell _ (p := ⟨w.heap.size, an, none⟩) (Nat.le_refl _) (by simp; omega) _)).t (KpB.setCell _ (p := ⟨w.heap.size, bn, none⟩) (Nat.le_refl _) (by simp; omega) _)
          have hXO : KeepsOthers W (wf W w.heap.size an bn true true) := ((KeepsOthers.drew W).trans (KeepsOthers.setCell _ _ _)).trans (KeepsOthers.setCell _ _ _)
          generalize wf W w.heap.size an bn true true = X at *
          gi_wp2
          exact ⟨hXO.from _, hXK, ⟨by rw [HST.out]; exact hX1, hX2⟩, i3.trans hXB, Nat.le_trans i4 hXB.size⟩
  case done =>
    rintro D ys W hD rfl ⟨⟨i1, i2⟩, i3, i4⟩ hK
    have hcS := i2.cell (j := 0) rfl
    gi_wp2
    refine ⟨by simp, .inl ⟨_, _, rfl, run_takeDeferred hK, ?_⟩⟩
    have hne : w.heap.size ≠ D := by omega
    exact ⟨_, results_tmp rfl _ _ _, w.heap.size, rfl, (World.putObj_heap_other hne).trans i1, i3.trans (belowK_b (w := w) (Nat.le_refl _) W D _ _ (by omega) hK rfl rfl), Nat.le_refl _⟩
  case stop =>
    rintro D c pre W _ _ h _
    exact h.elim

/-- term.needs, for the walk of its callers -/
theorem needs_any (vars : Int) (A : Option Addr) (len cap : Nat) (l : List Tm) (w : World) (hx : RdT w w.heap.size A l) (hl : l.length = len) (hc : ckTerms vars l = 0) :
    Calls Try.prog 90 #[.slice A len cap] w fun e w' => ∃ g, e = .returned (.slice (some ⟨g, 0, none⟩) len len) ∧ Own w' g 4 (bv (needL l)) ∧ Below w.heap.size w w' ∧ w.heap.size ≤ g :=
  callsIn_wide.1 (needs_in Fence.wide 5 trivial trivial trivial trivial rfl (by omega) vars A len cap l w hx hl hc)

end Go.Proofs.Ytfhnhbkdhdocjaa
