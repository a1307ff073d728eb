/-
  stack.execute with the closure of stack.Back; stack.Back (C2).
-/
import Derived.Test.YtppnckiedcbleaaNewTerm
import Derived.Test.YtppnckiedcbleaaHeight
import Derived.Test.YtppnckiedcbleaaStackFace
namespace Go.Proofs.Ytppnckiedcbleaa
open Go.RowKit
set_option linter.unusedSimpArgs false
set_option linter.unusedVariables false
set_option maxRecDepth 100000

theorem Wrote.then_below {g : Nat} {w w1 w2 : World} (h : Wrote g w w1) (hb : Below w.heap.size w1 w2) : Wrote g w w2 :=
  ⟨hb.os.trans h.os, hb.tape.trans h.tape, hb.output.trans h.output, Nat.le_trans h.size hb.size, fun k hk hne => (hb.block k hk).trans (h.block k hk hne)⟩

theorem Wrote.trans {g : Nat} {w w1 w2 : World} (h : Wrote g w w1) (hb : Wrote g w1 w2) : Wrote g w w2 :=
  ⟨hb.os.trans h.os, hb.tape.trans h.tape, hb.output.trans h.output, Nat.le_trans h.size hb.size, fun k hk hne => (hb.block k (Nat.lt_of_lt_of_le hk h.size) hne).trans (h.block k hk hne)⟩

theorem own_wrote {g : Nat} {w w' : World} {base : Nat} {e : TypeId} {size : Nat} {v : Value} {n : Nat} {xs : List Value} (h : w.ownsRow base e size v n xs) (hw : Wrote g w w') (hg : g < base) : w'.ownsRow base e size v n xs := by
  refine ⟨h.1, ?_⟩
  rcases h.2 with h2 | ⟨k, cap, cur, h1, h2, h3, h4⟩
  · exact .inl h2
  · have hlt : k < w.heap.size := by
      rcases Nat.lt_or_ge k w.heap.size with hl | hl
      · exact hl
      · rw [Array.getElem?_eq_none hl] at h3; cases h3
    exact .inr ⟨k, cap, cur, h1, h2, (hw.block k hlt (by omega)).trans h3, h4⟩

theorem nwT_bkT {o v a b : Int} {s : List Nat} (ha : 3 ≤ o → a = (s.getD (s.length - 2) 0 : Nat)) (hb : 3 ≤ o → b = (s.getD (s.length - 1) 0 : Nat)) : nwT o v a b = bkT ⟨o, v⟩ s := by
  unfold nwT bkT
  by_cases h : 3 ≤ o
  · rw [if_pos h, if_pos h, ha h, hb h]
  · rw [if_neg h, if_neg h]

theorem pad_set {l : List Tm} {k n : Nat} {t : Tm} (hl : l.length = k) (hk : k < n) : (l ++ List.replicate (n - k) tz).set k t = (l ++ [t]) ++ List.replicate (n - (k + 1)) tz := by
  subst hl
  have e : n - l.length = (n - (l.length + 1)) + 1 := by omega
  rw [List.set_append_right _ _ (Nat.le_refl _), Nat.sub_self, e, List.replicate_succ, List.set_cons_zero, List.append_assoc]
  rfl

theorem pad_len {l : List Tm} {k n : Nat} (hl : l.length = k) (hk : k ≤ n) : (l ++ List.replicate (n - k) tz).length = n := by
  rw [List.length_append, List.length_replicate, hl]; omega

/-- the stack under what an operation pushes -/
def undN (o : Int) (s : List Nat) : List Nat := if 3 ≤ o then s.take (s.length - 2) else s

theorem undN_bkN {o v : Int} {k : Nat} {s : List Nat} : undN o s ++ [k] = bkN ⟨o, v⟩ k s := by
  unfold undN bkN
  by_cases h : 3 ≤ o
  · rw [if_pos h, if_pos h]
  · rw [if_neg h, if_neg h]

set_option maxHeartbeats 4000000 in
theorem execBack_any (vars : Int) (pc pl : Addr) (A : Option Addr) (len cap : Nat) (gl : Nat) (c : List So) (w : World) (hpc : w.cell? pc = some (.slice A len cap)) (hpl : w.cell? pl = some (.slice (some ⟨gl, 0, none⟩) len len)) (hx : RdO w gl A c) (hl : c.length = len)
    (hown : Own w gl 37 (tv (List.replicate len tz))) (hgc : gl ≠ pc.block) (hgp : gl ≠ pl.block) (hl40 : len ≤ 40) (hc : ckSoF vars 0 c = 0) :
    Calls Try.prog 78 #[.slice A len cap, .func (.func 83) #[] #[.pointer (some pc), .pointer (some pl)]] w fun e w' =>
      ∃ A' c', e = .returned (.slice A' (bkR c).length c') ∧ Own w' gl 37 (tv (bkL c)) ∧ Wrote gl w w' := by
  have hpcb := World.block_lt_of_cell? w pc hpc
  have hplb := World.block_lt_of_cell? w pl hpl
  have hglb := hown.lt
  have HL := Lib.hid hl
  have HC := Lib.hid hc
  have HO := Lib.hid hown
  clear hl hc hown
  go_enter Try.func78, Try.ntmps78
  go_wp2
  go_loopw [5, 13] (fun sv i wr => ∃ (k : Nat) (l : List Tm) (s : List Nat) (sn : Nat) (SA : Option Addr) (sc : Nat), k ≤ len ∧ i = .int .i64 k ∧ sv = .slice SA sn sc ∧ Hid (s.length = sn) ∧ sn ≤ k ∧ Hid (BkAt vars c k l s) ∧ wr.ownsRow w.heap.size 3 1 (.slice SA sn sc) sn (iv (ni s)) ∧ Own wr gl 37 (tv (l ++ List.replicate (len - k) tz)) ∧ Wrote gl w wr) (fun _ i _ => len - (intOf i).toNat)
  case atStart => exact ⟨0, [], [], 0, none, 0, Nat.zero_le _, rfl, rfl, Lib.hid rfl, Nat.le_refl _, Lib.hid (BkAt.start HC.out), World.ownsRow_nil _ _ _ _, HO.out, Wrote.of_below (Below.refl _ _)⟩
  case round =>
    obtain ⟨k, l, s, sn, SA, sc, hk, rfl, rfl, HSL, hsk, HR, hown, hO, hW⟩ := hrel
    have hsz := hW.size
    have hsc := own_cap hown
    have hbg : Below gl w wr := hW.below (Nat.le_refl _) (by omega)
    have hglr := hO.lt
    by_cases hlt : k < len
    · obtain ⟨ad, o, v, rfl, hbl, hd, hc0, hc1⟩ := (hx.below hbg (Nat.le_refl _)).at_ (k := k) (by rw [HL.out]; exact hlt)
      have HD := Lib.hid (drop_at hd)
      have HD1 := Lib.hid hd
      have hcase := ckSo_cases (HR.out.ck HD.out)
      rw [HSL.out] at hcase
      have hpc' := (hW.cell hpcb (by omega)).trans hpc
      have hpl' := (hW.cell hplb (by omega)).trans hpl
      have hpcw : pc.block < wr.heap.size := by omega
      have hplw : pl.block < wr.heap.size := by omega
      have hxw := hx.below hbg (Nat.le_refl _)
      have hgw : gl ≤ wr.heap.size := by omega
      have HTL := Lib.hid (pad_len (n := len) HR.out.2.2.1 hk)
      have ho1 : 1 ≤ o := by omega
      clear hd
      by_cases ho : 3 ≤ o
      · obtain ⟨ho6, ho2⟩ : o ≤ 6 ∧ 2 ≤ sn := by omega
        have hlf : leafB' o = false := by unfold leafB'; simp; omega
        obtain ⟨xa, hxa⟩ : ∃ x, s[sn - 2]? = some x := ⟨_, List.getElem?_eq_getElem (by rw [HSL.out]; omega)⟩
        obtain ⟨xb, hxb⟩ : ∃ x, s[sn - 1]? = some x := ⟨_, List.getElem?_eq_getElem (by rw [HSL.out]; omega)⟩
        have hrs0 := own_rdI hown (by rw [ni_len]; exact HSL.out)
        obtain ⟨sa, ya, hsa, hbla, hya, hca⟩ := hrs0.at_ (k := sn - 2) (by rw [ni_len, HSL.out]; omega)
        obtain ⟨sa2, yb, hsa2, hblb, hyb, hcb⟩ := hrs0.at_ (k := sn - 1) (by rw [ni_len, HSL.out]; omega)
        subst hsa
        injection hsa2 with hsa2
        subst hsa2
        rw [ni_at hxa] at hya
        rw [ni_at hxb] at hyb
        injection hya with hya
        injection hyb with hyb
        subst hya hyb
        have hT : Hid (nwT o v (xa : Int) (xb : Int) = bkT ⟨o, v⟩ s) := Lib.hid (nwT_bkT (fun _ => by rw [HSL.out, List.getD_eq_getElem?_getD, hxa]; rfl) (fun _ => by rw [HSL.out, List.getD_eq_getElem?_getD, hxb]; rfl))
        have hlo := own_less hown (m := sn - 2) (by omega)
        rw [← ni_take] at hlo
        have HU : Hid (s.take (sn - 2) = undN o s) := Lib.hid (by unfold undN; rw [if_pos ho, HSL.out])
        have HUL : Hid ((undN o s).length = sn - 2) := Lib.hid (by rw [← HU.out, List.length_take, HSL.out]; omega)
        rw [HU.out] at hlo
        have hc_ : sn - 2 + 1 ≤ maxLen := by unfold maxLen; omega
        have hd_ : (sn - 2 + 1) * 8 ≤ 140737488355328 := by omega
        have hcv2 : (sn : Int) - 2 = ((sn - 2 : Nat) : Int) := by omega
        have hcv1 : (sn : Int) - 2 + 1 = ((sn - 1 : Nat) : Int) := by omega
        have hcv0 : ((sn - 2 : Nat) : Int) + 1 = ((sn - 1 : Nat) : Int) := by omega
        have hi1 : sn - 1 < sn := by omega
        have hi2 : sn - 2 < sn := by omega
        have hw1 : IntKind.i64.wrap ((sn - 1 : Nat) : Int) = ((sn - 1 : Nat) : Int) := IntWalk.i64_in _ ⟨by omega, by omega⟩
        have hw2 : IntKind.i64.wrap ((sn - 2 : Nat) : Int) = ((sn - 2 : Nat) : Int) := IntWalk.i64_in _ ⟨by omega, by omega⟩
        have hj1 : ((sn - 1 : Nat) : Int) < (sn : Int) := by omega
        have hj2 : ((sn - 2 : Nat) : Int) < (sn : Int) := by omega
        have hbla1 : (sa.add (sn - 2)).block < wr.heap.size + 1 := by omega
        have hblb1 : (sa.add (sn - 1)).block < wr.heap.size + 1 := by omega
        clear hxa hxb hrs0
        go_wp2_with (go_at_call 76; (with_reducible refine (isLeaf_any _ _).mono ?_); rintro e w2 ⟨rfl, rfl⟩)
        go_region
        all_goals
          go_wp2_with (first
            | (go_at_call 83; (with_reducible refine (pushBack_any k o v xa xb pc pl _ len cap len gl c (l ++ List.replicate (len - k) tz) _ (((by go_grown : Below wr.heap.size wr _).cell hpcw).trans hpc') (((by go_grown : Below wr.heap.size wr _).cell hplw).trans hpl') (hxw.below (by go_grown : Below wr.heap.size wr _) hgw) HL.out (hO.below (by go_grown : Below wr.heap.size wr _) hglr) HTL.out hlt hgc hgp HD1.out ho1).mono ?_); rintro e w1 ⟨rfl, hO1, hW1⟩; have hW2 := (hW.then_below ((by go_grown : Below wr.heap.size wr _).mono hsz)).trans hW1; have hown1 := own_wrote (own_below hlo (by go_grown)) hW1 hglb; have hs1 := hW2.size)
            | (at_builtin; refine wpList_app rfl (.tmp 37) (.tmp 43) 26 rfl w.heap.size 3 1 8 int_app (iv (ni (undN o s))) rfl (own_below hown1 (by go_grown)) [.int .i64 (k : Int)] rfl rfl (fun h => by cases h) (cells_at (by simp) _ _) (one_cell _) hc_ hd_ (by simp; omega) ?_; intro A2 c2 w4 hown2 hg2 hb2))
          go_round
          case rel =>
            have hlen : (undN o s ++ [k]).length = sn - 2 + 1 := by rw [List.length_append, HUL.out]; rfl
            have hB4 : Below w.heap.size w1 w4 := (by go_grown : Below w.heap.size w1 _).trans hb2
            refine ⟨k + 1, l ++ [nwT o v xa xb], undN o s ++ [k], sn - 2 + 1, A2, c2, by omega, by go_num, rfl, Lib.hid hlen, by omega, Lib.hid (HR.out.step HD.out hT.out undN_bkN), ?_, ?_, hW2.then_below hB4⟩
            · rw [ni_append, iv_append]; exact hown2
            · rw [← pad_set HR.out.2.2.1 hlt]; exact hO1.below hB4 hglb
          case measure => (simp [intOf]; omega)
      · have hlf : leafB' o = true := by unfold leafB'; simp; omega
        have HU : Hid (undN o s = s) := Lib.hid (by unfold undN; rw [if_neg ho])
        have hT : Hid (nwT o v 0 0 = bkT ⟨o, v⟩ s) := Lib.hid (nwT_bkT (fun h => absurd h ho) (fun h => absurd h ho))
        have hc_ : sn + 1 ≤ maxLen := by unfold maxLen; omega
        have hd_ : (sn + 1) * 8 ≤ 140737488355328 := by omega
        rw [← HU.out] at hown
        go_wp2_with (first
          | (go_at_call 76; (with_reducible refine (isLeaf_any _ _).mono ?_); rintro e w2 ⟨rfl, rfl⟩)
          | (go_at_call 83; (with_reducible refine (pushBack_any k o v 0 0 pc pl _ len cap len gl c (l ++ List.replicate (len - k) tz) _ (((by go_grown : Below wr.heap.size wr _).cell hpcw).trans hpc') (((by go_grown : Below wr.heap.size wr _).cell hplw).trans hpl') (hxw.below (by go_grown : Below wr.heap.size wr _) hgw) HL.out (hO.below (by go_grown : Below wr.heap.size wr _) hglr) HTL.out hlt hgc hgp HD1.out ho1).mono ?_); rintro e w1 ⟨rfl, hO1, hW1⟩; have hW2 := (hW.then_below ((by go_grown : Below wr.heap.size wr _).mono hsz)).trans hW1; have hown1 := own_wrote (own_below hown (by go_grown)) hW1 hglb; have hs1 := hW2.size)
          | (at_builtin; refine wpList_app rfl (.tmp 37) (.tmp 43) 26 rfl w.heap.size 3 1 8 int_app (iv (ni (undN o s))) rfl (own_below hown1 (by go_grown)) [.int .i64 (k : Int)] rfl rfl (fun h => by cases h) (cells_at (by simp) _ _) (one_cell _) hc_ hd_ (by simp; omega) ?_; intro A2 c2 w4 hown2 hg2 hb2))
        go_round
        case rel =>
          have hlen : (undN o s ++ [k]).length = sn + 1 := by rw [List.length_append, HU.out, HSL.out]; rfl
          have hB4 : Below w.heap.size w1 w4 := (by go_grown : Below w.heap.size w1 _).trans hb2
          refine ⟨k + 1, l ++ [nwT o v 0 0], undN o s ++ [k], sn + 1, A2, c2, by omega, by go_num, rfl, Lib.hid hlen, by omega, Lib.hid (HR.out.step HD.out hT.out undN_bkN), ?_, ?_, hW2.then_below hB4⟩
          · rw [ni_append, iv_append]; exact hown2
          · rw [← pad_set HR.out.2.2.1 hlt]; exact hO1.below hB4 hglb
        case measure => (simp [intOf]; omega)
    · have hkl : k = len := by omega
      subst hkl
      have hq := HR.out
      rw [← HL.out] at hq
      have HM := Lib.hid hq.done
      have HE := Lib.hid (show (bkR c).length = sn by rw [← HM.out.2]; exact HSL.out)
      have HO2 : Hid (Own wr gl 37 (tv (bkL c))) := Lib.hid (by rw [Nat.sub_self, List.replicate_zero, List.append_nil, HM.out.1] at hO; exact hO)
      clear hO
      go_wp2
      go_ret
      rw [HE.out]
      exact ⟨SA, sc, rfl, HO2.out, hW⟩

end Go.Proofs.Ytppnckiedcbleaa
