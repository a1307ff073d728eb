/-
  known.Fold (L2).
-/
import Derived.Test.YtdckagledddkdaaKnIn
import Derived.Test.YtdckagledddkdaaFoldIs
import Derived.Test.YtdckagledddkdaaLiveRaw
namespace Go.Proofs.Ytdckagledddkdaa
open Go.RowKit
set_option linter.unusedSimpArgs false
set_option linter.unusedVariables false
set_option maxRecDepth 100000

theorem make_blocks {P : Program} (t e : TypeId) (ht : P.underlying t = some (.slice e)) (hi : (P.info? e).map (fun i => (i.zero, i.size, i.bytes)) = some (some (.agg #[.slice none 0 0, .int .i64 0, .int .i64 0, .int .i64 0]), 4, 48)) (n : Nat) (hn : n ≤ 65536) (w : World) :
    (Instr.makeSlice t (.int .i64 (n : Int)) (.int .i64 (n : Int))).run P w = .ok (.slice (some ⟨w.heap.size, 0, none⟩) n n) (w.alloc (.cells (rv cBk (List.replicate n ((⟨[], 0, 0, 0⟩ : Bk), (none : Option Addr), 0))).toArray e)) := by
  obtain ⟨i0, hi0, hz, hs, hb⟩ := info_parts hi
  have h := run_make (P := P) w t e i0 _ ht hi0 hz .i64 .i64 (n : Int) (n : Int) (by omega) (by omega) (by rw [hb]; omega) (by omega)
  simp only [Int.toNat_natCast, hs] at h
  rw [h]
  have hm : madeCells (Value.agg #[.slice none 0 0, .int .i64 0, .int .i64 0, .int .i64 0]).cells (n * 4) = (rv cBk (List.replicate n ((⟨[], 0, 0, 0⟩ : Bk), (none : Option Addr), 0))).toArray := by
    apply Array.ext
    · simp [madeCells, rv_len cBk_len]
    · intro j h1 h2
      have hj : j < n * 4 := by simpa [madeCells] using h1
      have h4 : j % 4 = 0 ∨ j % 4 = 1 ∨ j % 4 = 2 ∨ j % 4 = 3 := by omega
      have hg : (List.replicate n ((⟨[], 0, 0, 0⟩ : Bk), (none : Option Addr), 0))[j / 4]? = some ((⟨[], 0, 0, 0⟩ : Bk), (none : Option Addr), 0) := by
        rw [List.getElem?_replicate, if_pos (by omega)]
      have h3 := rv_at cBk_len hg (i := j % 4) (by omega)
      rw [show j / 4 * 4 + j % 4 = j by omega] at h3
      have h5 : (rv cBk (List.replicate n ((⟨[], 0, 0, 0⟩ : Bk), (none : Option Addr), 0))).toArray[j]? = (rv cBk (List.replicate n ((⟨[], 0, 0, 0⟩ : Bk), (none : Option Addr), 0)))[j]? := by simp
      have h6 := (Array.getElem?_eq_getElem h2).symm.trans (h5.trans h3)
      rw [← Option.some_inj, h6]
      simp only [madeCells, Array.getElem_map, Array.getElem_range]
      rcases h4 with h4 | h4 | h4 | h4 <;> simp [Value.cells, h4, cBk]
  rw [hm]

/-- a block written anew -/
theorem rv_set4 : ∀ {qs : List (Bk × Option Addr × Nat)} {i c : Nat} {A : Option Addr} {b : Bk}, i < qs.length →
    ((((rv cBk qs).set (i * 4) (.slice A b.code.length c)).set (i * 4 + 1) (.int .i64 b.test)).set (i * 4 + 2) (.int .i64 b.th)).set (i * 4 + 3) (.int .i64 b.el) = rv cBk (qs.set i (b, A, c))
  | [], _, _, _, _, h => by simp at h
  | q :: qs, 0, c, A, b, h => by
    show ((((([_, _, _, _] : List Value) ++ rv cBk qs).set 0 _).set 1 _).set 2 _).set 3 _ = cBk (b, A, c) ++ rv cBk qs
    simp [cBk]
  | q :: qs, i + 1, c, A, b, h => by
    have ih := rv_set4 (qs := qs) (i := i) (c := c) (A := A) (b := b) (by simpa using h)
    have e1 : rv cBk (q :: qs) = cBk q ++ rv cBk qs := rfl
    have e2 : rv cBk ((q :: qs).set (i + 1) (b, A, c)) = cBk q ++ rv cBk (qs.set i (b, A, c)) := rfl
    have far : ∀ (l : List Value) (k : Nat) (u : Value), (cBk q ++ l).set ((i + 1) * 4 + k) u = cBk q ++ l.set (i * 4 + k) u := fun l k u => by
      rw [List.set_append, if_neg (by rw [cBk_len]; omega), cBk_len, show (i + 1) * 4 + k - 4 = i * 4 + k by omega]
    rw [e1, e2, ← ih]
    have f0 := far (rv cBk qs) 0 (.slice A b.code.length c)
    rw [Nat.add_zero, Nat.add_zero] at f0
    rw [f0, far, far, far]
    simp only [Nat.add_zero]

theorem RdS.wrote {w w' : World} {h : Nat} {A : Option Addr} {l : List St} (hx : RdS w w.heap.size A l) (hw : Wrote h w w') (hp : ∀ ad, A = some ad → ad.block ≠ h) : RdS w' w'.heap.size A l := fun hm => by
  obtain ⟨ad, e, hb, hc⟩ := hx hm
  refine ⟨ad, e, Nat.lt_of_lt_of_le hb hw.size, fun j hj => ?_⟩
  rw [← hc j hj]
  exact hw.cell (by rw [addr_add_block]; exact hb) (by rw [addr_add_block]; exact hp ad e)

/-- folded blocks, in a block of the call's own; their steps lie from S on -/
structure FdG (w : World) (g S : Nat) (qs : List (Bk × Option Addr × Nat)) : Prop where
  own : Own w g 44 (rv cBk qs)
  rows : ∀ (r : Nat) (q : Bk × Option Addr × Nat), qs[r]? = some q → RdS w w.heap.size q.2.1 q.1.code ∧ q.1.code.length ≤ q.2.2 ∧ ∀ ad, q.2.1 = some ad → S ≤ ad.block

theorem FdG.wrote {w w' : World} {g S h : Nat} {qs : List (Bk × Option Addr × Nat)} (hf : FdG w g S qs) (hw : Wrote h w w') (hg : g ≠ h) (hS : h < S) : FdG w' g S qs := by
  refine ⟨(hw.block g hf.own.lt hg).trans hf.own, fun r q hq => ?_⟩
  obtain ⟨h1, h2, h3⟩ := hf.rows r q hq
  exact ⟨h1.wrote hw fun ad hA => by have := h3 ad hA; omega, h2, h3⟩

theorem FdG.put {w : World} {g S i c : Nat} {qs : List (Bk × Option Addr × Nat)} {A : Option Addr} {b : Bk} (hf : FdG w g S qs) (hi : i < qs.length) (hg : g < S) (h1 : RdS w w.heap.size A b.code) (h2 : b.code.length ≤ c) (h3 : ∀ ad, A = some ad → S ≤ ad.block) :
    FdG ((((w.setCell ⟨g, i * 4, none⟩ (.slice A b.code.length c)).setCell ⟨g, i * 4 + 1, none⟩ (.int .i64 b.test)).setCell ⟨g, i * 4 + 2, none⟩ (.int .i64 b.th)).setCell ⟨g, i * 4 + 3, none⟩ (.int .i64 b.el)) g S (qs.set i (b, A, c)) := by
  have hw : Wrote g w ((((w.setCell ⟨g, i * 4, none⟩ (.slice A b.code.length c)).setCell ⟨g, i * 4 + 1, none⟩ (.int .i64 b.test)).setCell ⟨g, i * 4 + 2, none⟩ (.int .i64 b.th)).setCell ⟨g, i * 4 + 3, none⟩ (.int .i64 b.el)) := ((((Wrote.of_below (Below.refl w.heap.size w)).set (p := ⟨g, i * 4, none⟩) rfl (.slice A b.code.length c)).set (p := ⟨g, i * 4 + 1, none⟩) rfl (.int .i64 b.test)).set (p := ⟨g, i * 4 + 2, none⟩) rfl (.int .i64 b.th)).set (p := ⟨g, i * 4 + 3, none⟩) rfl (.int .i64 b.el)
  refine ⟨by rw [← rv_set4 hi]; exact ((((hf.own.set (i * 4) (.slice A b.code.length c)).set (i * 4 + 1) (.int .i64 b.test)).set (i * 4 + 2) (.int .i64 b.th)).set (i * 4 + 3) (.int .i64 b.el)), fun r q hq => ?_⟩
  by_cases e : i = r
  · subst e
    rw [List.getElem?_set_self hi] at hq
    injection hq with hq
    subst hq
    exact ⟨h1.wrote hw fun ad hA => by have := h3 ad hA; omega, h2, h3⟩
  · rw [List.getElem?_set_ne e] at hq
    obtain ⟨h4, h5, h6⟩ := hf.rows r q hq
    exact ⟨h4.wrote hw fun ad hA => by have := h6 ad hA; omega, h5, h6⟩

theorem FdG.rd {w : World} {g S : Nat} {qs : List (Bk × Option Addr × Nat)} (hf : FdG w g S qs) : RdP w w.heap.size (some ⟨g, 0, none⟩) (qs.map (·.1)) := by
  refine rdP_of_raw (fun hm => ⟨⟨g, 0, none⟩, rfl, hf.own.lt, fun j hj => ?_⟩) fun k q hq => ⟨(hf.rows k q hq).1, (hf.rows k q hq).2.1⟩
  have hl : j < (rv cBk qs).length := by rw [rv_len cBk_len]; exact hj
  refine own_add hf.own ?_
  show (rv cBk qs)[j]? = some ((rv cBk qs).getD j undef)
  rw [List.getD_eq_getElem?_getD, List.getElem?_eq_getElem hl]
  rfl

theorem KN.far {w : World} {G n : Nat} {Y : List (List Int)} {cs : List Value} (h : KN w G n Y cs) {p : Addr} (hp : p.block < G) (u : Value) : KN (w.setCell p u) G n Y cs := by
  refine ⟨h.len, h.own.far (by omega) u, fun i a ha => ?_, h.apart⟩
  rcases h.rows i a ha with h1 | ⟨h1, h2, k, c, h3, h4⟩
  · exact .inl h1
  · exact .inr ⟨h1, h2, k, c, h3, own_farW h4 (by omega) u⟩

/-- folded so far -/
def FdTo (p : List Bk) (X : List (List Int)) (i : Nat) (qs : List (Bk × Option Addr × Nat)) : Prop := ∀ (r : Nat) (q : Bk × Option Addr × Nat), r < i → qs[r]? = some q → (fdP p X)[r]? = some q.1

theorem FdTo.step {p : List Bk} {X : List (List Int)} {i : Nat} {qs : List (Bk × Option Addr × Nat)} {b : Bk} {a : List Int} {q : Bk × Option Addr × Nat} (h : FdTo p X i qs) (hi : i < qs.length) (hb : p[i]? = some b) (ha : X[i]? = some a) (hq : fdB b a = q.1) : FdTo p X (i + 1) (qs.set i q) := fun r q' hr hq' => by
  by_cases e : i = r
  · subst e
    rw [List.getElem?_set_self hi] at hq'
    injection hq' with hq'
    rw [fdP_at hb ha, hq, hq']
  · rw [List.getElem?_set_ne e] at hq'
    exact h r q' (by omega) hq'

theorem FdTo.done {p : List Bk} {X : List (List Int)} {qs : List (Bk × Option Addr × Nat)} (h : FdTo p X qs.length qs) (hl : X.length = p.length) (hq : qs.length = p.length) : qs.map (·.1) = fdP p X := by
  apply List.ext_getElem?
  intro r
  rcases Nat.lt_or_ge r qs.length with hr | hr
  · rw [List.getElem?_map, List.getElem?_eq_getElem hr, h r _ hr (List.getElem?_eq_getElem hr)]
    rfl
  · rw [List.getElem?_eq_none (by simpa using hr), List.getElem?_eq_none (by rw [fdP_len hl]; omega)]

set_option maxHeartbeats 16000000 in
theorem foldK_any (n : Nat) (A VA : Option Addr) (len cap vcap : Nat) (p : List Bk) (hv : List Int) (w : World) (hx : RdP w w.heap.size A p) (hh : RdI w w.heap.size VA hv) (hl : p.length = len) (hc : ckProg n p = 0) (hok : KOk n hv) :
    Calls Try.prog 12 #[.int .i64 n, .slice A len cap, .slice VA n vcap] w fun e w' => ∃ A' c' L, e = .returned (.tuple #[.slice A' len c', .int .i64 0]) ∧ RdP w' w'.heap.size A' (fdP p L) ∧ Least n p hv L ∧ Below w.heap.size w w' := by
  obtain ⟨b1, b2, b3, b4, b5, _⟩ := ckProg_bd hc
  have hlm : len ≤ maxLen := by rw [← hl]; unfold maxLen; omega
  have hnm : n ≤ maxLen := by unfold maxLen; omega
  have HCK := Lib.hid (knownCheck_any n A VA len cap n vcap p hv w hx hh hl hlm (CodeFits.of_ok hc) hok.1 hnm)
  rw [ckKnow_of hc hok] at HCK
  have HCB := Lib.hid (fun (Z : World) (hZ : Below w.heap.size w Z) => constantsK_any n A VA len cap vcap p hv Z ((hx.below hZ (Nat.le_refl _)).more hZ.size) ((hh.below hZ (Nat.le_refl _)).more hZ.size) hl hc hok)
  have HX := Lib.hid hx
  have HC := Lib.hid hc
  have HL := Lib.hid hl
  rw [hl] at b3 b4
  have hn1 : 1 ≤ n := by omega
  have hn6 : n ≤ 6 := by omega
  have hmk := make_blocks (P := Try.prog) 22 44 Try.underlying22 (by kernel_rfl) len (by omega)
  have qT : ∀ (w : World) (a : Option Addr) (n c n' c' : Nat), (binOp .eql 23 (.slice a n c) (.slice none n' c')).run Try.prog w = .ok (.bool a.isNone) w := fun w a n c n' c' => Lib.run_eql_slice_nil w _ _ a n c n' c' Try.underlying23
  obtain ⟨qs0, hqs0⟩ : ∃ qs0, qs0 = List.replicate len ((⟨[], 0, 0, 0⟩ : Bk), (none : Option Addr), 0) := ⟨_, rfl⟩
  rw [← hqs0] at hmk
  have HQ0 : Hid (qs0.length = len) := Lib.hid (by rw [hqs0]; simp)
  have HQR : Hid (∀ (r : Nat) (q : Bk × Option Addr × Nat), qs0[r]? = some q → q = ((⟨[], 0, 0, 0⟩ : Bk), (none : Option Addr), 0)) := Lib.hid fun r q hq => by
    rw [hqs0, List.getElem?_replicate] at hq
    split at hq
    · injection hq with hq; exact hq.symm
    · cases hq
  clear hx hh hl hc hok hqs0 b1 b2
  go_enter Try.func12, Try.ntmps12
  go_wp2_with fail
  (with_reducible refine HCK.out.mono ?_)
  rintro e w1 ⟨rfl, hb1⟩
  have hbA : Below w.heap.size w (w1.alloc (.cells (rv cBk qs0).toArray 44)) := hb1.trans ((by go_grown : Below w1.heap.size w1 (w1.alloc (.cells (rv cBk qs0).toArray 44))).mono hb1.size)
  have hgA : (w1.alloc (.cells (rv cBk qs0).toArray 44)).heap.size = w1.heap.size + 1 := by simp
  have hO0 : Own (w1.alloc (.cells (rv cBk qs0).toArray 44)) w1.heap.size 44 (rv cBk qs0) := Own.new w1 _ _
  have HCBA := HCB.out _ hbA
  rw [hgA] at HCBA
  have HO0 := Lib.hid hO0
  have HCBH := Lib.hid HCBA
  have hgA' := hgA
  clear hO0 HCBA hgA
  go_wp2_with fail
  refine HCBH.out.mono ?_
  rintro e w3 ⟨X, cs, rfl, hkn, hle, hb3⟩
  have hO3 := HO0.out.below hb3 (by omega)
  have hw03 : Below w.heap.size w w3 := hbA.trans (hb3.mono (by have := hb1.size; omega))
  have hs3 := hw03.size
  have hs1 := hb1.size
  have HLE := Lib.hid hle
  have HKN := Lib.hid hkn
  have HXL : Hid (X.length = len) := Lib.hid (by rw [hle.sol.len, HL.out])
  have HF0 : Hid (FdG w3 w1.heap.size w3.heap.size qs0) := Lib.hid ⟨hO3, fun r q hq => by
    rw [HQR.out r q hq]
    exact ⟨fun hm => by simp at hm, Nat.le_refl _, fun ad hA => by cases hA⟩⟩
  have HFT0 : Hid (FdTo p X 0 qs0) := Lib.hid fun r q hr => absurd hr (by omega)
  have hgG := hkn.own.lt
  clear hkn hle hO3 hb3 hbA
  obtain ⟨g, hg⟩ : ∃ g, w1.heap.size = g := ⟨_, rfl⟩
  rw [hg] at HF0 HKN hgG hs1 hgA' ⊢
  obtain ⟨S, hS⟩ : ∃ S, w3.heap.size = S := ⟨_, rfl⟩
  rw [hS] at HF0 hgG
  have hS3 : S ≤ w3.heap.size := by omega
  have HKH : Hid (∀ (i h k c : Nat), cs[i]? = some (.slice (some ⟨h, 0, none⟩) k c) → h < S ∧ g + 1 < h) := Lib.hid fun i h k c hc => by
    have hil : i < X.length := by rw [← HKN.out.len]; exact (List.getElem?_eq_some_iff.1 hc).1
    rcases HKN.out.rows i _ (List.getElem?_eq_getElem hil) with ⟨_, h2⟩ | ⟨_, _, k', c', h3, h4⟩
    · rw [hc] at h2; cases h2
    · rw [hc] at h3
      injection h3 with h3
      injection h3 with h5 _ _
      injection h5 with h5
      injection h5 with h5 _ _
      have := h4.lt k' rfl
      omega
  clear hg hS
  go_wp2
  go_loopw [26] (fun z wr => ∃ (i : Nat) (X' : List (List Int)) (qs : List (Bk × Option Addr × Nat)), i ≤ len ∧ z = .int .i64 i ∧ KN wr (g + 1) n X' cs ∧ (∀ r, i ≤ r → X'[r]? = X[r]?) ∧ FdG wr g S qs ∧ qs.length = len ∧ FdTo p X i qs ∧ Below w.heap.size w wr ∧ S ≤ wr.heap.size) (fun z _ => len - (intOf z).toNat)
  case atStart => exact ⟨0, X, qs0, Nat.zero_le _, rfl, HKN.out, fun r _ => rfl, HF0.out, HQ0.out, HFT0.out, hw03, hS3⟩
  case round =>
    obtain ⟨i, X', qs, hi, rfl, hkn, hXX, hfg, hql, hft, hbr, hSr⟩ := hrel
    have HKN' := Lib.hid hkn
    have HFG := Lib.hid hfg
    have HQL := Lib.hid hql
    have HFT := Lib.hid hft
    have HXX := Lib.hid hXX
    have hgl := hfg.own.lt
    have hGl := hkn.own.lt
    have hszr := hbr.size
    clear hkn hXX hfg hql hft
    by_cases hit : i < len
    · obtain ⟨ad, bk, Ac, cc, rfl, hbl, hd, hrow, e0, e1, e2, e3⟩ := (HX.out.below hbr (Nat.le_refl _)).at_ (k := i) (by rw [HL.out]; exact hit)
      have hbk := ckProg_at HC.out hd
      have hcm := manyS_le hd
      have HD := Lib.hid hd
      have HBK := Lib.hid hbk
      obtain ⟨code, te, th, el⟩ := bk
      simp only [] at e0 e1 e2 e3 hrow hcm
      obtain ⟨cl, hcl⟩ : ∃ cl, code.length = cl := ⟨_, rfl⟩
      have HCL := Lib.hid hcl
      rw [hcl] at e0 hcm
      have hblr : (ad.add (i * 4)).block < wr.heap.size := by omega
      have hXi : i < X.length := by rw [HXL.out]; exact hit
      obtain ⟨a, ha⟩ : ∃ a, X[i]? = some a := ⟨_, List.getElem?_eq_getElem hXi⟩
      have HA := Lib.hid ha
      have ha' : X'[i]? = some a := by rw [HXX.out i (Nat.le_refl _)]; exact ha
      have HA' := Lib.hid ha'
      have HROW := Lib.hid hrow
      have hiq : i < qs.length := by rw [HQL.out]; exact hit
      obtain ⟨q, hqi⟩ : ∃ q, qs[i]? = some q := ⟨_, List.getElem?_eq_getElem hiq⟩
      have hka : a ≠ [] → KOk n a := (HLE.out.sol.ok i a ha).resolve_left
      have HKA := Lib.hid hka
      rcases HKN'.out.rows i a ha' with ⟨rfl, hcs⟩ | ⟨hane, hal, h0, ca, hcs, hra⟩
      · have q0 := HKN'.out.own.cell hcs
        have c0 := HFG.out.own.cell (rv_at cBk_len hqi (i := 0) (by omega))
        have c1 := HFG.out.own.cell (rv_at cBk_len hqi (i := 1) (by omega))
        have c2 := HFG.out.own.cell (rv_at cBk_len hqi (i := 2) (by omega))
        have c3 := HFG.out.own.cell (rv_at cBk_len hqi (i := 3) (by omega))
        have f0 := HFG.out.own.frozen (i * 4)
        have f1 := HFG.out.own.frozen (i * 4 + 1)
        have f2 := HFG.out.own.frozen (i * 4 + 2)
        have f3 := HFG.out.own.frozen (i * 4 + 3)
        rw [Nat.add_zero] at c0
        have HPUT := Lib.hid (FdG.put (i := i) (c := 0) (A := none) (b := ⟨[], -1, -1, 0⟩) HFG.out hiq (by omega) (fun hm => by simp at hm) (Nat.le_refl _) (fun ad hA => by cases hA))
        have HSTP := Lib.hid (HFT.out.step (q := (⟨[], -1, -1, 0⟩, none, 0)) hiq HD.out HA.out (by unfold fdB; rw [if_pos rfl]))
        have HQS : Hid ((qs.set i ((⟨[], -1, -1, 0⟩ : Bk), (none : Option Addr), 0)).length = len) := Lib.hid (by rw [List.length_set, HQL.out])
        have hgi : ∀ k, k < 4 → i * 4 + k < len * 4 := fun k hk => by omega
        clear ha ha' hcs hd hbk hcl hrow hXi hiq hqi hka
        go_wp2
        go_round
        case rel => exact ⟨i + 1, X', _, by omega, by go_num, (((HKN'.out.far (show g < g + 1 by omega) _).far (show g < g + 1 by omega) _).far (show g < g + 1 by omega) _).far (show g < g + 1 by omega) _, fun r hr => HXX.out r (by omega), HPUT.out, HQS.out, HSTP.out, (((hbr.setCell hs1 _).setCell hs1 _).setCell hs1 _).setCell hs1 _, by simpa using hSr⟩
        case measure => (simp [intOf]; omega)
      · obtain ⟨hh1, hh2⟩ := HKH.out i h0 n ca hcs
        have q0 := HKN'.out.own.cell hcs
        have HFB := Lib.hid (foldBlock_any n p.length w.heap.size (g + 1 + 1) h0 ca cl cc Ac code te th el a wr HROW.out HCL.out (by omega) (by omega) (by omega) hra (hka hane) HBK.out hn1 hn6)
        have HCS := Lib.hid hcs
        have HAL := Lib.hid hal
        have HQI := Lib.hid hqi
        clear ha ha' hcs hd hbk hcl hrow hXi hqi hka hra hal
        go_wp2_with fail
        refine HFB.out.mono ?_
        rintro e w6 ⟨⟨A6, c6, te', th', el', rfl, hfe, hrd6, hcap6, hA6⟩, hown6, hwr6⟩
        have hF6 := HFG.out.wrote hwr6 (by omega) hh1
        have hK6 := HKN'.out.joined hwr6 HA'.out HCS.out hown6 (by rw [bhK_len, HAL.out]) (by omega)
        have hs6 := hwr6.size
        have hbr6 : Below w.heap.size w w6 := hbr.trans (hwr6.below (by omega) hszr)
        have hg6 := hF6.own.lt
        have hfl : (fdC code a).length = cl := by rw [fdC_len, HCL.out]
        have c0 := hF6.own.cell (rv_at cBk_len HQI.out (i := 0) (by omega))
        have c1 := hF6.own.cell (rv_at cBk_len HQI.out (i := 1) (by omega))
        have c2 := hF6.own.cell (rv_at cBk_len HQI.out (i := 2) (by omega))
        have c3 := hF6.own.cell (rv_at cBk_len HQI.out (i := 3) (by omega))
        have f0 := hF6.own.frozen (i * 4)
        have f1 := hF6.own.frozen (i * 4 + 1)
        have f2 := hF6.own.frozen (i * 4 + 2)
        have f3 := hF6.own.frozen (i * 4 + 3)
        rw [Nat.add_zero] at c0
        have hput := FdG.put (i := i) (c := c6) (A := A6) (b := ⟨fdC code a, te', th', el'⟩) hF6 hiq (by omega) hrd6 (by rw [hfl]; exact hcap6) (fun ad hA => by have := (hA6 ad hA).1; omega)
        simp only [hfl] at hput
        have HPUT := Lib.hid hput
        have HSTP := Lib.hid (HFT.out.step (q := (⟨fdC code a, te', th', el'⟩, A6, c6)) hiq HD.out HA.out hfe)
        have HQS : Hid ((qs.set i ((⟨fdC code a, te', th', el'⟩ : Bk), A6, c6)).length = len) := Lib.hid (by rw [List.length_set, HQL.out])
        have HK6 := Lib.hid hK6
        have hS6 : S ≤ w6.heap.size := by omega
        have HXS : Hid (∀ r, i + 1 ≤ r → (X'.set i (bhK code a))[r]? = X[r]?) := Lib.hid fun r hr => by rw [List.getElem?_set_ne (by omega)]; exact HXX.out r (by omega)
        clear hput hK6 hF6 hfe hrd6 hA6 hown6 hfl hiq
        go_wp2
        go_round
        case rel => exact ⟨i + 1, _, _, by omega, by go_num, (((HK6.out.far (show g < g + 1 by omega) _).far (show g < g + 1 by omega) _).far (show g < g + 1 by omega) _).far (show g < g + 1 by omega) _, HXS.out, HPUT.out, HQS.out, HSTP.out, (((hbr6.setCell hs1 _).setCell hs1 _).setCell hs1 _).setCell hs1 _, by simpa using hS6⟩
        case measure => (simp [intOf]; omega)
    · have hil : i = qs.length := by rw [HQL.out]; omega
      have HE := Lib.hid (FdTo.done (by rw [← hil]; exact HFT.out) (by rw [HXL.out, HL.out]) (by rw [HQL.out, HL.out]))
      clear hil
      go_wp2
      go_ret2
      exact ⟨_, _, X, rfl, by rw [← HE.out]; exact HFG.out.rd, HLE.out, hbr⟩

set_option maxHeartbeats 4000000 in
theorem foldK_bad (vars : Int) (A VA : Option Addr) (len cap vl vcap : Nat) (p : List Bk) (hv : List Int) (w : World) (hx : RdP w w.heap.size A p) (hh : RdI w w.heap.size VA hv) (hl : p.length = len) (hm : len ≤ maxLen) (hin : ∀ b ∈ p, InBk b) (hhl : hv.length = vl) (hvm : vl ≤ maxLen) (hc : ckKnow vars p hv ≠ 0) :
    Calls Try.prog 12 #[.int .i64 vars, .slice A len cap, .slice VA vl vcap] w fun e w' => ∃ A' c', e = .returned (.tuple #[.slice A' 0 c', .int .i64 (ckKnow vars p hv)]) ∧ Below w.heap.size w w' := by
  have HCK := Lib.hid (knownCheck_any vars A VA len cap vl vcap p hv w hx hh hl hm (CodeFits.of_in hin) hhl hvm)
  obtain ⟨c, hce⟩ : ∃ c, ckKnow vars p hv = c := ⟨_, rfl⟩
  rw [hce] at HCK hc ⊢
  have hne : (c != 0) = true := by simp [hc]
  clear hx hh hl hin hhl hc hce
  go_enter Try.func12, Try.ntmps12
  go_wp2_with (go_at_call 22; (with_reducible refine HCK.out.mono ?_); rintro e w1 ⟨rfl, hb1⟩)
  go_returns
  exact ⟨_, _, rfl, hb1⟩

theorem foldIs : FoldIs where
  fold := fun n A VA len cap vcap p hv w hx hh hl hc hok => foldK_any n A VA len cap vcap p hv w hx hh hl hc hok
  foldBad := fun vars A VA len cap vl vcap p hv w hx hh hl hm hin hhl hvm hc => foldK_bad vars A VA len cap vl vcap p hv w hx hh hl hm hin hhl hvm hc

end Go.Proofs.Ytdckagledddkdaa
