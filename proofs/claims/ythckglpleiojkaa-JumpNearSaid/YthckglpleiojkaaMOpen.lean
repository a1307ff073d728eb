/-
  Several texts in one: Open, Closed, Law.
-/
import Derived.Test.YthckglpleiojkaaMBase
import Derived.ProofKit
import Derived.Deep.Slices
import Derived.Deep.Fields
import Derived.ChangeSame
import Derived.Carry
import Derived.SizedLaws
import Derived.Test.YthckglpleiojkaaRows
import Derived.WalkKit

/-
  From the row's reading of an argument to plain words (slices of structs of ints, ints, slices of ints), and from a law's contract to its row.
-/

namespace Go.Proofs.Ythckglpleiojkaa
open Go.RowKit Go.ChangeShapes Go.WideShapes Go.ChangeAt Go.Deep
set_option linter.unusedSimpArgs false
set_option linter.unusedVariables false
set_option maxRecDepth 100000

section
variable {H : Type} {enc : TypeId × Value → H} {P : Program} {w : World} {base : Nat} {spare : Nat → Bool} {held : Bool}

theorem block_lt {a : Addr} {v : Value} (h : w.cell? a = some v) : a.block < w.heap.size := by
  rcases Nat.lt_or_ge a.block w.heap.size with hl | hg
  · exact hl
  · simp [World.cell?, Array.getElem?_eq_none hg] at h

/-- every field of a struct type is one int -/
def intFields (P : Program) (fs : Array Field) : Bool := fs.toList.all fun f => match P.underlying f.type with
  | some (.int .i64) => true
  | _ => false

theorem intFields_at {fs : Array Field} (h : intFields P fs = true) {j : Nat} {f : Field} (hj : fs[j]? = some f) : P.underlying f.type = some (.int .i64) := by
  have hm : f ∈ fs.toList := by
    obtain ⟨hl, he⟩ := Array.getElem?_eq_some_iff.1 hj
    rw [← he]
    simp
  have := List.all_eq_true.1 h f hm
  split at this
  · assumption
  · simp at this

def inI (x : Int) : Prop := -9223372036854775808 ≤ x ∧ x ≤ 9223372036854775807

theorem inI_of {x : Int} (h : (Lit.int .i64 x).wf = true) : inI x := by
  simp only [Lit.wf, Bool.and_eq_true, decide_eq_true_eq] at h
  obtain ⟨h1, h2⟩ := h
  constructor
  · simpa [IntKind.min, IntKind.bits, IntKind.signed] using h1
  · simpa [IntKind.max, IntKind.bits, IntKind.signed] using h2

theorem open_rows {t e : TypeId} {fs : Array Field} {fuel : Nat} {cs : List Value} {x : DataW H × List MemPlace} (ht : P.underlying t = some (.slice e)) (he : P.underlying e = some (.struct fs))
    (hone : oneCellFields P fs = true) (hC : P.cellsOf e = fs.size) (hint : intFields P fs = true) (h : DataW.trod enc P w base spare held fuel t cs = some x) :
    cs = [.slice none 0 0] ∨ ∃ (a : Addr) (len cap : Nat) (g : Nat → Nat → Int), cs = [.slice (some a) len cap] ∧ base ≤ a.block ∧ len ≤ cap ∧ cap ≤ maxLen ∧
      ∀ i, i < len → ∀ j, j < fs.size → w.cell? (a.add (i * fs.size + j)) = some (.int .i64 (g i j)) ∧ inI (g i j) := by
  rcases open_slice ht h with h0 | ⟨a, len, cap, m, n, D, Pl, hcs, hb, hl, hm, hmm, hx, hi⟩
  · exact .inl h0.1
  · refine .inr ⟨a, len, cap, fun i j => (match w.cell? (a.add (i * fs.size + j)) with | some (.int _ q) => q | _ => 0), hcs, hb, hl, hm, fun i hil j hj => ?_⟩
    have him : i < m := by rw [hmm]; split <;> omega
    obtain ⟨cs', hc, ht'⟩ := hi i him
    obtain ⟨ys, n', _, _, hlen, hyl, hf⟩ := DataW.trod_struct he ht'
    obtain ⟨_, hcl, hat⟩ := World.cells?_some hc
    rw [hC] at hcl hat hlen
    have hfj : fs[j]? = some fs[j] := Array.getElem?_eq_getElem hj
    obtain ⟨ho, hk⟩ := hone_of hone j _ hfj
    have h1 := hf j _ hfj
    rw [ho, hk, List.drop_eq_getElem_cons (by omega)] at h1
    have hys : ys[j]? = some (ys[j]'(by omega)) := List.getElem?_eq_getElem (by omega)
    rw [hys] at h1
    obtain ⟨q, hq, _, hwf⟩ := DataW.trod_int (intFields_at hint hfj) h1
    have hcell := hat j hj
    rw [addr_add_add, List.getElem?_eq_getElem (by omega)] at hcell
    have hv : cs'[j]'(by omega) = .int .i64 q := by injection hq
    rw [hv] at hcell
    simp only [hcell]
    exact ⟨trivial, inI_of hwf⟩

/-- a slice of terms that comes in -/
theorem open_terms {t e : TypeId} {fs : Array Field} {r : Reach} {b0 : Nat} {v : Value} {d : DataW H} {ps : List MemPlace} (ht : P.underlying t = some (.slice e)) (he : P.underlying e = some (.struct fs)) (hn : fs.size = 4)
    (hone : oneCellFields P fs = true) (hC : P.cellsOf e = fs.size) (hint : intFields P fs = true) (hv : Value.okWide P w r b0 t v) (h : DataW.Trod enc P w base spare held t v d ps) :
    ∃ (A : Option Addr) (cap : Nat) (l : List Tm), v = .slice A l.length cap ∧ l.length ≤ cap ∧ cap ≤ maxLen ∧ RdT w w.heap.size A l ∧ ∀ t ∈ l, inI t.op ∧ inI t.a ∧ inI t.b ∧ inI t.v := by
  obtain ⟨A, len, cap, rfl⟩ := okWide_slice ht hv
  obtain ⟨fuel, hf⟩ := h
  rcases open_rows ht he hone hC hint hf with h0 | ⟨a, len', cap', g, hcs, hb, hl, hm, hg⟩
  · simp only [Value.cells, List.cons.injEq, Value.slice.injEq, and_true] at h0
    obtain ⟨rfl, rfl, rfl⟩ := h0
    exact ⟨none, 0, [], rfl, Nat.le_refl _, by simp [maxLen], fun h => by simp at h, fun _ h => by simp at h⟩
  · simp only [Value.cells, List.cons.injEq, Value.slice.injEq, and_true] at hcs
    obtain ⟨rfl, rfl, rfl⟩ := hcs
    have hL : ((List.range len).map fun i => (⟨g i 0, g i 1, g i 2, g i 3⟩ : Tm)).length = len := by simp
    refine ⟨some a, cap, (List.range len).map fun i => ⟨g i 0, g i 1, g i 2, g i 3⟩, by rw [hL], by rw [hL]; exact hl, hm, fun hp => ?_, fun t ht => ?_⟩
    · rw [hL] at hp
      have h0 := (hg 0 (by omega) 0 (by omega)).1
      refine ⟨a, rfl, by have := block_lt h0; rw [addr_add_block] at this; exact this, fun j hj => ?_⟩
      rw [hL] at hj
      have hi : j / 4 < len := by omega
      have hc := (hg (j / 4) hi (j % 4) (by omega)).1
      rw [hn, show j / 4 * 4 + j % 4 = j from by omega] at hc
      rw [hc]
      simp only [tc, List.getD_eq_getElem?_getD, List.getElem?_map, List.getElem?_range hi, Option.map_some, Option.getD_some]
      have h4 : j % 4 = 0 ∨ j % 4 = 1 ∨ j % 4 = 2 ∨ j % 4 = 3 := by omega
      rcases h4 with h4 | h4 | h4 | h4 <;> rw [h4] <;> rfl
    · obtain ⟨i, hi, rfl⟩ := List.mem_map.1 ht
      have hi := List.mem_range.1 hi
      exact ⟨(hg i hi 0 (by omega)).2, (hg i hi 1 (by omega)).2, (hg i hi 2 (by omega)).2, (hg i hi 3 (by omega)).2⟩

/-- a slice of ints that comes in -/
theorem open_intsR {t e : TypeId} {r : Reach} {b0 : Nat} {v : Value} {d : DataW H} {ps : List MemPlace} (ht : P.underlying t = some (.slice e)) (he : P.underlying e = some (.int .i64)) (hC : P.cellsOf e = 1)
    (hv : Value.okWide P w r b0 t v) (h : DataW.Trod enc P w base spare held t v d ps) :
    ∃ (A : Option Addr) (cap : Nat) (xs : List Int), v = .slice A xs.length cap ∧ xs.length ≤ cap ∧ cap ≤ maxLen ∧ RdI w w.heap.size A xs ∧ ∀ x ∈ xs, inI x := by
  obtain ⟨A, len, cap, rfl⟩ := okWide_slice ht hv
  obtain ⟨fuel, hf⟩ := h
  rcases open_ints ht he hC hf with ⟨h0, _⟩ | ⟨a, len', cap', zs, hcs, hb, hl, hm, hz, _, hcell, hwf⟩
  · simp only [Value.cells, List.cons.injEq, Value.slice.injEq, and_true] at h0
    obtain ⟨rfl, rfl, rfl⟩ := h0
    exact ⟨none, 0, [], rfl, Nat.le_refl _, by simp [maxLen], fun h => by simp at h, fun _ h => by simp at h⟩
  · simp only [Value.cells, List.cons.injEq, Value.slice.injEq, and_true] at hcs
    obtain ⟨rfl, rfl, rfl⟩ := hcs
    have hzl : len ≤ zs.length := by rw [hz]; split <;> omega
    have hL : (zs.take len).length = len := by simp; omega
    refine ⟨some a, cap, zs.take len, by rw [hL], by rw [hL]; exact hl, hm, fun hp => ?_, fun x hx => inI_of (hwf x (List.mem_of_mem_take hx))⟩
    rw [hL] at hp
    have h0 := hcell 0 (by omega)
    refine ⟨a, rfl, by have := block_lt h0; rw [addr_add_block] at this; exact this, fun j hj => ?_⟩
    rw [hL] at hj
    rw [hcell j (by omega)]
    simp [ic, List.getElem?_take, hj]

end

/-- how many elements a slice's datum has -/
def dlen {H : Type} : DataW H → Nat
  | .slice el _ => el.length
  | _ => 0

theorem len_reach {H : Type} {enc : TypeId × Value → H} {P : Program} {w : World} {base : Nat} {spare : Nat → Bool} {held : Bool} {t e : TypeId} {r : Reach} {b0 : Nat} {A : Option Addr} {n c : Nat} {d : DataW H} {ps : List MemPlace} {ts : List TypeId} {ds : List (DataW H)} {j : Nat}
    (ht : P.underlying t = some (.slice e)) (hv : Value.okWide P w r b0 t (.slice A n c)) (h : DataW.Trod enc P w base spare held t (.slice A n c) d ps)
    (hsz : (DataW.weightsEach P ts ds).all (· ≤ reachBytes) = true) (hj : ts[j]? = some t) (hd : ds[j]? = some d) : n * P.bytesOf (P.elem t) ≤ 140737488351232 := by
  have he : P.elem t = e := by simp [Program.elem, ht]
  obtain ⟨fuel, hf⟩ := h
  rcases open_slice ht hf with ⟨h0, _⟩ | ⟨a, len, cap, m, n', D, Pl, hcs, _, _, _, _, hx, _⟩
  · simp only [Value.cells, List.cons.injEq, Value.slice.injEq, and_true] at h0
    obtain ⟨_, rfl, _⟩ := h0
    simp
  · simp only [Value.cells, List.cons.injEq, Value.slice.injEq, and_true] at hcs
    obtain ⟨_, rfl, _⟩ := hcs
    injection hx with hx _
    subst hx
    have := sized_slice hsz hj hd ht
    simp only [List.length_map, List.length_range] at this
    rw [he]
    have h2 : n * P.bytesOf e ≤ (n + (m - n)) * P.bytesOf e := Nat.mul_le_mul_right _ (by omega)
    have h3 : reachBytes = 140737488351232 := rfl
    omega

/-! ### From a law's contract to its row -/
section
variable {H : Type} {enc : TypeId × Value → H}

theorem trodAll_later {P : Program} (hlo : laidOutB P = true) {W W' : World} (hb : Below W.heap.size W W') : ∀ {ts : List TypeId} {vs : List Value} {ds : List (DataW H)} {ps : List MemPlace},
    (∀ t ∈ ts, P.readableRec t = true ∧ t < P.types.size) → DataW.TrodAll enc P W 0 (fun _ => true) true ts vs ds ps → (∀ x ∈ ps, x.block < W.heap.size) →
    DataW.TrodAll enc P W' 0 (fun b => decide (b < W.heap.size)) true ts vs ds ps
  | [], _, _, _, _, h, _ => by
    obtain ⟨rfl, rfl, rfl⟩ := trodAll_nil h
    rfl
  | t :: ts, _, _, _, hr, h, hlt => by
    obtain ⟨v, vs1, d, ds1, a, b, rfl, rfl, rfl, h1, h2⟩ := trodAll_cons h
    have ht := hr t (by simp)
    exact ⟨a, b, Below.trod hlo ht.1 ht.2 h1 hb (fun x hx => hlt x (by simp [hx])), trodAll_later hlo hb (fun t' h' => hr t' (by simp [h'])) h2 (fun x hx => hlt x (by simp [hx])), rfl⟩

/-- the law's row: whatever the arguments, true, and each argument as it was -/
theorem law_post {P : Program} (hlo : laidOutB P = true) {f : Func} {s : ChangeSpec} {apart fresh handsOn : Bool} {W W' : World} {args : Array Value} {ds gs : List (DataW H)} {before : List MemPlace} {tb : TypeId}
    (hvars : s.vars = []) (hres : f.resultTypes = #[tb]) (htb : P.underlying tb = some .bool) (hfn : (s.fn H ds).results = [.lit (.bool true)] ∧ (s.fn H ds).args = ds ∧ (s.fn H ds).vars = [])
    (hr : (f.params.toList.all fun t => P.readableRec t && decide (t < P.types.size)) = true)
    (hW : DataW.Whole enc P f.params.toList s.vars apart W args.toList ds gs before) (hb : Below W.heap.size W W') :
    s.post enc P f apart fresh handsOn false W args (.bool true) W' := by
  have hlt : ∀ p ∈ before, p.block < W.heap.size := fun p hp => hW.lt p hp
  have hW0 := hW
  obtain ⟨p, q, hA, hV, rfl, _, _⟩ := hW
  rw [hvars] at hV
  obtain ⟨rfl, rfl⟩ := trodVars_none hV
  refine ⟨ds, [], p ++ [], [], p, [], hW0, ?_, ?_, ?_, ?_, fun h => by cases h⟩
  · rw [List.append_nil, hfn.1, hres]
    exact trodAll_mk1 (shut_bool htb true)
  · rw [List.append_nil, hfn.2.1]
    exact trodAll_later hlo hb (fun t ht => by simpa using List.all_eq_true.1 hr t ht) hA (fun x hx => hlt x (by simp [hx]))
  · rw [hvars, List.append_nil, hfn.2.2]; rfl
  · exact World.keptBut_mono (fun x hx => ⟨hx, Or.inr (Or.inl (by simpa using hx))⟩) (hb.frame (· ∈ p ++ []))

end

end Go.Proofs.Ythckglpleiojkaa

/-
  The closed facts of a row, piece by piece: what hangs on the start's word is reckoned once, on its letters.
-/

namespace Go.Proofs.Ythckglpleiojkaa
open Go.RowKit
set_option linter.unusedSimpArgs false
set_option linter.unusedVariables false

theorem and_both {a b : Bool} (h : a = true) (h' : b = true) : (a && b) = true := by rw [h, h']; rfl

/-- the start's word, letter by letter -/
def initN : List Nat := [104, 97, 114, 110, 101, 115, 115, 32, 48, 100, 51, 97, 55, 48, 98, 48, 57, 100, 49, 52, 102, 102, 52, 101, 101, 54, 56, 56, 50, 98, 98, 52, 52, 49, 57, 52, 57, 48, 56, 51, 52, 57, 55, 101, 99, 48, 54, 49, 49, 102, 51, 52, 51, 48, 99, 101, 97, 49, 52, 49, 49, 55, 49, 99, 97, 57, 102, 49, 98, 99, 101, 99, 32, 99, 117, 116, 32, 97, 116, 32, 99, 111, 100, 101, 109, 97, 115, 111, 110, 47, 99, 111, 100, 101, 109, 97, 115, 111, 110, 108, 97, 119, 46, 74, 117, 109, 112, 76, 97, 121, 115, 32, 99, 111, 100, 101, 109, 97, 115, 111, 110, 47, 99, 111, 100, 101, 109, 97, 115, 111, 110, 107, 101, 101, 112, 46, 74, 117, 109, 112, 78, 101, 97, 114]

def cutW : List Char := [99, 117, 116].map Char.ofNat

theorem init_eq : Try.prog.initOrder = String.ofList (initN.map Char.ofNat) := by kernel_rfl

theorem init_chars : Try.prog.initOrder.toList = initN.map Char.ofNat := by rw [init_eq]; exact String.toList_ofList

theorem init_head : (behindMainWord (wordsSigns (initN.map Char.ofNat))).head? = some cutW := by kernel_rfl

theorem init_words : ∃ r, behindMainWord (wordsSigns Try.prog.initOrder.toList) = cutW :: r := by
  rw [init_chars]
  have h := init_head
  revert h
  generalize behindMainWord (wordsSigns (initN.map Char.ofNat)) = X
  intro h
  cases X with
  | nil => cases h
  | cons a r => exact ⟨r, by injection h with h; rw [h]⟩

theorem strip_cut (r : List (List Char)) : stripLifts liftWords (cutW :: r) = ([], cutW :: r) := by kernel_rfl

theorem cut_word : (cutW == "cut".toList) = true := by kernel_rfl

theorem cut_word_some : (some cutW == some "cut".toList) = true := by kernel_rfl

theorem cut_no_gc : (cutW == "gc".toList) = false := by kernel_rfl

theorem cut_no_spec : (cutW == "spec".toList) = false := by kernel_rfl

theorem cut_no_carried : (cutW == "carried".toList) = false := by kernel_rfl

theorem cut_no_carried_some : (some cutW == some "carried".toList) = false := by kernel_rfl

theorem mayEnter_of {P : Program} {r : List (List Char)} (h : behindMainWord (wordsSigns P.initOrder.toList) = cutW :: r) (h1 : P.laysLater = false) (h2 : P.bearsReflect = false) (h3 : P.doorFits [] = true) : P.mayEnter = true := by
  unfold Program.mayEnter
  rw [h]
  simp only [strip_cut, List.head?_cons, cut_word_some, h1, h2, h3, Bool.not_false, Bool.or_true, Bool.and_self, List.contains_nil, Bool.true_and, Bool.and_true]

theorem make_of {P : Program} {r : List (List Char)} (h : behindMainWord (wordsSigns P.initOrder.toList) = cutW :: r) : P.make = some .cut := by
  unfold Program.make
  rw [h]
  simp only [cut_no_gc, cut_no_spec, cut_word, Bool.or_false, Bool.true_or, if_true, Bool.false_eq_true, if_false]

theorem lifts_of {P : Program} {r : List (List Char)} (h : behindMainWord (wordsSigns P.initOrder.toList) = cutW :: r) : P.liftsFinal = false := by
  unfold Program.liftsFinal Program.headLifts
  rw [h]
  simp only [strip_cut, List.head?_cons, cut_word_some, cut_no_carried_some, if_true, List.contains_nil, Bool.false_and, Bool.or_false]

theorem may_enter : Try.prog.mayEnter = true := by
  obtain ⟨r, h⟩ := init_words
  exact mayEnter_of h (by kernel_rfl) (by kernel_rfl) (by kernel_rfl)

theorem make_ok {m : Make} (hm : m = .cut) : (Try.prog.make == some m) = true := by
  obtain ⟨r, h⟩ := init_words
  rw [make_of h, hm]
  kernel_rfl

theorem lifts_ok {b : Bool} (hb : b = false) : (b == Try.prog.liftsFinal) = true := by
  obtain ⟨r, h⟩ := init_words
  rw [lifts_of h, hb]
  kernel_rfl

end Go.Proofs.Ythckglpleiojkaa

/-
  What every law's row needs of this program: its own knob, its layout; its arguments opened.
-/

namespace Go.Proofs.Ythckglpleiojkaa
open Go.RowKit Go.ChangeShapes Go.WideShapes Go.ChangeAt Go.Deep
set_option linter.unusedSimpArgs false
set_option linter.unusedVariables false
set_option maxRecDepth 100000

theorem Try.own : ownKnob Try.prog.godebug = none := by kernel_rfl

theorem Try.laidOut : laidOutB Try.prog = true := by kernel_rfl

section
variable {H : Type} {enc : TypeId × Value → H} {w : World} {base : Nat} {spare : Nat → Bool} {held : Bool} {r : Reach} {b0 : Nat} {v : Value} {d : DataW H} {ps : List MemPlace}
theorem open_intsA (hv : Value.okWide Try.prog w r b0 23 v) (h : DataW.Trod enc Try.prog w base spare held 23 v d ps) :
    ∃ (A : Option Addr) (cap : Nat) (xs : List Int), v = .slice A xs.length cap ∧ xs.length ≤ cap ∧ cap ≤ maxLen ∧ RdI w w.heap.size A xs ∧ ∀ x ∈ xs, inI x :=
  open_intsR Try.underlying23 Try.underlying3 (by kernel_rfl) hv h
end

end Go.Proofs.Ythckglpleiojkaa
