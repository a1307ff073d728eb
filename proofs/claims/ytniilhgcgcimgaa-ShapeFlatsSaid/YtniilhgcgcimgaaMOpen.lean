/-
  Several texts in one: Open, Closed, Law, BlockOpen, StepsCut, LiveRaw.
-/
import Derived.Test.YtniilhgcgcimgaaMBase
import Derived.ProofKit
import Derived.Deep.Slices
import Derived.Deep.Fields
import Derived.ChangeSame
import Derived.Carry
import Derived.SizedLaws
import Derived.Test.YtniilhgcgcimgaaRows
import Derived.WalkKit
import Derived.Test.YtniilhgcgcimgaaMPure

/-
  From the row's reading of an argument to plain words (slices of structs of ints, ints, slices of ints), and from a law's contract to its row.
-/

namespace Go.Proofs.Ytniilhgcgcimgaa
open Go.RowKit Go.ChangeShapes Go.WideShapes Go.ChangeAt Go.Deep
set_option linter.unusedSimpArgs false
set_option linter.unusedVariables false
set_option maxRecDepth 100000

section
variable {H : Type} {enc : TypeId × Value → H} {P : Program} {w : World} {base : Nat} {spare : Nat → Bool} {held : Bool}

theorem block_lt {a : Addr} {v : Value} (h : w.cell? a = some v) : a.block < w.heap.size := by
  rcases Nat.lt_or_ge a.block w.heap.size with hl | hg
  · exact hl
  · simp [World.cell?, Array.getElem?_eq_none hg] at h

/-- every field of a struct type is one int -/
def intFields (P : Program) (fs : Array Field) : Bool := fs.toList.all fun f => match P.underlying f.type with
  | some (.int .i64) => true
  | _ => false

theorem intFields_at {fs : Array Field} (h : intFields P fs = true) {j : Nat} {f : Field} (hj : fs[j]? = some f) : P.underlying f.type = some (.int .i64) := by
  have hm : f ∈ fs.toList := by
    obtain ⟨hl, he⟩ := Array.getElem?_eq_some_iff.1 hj
    rw [← he]
    simp
  have := List.all_eq_true.1 h f hm
  split at this
  · assumption
  · simp at this

def inI (x : Int) : Prop := -9223372036854775808 ≤ x ∧ x ≤ 9223372036854775807

theorem inI_of {x : Int} (h : (Lit.int .i64 x).wf = true) : inI x := by
  simp only [Lit.wf, Bool.and_eq_true, decide_eq_true_eq] at h
  obtain ⟨h1, h2⟩ := h
  constructor
  · simpa [IntKind.min, IntKind.bits, IntKind.signed] using h1
  · simpa [IntKind.max, IntKind.bits, IntKind.signed] using h2

theorem open_rows {t e : TypeId} {fs : Array Field} {fuel : Nat} {cs : List Value} {x : DataW H × List MemPlace} (ht : P.underlying t = some (.slice e)) (he : P.underlying e = some (.struct fs))
    (hone : oneCellFields P fs = true) (hC : P.cellsOf e = fs.size) (hint : intFields P fs = true) (h : DataW.trod enc P w base spare held fuel t cs = some x) :
    cs = [.slice none 0 0] ∨ ∃ (a : Addr) (len cap : Nat) (g : Nat → Nat → Int), cs = [.slice (some a) len cap] ∧ base ≤ a.block ∧ len ≤ cap ∧ cap ≤ maxLen ∧
      ∀ i, i < len → ∀ j, j < fs.size → w.cell? (a.add (i * fs.size + j)) = some (.int .i64 (g i j)) ∧ inI (g i j) := by
  rcases open_slice ht h with h0 | ⟨a, len, cap, m, n, D, Pl, hcs, hb, hl, hm, hmm, hx, hi⟩
  · exact .inl h0.1
  · refine .inr ⟨a, len, cap, fun i j => (match w.cell? (a.add (i * fs.size + j)) with | some (.int _ q) => q | _ => 0), hcs, hb, hl, hm, fun i hil j hj => ?_⟩
    have him : i < m := by rw [hmm]; split <;> omega
    obtain ⟨cs', hc, ht'⟩ := hi i him
    obtain ⟨ys, n', _, _, hlen, hyl, hf⟩ := DataW.trod_struct he ht'
    obtain ⟨_, hcl, hat⟩ := World.cells?_some hc
    rw [hC] at hcl hat hlen
    have hfj : fs[j]? = some fs[j] := Array.getElem?_eq_getElem hj
    obtain ⟨ho, hk⟩ := hone_of hone j _ hfj
    have h1 := hf j _ hfj
    rw [ho, hk, List.drop_eq_getElem_cons (by omega)] at h1
    have hys : ys[j]? = some (ys[j]'(by omega)) := List.getElem?_eq_getElem (by omega)
    rw [hys] at h1
    obtain ⟨q, hq, _, hwf⟩ := DataW.trod_int (intFields_at hint hfj) h1
    have hcell := hat j hj
    rw [addr_add_add, List.getElem?_eq_getElem (by omega)] at hcell
    have hv : cs'[j]'(by omega) = .int .i64 q := by injection hq
    rw [hv] at hcell
    simp only [hcell]
    exact ⟨trivial, inI_of hwf⟩

/-- a slice of terms that comes in -/
theorem open_terms {t e : TypeId} {fs : Array Field} {r : Reach} {b0 : Nat} {v : Value} {d : DataW H} {ps : List MemPlace} (ht : P.underlying t = some (.slice e)) (he : P.underlying e = some (.struct fs)) (hn : fs.size = 4)
    (hone : oneCellFields P fs = true) (hC : P.cellsOf e = fs.size) (hint : intFields P fs = true) (hv : Value.okWide P w r b0 t v) (h : DataW.Trod enc P w base spare held t v d ps) :
    ∃ (A : Option Addr) (cap : Nat) (l : List Tm), v = .slice A l.length cap ∧ l.length ≤ cap ∧ cap ≤ maxLen ∧ RdT w w.heap.size A l ∧ ∀ t ∈ l, inI t.op ∧ inI t.a ∧ inI t.b ∧ inI t.v := by
  obtain ⟨A, len, cap, rfl⟩ := okWide_slice ht hv
  obtain ⟨fuel, hf⟩ := h
  rcases open_rows ht he hone hC hint hf with h0 | ⟨a, len', cap', g, hcs, hb, hl, hm, hg⟩
  · simp only [Value.cells, List.cons.injEq, Value.slice.injEq, and_true] at h0
    obtain ⟨rfl, rfl, rfl⟩ := h0
    exact ⟨none, 0, [], rfl, Nat.le_refl _, by simp [maxLen], fun h => by simp at h, fun _ h => by simp at h⟩
  · simp only [Value.cells, List.cons.injEq, Value.slice.injEq, and_true] at hcs
    obtain ⟨rfl, rfl, rfl⟩ := hcs
    have hL : ((List.range len).map fun i => (⟨g i 0, g i 1, g i 2, g i 3⟩ : Tm)).length = len := by simp
    refine ⟨some a, cap, (List.range len).map fun i => ⟨g i 0, g i 1, g i 2, g i 3⟩, by rw [hL], by rw [hL]; exact hl, hm, fun hp => ?_, fun t ht => ?_⟩
    · rw [hL] at hp
      have h0 := (hg 0 (by omega) 0 (by omega)).1
      refine ⟨a, rfl, by have := block_lt h0; rw [addr_add_block] at this; exact this, fun j hj => ?_⟩
      rw [hL] at hj
      have hi : j / 4 < len := by omega
      have hc := (hg (j / 4) hi (j % 4) (by omega)).1
      rw [hn, show j / 4 * 4 + j % 4 = j from by omega] at hc
      rw [hc]
      simp only [tc, List.getD_eq_getElem?_getD, List.getElem?_map, List.getElem?_range hi, Option.map_some, Option.getD_some]
      have h4 : j % 4 = 0 ∨ j % 4 = 1 ∨ j % 4 = 2 ∨ j % 4 = 3 := by omega
      rcases h4 with h4 | h4 | h4 | h4 <;> rw [h4] <;> rfl
    · obtain ⟨i, hi, rfl⟩ := List.mem_map.1 ht
      have hi := List.mem_range.1 hi
      exact ⟨(hg i hi 0 (by omega)).2, (hg i hi 1 (by omega)).2, (hg i hi 2 (by omega)).2, (hg i hi 3 (by omega)).2⟩

/-- a slice of ints that comes in -/
theorem open_intsR {t e : TypeId} {r : Reach} {b0 : Nat} {v : Value} {d : DataW H} {ps : List MemPlace} (ht : P.underlying t = some (.slice e)) (he : P.underlying e = some (.int .i64)) (hC : P.cellsOf e = 1)
    (hv : Value.okWide P w r b0 t v) (h : DataW.Trod enc P w base spare held t v d ps) :
    ∃ (A : Option Addr) (cap : Nat) (xs : List Int), v = .slice A xs.length cap ∧ xs.length ≤ cap ∧ cap ≤ maxLen ∧ RdI w w.heap.size A xs ∧ ∀ x ∈ xs, inI x := by
  obtain ⟨A, len, cap, rfl⟩ := okWide_slice ht hv
  obtain ⟨fuel, hf⟩ := h
  rcases open_ints ht he hC hf with ⟨h0, _⟩ | ⟨a, len', cap', zs, hcs, hb, hl, hm, hz, _, hcell, hwf⟩
  · simp only [Value.cells, List.cons.injEq, Value.slice.injEq, and_true] at h0
    obtain ⟨rfl, rfl, rfl⟩ := h0
    exact ⟨none, 0, [], rfl, Nat.le_refl _, by simp [maxLen], fun h => by simp at h, fun _ h => by simp at h⟩
  · simp only [Value.cells, List.cons.injEq, Value.slice.injEq, and_true] at hcs
    obtain ⟨rfl, rfl, rfl⟩ := hcs
    have hzl : len ≤ zs.length := by rw [hz]; split <;> omega
    have hL : (zs.take len).length = len := by simp; omega
    refine ⟨some a, cap, zs.take len, by rw [hL], by rw [hL]; exact hl, hm, fun hp => ?_, fun x hx => inI_of (hwf x (List.mem_of_mem_take hx))⟩
    rw [hL] at hp
    have h0 := hcell 0 (by omega)
    refine ⟨a, rfl, by have := block_lt h0; rw [addr_add_block] at this; exact this, fun j hj => ?_⟩
    rw [hL] at hj
    rw [hcell j (by omega)]
    simp [ic, List.getElem?_take, hj]

end

/-- how many elements a slice's datum has -/
def dlen {H : Type} : DataW H → Nat
  | .slice el _ => el.length
  | _ => 0

theorem len_reach {H : Type} {enc : TypeId × Value → H} {P : Program} {w : World} {base : Nat} {spare : Nat → Bool} {held : Bool} {t e : TypeId} {r : Reach} {b0 : Nat} {A : Option Addr} {n c : Nat} {d : DataW H} {ps : List MemPlace} {ts : List TypeId} {ds : List (DataW H)} {j : Nat}
    (ht : P.underlying t = some (.slice e)) (hv : Value.okWide P w r b0 t (.slice A n c)) (h : DataW.Trod enc P w base spare held t (.slice A n c) d ps)
    (hsz : (DataW.weightsEach P ts ds).all (· ≤ reachBytes) = true) (hj : ts[j]? = some t) (hd : ds[j]? = some d) : n * P.bytesOf (P.elem t) ≤ 140737488351232 := by
  have he : P.elem t = e := by simp [Program.elem, ht]
  obtain ⟨fuel, hf⟩ := h
  rcases open_slice ht hf with ⟨h0, _⟩ | ⟨a, len, cap, m, n', D, Pl, hcs, _, _, _, _, hx, _⟩
  · simp only [Value.cells, List.cons.injEq, Value.slice.injEq, and_true] at h0
    obtain ⟨_, rfl, _⟩ := h0
    simp
  · simp only [Value.cells, List.cons.injEq, Value.slice.injEq, and_true] at hcs
    obtain ⟨_, rfl, _⟩ := hcs
    injection hx with hx _
    subst hx
    have := sized_slice hsz hj hd ht
    simp only [List.length_map, List.length_range] at this
    rw [he]
    have h2 : n * P.bytesOf e ≤ (n + (m - n)) * P.bytesOf e := Nat.mul_le_mul_right _ (by omega)
    have h3 : reachBytes = 140737488351232 := rfl
    omega

/-! ### From a law's contract to its row -/
section
variable {H : Type} {enc : TypeId × Value → H}

theorem trodAll_later {P : Program} (hlo : laidOutB P = true) {W W' : World} (hb : Below W.heap.size W W') : ∀ {ts : List TypeId} {vs : List Value} {ds : List (DataW H)} {ps : List MemPlace},
    (∀ t ∈ ts, P.readableRec t = true ∧ t < P.types.size) → DataW.TrodAll enc P W 0 (fun _ => true) true ts vs ds ps → (∀ x ∈ ps, x.block < W.heap.size) →
    DataW.TrodAll enc P W' 0 (fun b => decide (b < W.heap.size)) true ts vs ds ps
  | [], _, _, _, _, h, _ => by
    obtain ⟨rfl, rfl, rfl⟩ := trodAll_nil h
    rfl
  | t :: ts, _, _, _, hr, h, hlt => by
    obtain ⟨v, vs1, d, ds1, a, b, rfl, rfl, rfl, h1, h2⟩ := trodAll_cons h
    have ht := hr t (by simp)
    exact ⟨a, b, Below.trod hlo ht.1 ht.2 h1 hb (fun x hx => hlt x (by simp [hx])), trodAll_later hlo hb (fun t' h' => hr t' (by simp [h'])) h2 (fun x hx => hlt x (by simp [hx])), rfl⟩

/-- the law's row: whatever the arguments, true, and each argument as it was -/
theorem law_post {P : Program} (hlo : laidOutB P = true) {f : Func} {s : ChangeSpec} {apart fresh handsOn : Bool} {W W' : World} {args : Array Value} {ds gs : List (DataW H)} {before : List MemPlace} {tb : TypeId}
    (hvars : s.vars = []) (hres : f.resultTypes = #[tb]) (htb : P.underlying tb = some .bool) (hfn : (s.fn H ds).results = [.lit (.bool true)] ∧ (s.fn H ds).args = ds ∧ (s.fn H ds).vars = [])
    (hr : (f.params.toList.all fun t => P.readableRec t && decide (t < P.types.size)) = true)
    (hW : DataW.Whole enc P f.params.toList s.vars apart W args.toList ds gs before) (hb : Below W.heap.size W W') :
    s.post enc P f apart fresh handsOn false W args (.bool true) W' := by
  have hlt : ∀ p ∈ before, p.block < W.heap.size := fun p hp => hW.lt p hp
  have hW0 := hW
  obtain ⟨p, q, hA, hV, rfl, _, _⟩ := hW
  rw [hvars] at hV
  obtain ⟨rfl, rfl⟩ := trodVars_none hV
  refine ⟨ds, [], p ++ [], [], p, [], hW0, ?_, ?_, ?_, ?_, fun h => by cases h⟩
  · rw [List.append_nil, hfn.1, hres]
    exact trodAll_mk1 (shut_bool htb true)
  · rw [List.append_nil, hfn.2.1]
    exact trodAll_later hlo hb (fun t ht => by simpa using List.all_eq_true.1 hr t ht) hA (fun x hx => hlt x (by simp [hx]))
  · rw [hvars, List.append_nil, hfn.2.2]; rfl
  · exact World.keptBut_mono (fun x hx => ⟨hx, Or.inr (Or.inl (by simpa using hx))⟩) (hb.frame (· ∈ p ++ []))

end

end Go.Proofs.Ytniilhgcgcimgaa

/-
  The closed facts of a row, piece by piece: what hangs on the start's word is reckoned once, on its letters.
-/

namespace Go.Proofs.Ytniilhgcgcimgaa
open Go.RowKit
set_option linter.unusedSimpArgs false
set_option linter.unusedVariables false

theorem and_both {a b : Bool} (h : a = true) (h' : b = true) : (a && b) = true := by rw [h, h']; rfl

/-- the start's word, letter by letter -/
def initN : List Nat := [104, 97, 114, 110, 101, 115, 115, 32, 52, 101, 102, 54, 99, 57, 54, 54, 53, 99, 57, 100, 52, 48, 52, 57, 52, 101, 99, 54, 52, 49, 100, 51, 56, 50, 98, 53, 54, 97, 98, 53, 55, 100, 50, 52, 56, 55, 50, 102, 100, 51, 54, 55, 101, 98, 55, 100, 53, 97, 55, 102, 51, 56, 51, 57, 53, 57, 100, 97, 97, 49, 51, 52, 32, 99, 117, 116, 32, 97, 116, 32, 99, 111, 100, 101, 109, 97, 115, 111, 110, 47, 99, 111, 100, 101, 109, 97, 115, 111, 110, 108, 97, 119, 46, 83, 104, 97, 112, 101, 67, 104, 101, 99, 107, 115, 32, 99, 111, 100, 101, 109, 97, 115, 111, 110, 47, 99, 111, 100, 101, 109, 97, 115, 111, 110, 108, 97, 119, 46, 83, 104, 97, 112, 101, 82, 117, 110, 115, 32, 99, 111, 100, 101, 109, 97, 115, 111, 110, 47, 99, 111, 100, 101, 109, 97, 115, 111, 110, 108, 97, 119, 46, 83, 104, 97, 112, 101, 70, 108, 97, 116, 115, 32, 99, 111, 100, 101, 109, 97, 115, 111, 110, 47, 99, 111, 100, 101, 109, 97, 115, 111, 110, 107, 101, 101, 112, 46, 83, 104, 97, 112, 101, 66, 97, 99, 107]

def cutW : List Char := [99, 117, 116].map Char.ofNat

theorem init_eq : Try.prog.initOrder = String.ofList (initN.map Char.ofNat) := by kernel_rfl

theorem init_chars : Try.prog.initOrder.toList = initN.map Char.ofNat := by rw [init_eq]; exact String.toList_ofList

theorem init_head : (behindMainWord (wordsSigns (initN.map Char.ofNat))).head? = some cutW := by kernel_rfl

theorem init_words : ∃ r, behindMainWord (wordsSigns Try.prog.initOrder.toList) = cutW :: r := by
  rw [init_chars]
  have h := init_head
  revert h
  generalize behindMainWord (wordsSigns (initN.map Char.ofNat)) = X
  intro h
  cases X with
  | nil => cases h
  | cons a r => exact ⟨r, by injection h with h; rw [h]⟩

theorem strip_cut (r : List (List Char)) : stripLifts liftWords (cutW :: r) = ([], cutW :: r) := by kernel_rfl

theorem cut_word : (cutW == "cut".toList) = true := by kernel_rfl

theorem cut_word_some : (some cutW == some "cut".toList) = true := by kernel_rfl

theorem cut_no_gc : (cutW == "gc".toList) = false := by kernel_rfl

theorem cut_no_spec : (cutW == "spec".toList) = false := by kernel_rfl

theorem cut_no_carried : (cutW == "carried".toList) = false := by kernel_rfl

theorem cut_no_carried_some : (some cutW == some "carried".toList) = false := by kernel_rfl

theorem mayEnter_of {P : Program} {r : List (List Char)} (h : behindMainWord (wordsSigns P.initOrder.toList) = cutW :: r) (h1 : P.laysLater = false) (h2 : P.bearsReflect = false) (h3 : P.doorFits [] = true) : P.mayEnter = true := by
  unfold Program.mayEnter
  rw [h]
  simp only [strip_cut, List.head?_cons, cut_word_some, h1, h2, h3, Bool.not_false, Bool.or_true, Bool.and_self, List.contains_nil, Bool.true_and, Bool.and_true]

theorem make_of {P : Program} {r : List (List Char)} (h : behindMainWord (wordsSigns P.initOrder.toList) = cutW :: r) : P.make = some .cut := by
  unfold Program.make
  rw [h]
  simp only [cut_no_gc, cut_no_spec, cut_word, Bool.or_false, Bool.true_or, if_true, Bool.false_eq_true, if_false]

theorem lifts_of {P : Program} {r : List (List Char)} (h : behindMainWord (wordsSigns P.initOrder.toList) = cutW :: r) : P.liftsFinal = false := by
  unfold Program.liftsFinal Program.headLifts
  rw [h]
  simp only [strip_cut, List.head?_cons, cut_word_some, cut_no_carried_some, if_true, List.contains_nil, Bool.false_and, Bool.or_false]

theorem may_enter : Try.prog.mayEnter = true := by
  obtain ⟨r, h⟩ := init_words
  exact mayEnter_of h (by kernel_rfl) (by kernel_rfl) (by kernel_rfl)

theorem make_ok {m : Make} (hm : m = .cut) : (Try.prog.make == some m) = true := by
  obtain ⟨r, h⟩ := init_words
  rw [make_of h, hm]
  kernel_rfl

theorem lifts_ok {b : Bool} (hb : b = false) : (b == Try.prog.liftsFinal) = true := by
  obtain ⟨r, h⟩ := init_words
  rw [lifts_of h, hb]
  kernel_rfl

end Go.Proofs.Ytniilhgcgcimgaa

/-
  What every law's row needs of this program: its own knob, its layout; its arguments opened.
-/

namespace Go.Proofs.Ytniilhgcgcimgaa
open Go.RowKit Go.ChangeShapes Go.WideShapes Go.ChangeAt Go.Deep
set_option linter.unusedSimpArgs false
set_option linter.unusedVariables false
set_option maxRecDepth 100000

theorem Try.own : ownKnob Try.prog.godebug = none := by kernel_rfl

theorem Try.laidOut : laidOutB Try.prog = true := by kernel_rfl

section
variable {H : Type} {enc : TypeId × Value → H} {w : World} {base : Nat} {spare : Nat → Bool} {held : Bool} {r : Reach} {b0 : Nat} {v : Value} {d : DataW H} {ps : List MemPlace}
theorem open_intsA (hv : Value.okWide Try.prog w r b0 26 v) (h : DataW.Trod enc Try.prog w base spare held 26 v d ps) :
    ∃ (A : Option Addr) (cap : Nat) (xs : List Int), v = .slice A xs.length cap ∧ xs.length ≤ cap ∧ cap ≤ maxLen ∧ RdI w w.heap.size A xs ∧ ∀ x ∈ xs, inI x :=
  open_intsR Try.underlying26 Try.underlying3 (by kernel_rfl) hv h
end

end Go.Proofs.Ytniilhgcgcimgaa

/-
  Programs as slices of blocks: read, opened.
-/

namespace Go.Proofs.Ytniilhgcgcimgaa
open Go.RowKit Go.ChangeShapes Go.WideShapes Go.ChangeAt Go.Deep
set_option linter.unusedSimpArgs false
set_option linter.unusedVariables false
set_option maxRecDepth 100000

instance : Inhabited Bk := ⟨bk0⟩

/-- a slice of blocks -/
def RdP (w : World) (B : Nat) (A : Option Addr) (p : List Bk) : Prop :=
  0 < p.length → ∃ ad : Addr, A = some ad ∧ ad.block < B ∧ ∀ (k : Nat) (b : Bk), p[k]? = some b → ∃ Ac cc, RdS w B Ac b.code ∧ w.cell? (ad.add (k * 4)) = some (.slice Ac b.code.length cc) ∧
    w.cell? ⟨(ad.add (k * 4)).block, (ad.add (k * 4)).off + 1, none⟩ = some (.int .i64 b.test) ∧ w.cell? ⟨(ad.add (k * 4)).block, (ad.add (k * 4)).off + 2, none⟩ = some (.int .i64 b.th) ∧ w.cell? ⟨(ad.add (k * 4)).block, (ad.add (k * 4)).off + 3, none⟩ = some (.int .i64 b.el) ∧ b.code.length ≤ cc

theorem RdP.below {w w' : World} {B B' : Nat} {A : Option Addr} {p : List Bk} (h : RdP w B A p) (hb : Below B' w w') (hB : B ≤ B') : RdP w' B A p := fun hm => by
  obtain ⟨ad, e, h1, h2⟩ := h hm
  refine ⟨ad, e, h1, fun k b hk => ?_⟩
  obtain ⟨Ac, cc, h3, h4, h5, h6, h7, h8⟩ := h2 k b hk
  have hbl : (ad.add (k * 4)).block < B' := by rw [addr_add_block]; omega
  exact ⟨Ac, cc, h3.below hb hB, (hb.cell hbl).trans h4, (hb.cell (p := ⟨(ad.add (k * 4)).block, (ad.add (k * 4)).off + 1, none⟩) hbl).trans h5, (hb.cell (p := ⟨(ad.add (k * 4)).block, (ad.add (k * 4)).off + 2, none⟩) hbl).trans h6, (hb.cell (p := ⟨(ad.add (k * 4)).block, (ad.add (k * 4)).off + 3, none⟩) hbl).trans h7, h8⟩

theorem RdP.more {w : World} {B B' : Nat} {A : Option Addr} {p : List Bk} (h : RdP w B A p) (hB : B ≤ B') : RdP w B' A p := fun hm => by
  obtain ⟨ad, e, h1, h2⟩ := h hm
  refine ⟨ad, e, by omega, fun k b hk => ?_⟩
  obtain ⟨Ac, cc, h3, h4⟩ := h2 k b hk
  exact ⟨Ac, cc, h3.more hB, h4⟩

theorem RdP.atc {w : World} {B : Nat} {A : Option Addr} {p : List Bk} {k : Nat} (h : RdP w B A p) (hk : k < p.length) :
    ∃ (ad : Addr) (b : Bk) (Ac : Option Addr) (cc : Nat), A = some ad ∧ (ad.add (k * 4)).block < B ∧ p[k]? = some b ∧ RdS w B Ac b.code ∧ w.cell? (ad.add (k * 4)) = some (.slice Ac b.code.length cc) ∧
    w.cell? ⟨(ad.add (k * 4)).block, (ad.add (k * 4)).off + 1, none⟩ = some (.int .i64 b.test) ∧ w.cell? ⟨(ad.add (k * 4)).block, (ad.add (k * 4)).off + 2, none⟩ = some (.int .i64 b.th) ∧ w.cell? ⟨(ad.add (k * 4)).block, (ad.add (k * 4)).off + 3, none⟩ = some (.int .i64 b.el) ∧ b.code.length ≤ cc := by
  obtain ⟨ad, e, h1, h2⟩ := h (by omega)
  have hr := List.getElem?_eq_getElem hk
  obtain ⟨Ac, cc, h3, h4, h5, h6, h7, h8⟩ := h2 k _ hr
  exact ⟨ad, _, Ac, cc, e, by rw [addr_add_block]; exact h1, hr, h3, h4, h5, h6, h7, h8⟩

theorem RdP.at_ {w : World} {B : Nat} {A : Option Addr} {p : List Bk} {k : Nat} (h : RdP w B A p) (hk : k < p.length) :
    ∃ (ad : Addr) (b : Bk) (Ac : Option Addr) (cc : Nat), A = some ad ∧ (ad.add (k * 4)).block < B ∧ p[k]? = some b ∧ RdS w B Ac b.code ∧ w.cell? (ad.add (k * 4)) = some (.slice Ac b.code.length cc) ∧
    w.cell? ⟨(ad.add (k * 4)).block, (ad.add (k * 4)).off + 1, none⟩ = some (.int .i64 b.test) ∧ w.cell? ⟨(ad.add (k * 4)).block, (ad.add (k * 4)).off + 2, none⟩ = some (.int .i64 b.th) ∧ w.cell? ⟨(ad.add (k * 4)).block, (ad.add (k * 4)).off + 3, none⟩ = some (.int .i64 b.el) := by
  obtain ⟨ad, b, Ac, cc, h1, h2, h3, h4, h5, h6, h7, h8, _⟩ := h.atc hk
  exact ⟨ad, b, Ac, cc, h1, h2, h3, h4, h5, h6, h7, h8⟩

section
variable {H : Type} {enc : TypeId × Value → H} {P : Program} {w : World} {base : Nat} {spare : Nat → Bool} {held : Bool}

theorem weightsAll_mem {e : TypeId} : ∀ {l : List (DataW H)} {d : DataW H}, d ∈ l → ∀ n ∈ d.weights P e, n ∈ DataW.weightsAll P e l
  | x :: l, d, hd, n, hn => by
    simp only [DataW.weightsAll, List.mem_append]
    rcases List.mem_cons.1 hd with rfl | hd
    · exact .inl hn
    · exact .inr (weightsAll_mem hd n hn)

/-- all that a datum's parts take is within reach -/
def InReach (P : Program) (t : TypeId) (d : DataW H) : Prop := ∀ n ∈ d.weights P t, n ≤ reachBytes

theorem reach_at {ts : List TypeId} {ds : List (DataW H)} {j : Nat} {t : TypeId} {d : DataW H} (hsz : (DataW.weightsEach P ts ds).all (· ≤ reachBytes) = true) (hj : ts[j]? = some t) (hd : ds[j]? = some d) : InReach P t d := fun n hn => by
  have := List.all_eq_true.1 hsz _ (DataW.weights_mem_each hj hd n hn)
  simpa using this

theorem trod_len {t e : TypeId} {fuel : Nat} {cs : List Value} {x : DataW H × List MemPlace} {A : Option Addr} {n c : Nat} (ht : P.underlying t = some (.slice e)) (hf : DataW.trod enc P w base spare held fuel t cs = some x) (hcs : cs = [.slice A n c]) (hw : InReach P t x.1) : n * P.bytesOf e ≤ 140737488351232 := by
  rcases open_slice ht hf with ⟨h0, _⟩ | ⟨a, len, cap, m, n', D, Pl, hcs2, _, _, _, _, hx, _⟩
  · rw [h0] at hcs
    simp only [List.cons.injEq, Value.slice.injEq, and_true] at hcs
    obtain ⟨_, rfl, _⟩ := hcs
    simp
  · rw [hcs2] at hcs
    simp only [List.cons.injEq, Value.slice.injEq, and_true] at hcs
    obtain ⟨_, rfl, _⟩ := hcs
    subst hx
    have := hw ((((List.range len).map D).length + ((List.range (m - len)).map fun j => D (len + j)).length) * P.bytesOf e) (by simp only [DataW.weights, ht]; exact List.mem_cons_self ..)
    simp only [List.length_map, List.length_range] at this
    have h2 : len * P.bytesOf e ≤ (len + (m - len)) * P.bytesOf e := Nat.mul_le_mul_right _ (by omega)
    have h3 : reachBytes = 140737488351232 := rfl
    omega

/-- a slice of records of ints, of its datum -/
theorem open_recsT {α : Type} {c : α → List Value} {m : Nat} (mk : (Nat → Int) → α) (hc : ∀ g i, i < m → (c (mk g))[i]? = some (.int .i64 (g i))) (hcl : ∀ x, (c x).length = m) (h0 : 0 < m)
    {t e : TypeId} {fs : Array Field} {fuel : Nat} {cs : List Value} {x : DataW H × List MemPlace} (ht : P.underlying t = some (.slice e)) (he : P.underlying e = some (.struct fs)) (hn : fs.size = m)
    (hone : oneCellFields P fs = true) (hC : P.cellsOf e = fs.size) (hint : intFields P fs = true) (hf : DataW.trod enc P w base spare held fuel t cs = some x) :
    ∃ (A : Option Addr) (cap : Nat) (l : List α), cs = [.slice A l.length cap] ∧ l.length ≤ cap ∧ cap ≤ maxLen ∧ RdR c w w.heap.size A m l ∧ ∀ x ∈ l, ∃ g, x = mk g ∧ ∀ i, i < m → inI (g i) := by
  rcases open_rows ht he hone hC hint hf with h1 | ⟨a, len, cap, g, hcs, hb, hl, hm, hg⟩
  · exact ⟨none, 0, [], h1, Nat.le_refl _, by simp [maxLen], fun h => by simp at h, fun _ h => by simp at h⟩
  · have hL : ((List.range len).map fun i => mk (g i)).length = len := by simp
    refine ⟨some a, cap, (List.range len).map fun i => mk (g i), by rw [hL]; exact hcs, by rw [hL]; exact hl, hm, fun hp => ?_, fun x hx => ?_⟩
    · rw [hL] at hp
      have hlen : 0 < len := by
        rcases Nat.eq_zero_or_pos len with h2 | h2
        · rw [h2] at hp; simp at hp
        · exact h2
      have h2 := (hg 0 hlen 0 (by omega)).1
      refine ⟨a, rfl, by have := block_lt h2; rw [addr_add_block] at this; exact this, fun j hj => ?_⟩
      rw [hL] at hj
      have hi : j / m < len := Nat.div_lt_of_lt_mul (by rw [Nat.mul_comm]; exact hj)
      have hr : j % m < m := Nat.mod_lt _ h0
      have hq := (hg (j / m) hi (j % m) (by omega)).1
      have hjm : j / m * m + j % m = j := by rw [Nat.mul_comm]; exact Nat.div_add_mod j m
      rw [hn, hjm] at hq
      rw [hq]
      have hx : ((List.range len).map fun i => mk (g i))[j / m]? = some (mk (g (j / m))) := by rw [List.getElem?_map, List.getElem?_range hi]; rfl
      have hat := rv_at hcl hx hr
      rw [hjm, hc _ _ hr] at hat
      show _ = some ((rv c ((List.range len).map fun i => mk (g i))).getD j undef)
      rw [List.getD_eq_getElem?_getD, hat]
      rfl
    · obtain ⟨i, hi, rfl⟩ := List.mem_map.1 hx
      have hi := List.mem_range.1 hi
      exact ⟨g i, rfl, fun j hj => (hg i hi j (by omega)).2⟩

theorem cSt_mk' (g : Nat → Int) (i : Nat) (h : i < 5) : (cSt ⟨g 0, g 1, g 2, g 3, g 4⟩)[i]? = some (.int .i64 (g i)) := by
  have : i = 0 ∨ i = 1 ∨ i = 2 ∨ i = 3 ∨ i = 4 := by omega
  rcases this with rfl | rfl | rfl | rfl | rfl <;> rfl

/-- a block of a program that comes in: its words are numbers of the machine -/
def InBk (b : Bk) : Prop := b.code.length * 40 ≤ 140737488351232 ∧ inI b.test ∧ inI b.th ∧ inI b.el

theorem open_progR {t e es : TypeId} {f0 f1 f2 f3 : Field} {gs : Array Field} {r : Reach} {b0 : Nat} {v : Value} {d : DataW H} {ps : List MemPlace} (ht : P.underlying t = some (.slice e)) (he : P.underlying e = some (.struct #[f0, f1, f2, f3]))
    (hone : oneCellFields P #[f0, f1, f2, f3] = true) (hC : P.cellsOf e = 4) (h0 : P.underlying f0.type = some (.slice es)) (h1 : P.underlying f1.type = some (.int .i64)) (h2 : P.underlying f2.type = some (.int .i64)) (h3 : P.underlying f3.type = some (.int .i64))
    (hes : P.underlying es = some (.struct gs)) (hgn : gs.size = 5) (hgone : oneCellFields P gs = true) (hgC : P.cellsOf es = gs.size) (hgint : intFields P gs = true) (hgb : P.bytesOf es = 40) (hw : InReach P t d)
    (hv : Value.okWide P w r b0 t v) (h : DataW.Trod enc P w base spare held t v d ps) :
    ∃ (A : Option Addr) (cap : Nat) (p : List Bk), v = .slice A p.length cap ∧ p.length ≤ cap ∧ cap ≤ maxLen ∧ RdP w w.heap.size A p ∧ ∀ b ∈ p, InBk b := by
  obtain ⟨A, len, cap, rfl⟩ := okWide_slice ht hv
  obtain ⟨fuel, hf⟩ := h
  rcases open_slice ht hf with hn | ⟨a, len', cap', m, n, D, Pl, hcs, hb, hl, hm, hmm, hx, hi⟩
  · have hn := hn.1
    simp only [Value.cells, List.cons.injEq, Value.slice.injEq, and_true] at hn
    obtain ⟨rfl, rfl, rfl⟩ := hn
    exact ⟨none, 0, [], rfl, Nat.le_refl _, by simp [maxLen], fun h => by simp at h, fun _ h => by simp at h⟩
  · simp only [Value.cells, List.cons.injEq, Value.slice.injEq, and_true] at hcs
    obtain ⟨rfl, rfl, rfl⟩ := hcs
    have one := hone_of hone
    have each : ∀ i, i < len → ∃ q : Bk × Option Addr × Nat, InBk q.1 ∧ RdS w w.heap.size q.2.1 q.1.code ∧ w.cell? (a.add (i * 4)) = some (.slice q.2.1 q.1.code.length q.2.2) ∧
        w.cell? ((a.add (i * 4)).add 1) = some (.int .i64 q.1.test) ∧ w.cell? ((a.add (i * 4)).add 2) = some (.int .i64 q.1.th) ∧ w.cell? ((a.add (i * 4)).add 3) = some (.int .i64 q.1.el) ∧ q.1.code.length ≤ q.2.2 := by
      intro i hil
      have him : i < m := by rw [hmm]; split <;> omega
      obtain ⟨cs', hc, ht'⟩ := hi i him
      obtain ⟨ys, n', _, hD, hlen, hyl, hg⟩ := DataW.trod_struct he ht'
      have hDi : InReach P e (D i) := fun k hk => by
        injection hx with hx _
        refine hw k ?_
        rw [hx]
        simp only [DataW.weights, ht]
        refine List.mem_cons_of_mem _ (List.mem_append_left _ (weightsAll_mem (List.mem_map.2 ⟨i, List.mem_range.2 hil, rfl⟩) k hk))
      obtain ⟨_, hcl, hat⟩ := World.cells?_some hc
      rw [hC] at hcl hat hlen
      obtain ⟨a0, a1, a2, a3, hce⟩ : ∃ a0 a1 a2 a3, cs' = [a0, a1, a2, a3] := by
        match cs', hcl with
        | [a0, a1, a2, a3], _ => exact ⟨a0, a1, a2, a3, rfl⟩
      subst hce
      have hxl4 : ys.length = 4 := by simpa using hyl
      have g0 := hg 0 f0 rfl
      have g1 := hg 1 f1 rfl
      have g2 := hg 2 f2 rfl
      have g3 := hg 3 f3 rfl
      rw [(one 0 f0 rfl).1, (one 0 f0 rfl).2, List.getElem?_eq_getElem (by omega)] at g0
      rw [(one 1 f1 rfl).1, (one 1 f1 rfl).2, List.getElem?_eq_getElem (by omega)] at g1
      rw [(one 2 f2 rfl).1, (one 2 f2 rfl).2, List.getElem?_eq_getElem (by omega)] at g2
      rw [(one 3 f3 rfl).1, (one 3 f3 rfl).2, List.getElem?_eq_getElem (by omega)] at g3
      simp only [List.drop_succ_cons, List.drop_zero, List.take_succ_cons, List.take_zero] at g0 g1 g2 g3
      have hy0 : InReach P f0.type (ys[0]'(by omega)).1 := fun k hk => by
        injection hD with hD _
        refine hDi k ?_
        rw [hD]
        simp only [DataW.weights, he]
        exact DataW.weights_mem_each (j := 0) (t := f0.type) (d := (ys[0]'(by omega)).1) rfl (by simp [List.getElem?_eq_getElem (show 0 < ys.length by omega)]) k hk
      obtain ⟨Ac, cc, l, k0, hlc, hcm, hrd, _⟩ := open_recsT (c := cSt) (m := 5) (fun g => (⟨g 0, g 1, g 2, g 3, g 4⟩ : St)) cSt_mk' cSt_len (by omega) h0 hes hgn hgone hgC hgint g0
      have hcl0 := trod_len h0 g0 k0 hy0
      rw [hgb] at hcl0
      obtain ⟨z1, k1, _, i1⟩ := DataW.trod_int h1 g1
      obtain ⟨z2, k2, _, i2⟩ := DataW.trod_int h2 g2
      obtain ⟨z3, k3, _, i3⟩ := DataW.trod_int h3 g3
      simp only [List.cons.injEq, and_true] at k0 k1 k2 k3
      subst k0 k1 k2 k3
      have c0 := hat 0 (by omega)
      have c1 := hat 1 (by omega)
      have c2 := hat 2 (by omega)
      have c3 := hat 3 (by omega)
      rw [addr_add_add, Nat.add_zero] at c0
      exact ⟨(⟨l, z1, z2, z3⟩, Ac, cc), ⟨hcl0, inI_of i1, inI_of i2, inI_of i3⟩, hrd, c0, c1, c2, c3, hlc⟩
    obtain ⟨q, hq⟩ := choose_lt each
    have hL : ((List.range len).map fun i => (q i).1).length = len := by simp
    refine ⟨some a, cap, (List.range len).map fun i => (q i).1, by rw [hL], by rw [hL]; exact hl, hm, fun hp => ?_, fun b hbm => ?_⟩
    · rw [hL] at hp
      have hz := (hq 0 hp).2.2.1
      refine ⟨a, rfl, by have := block_lt hz; rw [addr_add_block] at this; exact this, fun k b hk => ?_⟩
      have hkl := (List.getElem?_eq_some_iff.1 hk).1
      rw [hL] at hkl
      rw [List.getElem?_map, List.getElem?_range hkl] at hk
      injection hk with hk
      subst hk
      obtain ⟨_, r1, r2, r3, r4, r5, r6⟩ := hq k hkl
      exact ⟨_, _, r1, r2, r3, r4, r5, r6⟩
    · obtain ⟨i, hi2, rfl⟩ := List.mem_map.1 hbm
      exact (hq i (List.mem_range.1 hi2)).1

end

section
variable {H : Type} {enc : TypeId × Value → H} {w : World} {base : Nat} {spare : Nat → Bool} {held : Bool} {r : Reach} {b0 : Nat} {v : Value} {d : DataW H} {ps : List MemPlace}
theorem open_progA (hw : InReach Try.prog 34 d) (hv : Value.okWide Try.prog w r b0 34 v) (h : DataW.Trod enc Try.prog w base spare held 34 v d ps) :
    ∃ (A : Option Addr) (cap : Nat) (p : List Bk), v = .slice A p.length cap ∧ p.length ≤ cap ∧ cap ≤ maxLen ∧ RdP w w.heap.size A p ∧ ∀ b ∈ p, InBk b :=
  open_progR Try.underlying34 Try.underlying39 (by kernel_rfl) (by kernel_rfl) Try.underlying37 Try.underlying3 Try.underlying3 Try.underlying3 Try.underlying66 rfl (by kernel_rfl) (by kernel_rfl) (by kernel_rfl) (by kernel_rfl) hw hv h

theorem open_stepsB (hv : Value.okWide Try.prog w r b0 37 v) (h : DataW.Trod enc Try.prog w base spare held 37 v d ps) :
    ∃ (A : Option Addr) (cap : Nat) (l : List St), v = .slice A l.length cap ∧ l.length ≤ cap ∧ cap ≤ maxLen ∧ RdS w w.heap.size A l ∧ True := by
  obtain ⟨A, len, cap, rfl⟩ := okWide_slice Try.underlying37 hv
  obtain ⟨fuel, hf⟩ := h
  obtain ⟨A', cap', l, h1, h2, h3, h4, _⟩ := open_recsT (c := cSt) (m := 5) (fun g => (⟨g 0, g 1, g 2, g 3, g 4⟩ : St)) cSt_mk' cSt_len (by omega) Try.underlying37 Try.underlying66 rfl (by kernel_rfl) (by kernel_rfl) (by kernel_rfl) hf
  simp only [Value.cells, List.cons.injEq, and_true] at h1
  exact ⟨A', cap', l, h1, h2, h3, h4, trivial⟩
end

end Go.Proofs.Ytniilhgcgcimgaa

/-
  Steps taken and dropped, as slices.
-/

namespace Go.Proofs.Ytniilhgcgcimgaa
open Go.RowKit
set_option linter.unusedSimpArgs false
set_option linter.unusedVariables false
set_option maxRecDepth 100000

theorem rv_split {α : Type} (c : α → List Value) (l : List α) (i : Nat) : rv c l = rv c (l.take i) ++ rv c (l.drop i) := by rw [← rv_append, List.take_append_drop]

theorem RdS.take {w : World} {B : Nat} {A : Option Addr} {l : List St} (h : RdS w B A l) (i : Nat) : RdS w B A (l.take i) := fun hp => by
  have hle : (l.take i).length ≤ l.length := by rw [List.length_take]; omega
  obtain ⟨ad, e, hb, hc⟩ := h (by omega)
  refine ⟨ad, e, hb, fun j hj => ?_⟩
  rw [hc j (by omega)]
  show some ((rv cSt l).getD j undef) = some ((rv cSt (l.take i)).getD j undef)
  rw [List.getD_eq_getElem?_getD, List.getD_eq_getElem?_getD, rv_split cSt l i, List.getElem?_append_left (by rw [rv_len cSt_len]; exact hj)]

theorem RdS.drop {w : World} {B : Nat} {ad : Addr} {l : List St} (h : RdS w B (some ad) l) (i : Nat) : RdS w B (some (ad.add (i * 5))) (l.drop i) := fun hp => by
  have hi : i < l.length := by
    rcases Nat.lt_or_ge i l.length with h1 | h1
    · exact h1
    · rw [List.drop_of_length_le h1] at hp; simp at hp
  have hlt : (l.take i).length = i := by rw [List.length_take]; omega
  have hld : (l.drop i).length = l.length - i := by simp
  obtain ⟨ad', e, hb, hc⟩ := h (by omega)
  injection e with e
  subst e
  refine ⟨_, rfl, by rw [addr_add_block]; exact hb, fun j hj => ?_⟩
  rw [addr_add_add, hc _ (by omega)]
  show some ((rv cSt l).getD (i * 5 + j) undef) = some ((rv cSt (l.drop i)).getD j undef)
  rw [List.getD_eq_getElem?_getD, List.getD_eq_getElem?_getD, rv_split cSt l i, List.getElem?_append_right (by rw [rv_len cSt_len, hlt]; omega), rv_len cSt_len, hlt, Nat.add_sub_cancel_left]

theorem RdS.nil_drop {w : World} {B : Nat} {A A' : Option Addr} {l : List St} {i : Nat} (h : l.length ≤ i) : RdS w B A' (l.drop i) := fun hp => by
  rw [List.drop_of_length_le h] at hp
  simp at hp

theorem own_add {w : World} {g : Nat} {t : TypeId} {cs : List Value} (h : Own w g t cs) {k : Nat} {v : Value} (hv : cs[k]? = some v) : w.cell? ((⟨g, 0, none⟩ : Addr).add k) = some v := by
  have ha : (⟨g, 0, none⟩ : Addr).add k = ⟨g, k, none⟩ := by unfold Addr.add; split <;> simp_all
  rw [ha]
  exact h.cell hv

theorem own_add' {w : World} {g : Nat} {t : TypeId} {cs : List Value} (h : Own w g t cs) {k i : Nat} {v : Value} (hv : cs[k + i]? = some v) : w.cell? ⟨((⟨g, 0, none⟩ : Addr).add k).block, ((⟨g, 0, none⟩ : Addr).add k).off + i, none⟩ = some v := by
  have ha : (⟨g, 0, none⟩ : Addr).add k = ⟨g, k, none⟩ := by unfold Addr.add; split <;> simp_all
  rw [ha]
  exact h.cell hv

end Go.Proofs.Ytniilhgcgcimgaa

/-
  Programs as rows of cells: copied, a block written anew; how many steps there are.
-/

namespace Go.Proofs.Ytniilhgcgcimgaa
open Go.RowKit Go.ChangeShapes Go.WideShapes Go.ChangeAt Go.Deep
set_option linter.unusedSimpArgs false
set_option linter.unusedVariables false
set_option maxRecDepth 100000

/-- a block and where its steps lie, as cells -/
def cBk (q : Bk × Option Addr × Nat) : List Value := [.slice q.2.1 q.1.code.length q.2.2, .int .i64 q.1.test, .int .i64 q.1.th, .int .i64 q.1.el]

theorem cBk_len (q : Bk × Option Addr × Nat) : (cBk q).length = 4 := rfl

theorem cBk_one (l : List (Bk × Option Addr × Nat)) : ∀ u ∈ rv cBk l, u.oneCell' = true := rv_all (fun x u hu => by
  simp [cBk] at hu
  rcases hu with rfl | rfl | rfl | rfl <;> rfl) l

/-- steps within reach -/
def RawOk (w : World) (B : Nat) (qs : List (Bk × Option Addr × Nat)) : Prop := ∀ (k : Nat) (q : Bk × Option Addr × Nat), qs[k]? = some q → RdS w B q.2.1 q.1.code ∧ q.1.code.length ≤ q.2.2

theorem RawOk.below {w w' : World} {B B' : Nat} {qs : List (Bk × Option Addr × Nat)} (h : RawOk w B qs) (hb : Below B' w w') (hB : B ≤ B') : RawOk w' B qs := fun k q hq => ⟨(h k q hq).1.below hb hB, (h k q hq).2⟩

theorem RawOk.more {w : World} {B B' : Nat} {qs : List (Bk × Option Addr × Nat)} (h : RawOk w B qs) (hB : B ≤ B') : RawOk w B' qs := fun k q hq => ⟨(h k q hq).1.more hB, (h k q hq).2⟩

theorem rdP_raw {w : World} {B : Nat} {A : Option Addr} {p : List Bk} (h : RdP w B A p) : ∃ qs : List (Bk × Option Addr × Nat), qs.map (·.1) = p ∧ RdR cBk w B A 4 qs ∧ RawOk w B qs := by
  rcases Nat.eq_zero_or_pos p.length with h0 | h0
  · have hp : p = [] := List.eq_nil_of_length_eq_zero h0
    subst hp
    exact ⟨[], rfl, fun hm => by simp at hm, fun k q hq => by simp at hq⟩
  · obtain ⟨ad, hA, hb, hk⟩ := h h0
    have each : ∀ k, k < p.length → ∃ q : Bk × Option Addr × Nat, p[k]? = some q.1 ∧ RdS w B q.2.1 q.1.code ∧ q.1.code.length ≤ q.2.2 ∧ ∀ i v, (cBk q)[i]? = some v → w.cell? ((ad.add (k * 4)).add i) = some v := by
      intro k hkl
      obtain ⟨Ac, cc, h1, h2, h3, h4, h5, h6⟩ := hk k _ (List.getElem?_eq_getElem hkl)
      refine ⟨(p[k], Ac, cc), List.getElem?_eq_getElem hkl, h1, h6, fun i v hv => ?_⟩
      have hi : i = 0 ∨ i = 1 ∨ i = 2 ∨ i = 3 := by
        have := (List.getElem?_eq_some_iff.1 hv).1
        rw [cBk_len] at this
        omega
      rcases hi with rfl | rfl | rfl | rfl
      · simp only [cBk, List.getElem?_cons_zero, Option.some.injEq] at hv
        subst hv
        rw [addr_add_add, Nat.add_zero]
        exact h2
      · simp only [cBk, List.getElem?_cons_succ, List.getElem?_cons_zero, Option.some.injEq] at hv
        subst hv
        exact h3
      · simp only [cBk, List.getElem?_cons_succ, List.getElem?_cons_zero, Option.some.injEq] at hv
        subst hv
        exact h4
      · simp only [cBk, List.getElem?_cons_succ, List.getElem?_cons_zero, Option.some.injEq] at hv
        subst hv
        exact h5
    obtain ⟨f, hf⟩ := choose_lt each
    have hg : ∀ k, k < p.length → ((List.range p.length).map f)[k]? = some (f k) := fun k hkl => by rw [List.getElem?_map, List.getElem?_range hkl]; rfl
    refine ⟨(List.range p.length).map f, ?_, fun _ => ⟨ad, hA, hb, fun j hj => ?_⟩, fun k q hq => ?_⟩
    · apply List.ext_getElem?
      intro k
      rcases Nat.lt_or_ge k p.length with hkl | hkl
      · rw [List.getElem?_map, hg k hkl, (hf k hkl).1]; rfl
      · rw [List.getElem?_eq_none (by simpa using hkl), List.getElem?_eq_none hkl]
    · have hl : ((List.range p.length).map f).length = p.length := by simp
      rw [hl] at hj
      have hkl : j / 4 < p.length := by omega
      have hjm : j / 4 * 4 + j % 4 = j := by omega
      have hlt : j % 4 < (cBk (f (j / 4))).length := by rw [cBk_len]; omega
      have h1 := (hf (j / 4) hkl).2.2.2 (j % 4) _ (List.getElem?_eq_getElem hlt)
      rw [addr_add_add, hjm] at h1
      rw [h1]
      show _ = some ((rv cBk ((List.range p.length).map f)).getD j undef)
      have h2 := rv_at cBk_len (hg (j / 4) hkl) (i := j % 4) (by omega)
      rw [hjm] at h2
      rw [List.getD_eq_getElem?_getD, h2, List.getElem?_eq_getElem hlt]
      rfl
    · have hkl : k < p.length := by have := (List.getElem?_eq_some_iff.1 hq).1; simpa using this
      rw [hg k hkl] at hq
      injection hq with hq
      subst hq
      exact ⟨(hf k hkl).2.1, (hf k hkl).2.2.1⟩

theorem rdP_of_raw {w : World} {B : Nat} {A : Option Addr} {qs : List (Bk × Option Addr × Nat)} (h : RdR cBk w B A 4 qs) (hr : RawOk w B qs) : RdP w B A (qs.map (·.1)) := fun hm => by
  rw [List.length_map] at hm
  obtain ⟨ad, _, hA, hb, _, _⟩ := RdR.cell cBk_len (by omega) h (k := 0) hm
  subst hA
  rw [addr_add_block] at hb
  refine ⟨ad, rfl, hb, fun k b hk => ?_⟩
  rw [List.getElem?_map] at hk
  obtain ⟨q, hq, rfl⟩ := Option.map_eq_some_iff.1 hk
  have hkl := (List.getElem?_eq_some_iff.1 hq).1
  obtain ⟨ad', q', e, _, hq', hc⟩ := RdR.cell cBk_len (by omega) h hkl
  injection e with e
  subst e
  rw [hq] at hq'
  injection hq' with hq'
  subst hq'
  have h0 := hc 0 _ rfl
  rw [addr_add_add, Nat.add_zero] at h0
  exact ⟨q.2.1, q.2.2, (hr k q hq).1, h0, hc 1 _ rfl, hc 2 _ rfl, hc 3 _ rfl, (hr k q hq).2⟩

theorem RdR.newsB {w : World} {B : Nat} {A : Option Addr} {α : Type} {c : α → List Value} {m : Nat} {l : List α} (hm : ∀ x, (c x).length = m) (h : RdR c w B A m l) : ∀ ad, A = some ad → ∀ j u, (rv c l)[j]? = some u → w.cell? (ad.add j) = some u := by
  intro ad hA j u hu
  have hj : j < l.length * m := by
    have := (List.getElem?_eq_some_iff.1 hu).1
    rwa [rv_len hm] at this
  obtain ⟨ad', e, _, hc⟩ := h (by omega)
  rw [hA] at e
  injection e with e
  subst e
  rw [hc j hj]
  show some ((rv c l).getD j undef) = _
  rw [List.getD_eq_getElem?_getD, hu, Option.getD_some]

/-- one block's steps written anew -/
theorem rv_setB : ∀ {qs : List (Bk × Option Addr × Nat)} {i n c : Nat} {A Ac : Option Addr} {cc : Nat} {b b' : Bk}, qs[i]? = some (b, Ac, cc) → b'.test = b.test → b'.th = b.th → b'.el = b.el → b'.code.length = n →
    (rv cBk qs).set (i * 4) (.slice A n c) = rv cBk (qs.set i (b', A, c))
  | [], _, _, _, _, _, _, _, _, h, _, _, _, _ => by simp at h
  | q :: qs, 0, n, c, A, Ac, cc, b, b', h, h1, h2, h3, h4 => by
    simp at h
    subst h
    show ([_, _, _, _] ++ rv cBk qs).set 0 _ = cBk (b', A, c) ++ rv cBk qs
    simp [cBk, h1, h2, h3, h4]
  | q :: qs, i + 1, n, c, A, Ac, cc, b, b', h, h1, h2, h3, h4 => by
    have ih := rv_setB (qs := qs) (i := i) (n := n) (c := c) (A := A) (by simpa using h) h1 h2 h3 h4
    have e1 : rv cBk (q :: qs) = cBk q ++ rv cBk qs := rfl
    have e2 : rv cBk ((q :: qs).set (i + 1) (b', A, c)) = cBk q ++ rv cBk (qs.set i (b', A, c)) := rfl
    rw [e1, e2, ← ih, List.set_append, if_neg (by rw [cBk_len]; omega), cBk_len, show (i + 1) * 4 - 4 = i * 4 by omega]

/-- how many steps a program in a world has -/
def cntS (w : World) : Value → Nat
  | .slice (some ad) n _ => ((List.range n).map fun k => match w.cell? (ad.add (k * 4)) with
    | some (.slice _ m _) => m
    | _ => 0).sum
  | _ => 0

theorem manyS_sum : ∀ p : List Bk, manyS p = (p.map fun b => b.code.length).sum
  | [] => rfl
  | b :: p => by rw [manyS, manyS_sum p]; simp

theorem cntS_eq {w : World} {B : Nat} {A : Option Addr} {p : List Bk} (h : RdP w B A p) (c : Nat) : cntS w (.slice A p.length c) = manyS p := by
  rcases Nat.eq_zero_or_pos p.length with h0 | h0
  · have hp : p = [] := List.eq_nil_of_length_eq_zero h0
    subst hp
    cases A with
    | none => rfl
    | some ad => simp [cntS, manyS]
  · obtain ⟨ad, rfl, _, hk⟩ := h h0
    rw [manyS_sum]
    unfold cntS
    refine congrArg List.sum ?_
    apply List.ext_getElem?
    intro k
    rcases Nat.lt_or_ge k p.length with hkl | hkl
    · rw [List.getElem?_map, List.getElem?_range hkl, List.getElem?_map, List.getElem?_eq_getElem hkl]
      obtain ⟨Ac, cc, _, h2, _⟩ := hk k _ (List.getElem?_eq_getElem hkl)
      simp only [Option.map_some, h2]
    · rw [List.getElem?_eq_none (by simpa using hkl), List.getElem?_eq_none (by simpa using hkl)]

theorem manyS_put : ∀ {p : List Bk} {i : Nat} {b b' : Bk}, p[i]? = some b → manyS (p.set i b') + b.code.length = manyS p + b'.code.length
  | [], _, _, _, h => by simp at h
  | a :: p, 0, b, b', h => by
    simp at h
    subst h
    simp only [List.set_cons_zero, manyS]
    omega
  | a :: p, i + 1, b, b', h => by
    have := manyS_put (p := p) (i := i) (b' := b') (by simpa using h)
    simp only [List.set_cons_succ, manyS]
    omega

theorem Cut.less {want : Nat} {p q : List Bk} (h : Cut want p q) : manyS q < manyS p := by
  obtain @⟨i, k, b, s, hb, hs, _⟩ := h
  have h1 := manyS_put (b' := dropS b k) hb
  have h2 : (dropS b k).code.length = b.code.length - 1 := by
    show (b.code.eraseIdx k).length = _
    rw [List.length_eraseIdx, if_pos (List.getElem?_eq_some_iff.1 hs).1]
  have h3 := (List.getElem?_eq_some_iff.1 hs).1
  omega

end Go.Proofs.Ytniilhgcgcimgaa
