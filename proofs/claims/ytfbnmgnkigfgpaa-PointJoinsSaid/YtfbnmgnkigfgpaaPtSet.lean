/-
  Maps of pairs (map[[2]int]bool) of the call's own, as lists of pairs; codemasonref.Within's closure (V2).
-/
import Derived.Test.YtfbnmgnkigfgpaaPurePtL
import Derived.Test.YtfbnmgnkigfgpaaMapSet
import Derived.WideLaws
namespace Go.Proofs.Ytfbnmgnkigfgpaa
open Go.RowKit
set_option linter.unusedSimpArgs false
set_option linter.unusedVariables false
set_option maxRecDepth 100000

/-- two blocks of the call's own written, all else below as it was -/
structure Wrote2 (g h : Nat) (w w' : World) : Prop where
  os : w'.os = w.os
  tape : w'.tape = w.tape
  output : w'.output = w.output
  size : w.heap.size ≤ w'.heap.size
  block : ∀ k, k < w.heap.size → k ≠ g → k ≠ h → w'.heap[k]? = w.heap[k]?

section
variable {g h : Nat} {w w' w'' : World}

theorem Wrote2.of_below (hb : Below w.heap.size w w') : Wrote2 g h w w' := ⟨hb.os, hb.tape, hb.output, hb.size, fun k hk _ _ => hb.block k hk⟩

theorem Wrote2.refl (w : World) : Wrote2 g h w w := ⟨rfl, rfl, rfl, Nat.le_refl _, fun _ _ _ _ => rfl⟩

theorem Wrote2.trans (h1 : Wrote2 g h w w') (h2 : Wrote2 g h w' w'') : Wrote2 g h w w'' := ⟨h2.os.trans h1.os, h2.tape.trans h1.tape, h2.output.trans h1.output, Nat.le_trans h1.size h2.size, fun k hk q1 q2 => (h2.block k (Nat.lt_of_lt_of_le hk h1.size) q1 q2).trans (h1.block k hk q1 q2)⟩

theorem Wrote2.set (h1 : Wrote2 g h w w') {p : Addr} (hp : p.block = g ∨ p.block = h) (u : Value) : Wrote2 g h w (w'.setCell p u) := by
  have hb : Below p.block w' (w'.setCell p u) := (Below.refl p.block w').setCell (Nat.le_refl _) u
  exact ⟨hb.os.trans h1.os, hb.tape.trans h1.tape, hb.output.trans h1.output, Nat.le_trans h1.size hb.size, fun k hk q1 q2 => (Below.heap_setCell w' p u k (by omega)).trans (h1.block k hk q1 q2)⟩

theorem Wrote2.turned (ht : Turned g w w') : Wrote2 g h w w' := ⟨ht.os, ht.tape, ht.output, Nat.le_of_eq ht.size.symm, fun k _ q1 _ => ht.block k q1⟩

theorem Wrote2.below {B : Nat} (h1 : Wrote2 g h w w') (hg : B ≤ g) (hh : B ≤ h) (hs : B ≤ w.heap.size) : Below B w w' := ⟨h1.os, h1.tape, h1.output, h1.size, fun k hk => h1.block k (by omega) (by omega) (by omega)⟩

theorem Wrote2.own (h1 : Wrote2 g h w w') {b : Nat} {t : TypeId} {cs : List Value} (ho : Own w b t cs) (hg : b ≠ g) (hh : b ≠ h) : Own w' b t cs := (h1.block b ho.lt hg hh).trans ho

theorem Wrote2.drew (h1 : Wrote2 g h w w') : Wrote2 g h w w'.drew := ⟨h1.os, h1.tape, h1.output, h1.size, h1.block⟩

end

theorem pairQ_keyed : Maps.Keyed Try.prog 48 := Maps.Keyed.of_law (deep_law_gate (P := Try.prog) (by kernel_rfl) (of_decide_eq_true (by kernel_rfl)) (of_decide_eq_true (by kernel_rfl)) (by kernel_rfl) (by rw [Try.underlying48]))

theorem wfQ {x : Nat} (h : x < 9223372036854775808) : (Lit.int .i64 (x : Int)).wf = true := by
  simp only [Lit.wf, Bool.and_eq_true, decide_eq_true_eq]
  simp only [IntKind.min, IntKind.max, IntKind.bits, IntKind.signed]
  constructor
  · show (-9223372036854775808 : Int) ≤ x; omega
  · show (x : Int) ≤ 9223372036854775807; omega

theorem key_litQ (d : Nat) {x : Int} (h : (Lit.int .i64 x).wf = true) : Try.prog.keyLits (d + 1) 3 [.int .i64 x] = some [.int .i64 x] := by
  unfold Program.keyLits
  rw [Try.underlying3]
  simp [h]

/-- a pair as a key -/
def prQ (p : Nat × Nat) : Value := .agg #[.int .i64 (p.1 : Int), .int .i64 (p.2 : Int)]

theorem prQ_inj {p q : Nat × Nat} (h : prQ p = prQ q) : p = q := by
  unfold prQ at h
  injection h with h
  have h1 := congrArg Array.toList h
  simp at h1
  exact Prod.ext (by omega) (by omega)

theorem pairQ_key {x y : Nat} (h0 : x < 9223372036854775808) (h1 : y < 9223372036854775808) : KeyV Try.prog 48 (prQ (x, y)) := by
  have hs : Try.prog.keyType 48 = true := by kernel_rfl
  have hc : Try.prog.cellsOf 3 = 1 := by kernel_rfl
  have hc4 : Try.prog.cellsOf 48 = 2 := by kernel_rfl
  have hf : (prQ (x, y)).formed Try.prog 48 = true := by
    unfold Value.formed prQ
    simp only []
    rw [Try.underlying48, hc4]
    rfl
  obtain ⟨n, hz⟩ : ∃ n, Try.prog.types.size = n + 1 := ⟨Try.prog.types.size - 1, by kernel_rfl⟩
  unfold KeyV keyOf
  rw [Try.underlying48]
  simp only [hs, hf, Bool.and_self, if_true]
  unfold Program.keyLits
  rw [Try.underlying48, hz]
  simp [prQ, Value.cells, hc4, hc, key_litQ n (wfQ h0), key_litQ n (wfQ h1), List.range_succ]

theorem zero_boolQ (w : World) : (zeroValue 4).run Try.prog w = .ok (.bool false) w := by kernel_rfl

/-- block b is a map of these pairs -/
def OwnL (w : World) (b : Nat) (L : List (Nat × Nat)) : Prop := L.Nodup ∧ OwnS Try.prog 48 w b (fun v => ∃ p ∈ L, v = prQ p)

theorem OwnL.lt {w : World} {b : Nat} {L : List (Nat × Nat)} (h : OwnL w b L) : b < w.heap.size := h.2.lt

theorem OwnL.keep {w w' : World} {b : Nat} {L : List (Nat × Nat)} (h : OwnL w b L) (hb : w'.heap[b]? = w.heap[b]?) : OwnL w' b L := ⟨h.1, h.2.keep hb⟩

theorem OwnL.below {w w' : World} {b B : Nat} {L : List (Nat × Nat)} (h : OwnL w b L) (hb : Below B w w') (hB : b < B) : OwnL w' b L := h.keep (hb.block b hB)

theorem OwnL.alloc {w : World} {b : Nat} {L : List (Nat × Nat)} (h : OwnL w b L) (o : Obj) : OwnL (w.alloc o) b L := h.keep (Below.heap_alloc w o b h.lt)

theorem OwnL.new (w : World) : OwnL (w.alloc (.map #[] 0)) w.heap.size [] := ⟨List.nodup_nil, (OwnS.new w).same fun x => ⟨fun h => h.elim, fun ⟨p, hp, _⟩ => by cases hp⟩⟩

theorem OwnL.look {w : World} {b : Nat} {L : List (Nat × Nat)} (h : OwnL w b L) {p : Nat × Nat} {q : Bool} (hq : decide (p ∈ L) = q) : q = true ↔ ∃ x ∈ L, prQ p = prQ x := by
  rw [← hq, decide_eq_true_eq]
  exact ⟨fun h => ⟨p, h, rfl⟩, fun ⟨x, hx, e⟩ => by rw [prQ_inj e]; exact hx⟩

theorem OwnL.run {w : World} {b : Nat} {L : List (Nat × Nat)} (h : OwnL w b L) {x y : Nat} (hx : x < 9223372036854775808) (hy : y < 9223372036854775808) {q : Bool} (hq : decide ((x, y) ∈ L) = q) :
    (Instr.lookup 47 (.map (some b)) (.agg #[.int .i64 (x : Int), .int .i64 (y : Int)]) false).run Try.prog w = .ok (.bool q) w := run_look_set pairQ_keyed Try.underlying47 h.2 (zero_boolQ w) (pairQ_key hx hy) (h.look hq)

theorem OwnL.put {w w' : World} {b : Nat} {L : List (Nat × Nat)} (h : OwnL w b L) {p : Nat × Nat} (hs : OwnS Try.prog 48 w' b (fun x => (∃ p ∈ L, x = prQ p) ∨ x = prQ p)) : OwnL w' b (insP L p) :=
  ⟨((GrP.refl h.1).put).nd, hs.same fun x => ⟨fun q => q.elim (fun ⟨y, hy, e⟩ => ⟨y, insP_sub hy, e⟩) fun e => ⟨p, insP_self, e⟩, fun ⟨y, hy, e⟩ => (insP_mem.1 hy).elim (fun hy => .inl ⟨y, hy, e⟩) fun e2 => .inr (by rw [e, e2])⟩⟩

/-- how many entries a map has -/
def mapLen (w : World) (b : Nat) : Nat := match w.heap[b]? with | some (.map es _) => es.size | _ => 0

theorem OwnL.entries {w : World} {b : Nat} {L : List (Nat × Nat)} (h : OwnL w b L) : ∃ (ms : List MapEntry) (clock : Nat), w.heap[b]? = some (.map ms.toArray clock) ∧ ms.length = L.length := by
  obtain ⟨hn, ms, clock, hb, _, hd, hS⟩ := h
  refine ⟨ms, clock, hb, ?_⟩
  have h2 : (L.map prQ).Nodup := by
    unfold List.Nodup
    rw [List.pairwise_map]
    exact List.Pairwise.imp (fun {a b} hne he => hne (prQ_inj he)) hn
  have hp := (List.perm_ext_iff_of_nodup hd h2).2 fun v => by
    rw [List.mem_map, List.mem_map]
    constructor
    · rintro ⟨e, he, rfl⟩
      obtain ⟨p, hp, e2⟩ := (hS e.key).2 ⟨e, he, rfl⟩
      exact ⟨p, hp, e2.symm⟩
    · rintro ⟨p, hp, rfl⟩
      exact (hS (prQ p)).1 ⟨p, hp, rfl⟩
  simpa using hp.length_eq

theorem OwnL.len {w : World} {b : Nat} {L : List (Nat × Nat)} (h : OwnL w b L) : mapLen w b = L.length := by
  obtain ⟨ms, clock, hb, hl⟩ := h.entries
  unfold mapLen
  rw [hb]
  simpa using hl

set_option maxHeartbeats 2000000 in
theorem putW_any (bt bm bf : Nat) (L : List (Nat × Nat)) (x y : Nat) (fl : Bool) (w : World) (hT : Own w bt 47 [.map (some bm)]) (hM : OwnL w bm L) (hF : Own w bf 4 [.bool fl]) (d1 : bt ≠ bm) (d2 : bf ≠ bm) (hx : x < 8) (hy : y < 8) :
    Calls Try.prog 25 #[.int .i64 (x : Int), .int .i64 (y : Int), .pointer (some ⟨bt, 0, none⟩), .pointer (some ⟨bf, 0, none⟩)] w fun e w' => e = .returned (.tuple #[]) ∧ OwnL w' bm (insP L (x, y)) ∧ Own w' bf 4 [.bool (fl || !decide ((x, y) ∈ L))] ∧ Wrote2 bm bf w w' := by
  have hc := hT.cell (j := 0) rfl
  have hcf := hF.cell (j := 0) rfl
  have hff := hF.frozen 0
  have hk : KeyV Try.prog 48 (prQ (x, y)) := pairQ_key (by omega) (by omega)
  have HM := Lib.hid hM
  have HF := Lib.hid hF
  have HT := Lib.hid hT
  have HK := Lib.hid hk
  by_cases h : (x, y) ∈ L
  · have HQ := Lib.hid (hM.look (decide_eq_true h))
    have HI := Lib.hid (insP_old h)
    have HD : Hid (decide ((x, y) ∈ L) = true) := Lib.hid (by simp [h])
    clear hM hF hT h hk
    go_enter Try.func25, Try.ntmps25
    go_wp2_with (at_lookup; refine wpList_look_set rfl (.tmp 6) (.tmp 9) 47 rfl pairQ_keyed Try.underlying47 rfl HM.out.2 zero_boolQ rfl HK.out HQ.out ?_)
    go_end0
    exact ⟨rfl, by rw [HI.out]; exact HM.out, by rw [HD.out, Bool.not_true, Bool.or_false]; exact HF.out, Wrote2.refl _⟩
  · have HQ := Lib.hid (hM.look (decide_eq_false h))
    have HD : Hid (decide ((x, y) ∈ L) = false) := Lib.hid (by simp [h])
    clear hM hF hT h hk
    go_enter Try.func25, Try.ntmps25
    go_wp2_with (first
      | (at_lookup; refine wpList_look_set rfl (.tmp 6) (.tmp 9) 47 rfl pairQ_keyed Try.underlying47 rfl HM.out.2 zero_boolQ rfl HK.out HQ.out ?_)
      | (at_mapUpdate; refine wpList_put_set rfl (.tmp 12) (.tmp 15) (.const (.bool true)) 47 rfl pairQ_keyed Try.underlying47 rfl HM.out.2 rfl rfl HK.out ?_; intro w5 hm5 hT5; have hF5 := hT5.own d2 HF.out; have hcf5 := hF5.cell (j := 0) rfl; have hff5 := hF5.frozen 0))
    go_end0
    have hO5 := (HM.out.put (p := (x, y)) hm5)
    exact ⟨rfl, hO5.keep (Below.heap_setCell _ _ _ _ (by simpa using d2.symm)), by rw [HD.out, Bool.not_false, Bool.or_true]; exact Own.set hF5 0 (.bool true), (Wrote2.turned hT5).set (p := ⟨bf, 0, none⟩) (.inr rfl) _⟩

end Go.Proofs.Ytfbnmgnkigfgpaa
