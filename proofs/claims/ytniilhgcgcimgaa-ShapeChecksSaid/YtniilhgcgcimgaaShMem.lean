/-
  Shapes in memory: lists of shapes read; made of records of the call's own.
-/
import Derived.Test.YtniilhgcgcimgaaPureShape
import Derived.Test.YtniilhgcgcimgaaPureShapeB
import Derived.Test.YtniilhgcgcimgaaMOpen
import Derived.Test.YtniilhgcgcimgaaMReg
import Derived.Laws.ResultCell
namespace Go.Proofs.Ytniilhgcgcimgaa
open Go.RowKit
set_option linter.unusedSimpArgs false
set_option linter.unusedVariables false
set_option maxRecDepth 100000

theorem leH {L : List Nat} {p j : Nat} (h : doneL L p j = false) : p ≤ L.getD j 0 - 1 := by
  unfold doneL at h
  simp only [decide_eq_false_iff_not] at h
  omega

theorem geH {L : List Nat} {p j : Nat} (h : doneL L p j = true) : L.getD j 0 ≤ p := by
  unfold doneL at h
  simpa using h

/-- steps, in a block from lo on -/
def RdSL (w : World) (lo B : Nat) (A : Option Addr) (l : List St) : Prop := RdS w B A l ∧ ∀ ad, A = some ad → lo ≤ ad.block

theorem RdSL.keep {w w' : World} {lo B : Nat} {A : Option Addr} {l : List St} (h : RdSL w lo B A l) (hk : ∀ b, lo ≤ b → b < B → w'.heap[b]? = w.heap[b]?) : RdSL w' lo B A l := by
  refine ⟨fun hm => ?_, h.2⟩
  obtain ⟨ad, e, hb, hc⟩ := h.1 hm
  refine ⟨ad, e, hb, fun j hj => ?_⟩
  rw [← hc j hj]
  refine World.cell?_of_block ?_
  rw [addr_add_block]
  exact hk _ (h.2 ad e) hb

theorem RdSL.more {w : World} {lo lo' B B' : Nat} {A : Option Addr} {l : List St} (h : RdSL w lo B A l) (hl : lo' ≤ lo) (hB : B ≤ B') : RdSL w lo' B' A l := ⟨h.1.more hB, fun ad e => Nat.le_trans hl (h.2 ad e)⟩

/-- a list of shapes, from number k of the slice on, in blocks from lo on -/
def RdH (w : World) (lo B : Nat) : Sh → Option Addr → Nat → Prop
  | .nil => fun _ _ => True
  | .cons kd ts cd th el r => fun A k => ∃ (ad : Addr) (Ac At Ae : Option Addr) (cc ct ce : Nat), A = some ad ∧ (lo ≤ ad.block ∧ ad.block < B) ∧ w.cell? (ad.add (k * 5)) = some (.int .i64 kd) ∧
      w.cell? ⟨(ad.add (k * 5)).block, (ad.add (k * 5)).off + 1, none⟩ = some (.int .i64 ts) ∧ w.cell? ⟨(ad.add (k * 5)).block, (ad.add (k * 5)).off + 2, none⟩ = some (.slice Ac cd.length cc) ∧
      w.cell? ⟨(ad.add (k * 5)).block, (ad.add (k * 5)).off + 3, none⟩ = some (.slice At th.len ct) ∧ w.cell? ⟨(ad.add (k * 5)).block, (ad.add (k * 5)).off + 4, none⟩ = some (.slice Ae el.len ce) ∧
      RdSL w lo B Ac cd ∧ RdH w lo B th At 0 ∧ RdH w lo B el Ae 0 ∧ RdH w lo B r A (k + 1)

theorem RdH.keep {w w' : World} {lo B : Nat} (hk : ∀ b, lo ≤ b → b < B → w'.heap[b]? = w.heap[b]?) : ∀ {l : Sh} {A : Option Addr} {k : Nat}, RdH w lo B l A k → RdH w' lo B l A k
  | .nil, _, _, _ => trivial
  | .cons kd ts cd th el r, A, k, h => by
    obtain ⟨ad, Ac, At, Ae, cc, ct, ce, e, h1, c0, c1, c2, c3, c4, h2, h3, h4, h5⟩ := h
    have hbl : ∀ p : Addr, p.block = ad.block → w'.cell? p = w.cell? p := fun p hp => World.cell?_of_block (by rw [hp]; exact hk _ h1.1 h1.2)
    have hk0 : (ad.add (k * 5)).block = ad.block := addr_add_block ..
    exact ⟨ad, Ac, At, Ae, cc, ct, ce, e, h1, (hbl _ hk0).trans c0, (hbl ⟨(ad.add (k * 5)).block, (ad.add (k * 5)).off + 1, none⟩ hk0).trans c1, (hbl ⟨(ad.add (k * 5)).block, (ad.add (k * 5)).off + 2, none⟩ hk0).trans c2,
      (hbl ⟨(ad.add (k * 5)).block, (ad.add (k * 5)).off + 3, none⟩ hk0).trans c3, (hbl ⟨(ad.add (k * 5)).block, (ad.add (k * 5)).off + 4, none⟩ hk0).trans c4, h2.keep hk, RdH.keep hk h3, RdH.keep hk h4, RdH.keep hk h5⟩

theorem RdH.more {w : World} {lo lo' B B' : Nat} (hl : lo' ≤ lo) (hB : B ≤ B') : ∀ {l : Sh} {A : Option Addr} {k : Nat}, RdH w lo B l A k → RdH w lo' B' l A k
  | .nil, _, _, _ => trivial
  | .cons kd ts cd th el r, A, k, h => by
    obtain ⟨ad, Ac, At, Ae, cc, ct, ce, e, h1, c0, c1, c2, c3, c4, h2, h3, h4, h5⟩ := h
    exact ⟨ad, Ac, At, Ae, cc, ct, ce, e, ⟨by omega, by omega⟩, c0, c1, c2, c3, c4, h2.more hl hB, RdH.more hl hB h3, RdH.more hl hB h4, RdH.more hl hB h5⟩

theorem RdH.below {w w' : World} {lo B B' : Nat} (hb : Below B' w w') (hB : B ≤ B') {l : Sh} {A : Option Addr} {k : Nat} (h : RdH w lo B l A k) : RdH w' lo B l A k := RdH.keep (fun b _ hb2 => hb.block b (by omega)) h

/-- in a later world -/
theorem RdH.up {w w' : World} {lo : Nat} {l : Sh} {A : Option Addr} {k : Nat} (h : RdH w lo w.heap.size l A k) (hb : Below w.heap.size w w') : RdH w' lo w'.heap.size l A k := RdH.more (Nat.le_refl _) hb.size (RdH.below hb (Nat.le_refl _) h)

theorem RdS.up {w w' : World} {l : List St} {A : Option Addr} (h : RdS w w.heap.size A l) (hb : Below w.heap.size w w') : RdS w' w'.heap.size A l := (RdS.below h hb (Nat.le_refl _)).more hb.size

theorem RdSL.up {w w' : World} {lo : Nat} {l : List St} {A : Option Addr} (h : RdSL w lo w.heap.size A l) (hb : Below w.heap.size w w') : RdSL w' lo w'.heap.size A l := (h.keep fun b _ hb2 => hb.block b hb2).more (Nat.le_refl _) hb.size

theorem RdSL.nil (w : World) (lo B : Nat) : RdSL w lo B Option.none [] := ⟨fun h => by simp at h, fun _ h => by cases h⟩

theorem rdSL_own {w : World} {base : Nat} {e : TypeId} {A : Option Addr} {n c : Nat} {l : List St} (h : w.ownsRow base e 5 (.slice A n c) n (rv cSt l)) (hn : l.length = n) : RdSL w base w.heap.size A l := by
  refine ⟨own_rdR h hn, fun ad e => ?_⟩
  subst e
  rcases h.2 with ⟨hv, _⟩ | ⟨g, cap, cur, hv, h1, _⟩
  · cases hv
  · injection hv with hv
    injection hv with hv
    rw [hv]
    exact h1

theorem RdH.drop {w : World} {lo B : Nat} : ∀ {l : Sh} {A : Option Addr} {i : Nat} (k : Nat), RdH w lo B l A i → RdH w lo B (l.drop k) A (i + k)
  | .nil, A, i, k, h => by cases k <;> exact trivial
  | .cons kd ts cd th el r, A, i, 0, h => by rw [Sh.drop_zero]; exact h
  | .cons kd ts cd th el r, A, i, k + 1, h => by
    obtain ⟨ad, Ac, At, Ae, cc, ct, ce, e, h1, c0, c1, c2, c3, c4, h2, h3, h4, h5⟩ := h
    have := RdH.drop k h5
    simp only [Sh.drop]
    rw [show i + (k + 1) = i + 1 + k by omega]
    exact this

/-- number k -/
theorem RdH.at_ {w : World} {lo B : Nat} {l : Sh} {A : Option Addr} {k : Nat} (h : RdH w lo B l A 0) (hk : k < l.len) : ∃ (ad : Addr) (kd ts : Int) (cd : List St) (th el : Sh) (Ac At Ae : Option Addr) (cc ct ce : Nat),
      A = some ad ∧ (ad.add (k * 5)).block < B ∧ l.drop k = .cons kd ts cd th el (l.drop (k + 1)) ∧ w.cell? (ad.add (k * 5)) = some (.int .i64 kd) ∧
      w.cell? ⟨(ad.add (k * 5)).block, (ad.add (k * 5)).off + 1, none⟩ = some (.int .i64 ts) ∧ w.cell? ⟨(ad.add (k * 5)).block, (ad.add (k * 5)).off + 2, none⟩ = some (.slice Ac cd.length cc) ∧
      w.cell? ⟨(ad.add (k * 5)).block, (ad.add (k * 5)).off + 3, none⟩ = some (.slice At th.len ct) ∧ w.cell? ⟨(ad.add (k * 5)).block, (ad.add (k * 5)).off + 4, none⟩ = some (.slice Ae el.len ce) ∧
      RdS w B Ac cd ∧ RdH w lo B th At 0 ∧ RdH w lo B el Ae 0 := by
  have h0 := RdH.drop k h
  obtain ⟨kd, ts, cd, th, el, e⟩ := Sh.drop_lt hk
  rw [e, Nat.zero_add] at h0
  obtain ⟨ad, Ac, At, Ae, cc, ct, ce, e1, h1, c0, c1, c2, c3, c4, h2, h3, h4, h5⟩ := h0
  exact ⟨ad, kd, ts, cd, th, el, Ac, At, Ae, cc, ct, ce, e1, by rw [addr_add_block]; exact h1.2, e, c0, c1, c2, c3, c4, h2.1, h3, h4⟩

theorem RdH.none {w : World} {lo B : Nat} {l : Sh} {k : Nat} (h : RdH w lo B l Option.none k) : l = .nil := by
  cases l with
  | nil => rfl
  | cons => obtain ⟨ad, _, _, _, _, _, _, e, _⟩ := h; cases e

/-! ### Made -/

/-- a shape as it lies -/
structure Se where
  kd : Int
  ts : Int
  cd : List St
  Ac : Option Addr
  cc : Nat
  th : Sh
  At : Option Addr
  ct : Nat
  el : Sh
  Ae : Option Addr
  ce : Nat

def cSe (e : Se) : List Value := [.int .i64 e.kd, .int .i64 e.ts, .slice e.Ac e.cd.length e.cc, .slice e.At e.th.len e.ct, .slice e.Ae e.el.len e.ce]

theorem cSe_len (e : Se) : (cSe e).length = 5 := rfl

theorem cSe_one (e : Se) : ∀ u ∈ cSe e, u.oneCell' = true := fun u hu => by
  simp [cSe] at hu
  rcases hu with rfl | rfl | rfl | rfl | rfl <;> rfl

def shL : List Se → Sh
  | [] => .nil
  | e :: r => .cons e.kd e.ts e.cd e.th e.el (shL r)

theorem shL_len : ∀ es : List Se, (shL es).len = es.length
  | [] => rfl
  | e :: r => by simp [shL, Sh.len, shL_len r]

def SeOk (w : World) (lo B : Nat) (e : Se) : Prop := RdSL w lo B e.Ac e.cd ∧ RdH w lo B e.th e.At 0 ∧ RdH w lo B e.el e.Ae 0

theorem SeOk.up {w w' : World} {lo : Nat} {e : Se} (h : SeOk w lo w.heap.size e) (hb : Below w.heap.size w w') : SeOk w' lo w'.heap.size e := ⟨h.1.up hb, h.2.1.up hb, h.2.2.up hb⟩

theorem SeOk.keep {w w' : World} {lo B : Nat} {e : Se} (h : SeOk w lo B e) (hk : ∀ b, lo ≤ b → b < B → w'.heap[b]? = w.heap[b]?) : SeOk w' lo B e := ⟨h.1.keep hk, h.2.1.keep hk, h.2.2.keep hk⟩

theorem SeOk.more {w : World} {lo lo' B B' : Nat} {e : Se} (h : SeOk w lo B e) (hl : lo' ≤ lo) (hB : B ≤ B') : SeOk w lo' B' e := ⟨h.1.more hl hB, h.2.1.more hl hB, h.2.2.more hl hB⟩

theorem rdH_from {w : World} {lo B : Nat} {ad : Addr} (hb : lo ≤ ad.block ∧ ad.block < B) : ∀ (es : List Se) (k : Nat), (∀ j u, (rv cSe es)[j]? = some u → w.cell? (ad.add (k * 5 + j)) = some u) → (∀ e ∈ es, SeOk w lo B e) → RdH w lo B (shL es) (some ad) k
  | [], k, _, _ => trivial
  | e :: r, k, hc, ho => by
    obtain ⟨o1, o2, o3⟩ := ho e (List.mem_cons_self ..)
    have hcc : ∀ (i : Nat) (u : Value), (cSe e)[i]? = some u → w.cell? ((ad.add (k * 5)).add i) = some u := fun i u hu => by
      rw [addr_add_add]
      refine hc i u ?_
      rw [show e :: r = [e] ++ r from rfl, rv_append, rv_one, List.getElem?_append_left (List.getElem?_eq_some_iff.1 hu).1]
      exact hu
    refine ⟨ad, e.Ac, e.At, e.Ae, e.cc, e.ct, e.ce, rfl, hb, ?_, hcc 1 _ rfl, hcc 2 _ rfl, hcc 3 _ rfl, hcc 4 _ rfl, o1, o2, o3, rdH_from hb r (k + 1) (fun j u hu => ?_) fun x hx => ho x (List.mem_cons_of_mem _ hx)⟩
    · have := hcc 0 _ rfl
      rwa [addr_add_add, Nat.add_zero] at this
    · have := hc (5 + j) u (by
        rw [show e :: r = [e] ++ r from rfl, rv_append, rv_one, List.getElem?_append_right (by rw [cSe_len]; omega), cSe_len, Nat.add_sub_cancel_left]
        exact hu)
      rwa [show (k + 1) * 5 + j = k * 5 + (5 + j) by omega]

theorem own_block {w : World} {base : Nat} {e : TypeId} {size : Nat} {ad : Addr} {n c : Nat} {xs : List Value} (h : w.ownsRow base e size (.slice (some ad) n c) n xs) : base ≤ ad.block := by
  rcases h.2 with ⟨hv, _⟩ | ⟨g, cap, cur, hv, h1, _⟩
  · cases hv
  · injection hv with hv
    injection hv with hv
    rw [hv]
    exact h1

theorem rdH_own {w : World} {base : Nat} {e : TypeId} {A : Option Addr} {n c : Nat} {es : List Se} (h : w.ownsRow base e 5 (.slice A n c) n (rv cSe es)) (hn : es.length = n) (ho : ∀ x ∈ es, SeOk w base w.heap.size x) : RdH w base w.heap.size (shL es) A 0 := by
  cases es with
  | nil => exact trivial
  | cons e r =>
    have hr := own_rdR (c := cSe) h hn
    obtain ⟨ad, _, hA, hb, _⟩ := RdR.cell cSe_len (by omega) hr (k := 0) (by simp)
    subst hA
    refine rdH_from ⟨own_block h, by rw [addr_add_block] at hb; exact hb⟩ (e :: r) 0 (fun j u hu => ?_) ho
    rw [Nat.zero_mul, Nat.zero_add]
    exact RdR.news cSe_len hr ad rfl j u hu

/-- a literal -/
theorem rdH_lit {X w : World} {lo : Nat} {t : TypeId} {es : List Se} (h : Own w X.heap.size t (rv cSe es)) (hlo : lo ≤ X.heap.size) (ho : ∀ x ∈ es, SeOk w lo w.heap.size x) : RdH w lo w.heap.size (shL es) (some ⟨X.heap.size, 0, Option.none⟩) 0 := by
  refine rdH_from ⟨hlo, h.lt⟩ es 0 (fun j u hu => ?_) ho
  rw [Nat.zero_mul, Nat.zero_add]
  have ha : (⟨X.heap.size, 0, Option.none⟩ : Addr).add j = ⟨X.heap.size, j, Option.none⟩ := by unfold Addr.add; split <;> simp_all
  rw [ha]
  exact h.cell hu

end Go.Proofs.Ytniilhgcgcimgaa
