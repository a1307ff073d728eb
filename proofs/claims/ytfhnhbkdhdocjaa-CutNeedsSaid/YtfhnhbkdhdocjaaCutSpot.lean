/-
  codemasonref.needs (T1): places from which one comes to what is needed: no program's text but the reference's.
-/
import Derived.Test.YtfhnhbkdhdocjaaLiveLive
import Derived.Test.YtfhnhbkdhdocjaaMCut
namespace Go.Proofs.Ytfhnhbkdhdocjaa
open Go.RowKit
set_option linter.unusedSimpArgs false
set_option linter.unusedVariables false
set_option maxRecDepth 100000

theorem lvM_closed {p : List Bk} {want v : Nat} {MS : Nat → Nat → Prop} {MT : Nat → Prop} {S : Nat × Nat → Prop} (hu : ∀ x, S x → ¬ UsM p want MS MT v x) (hn : ∀ x y, S x → Nx p v x y → S y) {x : Nat × Nat} (h : LvM p want MS MT v x) : ¬ S x := by
  induction h with
  | here h1 => exact fun hs => hu _ hs h1
  | on h1 _ ih => exact fun hs => ih (hn _ _ hs h1)

theorem usM_step {p : List Bk} {want v i k : Nat} {MS : Nat → Nat → Prop} {MT : Nat → Prop} {b : Bk} {s : St} (hb : p[i]? = some b) (hs : b.code[k]? = some s) : UsM p want MS MT v (i, k) ↔ MS i k ∧ UsesS s v := by
  constructor
  · rintro ⟨b', hb', ⟨s', hs', hm, hu⟩ | ⟨hk, _⟩⟩
    · rw [hb] at hb'
      injection hb' with hb'
      subst hb'
      rw [hs] at hs'
      injection hs' with hs'
      subst hs'
      exact ⟨hm, hu⟩
    · rw [hb] at hb'
      injection hb' with hb'
      subst hb'
      have := (List.getElem?_eq_some_iff.1 hs).1
      simp only [] at hk
      omega
  · exact fun hu => ⟨b, hb, .inl ⟨s, hs, hu⟩⟩

theorem usM_end {p : List Bk} {want v i : Nat} {MS : Nat → Nat → Prop} {MT : Nat → Prop} {b : Bk} (hb : p[i]? = some b) : UsM p want MS MT v (i, b.code.length) ↔ ((b.test = (v : Int) ∧ MT i) ∨ (b.test = -1 ∧ b.th = -1 ∧ want.testBit v = true)) := by
  constructor
  · rintro ⟨b', hb', ⟨s', hs', hu⟩ | ⟨hk, hu⟩⟩
    · rw [hb] at hb'
      injection hb' with hb'
      subst hb'
      have := (List.getElem?_eq_some_iff.1 hs').1
      simp only [] at this
      omega
    · rw [hb] at hb'
      injection hb' with hb'
      subst hb'
      exact hu
  · exact fun hu => ⟨b, hb, .inr ⟨rfl, hu⟩⟩

/-- places so far -/
structure HsM (p : List Bk) (want : Nat) (MS : Nat → Nat → Prop) (MT : Nat → Prop) (v : Nat) (st : Nat × Nat) (hs : List (Nat × Nat)) : Prop where
  inn : ∀ x ∈ hs, SpIn p x
  nd : hs.Nodup
  here : st ∈ hs
  lv : ∀ x ∈ hs, LvM p want MS MT v x → LvM p want MS MT v st

theorem HsM.start {p : List Bk} {want v : Nat} {MS : Nat → Nat → Prop} {MT : Nat → Prop} {st : Nat × Nat} (h : SpIn p st) : HsM p want MS MT v st [st] := ⟨fun x hx => by simp at hx; subst hx; exact h, by simp, by simp, fun x hx => by simp at hx; subst hx; exact id⟩

theorem HsM.add {p : List Bk} {want v : Nat} {MS : Nat → Nat → Prop} {MT : Nat → Prop} {st x y : Nat × Nat} {hs : List (Nat × Nat)} (h : HsM p want MS MT v st hs) (hx : x ∈ hs) (hn : Nx p v x y) (hy : SpIn p y) : HsM p want MS MT v st (addP hs y) := by
  refine ⟨fun z hz => ?_, ?_, addP_mem.2 (.inl h.here), fun z hz => ?_⟩
  · rcases addP_mem.1 hz with hz | rfl
    · exact h.inn z hz
    · exact hy
  · unfold addP
    split
    · exact h.nd
    · rename_i hni
      rw [List.nodup_append]
      exact ⟨h.nd, by simp, fun a ha b hb e => by simp at hb; subst hb e; exact hni ha⟩
  · rcases addP_mem.1 hz with hz | rfl
    · exact h.lv z hz
    · exact fun hl => h.lv x hx (.on hn hl)

theorem HsM.len {n : Nat} {p : List Bk} {want v : Nat} {MS : Nat → Nat → Prop} {MT : Nat → Prop} {st : Nat × Nat} {hs : List (Nat × Nat)} (h : HsM p want MS MT v st hs) (hc : ckProg n p = 0) : hs.length ≤ 168 := by
  obtain ⟨_, _, _, h4, h5, _⟩ := ckProg_bd hc
  have hb : ∀ x ∈ hs, x.1 < 8 ∧ x.2 ≤ 20 := fun x hx => by
    obtain ⟨b, hb, hk⟩ := h.inn x hx
    have h1 := (List.getElem?_eq_some_iff.1 hb).1
    have h2 := manyS_le hb
    omega
  have hd : (hs.map fun x => x.1 * 21 + x.2).Nodup := by
    unfold List.Nodup
    rw [List.pairwise_map]
    refine List.Pairwise.imp_of_mem (fun {a b} ha hb' hne he => ?_) h.nd
    have h1 := hb a ha
    have h2 := hb b hb'
    refine hne (Prod.ext ?_ ?_) <;> omega
  have := nodup_len (n := 168) hd (fun x hx => by
    obtain ⟨y, hy, rfl⟩ := List.mem_map.1 hx
    have := hb y hy
    omega)
  simpa using this

/-- the first k places are worked off -/
def DnM (p : List Bk) (want : Nat) (MS : Nat → Nat → Prop) (MT : Nat → Prop) (v : Nat) (hs : List (Nat × Nat)) (k : Nat) : Prop := ∀ m x, m < k → hs[m]? = some x → ¬ UsM p want MS MT v x ∧ ∀ y, Nx p v x y → y ∈ hs

theorem DnM.zero (p : List Bk) (want : Nat) (MS : Nat → Nat → Prop) (MT : Nat → Prop) (v : Nat) (hs : List (Nat × Nat)) : DnM p want MS MT v hs 0 := fun m x h => by omega

theorem DnM.grow {p : List Bk} {want v : Nat} {MS : Nat → Nat → Prop} {MT : Nat → Prop} {hs hs' : List (Nat × Nat)} {k : Nat} (h : DnM p want MS MT v hs k) (hk : k ≤ hs.length) (hp : ∀ (m : Nat) (x : Nat × Nat), hs[m]? = some x → hs'[m]? = some x) : DnM p want MS MT v hs' k := fun m x hm hx => by
  have hml : m < hs.length := by omega
  have h0 := List.getElem?_eq_getElem hml
  have h1 := hp m _ h0
  rw [hx] at h1
  injection h1 with h1
  rw [← h1] at h0
  obtain ⟨h2, h3⟩ := h m x hm h0
  refine ⟨h2, fun y hy => ?_⟩
  obtain ⟨j, hj, he⟩ := List.getElem_of_mem (h3 y hy)
  exact List.mem_of_getElem? (hp j y (by rw [List.getElem?_eq_getElem hj, he]))

theorem DnM.succ {p : List Bk} {want v : Nat} {MS : Nat → Nat → Prop} {MT : Nat → Prop} {hs : List (Nat × Nat)} {k : Nat} {x : Nat × Nat} (h : DnM p want MS MT v hs k) (hk : hs[k]? = some x) (hu : ¬ UsM p want MS MT v x) (hn : ∀ y, Nx p v x y → y ∈ hs) : DnM p want MS MT v hs (k + 1) := fun m z hm hz => by
  rcases Nat.lt_or_ge m k with h1 | h1
  · exact h m z h1 hz
  · have e : m = k := by omega
    subst e
    rw [hk] at hz
    injection hz with hz
    subst hz
    exact ⟨hu, hn⟩

theorem DnM.no {p : List Bk} {want v : Nat} {MS : Nat → Nat → Prop} {MT : Nat → Prop} {st : Nat × Nat} {hs : List (Nat × Nat)} (h : HsM p want MS MT v st hs) (hd : DnM p want MS MT v hs hs.length) : ¬ LvM p want MS MT v st := fun hl => by
  refine lvM_closed (S := fun x => x ∈ hs) (fun x hx => ?_) (fun x y hx hn => ?_) hl h.here
  · obtain ⟨m, hm, rfl⟩ := List.getElem_of_mem hx
    exact (hd m _ hm (List.getElem?_eq_getElem hm)).1
  · obtain ⟨m, hm, rfl⟩ := List.getElem_of_mem hx
    exact (hd m _ hm (List.getElem?_eq_getElem hm)).2 y hn

theorem HsM.addJ {p : List Bk} {want v : Nat} {MS : Nat → Nat → Prop} {MT : Nat → Prop} {st x : Nat × Nat} : ∀ {js : List Int} {hs : List (Nat × Nat)}, HsM p want MS MT v st hs → x ∈ hs → (∀ j ∈ js, ∃ y, y = (j.toNat, 0) ∧ Nx p v x y ∧ SpIn p y) → HsM p want MS MT v st (addJ hs js)
  | [], _, h, _, _ => h
  | j :: js, hs, h, hx, hj => by
    obtain ⟨y, rfl, hn, hy⟩ := hj j (List.mem_cons_self ..)
    exact HsM.addJ (js := js) (h.add hx hn hy) (addP_mem.2 (.inl hx)) (fun i hi => hj i (List.mem_cons_of_mem _ hi))

end Go.Proofs.Ytfhnhbkdhdocjaa
