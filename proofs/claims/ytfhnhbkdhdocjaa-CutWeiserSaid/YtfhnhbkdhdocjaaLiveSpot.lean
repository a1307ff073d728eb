/-
  codemasonref.Live (K1): is a variable live at a place?
-/
import Derived.Test.YtfhnhbkdhdocjaaLiveRef
import Derived.Deep.RegionWith
namespace Go.Proofs.Ytfhnhbkdhdocjaa
open Go.RowKit
set_option linter.unusedSimpArgs false
set_option linter.unusedVariables false
set_option maxRecDepth 100000

/-- a place of a program -/
def SpIn (p : List Bk) (x : Nat × Nat) : Prop := ∃ b, p[x.1]? = some b ∧ x.2 ≤ b.code.length

/-- places so far -/
structure Hs (p : List Bk) (want v : Nat) (st : Nat × Nat) (hs : List (Nat × Nat)) : Prop where
  inn : ∀ x ∈ hs, SpIn p x
  nd : hs.Nodup
  here : st ∈ hs
  lv : ∀ x ∈ hs, Lv p want v x → Lv p want v st

theorem Hs.start {p : List Bk} {want v : Nat} {st : Nat × Nat} (h : SpIn p st) : Hs p want v st [st] := ⟨fun x hx => by simp at hx; subst hx; exact h, by simp, by simp, fun x hx => by simp at hx; subst hx; exact id⟩

theorem Hs.add {p : List Bk} {want v : Nat} {st x y : Nat × Nat} {hs : List (Nat × Nat)} (h : Hs p want v st hs) (hx : x ∈ hs) (hn : Nx p v x y) (hy : SpIn p y) : Hs p want v st (addP hs y) := by
  refine ⟨fun z hz => ?_, ?_, addP_mem.2 (.inl h.here), fun z hz => ?_⟩
  · rcases addP_mem.1 hz with hz | rfl
    · exact h.inn z hz
    · exact hy
  · unfold addP
    split
    · exact h.nd
    · rename_i hni
      rw [List.nodup_append]
      exact ⟨h.nd, by simp, fun a ha b hb e => by simp at hb; subst hb e; exact hni ha⟩
  · rcases addP_mem.1 hz with hz | rfl
    · exact h.lv z hz
    · exact fun hl => h.lv x hx (.on hn hl)

theorem Hs.len {n : Nat} {p : List Bk} {want v : Nat} {st : Nat × Nat} {hs : List (Nat × Nat)} (h : Hs p want v st hs) (hc : ckProg n p = 0) : hs.length ≤ 168 := by
  obtain ⟨_, _, _, h4, h5, _⟩ := ckProg_bd hc
  have hb : ∀ x ∈ hs, x.1 < 8 ∧ x.2 ≤ 20 := fun x hx => by
    obtain ⟨b, hb, hk⟩ := h.inn x hx
    have h1 := (List.getElem?_eq_some_iff.1 hb).1
    have h2 := manyS_le hb
    omega
  have hd : (hs.map fun x => x.1 * 21 + x.2).Nodup := by
    unfold List.Nodup
    rw [List.pairwise_map]
    refine List.Pairwise.imp_of_mem (fun {a b} ha hb' hne he => ?_) h.nd
    have h1 := hb a ha
    have h2 := hb b hb'
    refine hne (Prod.ext ?_ ?_) <;> omega
  have := nodup_len (n := 168) hd (fun x hx => by
    obtain ⟨y, hy, rfl⟩ := List.mem_map.1 hx
    have := hb y hy
    omega)
  simpa using this

/-- the first k places are worked off -/
def Dn (p : List Bk) (want v : Nat) (hs : List (Nat × Nat)) (k : Nat) : Prop := ∀ m x, m < k → hs[m]? = some x → ¬ Us p want v x ∧ ∀ y, Nx p v x y → y ∈ hs

theorem Dn.zero (p : List Bk) (want v : Nat) (hs : List (Nat × Nat)) : Dn p want v hs 0 := fun m x h => by omega

theorem Dn.grow {p : List Bk} {want v : Nat} {hs hs' : List (Nat × Nat)} {k : Nat} (h : Dn p want v hs k) (hk : k ≤ hs.length) (hp : ∀ (m : Nat) (x : Nat × Nat), hs[m]? = some x → hs'[m]? = some x) : Dn p want v hs' k := fun m x hm hx => by
  have hml : m < hs.length := by omega
  have h0 := List.getElem?_eq_getElem hml
  have h1 := hp m _ h0
  rw [hx] at h1
  injection h1 with h1
  rw [← h1] at h0
  obtain ⟨h2, h3⟩ := h m x hm h0
  refine ⟨h2, fun y hy => ?_⟩
  obtain ⟨j, hj, he⟩ := List.getElem_of_mem (h3 y hy)
  exact List.mem_of_getElem? (hp j y (by rw [List.getElem?_eq_getElem hj, he]))

theorem Dn.succ {p : List Bk} {want v : Nat} {hs : List (Nat × Nat)} {k : Nat} {x : Nat × Nat} (h : Dn p want v hs k) (hk : hs[k]? = some x) (hu : ¬ Us p want v x) (hn : ∀ y, Nx p v x y → y ∈ hs) : Dn p want v hs (k + 1) := fun m z hm hz => by
  rcases Nat.lt_or_ge m k with h1 | h1
  · exact h m z h1 hz
  · have e : m = k := by omega
    subst e
    rw [hk] at hz
    injection hz with hz
    subst hz
    exact ⟨hu, hn⟩

theorem Dn.no {p : List Bk} {want v : Nat} {st : Nat × Nat} {hs : List (Nat × Nat)} (h : Hs p want v st hs) (hd : Dn p want v hs hs.length) : ¬ Lv p want v st := fun hl => by
  refine lv_closed (S := fun x => x ∈ hs) (fun x hx => ?_) (fun x y hx hn => ?_) hl h.here
  · obtain ⟨m, hm, rfl⟩ := List.getElem_of_mem hx
    exact (hd m _ hm (List.getElem?_eq_getElem hm)).1
  · obtain ⟨m, hm, rfl⟩ := List.getElem_of_mem hx
    exact (hd m _ hm (List.getElem?_eq_getElem hm)).2 y hn

/-- the beginnings of blocks more, each once -/
def addJ (hs : List (Nat × Nat)) (js : List Int) : List (Nat × Nat) := js.foldl (fun l j => addP l (j.toNat, 0)) hs

theorem addJ_pre : ∀ (js : List Int) (hs : List (Nat × Nat)) {m : Nat} {x : Nat × Nat}, hs[m]? = some x → (addJ hs js)[m]? = some x
  | [], _, _, _, h => h
  | j :: js, hs, m, x, h => addJ_pre js (addP hs (j.toNat, 0)) (addP_pre _ _ h)

theorem addJ_sub {hs : List (Nat × Nat)} {js : List Int} {x : Nat × Nat} (h : x ∈ hs) : x ∈ addJ hs js := by
  obtain ⟨m, hm, rfl⟩ := List.getElem_of_mem h
  exact List.mem_of_getElem? (addJ_pre js hs (List.getElem?_eq_getElem hm))

theorem addJ_mem : ∀ (js : List Int) (hs : List (Nat × Nat)) {j : Nat}, (j : Int) ∈ js → (j, 0) ∈ addJ hs js
  | i :: js, hs, j, h => by
    rcases List.mem_cons.1 h with h | h
    · refine addJ_sub (js := js) ?_
      rw [addP_mem]
      exact .inr (by rw [← h]; rfl)
    · exact addJ_mem js _ h

theorem addJ_succ (hs : List (Nat × Nat)) (js : List Int) {c : Nat} {j : Int} (h : js[c]? = some j) : addJ hs (js.take (c + 1)) = addP (addJ hs (js.take c)) (j.toNat, 0) := by
  unfold addJ
  rw [List.take_add_one, h, Option.toList_some, List.foldl_append]
  rfl

theorem addJ_len : ∀ (js : List Int) (hs : List (Nat × Nat)), hs.length ≤ (addJ hs js).length ∧ (addJ hs js).length ≤ hs.length + js.length
  | [], _ => ⟨Nat.le_refl _, Nat.le_refl _⟩
  | j :: js, hs => by
    have h1 := addP_len hs (j.toNat, 0)
    have h2 := addJ_len js (addP hs (j.toNat, 0))
    have e : addJ hs (j :: js) = addJ (addP hs (j.toNat, 0)) js := rfl
    rw [e, List.length_cons]
    omega

theorem Hs.addJ {p : List Bk} {want v : Nat} {st x : Nat × Nat} : ∀ {js : List Int} {hs : List (Nat × Nat)}, Hs p want v st hs → x ∈ hs → (∀ j ∈ js, ∃ y, y = (j.toNat, 0) ∧ Nx p v x y ∧ SpIn p y) → Hs p want v st (addJ hs js)
  | [], _, h, _, _ => h
  | j :: js, hs, h, hx, hj => by
    obtain ⟨y, rfl, hn, hy⟩ := hj j (List.mem_cons_self ..)
    exact Hs.addJ (js := js) (h.add hx hn hy) (addP_mem.2 (.inl hx)) (fun i hi => hj i (List.mem_cons_of_mem _ hi))

end Go.Proofs.Ytfhnhbkdhdocjaa
