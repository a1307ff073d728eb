/-
  Plain mathematics of data flow problems: more that is so at the beginning; all paths and some path; a path's own facts (I1, I2). codemasonref.In.
-/
import Derived.Test.YtmbabbdcijgnoaaFactIs
namespace Go.Proofs.Ytmbabbdcijgnoaa
open Go.RowKit
set_option linter.unusedSimpArgs false
set_option linter.unusedVariables false
set_option maxRecDepth 100000

set_option maxHeartbeats 1000000 in
theorem in_true {a b : Nat} (h : ∀ j, a.testBit j = true → b.testBit j = true) (w : World) (ha : a < 4294967296) (hb : b < 4294967296) :
    Calls Try.prog 17 #[.int .u32 (a : Nat), .int .u32 (b : Nat)] w fun e w' => e = .returned (.bool true) ∧ w' = w := by
  have hab : a ||| b = b := word_ext fun j => by
    rw [Nat.testBit_or, Bool.or_eq_true]
    exact ⟨fun h1 => h1.elim (h j) id, .inr⟩
  have hor : bits .or .u32 (a : Int) (b : Int) = (b : Int) := by rw [u32_or_nat _ _ ha hb, hab]
  clear hab h
  go_enter Try.func17, Try.ntmps17
  go_wp2
  go_ret
  exact ⟨ret_bool (by simp), rfl⟩

section
variable {nx : List (List Int)} {lw : Lw} {f : Nat}

/-- the same problem with another beginning -/
def Lw.at_ (lw : Lw) (s : Nat) : Lw := ⟨lw.bw, lw.al, lw.ma, lw.en, s⟩

/-- .. with another question and direction -/
def Lw.ask (lw : Lw) (al bw : Bool) : Lw := ⟨bw, al, lw.ma, lw.en, lw.st⟩

theorem trB_mono {i : Nat} {b b' : Bool} (h : b = true → b' = true) : trB lw f i b = true → trB lw f i b' = true := by
  unfold trB
  cases mkB lw i f <;> cases enB lw i f <;> cases b <;> cases b' <;> simp_all

theorem StP.up {s : Nat} (hs : lw.st.testBit f = true → s.testBit f = true) {i : Nat} {b : Bool} (h : StP nx lw f i b) : ∃ b', StP nx (lw.at_ s) f i b' ∧ (b = true → b' = true) := by
  induction h with
  | here h => exact ⟨_, .here (lw := lw.at_ s) h, hs⟩
  | @step i j b _ hj ih =>
    obtain ⟨b', h1, h2⟩ := ih
    exact ⟨_, .step h1 hj, trB_mono h2⟩

theorem StP.down {s : Nat} (hs : lw.st.testBit f = true → s.testBit f = true) {i : Nat} {b' : Bool} (h : StP nx (lw.at_ s) f i b') : ∃ b, StP nx lw f i b ∧ (b = true → b' = true) := by
  induction h with
  | here h => exact ⟨_, .here (lw := lw) h, hs⟩
  | @step i j b' _ hj ih =>
    obtain ⟨b, h1, h2⟩ := ih
    exact ⟨_, .step h1 hj, trB_mono h2⟩

/-- KAM, ULLMAN: more at the beginning, no less anywhere -/
theorem SlP.more {s : Nat} (hs : lw.st.testBit f = true → s.testBit f = true) {i : Nat} (h : SlP nx lw i f) : SlP nx (lw.at_ s) i f := by
  unfold SlP at h ⊢
  show if lw.al = true then _ else _
  split at h
  · rename_i ha
    rw [if_pos ha]
    intro hf
    obtain ⟨b, h1, h2⟩ := hf.down hs
    cases b with
    | true => have := h2 rfl; cases this
    | false => exact h h1
  · rename_i ha
    rw [if_neg ha]
    obtain ⟨b', h1, h2⟩ := h.up hs
    rw [h2 rfl] at h1
    exact h1

/-- where one comes some path comes -/
theorem StP.rea {i : Nat} (h : Rea nx (-1) 0 i) (al : Bool) : ∃ b, StP nx (lw.ask al false) f i b := by
  induction h with
  | here => exact ⟨_, .here (lw := lw.ask al false) (by unfold sts Lw.ask; simp)⟩
  | @step j k _ hk _ ih =>
    obtain ⟨b, hb⟩ := ih
    exact ⟨_, hb.step (by unfold dirG Lw.ask; simpa using hk)⟩

theorem StP.back {i : Nat} {b : Bool} {al : Bool} (h : StP nx (lw.ask al false) f i b) : Rea nx (-1) 0 i := by
  induction h with
  | here h =>
    unfold sts Lw.ask at h
    simp at h
    subst h
    exact Rea.me nx 0
  | @step i j b _ hj ih =>
    refine ih.step ?_ (nat_ne j)
    unfold dirG Lw.ask at hj
    simpa using hj

theorem StP.same {i : Nat} {b al al' : Bool} (h : StP nx (lw.ask al false) f i b) : StP nx (lw.ask al' false) f i b := by
  induction h with
  | here h => exact .here (lw := lw.ask al' false) h
  | step _ hj ih => exact .step ih hj

/-- KAM, ULLMAN: along all, then along some, where one comes -/
theorem two_rea {i : Nat} (hi : Rea nx (-1) 0 i) (h : SlP nx (lw.ask true false) i f) : SlP nx (lw.ask false false) i f := by
  unfold SlP Lw.ask at h ⊢
  simp at h ⊢
  obtain ⟨b, hb⟩ := StP.rea (lw := lw) (f := f) hi false
  cases b with
  | true => exact hb
  | false => exact absurd hb.same h

theorem two_all {i : Nat} (hi : ¬ Rea nx (-1) 0 i) : SlP nx (lw.ask true false) i f := by
  unfold SlP Lw.ask
  simp
  exact fun h => hi (StP.back (lw := lw) (al := true) h)

theorem two_none {i : Nat} (hi : ¬ Rea nx (-1) 0 i) : ¬ SlP nx (lw.ask false false) i f := by
  unfold SlP Lw.ask
  simp
  exact fun h => hi (StP.back (lw := lw) (al := false) h)

end

theorem prw_all {P : Nat → Prop} {W : Nat} (h : PrW P 8 W) (hp : ∀ f, P f) : W = 255 := word_ext fun j => by
  rw [h.2]
  constructor
  · rintro ⟨h1, _⟩
    have : j = 0 ∨ j = 1 ∨ j = 2 ∨ j = 3 ∨ j = 4 ∨ j = 5 ∨ j = 6 ∨ j = 7 := by omega
    rcases this with rfl | rfl | rfl | rfl | rfl | rfl | rfl | rfl <;> rfl
  · intro h1
    refine ⟨?_, hp j⟩
    rcases Nat.lt_or_ge j 8 with hj | hj
    · exact hj
    · have : (255 : Nat).testBit j = false := Nat.testBit_lt_two_pow (Nat.lt_of_lt_of_le (by omega : 255 < 2 ^ 8) (Nat.pow_le_pow_right (by omega) hj))
      rw [this] at h1
      cases h1

theorem prw_none {P : Nat → Prop} {W : Nat} (h : PrW P 8 W) (hp : ∀ f, ¬ P f) : W = 0 := word_ext fun j => by
  rw [h.2]
  simp [hp j]

end Go.Proofs.Ytmbabbdcijgnoaa
