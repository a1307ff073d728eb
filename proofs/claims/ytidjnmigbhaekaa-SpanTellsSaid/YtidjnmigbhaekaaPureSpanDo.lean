/-
  Plain mathematics of span.Do (R1): sums and differences wrap, less-than by its ends, products are found one by one: no program's text.
-/
import Derived.Test.YtidjnmigbhaekaaPureSpan
namespace Go.Proofs.Ytidjnmigbhaekaa
set_option linter.unusedSimpArgs false
set_option linter.unusedVariables false

/-- what a row of sums comes to -/
def wrapS (l h : Int) : Int × Int := if l / 256 = h / 256 then (l % 256, h % 256) else (0, 255)

theorem opv_add (x y : Int) : opv 3 x y = (x + y) % 256 := by unfold opv; simp

theorem opv_sub (x y : Int) : opv 4 x y = (x - y + 256) % 256 := by unfold opv; simp

theorem opv_less (x y : Int) : opv 6 x y = if x < y then 1 else 0 := by unfold opv; simp

theorem wrapS_all {l h t : Int} (h1 : l ≤ t) (h2 : t ≤ h) : InSp (t % 256) (wrapS l h) := by
  unfold wrapS InSp
  split
  · constructor <;> simp only [] <;> omega
  · constructor <;> simp only [] <;> omega

theorem wrapS_lo {l h : Int} (hl : l ≤ h) : ∃ t, l ≤ t ∧ t ≤ h ∧ t % 256 = (wrapS l h).1 := by
  unfold wrapS
  split
  · exact ⟨l, Int.le_refl _, hl, rfl⟩
  · exact ⟨256 * (l / 256 + 1), by omega, by omega, by show _ = (0 : Int); omega⟩

theorem wrapS_hi {l h : Int} (hl : l ≤ h) : ∃ t, l ≤ t ∧ t ≤ h ∧ t % 256 = (wrapS l h).2 := by
  unfold wrapS
  split
  · exact ⟨h, hl, Int.le_refl _, rfl⟩
  · exact ⟨256 * (l / 256 + 1) - 1, by omega, by omega, by show _ = (255 : Int); omega⟩

theorem sum_at {a b : Int × Int} (ha : SpOk a) (hb : SpOk b) {t : Int} (h1 : a.1 + b.1 ≤ t) (h2 : t ≤ a.2 + b.2) : ∃ x y, InSp x a ∧ InSp y b ∧ x + y = t := by
  unfold SpOk at ha hb
  unfold InSp
  exact ⟨min a.2 (t - b.1), t - min a.2 (t - b.1), by omega, by omega, by omega⟩

theorem diff_at {a b : Int × Int} (ha : SpOk a) (hb : SpOk b) {t : Int} (h1 : a.1 - b.2 + 256 ≤ t) (h2 : t ≤ a.2 - b.1 + 256) : ∃ x y, InSp x a ∧ InSp y b ∧ x - y + 256 = t := by
  unfold SpOk at ha hb
  unfold InSp
  exact ⟨min a.2 (t - 256 + b.2), min a.2 (t - 256 + b.2) - t + 256, by omega, by omega, by omega⟩

theorem do_add {a b : Int × Int} (ha : SpOk a) (hb : SpOk b) : wrapS (a.1 + b.1) (a.2 + b.2) = doSp 3 a b := by
  have ha' := ha
  have hb' := hb
  unfold SpOk at ha' hb'
  refine IsDo.eq ha hb ⟨fun x y hx hy => ?_, ?_, ?_⟩
  · unfold InSp at hx hy
    rw [opv_add]
    exact wrapS_all (by omega) (by omega)
  · obtain ⟨t, h1, h2, h3⟩ := wrapS_lo (l := a.1 + b.1) (h := a.2 + b.2) (by omega)
    obtain ⟨x, y, hx, hy, he⟩ := sum_at ha hb h1 h2
    exact ⟨x, y, hx, hy, by rw [opv_add, he]; exact h3⟩
  · obtain ⟨t, h1, h2, h3⟩ := wrapS_hi (l := a.1 + b.1) (h := a.2 + b.2) (by omega)
    obtain ⟨x, y, hx, hy, he⟩ := sum_at ha hb h1 h2
    exact ⟨x, y, hx, hy, by rw [opv_add, he]; exact h3⟩

theorem do_sub {a b : Int × Int} (ha : SpOk a) (hb : SpOk b) : wrapS (a.1 - b.2 + 256) (a.2 - b.1 + 256) = doSp 4 a b := by
  have ha' := ha
  have hb' := hb
  unfold SpOk at ha' hb'
  refine IsDo.eq ha hb ⟨fun x y hx hy => ?_, ?_, ?_⟩
  · unfold InSp at hx hy
    rw [opv_sub]
    exact wrapS_all (by omega) (by omega)
  · obtain ⟨t, h1, h2, h3⟩ := wrapS_lo (l := a.1 - b.2 + 256) (h := a.2 - b.1 + 256) (by omega)
    obtain ⟨x, y, hx, hy, he⟩ := diff_at ha hb h1 h2
    exact ⟨x, y, hx, hy, by rw [opv_sub, he]; exact h3⟩
  · obtain ⟨t, h1, h2, h3⟩ := wrapS_hi (l := a.1 - b.2 + 256) (h := a.2 - b.1 + 256) (by omega)
    obtain ⟨x, y, hx, hy, he⟩ := diff_at ha hb h1 h2
    exact ⟨x, y, hx, hy, by rw [opv_sub, he]; exact h3⟩

theorem do_less {a b : Int × Int} (ha : SpOk a) (hb : SpOk b) : (opv 6 a.2 b.1, opv 6 a.1 b.2) = doSp 6 a b := by
  have ha' := ha
  have hb' := hb
  unfold SpOk at ha' hb'
  refine IsDo.eq ha hb ⟨fun x y hx hy => ?_, ⟨a.2, b.1, ?_, ?_, rfl⟩, ⟨a.1, b.2, ?_, ?_, rfl⟩⟩
  · unfold InSp at *
    simp only [opv_less]
    constructor <;> split <;> split <;> omega
  all_goals (unfold InSp; omega)

/-- what has been found of the products: those pairs of which 'S' says so -/
structure FndI (a b : Int × Int) (S : Int → Int → Prop) (f : Int × Int) : Prop where
  all : ∀ x y, S x y → InSp (opv 5 x y) f
  lw : ∃ x y, InSp x a ∧ InSp y b ∧ opv 5 x y = f.1
  hw : ∃ x y, InSp x a ∧ InSp y b ∧ opv 5 x y = f.2

theorem FndI.start {a b : Int × Int} (ha : SpOk a) (hb : SpOk b) {S : Int → Int → Prop} (hS : ∀ x y, ¬ S x y) {v : Int} (hv : opv 5 a.1 b.1 = v) : FndI a b S (v, v) := by
  unfold SpOk at ha hb
  refine ⟨fun x y h => (hS x y h).elim, ⟨a.1, b.1, ?_, ?_, hv⟩, ⟨a.1, b.1, ?_, ?_, hv⟩⟩
  all_goals (unfold InSp; omega)

theorem FndI.congr {a b f : Int × Int} {S S' : Int → Int → Prop} (h : FndI a b S f) (he : ∀ x y, S' x y ↔ S x y) : FndI a b S' f := ⟨fun x y hx => h.all x y ((he x y).1 hx), h.lw, h.hw⟩

theorem FndI.add {a b f : Int × Int} {S S' : Int → Int → Prop} {x y v : Int} (h : FndI a b S f) (he : ∀ u v, S' u v ↔ S u v ∨ u = x ∧ v = y) (hx : InSp x a) (hy : InSp y b) (hv : opv 5 x y = v) : FndI a b S' (joSp f (v, v)) := by
  subst hv
  refine ⟨fun u v huv => ?_, ?_, ?_⟩
  · unfold joSp InSp
    simp only []
    rcases (he u v).1 huv with h1 | ⟨rfl, rfl⟩
    · have := h.all u v h1
      unfold InSp at this
      omega
    · omega
  · rcases Int.le_total f.1 (opv 5 x y) with h1 | h1
    · obtain ⟨u, w, h2, h3, h4⟩ := h.lw
      exact ⟨u, w, h2, h3, by show _ = min _ _; omega⟩
    · exact ⟨x, y, hx, hy, by show _ = min _ _; omega⟩
  · rcases Int.le_total f.2 (opv 5 x y) with h1 | h1
    · exact ⟨x, y, hx, hy, by show _ = max _ _; omega⟩
    · obtain ⟨u, w, h2, h3, h4⟩ := h.hw
      exact ⟨u, w, h2, h3, by show _ = max _ _; omega⟩

theorem FndI.done {a b f : Int × Int} {S : Int → Int → Prop} (ha : SpOk a) (hb : SpOk b) (h : FndI a b S f) (hall : (∀ x y, InSp x a → InSp y b → S x y) ∨ f = (0, 255)) : f = doSp 5 a b := by
  refine IsDo.eq ha hb ⟨fun x y hx hy => ?_, h.lw, h.hw⟩
  rcases hall with hall | rfl
  · exact h.all x y (hall x y hx hy)
  · exact opv_bd 5 x y

end Go.Proofs.Ytidjnmigbhaekaa
