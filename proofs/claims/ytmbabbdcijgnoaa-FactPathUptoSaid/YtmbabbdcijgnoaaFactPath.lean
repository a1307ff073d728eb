/-
  Plain mathematics of paths (I1); codemasonref.Inside at any length.
-/
import Derived.Test.YtmbabbdcijgnoaaFactMono
namespace Go.Proofs.Ytmbabbdcijgnoaa
open Go.RowKit
set_option linter.unusedSimpArgs false
set_option linter.unusedVariables false
set_option maxRecDepth 100000

set_option maxHeartbeats 1000000 in
theorem inside_long (n : Int) (A : Option Addr) (len cap : Nat) (xs : List Int) (B : Nat) (w : World) (hx : RdI w B A xs) (hl : xs.length = len) (hm : len ≤ maxLen) :
    Calls Try.prog 13 #[.int .i64 n, .slice A len cap] w fun e w' => e = .returned (.bool (insideB n xs)) ∧ w = w' := by
  unfold maxLen at hm
  have HL := Lib.hid hl
  clear hl
  go_enter Try.func13, Try.ntmps13
  go_wp2
  go_loop [9] (fun i => ∃ k : Nat, k ≤ len ∧ i = .int .i64 k ∧ insideB n xs = insideB n (xs.drop k)) (fun i => len - (intOf i).toNat)
  case atStart => exact ⟨0, Nat.zero_le _, rfl, rfl⟩
  case round =>
    obtain ⟨k, hk, rfl, hr⟩ := hrel
    have HR := Lib.hid hr
    clear hr
    by_cases hlt : k < len
    · obtain ⟨ad, x, rfl, _, hd, hcell⟩ := hx.at_ (k := k) (by rw [HL.out]; exact hlt)
      have HD := Lib.hid (drop_at hd)
      clear hd
      go_wp2
      all_goals first
        | (go_ret; exact ⟨ret_bool (by rw [HR.out, HD.out]; unfold insideB; rw [if_pos (by omega)]), rfl⟩)
        | (go_round
           case rel => exact ⟨k + 1, by omega, by go_num, by rw [HR.out, HD.out]; conv => { lhs; unfold insideB; rw [if_neg (by omega)] }⟩
           case measure => simp [intOf]; omega)
    · go_wp2
      go_ret
      exact ⟨ret_bool (by rw [HR.out, List.drop_of_length_le (by rw [HL.out]; omega)]; rfl), rfl⟩

section
variable {nx : List (List Int)} {lw : Lw} {bw : Bool} {ps : List Int} {q : Nat} {a b : Int}

theorem pthB_at (ha : ps[q]? = some a) (hb : ps[q + 1]? = some b) : pthB nx bw (ps.drop q) = (stB nx bw a b && pthB nx bw (ps.drop (q + 1))) := by
  rw [drop_at ha, drop_at hb]
  rfl

theorem pthB_end (h : ps.length ≤ q + 1) : pthB nx bw (ps.drop q) = true := by
  cases e : ps.drop q with
  | nil => rfl
  | cons x l =>
    cases l with
    | nil => rfl
    | cons y l =>
      have := congrArg List.length e
      rw [List.length_drop] at this
      simp at this
      omega

theorem alW_at (s : Nat) (ha : ps[q]? = some a) (hb : ps[q + 1]? = some b) : alW lw (ps.drop q) s = alW lw (ps.drop (q + 1)) (behW lw a s) := by
  rw [drop_at ha, drop_at hb]
  rfl

theorem alW_end (s : Nat) (h : ps.length ≤ q + 1) : alW lw (ps.drop q) s = s := by
  cases e : ps.drop q with
  | nil => rfl
  | cons x l =>
    cases l with
    | nil => rfl
    | cons y l =>
      have := congrArg List.length e
      rw [List.length_drop] at this
      simp at this
      omega

theorem rowOk_in {n : Int} {ps : List Int} {q : Nat} {a : Int} (h : rowOk n ps = true) (ha : ps[q]? = some a) : 0 ≤ a ∧ a < n := by
  have := List.all_eq_true.1 h a (List.mem_of_getElem? ha)
  simpa using this

theorem ckAlong_law (h : ckLaw nx lw ≠ 0) : ckAlong nx lw ps = ckLaw nx lw := by unfold ckAlong; rw [if_neg h]

theorem ckAlong_bad (h : ckLaw nx lw = 0) (h2 : ps = [] ∨ rowOk nx.length ps = false ∨ pthB nx lw.bw ps = false) : ckAlong nx lw ps = 5 := by
  unfold ckAlong
  rw [if_pos h, if_neg]
  rintro ⟨h3, h4, h5⟩
  rcases h2 with h2 | h2 | h2
  · exact h3 h2
  · rw [h4] at h2; cases h2
  · rw [h5] at h2; cases h2

theorem ckAlong_good (h : ckLaw nx lw = 0) (h2 : ps ≠ []) (h3 : rowOk nx.length ps = true) (h4 : pthB nx lw.bw ps = true) : ckAlong nx lw ps = 0 := by
  unfold ckAlong
  rw [if_pos h, if_pos ⟨h2, h3, h4⟩]

theorem behW_lt (hE : ∀ x ∈ lw.en, x < 256) (hM : ∀ x ∈ lw.ma, x < 256) {s : Nat} (hs : s < 256) (a : Int) : behW lw a s < 256 := by
  unfold behW
  have h1 : s &&& (4294967295 - lw.en.getD a.toNat 0) < 2 ^ 8 := Nat.lt_of_le_of_lt Nat.and_le_left hs
  have h2 : lw.ma.getD a.toNat 0 < 2 ^ 8 := by
    rw [List.getD_eq_getElem?_getD]
    cases h : lw.ma[a.toNat]? with
    | none => simp
    | some x => exact hM x (List.mem_of_getElem? h)
  exact Nat.or_lt_two_pow h1 h2

end

end Go.Proofs.Ytmbabbdcijgnoaa
