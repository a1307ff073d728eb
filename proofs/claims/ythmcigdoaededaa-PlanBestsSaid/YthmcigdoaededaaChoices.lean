/-
  Choices for one turn: what codemasonref.Shortest goes through (Q1).
-/
import Derived.Test.YthmcigdoaededaaPlanPure
import Derived.Test.YthmcigdoaededaaFewSize
namespace Go.Proofs.Ythmcigdoaededaa
open Go.RowKit
set_option linter.unusedSimpArgs false
set_option linter.unusedVariables false
set_option maxRecDepth 100000

theorem szW_fil (W : Nat) : ∀ n, szW W n = ((List.range n).filter fun i => W.testBit i).length
  | 0 => rfl
  | n + 1 => by
    rw [List.range_succ, List.filter_append, List.length_append, ← szW_fil W n]
    show szW W n + (if W.testBit n = true then 1 else 0) = _
    cases h : W.testBit n <;> simp [h]

theorem unL_size (n D : Nat) : (unL n D).length + szW D n = n := by
  have e1 : ∀ l : List Nat, (l.filter fun i => !D.testBit i).length + (l.filter fun i => D.testBit i).length = l.length := by
    intro l
    induction l with
    | nil => rfl
    | cons x l ih =>
      rw [List.filter_cons, List.filter_cons]
      cases D.testBit x <;> simp <;> omega
  have := e1 (List.range n)
  rw [List.length_range, ← szW_fil] at this
  exact this

/-- may i be done? -/
def mayT (ps : List (Nat × Nat)) (D i : Nat) : Bool := !D.testBit i && ps.all fun p => decide (p.2 ≠ i) || D.testBit p.1

theorem mayT_iff {n i D : Nat} {ps : List (Nat × Nat)} (hin : ∀ p ∈ ps, p.1 < n ∧ p.2 < n) (hi : i < n) : mayT ps D i = true ↔ MayW n (fun a b => (a, b) ∈ ps) D i := by
  unfold mayT MayW
  rw [Bool.and_eq_true, Bool.not_eq_true', List.all_eq_true]
  constructor
  · rintro ⟨h1, h2⟩
    refine ⟨hi, h1, fun p _ hp => ?_⟩
    have := h2 (p, i) hp
    simpa using this
  · rintro ⟨_, h1, h2⟩
    refine ⟨h1, fun p hp => ?_⟩
    by_cases e : p.2 = i
    · have := h2 p.1 (hin p hp).1 (by rw [← e]; exact hp)
      simp [this]
    · simp [e]

def mayLs (ps : List (Nat × Nat)) (D k : Nat) : List Nat := (List.range k).filter (mayT ps D)

theorem mayLs_lt {ps : List (Nat × Nat)} {D k x : Nat} (h : x ∈ mayLs ps D k) : x < k := List.mem_range.1 (List.mem_filter.1 h).1

theorem mayLs_word (ps : List (Nat × Nat)) (D k : Nat) : setW (mayLs ps D k) < 2 ^ k := setW_lt fun x hx => mayLs_lt hx

theorem mayLs_yes {ps : List (Nat × Nat)} {D k : Nat} (h : mayT ps D k = true) : setW (mayLs ps D (k + 1)) = setW (mayLs ps D k) + 2 ^ k := by
  unfold mayLs
  rw [List.range_succ, List.filter_append, List.filter_cons_of_pos (by simpa using h), List.filter_nil, setW_snoc]
  have h1 := mayLs_word ps D k
  have h2 := Nat.two_pow_add_eq_or_of_lt h1 1
  unfold mayLs at h1 h2
  rw [Nat.mul_one] at h2
  rw [Nat.or_comm, ← h2, Nat.add_comm]

theorem mayLs_no {ps : List (Nat × Nat)} {D k : Nat} (h : mayT ps D k = false) : setW (mayLs ps D (k + 1)) = setW (mayLs ps D k) := by
  unfold mayLs
  rw [List.range_succ, List.filter_append, List.filter_cons_of_neg (by simp [h]), List.filter_nil, List.append_nil]

theorem mayLs_nodup (ps : List (Nat × Nat)) (D k : Nat) : (mayLs ps D k).Nodup := List.nodup_range.sublist List.filter_sublist

theorem mayLs_size (ps : List (Nat × Nat)) (D n : Nat) : szW (setW (mayLs ps D n)) n = (mayLs ps D n).length := szW_len (mayLs_nodup ps D n) fun x hx => mayLs_lt hx

/-- what is done has all ahead of it done -/
def DnC (ps : List (Nat × Nat)) (D : Nat) : Prop := ∀ a b, (a, b) ∈ ps → D.testBit b = true → D.testBit a = true

theorem or_eq_sub {a b : Nat} : a ||| b = b ↔ ∀ i, a.testBit i = true → b.testBit i = true := by
  constructor
  · intro h i hi
    rw [← h, Nat.testBit_or, hi]
    rfl
  · intro h
    refine Nat.eq_of_testBit_eq fun i => ?_
    rw [Nat.testBit_or]
    cases ha : a.testBit i with
    | false => rfl
    | true => rw [h i ha]; rfl

/-- a choice for one turn -/
def GoodS (n m : Nat) (ps : List (Nat × Nat)) (D t S : Nat) : Prop := S ||| setW (mayLs ps D n) = setW (mayLs ps D n) ∧ szW S n = min m (mayLs ps D n).length ∧ Can n m (fun a b => (a, b) ∈ ps) (D ||| S) t

theorem good_lt {n m D t S : Nat} {ps : List (Nat × Nat)} (h : GoodS n m ps D t S) : S < 2 ^ n := by
  have h1 := mayLs_word ps D n
  have h2 : S ≤ S ||| setW (mayLs ps D n) := Nat.left_le_or
  rw [h.1] at h2
  omega

theorem good_down {n D S : Nat} {ps : List (Nat × Nat)} (hin : ∀ p ∈ ps, p.1 < n ∧ p.2 < n) (hd : DnC ps D) (h : S ||| setW (mayLs ps D n) = setW (mayLs ps D n)) : DnC ps (D ||| S) := fun a b hp hb => by
  rw [Nat.testBit_or, Bool.or_eq_true] at hb ⊢
  rcases hb with hb | hb
  · exact .inl (hd a b hp hb)
  · left
    have h2 := setW_bit.1 (or_eq_sub.1 h b hb)
    have h3 := (List.mem_filter.1 h2).2
    exact ((mayT_iff hin (mayLs_lt h2)).1 h3).2.2 a (hin _ hp).1 hp

theorem can_good {n m D t : Nat} {ps : List (Nat × Nat)} (hk : TkOk n ps) (hm : 1 ≤ m) (hun : ∃ i, i < n ∧ D.testBit i = false) : Can n m (fun a b => (a, b) ∈ ps) D (t + 1) ↔ ∃ S, 1 ≤ S ∧ S < 2 ^ n ∧ GoodS n m ps D t S := by
  have hmem : ∀ i, i ∈ mayLs ps D n ↔ MayW n (fun a b => (a, b) ∈ ps) D i := fun i => by
    unfold mayLs
    rw [List.mem_filter, List.mem_range]
    exact ⟨fun h => (mayT_iff hk.ins h.1).1 h.2, fun h => ⟨h.1, (mayT_iff hk.ins h.1).2 h⟩⟩
  have hsz : ∀ S, (∀ i, S.testBit i = true → i ∈ mayLs ps D n) → ((mayLs ps D n).filter fun i => S.testBit i).length = szW S n := fun S hS => by
    rw [szW_fil]
    exact Nat.le_antisymm (sub_len ((mayLs_nodup ps D n).sublist List.filter_sublist) fun i hi => List.mem_filter.2 ⟨List.mem_range.2 (mayLs_lt (List.mem_filter.1 hi).1), (List.mem_filter.1 hi).2⟩)
      (sub_len (List.nodup_range.sublist List.filter_sublist) fun i hi => List.mem_filter.2 ⟨hS i (List.mem_filter.1 hi).2, (List.mem_filter.1 hi).2⟩)
  rw [can_step (mayLs_nodup ps D n) hmem]
  constructor
  · rintro ⟨S, h1, h2, h3⟩
    have hg : GoodS n m ps D t S := ⟨or_eq_sub.2 fun i hi => setW_bit.2 (h1 i hi), by rw [← hsz S h1]; exact h2, h3⟩
    refine ⟨S, ?_, good_lt hg, hg⟩
    obtain ⟨i, hi⟩ := may_some hk.lev hun
    have hlen := List.length_pos_of_mem ((hmem i).2 hi)
    rcases Nat.eq_zero_or_pos S with e | e
    · subst e
      have h4 := hg.2.1
      have : szW 0 n = 0 := by rw [szW_fil, List.length_eq_zero_iff]; exact List.filter_eq_nil_iff.2 fun i _ => by simp
      omega
    · exact e
  · rintro ⟨S, _, _, h1, h2, h3⟩
    have hS : ∀ i, S.testBit i = true → i ∈ mayLs ps D n := fun i hi => setW_bit.1 (or_eq_sub.1 h1 i hi)
    exact ⟨S, hS, by rw [hsz S hS]; exact h2, h3⟩

set_option maxHeartbeats 1000000 in
theorem in_any (a b : Nat) (w : World) (ha : a < 4294967296) (hb : b < 4294967296) :
    Calls Try.prog 35 #[.int .u32 (a : Nat), .int .u32 (b : Nat)] w fun e w' => e = .returned (.bool (decide (a ||| b = b))) ∧ w = w' := by
  have hor : bits .or .u32 (a : Int) (b : Int) = ((a ||| b : Nat) : Int) := u32_or_nat _ _ ha hb
  obtain ⟨c, hc⟩ : ∃ c, a ||| b = c := ⟨_, rfl⟩
  rw [hc] at hor ⊢
  clear hc
  go_enter Try.func35, Try.ntmps35
  go_wp2
  go_ret
  refine ⟨ret_bool ?_, rfl⟩
  by_cases h : c = b
  · simp [h]
  · have : ¬ (c : Int) = (b : Int) := by omega
    simp [h, this]

end Go.Proofs.Ythmcigdoaededaa
