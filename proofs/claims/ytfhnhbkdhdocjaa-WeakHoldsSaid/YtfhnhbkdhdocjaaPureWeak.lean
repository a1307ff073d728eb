/-
  Plain mathematics of preconditions (S1): terms collected, each once; what they stand for, and that the last one's place is the last: no program's text.
-/
import Derived.Test.YtfhnhbkdhdocjaaPureV
import Derived.Test.YtfhnhbkdhdocjaaPrunePure
import Derived.Test.YtfhnhbkdhdocjaaMPure
namespace Go.Proofs.Ytfhnhbkdhdocjaa
set_option linter.unusedSimpArgs false
set_option linter.unusedVariables false

/-- terms over n variables, each of terms ahead of it -/
def OkT (n : Nat) (T : List Tm) : Prop := ∀ (i : Nat) (t : Tm), T[i]? = some t → ckTerm n i t.op t.a t.b t.v = 0

/-- a term's place, where it is put at the end if it is new -/
def Plc (T : List Tm) (t : Tm) (T' : List Tm) (r : Nat) : Prop := T'[r]? = some t ∧ (T' = T ∨ (T' = T ++ [t] ∧ r = T.length ∧ t ∉ T))

section
variable {n : Nat} {T T' : List Tm} {t : Tm} {r : Nat}

theorem Plc.pre (h : Plc T t T' r) : T <+: T' := by
  rcases h.2 with rfl | ⟨rfl, _, _⟩
  · exact List.prefix_refl _
  · exact List.prefix_append _ _

theorem Plc.len (h : Plc T t T' r) : T'.length ≤ T.length + 1 := by
  rcases h.2 with rfl | ⟨rfl, _, _⟩
  · omega
  · simp

theorem Plc.new (h : Plc T t T' r) {j : Nat} (hj : j < T'.length) : j < T.length ∨ j = r := by
  rcases h.2 with rfl | ⟨rfl, h2, _⟩
  · exact .inl hj
  · simp at hj; omega

theorem Plc.lt (h : Plc T t T' r) : r < T'.length := (List.getElem?_eq_some_iff.1 h.1).1

theorem Plc.ok (h : Plc T t T' r) (ho : OkT n T) (hc : ckTerm n T.length t.op t.a t.b t.v = 0) : OkT n T' := by
  rcases h.2 with rfl | ⟨rfl, _, _⟩
  · exact ho
  · intro i u hu
    by_cases hi : i < T.length
    · rw [List.getElem?_append_left hi] at hu
      exact ho i u hu
    · have hl := (List.getElem?_eq_some_iff.1 hu).1
      simp at hl
      have : i = T.length := by omega
      subst this
      simp at hu
      subst hu
      exact hc

theorem Plc.nodup (h : Plc T t T' r) (hn : T.Nodup) : T'.Nodup := by
  rcases h.2 with rfl | ⟨rfl, _, h3⟩
  · exact hn
  · rw [List.nodup_append]
    refine ⟨hn, by simp, fun a ha b hb => ?_⟩
    simp at hb
    subst hb
    exact fun e => h3 (e ▸ ha)

theorem pre_at (h : T <+: T') {i : Nat} {u : Tm} (hu : T[i]? = some u) : T'[i]? = some u := by
  obtain ⟨X, rfl⟩ := h
  rw [List.getElem?_append_left (List.getElem?_eq_some_iff.1 hu).1]
  exact hu

theorem V_pre (h : T <+: T') {hv : List Int} {i : Nat} (hi : i < T.length) : V hv T' i = V hv T i := by
  obtain ⟨X, rfl⟩ := h
  unfold V
  have := evAll_take (hv := hv) (l := T ++ X) (i := T.length) hi (by simp)
  rw [List.take_left] at this
  exact this.symm

/-- the terms on which a term depends -/
inductive Dep (T : List Tm) : Nat → Nat → Prop
  | refl (i : Nat) : Dep T i i
  | step {i j k : Nat} {t : Tm} : T[i]? = some t → 3 ≤ t.op → (t.a = (j : Int) ∨ t.b = (j : Int)) → Dep T j k → Dep T i k

theorem Dep.le (ho : OkT n T) {i j : Nat} (h : Dep T i j) : j ≤ i := by
  induction h with
  | refl _ => exact Nat.le_refl _
  | @step i j k t ht h3 hab _ ih =>
    have := ckTerm_cases (ho i t ht)
    omega

theorem Dep.pre (h : T <+: T') {i j : Nat} (hd : Dep T i j) : Dep T' i j := by
  induction hd with
  | refl _ => exact .refl _
  | step ht h3 hab _ ih => exact .step (pre_at h ht) h3 hab ih

theorem Dep.trans {i j k : Nat} (h : Dep T i j) (h2 : Dep T j k) : Dep T i k := by
  induction h with
  | refl _ => exact h2
  | step ht h3 hab _ ih => exact .step ht h3 hab (ih h2)

end

/-- the place of an operation's result -/
def ResT (T : List Tm) (at_ ops : List Nat) (t : Tm) (T' : List Tm) (r : Nat) : Prop :=
  (t.op = 1 ∧ Plc T ⟨1, 0, 0, t.v⟩ T' r) ∨ (t.op = 2 ∧ T' = T ∧ at_[t.v.toNat]? = some r) ∨
  (3 ≤ t.op ∧ t.op ≤ 6 ∧ ∃ x y : Nat, ops[t.a.toNat]? = some x ∧ ops[t.b.toNat]? = some y ∧ Plc T ⟨t.op, x, y, 0⟩ T' r)

/-- what is asked of the operands' places -/
structure ResOk (n : Nat) (T : List Tm) (at_ ops : List Nat) (t : Tm) : Prop where
  num : t.op = 1 → 0 ≤ t.v ∧ t.v < 256
  var : t.op = 2 → ∀ r, at_[t.v.toNat]? = some r → r < T.length
  opr : 3 ≤ t.op → ∀ r, ops[t.a.toNat]? = some r ∨ ops[t.b.toNat]? = some r → r < T.length

section
variable {n : Nat} {T T' : List Tm} {at_ ops : List Nat} {t : Tm} {r : Nat}

theorem ResT.pre (h : ResT T at_ ops t T' r) : T <+: T' := by
  rcases h with ⟨_, h⟩ | ⟨_, rfl, _⟩ | ⟨_, _, x, y, _, _, h⟩
  · exact h.pre
  · exact List.prefix_refl _
  · exact h.pre

theorem ResT.len (h : ResT T at_ ops t T' r) : T'.length ≤ T.length + 1 := by
  rcases h with ⟨_, h⟩ | ⟨_, rfl, _⟩ | ⟨_, _, x, y, _, _, h⟩
  · exact h.len
  · omega
  · exact h.len

theorem ResT.new (h : ResT T at_ ops t T' r) {j : Nat} (hj : j < T'.length) : j < T.length ∨ j = r := by
  rcases h with ⟨_, h⟩ | ⟨_, rfl, _⟩ | ⟨_, _, x, y, _, _, h⟩
  · exact h.new hj
  · exact .inl hj
  · exact h.new hj

theorem ResT.lt (h : ResT T at_ ops t T' r) (hk : ResOk n T at_ ops t) : r < T'.length := by
  rcases h with ⟨_, h⟩ | ⟨h2, rfl, h3⟩ | ⟨_, _, x, y, _, _, h⟩
  · exact h.lt
  · exact hk.var h2 r h3
  · exact h.lt

theorem ResT.nodup (h : ResT T at_ ops t T' r) (hn : T.Nodup) : T'.Nodup := by
  rcases h with ⟨_, h⟩ | ⟨_, rfl, _⟩ | ⟨_, _, x, y, _, _, h⟩
  · exact h.nodup hn
  · exact hn
  · exact h.nodup hn

theorem ResT.ok (h : ResT T at_ ops t T' r) (hk : ResOk n T at_ ops t) (ho : OkT n T) : OkT n T' := by
  rcases h with ⟨h1, h⟩ | ⟨_, rfl, _⟩ | ⟨h3, h4, x, y, hx, hy, h⟩
  · refine h.ok ho ?_
    have := hk.num h1
    show ckTerm n T.length 1 0 0 t.v = 0
    unfold ckTerm
    rw [if_pos rfl, if_pos (by omega)]
  · exact ho
  · refine h.ok ho ?_
    have := hk.opr h3 x (.inl hx)
    have := hk.opr h3 y (.inr hy)
    unfold ckTerm
    simp only
    rw [if_neg (by omega), if_neg (by omega), if_pos (by omega), if_pos (by omega)]

theorem ResT.val (h : ResT T at_ ops t T' r) (hk : ResOk n T at_ ops t) (hv : List Int) :
    (t.op = 1 ∧ V hv T' r = t.v) ∨ (t.op = 2 ∧ at_[t.v.toNat]? = some r ∧ V hv T' r = V hv T r) ∨
    (3 ≤ t.op ∧ ∃ x y : Nat, ops[t.a.toNat]? = some x ∧ ops[t.b.toNat]? = some y ∧ T'[r]? = some ⟨t.op, x, y, 0⟩ ∧ (OkT n T' → V hv T' r = opv t.op (V hv T x) (V hv T y))) := by
  rcases h with ⟨h1, h⟩ | ⟨h2, rfl, h3⟩ | ⟨h3, h4, x, y, hx, hy, h⟩
  · have := V_num (hv := hv) h.1 rfl
    exact .inl ⟨h1, this⟩
  · exact .inr (.inl ⟨h2, h3, rfl⟩)
  · have k1 := hk.opr h3 x (.inl hx)
    have k2 := hk.opr h3 y (.inr hy)
    refine .inr (.inr ⟨h3, x, y, hx, hy, h.1, fun hok => ?_⟩)
    have hc := ckTerm_cases (hok r _ h.1)
    simp only at hc
    rw [V_op h.1 h3 (by simp only [Int.toNat_natCast]; omega) (by simp only [Int.toNat_natCast]; omega)]
    simp only [Int.toNat_natCast]
    rw [V_pre h.pre k1, V_pre h.pre k2]

end

/-! ### The variables -/

/-- the variables below m of a word are there -/
structure WvI (n W m : Nat) (T : List Tm) (at_ : List Nat) : Prop where
  len : at_.length = n
  ok : OkT n T
  nd : T.Nodup
  tl : T.length ≤ m
  has : ∀ v, v < m → W.testBit v = true → ∃ r, at_[v]? = some r ∧ T[r]? = some ⟨2, 0, 0, (v : Int)⟩
  all : ∀ j, j < T.length → ∃ v, v < m ∧ W.testBit v = true ∧ at_[v]? = some j

theorem WvI.start (n W : Nat) : WvI n W 0 [] (List.replicate n 0) :=
  ⟨by simp, fun i t h => by simp at h, List.nodup_nil, by simp, fun v h => by omega, fun j h => by simp at h⟩

theorem WvI.no {n W m : Nat} {T : List Tm} {at_ : List Nat} (h : WvI n W m T at_) (hb : W.testBit m = false) : WvI n W (m + 1) T at_ :=
  ⟨h.len, h.ok, h.nd, by have := h.tl; omega, fun v hv hw => h.has v (by
    have : v ≠ m := fun e => by subst e; rw [hb] at hw; cases hw
    omega) hw, fun j hj => by
    obtain ⟨v, h1, h2, h3⟩ := h.all j hj
    exact ⟨v, by omega, h2, h3⟩⟩

theorem WvI.yes {n W m r : Nat} {T T' : List Tm} {at_ : List Nat} (h : WvI n W m T at_) (hb : W.testBit m = true) (hm : m < n) (hp : Plc T ⟨2, 0, 0, (m : Int)⟩ T' r) : WvI n W (m + 1) T' (at_.set m r) := by
  have hml : m < at_.length := by rw [h.len]; exact hm
  refine ⟨by simp [h.len], hp.ok h.ok ?_, hp.nodup h.nd, by have := hp.len; have := h.tl; omega, fun v hv hw => ?_, fun j hj => ?_⟩
  · show ckTerm n T.length 2 0 0 (m : Int) = 0
    unfold ckTerm
    rw [if_neg (by omega), if_pos rfl, if_pos (by omega)]
  · by_cases e : m = v
    · subst e
      exact ⟨r, List.getElem?_set_self hml, hp.1⟩
    · obtain ⟨r', h1, h2⟩ := h.has v (by omega) hw
      exact ⟨r', by rw [List.getElem?_set_ne e]; exact h1, pre_at hp.pre h2⟩
  · rcases hp.new hj with hj | rfl
    · obtain ⟨v, h1, h2, h3⟩ := h.all j hj
      exact ⟨v, by omega, h2, by rw [List.getElem?_set_ne (by omega)]; exact h3⟩
    · exact ⟨m, by omega, hb, List.getElem?_set_self hml⟩

/-! ### The steps -/

theorem lv_before {p : List Bk} {want v i k : Nat} {b : Bk} {s : St} (hb : p[i]? = some b) (hs : b.code[k]? = some s) (h : Lv p want v (i, k)) : UsesS s v ∨ (s.to ≠ (v : Int) ∧ Lv p want v (i, k + 1)) := by
  have hk := (List.getElem?_eq_some_iff.1 hs).1
  cases h with
  | here h1 =>
    obtain ⟨b', hb', h2⟩ := h1
    simp only at hb' h2
    rw [hb] at hb'
    injection hb' with hb'
    subst hb'
    rcases h2 with ⟨s', hs', hu⟩ | ⟨h3, _⟩
    · rw [hs] at hs'
      injection hs' with hs'
      subst hs'
      exact .inl hu
    · omega
  | on h1 h2 =>
    obtain ⟨b', hb', h3⟩ := h1
    simp only at hb' h3
    rw [hb] at hb'
    injection hb' with hb'
    subst hb'
    rcases h3 with ⟨s', hs', hu, e⟩ | ⟨h3, _⟩
    · rw [hs] at hs'
      injection hs' with hs'
      subst hs' e
      exact .inr ⟨hu, h2⟩
    · omega

theorem lv_end {p : List Bk} {want v i : Nat} {b : Bk} (hb : p[i]? = some b) (ht : b.test = -1) (hn : b.th = -1) : Lv p want v (i, b.code.length) ↔ want.testBit v = true := by
  constructor
  · intro h
    cases h with
    | here h1 =>
      obtain ⟨b', hb', h2⟩ := h1
      simp only at hb' h2
      rw [hb] at hb'
      injection hb' with hb'
      subst hb'
      rcases h2 with ⟨s', hs', _⟩ | ⟨_, h3⟩
      · have := (List.getElem?_eq_some_iff.1 hs').1
        omega
      · rcases h3 with h3 | h3
        · omega
        · exact h3.2.2
    | on h1 h2 =>
      obtain ⟨b', hb', h3⟩ := h1
      simp only at hb' h3
      rw [hb] at hb'
      injection hb' with hb'
      subst hb'
      rcases h3 with ⟨s', hs', _⟩ | ⟨_, j, hj, _⟩
      · have := (List.getElem?_eq_some_iff.1 hs').1
        omega
      · unfold nxB at hj
        rw [if_pos hn, if_neg (by simp [ht])] at hj
        simp at hj
  · exact fun h => lv_stop hb rfl ht hn h

/-- a step as a term -/
def stT (s : St) : Tm := ⟨s.op, s.a, s.b, s.v⟩

/-- the first k steps are done -/
structure WsI (n : Nat) (p : List Bk) (want : Nat) (c : List St) (k : Nat) (T : List Tm) (at_ : List Nat) : Prop where
  len : at_.length = n
  ok : OkT n T
  nd : T.Nodup
  tl : T.length ≤ n + k
  has : ∀ v, v < n → Lv p want v (0, k) → ∃ r, at_[v]? = some r ∧ r < T.length ∧ ∀ hv, ValsOk n hv → V hv T r = (doS (c.take k) hv).getD v 0
  all : ∀ j, j < T.length → ∃ v r, v < n ∧ Lv p want v (0, k) ∧ at_[v]? = some r ∧ Dep T r j

theorem WvI.done {n W want : Nat} {p : List Bk} {c : List St} {T : List Tm} {at_ : List Nat} (h : WvI n W n T at_) (hw : ∀ v, v < n → (W.testBit v = true ↔ Lv p want v (0, 0))) : WsI n p want c 0 T at_ :=
  ⟨h.len, h.ok, h.nd, h.tl, fun v hv hl => by
    obtain ⟨r, h1, h2⟩ := h.has v hv ((hw v hv).2 hl)
    refine ⟨r, h1, (List.getElem?_eq_some_iff.1 h2).1, fun hv _ => ?_⟩
    rw [V_var h2 rfl]
    simp [doS], fun j hj => by
    obtain ⟨v, h1, h2, h3⟩ := h.all j hj
    exact ⟨v, j, h1, (hw v h1).1 h2, h3, .refl _⟩⟩

theorem doS_take {c : List St} {k : Nat} {s : St} (h : c[k]? = some s) (v : List Int) : doS (c.take (k + 1)) v = (doS (c.take k) v).set s.to.toNat (stV (doS (c.take k) v) s (doS (c.take k) v)) := by
  rw [List.take_add_one, h, doS_append]
  rfl

theorem WsI.resOk {n want k : Nat} {p : List Bk} {b : Bk} {s : St} {T : List Tm} {at_ : List Nat} (h : WsI n p want b.code k T at_) (hb : p[0]? = some b) (hs : b.code[k]? = some s) (hc : ckStep n n s.op s.to s.a s.b s.v = 0) : ResOk n T at_ at_ (stT s) := by
  obtain ⟨_, hcase⟩ := ckStep_cases hc
  refine ⟨fun h1 => ?_, fun h2 r hr => ?_, fun h3 r hr => ?_⟩
  · simp only [stT] at h1 ⊢; omega
  · simp only [stT] at h2 hr
    obtain ⟨r', e, hl, _⟩ := h.has s.v.toNat (by omega) (lv_use hb hs (.inl ⟨h2, by omega⟩))
    rw [hr] at e
    injection e with e
    omega
  · simp only [stT] at h3 hr
    rcases hr with hr | hr
    · obtain ⟨r', e, hl, _⟩ := h.has s.a.toNat (by omega) (lv_use hb hs (.inr ⟨h3, .inl (by omega)⟩))
      rw [hr] at e
      injection e with e
      omega
    · obtain ⟨r', e, hl, _⟩ := h.has s.b.toNat (by omega) (lv_use hb hs (.inr ⟨h3, .inr (by omega)⟩))
      rw [hr] at e
      injection e with e
      omega

theorem WsI.step {n want k r : Nat} {p : List Bk} {b : Bk} {s : St} {T T' : List Tm} {at_ : List Nat} (h : WsI n p want b.code k T at_) (hb : p[0]? = some b) (hs : b.code[k]? = some s) (hc : ckStep n n s.op s.to s.a s.b s.v = 0) (hn : Nf want p)
    (hr : ResT T at_ at_ (stT s) T' r) : WsI n p want b.code (k + 1) T' (at_.set s.to.toNat r) := by
  have hk := h.resOk hb hs hc
  obtain ⟨⟨t0, t1⟩, hcase⟩ := ckStep_cases hc
  have htl : s.to.toNat < at_.length := by rw [h.len]; omega
  have hpre := hr.pre
  have hok := hr.ok hk h.ok
  have hlt := hr.lt hk
  have hto : ((s.to.toNat : Nat) : Int) = s.to := by omega
  refine ⟨by simp [h.len], hok, hr.nodup h.nd, by have := hr.len; have := h.tl; omega, fun v hv hl => ?_, fun j hj => ?_⟩
  · by_cases e : s.to.toNat = v
    · refine ⟨r, by rw [← e]; exact List.getElem?_set_self htl, hlt, fun hv' hvo => ?_⟩
      have hdl : (doS (b.code.take k) hv').length = n := by rw [doS_len]; exact hvo.1
      rw [doS_take hs, getD_set _ _ _ _ (by rw [hdl]; omega), if_pos e]
      unfold stV
      rcases hr.val hk hv' with ⟨h1, h2⟩ | ⟨h1, h2, h3⟩ | ⟨h1, x, y, h2, h3, _, h4⟩
      · simp only [stT] at h1 h2
        rw [if_pos h1, h2]
      · simp only [stT] at h1 h2
        obtain ⟨r', g1, g2, g3⟩ := h.has s.v.toNat (by omega) (lv_use hb hs (.inl ⟨h1, by omega⟩))
        rw [h2] at g1
        injection g1 with g1
        subst g1
        rw [if_neg (by omega), if_pos h1, h3, g3 hv' hvo]
      · simp only [stT] at h1 h2 h3 h4
        obtain ⟨r1, g1, g2, g3⟩ := h.has s.a.toNat (by omega) (lv_use hb hs (.inr ⟨h1, .inl (by omega)⟩))
        obtain ⟨r2, q1, q2, q3⟩ := h.has s.b.toNat (by omega) (lv_use hb hs (.inr ⟨h1, .inr (by omega)⟩))
        rw [h2] at g1
        rw [h3] at q1
        injection g1 with g1
        injection q1 with q1
        subst g1 q1
        rw [if_neg (by omega), if_neg (by omega), h4 hok, g3 hv' hvo, q3 hv' hvo]
    · obtain ⟨r', g1, g2, g3⟩ := h.has v hv (lv_step hb hs (by omega) hl)
      refine ⟨r', by rw [List.getElem?_set_ne e]; exact g1, Nat.lt_of_lt_of_le g2 hpre.length_le, fun hv' hvo => ?_⟩
      have hdl : (doS (b.code.take k) hv').length = n := by rw [doS_len]; exact hvo.1
      rw [doS_take hs, getD_set _ _ _ _ (by rw [hdl]; omega), if_neg e, V_pre hpre g2, g3 hv' hvo]
  · have hme : ∃ v r', v < n ∧ Lv p want v (0, k + 1) ∧ (at_.set s.to.toNat r)[v]? = some r' ∧ Dep T' r' r := ⟨s.to.toNat, r, by omega, hn 0 k b s hb hs, List.getElem?_set_self htl, .refl _⟩
    have hdep : ∀ j, Dep T' r j → ∃ v r', v < n ∧ Lv p want v (0, k + 1) ∧ (at_.set s.to.toNat r)[v]? = some r' ∧ Dep T' r' j := fun j hd => ⟨s.to.toNat, r, by omega, hn 0 k b s hb hs, List.getElem?_set_self htl, hd⟩
    rcases hr.new hj with hj | rfl
    · obtain ⟨v, r0, hv, hl, g1, g2⟩ := h.all j hj
      rcases lv_before hb hs hl with hu | ⟨hne, hl⟩
      · refine hdep j ?_
        rcases hr.val hk [] with ⟨h1, _⟩ | ⟨h1, h2, _⟩ | ⟨h1, x, y, h2, h3, h4, _⟩
        · simp only [stT] at h1
          rcases hu with ⟨h5, _⟩ | ⟨h5, _⟩ <;> omega
        · simp only [stT] at h1 h2
          rcases hu with ⟨_, h5⟩ | ⟨h5, _⟩
          · rw [h5, Int.toNat_natCast, g1] at h2
            injection h2 with h2
            subst h2
            exact g2.pre hpre
          · omega
        · simp only [stT] at h1 h2 h3 h4
          rcases hu with ⟨h5, _⟩ | ⟨_, h5 | h5⟩
          · omega
          · rw [h5, Int.toNat_natCast, g1] at h2
            injection h2 with h2
            subst h2
            exact .step h4 h1 (.inl rfl) (g2.pre hpre)
          · rw [h5, Int.toNat_natCast, g1] at h3
            injection h3 with h3
            subst h3
            exact .step h4 h1 (.inr rfl) (g2.pre hpre)
      · exact ⟨v, r0, hv, hl, by rw [List.getElem?_set_ne (by omega)]; exact g1, g2.pre hpre⟩
    · exact hdep _ (.refl _)

/-! ### The terms behind the steps -/

theorem usW_only : ∀ (bs : List Bool) (ts : List Tm) (acc v : Nat), (usW bs ts acc).testBit v = true → acc.testBit v = true ∨ ∃ (j : Nat) (t : Tm), bs[j]? = some true ∧ ts[j]? = some t ∧ t.op = 2 ∧ t.v.toNat = v
  | [], _, _, _, h => .inl (by simpa [usW] using h)
  | _ :: _, [], _, _, h => .inl (by simpa [usW] using h)
  | b :: bs, t :: ts, acc, v, h => by
    simp only [usW] at h
    rcases usW_only bs ts _ v h with h1 | ⟨j, u, h1, h2, h3⟩
    · split at h1
      · rename_i hc
        rw [Nat.testBit_or, Bool.or_eq_true, Nat.testBit_two_pow] at h1
        rcases h1 with h1 | h1
        · exact .inl h1
        · exact .inr ⟨0, t, by simp [hc.1], rfl, hc.2, by simpa using h1⟩
      · exact .inl h1
    · exact .inr ⟨j + 1, u, by simpa using h1, by simpa using h2, h3⟩

/-- the first k terms are done -/
structure WpI (n : Nat) (c : List St) (want : Nat) (q : List Tm) (at_ : List Nat) (k : Nat) (T : List Tm) (pl : List Nat) : Prop where
  len : pl.length = k
  al : at_.length = n
  ok : OkT n T
  nd : T.Nodup
  tl : T.length ≤ n + c.length + k
  atv : ∀ v, v < n → want.testBit v = true → ∃ r, at_[v]? = some r ∧ r < T.length ∧ ∀ hv, ValsOk n hv → V hv T r = (doS c hv).getD v 0
  has : ∀ i, i < k → ∃ r, pl[i]? = some r ∧ r < T.length ∧ ∀ hv, ValsOk n hv → V hv T r = V (doS c hv) q i
  opr : ∀ i t, i < k → q[i]? = some t → 3 ≤ t.op → ∃ r x y : Nat, pl[i]? = some r ∧ pl[t.a.toNat]? = some x ∧ pl[t.b.toNat]? = some y ∧ T[r]? = some ⟨t.op, x, y, 0⟩
  var : ∀ i t, i < k → q[i]? = some t → t.op = 2 → pl[i]? = at_[t.v.toNat]?
  all : ∀ j, j < T.length → (∃ v r, v < n ∧ want.testBit v = true ∧ at_[v]? = some r ∧ Dep T r j) ∨ ∃ i r, i < k ∧ pl[i]? = some r ∧ Dep T r j

theorem WsI.done {n want : Nat} {p : List Bk} {b : Bk} {T : List Tm} {at_ : List Nat} {q : List Tm} (h : WsI n p want b.code b.code.length T at_) (hb : p[0]? = some b) (ht : b.test = -1) (hn : b.th = -1) : WpI n b.code want q at_ 0 T [] := by
  refine ⟨rfl, h.len, h.ok, h.nd, by have := h.tl; omega, fun v hv hw => ?_, fun i hi => by omega, fun i t hi => by omega, fun i t hi => by omega, fun j hj => ?_⟩
  · obtain ⟨r, h1, h2, h3⟩ := h.has v hv ((lv_end hb ht hn).2 hw)
    rw [List.take_length] at h3
    exact ⟨r, h1, h2, h3⟩
  · obtain ⟨v, r, h1, h2, h3⟩ := h.all j hj
    exact .inl ⟨v, r, h1, (lv_end hb ht hn).1 h2, h3⟩

section
variable {n k : Nat} {c : List St} {q : List Tm} {at_ pl : List Nat} {T T' : List Tm} {t : Tm}

theorem uses_of (hall : ∀ r, r < q.length → (needL q).getD r false = true) (ht : q[k]? = some t) (ho : t.op = 2) : (usesW q).testBit t.v.toNat = true := by
  have hk := (List.getElem?_eq_some_iff.1 ht).1
  refine usW_has (needL q) q 0 k t ?_ ht ho
  have := hall k hk
  have hl : k < (needL q).length := by rw [needL_len]; exact hk
  rw [List.getD_eq_getElem?_getD, List.getElem?_eq_getElem hl] at this
  rw [List.getElem?_eq_getElem hl]
  simpa using this

theorem WpI.resOk (h : WpI n c (usesW q) q at_ k T pl) (hc : ckTerms n q = 0) (hall : ∀ r, r < q.length → (needL q).getD r false = true) (ht : q[k]? = some t) : ResOk n T at_ pl t := by
  have hcs := ckTerm_cases (ckTerms_at hc ht)
  refine ⟨fun h1 => by omega, fun h2 r hr => ?_, fun h3 r hr => ?_⟩
  · obtain ⟨r', e, hl, _⟩ := h.atv t.v.toNat (by omega) (uses_of hall ht h2)
    rw [hr] at e
    injection e with e
    omega
  · rcases hr with hr | hr
    · obtain ⟨r', e, hl, _⟩ := h.has t.a.toNat (by omega)
      rw [hr] at e
      injection e with e
      omega
    · obtain ⟨r', e, hl, _⟩ := h.has t.b.toNat (by omega)
      rw [hr] at e
      injection e with e
      omega

theorem WpI.step (h : WpI n c (usesW q) q at_ k T pl) (hc : ckTerms n q = 0) (hall : ∀ r, r < q.length → (needL q).getD r false = true) (ht : q[k]? = some t) {r : Nat} (hr : ResT T at_ pl t T' r) : WpI n c (usesW q) q at_ (k + 1) T' (pl ++ [r]) := by
  have hk := h.resOk hc hall ht
  have hcs := ckTerm_cases (ckTerms_at hc ht)
  have hpre := hr.pre
  have hok := hr.ok hk h.ok
  have hlt := hr.lt hk
  have hle := hpre.length_le
  have hlast : (pl ++ [r])[k]? = some r := by rw [List.getElem?_append_right (by rw [h.len]; omega), h.len]; simp
  have hold : ∀ {i x : Nat}, pl[i]? = some x → (pl ++ [r])[i]? = some x := fun {i x} hx => by rw [List.getElem?_append_left (List.getElem?_eq_some_iff.1 hx).1]; exact hx
  refine ⟨by simp [h.len], h.al, hok, hr.nodup h.nd, by have := hr.len; have := h.tl; omega, fun v hv hw => ?_, fun i hi => ?_, fun i u hi hu h3 => ?_, fun i u hi hu h2 => ?_, fun j hj => ?_⟩
  · obtain ⟨r', h1, h2, h3⟩ := h.atv v hv hw
    exact ⟨r', h1, by omega, fun hv' hvo => by rw [V_pre hpre h2, h3 hv' hvo]⟩
  · by_cases e : i = k
    · subst e
      refine ⟨r, hlast, hlt, fun hv hvo => ?_⟩
      rcases hr.val hk hv with ⟨h1, h2⟩ | ⟨h1, h2, h3⟩ | ⟨h1, x, y, h2, h3, _, h4⟩
      · rw [h2, V_num ht h1]
      · obtain ⟨r', g1, g2, g3⟩ := h.atv t.v.toNat (by omega) (uses_of hall ht h1)
        rw [h2] at g1
        injection g1 with g1
        subst g1
        rw [h3, g3 hv hvo, V_var ht h1]
      · obtain ⟨r1, g1, g2, g3⟩ := h.has t.a.toNat (by omega)
        obtain ⟨r2, q1, q2, q3⟩ := h.has t.b.toNat (by omega)
        rw [h2] at g1
        rw [h3] at q1
        injection g1 with g1
        injection q1 with q1
        subst g1 q1
        rw [h4 hok, g3 hv hvo, q3 hv hvo, V_op ht h1 (by omega) (by omega)]
    · obtain ⟨r', h1, h2, h3⟩ := h.has i (by omega)
      exact ⟨r', hold h1, by omega, fun hv hvo => by rw [V_pre hpre h2, h3 hv hvo]⟩
  · by_cases e : i = k
    · subst e
      rw [ht] at hu
      injection hu with hu
      subst hu
      rcases hr.val hk [] with ⟨h1, _⟩ | ⟨h1, _⟩ | ⟨h1, x, y, h2, h4, h5, _⟩
      · omega
      · omega
      · exact ⟨r, x, y, hlast, hold h2, hold h4, h5⟩
    · obtain ⟨r', x, y, h1, h2, h4, h5⟩ := h.opr i u (by omega) hu h3
      exact ⟨r', x, y, hold h1, hold h2, hold h4, pre_at hpre h5⟩
  · by_cases e : i = k
    · subst e
      rw [ht] at hu
      injection hu with hu
      subst hu
      rcases hr.val hk [] with ⟨h1, _⟩ | ⟨h1, h3, _⟩ | ⟨h1, _⟩
      · omega
      · rw [hlast, h3]
      · omega
    · rw [List.getElem?_append_left (by rw [h.len]; omega)]
      exact h.var i u (by omega) hu h2
  · rcases hr.new hj with hj | rfl
    · rcases h.all j hj with ⟨v, r', h1, h2, h3, h4⟩ | ⟨i, r', h1, h2, h3⟩
      · exact .inl ⟨v, r', h1, h2, h3, h4.pre hpre⟩
      · exact .inr ⟨i, r', by omega, hold h2, h3.pre hpre⟩
    · exact .inr ⟨k, _, by omega, hlast, .refl _⟩

/-- all are done: the last one's place is the last -/
theorem WpI.done (h : WpI n c (usesW q) q at_ q.length T pl) (hc : ckTerms n q = 0) (hall : ∀ r, r < q.length → (needL q).getD r false = true) : 0 < T.length ∧ ∀ hv, ValsOk n hv → valT T hv = valT q (doS c hv) := by
  obtain ⟨_, _, hq, _⟩ := ckTerms_bd hc
  obtain ⟨z, hz, hzl, hzv⟩ := h.has (q.length - 1) (by omega)
  have hcl : Closed q fun i => ∃ r, pl[i]? = some r ∧ Dep T z r := by
    refine ⟨⟨z, hz, .refl _⟩, fun j t ⟨r, hr, hd⟩ ht ho => ?_⟩
    have hj := (List.getElem?_eq_some_iff.1 ht).1
    have hcs := ckTerm_cases (ckTerms_at hc ht)
    obtain ⟨r', x, y, h1, h2, h3, h4⟩ := h.opr j t hj ht (by omega)
    rw [hr] at h1
    injection h1 with h1
    subst h1
    exact ⟨⟨x, h2, hd.trans (.step h4 (show 3 ≤ t.op by omega) (.inl rfl) (.refl _))⟩, ⟨y, h3, hd.trans (.step h4 (show 3 ≤ t.op by omega) (.inr rfl) (.refl _))⟩⟩
  have hevery : ∀ i, i < q.length → ∃ r, pl[i]? = some r ∧ Dep T z r := fun i hi => needL_sub hcl i (hall i hi)
  have hdz : ∀ j, j < T.length → Dep T z j := fun j hj => by
    rcases h.all j hj with ⟨v, r, h1, h2, h3, h4⟩ | ⟨i, r, h1, h2, h3⟩
    · rcases usW_only (needL q) q 0 v h2 with h5 | ⟨i, t, _, ht, ho, hvv⟩
      · simp at h5
      · have hi := (List.getElem?_eq_some_iff.1 ht).1
        obtain ⟨r', g1, g2⟩ := hevery i hi
        have := h.var i t hi ht ho
        rw [hvv, h3, g1] at this
        injection this with this
        subst this
        exact g2.trans h4
    · obtain ⟨r', g1, g2⟩ := hevery i h1
      rw [h2] at g1
      injection g1 with g1
      subst g1
      exact g2.trans h3
  have hlast : z = T.length - 1 := by
    have := Dep.le h.ok (hdz (T.length - 1) (by omega))
    omega
  refine ⟨by omega, fun hv hvo => ?_⟩
  have := hzv hv hvo
  rw [hlast] at this
  exact this

end

/-! ### All together -/

/-- steps as a program -/
def bkS (c : List St) : Bk := ⟨c, -1, -1, 0⟩

theorem goP_one {b : Bk} (ht : b.test = -1) (hn : b.th = -1) (hv : List Int) : goP [b] 200 0 hv = some (doS b.code hv, [0]) := by
  rw [show (0 : Int) = ((0 : Nat) : Int) from rfl, goP_step (p := [b]) (f := 199) (i := 0) (b := b) rfl]
  have : goB b (doS b.code hv) = -1 := by unfold goB; rw [if_neg (by omega), hn]
  rw [this, goP_stop]
  rfl

theorem cuts_one' {want : Nat} {p q : List Bk} (h : Cuts want p q) : ∀ {b : Bk}, p = [b] → ∃ b', q = [b'] ∧ b'.test = b.test ∧ b'.th = b.th ∧ b'.el = b.el ∧ b'.code.length ≤ b.code.length := by
  induction h with
  | done p => rintro b rfl; exact ⟨b, rfl, rfl, rfl, rfl, Nat.le_refl _⟩
  | @more p q r h1 _ ih =>
    rintro b rfl
    obtain @⟨i, k, b', s, hb, hs, hd⟩ := h1
    have hi := (List.getElem?_eq_some_iff.1 hb).1
    have hi0 : i = 0 := by simpa using hi
    subst hi0
    simp at hb
    subst hb
    obtain ⟨b2, h2, h3, h4, h5, h6⟩ := ih (b := dropS b k) rfl
    refine ⟨b2, h2, h3, h4, h5, Nat.le_trans h6 ?_⟩
    show (b.code.eraseIdx k).length ≤ _
    rw [List.length_eraseIdx]
    split <;> omega

/-- S1: what is told of steps and of terms behind them -/
structure Ahd (n : Nat) (code : List St) (post T : List Tm) : Prop where
  pos : 0 < T.length
  few : T.length ≤ 64
  ok : OkT n T
  val : ∀ hv, ValsOk n hv → valT T hv = valT post (doS code hv)

theorem ahd_of {n : Nat} {code : List St} {post T : List Tm} {b : Bk} {at_ pl : List Nat} (hcp : ckProg n [bkS code] = 0) (hc : ckTerms n post = 0) (hcu : Cuts (usesW (prL post)) [bkS code] [b]) (ht : b.test = -1) (hn : b.th = -1)
    (h : WpI n b.code (usesW (prL post)) (prL post) at_ (prL post).length T pl) : Ahd n code post T := by
  have hq := pr_ck hc
  obtain ⟨h1, h2⟩ := h.done hq fun r hr => pr_all hc hr
  obtain ⟨_, b2, _, _, b5, _⟩ := ckProg_bd hcp
  obtain ⟨b', e, _, _, _, hlen⟩ := cuts_one' hcu rfl
  simp only [List.cons.injEq, and_true] at e
  subst e
  have hcl : (bkS code).code.length = code.length := rfl
  have hm : manyS [bkS code] = code.length := by simp [manyS, bkS]
  obtain ⟨_, _, _, q4⟩ := ckTerms_bd hq
  have htl := h.tl
  refine ⟨h1, by omega, h.ok, fun hv hvo => ?_⟩
  rw [h2 hv hvo, ← valT_pr hc]
  have hg := hcu.go hcp 200 hv hvo.1
  rw [goP_one rfl rfl, goP_one ht hn] at hg
  obtain ⟨_, l1, l2, hag⟩ := hg
  refine val_agree hq fun v hv2 => ?_
  by_cases hvn : v < n
  · exact (hag v hvn hv2).symm
  · have hz : ∀ l : List Int, l.length = n → l.getD v 0 = 0 := fun l hl => by rw [List.getD_eq_getElem?_getD, List.getElem?_eq_none (by omega)]; rfl
    rw [hz _ l2]
    exact (hz _ l1).symm

end Go.Proofs.Ytfhnhbkdhdocjaa
