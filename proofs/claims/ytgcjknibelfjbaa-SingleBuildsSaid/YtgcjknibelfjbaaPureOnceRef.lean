/-
  Plain: what codemasonref.OnceSet looks at, so far as it has come (M3): no program's text.
-/
import Derived.Test.YtgcjknibelfjbaaPureNames
import Derived.Test.YtgcjknibelfjbaaPureSnRun
namespace Go.Proofs.Ytgcjknibelfjbaa
set_option linter.unusedSimpArgs false
set_option linter.unusedVariables false

/-- so far -/
def UpTo (P : Nat → Prop) (k : Nat) : Prop := ∀ j, j < k → P j

theorem UpTo.zero (P : Nat → Prop) : UpTo P 0 := fun j h => by omega

theorem UpTo.step {P : Nat → Prop} {k : Nat} (h : UpTo P k) (h2 : P k) : UpTo P (k + 1) := fun j hj => by
  by_cases e : j = k
  · subst e; exact h2
  · exact h j (by omega)

/-- a name is set once at most -/
def OneN (nv : Nat) (l : List Sg) (n : Nat) : Prop := (if n < nv then 1 else 0) + setAll (n : Int) l ≤ 1

def JoinOk (vars : Int) (l : List Sg) (f n : Int) : Prop := (0 ≤ f ∧ ¬ Rea (nxP (bareP l)) (-1) 0 f.toNat) ∨ Av vars l n f (if 0 ≤ f then (l.getD f.toNat sg0).code.length else 0)

/-- one join, so far -/
def FrOk (vars : Int) (l : List Sg) (row fr : List Int) (k : Nat) : Prop := ∀ f n : Int, row[k]? = some f → fr[k]? = some n → JoinOk vars l f n

def JnOk (vars : Int) (l : List Sg) (row : List Int) (js : List Jn) (c : Nat) : Prop := ∀ j : Jn, js[c]? = some j → ∀ k, FrOk vars l row j.fr k

def StOk (vars : Int) (l : List Sg) (i : Int) (k : Nat) (op v a b : Int) : Prop := (op = 2 → Av vars l v i k) ∧ (3 ≤ op → Av vars l a i k ∧ Av vars l b i k)

def CdOk (vars : Int) (l : List Sg) (i : Int) (co : List St) (k : Nat) : Prop := ∀ s : St, co[k]? = some s → StOk vars l i k s.op s.v s.a s.b

def LaOk (vars : Int) (l : List Sg) (i : Int) (m : Nat) (la : List Int) (k : Nat) : Prop := ∀ n : Int, la[k]? = some n → Av vars l n i m

def BlkOn (vars : Int) (l : List Sg) (hs : List Nat) (x : Nat) : Prop := ∀ i, hs[x]? = some i → OnB vars l i (l.getD i sg0)

theorem onB_of {vars : Int} {l : List Sg} {i m : Nat} {row : List Int} {js : List Jn} {co : List St} {te th el : Int} {la : List Int} (hrow : (frP l)[i]? = some row) (hm : co.length = m)
    (h1 : UpTo (JnOk vars l row js) js.length) (h2 : UpTo (CdOk vars l i co) co.length) (h3 : 0 ≤ te → Av vars l te i m) (h4 : UpTo (LaOk vars l i m la) la.length) : OnB vars l i ⟨js, co, te, th, el, la⟩ := by
  have hg : (frP l).getD i [] = row := by rw [List.getD_eq_getElem?_getD, hrow]; rfl
  subst hm
  refine ⟨fun j hj k f n hf hn => ?_, fun k st hk => ?_, h3, fun n hn => ?_⟩
  · obtain ⟨c, hc, rfl⟩ := List.getElem_of_mem hj
    rw [hg] at hf
    exact h1 c hc _ (List.getElem?_eq_getElem hc) k f n hf hn
  · exact h2 k (List.getElem?_eq_some_iff.1 hk).1 st hk
  · obtain ⟨c, hc, rfl⟩ := List.getElem_of_mem hn
    exact h4 c hc _ (List.getElem?_eq_getElem hc)

section
variable {vars : Int} {l : List Sg} {i : Nat} {s : Sg} (h : OnP vars l) (hs : l[i]? = some s) (hr : Rea (nxP (bareP l)) (-1) 0 i)
include h hs hr

theorem OnP.join {row : List Int} {c k : Nat} {j : Jn} {f n : Int} (hrow : (frP l)[i]? = some row) (hj : s.joins[c]? = some j) (hf : row[k]? = some f) (hn : j.fr[k]? = some n) : JoinOk vars l f n := by
  have hg : (frP l).getD i [] = row := by rw [List.getD_eq_getElem?_getD, hrow]; rfl
  exact (h.use i s hs hr).joins j (List.mem_of_getElem? hj) k f n (by rw [hg]; exact hf) hn

theorem OnP.step {k : Nat} {st : St} (hk : s.code[k]? = some st) : StOk vars l i k st.op st.v st.a st.b := (h.use i s hs hr).code k st hk

theorem OnP.test (ht : 0 ≤ s.test) : Av vars l s.test i s.code.length := (h.use i s hs hr).test ht

theorem OnP.last {k : Nat} {n : Int} (hk : s.last[k]? = some n) : Av vars l n i s.code.length := (h.use i s hs hr).last n (List.mem_of_getElem? hk)

end

theorem onP_of {nv : Nat} {l : List Sg} {hs : List Nat} (h1 : UpTo (OneN nv l) 128) (hm : ∀ j, j ∈ hs ↔ Rea (nxP (bareP l)) (-1) 0 j) (h2 : UpTo (BlkOn nv l hs) hs.length) : OnP nv l := by
  refine ⟨fun n h0 hn => ?_, fun i s hi hr => ?_⟩
  · obtain ⟨m, rfl⟩ := Int.eq_ofNat_of_zero_le h0
    have := h1 m (by omega)
    unfold OneN at this
    have e : ((m : Int) < (nv : Int)) ↔ m < nv := by omega
    simp only [e]
    exact this
  · obtain ⟨x, hx, e⟩ := List.getElem_of_mem ((hm i).2 hr)
    have := h2 x hx i (by rw [List.getElem?_eq_getElem hx, e])
    have hg : l.getD i sg0 = s := by rw [List.getD_eq_getElem?_getD, hi]; rfl
    rwa [hg] at this

theorem onP_one {nv : Nat} {l : List Sg} (h : OnP nv l) {n : Nat} (hn : n < 128) : OneN nv l n := by
  have := h.one n (by omega) (by omega)
  unfold OneN
  have e : ((n : Int) < (nv : Int)) ↔ n < nv := by omega
  simp only [e] at this
  exact this

theorem setAll_drop {n : Int} {l : List Sg} {k : Nat} {s : Sg} (h : l[k]? = some s) : setAll n (l.drop k) = setN s n s.code.length + setAll n (l.drop (k + 1)) := by
  rw [drop_at h]
  rfl

end Go.Proofs.Ytgcjknibelfjbaa
