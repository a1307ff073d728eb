/-
  codemasonref.Froms, Bare (M1): from where one comes to each block.
-/
import Derived.Test.YtgcjknibelfjbaaSingleOpen
import Derived.Test.YtgcjknibelfjbaaBlockNx
import Derived.Test.YtgcjknibelfjbaaTurned
import Derived.Test.YtgcjknibelfjbaaLiveRaw
namespace Go.Proofs.Ytgcjknibelfjbaa
open Go.RowKit
set_option linter.unusedSimpArgs false
set_option linter.unusedVariables false
set_option maxRecDepth 100000

theorem turnG_tr (nx : List (List Int)) : turnG nx = trG nx := rfl

theorem trG_get {nx : List (List Int)} {j : Nat} {row : List Int} (h : (trG nx)[j]? = some row) : row = ni (trR nx j nx.length) ∧ j < nx.length := by
  have hl := (List.getElem?_eq_some_iff.1 h).1
  rw [trG_len] at hl
  rw [trG_at hl] at h
  injection h with h
  exact ⟨h.symm, hl⟩

theorem frG_at {nx : List (List Int)} {j : Nat} (h : j < nx.length) : (frG nx)[j]? = some (if j = 0 then -1 :: ni (trR nx 0 nx.length) else ni (trR nx j nx.length)) := by
  have hl := trG_len nx
  have ha := trG_at h
  unfold frG
  rw [turnG_tr]
  match e : trG nx with
  | [] => rw [e] at hl; simp at hl; omega
  | r :: t =>
    rw [e] at ha
    simp only []
    cases j with
    | zero =>
      simp only [List.getElem?_cons_zero, Option.some.injEq] at ha
      rw [List.getElem?_cons_zero, if_pos rfl, ha]
    | succ j =>
      rw [List.getElem?_cons_succ] at ha ⊢
      rw [ha, if_neg (by omega)]

/-- whose ways lead into it -/
theorem nxP_wayS {p : List Bk} (h1 : 1 ≤ p.length) (h2 : p.length ≤ 8) (h : ∀ b ∈ p, (b.th = -1 ∨ (0 ≤ b.th ∧ b.th < p.length)) ∧ (b.test ≠ -1 → 0 ≤ b.el ∧ b.el < p.length)) : ckWay (nxP p) = 0 := by
  have hl : (nxP p).length = p.length := by simp [nxP]
  refine ckWay_of (by omega) (by omega) fun r hr => ?_
  rw [hl]
  obtain ⟨b, hb, rfl⟩ := List.mem_map.1 hr
  obtain ⟨h3, h4⟩ := h b hb
  refine ⟨Nat.le_trans (nxB_len _) (by omega), fun x hx => ?_⟩
  unfold nxB at hx
  rw [List.mem_append] at hx
  rcases hx with hx | hx
  · split at hx
    · cases hx
    · rw [List.mem_singleton] at hx; omega
  · split at hx
    · rename_i h5
      rw [List.mem_singleton] at hx
      have := h4 h5.1
      omega
    · cases hx

theorem blockS_app : AppTy Try.prog 36 45 4 48 := appTy_of (z := .agg #[.slice none 0 0, .int .i64 0, .int .i64 0, .int .i64 0]) Try.underlying36 (by kernel_rfl) rfl (by omega)

theorem cells_litS {X : World} {k : Nat} (hk : k = X.heap.size) (l : List Value) (cs : Array Value) (hcs : cs = l.toArray) (t : TypeId) : ∀ ad : Addr, some (⟨k, 0, none⟩ : Addr) = some ad → ∀ j u, l[j]? = some u → (X.alloc (.cells cs t)).cell? (ad.add j) = some u := by
  subst hcs
  exact cells_at hk l t

/-- bare blocks, as cells -/
def bareQ (l : List Sg) : List (Bk × Option Addr × Nat) := l.map fun s => (bareS s, none, 0)

theorem bareQ_fst (l : List Sg) : (bareQ l).map (·.1) = bareP l := by simp [bareQ, bareP]

theorem bareQ_take {l : List Sg} {k : Nat} {s : Sg} (h : l[k]? = some s) : rv cBk (bareQ (l.take (k + 1))) = rv cBk (bareQ (l.take k)) ++ [.slice none 0 0, .int .i64 s.test, .int .i64 s.th, .int .i64 s.el] := by
  have : bareQ (l.take (k + 1)) = bareQ (l.take k) ++ [(bareS s, none, 0)] := by
    unfold bareQ
    rw [List.take_add_one, h]
    simp
  rw [this, rv_append, rv_one]
  rfl

set_option maxHeartbeats 4000000 in
theorem bare_any (A : Option Addr) (len cap : Nat) (l : List Sg) (w : World) (hx : RdN w w.heap.size A l) (hl : l.length = len) (h8 : len ≤ 8) :
    Calls Try.prog 24 #[.slice A len cap] w fun e w' => ∃ A' c', e = .returned (.slice A' len c') ∧ RdP w' w'.heap.size A' (bareP l) ∧ Below w.heap.size w w' := by
  have HL := Lib.hid hl
  have HT := Lib.hid (fun (k : Nat) (s : Sg) (h : l[k]? = some s) => bareQ_take h)
  have H0 : Hid (rv cBk (bareQ (l.take 0)) = []) := Lib.hid rfl
  clear hl
  go_enter Try.func24, Try.ntmps24
  go_wp2
  go_loopw [3, 8] (fun z3 z8 wr => ∃ (k : Nat) (A3 : Option Addr) (c3 : Nat), k ≤ len ∧ z8 = .int .i64 k ∧ z3 = .slice A3 k c3 ∧ wr.ownsRow w.heap.size 45 4 (.slice A3 k c3) k (rv cBk (bareQ (l.take k))) ∧ Below w.heap.size w wr) (fun _ z8 _ => len - (intOf z8).toNat)
  case atStart => exact ⟨0, none, 0, Nat.zero_le _, rfl, rfl, by rw [H0.out]; exact World.ownsRow_nil _ _ _ _, Below.refl _ _⟩
  case round =>
    obtain ⟨k, A3, c3, hk, rfl, rfl, hown, hb⟩ := hrel
    have HOW := Lib.hid hown
    have hsz := hb.size
    by_cases hlt : k < len
    · obtain ⟨ad, s, Aj, cj, Ac, cc, Al, cl, rfl, hbl, hd, _, _, _, e0, e1, e2, e3, e4, e5⟩ := (hx.below hb (Nat.le_refl _)).at_ (k := k) (by rw [HL.out]; exact hlt)
      have HTK := Lib.hid (HT.out k s hd)
      obtain ⟨js, co, te, th, el, la⟩ := s
      simp only [] at e0 e1 e2 e3 e4 e5 HTK
      obtain ⟨nj, hnj⟩ : ∃ n, js.length = n := ⟨_, rfl⟩
      obtain ⟨nc, hnc⟩ : ∃ n, co.length = n := ⟨_, rfl⟩
      obtain ⟨nl, hnl⟩ : ∃ n, la.length = n := ⟨_, rfl⟩
      rw [hnj] at e0
      rw [hnc] at e1
      rw [hnl] at e5
      have h63 : k + 1 ≤ maxLen := by unfold maxLen; omega
      have hbig : (k + 1) * 48 ≤ 140737488355328 := by omega
      have hone : ∀ u ∈ ([.slice none 0 0, .int .i64 te, .int .i64 th, .int .i64 el] : List Value), u.oneCell' = true := fun u hu => cBk_one [((⟨[], te, th, el⟩ : Bk), none, 0)] u (by simpa [rv, cBk] using hu)
      have HONE := Lib.hid hone
      clear hd hnj hnc hnl hown hone
      go_wp2_with (at_builtin; refine wpList_app' rfl (.tmp 12) (.tmp 20) 36 rfl w.heap.size 45 4 48 blockS_app (rv cBk (bareQ (l.take k))) rfl (own_below HOW.out (by go_grown)) [.slice none 0 0, .int .i64 te, .int .i64 th, .int .i64 el] rfl rfl (fun h => by cases h) (cells_litS (by simp) [.slice none 0 0, .int .i64 te, .int .i64 th, .int .i64 el] _ rfl _) HONE.out h63 hbig (by simp; omega) ?_; intro A8 c8 w8 hown8 hg8 hb8 hk8)
      go_round
      case rel => exact ⟨k + 1, A8, c8, by omega, by go_num, rfl, by rw [HTK.out]; exact hown8, hb.trans (((by go_grown : Below wr.heap.size wr _).mono hsz).trans hb8)⟩
      case measure => (simp [intOf]; omega)
    · have hkl : k = len := by omega
      have HF : Hid (l.take k = l) := Lib.hid (by rw [hkl, ← HL.out, List.take_length])
      have HQL : Hid ((bareQ l).length = k) := Lib.hid (by rw [hkl, ← HL.out]; simp [bareQ])
      have hrd : RdP wr wr.heap.size A3 (bareP l) := by
        have h := own_rdR (m := 4) HOW.out (by rw [HF.out]; exact HQL.out)
        rw [HF.out] at h
        rw [← bareQ_fst]
        refine rdP_of_raw h fun r q hq => ?_
        unfold bareQ at hq
        rw [List.getElem?_map] at hq
        obtain ⟨s, _, rfl⟩ := Option.map_eq_some_iff.1 hq
        exact ⟨fun hm => by simp [bareS] at hm, Nat.le_refl _⟩
      have HRD := Lib.hid hrd
      subst hkl
      clear hrd hown
      go_wp2
      go_ret
      exact ⟨A3, c3, rfl, HRD.out, hb⟩

set_option maxHeartbeats 4000000 in
theorem froms_any (A : Option Addr) (len cap : Nat) (nx : List (List Int)) (w : World) (hx : RdG w w.heap.size A nx) (hl : nx.length = len) (hc : ckWay nx = 0) (h1 : 1 ≤ len) (h8 : len ≤ 8) :
    Calls Try.prog 22 #[.slice A len cap] w fun e w' => ∃ A' c', e = .returned (.slice A' len c') ∧ RdG w' w'.heap.size A' (frG nx) ∧ Below w.heap.size w w' := by
  have HT := Lib.hid (refTurnedO_any A len cap nx w hx hl hc)
  have HL := Lib.hid hl
  have HFA := Lib.hid (fun (j : Nat) (h : j < nx.length) => frG_at h)
  have HFL := Lib.hid (frG_len nx)
  clear hx hl hc
  go_enter Try.func22, Try.ntmps22
  go_wp2_with fail
  refine HT.out.mono ?_
  rintro e w1 ⟨cs, rfl, hcl, hown, hrows, hb1⟩
  obtain ⟨Ar, cr, hcs, hrd, hne⟩ := hrows 0 (by rw [HL.out]; omega)
  have hml : (trR nx 0 nx.length).length ≤ 8 := Nat.le_trans (trR_len nx 0 nx.length) (by rw [HL.out]; exact h8)
  obtain ⟨r0, hr0⟩ : ∃ r0, trR nx 0 nx.length = r0 := ⟨_, rfl⟩
  have HR0 := Lib.hid hr0
  rw [hr0] at hcs hrd hml
  obtain ⟨m, hm⟩ : ∃ m, r0.length = m := ⟨_, rfl⟩
  have HM := Lib.hid hm
  rw [hm] at hcs hml
  have q0 := hown.cell hcs
  have f0 := hown.frozen 0
  have hGl := hown.lt
  have HROWS := Lib.hid hrows
  have HCS := Lib.hid hcs
  have HOWN := Lib.hid hown
  have HCL := Lib.hid hcl
  have HRD := Lib.hid hrd
  have HL1 : Hid ((iv (ni r0)).length = m * 1) := Lib.hid (by simp [iv, ni, hm])
  have HN1 : Hid (Ar = none → m = 0) := Lib.hid fun h => by have := hrd.nil h; simp [ni] at this; rw [← hm, this]; rfl
  have HNW : Hid (∀ Z : World, Below w1.heap.size w1 Z → ∀ x, Ar = some x → ∀ j u, (iv (ni r0))[j]? = some u → Z.cell? (x.add j) = some u) := Lib.hid fun Z hZ => (hrd.below hZ (Nat.le_refl _)).news
  have hlit : (w1.alloc (.cells #[.int .i64 (-1)] 3)).ownsRow w1.heap.size 3 1 (.slice (some ⟨w1.heap.size, 0, none⟩) 1 1) 1 [.int .i64 (-1)] := ⟨rfl, .inr ⟨w1.heap.size, 1, #[.int .i64 (-1)], rfl, Nat.le_refl _, heap_alloc_new w1 _, Nat.le_refl _, by simp [maxLen], rfl, rfl⟩⟩
  have HLIT := Lib.hid hlit
  have h63 : 1 + m ≤ maxLen := by unfold maxLen; omega
  have hbig : (1 + m) * 8 ≤ 140737488355328 := by omega
  have hsz1 := hb1.size
  clear hcs hrd hne hr0 hm hrows hown hcl hlit
  go_wp2_with (at_builtin; refine wpList_app' rfl (.tmp 7) (.tmp 10) 26 rfl w1.heap.size 3 1 8 int_app [.int .i64 (-1)] rfl HLIT.out (iv (ni r0)) rfl HL1.out HN1.out (HNW.out _ (by go_grown)) (iv_one _) h63 hbig (by simp) ?_; intro A8 c8 w8 hown8 hg8 hb8 hk8; have hb18 : Below w1.heap.size w1 w8 := (Below.trans (by go_grown) hb8); have hO8 := HOWN.out.below hb18 hGl; have q8 := hO8.cell HCS.out; have f8 := hO8.frozen 0; have hl8 := hO8.lt; have HO8 := Lib.hid hO8; clear hO8)
  have hO9 := HO8.out.set 0 (.slice A8 (1 + m) c8)
  have hW9 : Wrote w.heap.size w1 (w8.setCell ⟨w.heap.size, 0, none⟩ (.slice A8 (1 + m) c8)) := (Wrote.of_below hb18).set (p := ⟨w.heap.size, 0, none⟩) rfl (.slice A8 (1 + m) c8)
  have hown9 := own_farW hown8 (p := ⟨w.heap.size, 0, none⟩) (show w.heap.size < w1.heap.size from hGl) (.slice A8 (1 + m) c8)
  have hrd9 : RdG (w8.setCell ⟨w.heap.size, 0, none⟩ (.slice A8 (1 + m) c8)) (w8.setCell ⟨w.heap.size, 0, none⟩ (.slice A8 (1 + m) c8)).heap.size (some ⟨w.heap.size, 0, none⟩) (frG nx) := fun hm => by
    refine ⟨_, rfl, hO9.lt, fun r row hr => ?_⟩
    have hrl := (List.getElem?_eq_some_iff.1 hr).1
    rw [HFL.out] at hrl
    rw [HFA.out r hrl] at hr
    injection hr with hr
    have ha : (⟨w.heap.size, 0, none⟩ : Addr).add r = ⟨w.heap.size, r, none⟩ := by unfold Addr.add; split <;> simp_all
    by_cases e : r = 0
    · subst e
      rw [if_pos rfl, HR0.out] at hr
      subst hr
      refine ⟨A8, c8, ?_, ?_⟩
      · rw [ha, hO9.cell (List.getElem?_set_self (by rw [HCL.out]; omega))]
        simp only [List.length_cons, ni, List.length_map, HM.out]
        rw [Nat.add_comm]
      · have h2 : ([.int .i64 (-1)] ++ iv (ni r0) : List Value) = iv (-1 :: ni r0) := rfl
        rw [h2] at hown9
        exact own_rdI hown9 (by simp [ni, HM.out]; omega)
    · rw [if_neg e] at hr
      subst hr
      obtain ⟨Ar', cr', g1, g2, g3⟩ := HROWS.out r hrl
      refine ⟨Ar', cr', ?_, (g2.but (fun ad hA => by have := g3 ad hA; omega) fun p hp hne => hW9.cell hp hne).more hW9.size⟩
      rw [ha, hO9.cell (by rw [List.getElem?_set_ne (fun h => e h.symm)]; exact g1)]
      simp [ni]
  have HRD9 := Lib.hid hrd9
  have hb9 : Below w.heap.size w (w8.setCell ⟨w.heap.size, 0, none⟩ (.slice A8 (1 + m) c8)) := (hb1.trans (hb18.mono hsz1)).setCell (Nat.le_refl _) _
  clear hO9 hW9 hown9 hrd9
  go_wp2
  go_ret
  exact ⟨_, _, rfl, HRD9.out, hb9⟩

end Go.Proofs.Ytgcjknibelfjbaa
