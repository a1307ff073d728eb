/-
  slices.Delete of one int, out of a slice of the call's own.
-/
import Derived.Test.YtjnmohphinldkaaMBase
import Derived.Deep.RegionLaw
import Derived.Lib.SliceRun
namespace Go.Proofs.Ytjnmohphinldkaa
open Go.RowKit
set_option linter.unusedSimpArgs false
set_option linter.unusedVariables false
set_option maxRecDepth 100000

theorem zero_intD (w : World) : (zeroValue 3).run Try.prog w = .ok (.int .i64 0) w := by kernel_rfl

/-- cells written one behind the other -/
theorem Own.many {g : Nat} {t : TypeId} : ∀ (vs : List Value) {w : World} {cs : List Value} (o : Nat), Own w g t cs → o + vs.length ≤ cs.length → ∃ cs', Own (w.setCells g o vs) g t cs' ∧ cs'.length = cs.length ∧ ∀ j, cs'[j]? = if o ≤ j ∧ j < o + vs.length then vs[j - o]? else cs[j]?
  | [], w, cs, o, h, hl => ⟨cs, h, rfl, fun j => by rw [if_neg (by simp)]⟩
  | v :: r, w, cs, o, h, hl => by
    rw [List.length_cons] at hl
    obtain ⟨cs', h1, h2, h3⟩ := Own.many r (o + 1) (h.set o v) (by rw [List.length_set]; omega)
    refine ⟨cs', h1, by rw [h2, List.length_set], fun j => ?_⟩
    rw [h3, List.length_cons]
    by_cases e1 : j = o
    · subst e1
      rw [if_neg (by omega), if_pos (by omega), Nat.sub_self, List.getElem?_set_self (by omega)]
      rfl
    · by_cases e2 : o + 1 ≤ j ∧ j < o + 1 + r.length
      · rw [if_pos e2, if_pos (by omega), show j - o = (j - (o + 1)) + 1 by omega, List.getElem?_cons_succ]
      · rw [if_neg e2, if_neg (by omega), List.getElem?_set_ne (fun e => e1 e.symm)]

theorem Wrote.many {g : Nat} : ∀ (vs : List Value) (o : Nat) {w w' : World}, Wrote g w w' → Wrote g w (w'.setCells g o vs)
  | [], _, _, _, h => h
  | v :: r, o, w, w', h => Wrote.many r (o + 1) (h.set rfl v)

theorem many_size {g : Nat} : ∀ (vs : List Value) (o : Nat) (w : World), (w.setCells g o vs).heap.size = w.heap.size
  | [], _, _ => rfl
  | v :: r, o, w => by rw [World.setCells, many_size r]; simp

theorem Own.some {w : World} {g : Nat} {t : TypeId} {cs : List Value} (h : Own w g t cs) {j : Nat} (hj : j < cs.length) : (w.cell? ⟨g, j, none⟩).isSome = true := by
  rw [h.cell (List.getElem?_eq_getElem hj)]; rfl

set_option maxHeartbeats 4000000 in
theorem delete_any (g n cap i j : Nat) (cs : List Value) (xs : List Int) (w : World) (hO : Own w g 3 cs) (hcs : cs.length = cap) (hn : n ≤ cap) (hcap : cap ≤ maxLen) (htk : cs.take n = iv xs) (hi : i < n) (hj : j = i + 1) :
    Calls Try.prog 35 #[.slice (some ⟨g, 0, none⟩) n cap, .int .i64 i, .int .i64 j] w fun e w' => e = .returned (.slice (some ⟨g, 0, none⟩) (n - 1) cap) ∧ (∃ cs', Own w' g 3 cs' ∧ cs'.length = cap ∧ cs'.take (n - 1) = iv (xs.eraseIdx i)) ∧ Wrote g w w' ∧ w'.heap.size = w.heap.size := by
  unfold maxLen at hcap
  obtain ⟨hu0, hsz0, i0, z0, hi0, hz0, hs0, hby0, hzs0⟩ := int_app
  have hxl : xs.length = n := by
    have := congrArg List.length htk
    rw [List.length_take] at this
    simp [iv] at this
    omega
  have hcx : ∀ j, j < n → cs[j]? = (xs[j]?).map (Value.int .i64) := fun j hj => by
    have := congrArg (fun l => l[j]?) htk
    simp only [List.getElem?_take, if_pos hj, iv, List.getElem?_map] at this
    exact this
  obtain ⟨news, hnews⟩ : ∃ news, news = iv (xs.drop j) := ⟨_, rfl⟩
  have hlen : news.length = n - j := by rw [hnews]; simp [iv, hxl]
  have hget : ∀ t u, news[t]? = some u → t < n - j ∧ cs[j + t]? = some u := fun t u hu => by
    have ht := (List.getElem?_eq_some_iff.1 hu).1
    rw [hlen] at ht
    refine ⟨ht, ?_⟩
    rw [hcx _ (by omega), ← hu, hnews, iv, List.getElem?_map, List.getElem?_drop]
  obtain ⟨A, hA, hsrc⟩ : ∃ A : Addr, (if cap = j then some (⟨g, 0, none⟩ : Addr) else some ⟨g, j, none⟩) = some A ∧ Hid (∀ t u, news[t]? = some u → w.drew.cell? (A.add t) = some u) := by
    by_cases h : cap = j
    · refine ⟨⟨g, 0, none⟩, by simp [h], Lib.hid fun t u hu => ?_⟩
      have := (hget t u hu).1
      omega
    · refine ⟨⟨g, j, none⟩, by simp [h], Lib.hid fun t u hu => ?_⟩
      rw [Addr.add_lit]
      exact hO.cell (hget t u hu).2
  have s1 : Hid (news.length = (n - j) * 1) := Lib.hid (by rw [Nat.mul_one]; exact hlen)
  have s2 : Hid (∀ u ∈ news, u.oneCell' = true) := Lib.hid (by rw [hnews]; exact iv_one _)
  have s3 : Hid (∀ t, t < news.length → (w.drew.cell? ⟨g, 0 + i * 1 + t, none⟩).isSome = true ∧ w.drew.frozen? ⟨g, 0 + i * 1 + t, none⟩ = false) := Lib.hid (by
    intro t ht
    rw [hlen] at ht
    exact ⟨hO.some (by omega), hO.frozen _⟩)
  obtain ⟨W1, hW1⟩ : ∃ W1, W1 = w.drew.setCells g (0 + i * 1) news := ⟨_, rfl⟩
  obtain ⟨cs1, hO1, hl1, hc1⟩ := Own.many news (0 + i * 1) hO.drew (by rw [hlen]; omega)
  have hwr1 : Wrote g w W1 := by rw [hW1]; exact Wrote.many _ _ ⟨rfl, rfl, rfl, Nat.le_refl _, fun k _ _ => rfl⟩
  have hsz1 : W1.heap.size = w.heap.size := by rw [hW1, many_size]; rfl
  rw [← hW1] at hO1
  have hcl : ∀ ty, (Builtin.clear_ #[22] ty #[.slice (some ⟨g, i + (n - j), none⟩) (n - (i + (n - j))) (cap - (i + (n - j)))]).run Try.prog W1 = .ok (.tuple #[]) (W1.setCells g (i + (n - j)) (List.replicate (n - (i + (n - j))) (.int .i64 0))) :=
    fun ty => Lib.run_clear_slice W1 _ _ ty _ Try.underlying22 zero_intD rfl rfl g (i + (n - j)) _ _ (by omega) (fun t ht => hO1.some (by omega)) (fun t ht => hO1.frozen _)
  obtain ⟨cs2, hO2, hl2, hc2⟩ := Own.many (List.replicate (n - (i + (n - j))) (.int .i64 0)) (i + (n - j)) hO1 (by rw [List.length_replicate]; omega)
  have hwr2 : Wrote g w (W1.setCells g (i + (n - j)) (List.replicate (n - (i + (n - j))) (.int .i64 0))) := Wrote.many _ _ hwr1
  have hsz2 : (W1.setCells g (i + (n - j)) (List.replicate (n - (i + (n - j))) (.int .i64 0))).heap.size = w.heap.size := by rw [many_size, hsz1]
  have htk2 : cs2.take (n - 1) = iv (xs.eraseIdx i) := by
    apply List.ext_getElem?
    intro t
    rw [List.getElem?_take, iv, List.getElem?_map]
    by_cases ht : t < n - 1
    · rw [if_pos ht, hc2, if_neg (by omega), hc1, List.getElem?_eraseIdx]
      by_cases hti : t < i
      · rw [if_neg (by omega), if_pos hti, hcx t (by omega)]
      · rw [if_pos (by rw [hlen]; omega), if_neg hti, hnews, iv, List.getElem?_map, List.getElem?_drop, show j + (t - (0 + i * 1)) = t + 1 by omega]
    · rw [if_neg ht, List.getElem?_eq_none (by rw [List.length_eraseIdx, if_pos (by omega)]; omega)]
      rfl
  have HX := Lib.hid (show (∃ cs', Own (W1.setCells g (i + (n - j)) (List.replicate (n - (i + (n - j))) (.int .i64 0))) g 3 cs' ∧ cs'.length = cap ∧ cs'.take (n - 1) = iv (xs.eraseIdx i)) ∧ Wrote g w (W1.setCells g (i + (n - j)) (List.replicate (n - (i + (n - j))) (.int .i64 0))) ∧ (W1.setCells g (i + (n - j)) (List.replicate (n - (i + (n - j))) (.int .i64 0))).heap.size = w.heap.size from ⟨⟨cs2, hO2, by omega, htk2⟩, hwr2, hsz2⟩)
  have HW : Hid (W1 = w.drew.setCells g (0 + i * 1) news) := Lib.hid hW1
  have hic : i ≤ cap := by omega
  have hjc : j ≤ cap := by omega
  have hij : i ≤ j := by omega
  have hjn : j ≤ n := by omega
  have hne : ((i : Int) == (j : Int)) = false := by simp; omega
  have hfin : i + (n - j) = n - 1 := by omega
  have HF := Lib.hid hfin
  have hcne : ¬ cap = i + (n - j) := by omega
  clear hW1 hO hO1 hO2 hget hnews hlen hcx htk htk2 hxl hcs hc1 hc2 hl1 hl2 hwr1 hwr2 hsz1 hsz2 hu0 hz0 hby0 hzs0 hsz0 hj hfin
  go_enter Try.func35, Try.ntmps35
  go_wp2_with fail
  go_region_law (refine step_append_room rfl (.tmp 22) (.tmp 25) 22 rfl 3 i0 1 Try.underlying22 hi0 hs0 g 0 i cap (by simp [Act.eval, Act.put]) A (n - j) (cap - j) news (by simp [Act.eval, Act.put]) s1.out hsrc.out s2.out (by omega) s3.out ?_; rw [← HW.out])
  go_wp2
  go_ret
  exact ⟨by rw [HF.out]; rfl, HX.out⟩

end Go.Proofs.Ytjnmohphinldkaa
