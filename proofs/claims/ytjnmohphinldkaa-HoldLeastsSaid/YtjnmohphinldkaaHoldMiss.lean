/-
  hold.misses over each chooser (P1).
-/
import Derived.Test.YtjnmohphinldkaaHoldFar
import Derived.Test.YtjnmohphinldkaaDelete
import Derived.Test.YtjnmohphinldkaaHoldIs
namespace Go.Proofs.Ytjnmohphinldkaa
open Go.RowKit
set_option linter.unusedSimpArgs false
set_option linter.unusedVariables false
set_option maxRecDepth 100000

/-- below B, and from base on, all is as it was -/
structure Stay (B base : Nat) (w w' : World) : Prop where
  below : Below B w w'
  rest : ∀ j, base ≤ j → j < w.heap.size → w'.heap[j]? = w.heap[j]?

theorem Stay.of_below {B base : Nat} {w w' : World} (h : Below w.heap.size w w') (hB : B ≤ w.heap.size) : Stay B base w w' := ⟨h.mono hB, fun j _ hj => h.block j hj⟩

theorem own_stay {w w' : World} {B base : Nat} {e : TypeId} {size : Nat} {v : Value} {n : Nat} {xs : List Value} (h : w.ownsRow base e size v n xs) (hs : Stay B base w w') : w'.ownsRow base e size v n xs := by
  rcases h.2 with ⟨rfl, hn⟩ | ⟨g, cap, cur, hv, h1, hh, h2, h3, h4, h5⟩
  · exact ⟨h.1, .inl ⟨rfl, hn⟩⟩
  · have hg : g < w.heap.size := by
      rcases Nat.lt_or_ge g w.heap.size with hl | hg
      · exact hl
      · rw [Array.getElem?_eq_none hg] at hh; cases hh
    exact ⟨h.1, .inr ⟨g, cap, cur, hv, h1, (hs.rest g h1 hg).trans hh, h2, h3, h4, h5⟩⟩

/-- a row of ints of the call's own, not empty -/
theorem own_open {w : World} {base : Nat} {A : Option Addr} {n c : Nat} {xs : List Int} (h : w.ownsRow base 3 1 (.slice A n c) n (iv xs)) (hn : 0 < n) : ∃ g cs, A = some ⟨g, 0, none⟩ ∧ base ≤ g ∧ Own w g 3 cs ∧ cs.length = c ∧ n ≤ c ∧ c ≤ maxLen ∧ cs.take n = iv xs := by
  rcases h.2 with ⟨_, h0⟩ | ⟨g, cap, cur, hv, h1, hh, h2, h3, h4, h5⟩
  · omega
  · injection hv with hA _ hc
    subst hc
    rw [Nat.mul_one] at h4 h5
    exact ⟨g, cur.toList, hA, h1, by unfold Own; rw [Array.toArray_toList]; exact hh, by rw [Array.length_toList]; exact h4, h2, h3, h5⟩

theorem own_shut {w : World} {base g n c : Nat} {cs : List Value} {xs : List Int} (h : Own w g 3 cs) (hb : base ≤ g) (hc : cs.length = c) (hn : n ≤ c) (hm : c ≤ maxLen) (ht : cs.take n = iv xs) (hx : xs.length = n) : w.ownsRow base 3 1 (.slice (some ⟨g, 0, none⟩) n c) n (iv xs) :=
  ⟨by simp [iv, hx], .inr ⟨g, c, cs.toArray, rfl, hb, h, hn, hm, by simp [hc], by simp [ht]⟩⟩

theorem own_from {w : World} {base : Nat} {A : Option Addr} {n c : Nat} {e : TypeId} {size : Nat} {xs : List Value} (h : w.ownsRow base e size (.slice A n c) n xs) : ∀ ad, A = some ad → base ≤ ad.block := by
  intro ad ha
  rcases h.2 with ⟨h1, _⟩ | ⟨g, cap, cur, hv, h1, _⟩
  · injection h1 with hA
    rw [hA] at ha
    cases ha
  · injection hv with hA
    rw [hA] at ha
    injection ha with ha
    subst ha
    exact h1

set_option maxHeartbeats 1000000 in
theorem misses_bad (A : Option Addr) (len cap : Nat) (p : Int) (v : Value) (w : World) (hm : len ≤ maxLen) (h : 20 < len ∨ p < 1 ∨ 8 < p) :
    Calls Try.prog 20 #[.slice A len cap, .int .i64 p, v] w fun e w' => e = .returned (.tuple #[.int .i64 0, .int .i64 1]) ∧ w = w' := by
  unfold maxLen at hm
  by_cases h1 : 20 < len
  · clear h
    go_enter Try.func20, Try.ntmps20
    go_wp2
    go_ret2
    exact ⟨rfl, rfl⟩
  · by_cases h2 : p < 1
    · clear h
      go_enter Try.func20, Try.ntmps20
      go_wp2
      go_ret2
      exact ⟨rfl, rfl⟩
    · have h3 : 8 < p := by omega
      clear h
      go_enter Try.func20, Try.ntmps20
      go_wp2
      go_ret2
      exact ⟨rfl, rfl⟩

/-- what a chooser tells -/
def ChOk (ch : List Int → Nat → Nat → Int) (p : Nat) : Prop := ∀ C i q, C.length = p → ch C i q = -1 ∨ ∃ e : Nat, ch C i q = (e : Int) ∧ e < p


/-- what the chooser of Min does -/
def ChPMin (g1 : Nat) (ch : List Int → Nat → Nat → Int) (I : Nat → World → Prop) (B base p : Nat) (refs : List Int) : Prop :=
  ∀ (C : List Int) (A : Option Addr) (cap i q : Nat) (w : World), I q w → base ≤ w.heap.size → RdI w w.heap.size A C → (∀ ad, A = some ad → base ≤ ad.block) → C.length = p → i < refs.length → (∀ x ∈ C, x ∈ refs.take i) → p ≤ q →
    Calls Try.prog 21 #[.slice A p cap, .int .i64 (i : Nat), .pointer (some ⟨g1, 0, none⟩)] w fun e w' => e = .returned (.int .i64 (ch C i q)) ∧ (ch C i q ≠ -1 → I (q + 1) w') ∧ Stay B base w w'

set_option maxHeartbeats 8000000 in
theorem missMin_any (g1 : Nat) (ch : List Int → Nat → Nat → Int) (I : Nat → World → Prop) (B base p : Nat) (refs : List Int) (A : Option Addr) (len cap : Nat) (w : World)
    (hI : ∀ q w1 w2, I q w1 → base ≤ w1.heap.size → Below base w1 w2 → I q w2) (hup : ∀ q w1, q < p → I q w1 → I (q + 1) w1) (hch : ChOk ch p) (hC : ChPMin g1 ch I B base p refs) (hI0 : I 0 w)
    (hbase : base ≤ w.heap.size) (hx : RdI w B A refs) (hB : B ≤ base) (hl : refs.length = len) (hm : len ≤ 20) (hp1 : 1 ≤ p) (hp8 : p ≤ 8) :
    Calls Try.prog 20 #[.slice A len cap, .int .i64 p, .func (.func 21) #[] #[.pointer (some ⟨g1, 0, none⟩)]] w fun e w' => e = .returned (missR (misG ch p [] 0 0 refs)) ∧ Below B w w' := by
  have HI := Lib.hid hI
  have HUP := Lib.hid hup
  have HCH := Lib.hid hch
  have HC := Lib.hid hC
  have HI0 := Lib.hid hI0
  have HL := Lib.hid hl
  obtain ⟨R, hR⟩ : ∃ R, misG ch p [] 0 0 refs = R := ⟨_, rfl⟩
  have HR := Lib.hid hR
  rw [hR]
  clear hI hup hch hC hI0 hl hR
  go_enter Try.func20, Try.ntmps20
  go_wp2
  go_loopw [8, 9, 26] (fun s c i wr => ∃ (A2 : Option Addr) (c2 n q k : Nat) (C : List Int), k ≤ len ∧ i = .int .i64 k ∧ c = .int .i64 q ∧ s = .slice A2 n c2 ∧ n ≤ p ∧ q ≤ k ∧ Hid (C.length = n) ∧ Hid (∀ x ∈ C, x ∈ refs.take k) ∧ Hid (misG ch p C k q (refs.drop k) = R) ∧ Hid (n = p → p ≤ q) ∧ Hid (n < p → q = n) ∧
      wr.ownsRow base 3 1 (.slice A2 n c2) n (iv C) ∧ Hid (I q wr) ∧ Below B w wr ∧ base ≤ wr.heap.size) (fun _ _ i _ => len - (intOf i).toNat)
  case atStart => exact ⟨none, 0, 0, 0, 0, [], Nat.zero_le _, rfl, rfl, rfl, Nat.zero_le _, Nat.le_refl _, Lib.hid rfl, Lib.hid (by simp), Lib.hid (by rw [List.drop_zero]; exact HR.out), Lib.hid (fun h => by omega), Lib.hid (fun _ => rfl), World.ownsRow_nil _ _ _ _, HI0, Below.refl _ _, hbase⟩
  case round =>
    obtain ⟨A2, c2, n, q, k, C, hk, rfl, rfl, rfl, hnp, hqk, HCL, HSUB, HG, HF, HN, hown, HIQ, hbw, hsz⟩ := hrel
    by_cases hlt : k < len
    · obtain ⟨ad, r, rfl, hbl, hd, hcell⟩ := (hx.below hbw (Nat.le_refl _)).at_ (k := k) (by rw [HL.out]; exact hlt)
      have HD := Lib.hid hd
      have HDR := Lib.hid (drop_ref hd)
      have HT : Hid (refs.take (k + 1) = refs.take k ++ [r]) := Lib.hid (by rw [List.take_add_one, hd]; rfl)
      have HH := Lib.hid (hasZ_any A2 n c2 C r _ wr (own_rdI hown HCL.out) HCL.out (by unfold maxLen; omega))
      have HKL : Hid (k < refs.length) := Lib.hid (by rw [HL.out]; exact hlt)
      clear hd
      by_cases hr : r ∈ C
      · rw [decide_eq_true hr] at HH
        have HG2 : Hid (misG ch p C (k + 1) q (refs.drop (k + 1)) = R) := Lib.hid (by rw [← HG.out, HDR.out, misG_hit hr])
        have HS2 : Hid (∀ x ∈ C, x ∈ refs.take (k + 1)) := Lib.hid fun x hx => by rw [HT.out]; exact List.mem_append_left _ (HSUB.out x hx)
        clear hr
        go_wp2_with (go_at_call 34; (with_reducible refine HH.out.mono ?_); rintro e w1 ⟨rfl, rfl⟩)
        go_round
        case rel => exact ⟨A2, c2, n, q, k + 1, C, by omega, by go_num, rfl, rfl, hnp, by omega, HCL, HS2, HG2, HF, HN, hown, HIQ, hbw, hsz⟩
        case measure => (simp [intOf]; omega)
      · rw [decide_eq_false hr] at HH
        have HRN := Lib.hid hr
        clear hr
        by_cases hc : n = p
        · have HB := Lib.hid (HCH.out C k q (by rw [HCL.out]; exact hc))
          have HE := Lib.hid (HC.out C A2 c2 k q wr HIQ.out hsz (own_rdI hown HCL.out) (own_from hown) (by rw [HCL.out]; exact hc) HKL.out HSUB.out (HF.out hc))
          have hbe : ((n : Int) == (p : Int)) = true := by simp [hc]
          subst hc
          rcases HB.out with hno | ⟨e, he, hen⟩
          · have HG2 : Hid (R = none) := Lib.hid (by rw [← HG.out, HDR.out, misG_stop HRN.out HCL.out hno])
            rw [hno] at HE
            clear hno HB
            go_wp2_with (first | (go_at_call 34; (with_reducible refine HH.out.mono ?_); rintro e w1 ⟨rfl, rfl⟩) | (go_at_call 21; (with_reducible refine HE.out.mono ?_); rintro e w2 ⟨rfl, hi2, hs2⟩))
            go_ret2
            exact ⟨by rw [HG2.out]; rfl, hbw.trans hs2.below⟩
          · have HG2 : Hid (misG ch n (C.eraseIdx e ++ [r]) (k + 1) (q + 1) (refs.drop (k + 1)) = R) := Lib.hid (by rw [← HG.out, HDR.out, misG_out HRN.out HCL.out he])
            rw [he] at HE
            clear he HB
            have hne : ((e : Int) == -1) = false := by simp
            obtain ⟨m, hmn⟩ : ∃ m, n = m + 1 := ⟨n - 1, by omega⟩
            have HMN := Lib.hid hmn
            have HCE : Hid ((C.eraseIdx e).length = m) := Lib.hid (by rw [List.length_eraseIdx, if_pos (by rw [HCL.out]; exact hen), HCL.out]; omega)
            have HS2 : Hid (∀ x ∈ C.eraseIdx e ++ [r], x ∈ refs.take (k + 1)) := Lib.hid fun x hx => by
              rw [HT.out]
              rcases List.mem_append.1 hx with h | h
              · exact List.mem_append_left _ (HSUB.out x ((List.eraseIdx_sublist _ _).subset h))
              · exact List.mem_append_right _ h
            have HQ := Lib.hid (HF.out rfl)
            have h63 : m + 1 ≤ maxLen := by unfold maxLen; omega
            have hbig : (m + 1) * 8 ≤ 140737488355328 := by omega
            have hm1 : n - 1 = m := by omega
            clear hmn
            go_wp2_with (first | (go_at_call 34; (with_reducible refine HH.out.mono ?_); rintro e w1 ⟨rfl, rfl⟩) | fail)
            refine HE.out.mono ?_
            rintro e2 w2 ⟨rfl, hi2, hs2⟩
            have HI2 := Lib.hid (hi2 (by omega))
            have hown2 := own_stay hown hs2
            have hsz2 : base ≤ w2.heap.size := Nat.le_trans hsz hs2.below.size
            obtain ⟨g, cs, rfl, hbg, hO2, hcs, hnc, hcm, htk⟩ := own_open hown2 (by omega)
            have HDel := Lib.hid (delete_any g n c2 e (e + 1) cs C w2 hO2 hcs hnc hcm htk hen rfl)
            rw [hm1] at HDel
            have hcast : ((e + 1 : Nat) : Int) = (e : Int) + 1 := by omega
            rw [hcast] at HDel
            have hgl := hO2.lt
            clear hcast hi2 hown2 hO2 hcs htk hm1
            go_wp2_with fail
            refine HDel.out.mono ?_
            rintro e3 w3 ⟨rfl, ⟨cs3, hO3, hl3, ht3⟩, hw3, hsz3⟩
            have hown3 := own_shut hO3 hbg hl3 (by have := HMN.out; omega : m ≤ c2) hcm ht3 HCE.out
            have hb23 : Below base w2 w3 := hw3.below hbg hsz2
            have HI3 := Lib.hid (HI.out _ _ _ HI2.out hsz2 hb23)
            have hb3 : Below B w w3 := (hbw.trans hs2.below).trans (hb23.mono hB)
            have hszb : base ≤ w3.heap.size := by rw [hsz3]; exact hsz2
            clear hO3 hl3 ht3 hw3 hsz3 hb23 hs2
            go_wp2_with (at_builtin; refine wpList_app' rfl (.tmp 49) (.tmp 51) 22 rfl base 3 1 8 int_app (iv (C.eraseIdx e)) rfl (own_below hown3 (by go_grown)) [.int .i64 r] rfl rfl (fun h => by cases h) (cells_at (by simp) _ _) (one_cell _) h63 hbig (by simp; omega) ?_; intro A5 c5 w5 hown5 hg5 hb5 hk5)
            have hb35 : Below base w3 w5 := (by go_grown : Below base w3 _).trans hb5
            have HI5 := Lib.hid (HI.out _ _ _ HI3.out hszb hb35)
            go_round
            case rel => exact ⟨A5, c5, m + 1, q + 1, k + 1, C.eraseIdx e ++ [r], by omega, by go_num, by go_num, rfl, by rw [← HMN.out]; exact Nat.le_refl _, by omega, Lib.hid (by rw [List.length_append, HCE.out]; rfl), HS2, HG2, Lib.hid fun _ => by have := HQ.out; omega, Lib.hid fun h => by have := HMN.out; omega, by rw [show iv (C.eraseIdx e ++ [r]) = iv (C.eraseIdx e) ++ [.int .i64 r] by simp [iv]]; exact hown5, HI5, hb3.trans (hb35.mono hB), Nat.le_trans hszb hb35.size⟩
            case measure => (simp [intOf]; omega)
        · have hbe : ((n : Int) == (p : Int)) = false := by simp; omega
          have hnlt : n < p := by omega
          have HG2 : Hid (misG ch p (C ++ [r]) (k + 1) (q + 1) (refs.drop (k + 1)) = R) := Lib.hid (by rw [← HG.out, HDR.out, misG_room HRN.out (by rw [HCL.out]; exact hc)])
          have HS2 : Hid (∀ x ∈ C ++ [r], x ∈ refs.take (k + 1)) := Lib.hid fun x hx => by
            rw [HT.out]
            rcases List.mem_append.1 hx with h | h
            · exact List.mem_append_left _ (HSUB.out x h)
            · exact List.mem_append_right _ h
          have hqn := HN.out hnlt
          have HQN := Lib.hid hqn
          have HI2 := Lib.hid (HUP.out q wr (by omega) HIQ.out)
          have h63 : n + 1 ≤ maxLen := by unfold maxLen; omega
          have hbig : (n + 1) * 8 ≤ 140737488355328 := by omega
          clear hqn hc
          go_wp2_with (first | (go_at_call 34; (with_reducible refine HH.out.mono ?_); rintro e w1 ⟨rfl, rfl⟩) | (at_builtin; refine wpList_app' rfl (.tmp 49) (.tmp 51) 22 rfl base 3 1 8 int_app (iv C) rfl (own_below hown (by go_grown)) [.int .i64 r] rfl rfl (fun h => by cases h) (cells_at (by simp) _ _) (one_cell _) h63 hbig (by simp; omega) ?_; intro A5 c5 w5 hown5 hg5 hb5 hk5))
          have hb35 : Below base wr w5 := (by go_grown : Below base wr _).trans hb5
          have HI5 := Lib.hid (HI.out _ _ _ HI2.out hsz hb35)
          go_round
          case rel => exact ⟨A5, c5, n + 1, q + 1, k + 1, C ++ [r], by omega, by go_num, by go_num, rfl, by omega, by omega, Lib.hid (by rw [List.length_append, HCL.out]; rfl), HS2, HG2, Lib.hid fun _ => by have := HQN.out; omega, Lib.hid fun _ => by have := HQN.out; omega, by rw [show iv (C ++ [r]) = iv C ++ [.int .i64 r] by simp [iv]]; exact hown5, HI5, hbw.trans (hb35.mono hB), Nat.le_trans hsz hb35.size⟩
          case measure => (simp [intOf]; omega)
    · have hkn : k = len := by omega
      subst hkn
      have HG2 : Hid (R = some q) := Lib.hid (by rw [← HG.out, ← HL.out, List.drop_length]; rfl)
      go_wp2
      go_ret2
      exact ⟨by rw [HG2.out]; rfl, hbw⟩

/-- what the chooser of Lru does -/
def ChPLru (g1 : Nat) (ch : List Int → Nat → Nat → Int) (I : Nat → World → Prop) (B base p : Nat) (refs : List Int) : Prop :=
  ∀ (C : List Int) (A : Option Addr) (cap i q : Nat) (w : World), I q w → base ≤ w.heap.size → RdI w w.heap.size A C → (∀ ad, A = some ad → base ≤ ad.block) → C.length = p → i < refs.length → (∀ x ∈ C, x ∈ refs.take i) → p ≤ q →
    Calls Try.prog 28 #[.slice A p cap, .int .i64 (i : Nat), .pointer (some ⟨g1, 0, none⟩)] w fun e w' => e = .returned (.int .i64 (ch C i q)) ∧ (ch C i q ≠ -1 → I (q + 1) w') ∧ Stay B base w w'

set_option maxHeartbeats 8000000 in
theorem missLru_any (g1 : Nat) (ch : List Int → Nat → Nat → Int) (I : Nat → World → Prop) (B base p : Nat) (refs : List Int) (A : Option Addr) (len cap : Nat) (w : World)
    (hI : ∀ q w1 w2, I q w1 → base ≤ w1.heap.size → Below base w1 w2 → I q w2) (hup : ∀ q w1, q < p → I q w1 → I (q + 1) w1) (hch : ChOk ch p) (hC : ChPLru g1 ch I B base p refs) (hI0 : I 0 w)
    (hbase : base ≤ w.heap.size) (hx : RdI w B A refs) (hB : B ≤ base) (hl : refs.length = len) (hm : len ≤ 20) (hp1 : 1 ≤ p) (hp8 : p ≤ 8) :
    Calls Try.prog 20 #[.slice A len cap, .int .i64 p, .func (.func 28) #[] #[.pointer (some ⟨g1, 0, none⟩)]] w fun e w' => e = .returned (missR (misG ch p [] 0 0 refs)) ∧ Below B w w' := by
  have HI := Lib.hid hI
  have HUP := Lib.hid hup
  have HCH := Lib.hid hch
  have HC := Lib.hid hC
  have HI0 := Lib.hid hI0
  have HL := Lib.hid hl
  obtain ⟨R, hR⟩ : ∃ R, misG ch p [] 0 0 refs = R := ⟨_, rfl⟩
  have HR := Lib.hid hR
  rw [hR]
  clear hI hup hch hC hI0 hl hR
  go_enter Try.func20, Try.ntmps20
  go_wp2
  go_loopw [8, 9, 26] (fun s c i wr => ∃ (A2 : Option Addr) (c2 n q k : Nat) (C : List Int), k ≤ len ∧ i = .int .i64 k ∧ c = .int .i64 q ∧ s = .slice A2 n c2 ∧ n ≤ p ∧ q ≤ k ∧ Hid (C.length = n) ∧ Hid (∀ x ∈ C, x ∈ refs.take k) ∧ Hid (misG ch p C k q (refs.drop k) = R) ∧ Hid (n = p → p ≤ q) ∧ Hid (n < p → q = n) ∧
      wr.ownsRow base 3 1 (.slice A2 n c2) n (iv C) ∧ Hid (I q wr) ∧ Below B w wr ∧ base ≤ wr.heap.size) (fun _ _ i _ => len - (intOf i).toNat)
  case atStart => exact ⟨none, 0, 0, 0, 0, [], Nat.zero_le _, rfl, rfl, rfl, Nat.zero_le _, Nat.le_refl _, Lib.hid rfl, Lib.hid (by simp), Lib.hid (by rw [List.drop_zero]; exact HR.out), Lib.hid (fun h => by omega), Lib.hid (fun _ => rfl), World.ownsRow_nil _ _ _ _, HI0, Below.refl _ _, hbase⟩
  case round =>
    obtain ⟨A2, c2, n, q, k, C, hk, rfl, rfl, rfl, hnp, hqk, HCL, HSUB, HG, HF, HN, hown, HIQ, hbw, hsz⟩ := hrel
    by_cases hlt : k < len
    · obtain ⟨ad, r, rfl, hbl, hd, hcell⟩ := (hx.below hbw (Nat.le_refl _)).at_ (k := k) (by rw [HL.out]; exact hlt)
      have HD := Lib.hid hd
      have HDR := Lib.hid (drop_ref hd)
      have HT : Hid (refs.take (k + 1) = refs.take k ++ [r]) := Lib.hid (by rw [List.take_add_one, hd]; rfl)
      have HH := Lib.hid (hasZ_any A2 n c2 C r _ wr (own_rdI hown HCL.out) HCL.out (by unfold maxLen; omega))
      have HKL : Hid (k < refs.length) := Lib.hid (by rw [HL.out]; exact hlt)
      clear hd
      by_cases hr : r ∈ C
      · rw [decide_eq_true hr] at HH
        have HG2 : Hid (misG ch p C (k + 1) q (refs.drop (k + 1)) = R) := Lib.hid (by rw [← HG.out, HDR.out, misG_hit hr])
        have HS2 : Hid (∀ x ∈ C, x ∈ refs.take (k + 1)) := Lib.hid fun x hx => by rw [HT.out]; exact List.mem_append_left _ (HSUB.out x hx)
        clear hr
        go_wp2_with (go_at_call 34; (with_reducible refine HH.out.mono ?_); rintro e w1 ⟨rfl, rfl⟩)
        go_round
        case rel => exact ⟨A2, c2, n, q, k + 1, C, by omega, by go_num, rfl, rfl, hnp, by omega, HCL, HS2, HG2, HF, HN, hown, HIQ, hbw, hsz⟩
        case measure => (simp [intOf]; omega)
      · rw [decide_eq_false hr] at HH
        have HRN := Lib.hid hr
        clear hr
        by_cases hc : n = p
        · have HB := Lib.hid (HCH.out C k q (by rw [HCL.out]; exact hc))
          have HE := Lib.hid (HC.out C A2 c2 k q wr HIQ.out hsz (own_rdI hown HCL.out) (own_from hown) (by rw [HCL.out]; exact hc) HKL.out HSUB.out (HF.out hc))
          have hbe : ((n : Int) == (p : Int)) = true := by simp [hc]
          subst hc
          rcases HB.out with hno | ⟨e, he, hen⟩
          · have HG2 : Hid (R = none) := Lib.hid (by rw [← HG.out, HDR.out, misG_stop HRN.out HCL.out hno])
            rw [hno] at HE
            clear hno HB
            go_wp2_with (first | (go_at_call 34; (with_reducible refine HH.out.mono ?_); rintro e w1 ⟨rfl, rfl⟩) | (go_at_call 28; (with_reducible refine HE.out.mono ?_); rintro e w2 ⟨rfl, hi2, hs2⟩))
            go_ret2
            exact ⟨by rw [HG2.out]; rfl, hbw.trans hs2.below⟩
          · have HG2 : Hid (misG ch n (C.eraseIdx e ++ [r]) (k + 1) (q + 1) (refs.drop (k + 1)) = R) := Lib.hid (by rw [← HG.out, HDR.out, misG_out HRN.out HCL.out he])
            rw [he] at HE
            clear he HB
            have hne : ((e : Int) == -1) = false := by simp
            obtain ⟨m, hmn⟩ : ∃ m, n = m + 1 := ⟨n - 1, by omega⟩
            have HMN := Lib.hid hmn
            have HCE : Hid ((C.eraseIdx e).length = m) := Lib.hid (by rw [List.length_eraseIdx, if_pos (by rw [HCL.out]; exact hen), HCL.out]; omega)
            have HS2 : Hid (∀ x ∈ C.eraseIdx e ++ [r], x ∈ refs.take (k + 1)) := Lib.hid fun x hx => by
              rw [HT.out]
              rcases List.mem_append.1 hx with h | h
              · exact List.mem_append_left _ (HSUB.out x ((List.eraseIdx_sublist _ _).subset h))
              · exact List.mem_append_right _ h
            have HQ := Lib.hid (HF.out rfl)
            have h63 : m + 1 ≤ maxLen := by unfold maxLen; omega
            have hbig : (m + 1) * 8 ≤ 140737488355328 := by omega
            have hm1 : n - 1 = m := by omega
            clear hmn
            go_wp2_with (first | (go_at_call 34; (with_reducible refine HH.out.mono ?_); rintro e w1 ⟨rfl, rfl⟩) | fail)
            refine HE.out.mono ?_
            rintro e2 w2 ⟨rfl, hi2, hs2⟩
            have HI2 := Lib.hid (hi2 (by omega))
            have hown2 := own_stay hown hs2
            have hsz2 : base ≤ w2.heap.size := Nat.le_trans hsz hs2.below.size
            obtain ⟨g, cs, rfl, hbg, hO2, hcs, hnc, hcm, htk⟩ := own_open hown2 (by omega)
            have HDel := Lib.hid (delete_any g n c2 e (e + 1) cs C w2 hO2 hcs hnc hcm htk hen rfl)
            rw [hm1] at HDel
            have hcast : ((e + 1 : Nat) : Int) = (e : Int) + 1 := by omega
            rw [hcast] at HDel
            have hgl := hO2.lt
            clear hcast hi2 hown2 hO2 hcs htk hm1
            go_wp2_with fail
            refine HDel.out.mono ?_
            rintro e3 w3 ⟨rfl, ⟨cs3, hO3, hl3, ht3⟩, hw3, hsz3⟩
            have hown3 := own_shut hO3 hbg hl3 (by have := HMN.out; omega : m ≤ c2) hcm ht3 HCE.out
            have hb23 : Below base w2 w3 := hw3.below hbg hsz2
            have HI3 := Lib.hid (HI.out _ _ _ HI2.out hsz2 hb23)
            have hb3 : Below B w w3 := (hbw.trans hs2.below).trans (hb23.mono hB)
            have hszb : base ≤ w3.heap.size := by rw [hsz3]; exact hsz2
            clear hO3 hl3 ht3 hw3 hsz3 hb23 hs2
            go_wp2_with (at_builtin; refine wpList_app' rfl (.tmp 49) (.tmp 51) 22 rfl base 3 1 8 int_app (iv (C.eraseIdx e)) rfl (own_below hown3 (by go_grown)) [.int .i64 r] rfl rfl (fun h => by cases h) (cells_at (by simp) _ _) (one_cell _) h63 hbig (by simp; omega) ?_; intro A5 c5 w5 hown5 hg5 hb5 hk5)
            have hb35 : Below base w3 w5 := (by go_grown : Below base w3 _).trans hb5
            have HI5 := Lib.hid (HI.out _ _ _ HI3.out hszb hb35)
            go_round
            case rel => exact ⟨A5, c5, m + 1, q + 1, k + 1, C.eraseIdx e ++ [r], by omega, by go_num, by go_num, rfl, by rw [← HMN.out]; exact Nat.le_refl _, by omega, Lib.hid (by rw [List.length_append, HCE.out]; rfl), HS2, HG2, Lib.hid fun _ => by have := HQ.out; omega, Lib.hid fun h => by have := HMN.out; omega, by rw [show iv (C.eraseIdx e ++ [r]) = iv (C.eraseIdx e) ++ [.int .i64 r] by simp [iv]]; exact hown5, HI5, hb3.trans (hb35.mono hB), Nat.le_trans hszb hb35.size⟩
            case measure => (simp [intOf]; omega)
        · have hbe : ((n : Int) == (p : Int)) = false := by simp; omega
          have hnlt : n < p := by omega
          have HG2 : Hid (misG ch p (C ++ [r]) (k + 1) (q + 1) (refs.drop (k + 1)) = R) := Lib.hid (by rw [← HG.out, HDR.out, misG_room HRN.out (by rw [HCL.out]; exact hc)])
          have HS2 : Hid (∀ x ∈ C ++ [r], x ∈ refs.take (k + 1)) := Lib.hid fun x hx => by
            rw [HT.out]
            rcases List.mem_append.1 hx with h | h
            · exact List.mem_append_left _ (HSUB.out x h)
            · exact List.mem_append_right _ h
          have hqn := HN.out hnlt
          have HQN := Lib.hid hqn
          have HI2 := Lib.hid (HUP.out q wr (by omega) HIQ.out)
          have h63 : n + 1 ≤ maxLen := by unfold maxLen; omega
          have hbig : (n + 1) * 8 ≤ 140737488355328 := by omega
          clear hqn hc
          go_wp2_with (first | (go_at_call 34; (with_reducible refine HH.out.mono ?_); rintro e w1 ⟨rfl, rfl⟩) | (at_builtin; refine wpList_app' rfl (.tmp 49) (.tmp 51) 22 rfl base 3 1 8 int_app (iv C) rfl (own_below hown (by go_grown)) [.int .i64 r] rfl rfl (fun h => by cases h) (cells_at (by simp) _ _) (one_cell _) h63 hbig (by simp; omega) ?_; intro A5 c5 w5 hown5 hg5 hb5 hk5))
          have hb35 : Below base wr w5 := (by go_grown : Below base wr _).trans hb5
          have HI5 := Lib.hid (HI.out _ _ _ HI2.out hsz hb35)
          go_round
          case rel => exact ⟨A5, c5, n + 1, q + 1, k + 1, C ++ [r], by omega, by go_num, by go_num, rfl, by omega, by omega, Lib.hid (by rw [List.length_append, HCL.out]; rfl), HS2, HG2, Lib.hid fun _ => by have := HQN.out; omega, Lib.hid fun _ => by have := HQN.out; omega, by rw [show iv (C ++ [r]) = iv C ++ [.int .i64 r] by simp [iv]]; exact hown5, HI5, hbw.trans (hb35.mono hB), Nat.le_trans hsz hb35.size⟩
          case measure => (simp [intOf]; omega)
    · have hkn : k = len := by omega
      subst hkn
      have HG2 : Hid (R = some q) := Lib.hid (by rw [← HG.out, ← HL.out, List.drop_length]; rfl)
      go_wp2
      go_ret2
      exact ⟨by rw [HG2.out]; rfl, hbw⟩

end Go.Proofs.Ytjnmohphinldkaa
