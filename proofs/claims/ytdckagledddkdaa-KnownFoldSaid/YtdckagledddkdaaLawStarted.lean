/-
  codemasonkeep.started: does a beginning allow values? (L1)
-/
import Derived.Test.YtdckagledddkdaaLawKnown
namespace Go.Proofs.Ytdckagledddkdaa
open Go.RowKit
set_option linter.unusedSimpArgs false
set_option linter.unusedVariables false
set_option maxRecDepth 100000

theorem leL_of {hv st : List Int} (hl : hv.length = st.length) (h : ∀ (k : Nat) (x y : Int), st[k]? = some x → hv[k]? = some y → x = -1 ∨ y = x) : LeL hv st := ⟨hl, fun v hv' => by
  have h1 := List.getElem?_eq_getElem hv'
  have h2 := List.getElem?_eq_getElem (show v < st.length by rw [← hl]; exact hv')
  rw [getD_at h1, getD_at h2]
  exact h v _ _ h2 h1⟩

set_option maxHeartbeats 4000000 in
theorem started_any (n : Nat) (SA HA : Option Addr) (hl sc hc : Nat) (st hv : List Int) (w : World) (hs : RdI w w.heap.size SA st) (hh : RdI w w.heap.size HA hv) (hk : KOk n st) (hhl : hv.length = hl) (hm : hl ≤ maxLen) (hn : n ≤ 6) :
    Calls Try.prog 17 #[.int .i64 n, .slice SA n sc, .slice HA hl hc] w fun e w' => ((e = .returned (.bool true) ∧ ValsOk n hv ∧ LeL hv st) ∨ (e = .returned (.bool false) ∧ ¬ (ValsOk n hv ∧ LeL hv st))) ∧ w = w' := by
  have hst : ckStart n st = 0 := ckStart_ok.2 hk
  have HK := Lib.hid hk
  have HHL := Lib.hid hhl
  have hSC := startCheck_any n SA n sc st w.heap.size w hs hk.1 (by unfold maxLen; omega)
  rw [hst] at hSC
  have HSC := Lib.hid hSC
  have HSL := Lib.hid hk.1
  have hgv := given_any n HA hl hc hv w.heap.size w hh hhl hm
  clear hst hSC hk hhl
  by_cases hg : ckHave n hv = 0
  · have hvo := valsOk_of hg
    have HVO := Lib.hid hvo
    have hll : hl = n := by rw [← HHL.out]; exact hvo.1
    subst hll
    rw [show (ckHave hl hv == 0) = true by simp [hg]] at hgv
    have HG := Lib.hid hgv
    clear hg hvo hgv
    go_enter Try.func17, Try.ntmps17
    go_wp2_with (first
      | (go_at_call 16; (with_reducible refine HSC.out.mono ?_); rintro e w5 ⟨rfl, rfl⟩)
      | (go_at_call 30; (with_reducible refine HG.out.mono ?_); rintro e w5 ⟨rfl, rfl⟩))
    go_loopw [21] (fun z wr => ∃ k : Nat, k ≤ hl ∧ z = .int .i64 k ∧ (∀ (j : Nat) (x y : Int), j < k → st[j]? = some x → hv[j]? = some y → x = -1 ∨ y = x) ∧ w = wr) (fun z _ => hl - (intOf z).toNat)
    case atStart => exact ⟨0, Nat.zero_le _, rfl, fun j x y h => by omega, rfl⟩
    case round =>
      obtain ⟨k, hk, rfl, hpre, rfl⟩ := hrel
      have HP := Lib.hid hpre
      clear hpre
      by_cases hlt : k < hl
      · obtain ⟨ad, x, rfl, hbl, hd, hcx⟩ := hs.at_ (k := k) (by rw [HSL.out]; exact hlt)
        obtain ⟨ad2, y, rfl, hbl2, hd2, hcy⟩ := hh.at_ (k := k) (by rw [HHL.out]; exact hlt)
        have hxb := HK.out.2 k x hd
        by_cases hok : x = -1 ∨ y = x
        · have HNX : Hid (∀ (j : Nat) (x y : Int), j < k + 1 → st[j]? = some x → hv[j]? = some y → x = -1 ∨ y = x) := Lib.hid fun j x' y' hj h1 h2 => by
            by_cases e : j = k
            · subst e
              rw [hd] at h1
              rw [hd2] at h2
              injection h1 with h1
              injection h2 with h2
              subst h1 h2
              exact hok
            · exact HP.out j x' y' (by omega) h1 h2
          clear hd hd2
          by_cases hx1 : x = -1
          · have f1 : decide (0 ≤ x) = false := by simp; omega
            clear hx1 hok
            go_wp2
            go_round
            case rel => exact ⟨k + 1, by omega, by go_num, HNX.out, by first | trivial | rfl⟩
            case measure => (simp [intOf]; omega)
          · have f1 : decide (0 ≤ x) = true := by simp; omega
            have f2 : (y != x) = false := by simp; omega
            clear hx1 hok
            go_wp2
            go_round
            case rel => exact ⟨k + 1, by omega, by go_num, HNX.out, by first | trivial | rfl⟩
            case measure => (simp [intOf]; omega)
        · have HNO : Hid (¬ (ValsOk hl hv ∧ LeL hv st)) := Lib.hid fun ⟨_, h⟩ => by
            have := h.2 k (by rw [HHL.out]; exact hlt)
            rw [getD_at hd, getD_at hd2] at this
            exact hok this
          have f1 : decide (0 ≤ x) = true := by simp; omega
          have f2 : (y != x) = true := by simp; omega
          clear hd hd2 hok
          go_wp2
          go_ret
          exact ⟨.inr ⟨rfl, HNO.out⟩, rfl⟩
      · have HYES : Hid (LeL hv st) := Lib.hid (leL_of (by rw [HHL.out, HSL.out]) fun j x y h1 h2 => HP.out j x y (by have := (List.getElem?_eq_some_iff.1 h2).1; rw [HHL.out] at this; omega) h1 h2)
        go_wp2
        go_ret
        exact ⟨.inl ⟨rfl, HVO.out, HYES.out⟩, rfl⟩
  · have HNO : Hid (¬ (ValsOk n hv ∧ LeL hv st)) := Lib.hid fun ⟨h, _⟩ => hg (ckHave_vals h)
    rw [show (ckHave n hv == 0) = false by simp [hg]] at hgv
    have HG := Lib.hid hgv
    clear hg hgv
    go_enter Try.func17, Try.ntmps17
    go_wp2_with (first
      | (go_at_call 16; (with_reducible refine HSC.out.mono ?_); rintro e w5 ⟨rfl, rfl⟩)
      | (go_at_call 30; (with_reducible refine HG.out.mono ?_); rintro e w5 ⟨rfl, rfl⟩))
    go_ret
    exact ⟨.inr ⟨rfl, HNO.out⟩, rfl⟩

end Go.Proofs.Ytdckagledddkdaa
