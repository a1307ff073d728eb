/-
  The closure of codemasonref.Fewest: the lesser is kept (P1).
-/
import Derived.Test.YtjnmohphinldkaaMapRange
import Derived.Test.YtjnmohphinldkaaPureFew
import Derived.Test.YtjnmohphinldkaaPureNm
namespace Go.Proofs.Ytjnmohphinldkaa
open Go.RowKit
set_option linter.unusedSimpArgs false
set_option linter.unusedVariables false
set_option maxRecDepth 100000

theorem zero_intF (w : World) : (zeroValue 3).run Try.prog w = .ok (.int .i64 0) w := by kernel_rfl

theorem word_keyed : Maps.Keyed Try.prog 36 := Maps.int_keyed Try.underlying36

/-- words and misses as keys and elements -/
def fW (g : Nat → Option Nat) : Value → Option Value
  | .int .u32 x => if 0 ≤ x then (g x.toNat).map fun k => .int .i64 (k : Nat) else none
  | _ => none

theorem fW_at (g : Nat → Option Nat) (W : Nat) : fW g (.int .u32 (W : Nat)) = (g W).map fun k => .int .i64 (k : Nat) := by
  show (if 0 ≤ ((W : Nat) : Int) then (g ((W : Nat) : Int).toNat).map fun k => Value.int .i64 (k : Nat) else none) = _
  rw [if_pos (by omega), Int.toNat_natCast]

theorem fW_inv {g : Nat → Option Nat} {x v : Value} (h : fW g x = some v) : ∃ W k : Nat, x = .int .u32 (W : Nat) ∧ v = .int .i64 (k : Nat) ∧ g W = some k := by
  unfold fW at h
  split at h
  · rename_i x
    by_cases h0 : 0 ≤ x
    · rw [if_pos h0] at h
      obtain ⟨n, rfl⟩ := Int.eq_ofNat_of_zero_le h0
      rw [Int.toNat_natCast] at h
      cases hg : g n with
      | none => rw [hg] at h; cases h
      | some k => rw [hg] at h; injection h with h; exact ⟨n, k, rfl, h.symm, hg⟩
    · rw [if_neg h0] at h; cases h
  · cases h

theorem fW_none : ∀ x, fW (fun _ => none) x = none := fun x => by
  unfold fW
  split
  · split <;> rfl
  · rfl

theorem putM_same {g : Nat → Option Nat} {W k o : Nat} (h : g W = some o) (hk : ¬ k < o) : putM g W k = g := by
  funext x
  unfold putM
  by_cases hx : x = W
  · subst hx; rw [if_pos rfl, h]; simp [hk]
  · rw [if_neg hx]

theorem putM_at {g : Nat → Option Nat} {W k : Nat} (h : ∀ o, g W = some o → k < o) : putM g W k W = some k := by
  unfold putM
  rw [if_pos rfl]
  cases hg : g W with
  | none => rfl
  | some o => simp [h o hg]

theorem putM_off {g : Nat → Option Nat} {W k x : Nat} (h : x ≠ W) : putM g W k x = g x := by unfold putM; rw [if_neg h]

theorem word_key {W : Nat} (hW : W < 4294967296) : KeyV Try.prog 36 (.int .u32 (W : Nat)) := ⟨.int .u32 (W : Nat), Maps.keyOf_int_mk Try.underlying36 (by
  simp only [Lit.wf, Bool.and_eq_true, decide_eq_true_eq]
  simp only [IntKind.min, IntKind.max, IntKind.bits, IntKind.signed]
  constructor <;> simp <;> omega)⟩

theorem fW_put {g : Nat → Option Nat} {W k : Nat} (h : ∀ o, g W = some o → k < o) : fW (putM g W k) (.int .u32 (W : Nat)) = some (.int .i64 (k : Nat)) ∧ ∀ x, x ≠ .int .u32 (W : Nat) → fW (putM g W k) x = fW g x := by
  refine ⟨by rw [fW_at, putM_at h]; rfl, fun x hx => ?_⟩
  unfold fW
  split
  · rename_i y
    by_cases h0 : 0 ≤ y
    · rw [if_pos h0, if_pos h0, putM_off fun e => hx (by rw [← e, Int.toNat_of_nonneg h0])]
    · rw [if_neg h0, if_neg h0]
  · rfl

theorem Turned.refl (b : Nat) (w : World) : Turned b w w := ⟨rfl, rfl, rfl, rfl, fun _ _ => rfl⟩

set_option maxHeartbeats 2000000 in
theorem put_any (gb bm : Nat) (g : Nat → Option Nat) (W k : Nat) (w : World) (hO : Own w gb 37 [.map (some bm)]) (hS : OwnS Try.prog 36 w bm (fW g)) (hW : W < 4294967296) :
    Calls Try.prog 25 #[.int .u32 (W : Nat), .int .i64 (k : Nat), .pointer (some ⟨gb, 0, none⟩)] w fun e w' => e = .returned (.tuple #[]) ∧ OwnS Try.prog 36 w' bm (fW (putM g W k)) ∧ Turned bm w w' := by
  have hc := hO.cell (j := 0) rfl
  have HF := Lib.hid hS.f
  have HS := Lib.hid hS
  have HK := Lib.hid (word_key hW)
  clear hO hS
  cases hg : g W with
  | none =>
    have HG : Hid (fW g (.int .u32 (W : Nat)) = none) := Lib.hid (by rw [fW_at, hg]; rfl)
    have HP := Lib.hid (fW_put (g := g) (W := W) (k := k) (fun o h => by rw [hg] at h; cases h))
    clear hg
    go_enter Try.func25, Try.ntmps25
    go_wp2_with (first
      | (at_lookup; refine wpList_look_miss rfl (.tmp 8) (.tmp 9) 37 rfl word_keyed Try.underlying37 rfl HF.out zero_intF rfl HK.out HG.out ?_)
      | (at_mapUpdate; refine wpList_put_stamp rfl (.tmp 20) (.tmp 21) (.tmp 22) 37 (.inl rfl) word_keyed Try.underlying37 rfl HS.out rfl rfl HK.out HP.out.1 HP.out.2 ?_; intro w1 hS1 ht1))
    go_returns
    exact ⟨rfl, hS1, ht1⟩
  | some o =>
    have HG : Hid (fW g (.int .u32 (W : Nat)) = some (.int .i64 (o : Nat))) := Lib.hid (by rw [fW_at, hg]; rfl)
    by_cases hko : k < o
    · have HP := Lib.hid (fW_put (g := g) (W := W) (k := k) (fun o' h => by rw [hg] at h; injection h with h; omega))
      clear hg
      go_enter Try.func25, Try.ntmps25
      go_wp2_with (first
        | (at_lookup; refine wpList_look_hit rfl (.tmp 8) (.tmp 9) 37 rfl word_keyed Try.underlying37 rfl HF.out zero_intF rfl HK.out HG.out ?_)
        | (at_mapUpdate; refine wpList_put_stamp rfl (.tmp 20) (.tmp 21) (.tmp 22) 37 (.inl rfl) word_keyed Try.underlying37 rfl HS.out rfl rfl HK.out HP.out.1 HP.out.2 ?_; intro w1 hS1 ht1))
      go_returns
      exact ⟨rfl, hS1, ht1⟩
    · have HP := Lib.hid (putM_same hg hko)
      clear hg
      go_enter Try.func25, Try.ntmps25
      go_wp2_with (at_lookup; refine wpList_look_hit rfl (.tmp 8) (.tmp 9) 37 rfl word_keyed Try.underlying37 rfl HF.out zero_intF rfl HK.out HG.out ?_)
      go_returns
      exact ⟨rfl, by rw [HP.out]; exact HS.out, Turned.refl _ _⟩

end Go.Proofs.Ytjnmohphinldkaa
