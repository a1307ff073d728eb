/-
  math/bits.OnesCount32 below 256: how many bits are set (over ColorSets).
-/
import Derived.Test.YthmcigdoaededaaDoorColorSets
import Derived.BigQuiet
import Derived.Lib.BitFns
namespace Go.Proofs.YthmcigdoaededaaDoor
open Go.RowKit
set_option linter.unusedSimpArgs false
set_option linter.unusedVariables false
set_option maxRecDepth 100000

theorem pop8_szC : ∀ n : Fin 256, Lib.pop8 (n.val : Int) = (szW n.val 8 : Int) := by decide +kernel

theorem and_255C : ∀ n : Fin 256, bits .and .u32 (n.val : Int) 255 = (n.val : Int) := by decide +kernel

/-- the table's byte, met in a quiet walk -/
theorem quiet_popC {P : Program} {o : Oper} {a : Act} {C : World → Prop} {w : World} {t : TypeId} {s i : Operand} {S : ByteArray} {x : Nat} (ho : o.op = .index t s i) (ht : P.underlying t = some .string) (hs : a.eval s = .string S) (hS : S = Lib.pop8tab) (hi : a.eval i = .int .u32 (x : Nat)) (hx : x < 256) :
    o.quietAt P a C w (.int .u8 ((szW x 8 : Nat) : Int)) := by
  have h := Lib.run_index_pop8tab (P := P) w t .u32 (x : Int) ht (by omega) (by omega)
  rw [pop8_szC ⟨x, hx⟩] at h
  unfold Oper.quietAt execOp
  simp only [ho, hs, hi, hS, Sem.run_bind, h, Result.andThen_ok, Sem.run_pure, Oper.quietUpon, and_self]

set_option maxHeartbeats 1000000 in
theorem onesC_any (x : Nat) (w : World) (hx : x < 256) :
    Calls Tryd.prog 29 #[.int .u32 (x : Nat)] w fun e w' => e = .returned (.int .i64 (szW x 8 : Nat)) ∧ ∃ n, w' = w.drewN n := by
  have h1 : ((x : Nat) : Int) / 16777216 = 0 := by omega
  have h2 : ((x : Nat) : Int) / 65536 = 0 := by omega
  have h3 : ((x : Nat) : Int) / 256 = 0 := by omega
  have h4 : bits .and .u32 (0 : Int) 255 = 0 := by decide +kernel
  have h5 : bits .and .u32 (x : Int) 255 = (x : Int) := and_255C ⟨x, hx⟩
  have h0 : Lib.pop8 0 = 0 := by decide +kernel
  have h8 := szW_le x 8
  have h9 : ((szW x 8 : Nat) : Int) % 256 = ((szW x 8 : Nat) : Int) := by omega
  go_enter Tryd.func29, Tryd.ntmps29
  go_wp2
  refine wp_region_quiet_lit (by kernel_rfl) (by kernel_rfl) ?_
  repeat (go_big_quiet_step (fail))
  go_big_quiet_want
  refine ⟨.int .u8 ((szW x 8 : Nat) : Int), fun w' _ => quiet_popC rfl Tryd.underlying9 rfl (by decide +kernel) rfl hx, ?_⟩
  go_simp
  go_big_quiet_on
  repeat (go_big_quiet_step (fail))
  refine wpQuiet_nil ?_
  intro _ hw'
  obtain ⟨nq, hw''⟩ := hw'
  subst hw''
  go_wp2
  go_ret
  exact ⟨ret_int rfl, nq, rfl⟩

end Go.Proofs.YthmcigdoaededaaDoor
