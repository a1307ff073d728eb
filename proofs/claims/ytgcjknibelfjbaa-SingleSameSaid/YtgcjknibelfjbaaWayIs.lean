/-
  What package way's functions do (E1, E2): their contracts in one word.
-/
import Derived.Test.YtgcjknibelfjbaaWaySets
import Derived.Test.YtgcjknibelfjbaaTurned
namespace Go.Proofs.Ytgcjknibelfjbaa
open Go.RowKit
set_option linter.unusedSimpArgs false
set_option linter.unusedVariables false
set_option maxRecDepth 100000

/-- E1: the word of all to which one comes -/
def reachW (nx : List (List Int)) : Nat := if ckWay nx = 0 then setW (finL nx) else 0

/-- E2: the parts -/
structure Pts (nx : List (List Int)) (ws : List Nat) : Prop where
  len : ws.length = nx.length
  lt : ∀ (i W : Nat), ws[i]? = some W → W < 2 ^ nx.length
  mem : ∀ (i W : Nat), ws[i]? = some W → ∀ j, W.testBit j = true ↔ Both nx i j

theorem fin_lt8 {nx : List (List Int)} (hc : ckWay nx = 0) : ∀ x ∈ finL nx, x < 8 := fun x hx => by
  have := ckWay_bd hc
  have := fin_lt hc hx
  omega

theorem setW_fin {nx : List (List Int)} (hc : ckWay nx = 0) {hs : List Nat} (h : Rch nx (-1) 0 hs) : setW hs = setW (finL nx) := word_ext fun j => by rw [setW_bit, setW_bit, h.mem, fin_mem hc]

theorem reachW_lt (nx : List (List Int)) : reachW nx < 256 := by
  unfold reachW
  split
  · rename_i hc
    exact setW_lt (n := 8) (fin_lt8 hc)
  · omega

theorem Pts.one {nx : List (List Int)} {ws ws' : List Nat} (h : Pts nx ws) (h' : Pts nx ws') : ws = ws' := by
  apply List.ext_getElem?
  intro i
  rcases Nat.lt_or_ge i nx.length with hi | hi
  · have h1 := List.getElem?_eq_getElem (show i < ws.length by rw [h.len]; exact hi)
    have h2 := List.getElem?_eq_getElem (show i < ws'.length by rw [h'.len]; exact hi)
    rw [h1, h2]
    congr 1
    exact word_ext fun j => by rw [h.mem i _ h1, h'.mem i _ h2]
  · rw [List.getElem?_eq_none (by rw [h.len]; exact hi), List.getElem?_eq_none (by rw [h'.len]; exact hi)]

theorem Both.turn {nx : List (List Int)} (hc : ckWay nx = 0) {i j : Nat} : Both (trG nx) i j ↔ Both nx i j :=
  ⟨fun h => ⟨h.2.turned hc, h.1.turned hc⟩, fun h => ⟨h.2.turn hc, h.1.turn hc⟩⟩

theorem Pts.turn {nx : List (List Int)} (hc : ckWay nx = 0) {ws : List Nat} (h : Pts (trG nx) ws) : Pts nx ws :=
  ⟨by rw [h.len, trG_len], fun i W hW => by have := h.lt i W hW; rwa [trG_len] at this, fun i W hW j => by rw [h.mem i W hW, Both.turn hc]⟩

theorem Pts.me {nx : List (List Int)} {ws : List Nat} (h : Pts nx ws) {i W : Nat} (hW : ws[i]? = some W) : W.testBit i = true := (h.mem i W hW i).2 ⟨Rea.me nx i, Rea.me nx i⟩

theorem Pts.same {nx : List (List Int)} {ws : List Nat} (h : Pts nx ws) {i j W V : Nat} (hW : ws[i]? = some W) (hV : ws[j]? = some V) (hb : W.testBit j = true) : W = V := by
  have hij := (h.mem i W hW j).1 hb
  exact word_ext fun k => by
    rw [h.mem i W hW, h.mem j V hV]
    exact ⟨fun hk => ⟨hij.2.trans hk.1, hk.2.trans hij.1⟩, fun hk => ⟨hij.1.trans hk.1, hk.2.trans hij.2⟩⟩

end Go.Proofs.Ytgcjknibelfjbaa
