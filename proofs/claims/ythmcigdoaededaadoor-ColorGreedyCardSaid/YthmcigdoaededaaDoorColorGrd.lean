/-
  color.Greedy (O1).
-/
import Derived.Test.YthmcigdoaededaaDoorColorU
import Derived.Test.YthmcigdoaededaaDoorGreedIs
import Derived.Test.YthmcigdoaededaaDoorPureGrd
import Derived.Test.YthmcigdoaededaaDoorListsAll
import Derived.Test.YthmcigdoaededaaDoorRepeat
import Derived.Test.YthmcigdoaededaaDoorOnceNat
namespace Go.Proofs.YthmcigdoaededaaDoor
open Go.RowKit
set_option linter.unusedSimpArgs false
set_option linter.unusedVariables false
set_option maxRecDepth 100000

theorem xor_all : ∀ s : Fin 256, bits .xor .u32 IntKind.u32.max (s.val : Int) = ((4294967295 - s.val : Nat) : Int) := by decide +kernel

theorem xor_256 {s : Nat} (hs : s < 256) : bits .xor .u32 IntKind.u32.max (s : Int) = ((4294967295 - s : Nat) : Int) := xor_all ⟨s, hs⟩

set_option maxHeartbeats 4000000 in
theorem greedy_ok (n : Nat) (A : Option Addr) (len cap : Nat) (ps : List (Nat × Nat)) (Ao : Option Addr) (lo co : Nat) (o : List Nat) (w : World) (hz : TzT w) (hx : RdM w w.heap.size A (mvI ps)) (hl : ps.length = len) (hk : ClOk n ps) (hxo : RdI w w.heap.size Ao (ni o)) (hlo : o.length = lo) (ho : OrdK n o) :
    Calls Tryd.prog 6 #[.int .i64 n, .slice A len cap, .slice Ao lo co] w fun e w' => (∃ l, GrdC n (clP ps) o l ∧ Tells w' n l e) ∧ Below w.heap.size w w' := by
  have HF := Lib.hid (conflicts_ok n A len cap ps w hx hl hk)
  have HG := Lib.hid hk.gr
  have hn := hk.small
  have hn1 := hk.pos
  have hlon : lo = n := by rw [← hlo]; exact ho.len
  subst hlon
  have HLO : Hid ((ni o).length = lo) := Lib.hid (by rw [ni_len2, hlo])
  have HOD := Lib.hid ho
  have HON : Hid (onceB lo (ni o) = true) := Lib.hid (onceB_iff.2 (once_ofG ho))
  have HZT := Lib.hid hz
  have hm : lo ≤ maxLen := by unfold maxLen; omega
  clear hk hl hx ho hlo hz
  go_enter Tryd.func6, Tryd.ntmps6
  go_wp2_with fail
  refine HF.out.mono ?_
  rintro e w1 ⟨A2, c2, ws, rfl, hrd, hws, hb1⟩
  have hs1 := hb1.size
  have hxo1 := (hxo.below hb1 (Nat.le_refl _)).more hs1
  have HLA := Lib.hid (listsAll_any lo Ao lo co (ni o) w1.heap.size w1 hxo1 HLO.out hm hn)
  rw [HON.out] at HLA
  have HWS := Lib.hid hws
  have HREP := Lib.hid (repeat_any (-1) lo hn1 hn)
  clear hws
  go_wp2_with (first
    | (go_at_call 18; (with_reducible refine HLA.out.mono ?_); rintro e w2 ⟨rfl, rfl⟩)
    | (go_at_call 19; refine (HREP.out ⟨w1.heap.size, 0, none⟩ 1 _ (by simp) (by simp)).mono ?_; rintro e w2 ⟨rfl, hO2, hb2⟩))
  have hO3 : Own w2 (w1.heap.size + 1) 3 (iv (List.replicate lo (-1))) := by simpa using hO2
  obtain ⟨g, hg⟩ : ∃ g, w1.heap.size + 1 = g := ⟨_, rfl⟩
  have hb12 : Below w1.heap.size w1 w2 := (by go_grown : Below w1.heap.size w1 _).trans (hb2.mono (by simp))
  have hg1 : w1.heap.size ≤ g := by omega
  rw [hg] at hO3
  simp only [hg]
  clear hO2 hb2 hg
  go_loopw [31] (fun i wr => ∃ (t : Nat) (cs : List Int), t ≤ lo ∧ i = .int .i64 t ∧ Hid (GvnI lo (clP ps) o t cs) ∧ Own wr g 3 (iv cs) ∧ Below w1.heap.size w1 wr) (fun i _ => lo - (intOf i).toNat)
  case atStart => exact ⟨0, _, Nat.zero_le _, rfl, Lib.hid (GvnI.zero lo _ o), hO3, hb12⟩
  case round =>
    obtain ⟨t, cs, ht, rfl, HGV, hown, hb⟩ := hrel
    by_cases hlt : t < lo
    · obtain ⟨ad, i', rfl, hbl, hd, hcell⟩ := (hxo1.below hb (Nat.le_refl _)).at_ (k := t) (by rw [HLO.out]; exact hlt)
      obtain ⟨i, hi⟩ : ∃ i, o[t]? = some i := ⟨_, List.getElem?_eq_getElem (by rw [HOD.out.len]; exact hlt)⟩
      rw [ni_at hi] at hd
      injection hd with hd
      subst hd
      have hin : i < lo := HOD.out.nodup.2 i (List.mem_of_getElem? hi)
      obtain ⟨ad2, W, rfl, hbl2, hdW, hcW⟩ := (hrd.below hb (Nat.le_refl _)).at_ (k := i) (by rw [HWS.out.len]; exact hin)
      have hW8 := lt_256 hn (HWS.out.lt _ _ hdW)
      have hcl := HGV.out.len
      have HCO := Lib.hid (colorsOf_any W cs (some ⟨g, 0, none⟩) lo lo (g + 1) wr (OwnI.rd hown) hcl hn hW8 HGV.out.cells)
      have hTz := HZT.out.below (hb1.trans (hb.mono hs1))
      have HTZ : Hid (∀ x, x < 4294967296 → Calls Tryd.prog 20 #[.int .u32 (x : Nat)] wr fun e w' => e = .returned (.int .i64 (Lib.ctz 32 x : Nat)) ∧ wr = w') := Lib.hid fun x hx => tz_any x hx wr hTz
      have hblw : (ad.add t).block < wr.heap.size := by have := hb.size; omega
      have hblw2 : (ad2.add i).block < wr.heap.size := by have := hb.size; omega
      obtain ⟨old, hold⟩ : ∃ old, cs[i]? = some old := ⟨_, List.getElem?_eq_getElem (by rw [hcl]; exact hin)⟩
      have hco := hown.cell (iv_at hold)
      have hfo := hown.frozen i
      have hgl := hown.lt
      have HPUT := Lib.hid (fun s c (hT : TakN W cs lo s) (h1 : s.testBit c = false) (h2 : ∀ d, d < c → s.testBit d = true) => HGV.out.put HOD.out hn hi (fun j => HWS.out.bit _ _ hdW j) hT h1 h2)
      have HOW := Lib.hid (fun c : Nat => OwnI.set hown i (c : Int))
      clear hdW hi hTz hcl hold hown
      go_wp2_with (go_at_call 21; (with_reducible refine HCO.out.mono ?_); rintro e w5 ⟨⟨s, rfl, hs⟩, rfl⟩)
      have hs8 := hs.lt
      rw [xor_256 hs8]
      obtain ⟨q1, q2⟩ := ctz_least hs8
      refine (HTZ.out (4294967295 - s) (by omega)).mono ?_
      rintro e w6 ⟨rfl, rfl⟩
      obtain ⟨hc8, hgv⟩ := HPUT.out s _ hs q1 q2
      obtain ⟨c, hc⟩ : ∃ c, Lib.ctz 32 (4294967295 - s) = c := ⟨_, rfl⟩
      rw [hc] at hc8 hgv ⊢
      have HGV2 := Lib.hid hgv
      have HOW2 := Lib.hid (HOW.out c)
      clear hs q1 q2 hgv hc
      go_wp2
      go_round
      case rel => exact ⟨t + 1, _, by omega, by go_num, HGV2, HOW2.out, hb.setCell (show w1.heap.size ≤ (⟨g, i, none⟩ : Addr).block from hg1) _⟩
      case measure => (simp [intOf]; omega)
    · have htl : t = lo := by omega
      subst htl
      obtain ⟨l, hcs, hgr⟩ := HGV.out.done HOD.out
      have HGR := Lib.hid hgr
      have HLL := Lib.hid hgr.len
      have HRD := Lib.hid (OwnI.rd hown)
      rw [hcs] at HRD
      have hgl := hown.lt
      clear hcs hgr hown
      go_wp2
      go_ret2
      exact ⟨⟨l, HGR.out, _, _, rfl, HRD.out.more (by omega)⟩, hb1.trans (hb.mono hs1)⟩

set_option maxHeartbeats 1000000 in
theorem greedy_bad (n : Int) (A : Option Addr) (len cap : Nat) (l : List (Int × Int)) (Ao : Option Addr) (lo co : Nat) (o : List Int) (w : World) (hx : RdM w w.heap.size A l) (hl : l.length = len) (hm : len ≤ maxLen) (hxo : RdI w w.heap.size Ao o) (hlo : o.length = lo) (hmo : lo ≤ maxLen) (hc : ckCl n l ≠ 0) :
    Calls Tryd.prog 6 #[.int .i64 n, .slice A len cap, .slice Ao lo co] w fun e w' => e = .returned (.tuple #[.slice none 0 0, .int .i64 (ckCl n l)]) ∧ Below w.heap.size w w' := by
  have HF := Lib.hid (conflicts_bad n A len cap l w hx hl hm hc)
  obtain ⟨x, hx0⟩ : ∃ x, ckCl n l = x := ⟨_, rfl⟩
  rw [hx0] at HF hc ⊢
  have hb0 : (x != 0) = true := by simpa using hc
  clear hx hl hm hx0 hc hxo hlo
  go_enter Tryd.func6, Tryd.ntmps6
  go_wp2_with fail
  refine HF.out.mono ?_
  rintro e w1 ⟨rfl, hb1⟩
  go_wp2
  go_ret2
  exact ⟨rfl, hb1⟩

set_option maxHeartbeats 1000000 in
theorem greedy_form (n : Nat) (A : Option Addr) (len cap : Nat) (ps : List (Nat × Nat)) (Ao : Option Addr) (lo co : Nat) (o : List Int) (w : World) (hx : RdM w w.heap.size A (mvI ps)) (hl : ps.length = len) (hk : ClOk n ps) (hxo : RdI w w.heap.size Ao o) (hlo : o.length = lo) (hmo : lo ≤ maxLen) (hno : ¬ OnceI n o) :
    Calls Tryd.prog 6 #[.int .i64 n, .slice A len cap, .slice Ao lo co] w fun e w' => e = .returned (.tuple #[.slice none 0 0, .int .i64 3]) ∧ Below w.heap.size w w' := by
  have HF := Lib.hid (conflicts_ok n A len cap ps w hx hl hk)
  have hn := hk.small
  have HON : Hid (onceB n o = false) := Lib.hid (onceB_no hno)
  have HLO := Lib.hid hlo
  clear hk hl hx hno hlo
  go_enter Tryd.func6, Tryd.ntmps6
  go_wp2_with fail
  refine HF.out.mono ?_
  rintro e w1 ⟨A2, c2, ws, rfl, hrd, hws, hb1⟩
  have HLA := Lib.hid (listsAll_any n Ao lo co o w1.heap.size w1 ((hxo.below hb1 (Nat.le_refl _)).more hb1.size) HLO.out hmo hn)
  rw [HON.out] at HLA
  clear hws hrd
  go_wp2_with (go_at_call 18; (with_reducible refine HLA.out.mono ?_); rintro e w2 ⟨rfl, rfl⟩)
  go_ret2
  exact ⟨rfl, hb1⟩

theorem greedyIs : GreedyIs := ⟨fun n A len cap ps Ao lo co o w hz hx hl hk hxo hlo ho => greedy_ok n A len cap ps Ao lo co o w hz hx hl hk hxo hlo ho, greedy_bad, greedy_form⟩

end Go.Proofs.YthmcigdoaededaaDoor
