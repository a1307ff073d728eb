/-
  codemasonref.Reach over graphs with longer rows (Q1).
-/
import Derived.Test.YthmcigdoaededaaMBase
namespace Go.Proofs.Ythmcigdoaededaa
open Go.RowKit
set_option linter.unusedSimpArgs false
set_option linter.unusedVariables false
set_option maxRecDepth 100000

/-- a graph with rows of up to 28 -/
def WayB (nx : List (List Int)) : Prop := 1 ≤ nx.length ∧ nx.length ≤ 8 ∧ ∀ r ∈ nx, r.length ≤ 28 ∧ ∀ x ∈ r, 0 ≤ x ∧ x < nx.length

section
variable {nx : List (List Int)} (hc : WayB nx)
include hc

theorem sc_ltB {i x : Nat} (h : x ∈ sc nx i) : x < nx.length := by
  obtain ⟨_, _, h3⟩ := hc
  rcases Nat.lt_or_ge i nx.length with hi | hi
  · rw [sc_at (List.getElem?_eq_getElem hi)] at h
    obtain ⟨y, hy, rfl⟩ := List.mem_map.1 h
    have := (h3 _ (List.getElem_mem hi)).2 y hy
    omega
  · rw [sc_out hi] at h; cases h

theorem sc_lenB (i : Nat) : (sc nx i).length ≤ 28 := by
  obtain ⟨_, _, h3⟩ := hc
  rcases Nat.lt_or_ge i nx.length with hi | hi
  · rw [sc_at (List.getElem?_eq_getElem hi), List.length_map]
    exact (h3 _ (List.getElem_mem hi)).1
  · rw [sc_out hi]; simp

theorem row_scB {i : Nat} {row : List Int} (h : nx[i]? = some row) : row = ni (sc nx i) := by
  obtain ⟨_, _, h3⟩ := hc
  rw [sc_at h]
  unfold ni
  rw [List.map_map]
  have hm := List.mem_of_getElem? h
  have : ∀ x ∈ row, ((fun n : Nat => (n : Int)) ∘ Int.toNat) x = x := fun x hx => by
    have := (h3 _ hm).2 x hx
    simp only [Function.comp]
    omega
  conv => lhs; rw [← List.map_id row]
  exact List.map_congr_left fun x hx => (this x hx).symm

end

theorem RIn.addB {nx : List (List Int)} {wo : Int} {i j k : Nat} {hs : List Nat} (hc : WayB nx) (h : RIn nx wo i hs) (hj : j ∈ hs) (hk : k ∈ sc nx j) : RIn nx wo i (addW wo hs k) := by
  unfold addW
  split
  · rename_i h2
    refine ⟨?_, fun x hx => ?_, fun x hx => ?_, List.mem_append_left _ h.hd⟩
    · rw [List.nodup_append]
      exact ⟨h.nd, by simp, fun a ha b hb => by simp at hb; subst hb; exact fun e => h2.2 (e ▸ ha)⟩
    · rcases List.mem_append.1 hx with hx | hx
      · exact h.lt x hx
      · simp at hx; subst hx; exact sc_ltB hc hk
    · rcases List.mem_append.1 hx with hx | hx
      · exact h.rea x hx
      · simp at hx; subst hx; exact (h.rea j hj).step hk h2.1
  · exact h

theorem RIn.foldB {nx : List (List Int)} {wo : Int} {i j : Nat} (hc : WayB nx) : ∀ (xs hs : List Nat), (∀ x ∈ xs, x ∈ sc nx j) → j ∈ hs → RIn nx wo i hs → RIn nx wo i (xs.foldl (addW wo) hs)
  | [], hs, _, _, h => h
  | x :: xs, hs, hx, hj, h => RIn.foldB hc xs _ (fun y hy => hx y (List.mem_cons_of_mem _ hy)) (addW_sub hj) (h.addB hc hj (hx x (List.mem_cons_self ..)))

set_option maxHeartbeats 4000000 in
theorem refReachB_any (A : Option Addr) (len cap : Nat) (nx : List (List Int)) (i : Nat) (wo : Int) (w : World) (hx : RdG w w.heap.size A nx) (hl : nx.length = len) (hc : WayB nx) (hi : i < len) :
    Calls Try.prog 26 #[.slice A len cap, .int .i64 i, .int .i64 wo] w fun e w' => ∃ hs A' c', Rch nx wo i hs ∧ e = .returned (.slice A' hs.length c') ∧ RdI w' w'.heap.size A' (ni hs) ∧ Below w.heap.size w w' := by
  obtain ⟨b1, b2, b3⟩ := id hc
  have HL := Lib.hid hl
  have HC := Lib.hid hc
  rw [hl] at b1 b2
  by_cases hw : (i : Int) = wo
  · subst hw
    have HN := Lib.hid (Rch.none (nx := nx) (i := i) rfl)
    clear hl hc b3
    go_enter Try.func26, Try.ntmps26
    go_wp2
    go_ret
    exact ⟨[], none, 0, HN.out, rfl, fun h => by simp [ni] at h, Below.refl _ _⟩
  · have hst := RIn.start (nx := nx) (by rw [hl]; exact hi) hw
    have HST := Lib.hid hst
    have e0 : ((i : Int) == wo) = false := by simp; exact hw
    clear hl hc b3 hst hw
    go_enter Try.func26, Try.ntmps26
    go_wp2
    go_loopw [7, 8] (fun s z wr => ∃ (hs : List Nat) (k : Nat) (A2 : Option Addr) (c2 : Nat), k ≤ hs.length ∧ z = .int .i64 k ∧ s = .slice A2 hs.length c2 ∧ wr.ownsRow w.heap.size 3 1 (.slice A2 hs.length c2) hs.length (iv (ni hs)) ∧ Below w.heap.size w wr ∧ RIn nx wo i hs ∧ RDone nx wo hs k)
      (fun s z _ => 2 * (len - lenOf s) + (lenOf s - (intOf z).toNat))
    case atStart =>
      exact ⟨[i], 0, _, _, by simp, rfl, rfl, ⟨rfl, .inr ⟨w.heap.size, 1, #[.int .i64 i], rfl, Nat.le_refl _, heap_alloc_new _ _, Nat.le_refl _, by simp [maxLen], rfl, rfl⟩⟩, by go_grown, HST.out, fun p j hp => by omega⟩
    case round =>
      obtain ⟨hs, k, A2, c2, hk, rfl, rfl, hown, hb, hci, hcd⟩ := hrel
      have hhl := hci.len
      rw [HL.out] at hhl
      have HCI := Lib.hid hci
      have HCD := Lib.hid hcd
      have hsz := hb.size
      clear hci hcd
      by_cases hlt : k < hs.length
      · obtain ⟨j, hj⟩ : ∃ j, hs[k]? = some j := ⟨_, List.getElem?_eq_getElem hlt⟩
        have hjm : j ∈ hs := List.mem_of_getElem? hj
        have hjl := HCI.out.lt j hjm
        rw [HL.out] at hjl
        obtain ⟨ad2, z, rfl, hbl2, hz, hcz⟩ := (own_rdI hown (by simp [ni])).at_ (k := k) (by simpa [ni] using hlt)
        obtain rfl : z = (j : Int) := by rw [ni_at hj] at hz; injection hz with hz; exact hz.symm
        obtain ⟨ad, row, Ar, cr, rfl, hbl, hd, hcell, hrow⟩ := ((hx.below hb (Nat.le_refl _))).at_ (k := j) (by rw [HL.out]; exact hjl)
        have hrs := row_scB HC.out hd
        have hst := HCD.out.step hj
        have hsl := sc_lenB HC.out j
        subst hrs
        have HSL : Hid ((ni (sc nx j)).length = (sc nx j).length) := Lib.hid (by simp [ni])
        rw [HSL.out] at hcell
        have hscm : ∀ x ∈ sc nx j, x ∈ sc nx j := fun _ h => h
        have hfold := fun xs (hxs : ∀ x ∈ xs, x ∈ sc nx j) => RIn.foldB HC.out xs hs hxs hjm HCI.out
        obtain ⟨ss, hss⟩ : ∃ ss, sc nx j = ss := ⟨_, rfl⟩
        rw [hss] at hst hsl hrow hcell hfold
        obtain ⟨sl, hsl2⟩ : ∃ sl, ss.length = sl := ⟨_, rfl⟩
        rw [hsl2] at hcell hsl
        have HSS := Lib.hid hsl2
        have HST2 := Lib.hid hst
        have HF := Lib.hid hfold
        clear hst hd hjm hz hj hsl2 hscm hfold hss HSL
        obtain ⟨wo', rfl⟩ : ∃ wo' : World, wo' = wr := ⟨_, rfl⟩
        have hrowb : RdI wo' w.heap.size Ar (ni ss) := hrow
        go_wp2
        go_loopw [7, 30] (fun s z wi => ∃ (c : Nat) (A3 : Option Addr) (c3 : Nat), c ≤ sl ∧ z = .int .i64 c ∧ s = .slice A3 ((ss.take c).foldl (addW wo) hs).length c3 ∧
            wi.ownsRow w.heap.size 3 1 (.slice A3 ((ss.take c).foldl (addW wo) hs).length c3) ((ss.take c).foldl (addW wo) hs).length (iv (ni ((ss.take c).foldl (addW wo) hs))) ∧ Below w.heap.size w wi)
          (fun _ z _ => sl - (intOf z).toNat)
        case atStart => exact ⟨0, some ad2, c2, by omega, rfl, rfl, hown, hb⟩
        case round =>
          obtain ⟨c, A3, c3, hc2, rfl, rfl, howni, hbi⟩ := hrel
          have hszi := hbi.size
          have hcic := HF.out (ss.take c) (fun x hx => List.mem_of_mem_take hx)
          have hcl := hcic.len
          have hge := foldW_len (wo := wo) (ss.take c) hs
          rw [HL.out] at hcl
          by_cases hclt : c < sl
          · obtain ⟨x, hxc⟩ : ∃ x, ss[c]? = some x := ⟨_, List.getElem?_eq_getElem (by rw [HSS.out]; exact hclt)⟩
            have hnx := foldW_next (wo := wo) (hs := hs) hxc
            have hrowi : RdI wr w.heap.size Ar (ni ss) := Rd.keep hrowb fun p hp => ((hbi.cell hp).trans (hb.cell hp).symm)
            obtain ⟨ar, x', hAr, hbr, hxr, hcx⟩ := hrowi.at_ (k := c) (by simp [ni]; rw [HSS.out]; exact hclt)
            rw [ni_at hxc] at hxr
            injection hxr with hxr
            subst hxr
            subst hAr
            generalize List.foldl (addW wo) hs (List.take c ss) = cur at *
            have h63 : cur.length + 1 ≤ maxLen := by unfold maxLen; omega
            have h63' : cur.length ≤ maxLen := by unfold maxLen; omega
            have hbig : (cur.length + 1) * 8 ≤ 140737488355328 := by omega
            have hrd := own_rdI howni (by simp [ni])
            have hbs : w.heap.size ≤ (wr.alloc (.cells #[.int .i64 (x : Int)] 3)).heap.size := by simp; omega
            have HXC := Lib.hid hxc
            clear hxc hcic
            have stay : addW wo cur x = cur → List.foldl (addW wo) hs (List.take (c + 1) ss) = cur := fun h => by rw [hnx, h]
            by_cases hwx : (x : Int) = wo
            · have hn : addW wo cur x = cur := by unfold addW; rw [if_neg (fun h => h.1 hwx)]
              have HNX := Lib.hid (stay hn)
              have ew : ((x : Int) != wo) = false := by simp; exact hwx
              clear hnx stay hn hwx
              go_wp2
              go_round
              case rel => exact ⟨c + 1, A3, c3, by omega, by go_num, by rw [HNX.out], by rw [HNX.out]; exact howni, hbi⟩
              case measure => (simp [intOf]; omega)
            · have ew : ((x : Int) != wo) = true := by simp; exact hwx
              by_cases hin : x ∈ cur
              · have hb1 : hasB (ni cur) (x : Int) = true := hasB_iff.2 (ni_mem.2 hin)
                have hn : addW wo cur x = cur := by unfold addW; rw [if_neg (fun h => h.2 hin)]
                have HNX := Lib.hid (stay hn)
                clear hnx stay hn hwx hin
                go_wp2_with (go_at_call 17; (with_reducible refine (has_any _ _ _ _ (ni cur) _ _ hrd ?_ h63').mono ?_); (· (simp [ni]; done)); rintro e w5 ⟨rfl, rfl⟩)
                go_round
                case rel => exact ⟨c + 1, A3, c3, by omega, by go_num, by rw [HNX.out], by rw [HNX.out]; exact howni, hbi⟩
                case measure => (simp [intOf]; omega)
              · have hb1 : hasB (ni cur) (x : Int) = false := by
                  cases h : hasB (ni cur) (x : Int) with
                  | false => rfl
                  | true => exact absurd (ni_mem.1 (hasB_iff.1 h)) hin
                have hn : addW wo cur x = cur ++ [x] := by unfold addW; rw [if_pos ⟨hwx, hin⟩]
                rw [hn] at hnx
                have HNX := Lib.hid hnx
                clear hnx stay hn hwx hin
                go_wp2_with (first
                  | (go_at_call 17; (with_reducible refine (has_any _ _ _ _ (ni cur) _ _ hrd ?_ h63').mono ?_); (· (simp [ni]; done)); rintro e w5 ⟨rfl, rfl⟩)
                  | (at_builtin; refine wpList_app rfl (.tmp 43) (.tmp 45) 23 rfl w.heap.size 3 1 8 int_app _ rfl (howni.alloc _) [.int .i64 (x : Int)] rfl rfl (fun h => by cases h) (cells_at rfl _ _) (one_cell _) h63 hbig hbs ?_; intro A4 c4 w4 hown4 hg4 hb4))
                go_round
                case rel =>
                  have hlx : (List.foldl (addW wo) hs (List.take (c + 1) ss)).length = cur.length + 1 := by rw [HNX.out]; simp
                  exact ⟨c + 1, A4, c4, by omega, by go_num, by rw [hlx], by rw [hlx, HNX.out, ni_append, iv_append]; exact hown4, (hbi.alloc hszi _).trans hb4⟩
                case measure => (simp [intOf]; omega)
          · have hc2' : c = sl := by omega
            subst hc2'
            rw [← HSS.out, List.take_length] at howni hge hcl hcic ⊢
            have HC2 := Lib.hid hcic
            clear hcic
            generalize List.foldl (addW wo) hs ss = cur at *
            show Code.wp _ _ _ _ _
            go_wp2
            go_round
            case rel => exact ⟨cur, k + 1, A3, c3, by omega, by go_num, rfl, howni, hbi, HC2.out, HST2.out⟩
            case measure => simp [intOf, lenOf]; omega
      · have hkn : k = hs.length := by omega
        subst hkn
        have hrd0 := own_rdI hown (by simp [ni])
        have HRC := Lib.hid (Rch.of HCI.out HCD.out)
        go_wp2
        go_ret
        exact ⟨hs, A2, c2, HRC.out, rfl, hrd0, hb⟩

end Go.Proofs.Ythmcigdoaededaa
