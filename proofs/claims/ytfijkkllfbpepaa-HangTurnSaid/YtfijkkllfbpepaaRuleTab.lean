/-
  rule.narrow, rule.Table (F1).
-/
import Derived.Test.YtfijkkllfbpepaaWayOrd
import Derived.Test.YtfijkkllfbpepaaWayParts
import Derived.Test.YtfijkkllfbpepaaRuleIs
import Derived.Test.YtfijkkllfbpepaaPureNarrow
namespace Go.Proofs.Ytfijkkllfbpepaa
open Go.RowKit
set_option linter.unusedSimpArgs false
set_option linter.unusedVariables false
set_option maxRecDepth 100000

/-- the edges of the first i of those in the order, and the first c of the next one -/
def NarD (nx : List (List Int)) (L : List Nat) (i c : Nat) (v t : Nat) : Prop := (∃ p, p < i ∧ L[p]? = some v ∧ t ∈ sc nx v) ∨ (L[i]? = some v ∧ t ∈ (sc nx v).take c)

theorem NarD.zero {nx : List (List Int)} {L : List Nat} {v t : Nat} (h : NarD nx L 0 0 v t) : False := by
  rcases h with ⟨p, hp, _⟩ | ⟨_, h⟩
  · omega
  · simp at h

theorem NarD.step {nx : List (List Int)} {L : List Nat} {i c x y v t : Nat} (hv : L[i]? = some x) (ht : (sc nx x)[c]? = some y) (h : NarD nx L i (c + 1) v t) : NarD nx L i c v t ∨ (v = x ∧ t = y) := by
  rcases h with h | ⟨h1, h2⟩
  · exact .inl (.inl h)
  · rw [hv] at h1
    injection h1 with h1
    subst h1
    rw [List.take_add_one, ht, Option.toList_some, List.mem_append, List.mem_singleton] at h2
    rcases h2 with h2 | h2
    · exact .inl (.inr ⟨hv, h2⟩)
    · exact .inr ⟨rfl, h2⟩

theorem NarD.done {nx : List (List Int)} {L : List Nat} {i c x v t : Nat} (hv : L[i]? = some x) (hc : (sc nx x).length ≤ c) (h : NarD nx L (i + 1) 0 v t) : NarD nx L i c v t := by
  rcases h with ⟨p, hp, h1, h2⟩ | ⟨_, h⟩
  · by_cases e : p = i
    · subst e
      rw [hv] at h1
      injection h1 with h1
      subst h1
      exact .inr ⟨hv, by rw [List.take_of_length_le hc]; exact h2⟩
    · exact .inl ⟨p, by omega, h1, h2⟩
  · simp at h

theorem NarD.full {nx : List (List Int)} {L : List Nat} {v t : Nat} (hv : v ∈ L) (ht : t ∈ sc nx v) : NarD nx L L.length 0 v t := by
  obtain ⟨p, hp, e⟩ := List.getElem_of_mem hv
  exact .inl ⟨p, hp, by rw [List.getElem?_eq_getElem hp, e], ht⟩

theorem u32_kept {a b t : Nat} (ha : a < 4294967296) (hb : b < 4294967296) (ht : t < 32) : bits .and .u32 ((b : Nat) : Int) (bits .or .u32 ((a : Nat) : Int) ((2 : Int) ^ t % 4294967296)) = ((b &&& (a ||| 2 ^ t) : Nat) : Int) := by
  have h2 : 2 ^ t < 2 ^ 32 := by have := pow_lt_32 ht; omega
  rw [pow_u32' ht, u32_or_nat _ _ ha (pow_lt_32 ht), u32_and_nat _ _ hb (Nat.or_lt_two_pow (n := 32) ha h2)]

theorem OwnU.set {w : World} {g : Nat} {t : TypeId} {ws : List Nat} (h : Own w g t (uv ws)) (i x : Nat) : Own (w.setCell ⟨g, i, none⟩ (.int .u32 ((x : Nat) : Int))) g t (uv (ws.set i x)) := by
  rw [← uv_set]; exact h.set i _

/-- what a call's own words add up to -/
def cellSum (w : World) (g : Nat) : Nat :=
  match w.heap[g]? with
  | some (.cells a _ _) => (a.toList.map fun v => match v with | .int _ x => x.toNat | _ => 0).sum
  | _ => 0

theorem cellSum_own {w : World} {g : Nat} {t : TypeId} {tb : List Nat} (h : Own w g t (uv tb)) : cellSum w g = tb.sum := by
  unfold Own at h
  unfold cellSum
  rw [h]
  simp only [uv, List.map_map]
  congr 1
  conv => rhs; rw [← List.map_id tb]
  exact List.map_congr_left fun x _ => by simp

set_option maxHeartbeats 4000000 in
theorem narrow_any (A AL : Option Addr) (len cap n cl g : Nat) (nx : List (List Int)) (L : List Nat) (tb : List Nat) (w : World) (hx : RdG w g A nx) (hL : RdI w g AL (ni L)) (hl : nx.length = len) (hn : L.length = n) (hc : ckWay nx = 0) (hr : ∀ x ∈ L, Rea nx (-1) 0 x) (hnm : n ≤ 8)
    (ht : NarI nx tb) (hown : Own w g 29 (uv tb)) :
    Calls Try.prog 24 #[.slice A len cap, .slice AL n cl, .slice (some ⟨g, 0, none⟩) len len] w fun e w' => ∃ (ch : Bool) (tb' : List Nat), e = .returned (.bool ch) ∧ Own w' g 29 (uv tb') ∧ Nar nx tb.sum tb' ch (NarD nx L n 0) ∧ Below g w w' := by
  obtain ⟨b1, b2, b3⟩ := ckWay_bd hc
  have HC := Lib.hid hc
  have HL := Lib.hid hl
  have HN := Lib.hid hn
  have HR := Lib.hid hr
  have HN0 := Lib.hid ((Nar.start ht).mono (E := NarD nx L 0 0) fun v t h => h.zero)
  obtain ⟨s0, hs0⟩ : ∃ s0, tb.sum = s0 := ⟨_, rfl⟩
  rw [hs0] at HN0 ⊢
  rw [hl] at b1 b2
  have hgw := hown.lt
  clear hl hn hr hc ht hs0 b3
  go_enter Try.func24, Try.ntmps24
  go_wp2
  go_loopw [7, 15] (fun s z wr => ∃ (i : Nat) (ch : Bool) (tk : List Nat), i ≤ n ∧ z = .int .i64 i ∧ s = .bool ch ∧ Nar nx s0 tk ch (NarD nx L i 0) ∧ Own wr g 29 (uv tk) ∧ Below g w wr) (fun _ z _ => n - (intOf z).toNat)
  case atStart => exact ⟨0, false, tb, Nat.zero_le _, rfl, rfl, HN0.out, hown, Below.refl _ _⟩
  case round =>
    obtain ⟨i, ch, tk, hi, rfl, rfl, hnar, hownk, hb⟩ := hrel
    by_cases hlt : i < n
    · obtain ⟨al, v', rfl, hbl, hd, hcl⟩ := (hL.below hb (Nat.le_refl _)).at_ (k := i) (by simp [ni]; rw [HN.out]; exact hlt)
      obtain ⟨v, hv⟩ : ∃ v, L[i]? = some v := ⟨_, List.getElem?_eq_getElem (by rw [HN.out]; exact hlt)⟩
      rw [ni_at hv] at hd
      injection hd with hd
      subst hd
      have hvr := HR.out v (List.mem_of_getElem? hv)
      have hvl : v < len := by rw [← HL.out]; exact hvr.lt HC.out (by rw [HL.out]; exact b1)
      obtain ⟨ad, row, Ar, cr, rfl, hbx, hdx, hcx0, hrow⟩ := hx.at_ (k := v) (by rw [HL.out]; exact hvl)
      have hrs := row_sc HC.out hdx
      subst hrs
      have HSL : (ni (sc nx v)).length = (sc nx v).length := by simp [ni]
      rw [HSL] at hcx0
      have hsl3 := sc_len HC.out v
      have HSC := Lib.hid (fun x (hx : x ∈ sc nx v) => sc_lt HC.out hx)
      obtain ⟨sl, hsl⟩ : ∃ sl, (sc nx v).length = sl := ⟨_, rfl⟩
      rw [hsl] at hcx0 hsl3
      have hcx := (hb.cell (p := ad.add v) hbx).trans hcx0
      have HSLE := Lib.hid hsl
      have HV := Lib.hid hv
      have HVR := Lib.hid hvr
      have HNAR := Lib.hid hnar
      obtain ⟨wi, rfl⟩ : ∃ wi : World, wi = wr := ⟨_, rfl⟩
      clear hv hvr hdx HSL hsl hnar hcx0
      go_wp2
      go_loopw [7, 24] (fun s z wr => ∃ (c : Nat) (ch2 : Bool) (tk2 : List Nat), c ≤ sl ∧ z = .int .i64 c ∧ s = .bool ch2 ∧ Nar nx s0 tk2 ch2 (NarD nx L i c) ∧ Own wr g 29 (uv tk2) ∧ Below g w wr) (fun _ z _ => sl - (intOf z).toNat)
      case atStart => exact ⟨0, ch, tk, Nat.zero_le _, rfl, rfl, HNAR.out, hownk, hb⟩
      case round =>
        obtain ⟨c, ch2, tk2, hc2, rfl, rfl, hnar2, hown2, hb2⟩ := hrel
        have HNAR2 := Lib.hid hnar2
        by_cases hct : c < sl
        · obtain ⟨t, htc⟩ : ∃ t, (sc nx v)[c]? = some t := ⟨_, List.getElem?_eq_getElem (by rw [HSLE.out]; exact hct)⟩
          have htm := List.mem_of_getElem? htc
          have htl := HSC.out t htm
          rw [HL.out] at htl
          obtain ⟨ar, t', rfl, hbr, hdt, hct2⟩ := (hrow.below hb2 (Nat.le_refl _)).at_ (k := c) (by simp [ni]; rw [HSLE.out]; exact hct)
          rw [ni_at htc] at hdt
          injection hdt with hdt
          subst hdt
          have hti := hnar2.inv.len
          rw [HL.out] at hti
          obtain ⟨a, hta⟩ : ∃ a, tk2[v]? = some a := ⟨_, List.getElem?_eq_getElem (by omega)⟩
          obtain ⟨b, htb⟩ : ∃ b, tk2[t]? = some b := ⟨_, List.getElem?_eq_getElem (by omega)⟩
          have ha := hnar2.inv.lt v a hta
          have hb' := hnar2.inv.lt t b htb
          have hca := hown2.cell (uv_at hta)
          have hcb := hown2.cell (uv_at htb)
          have hfb := hown2.frozen t
          have hgs := hown2.lt
          have ht32 : t < 32 := by omega
          have hand := u32_kept ha hb' ht32
          have hgo := Lib.hid (hnar2.go (E := NarD nx L i (c + 1)) HVR.out htm hta htb)
          have hstay := Lib.hid (fun e => (hnar2.stay hta htb e).mono (E := NarD nx L i (c + 1)) (fun x y h => h.step HV.out htc))
          have hsame := Lib.hid (set_same htb)
          obtain ⟨k, hk⟩ : ∃ k, b &&& (a ||| 2 ^ t) = k := ⟨_, rfl⟩
          rw [hk] at hand hgo hstay
          have hset := Lib.hid (OwnU.set hown2 t k)
          have HOWN := Lib.hid hown2
          clear htc htm hti hta htb hk hnar2 hown2
          cases ch2 with
          | true =>
            have HN2 := Lib.hid (hgo.out (.inl rfl))
            clear hgo hstay
            go_wp2
            go_region
            all_goals
              go_wp2
              go_round
              case rel => exact ⟨c + 1, true, tk2.set t k, by omega, by go_num, rfl, HN2.out, hset.out, (hb2.setCell (show g ≤ (⟨g, t, none⟩ : Addr).block from Nat.le_refl _) _).drew⟩
              case measure => (simp [intOf]; omega)
          | false =>
            by_cases hkb : k = b
            · have HN2 := Lib.hid (hstay.out hkb)
              have hne : (((k : Nat) : Int) != ((b : Nat) : Int)) = false := by simp [hkb]
              have HKB := Lib.hid hkb
              clear hgo hstay hkb
              go_wp2
              go_region
              all_goals
                go_wp2
                go_round
                case rel => exact ⟨c + 1, false, tk2.set t k, by omega, by go_num, rfl, by rw [HKB.out, hsame.out]; exact HN2.out, hset.out, (hb2.setCell (show g ≤ (⟨g, t, none⟩ : Addr).block from Nat.le_refl _) _).drew⟩
                case measure => (simp [intOf]; omega)
            · have HN2 := Lib.hid (hgo.out (.inr hkb))
              have hne : (((k : Nat) : Int) != ((b : Nat) : Int)) = true := by simp; omega
              clear hgo hstay hkb
              go_wp2
              go_region
              all_goals
                go_wp2
                go_round
                case rel => exact ⟨c + 1, true, tk2.set t k, by omega, by go_num, rfl, HN2.out, hset.out, (hb2.setCell (show g ≤ (⟨g, t, none⟩ : Addr).block from Nat.le_refl _) _).drew⟩
                case measure => (simp [intOf]; omega)
        · have hcl2 : (sc nx v).length ≤ c := by rw [HSLE.out]; omega
          have HN2 := Lib.hid (HNAR2.out.mono (E := NarD nx L (i + 1) 0) fun x y h => h.done HV.out hcl2)
          have hcs : c = sl := by omega
          clear hcl2 hnar2
          go_wp2
          go_round
          case rel => exact ⟨i + 1, ch2, tk2, by omega, by go_num, rfl, HN2.out, hown2, hb2⟩
          case measure => (simp [intOf]; omega)
    · have hil : i = n := by omega
      subst hil
      have HNAR := Lib.hid hnar
      clear hnar
      go_wp2
      go_ret
      exact ⟨ch, tk, rfl, hownk, HNAR.out, hb⟩

/-- all words of one value where S holds, else 0 -/
structure Fil (nx : List (List Int)) (tb : List Nat) (S : Nat → Prop) : Prop where
  len : tb.length = nx.length
  at_ : ∀ (i W : Nat), tb[i]? = some W → (S i ∧ W = 4294967295) ∨ (¬ S i ∧ W = 0)

theorem Fil.start (nx : List (List Int)) (n : Nat) (h : nx.length = n) : Fil nx (List.replicate n 0) (fun x => x ∈ ([] : List Nat)) := by
  refine ⟨by simp [h], fun i W hW => .inr ⟨by simp, ?_⟩⟩
  rw [List.getElem?_replicate] at hW
  split at hW
  · injection hW with hW; exact hW.symm
  · cases hW

theorem Fil.add {nx : List (List Int)} {tb : List Nat} {S S' : Nat → Prop} (h : Fil nx tb S) {x : Nat} (hs : ∀ y, S' y ↔ S y ∨ y = x) : Fil nx (tb.set x 4294967295) S' := by
  refine ⟨by rw [List.length_set]; exact h.len, fun i W hW => ?_⟩
  rw [List.getElem?_set] at hW
  split at hW
  · rename_i e
    subst e
    split at hW
    · injection hW with hW
      exact .inl ⟨(hs _).2 (.inr rfl), hW.symm⟩
    · cases hW
  · rename_i e
    rcases h.at_ i W hW with ⟨h1, h2⟩ | ⟨h1, h2⟩
    · exact .inl ⟨(hs _).2 (.inl h1), h2⟩
    · exact .inr ⟨fun h3 => ((hs _).1 h3).elim h1 (fun h4 => e h4.symm), h2⟩

theorem Fil.nar {nx : List (List Int)} {tb : List Nat} {S : Nat → Prop} (hc : ckWay nx = 0) (h : Fil nx tb S) (hs : ∀ y, S y ↔ Rea nx (-1) 0 y) : NarI nx (tb.set 0 1) := by
  have hb := ckWay_bd hc
  have hat : ∀ {i W : Nat}, (tb.set 0 1)[i]? = some W → (i = 0 ∧ W = 1) ∨ (i ≠ 0 ∧ tb[i]? = some W) := by
    intro i W hW
    rw [List.getElem?_set] at hW
    split at hW
    · rename_i e
      subst e
      split at hW
      · injection hW with hW; exact .inl ⟨rfl, hW.symm⟩
      · cases hW
    · rename_i e
      exact .inr ⟨fun e' => e e'.symm, hW⟩
  refine ⟨by rw [List.length_set]; exact h.len, fun i W hW => ?_, fun i W hW hn => ?_, ?_, fun i W hW j hj => ?_⟩
  · rcases hat hW with ⟨_, rfl⟩ | ⟨_, h2⟩
    · omega
    · rcases h.at_ i W h2 with ⟨_, h3⟩ | ⟨_, h3⟩ <;> omega
  · rcases hat hW with ⟨rfl, _⟩ | ⟨_, h2⟩
    · exact absurd (Rea.me nx 0) hn
    · rcases h.at_ i W h2 with ⟨h3, _⟩ | ⟨_, h3⟩
      · exact absurd ((hs i).1 h3) hn
      · exact h3
  · rw [List.getElem?_set, if_pos rfl, if_pos (by rw [h.len]; omega)]
  · rcases hat hW with ⟨rfl, rfl⟩ | ⟨_, h2⟩
    · rw [Dom.zero_iff.1 hj]; rfl
    · rcases h.at_ i W h2 with ⟨_, rfl⟩ | ⟨h3, _⟩
      · have := (hj.lt hc).1
        rw [show (4294967295 : Nat) = 2 ^ 32 - 1 from rfl, Nat.testBit_two_pow_sub_one]
        simp only [decide_eq_true_eq]
        omega
      · exact absurd ((hs i).2 hj.2.1) h3

theorem Tbl.of {nx : List (List Int)} {L : List Nat} (hc : ckWay nx = 0) (hL : ∀ y, y ∈ L ↔ Rea nx (-1) 0 y) {s0 : Nat} {tb : List Nat} (h : Nar nx s0 tb false (NarD nx L L.length 0)) : Tbl nx tb := by
  have hd : ∀ v t, Rea nx (-1) 0 v → t ∈ sc nx v → okE tb v t := fun v t hv ht => h.ok rfl v t (NarD.full ((hL v).2 hv) ht)
  exact ⟨h.inv.len, fun i W hW => h.inv.lt256 hc hd hW, fun i W hW j => h.inv.bits hc hd hW j⟩

set_option maxHeartbeats 4000000 in
theorem ruleTable_any (A : Option Addr) (len cap : Nat) (nx : List (List Int)) (w : World) (hx : RdG w w.heap.size A nx) (hl : nx.length = len) (hc : ckWay nx = 0) :
    Calls Try.prog 17 #[.slice A len cap] w fun e w' => ∃ ws A' c', Tbl nx ws ∧ e = .returned (.tuple #[.slice A' len c', .int .i64 0]) ∧ RdU w' w'.heap.size A' ws ∧ Below w.heap.size w w' := by
  obtain ⟨b1, b2, b3⟩ := ckWay_bd hc
  have HC := Lib.hid hc
  have HL := Lib.hid hl
  have HFM : Hid (∀ y, y ∈ (finL nx).reverse ↔ Rea nx (-1) 0 y) := Lib.hid fun y => by rw [List.mem_reverse, ← fiL_zero]; exact fi_mem hc (by omega)
  have HFN : Hid ((finL nx).reverse.length = (finL nx).length) := Lib.hid (by simp)
  have hfl := fin_len hc
  have HTB := Lib.hid (fun (s0 : Nat) (tb : List Nat) => Tbl.of (s0 := s0) (tb := tb) hc HFM.out)
  have HS0 := Lib.hid (Fil.start nx len hl)
  have HFN2 := Lib.hid (fun (tb : List Nat) (h : Fil nx tb (fun x => x ∈ (finL nx).reverse)) => h.nar hc HFM.out)
  rw [hl] at b1 b2 hfl
  have hmk := make_words (P := Try.prog) 23 29 Try.underlying23 (by kernel_rfl) len (by omega)
  clear hl hc b3
  go_enter Try.func17, Try.ntmps17
  go_wp2_with fail
  refine (wayOrder_any A len cap nx _ hx HL.out HC.out).mono ?_
  rintro e w1 ⟨A2, c2, rfl, hrd, hb1⟩
  have hx1 := (hx.below hb1 (Nat.le_refl _)).more hb1.size
  have hs1 := hb1.size
  generalize (finL nx).reverse = L at *
  obtain ⟨n, hn⟩ : ∃ n, (finL nx).length = n := ⟨_, rfl⟩
  rw [hn] at hfl HFN ⊢
  clear hn
  have HNL : Hid ((ni L).length = n) := Lib.hid (by simp [ni, HFN.out])
  go_wp2_with fail
  have hown1 := Own.new w1 29 (uv (List.replicate len 0))
  go_loopw [22] (fun z wr => ∃ (k : Nat) (tb : List Nat), k ≤ n ∧ z = .int .i64 k ∧ Fil nx tb (fun x => x ∈ L.take k) ∧ Own wr w1.heap.size 29 (uv tb) ∧ Below w1.heap.size w1 wr) (fun z _ => n - (intOf z).toNat)
  case atStart => exact ⟨0, _, Nat.zero_le _, rfl, HS0.out, hown1, by go_grown⟩
  case round =>
    obtain ⟨k, tb, hk, rfl, hfil, hown, hb⟩ := hrel
    have HFIL := Lib.hid hfil
    have hgl := hown.lt
    by_cases hlt : k < n
    · obtain ⟨al, v', rfl, hbl, hd, hcl⟩ := (hrd.below hb (Nat.le_refl _)).at_ (k := k) (by rw [HNL.out]; exact hlt)
      obtain ⟨v, hv⟩ : ∃ v, L[k]? = some v := ⟨_, List.getElem?_eq_getElem (by rw [HFN.out]; exact hlt)⟩
      rw [ni_at hv] at hd
      injection hd with hd
      subst hd
      have hvl : v < len := by rw [← HL.out]; exact ((HFM.out v).1 (List.mem_of_getElem? hv)).lt HC.out (by rw [HL.out]; exact b1)
      have HF2 := Lib.hid (hfil.add (x := v) (S' := fun x => x ∈ L.take (k + 1)) (fun y => by rw [List.take_add_one, hv, Option.toList_some, List.mem_append, List.mem_singleton]))
      have htl := hfil.len
      rw [HL.out] at htl
      obtain ⟨x0, hx0⟩ : ∃ x0, tb[v]? = some x0 := ⟨_, List.getElem?_eq_getElem (by omega)⟩
      have hcell := hown.cell (uv_at hx0)
      have hfr := hown.frozen v
      have HOW := Lib.hid (OwnU.set hown v 4294967295)
      clear hv hfil htl hown hx0
      go_wp2
      go_round
      case rel => exact ⟨k + 1, tb.set v 4294967295, by omega, by go_num, HF2.out, HOW.out, hb.setCell (show w1.heap.size ≤ (⟨w1.heap.size, v, none⟩ : Addr).block from Nat.le_refl _) _⟩
      case measure => (simp [intOf]; omega)
    · have hkn : n = k := by omega
      subst hkn
      have hLk : L.take n = L := by rw [← HFN.out, List.take_length]
      rw [hLk] at hfil
      have HNI := Lib.hid (HFN2.out tb hfil)
      have htl := hfil.len
      rw [HL.out] at htl
      obtain ⟨x0, hx0⟩ : ∃ x0, tb[0]? = some x0 := ⟨_, List.getElem?_eq_getElem (by omega)⟩
      have hcell := hown.cell (uv_at hx0)
      have hfr := hown.frozen 0
      have HOW := Lib.hid (OwnU.set hown 0 1)
      obtain ⟨wv, rfl⟩ : ∃ wv : World, wv = wr := ⟨_, rfl⟩
      have hbw : Below w.heap.size w wv := hb1.trans (hb.mono hs1)
      have HRB := Lib.hid (fun x (hx : x ∈ L) => (HFM.out x).1 hx)
      clear hfil htl hLk hown hx0
      go_wp2_with fail
      go_loopw [] (fun wr => ∃ (tb : List Nat), NarI nx tb ∧ Own wr w1.heap.size 29 (uv tb) ∧ Below w1.heap.size w1 wr) (fun wr => cellSum wr w1.heap.size)
      case atStart => exact ⟨_, HNI.out, HOW.out, hb.setCell (show w1.heap.size ≤ (⟨w1.heap.size, 0, none⟩ : Addr).block from Nat.le_refl _) _⟩
      case round =>
        obtain ⟨tb2, hnar, hown2, hb2⟩ := hrel
        have HSUM := Lib.hid (cellSum_own hown2)
        have HOWN2 := Lib.hid hown2
        go_wp2_with fail
        refine (narrow_any A A2 len cap n c2 w1.heap.size nx L tb2 _ (hx1.below hb2 (Nat.le_refl _)) (hrd.below hb2 (Nat.le_refl _)) HL.out HFN.out HC.out HRB.out (by omega) hnar hown2).mono ?_
        rintro e w3 ⟨ch, tb3, rfl, hown3, hnar3, hb3⟩
        have HN3 := Lib.hid hnar3
        have hb13 := hb2.trans hb3
        clear hnar hnar3 hown2
        cases ch with
        | true =>
          go_wp2
          go_round
          case rel => exact ⟨tb3, HN3.out.inv, hown3, hb13⟩
          case measure => rw [cellSum_own hown3, HSUM.out]; exact HN3.out.lt rfl
        | false =>
          have HT := Lib.hid (HTB.out _ _ (by rw [HFN.out]; exact HN3.out))
          have HRD := Lib.hid ((OwnU.rd hown3).more hown3.lt)
          clear hown3
          go_wp2
          go_ret2
          exact ⟨tb3, _, _, HT.out, rfl, HRD.out, hb1.trans (hb13.mono hs1)⟩

theorem ruleTable_bad (A : Option Addr) (len cap : Nat) (nx : List (List Int)) (w : World) (hx : RdG w w.heap.size A nx) (hl : nx.length = len) (hm : len ≤ maxLen) (hc : ckWay nx ≠ 0) :
    Calls Try.prog 17 #[.slice A len cap] w fun e w' => ∃ A' c', e = .returned (.tuple #[.slice A' 0 c', .int .i64 (ckWay nx)]) ∧ Below w.heap.size w w' := by
  have HC := Lib.hid hc
  have hne : (ckWay nx != 0) = true := by simp [hc]
  clear hc
  go_enter Try.func17, Try.ntmps17
  go_wp2_with fail
  refine (wayOrder_bad A len cap nx _ hx hl hm HC.out).mono ?_
  rintro e w1 ⟨A1, c1, rfl, hb1⟩
  go_wp2
  go_ret2
  exact ⟨none, 0, rfl, hb1⟩

end Go.Proofs.Ytfijkkllfbpepaa
