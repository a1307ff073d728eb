/-
  Several texts in one: RuleTab, RuleTree, RuleEdge, RuleMeet, Rule.
-/
import Derived.Test.YtgcjknibelfjbaaMWay
import Derived.Test.YtgcjknibelfjbaaRuleIs
import Derived.Test.YtgcjknibelfjbaaMPure

/-
  rule.narrow, rule.Table (F1).
-/

namespace Go.Proofs.Ytgcjknibelfjbaa
open Go.RowKit
set_option linter.unusedSimpArgs false
set_option linter.unusedVariables false
set_option maxRecDepth 100000

/-- the edges of the first i of those in the order, and the first c of the next one -/
def NarD (nx : List (List Int)) (L : List Nat) (i c : Nat) (v t : Nat) : Prop := (∃ p, p < i ∧ L[p]? = some v ∧ t ∈ sc nx v) ∨ (L[i]? = some v ∧ t ∈ (sc nx v).take c)

theorem NarD.zero {nx : List (List Int)} {L : List Nat} {v t : Nat} (h : NarD nx L 0 0 v t) : False := by
  rcases h with ⟨p, hp, _⟩ | ⟨_, h⟩
  · omega
  · simp at h

theorem NarD.step {nx : List (List Int)} {L : List Nat} {i c x y v t : Nat} (hv : L[i]? = some x) (ht : (sc nx x)[c]? = some y) (h : NarD nx L i (c + 1) v t) : NarD nx L i c v t ∨ (v = x ∧ t = y) := by
  rcases h with h | ⟨h1, h2⟩
  · exact .inl (.inl h)
  · rw [hv] at h1
    injection h1 with h1
    subst h1
    rw [List.take_add_one, ht, Option.toList_some, List.mem_append, List.mem_singleton] at h2
    rcases h2 with h2 | h2
    · exact .inl (.inr ⟨hv, h2⟩)
    · exact .inr ⟨rfl, h2⟩

theorem NarD.done {nx : List (List Int)} {L : List Nat} {i c x v t : Nat} (hv : L[i]? = some x) (hc : (sc nx x).length ≤ c) (h : NarD nx L (i + 1) 0 v t) : NarD nx L i c v t := by
  rcases h with ⟨p, hp, h1, h2⟩ | ⟨_, h⟩
  · by_cases e : p = i
    · subst e
      rw [hv] at h1
      injection h1 with h1
      subst h1
      exact .inr ⟨hv, by rw [List.take_of_length_le hc]; exact h2⟩
    · exact .inl ⟨p, by omega, h1, h2⟩
  · simp at h

theorem NarD.full {nx : List (List Int)} {L : List Nat} {v t : Nat} (hv : v ∈ L) (ht : t ∈ sc nx v) : NarD nx L L.length 0 v t := by
  obtain ⟨p, hp, e⟩ := List.getElem_of_mem hv
  exact .inl ⟨p, hp, by rw [List.getElem?_eq_getElem hp, e], ht⟩

theorem u32_kept {a b t : Nat} (ha : a < 4294967296) (hb : b < 4294967296) (ht : t < 32) : bits .and .u32 ((b : Nat) : Int) (bits .or .u32 ((a : Nat) : Int) ((2 : Int) ^ t % 4294967296)) = ((b &&& (a ||| 2 ^ t) : Nat) : Int) := by
  have h2 : 2 ^ t < 2 ^ 32 := by have := pow_lt_32 ht; omega
  rw [pow_u32' ht, u32_or_nat _ _ ha (pow_lt_32 ht), u32_and_nat _ _ hb (Nat.or_lt_two_pow (n := 32) ha h2)]

set_option maxHeartbeats 4000000 in
theorem narrow_any (A AL : Option Addr) (len cap n cl g : Nat) (nx : List (List Int)) (L : List Nat) (tb : List Nat) (w : World) (hx : RdG w g A nx) (hL : RdI w g AL (ni L)) (hl : nx.length = len) (hn : L.length = n) (hc : ckWay nx = 0) (hr : ∀ x ∈ L, Rea nx (-1) 0 x) (hnm : n ≤ 8)
    (ht : NarI nx tb) (hown : Own w g 107 (uv tb)) :
    Calls Try.prog 64 #[.slice A len cap, .slice AL n cl, .slice (some ⟨g, 0, none⟩) len len] w fun e w' => ∃ (ch : Bool) (tb' : List Nat), e = .returned (.bool ch) ∧ Own w' g 107 (uv tb') ∧ Nar nx tb.sum tb' ch (NarD nx L n 0) ∧ Below g w w' := by
  obtain ⟨b1, b2, b3⟩ := ckWay_bd hc
  have HC := Lib.hid hc
  have HL := Lib.hid hl
  have HN := Lib.hid hn
  have HR := Lib.hid hr
  have HN0 := Lib.hid ((Nar.start ht).mono (E := NarD nx L 0 0) fun v t h => h.zero)
  obtain ⟨s0, hs0⟩ : ∃ s0, tb.sum = s0 := ⟨_, rfl⟩
  rw [hs0] at HN0 ⊢
  rw [hl] at b1 b2
  have hgw := hown.lt
  clear hl hn hr hc ht hs0 b3
  go_enter Try.func64, Try.ntmps64
  go_wp2
  go_loopw [7, 15] (fun s z wr => ∃ (i : Nat) (ch : Bool) (tk : List Nat), i ≤ n ∧ z = .int .i64 i ∧ s = .bool ch ∧ Nar nx s0 tk ch (NarD nx L i 0) ∧ Own wr g 107 (uv tk) ∧ Below g w wr) (fun _ z _ => n - (intOf z).toNat)
  case atStart => exact ⟨0, false, tb, Nat.zero_le _, rfl, rfl, HN0.out, hown, Below.refl _ _⟩
  case round =>
    obtain ⟨i, ch, tk, hi, rfl, rfl, hnar, hownk, hb⟩ := hrel
    by_cases hlt : i < n
    · obtain ⟨al, v', rfl, hbl, hd, hcl⟩ := (hL.below hb (Nat.le_refl _)).at_ (k := i) (by simp [ni]; rw [HN.out]; exact hlt)
      obtain ⟨v, hv⟩ : ∃ v, L[i]? = some v := ⟨_, List.getElem?_eq_getElem (by rw [HN.out]; exact hlt)⟩
      rw [ni_at hv] at hd
      injection hd with hd
      subst hd
      have hvr := HR.out v (List.mem_of_getElem? hv)
      have hvl : v < len := by rw [← HL.out]; exact hvr.lt HC.out (by rw [HL.out]; exact b1)
      obtain ⟨ad, row, Ar, cr, rfl, hbx, hdx, hcx0, hrow⟩ := hx.at_ (k := v) (by rw [HL.out]; exact hvl)
      have hrs := row_sc HC.out hdx
      subst hrs
      have HSL : (ni (sc nx v)).length = (sc nx v).length := by simp [ni]
      rw [HSL] at hcx0
      have hsl3 := sc_len HC.out v
      have HSC := Lib.hid (fun x (hx : x ∈ sc nx v) => sc_lt HC.out hx)
      obtain ⟨sl, hsl⟩ : ∃ sl, (sc nx v).length = sl := ⟨_, rfl⟩
      rw [hsl] at hcx0 hsl3
      have hcx := (hb.cell (p := ad.add v) hbx).trans hcx0
      have HSLE := Lib.hid hsl
      have HV := Lib.hid hv
      have HVR := Lib.hid hvr
      have HNAR := Lib.hid hnar
      obtain ⟨wi, rfl⟩ : ∃ wi : World, wi = wr := ⟨_, rfl⟩
      clear hv hvr hdx HSL hsl hnar hcx0
      go_wp2
      go_loopw [7, 24] (fun s z wr => ∃ (c : Nat) (ch2 : Bool) (tk2 : List Nat), c ≤ sl ∧ z = .int .i64 c ∧ s = .bool ch2 ∧ Nar nx s0 tk2 ch2 (NarD nx L i c) ∧ Own wr g 107 (uv tk2) ∧ Below g w wr) (fun _ z _ => sl - (intOf z).toNat)
      case atStart => exact ⟨0, ch, tk, Nat.zero_le _, rfl, rfl, HNAR.out, hownk, hb⟩
      case round =>
        obtain ⟨c, ch2, tk2, hc2, rfl, rfl, hnar2, hown2, hb2⟩ := hrel
        have HNAR2 := Lib.hid hnar2
        by_cases hct : c < sl
        · obtain ⟨t, htc⟩ : ∃ t, (sc nx v)[c]? = some t := ⟨_, List.getElem?_eq_getElem (by rw [HSLE.out]; exact hct)⟩
          have htm := List.mem_of_getElem? htc
          have htl := HSC.out t htm
          rw [HL.out] at htl
          obtain ⟨ar, t', rfl, hbr, hdt, hct2⟩ := (hrow.below hb2 (Nat.le_refl _)).at_ (k := c) (by simp [ni]; rw [HSLE.out]; exact hct)
          rw [ni_at htc] at hdt
          injection hdt with hdt
          subst hdt
          have hti := hnar2.inv.len
          rw [HL.out] at hti
          obtain ⟨a, hta⟩ : ∃ a, tk2[v]? = some a := ⟨_, List.getElem?_eq_getElem (by omega)⟩
          obtain ⟨b, htb⟩ : ∃ b, tk2[t]? = some b := ⟨_, List.getElem?_eq_getElem (by omega)⟩
          have ha := hnar2.inv.lt v a hta
          have hb' := hnar2.inv.lt t b htb
          have hca := hown2.cell (uv_at hta)
          have hcb := hown2.cell (uv_at htb)
          have hfb := hown2.frozen t
          have hgs := hown2.lt
          have ht32 : t < 32 := by omega
          have hand := u32_kept ha hb' ht32
          have hgo := Lib.hid (hnar2.go (E := NarD nx L i (c + 1)) HVR.out htm hta htb)
          have hstay := Lib.hid (fun e => (hnar2.stay hta htb e).mono (E := NarD nx L i (c + 1)) (fun x y h => h.step HV.out htc))
          have hsame := Lib.hid (set_same htb)
          obtain ⟨k, hk⟩ : ∃ k, b &&& (a ||| 2 ^ t) = k := ⟨_, rfl⟩
          rw [hk] at hand hgo hstay
          have hset := Lib.hid (OwnU.set hown2 t k)
          have HOWN := Lib.hid hown2
          clear htc htm hti hta htb hk hnar2 hown2
          cases ch2 with
          | true =>
            have HN2 := Lib.hid (hgo.out (.inl rfl))
            clear hgo hstay
            go_wp2
            go_region
            all_goals
              go_wp2
              go_round
              case rel => exact ⟨c + 1, true, tk2.set t k, by omega, by go_num, rfl, HN2.out, hset.out, (hb2.setCell (show g ≤ (⟨g, t, none⟩ : Addr).block from Nat.le_refl _) _).drew⟩
              case measure => (simp [intOf]; omega)
          | false =>
            by_cases hkb : k = b
            · have HN2 := Lib.hid (hstay.out hkb)
              have hne : (((k : Nat) : Int) != ((b : Nat) : Int)) = false := by simp [hkb]
              have HKB := Lib.hid hkb
              clear hgo hstay hkb
              go_wp2
              go_region
              all_goals
                go_wp2
                go_round
                case rel => exact ⟨c + 1, false, tk2.set t k, by omega, by go_num, rfl, by rw [HKB.out, hsame.out]; exact HN2.out, hset.out, (hb2.setCell (show g ≤ (⟨g, t, none⟩ : Addr).block from Nat.le_refl _) _).drew⟩
                case measure => (simp [intOf]; omega)
            · have HN2 := Lib.hid (hgo.out (.inr hkb))
              have hne : (((k : Nat) : Int) != ((b : Nat) : Int)) = true := by simp; omega
              clear hgo hstay hkb
              go_wp2
              go_region
              all_goals
                go_wp2
                go_round
                case rel => exact ⟨c + 1, true, tk2.set t k, by omega, by go_num, rfl, HN2.out, hset.out, (hb2.setCell (show g ≤ (⟨g, t, none⟩ : Addr).block from Nat.le_refl _) _).drew⟩
                case measure => (simp [intOf]; omega)
        · have hcl2 : (sc nx v).length ≤ c := by rw [HSLE.out]; omega
          have HN2 := Lib.hid (HNAR2.out.mono (E := NarD nx L (i + 1) 0) fun x y h => h.done HV.out hcl2)
          have hcs : c = sl := by omega
          clear hcl2 hnar2
          go_wp2
          go_round
          case rel => exact ⟨i + 1, ch2, tk2, by omega, by go_num, rfl, HN2.out, hown2, hb2⟩
          case measure => (simp [intOf]; omega)
    · have hil : i = n := by omega
      subst hil
      have HNAR := Lib.hid hnar
      clear hnar
      go_wp2
      go_ret
      exact ⟨ch, tk, rfl, hownk, HNAR.out, hb⟩

/-- all words of one value where S holds, else 0 -/
structure Fil (nx : List (List Int)) (tb : List Nat) (S : Nat → Prop) : Prop where
  len : tb.length = nx.length
  at_ : ∀ (i W : Nat), tb[i]? = some W → (S i ∧ W = 4294967295) ∨ (¬ S i ∧ W = 0)

theorem Fil.start (nx : List (List Int)) (n : Nat) (h : nx.length = n) : Fil nx (List.replicate n 0) (fun x => x ∈ ([] : List Nat)) := by
  refine ⟨by simp [h], fun i W hW => .inr ⟨by simp, ?_⟩⟩
  rw [List.getElem?_replicate] at hW
  split at hW
  · injection hW with hW; exact hW.symm
  · cases hW

theorem Fil.add {nx : List (List Int)} {tb : List Nat} {S S' : Nat → Prop} (h : Fil nx tb S) {x : Nat} (hs : ∀ y, S' y ↔ S y ∨ y = x) : Fil nx (tb.set x 4294967295) S' := by
  refine ⟨by rw [List.length_set]; exact h.len, fun i W hW => ?_⟩
  rw [List.getElem?_set] at hW
  split at hW
  · rename_i e
    subst e
    split at hW
    · injection hW with hW
      exact .inl ⟨(hs _).2 (.inr rfl), hW.symm⟩
    · cases hW
  · rename_i e
    rcases h.at_ i W hW with ⟨h1, h2⟩ | ⟨h1, h2⟩
    · exact .inl ⟨(hs _).2 (.inl h1), h2⟩
    · exact .inr ⟨fun h3 => ((hs _).1 h3).elim h1 (fun h4 => e h4.symm), h2⟩

theorem Fil.nar {nx : List (List Int)} {tb : List Nat} {S : Nat → Prop} (hc : ckWay nx = 0) (h : Fil nx tb S) (hs : ∀ y, S y ↔ Rea nx (-1) 0 y) : NarI nx (tb.set 0 1) := by
  have hb := ckWay_bd hc
  have hat : ∀ {i W : Nat}, (tb.set 0 1)[i]? = some W → (i = 0 ∧ W = 1) ∨ (i ≠ 0 ∧ tb[i]? = some W) := by
    intro i W hW
    rw [List.getElem?_set] at hW
    split at hW
    · rename_i e
      subst e
      split at hW
      · injection hW with hW; exact .inl ⟨rfl, hW.symm⟩
      · cases hW
    · rename_i e
      exact .inr ⟨fun e' => e e'.symm, hW⟩
  refine ⟨by rw [List.length_set]; exact h.len, fun i W hW => ?_, fun i W hW hn => ?_, ?_, fun i W hW j hj => ?_⟩
  · rcases hat hW with ⟨_, rfl⟩ | ⟨_, h2⟩
    · omega
    · rcases h.at_ i W h2 with ⟨_, h3⟩ | ⟨_, h3⟩ <;> omega
  · rcases hat hW with ⟨rfl, _⟩ | ⟨_, h2⟩
    · exact absurd (Rea.me nx 0) hn
    · rcases h.at_ i W h2 with ⟨h3, _⟩ | ⟨_, h3⟩
      · exact absurd ((hs i).1 h3) hn
      · exact h3
  · rw [List.getElem?_set, if_pos rfl, if_pos (by rw [h.len]; omega)]
  · rcases hat hW with ⟨rfl, rfl⟩ | ⟨_, h2⟩
    · rw [Dom.zero_iff.1 hj]; rfl
    · rcases h.at_ i W h2 with ⟨_, rfl⟩ | ⟨h3, _⟩
      · have := (hj.lt hc).1
        rw [show (4294967295 : Nat) = 2 ^ 32 - 1 from rfl, Nat.testBit_two_pow_sub_one]
        simp only [decide_eq_true_eq]
        omega
      · exact absurd ((hs i).2 hj.2.1) h3

theorem Tbl.of {nx : List (List Int)} {L : List Nat} (hc : ckWay nx = 0) (hL : ∀ y, y ∈ L ↔ Rea nx (-1) 0 y) {s0 : Nat} {tb : List Nat} (h : Nar nx s0 tb false (NarD nx L L.length 0)) : Tbl nx tb := by
  have hd : ∀ v t, Rea nx (-1) 0 v → t ∈ sc nx v → okE tb v t := fun v t hv ht => h.ok rfl v t (NarD.full ((hL v).2 hv) ht)
  exact ⟨h.inv.len, fun i W hW => h.inv.lt256 hc hd hW, fun i W hW j => h.inv.bits hc hd hW j⟩

set_option maxHeartbeats 4000000 in
theorem ruleTable_any (A : Option Addr) (len cap : Nat) (nx : List (List Int)) (w : World) (hx : RdG w w.heap.size A nx) (hl : nx.length = len) (hc : ckWay nx = 0) :
    Calls Try.prog 34 #[.slice A len cap] w fun e w' => ∃ ws A' c', Tbl nx ws ∧ e = .returned (.tuple #[.slice A' len c', .int .i64 0]) ∧ RdU w' w'.heap.size A' ws ∧ Below w.heap.size w w' := by
  obtain ⟨b1, b2, b3⟩ := ckWay_bd hc
  have HC := Lib.hid hc
  have HL := Lib.hid hl
  have HFM : Hid (∀ y, y ∈ (finL nx).reverse ↔ Rea nx (-1) 0 y) := Lib.hid fun y => by rw [List.mem_reverse, ← fiL_zero]; exact fi_mem hc (by omega)
  have HFN : Hid ((finL nx).reverse.length = (finL nx).length) := Lib.hid (by simp)
  have hfl := fin_len hc
  have HTB := Lib.hid (fun (s0 : Nat) (tb : List Nat) => Tbl.of (s0 := s0) (tb := tb) hc HFM.out)
  have HS0 := Lib.hid (Fil.start nx len hl)
  have HFN2 := Lib.hid (fun (tb : List Nat) (h : Fil nx tb (fun x => x ∈ (finL nx).reverse)) => h.nar hc HFM.out)
  rw [hl] at b1 b2 hfl
  have hmk := make_words (P := Try.prog) 71 107 Try.underlying71 (by kernel_rfl) len (by omega)
  clear hl hc b3
  go_enter Try.func34, Try.ntmps34
  go_wp2_with fail
  refine (wayOrder_any A len cap nx _ hx HL.out HC.out).mono ?_
  rintro e w1 ⟨A2, c2, rfl, hrd, hb1⟩
  have hx1 := (hx.below hb1 (Nat.le_refl _)).more hb1.size
  have hs1 := hb1.size
  generalize (finL nx).reverse = L at *
  obtain ⟨n, hn⟩ : ∃ n, (finL nx).length = n := ⟨_, rfl⟩
  rw [hn] at hfl HFN ⊢
  clear hn
  have HNL : Hid ((ni L).length = n) := Lib.hid (by simp [ni, HFN.out])
  go_wp2_with fail
  have hown1 := Own.new w1 107 (uv (List.replicate len 0))
  go_loopw [22] (fun z wr => ∃ (k : Nat) (tb : List Nat), k ≤ n ∧ z = .int .i64 k ∧ Fil nx tb (fun x => x ∈ L.take k) ∧ Own wr w1.heap.size 107 (uv tb) ∧ Below w1.heap.size w1 wr) (fun z _ => n - (intOf z).toNat)
  case atStart => exact ⟨0, _, Nat.zero_le _, rfl, HS0.out, hown1, by go_grown⟩
  case round =>
    obtain ⟨k, tb, hk, rfl, hfil, hown, hb⟩ := hrel
    have HFIL := Lib.hid hfil
    have hgl := hown.lt
    by_cases hlt : k < n
    · obtain ⟨al, v', rfl, hbl, hd, hcl⟩ := (hrd.below hb (Nat.le_refl _)).at_ (k := k) (by rw [HNL.out]; exact hlt)
      obtain ⟨v, hv⟩ : ∃ v, L[k]? = some v := ⟨_, List.getElem?_eq_getElem (by rw [HFN.out]; exact hlt)⟩
      rw [ni_at hv] at hd
      injection hd with hd
      subst hd
      have hvl : v < len := by rw [← HL.out]; exact ((HFM.out v).1 (List.mem_of_getElem? hv)).lt HC.out (by rw [HL.out]; exact b1)
      have HF2 := Lib.hid (hfil.add (x := v) (S' := fun x => x ∈ L.take (k + 1)) (fun y => by rw [List.take_add_one, hv, Option.toList_some, List.mem_append, List.mem_singleton]))
      have htl := hfil.len
      rw [HL.out] at htl
      obtain ⟨x0, hx0⟩ : ∃ x0, tb[v]? = some x0 := ⟨_, List.getElem?_eq_getElem (by omega)⟩
      have hcell := hown.cell (uv_at hx0)
      have hfr := hown.frozen v
      have HOW := Lib.hid (OwnU.set hown v 4294967295)
      clear hv hfil htl hown hx0
      go_wp2
      go_round
      case rel => exact ⟨k + 1, tb.set v 4294967295, by omega, by go_num, HF2.out, HOW.out, hb.setCell (show w1.heap.size ≤ (⟨w1.heap.size, v, none⟩ : Addr).block from Nat.le_refl _) _⟩
      case measure => (simp [intOf]; omega)
    · have hkn : n = k := by omega
      subst hkn
      have hLk : L.take n = L := by rw [← HFN.out, List.take_length]
      rw [hLk] at hfil
      have HNI := Lib.hid (HFN2.out tb hfil)
      have htl := hfil.len
      rw [HL.out] at htl
      obtain ⟨x0, hx0⟩ : ∃ x0, tb[0]? = some x0 := ⟨_, List.getElem?_eq_getElem (by omega)⟩
      have hcell := hown.cell (uv_at hx0)
      have hfr := hown.frozen 0
      have HOW := Lib.hid (OwnU.set hown 0 1)
      obtain ⟨wv, rfl⟩ : ∃ wv : World, wv = wr := ⟨_, rfl⟩
      have hbw : Below w.heap.size w wv := hb1.trans (hb.mono hs1)
      have HRB := Lib.hid (fun x (hx : x ∈ L) => (HFM.out x).1 hx)
      clear hfil htl hLk hown hx0
      go_wp2_with fail
      go_loopw [] (fun wr => ∃ (tb : List Nat), NarI nx tb ∧ Own wr w1.heap.size 107 (uv tb) ∧ Below w1.heap.size w1 wr) (fun wr => cellSum wr w1.heap.size)
      case atStart => exact ⟨_, HNI.out, HOW.out, hb.setCell (show w1.heap.size ≤ (⟨w1.heap.size, 0, none⟩ : Addr).block from Nat.le_refl _) _⟩
      case round =>
        obtain ⟨tb2, hnar, hown2, hb2⟩ := hrel
        have HSUM := Lib.hid (cellSum_own hown2)
        have HOWN2 := Lib.hid hown2
        go_wp2_with fail
        refine (narrow_any A A2 len cap n c2 w1.heap.size nx L tb2 _ (hx1.below hb2 (Nat.le_refl _)) (hrd.below hb2 (Nat.le_refl _)) HL.out HFN.out HC.out HRB.out (by omega) hnar hown2).mono ?_
        rintro e w3 ⟨ch, tb3, rfl, hown3, hnar3, hb3⟩
        have HN3 := Lib.hid hnar3
        have hb13 := hb2.trans hb3
        clear hnar hnar3 hown2
        cases ch with
        | true =>
          go_wp2
          go_round
          case rel => exact ⟨tb3, HN3.out.inv, hown3, hb13⟩
          case measure => rw [cellSum_own hown3, HSUM.out]; exact HN3.out.lt rfl
        | false =>
          have HT := Lib.hid (HTB.out _ _ (by rw [HFN.out]; exact HN3.out))
          have HRD := Lib.hid ((OwnU.rd hown3).more hown3.lt)
          clear hown3
          go_wp2
          go_ret2
          exact ⟨tb3, _, _, HT.out, rfl, HRD.out, hb1.trans (hb13.mono hs1)⟩

theorem ruleTable_bad (A : Option Addr) (len cap : Nat) (nx : List (List Int)) (w : World) (hx : RdG w w.heap.size A nx) (hl : nx.length = len) (hm : len ≤ maxLen) (hc : ckWay nx ≠ 0) :
    Calls Try.prog 34 #[.slice A len cap] w fun e w' => ∃ A' c', e = .returned (.tuple #[.slice A' 0 c', .int .i64 (ckWay nx)]) ∧ Below w.heap.size w w' := by
  have HC := Lib.hid hc
  have hne : (ckWay nx != 0) = true := by simp [hc]
  clear hc
  go_enter Try.func34, Try.ntmps34
  go_wp2_with fail
  refine (wayOrder_bad A len cap nx _ hx hl hm HC.out).mono ?_
  rintro e w1 ⟨A1, c1, rfl, hb1⟩
  go_wp2
  go_ret2
  exact ⟨none, 0, rfl, hb1⟩

end Go.Proofs.Ytgcjknibelfjbaa

/-
  slices.Index at words, rule.Tree (F1).
-/

namespace Go.Proofs.Ytgcjknibelfjbaa
open Go.RowKit
set_option linter.unusedSimpArgs false
set_option linter.unusedVariables false
set_option maxRecDepth 100000

set_option maxHeartbeats 1000000 in
theorem indexU_any (A : Option Addr) (n c : Nat) (L : List Nat) (x B : Nat) (w : World) (hx : RdU w B A L) (hl : L.length = n) (hm : n ≤ 65536) :
    Calls Try.prog 67 #[.slice A n c, .int .u32 (x : Nat)] w fun e w' => e = .returned (.int .i64 (idxL L x)) ∧ w = w' := by
  have HL := Lib.hid hl
  clear hl
  go_enter Try.func67, Try.ntmps67
  go_wp2
  go_loop [8] (fun i => ∃ k : Nat, k ≤ n ∧ i = .int .i64 k ∧ x ∉ L.take k) (fun i => n - (intOf i).toNat)
  case atStart => exact ⟨0, Nat.zero_le _, rfl, by simp⟩
  case round =>
    obtain ⟨k, hk, rfl, hno⟩ := hrel
    have HNO := Lib.hid hno
    clear hno
    by_cases hlt : k < n
    · obtain ⟨ad, y, rfl, hbl, hy, hcell⟩ := hx.at_ (k := k) (by rw [HL.out]; exact hlt)
      have HY := Lib.hid hy
      clear hy
      by_cases hxy : x = y
      · subst hxy
        go_wp2
        go_ret
        refine ⟨ret_int ?_, rfl⟩
        unfold idxL
        rw [if_pos (List.mem_of_getElem? HY.out), posL_first HNO.out HY.out]
      · have hb : ((x : Int) == (y : Int)) = false := by simp; omega
        have HXY := Lib.hid hxy
        clear hxy
        go_wp2
        go_round
        case rel =>
          refine ⟨k + 1, by omega, by go_num, fun h => ?_⟩
          rw [List.take_add_one, HY.out, Option.toList_some, List.mem_append] at h
          rcases h with h | h
          · exact HNO.out h
          · exact HXY.out (by simpa using h)
        case measure => (simp [intOf]; omega)
    · go_wp2
      go_ret
      refine ⟨ret_int ?_, rfl⟩
      unfold idxL
      have := HNO.out
      rw [List.take_of_length_le (by rw [HL.out]; omega)] at this
      rw [if_neg this]

theorem without_bit {W i : Nat} (hW : W < 256) (hi : i < 32) (k : Nat) : (W &&& (4294967295 - 2 ^ i)).testBit k = true ↔ W.testBit k = true ∧ k ≠ i := by
  have hp := pow_lt_32 hi
  rw [Nat.testBit_and, Bool.and_eq_true, show 4294967295 - 2 ^ i = 2 ^ 32 - (2 ^ i + 1) by omega, Nat.testBit_two_pow_sub_succ (by omega), Bool.and_eq_true, decide_eq_true_eq, Bool.not_eq_true', Nat.testBit_two_pow]
  constructor
  · rintro ⟨h1, _, h2⟩
    exact ⟨h1, fun e => by simp [e] at h2⟩
  · rintro ⟨h1, h2⟩
    refine ⟨h1, ?_, by simp; omega⟩
    refine Classical.byContradiction fun hn => ?_
    rw [Nat.testBit_lt_two_pow (Nat.lt_of_lt_of_le hW (show 2 ^ 8 ≤ 2 ^ k from Nat.pow_le_pow_right (by omega) (by omega)))] at h1
    cases h1

section
variable {nx : List (List Int)} {ws : List Nat}

theorem Tbl.zero_iff (h : Tbl nx ws) {i W : Nat} (hW : ws[i]? = some W) : W = 0 ↔ ¬ Rea nx (-1) 0 i := by
  constructor
  · rintro rfl hr
    have := (h.mem i 0 hW i).2 (Dom.me hr)
    simp at this
  · intro hn
    apply Nat.eq_of_testBit_eq
    intro j
    cases hb : W.testBit j with
    | false => simp
    | true => exact absurd ((h.mem i W hW j).1 hb).2.1 hn

theorem Tbl.tree (hc : ckWay nx = 0) (h : Tbl nx ws) {i W : Nat} (hW : ws[i]? = some W) (h0 : W ≠ 0) (hi : 0 < i) : ∃ j : Nat, TreeAt nx i (j : Int) ∧ idxL ws (W &&& (4294967295 - 2 ^ i)) = (j : Int) := by
  have hb := ckWay_bd hc
  have hr : Rea nx (-1) 0 i := Classical.byContradiction fun hn => h0 ((h.zero_iff hW).2 hn)
  obtain ⟨j, hj⟩ := idom_is hc hr (by omega)
  have hil := hr.lt hc (by omega)
  have hjl := (hj.2.1.lt hc).1
  have hV : ws[j]? = some (ws[j]'(by rw [h.len]; exact hjl)) := List.getElem?_eq_getElem _
  generalize ws[j]'(by rw [h.len]; exact hjl) = V at hV
  have hX := idom_set h.mem hj hW hV (W &&& (4294967295 - 2 ^ i)) (without_bit (h.lt i W hW) (by omega))
  refine ⟨j, .inl ⟨j, rfl, hj⟩, ?_⟩
  rw [hX]
  unfold idxL
  rw [if_pos (List.mem_of_getElem? hV), posL_first (k := j) (fun hm => ?_) hV]
  obtain ⟨p, hp, e⟩ := List.getElem_of_mem hm
  have hpl : p < j := by rw [List.length_take] at hp; omega
  have hpe : ws[p]? = some V := by
    rw [List.getElem_take] at e
    rw [List.getElem?_eq_getElem (by rw [List.length_take] at hp; omega), e]
  have := set_one h.mem hj.2.1.1 hpe hV
  omega

theorem Tbl.none (h : Tbl nx ws) {i W : Nat} (hW : ws[i]? = some W) (hn : i = 0 ∨ W = 0) : TreeAt nx i (-1) := by
  refine .inr ⟨rfl, fun j hj => ?_⟩
  rcases hn with rfl | rfl
  · exact no_idom_zero j hj
  · exact (h.zero_iff hW).1 rfl hj.2.1.2.1

end

set_option maxHeartbeats 4000000 in
theorem ruleTree_any (A : Option Addr) (len cap : Nat) (nx : List (List Int)) (w : World) (hx : RdG w w.heap.size A nx) (hl : nx.length = len) (hc : ckWay nx = 0) :
    Calls Try.prog 43 #[.slice A len cap] w fun e w' => ∃ ts A' c', Tre nx ts ∧ e = .returned (.tuple #[.slice A' len c', .int .i64 0]) ∧ RdI w' w'.heap.size A' ts ∧ Below w.heap.size w w' := by
  obtain ⟨b1, b2, b3⟩ := ckWay_bd hc
  have HC := Lib.hid hc
  have HL := Lib.hid hl
  rw [hl] at b1 b2
  have hmk := make_ints (P := Try.prog) 26 3 Try.underlying26 (by kernel_rfl) len (by omega)
  clear hl hc b3
  go_enter Try.func43, Try.ntmps43
  go_wp2_with fail
  refine (ruleTable_any A len cap nx _ hx HL.out HC.out).mono ?_
  rintro e wo ⟨ws, A2, c2, htb, rfl, hrd, hb1⟩
  have hwl := htb.len
  rw [HL.out] at hwl
  have HWL := Lib.hid hwl
  have HTB := Lib.hid htb
  have hs1 := hb1.size
  clear htb hwl
  go_wp2_with fail
  have hown1 := Own.new wo 3 (iv (List.replicate len 0))
  go_loopw [22] (fun z wr => ∃ (k : Nat) (ts : List Int), k ≤ len ∧ z = .int .i64 k ∧ ts.length = len ∧ (∀ i, i < k → ∃ t, ts[i]? = some t ∧ TreeAt nx i t) ∧ Own wr wo.heap.size 3 (iv ts) ∧ Below wo.heap.size wo wr) (fun z _ => len - (intOf z).toNat)
  case atStart => exact ⟨0, _, Nat.zero_le _, rfl, by simp, fun i hi => by omega, hown1, by go_grown⟩
  case round =>
    obtain ⟨k, ts, hk, rfl, htl, hts, hown, hb⟩ := hrel
    have HTL := Lib.hid htl
    have HTS := Lib.hid hts
    have hgl := hown.lt
    clear htl hts
    by_cases hlt : k < len
    · have hrd2 := hrd.below hb (Nat.le_refl _)
      obtain ⟨ad, W, rfl, hbl, hd, hcell⟩ := hrd2.at_ (k := k) (by rw [HWL.out]; exact hlt)
      have hW := HTB.out.lt k W hd
      have HD := Lib.hid hd
      obtain ⟨x0, hx0⟩ : ∃ x0, ts[k]? = some x0 := ⟨_, List.getElem?_eq_getElem (by rw [HTL.out]; exact hlt)⟩
      have hcl := hown.cell (iv_at hx0)
      have hfr := hown.frozen k
      have hown2 := OwnI.set hown k (-1)
      have hb2 := hb.setCell (show wo.heap.size ≤ (⟨wo.heap.size, k, none⟩ : Addr).block from Nat.le_refl _) (.int .i64 (-1))
      have HOW := Lib.hid hown2
      have HSET : Hid (∀ t : Int, TreeAt nx k t → ∀ i, i < k + 1 → ∃ u, (ts.set k t)[i]? = some u ∧ TreeAt nx i u) := Lib.hid fun t ht i hi => by
        by_cases e : i = k
        · subst e
          exact ⟨t, List.getElem?_set_self (by rw [HTL.out]; exact hlt), ht⟩
        · rw [List.getElem?_set_ne (fun h => e h.symm)]
          exact HTS.out i (by omega)
      clear hd hx0 hown
      by_cases h0 : k = 0
      · have HT := Lib.hid (HTB.out.none HD.out (.inl h0))
        have hn0 : ¬ (0 : Int) < (k : Int) := by omega
        clear h0
        go_wp2_with fail
        go_round
        case rel => exact ⟨k + 1, ts.set k (-1), by omega, by go_num, by rw [List.length_set]; exact HTL.out, HSET.out _ HT.out, HOW.out, hb2⟩
        case measure => (simp [intOf]; omega)
      · have hk0 : 0 < k := by omega
        by_cases hW0 : W = 0
        · subst hW0
          have HT := Lib.hid (HTB.out.none HD.out (.inr rfl))
          go_wp2_with fail
          go_round
          case rel => exact ⟨k + 1, ts.set k (-1), by omega, by go_num, by rw [List.length_set]; exact HTL.out, HSET.out _ HT.out, HOW.out, hb2⟩
          case measure => (simp [intOf]; omega)
        · obtain ⟨j, hj1, hj2⟩ := HTB.out.tree HC.out HD.out hW0 hk0
          have hWn : (((W : Nat) : Int) != 0) = true := by simp; omega
          have HJ1 := Lib.hid hj1
          have HJ2 := Lib.hid hj2
          have hk32 : k < 32 := by omega
          have hcl2 := hown2.cell (j := k) (iv_at (List.getElem?_set_self (by rw [HTL.out]; exact hlt)))
          have hfr2 := hown2.frozen k
          have hand : bits .andNot .u32 ((W : Nat) : Int) ((2 : Int) ^ k % 4294967296) = ((W &&& (4294967295 - 2 ^ k) : Nat) : Int) := by
            rw [pow_u32' hk32]
            exact u32_andNot_nat _ _ (by omega) (pow_lt_32 hk32)
          have hrd3 := hrd.below hb2 (Nat.le_refl _)
          have HOW3 := Lib.hid (OwnI.set hown2 k (j : Int))
          generalize W &&& (4294967295 - 2 ^ k) = X at *
          clear hj1 hj2 hW0 h0
          go_wp2_with (go_at_call 67; (with_reducible refine (indexU_any _ len c2 ws X _ _ hrd3 HWL.out (by omega)).mono ?_); rw [HJ2.out]; rintro e w5 ⟨rfl, rfl⟩)
          go_round
          case rel =>
            refine ⟨k + 1, ts.set k (j : Int), by omega, by go_num, by rw [List.length_set]; exact HTL.out, HSET.out _ HJ1.out, ?_, ?_⟩
            · have := HOW3.out
              rw [List.set_set] at this
              exact this
            · exact hb2.setCell (show wo.heap.size ≤ (⟨wo.heap.size, k, none⟩ : Addr).block from Nat.le_refl _) _
          case measure => (simp [intOf]; omega)
    · have hkl : len = k := by omega
      subst hkl
      have HT : Hid (Tre nx ts) := Lib.hid ⟨by rw [HTL.out, HL.out], fun i t ht => by
        obtain ⟨u, hu, h2⟩ := HTS.out i (by rw [← HTL.out]; exact (List.getElem?_eq_some_iff.1 ht).1)
        rw [ht] at hu
        injection hu with hu
        subst hu
        exact h2⟩
      have HRD := Lib.hid ((OwnI.rd hown).more hown.lt)
      clear hown
      go_wp2
      go_ret2
      exact ⟨ts, _, _, HT.out, rfl, HRD.out, hb1.trans (hb.mono hs1)⟩

theorem ruleTree_bad (A : Option Addr) (len cap : Nat) (nx : List (List Int)) (w : World) (hx : RdG w w.heap.size A nx) (hl : nx.length = len) (hm : len ≤ maxLen) (hc : ckWay nx ≠ 0) :
    Calls Try.prog 43 #[.slice A len cap] w fun e w' => ∃ A' c', e = .returned (.tuple #[.slice A' 0 c', .int .i64 (ckWay nx)]) ∧ Below w.heap.size w w' := by
  have HC := Lib.hid hc
  have hne : (ckWay nx != 0) = true := by simp [hc]
  clear hc
  go_enter Try.func43, Try.ntmps43
  go_wp2_with fail
  refine (ruleTable_bad A len cap nx _ hx hl hm HC.out).mono ?_
  rintro e w1 ⟨A1, c1, rfl, hb1⟩
  go_wp2
  go_ret2
  exact ⟨none, 0, rfl, hb1⟩

end Go.Proofs.Ytgcjknibelfjbaa

/-
  rule.Edge, rule.frontier, rule.Meet (F2).
-/

namespace Go.Proofs.Ytgcjknibelfjbaa
open Go.RowKit
set_option linter.unusedSimpArgs false
set_option linter.unusedVariables false
set_option maxRecDepth 100000

theorem Tbl.exit {nx : List (List Int)} {ws : List Nat} (h : Tbl nx ws) {v t a V T : Nat} (hV : ws[v]? = some V) (hT : ws[t]? = some T) : ExitP nx a v t ↔ (V.testBit a = true ∧ (a = t ∨ T.testBit a = false)) := by
  unfold ExitP
  rw [h.mem v V hV]
  constructor
  · rintro ⟨h1, h2 | h2⟩
    · exact ⟨h1, .inl h2.symm⟩
    · refine ⟨h1, .inr ?_⟩
      cases hb : T.testBit a with
      | false => rfl
      | true => exact absurd ((h.mem t T hT a).1 hb) h2
  · rintro ⟨h1, h2 | h2⟩
    · exact ⟨h1, .inl h2.symm⟩
    · refine ⟨h1, .inr fun hd => ?_⟩
      rw [(h.mem t T hT a).2 hd] at h2
      cases h2

set_option maxHeartbeats 8000000 in
theorem ruleEdge_any (A : Option Addr) (len cap : Nat) (nx : List (List Int)) (w : World) (hx : RdG w w.heap.size A nx) (hl : nx.length = len) (hc : ckWay nx = 0) :
    Calls Try.prog 86 #[.slice A len cap] w fun e w' => ∃ ws A' c', Edg nx ws ∧ e = .returned (.tuple #[.slice A' len c', .int .i64 0]) ∧ RdU w' w'.heap.size A' ws ∧ Below w.heap.size w w' := by
  obtain ⟨b1, b2, b3⟩ := ckWay_bd hc
  have HC := Lib.hid hc
  have HL := Lib.hid hl
  have HST := Lib.hid ((EgI.start nx).congr (Q' := EdQ nx 0) fun i j _ => EdQ.zero.symm)
  have HEND := Lib.hid (fun (eg : List Nat) (h : EgI nx eg (EdQ nx nx.length)) => h.congr (Q' := EdgeP nx) fun i j _ => EdQ.all hc)
  rw [hl] at b1 b2 HST HEND
  have hmk := make_words (P := Try.prog) 71 107 Try.underlying71 (by kernel_rfl) len (by omega)
  clear hl hc b3
  go_enter Try.func86, Try.ntmps86
  go_wp2_with fail
  refine (ruleTable_any A len cap nx _ hx HL.out HC.out).mono ?_
  rintro e wo ⟨ws, A2, c2, htb, rfl, hrd, hb1⟩
  have hwl := htb.len
  rw [HL.out] at hwl
  have HWL := Lib.hid hwl
  have HTB := Lib.hid htb
  have hs1 := hb1.size
  have hxo := (hx.below hb1 (Nat.le_refl _)).more hs1
  clear htb hwl
  go_wp2_with fail
  have hown1 := Own.new wo 107 (uv (List.replicate len 0))
  go_loopw [25] (fun z wr => ∃ (i : Nat) (eg : List Nat), i ≤ len ∧ z = .int .i64 i ∧ EgI nx eg (EdQ nx i) ∧ Own wr wo.heap.size 107 (uv eg) ∧ Below wo.heap.size wo wr) (fun z _ => len - (intOf z).toNat)
  case atStart => exact ⟨0, _, Nat.zero_le _, rfl, HST.out, hown1, by go_grown⟩
  case round =>
    obtain ⟨i, eg, hi, rfl, heg, hown, hb⟩ := hrel
    have HEG := Lib.hid heg
    clear heg
    by_cases hlt : i < len
    · obtain ⟨ad, row, Ar, cr, rfl, hbx, hdx, hcx0, hrow⟩ := hxo.at_ (k := i) (by rw [HL.out]; exact hlt)
      have hrs := row_sc HC.out hdx
      subst hrs
      have HSL : (ni (sc nx i)).length = (sc nx i).length := by simp [ni]
      rw [HSL] at hcx0
      have hsl3 := sc_len HC.out i
      have HSC := Lib.hid (fun x (hx : x ∈ sc nx i) => sc_lt HC.out hx)
      obtain ⟨sl, hsl⟩ : ∃ sl, (sc nx i).length = sl := ⟨_, rfl⟩
      rw [hsl] at hcx0 hsl3
      have hcx := (hb.cell (p := ad.add i) hbx).trans hcx0
      have HSLE := Lib.hid hsl
      obtain ⟨V, hV⟩ : ∃ V, ws[i]? = some V := ⟨_, List.getElem?_eq_getElem (by rw [HWL.out]; exact hlt)⟩
      have HV := Lib.hid hV
      have hVl := HTB.out.lt i V hV
      have HEG0 := Lib.hid (HEG.out.congr (Q' := EdR nx i 0) fun a f _ => EdR.zero)
      obtain ⟨wi, rfl⟩ : ∃ wi : World, wi = wr := ⟨_, rfl⟩
      clear hV hdx HSL hsl hcx0
      go_wp2
      go_loopw [32] (fun z wr => ∃ (c : Nat) (eg2 : List Nat), c ≤ sl ∧ z = .int .i64 c ∧ EgI nx eg2 (EdR nx i c) ∧ Own wr wo.heap.size 107 (uv eg2) ∧ Below wo.heap.size wo wr) (fun z _ => sl - (intOf z).toNat)
      case atStart => exact ⟨0, eg, Nat.zero_le _, rfl, HEG0.out, hown, hb⟩
      case round =>
        obtain ⟨c, eg2, hc2, rfl, heg2, hown2, hb2⟩ := hrel
        have HEG2 := Lib.hid heg2
        clear heg2
        by_cases hct : c < sl
        · obtain ⟨t, htc⟩ : ∃ t, (sc nx i)[c]? = some t := ⟨_, List.getElem?_eq_getElem (by rw [HSLE.out]; exact hct)⟩
          have htl := HSC.out t (List.mem_of_getElem? htc)
          rw [HL.out] at htl
          obtain ⟨ar, t', rfl, hbr, hdt, hct2⟩ := (hrow.below hb2 (Nat.le_refl _)).at_ (k := c) (by simp [ni]; rw [HSLE.out]; exact hct)
          rw [ni_at htc] at hdt
          injection hdt with hdt
          subst hdt
          obtain ⟨T, hT⟩ : ∃ T, ws[t]? = some T := ⟨_, List.getElem?_eq_getElem (by rw [HWL.out]; exact htl)⟩
          have hTl := HTB.out.lt t T hT
          have HT := Lib.hid hT
          have HTC := Lib.hid htc
          have HEGA := Lib.hid (HEG2.out.congr (Q' := EdS nx i c t 0) fun a f _ => EdS.zero)
          have HEX := Lib.hid (fun a => HTB.out.exit (a := a) HV.out HT.out)
          obtain ⟨wj, rfl⟩ : ∃ wj : World, wj = wr := ⟨_, rfl⟩
          clear hT htc
          go_wp2
          go_loopw [38] (fun z wr => ∃ (a : Nat) (eg3 : List Nat), a ≤ len ∧ z = .int .i64 a ∧ EgI nx eg3 (EdS nx i c t a) ∧ Own wr wo.heap.size 107 (uv eg3) ∧ Below wo.heap.size wo wr) (fun z _ => len - (intOf z).toNat)
          case atStart => exact ⟨0, eg2, Nat.zero_le _, rfl, HEGA.out, hown2, hb2⟩
          case round =>
            obtain ⟨a, eg3, ha, rfl, heg3, hown3, hb3⟩ := hrel
            have HEG3 := Lib.hid heg3
            clear heg3
            by_cases hat : a < len
            · have hrd3 := hrd.below hb3 (Nat.le_refl _)
              obtain ⟨aw, V', rfl, hbw, hdV, hcV⟩ := hrd3.at_ (k := i) (by rw [HWL.out]; exact hlt)
              rw [HV.out] at hdV
              injection hdV with hdV
              subst hdV
              obtain ⟨aw', T', haw, hbw', hdT, hcT⟩ := hrd3.at_ (k := t) (by rw [HWL.out]; exact htl)
              injection haw with haw
              subst haw
              rw [HT.out] at hdT
              injection hdT with hdT
              subst hdT
              have ha32 : a < 32 := by omega
              have ht32 : t < 32 := by omega
              have ht8 : t < 8 := by omega
              have hV32 : V < 4294967296 := by omega
              have hT32 : T < 4294967296 := by omega
              have hex := HEX.out a
              obtain ⟨ba, hba⟩ : ∃ b, V.testBit a = b := ⟨_, rfl⟩
              obtain ⟨bt, hbt⟩ : ∃ b, T.testBit a = b := ⟨_, rfl⟩
              rw [hba, hbt] at hex
              have HBA := Lib.hid hba
              have HBT := Lib.hid hbt
              obtain ⟨x0, hx0⟩ : ∃ x0, eg3[a]? = some x0 := ⟨_, List.getElem?_eq_getElem (by rw [HEG3.out.len, HL.out]; exact hat)⟩
              have hx0l := HEG3.out.lt a x0 hx0
              have hcq := hown3.cell (uv_at hx0)
              have hfq := hown3.frozen a
              have hor : bits .or .u32 ((x0 : Nat) : Int) ((2 : Int) ^ t % 4294967296) = ((x0 ||| 2 ^ t : Nat) : Int) := by rw [pow_u32' ht32]; exact u32_or_nat _ _ (by omega) (pow_lt_32 ht32)
              have HOR := Lib.hid hor
              have HADD := Lib.hid (HEG3.out.add hx0 ht8)
              have HOW := Lib.hid (OwnU.set hown3 a (x0 ||| 2 ^ t))
              clear hba hbt hx0 hor
              by_cases hgo : ExitP nx a i t
              · have HN := Lib.hid (HADD.out.congr (Q' := EdS nx i c t (a + 1)) fun x f _ => EdS.more hgo)
                have hh := hex.1 hgo
                obtain ⟨rfl, hor2⟩ := hh
                clear hex hgo
                by_cases hat2 : a = t
                · subst hat2
                  clear hor2
                  go_wp2_with (go_at_call 70; (with_reducible refine (wayHas_any V a _ hV32 ha32).mono ?_); rw [HBA.out]; rintro e w5 ⟨rfl, rfl⟩)
                  go_region
                  all_goals
                    go_wp2
                    go_round
                    case rel => exact ⟨a + 1, eg3.set a (x0 ||| 2 ^ a), by omega, by go_num, HN.out, by rw [HOR.out]; exact HOW.out, (hb3.setCell (show wo.heap.size ≤ (⟨wo.heap.size, a, none⟩ : Addr).block from Nat.le_refl _) _).drew⟩
                    case measure => (simp [intOf]; omega)
                · have hbt0 := hor2.resolve_left hat2
                  subst hbt0
                  have hne : ((a : Int) == (t : Int)) = false := by simp; omega
                  clear hor2 hat2
                  go_wp2_with (first
                    | (go_at_call 70; (with_reducible refine (wayHas_any V a _ hV32 ha32).mono ?_); rw [HBA.out]; rintro e w5 ⟨rfl, rfl⟩)
                    | (go_at_call 70; (with_reducible refine (wayHas_any T a _ hT32 ha32).mono ?_); rw [HBT.out]; rintro e w5 ⟨rfl, rfl⟩))
                  go_region
                  all_goals
                    go_wp2
                    go_round
                    case rel => exact ⟨a + 1, eg3.set a (x0 ||| 2 ^ t), by omega, by go_num, HN.out, by rw [HOR.out]; exact HOW.out, (hb3.setCell (show wo.heap.size ≤ (⟨wo.heap.size, a, none⟩ : Addr).block from Nat.le_refl _) _).drew⟩
                    case measure => (simp [intOf]; omega)
              · have HN := Lib.hid (HEG3.out.congr (Q' := EdS nx i c t (a + 1)) fun x f _ => EdS.skip hgo)
                have hh : ba = false ∨ (ba = true ∧ a ≠ t ∧ bt = true) := by
                  cases ba with
                  | false => exact .inl rfl
                  | true =>
                    right
                    refine ⟨rfl, fun e => hgo (hex.2 ⟨rfl, .inl e⟩), ?_⟩
                    cases bt with
                    | true => rfl
                    | false => exact absurd (hex.2 ⟨rfl, .inr rfl⟩) hgo
                clear hex hgo HADD HOW HOR
                rcases hh with rfl | ⟨rfl, hat2, rfl⟩
                · go_wp2_with (go_at_call 70; (with_reducible refine (wayHas_any V a _ hV32 ha32).mono ?_); rw [HBA.out]; rintro e w5 ⟨rfl, rfl⟩)
                  go_round
                  case rel => exact ⟨a + 1, eg3, by omega, by go_num, HN.out, hown3, hb3⟩
                  case measure => (simp [intOf]; omega)
                · have hne : ((a : Int) == (t : Int)) = false := by simp; omega
                  clear hat2
                  go_wp2_with (first
                    | (go_at_call 70; (with_reducible refine (wayHas_any V a _ hV32 ha32).mono ?_); rw [HBA.out]; rintro e w5 ⟨rfl, rfl⟩)
                    | (go_at_call 70; (with_reducible refine (wayHas_any T a _ hT32 ha32).mono ?_); rw [HBT.out]; rintro e w5 ⟨rfl, rfl⟩))
                  go_round
                  case rel => exact ⟨a + 1, eg3, by omega, by go_num, HN.out, hown3, hb3⟩
                  case measure => (simp [intOf]; omega)
            · have hal : len ≤ a := by omega
              have HN := Lib.hid (HEG3.out.congr (Q' := EdR nx i (c + 1)) fun x f hx => EdS.done HTC.out (by rw [HL.out] at hx; omega))
              clear hal
              go_wp2
              go_round
              case rel => exact ⟨c + 1, eg3, by omega, by go_num, HN.out, hown3, hb3⟩
              case measure => (simp [intOf]; omega)
        · have hcl2 : (sc nx i).length ≤ c := by rw [HSLE.out]; omega
          have HN := Lib.hid (HEG2.out.congr (Q' := EdQ nx (i + 1)) fun x f _ => EdR.done hcl2)
          clear hcl2
          go_wp2
          go_round
          case rel => exact ⟨i + 1, eg2, by omega, by go_num, HN.out, hown2, hb2⟩
          case measure => (simp [intOf]; omega)
    · have hil : i = len := by omega
      have hE : EgI nx eg (EdgeP nx) := HEND.out eg (by rw [← hil]; exact HEG.out)
      have HE : Hid (Edg nx eg) := Lib.hid ⟨hE.len, hE.lt, hE.mem⟩
      have HRD := Lib.hid ((OwnU.rd hown).more hown.lt)
      clear hil hE hown
      go_wp2
      go_ret2
      exact ⟨eg, _, _, HE.out, rfl, HRD.out, hb1.trans (hb.mono hs1)⟩

theorem ruleEdge_bad (A : Option Addr) (len cap : Nat) (nx : List (List Int)) (w : World) (hx : RdG w w.heap.size A nx) (hl : nx.length = len) (hm : len ≤ maxLen) (hc : ckWay nx ≠ 0) :
    Calls Try.prog 86 #[.slice A len cap] w fun e w' => ∃ A' c', e = .returned (.tuple #[.slice A' 0 c', .int .i64 (ckWay nx)]) ∧ Below w.heap.size w w' := by
  have HC := Lib.hid hc
  have hne : (ckWay nx != 0) = true := by simp [hc]
  clear hc
  go_enter Try.func86, Try.ntmps86
  go_wp2_with fail
  refine (ruleTable_bad A len cap nx _ hx hl hm HC.out).mono ?_
  rintro e w1 ⟨A1, c1, rfl, hb1⟩
  go_wp2
  go_ret2
  exact ⟨none, 0, rfl, hb1⟩

end Go.Proofs.Ytgcjknibelfjbaa

/-
  rule.frontier, rule.Meet (F2).
-/

namespace Go.Proofs.Ytgcjknibelfjbaa
open Go.RowKit
set_option linter.unusedSimpArgs false
set_option linter.unusedVariables false
set_option maxRecDepth 100000

set_option maxHeartbeats 1000000 in
theorem frontier_any (A : Option Addr) (n c : Nat) (eg : List Nat) (s B : Nat) (w : World) (hx : RdU w B A eg) (hl : eg.length = n) (hlt : ∀ (i W : Nat), eg[i]? = some W → W < 256) (hs : s < 4294967296) (hm : n ≤ 8) :
    Calls Try.prog 87 #[.slice A n c, .int .u32 (s : Nat)] w fun e w' => e = .returned (.int .u32 (frW eg s n : Nat)) ∧ w = w' := by
  have HL := Lib.hid hl
  have HLT := Lib.hid hlt
  have HFL := Lib.hid (fun k => frW_lt (n := 8) (s := s) hlt k)
  clear hl hlt
  go_enter Try.func87, Try.ntmps87
  go_wp2
  go_loop [5, 10] (fun z i => ∃ k m : Nat, k ≤ n ∧ i = .int .i64 k ∧ z = .int .u32 (m : Nat) ∧ m = frW eg s k) (fun _ i => n - (intOf i).toNat)
  case atStart => exact ⟨0, 0, Nat.zero_le _, rfl, rfl, rfl⟩
  case round =>
    obtain ⟨k, m, hk, rfl, rfl, hm0⟩ := hrel
    have hml := HFL.out k
    rw [← hm0] at hml
    have HM := Lib.hid hm0
    clear hm0
    by_cases hlt : k < n
    · obtain ⟨ad, W, rfl, hbl, hd, hcell⟩ := hx.at_ (k := k) (by rw [HL.out]; exact hlt)
      have hW := HLT.out k W hd
      have hk32 : k < 32 := by omega
      have hg : eg.getD k 0 = W := by rw [List.getD_eq_getElem?_getD, hd]; rfl
      have hor : bits .or .u32 ((m : Nat) : Int) ((W : Nat) : Int) = ((m ||| W : Nat) : Int) := u32_or_nat _ _ (by omega) (by omega)
      have hnx := frW_succ eg s k
      rw [hg, ← HM.out] at hnx
      obtain ⟨b, hb⟩ : ∃ b, s.testBit k = b := ⟨_, rfl⟩
      rw [hb] at hnx
      have HB := Lib.hid hb
      have HOR := Lib.hid hor
      clear hd hg hor hb
      cases b with
      | true =>
        rw [if_pos rfl] at hnx
        have HNX := Lib.hid hnx
        clear hnx
        go_wp2_with (go_at_call 70; (with_reducible refine (wayHas_any s k _ hs hk32).mono ?_); rw [HB.out]; rintro e w5 ⟨rfl, rfl⟩)
        go_round
        case rel => exact ⟨k + 1, m ||| W, by omega, by go_num, by rw [HOR.out], HNX.out.symm⟩
        case measure => (simp [intOf]; omega)
      | false =>
        rw [if_neg (by simp)] at hnx
        have HNX := Lib.hid hnx
        clear hnx
        go_wp2_with (go_at_call 70; (with_reducible refine (wayHas_any s k _ hs hk32).mono ?_); rw [HB.out]; rintro e w5 ⟨rfl, rfl⟩)
        go_round
        case rel => exact ⟨k + 1, m, by omega, by go_num, rfl, HNX.out.symm⟩
        case measure => (simp [intOf]; omega)
    · have hkn : k = n := by omega
      have hmn : m = frW eg s n := by rw [HM.out, hkn]
      have HMN := Lib.hid hmn
      clear hkn hmn
      go_wp2
      go_ret
      exact ⟨ret_int (congrArg _ HMN.out), rfl⟩

theorem shr_zero {s n : Nat} (h : s < 2 ^ n) : ((s : Nat) : Int) / 2 ^ n = 0 := by
  have h2 : ((s : Nat) : Int) / 2 ^ n = ((s / 2 ^ n : Nat) : Int) := by simp
  rw [h2, Nat.div_eq_of_lt h]
  rfl

theorem shr_not {s n : Nat} (h : ¬ s < 2 ^ n) : (((s : Nat) : Int) / 2 ^ n != 0) = true := by
  have h2 : ((s : Nat) : Int) / 2 ^ n = ((s / 2 ^ n : Nat) : Int) := by simp
  have h3 : 0 < s / 2 ^ n := Nat.div_pos (by omega) (Nat.two_pow_pos n)
  rw [h2]
  simp only [bne_iff_ne, ne_eq]
  omega

set_option maxHeartbeats 4000000 in
theorem ruleMeet_any (A : Option Addr) (len cap : Nat) (nx : List (List Int)) (s : Nat) (w : World) (hx : RdG w w.heap.size A nx) (hl : nx.length = len) (hs : s < 4294967296) (hck : ckMeet nx s = 0) :
    Calls Try.prog 68 #[.slice A len cap, .int .u32 (s : Nat)] w fun e w' => ∃ m : Nat, m < 256 ∧ (∀ j, m.testBit j = true ↔ Mt nx s j) ∧ e = .returned (.tuple #[.int .u32 (m : Nat), .int .i64 0]) ∧ Below w.heap.size w w' := by
  obtain ⟨hc, hsl⟩ := ckMeet_ok hck
  obtain ⟨b1, b2, b3⟩ := ckWay_bd hc
  have HC := Lib.hid hc
  have HL := Lib.hid hl
  rw [hl] at b1 b2 hsl
  have hshr := shr_zero hsl
  have hs256 : s < 256 := Nat.lt_of_lt_of_le hsl (show 2 ^ len ≤ 2 ^ 8 from Nat.pow_le_pow_right (by omega) b2)
  clear hl hc b3 hck hsl
  go_enter Try.func68, Try.ntmps68
  go_wp2_with fail
  refine (ruleEdge_any A len cap nx _ hx HL.out HC.out).mono ?_
  rintro e wo ⟨eg, A2, c2, hed, rfl, hrd, hb1⟩
  have he : EgI nx eg (EdgeP nx) := ⟨hed.len, hed.lt, hed.mem⟩
  have hel := hed.len
  rw [HL.out] at hel
  have HEL := Lib.hid hel
  have HLT := Lib.hid hed.lt
  have HNXT := Lib.hid (fun m (h : MtI nx eg s m) => h.next he)
  have HLE := Lib.hid (fun m (h : MtI nx eg s m) => h.le)
  have HDN := Lib.hid (fun m (h : MtI nx eg s m) (e : frW eg (s ||| m) nx.length = m) => h.done HC.out he e)
  rw [HL.out] at HNXT HLE HDN
  clear hed he hel
  go_wp2_with fail
  go_loop [8] (fun z => ∃ m : Nat, z = .int .u32 (m : Nat) ∧ MtI nx eg s m) (fun z => 256 - (intOf z).toNat)
  case atStart => exact ⟨0, rfl, MtI.start⟩
  case round =>
    obtain ⟨m, rfl, hmt⟩ := hrel
    have hm256 := hmt.lt
    have HMT := Lib.hid hmt
    have hnx := HNXT.out m hmt
    have hle := HLE.out m hmt
    have hm2 := hnx.lt
    have hdn := HDN.out m hmt
    have hor : bits .or .u32 ((s : Nat) : Int) ((m : Nat) : Int) = ((s ||| m : Nat) : Int) := u32_or_nat _ _ hs (by omega)
    have hsm : s ||| m < 4294967296 := Nat.lt_of_lt_of_le (Nat.or_lt_two_pow (n := 8) hs256 hm256) (by omega)
    obtain ⟨x, hx2⟩ : ∃ x, s ||| m = x := ⟨_, rfl⟩
    rw [hx2] at hor hsm hnx hle hm2 hdn
    obtain ⟨m2, hf⟩ : ∃ m2, frW eg x len = m2 := ⟨_, rfl⟩
    rw [hf] at hnx hle hm2 hdn
    have HF := Lib.hid hf
    have HNX := Lib.hid hnx
    have HDN2 := Lib.hid hdn
    clear hmt hx2 hf hnx hdn
    by_cases hmm : m2 = m
    · subst hmm
      have HB := Lib.hid (HDN2.out rfl)
      go_wp2_with (go_at_call 87; (with_reducible refine (frontier_any A2 len c2 eg x _ _ hrd HEL.out HLT.out hsm (by omega)).mono ?_); rw [HF.out]; rintro e w5 ⟨rfl, rfl⟩)
      go_ret2
      exact ⟨m2, hm256, HB.out, rfl, hb1⟩
    · have hne : (((m2 : Nat) : Int) == ((m : Nat) : Int)) = false := by simp; omega
      have hlt : m < m2 := by omega
      clear hmm
      go_wp2_with (go_at_call 87; (with_reducible refine (frontier_any A2 len c2 eg x _ _ hrd HEL.out HLT.out hsm (by omega)).mono ?_); rw [HF.out]; rintro e w5 ⟨rfl, rfl⟩)
      go_round
      case rel => exact ⟨m2, rfl, HNX.out⟩
      case measure => (simp [intOf]; omega)

set_option maxHeartbeats 1000000 in
theorem ruleMeet_bad (A : Option Addr) (len cap : Nat) (nx : List (List Int)) (s : Nat) (w : World) (hx : RdG w w.heap.size A nx) (hl : nx.length = len) (hm : len ≤ maxLen) (hs : s < 4294967296) (hck : ckMeet nx s ≠ 0) :
    Calls Try.prog 68 #[.slice A len cap, .int .u32 (s : Nat)] w fun e w' => e = .returned (.tuple #[.int .u32 0, .int .i64 (ckMeet nx s)]) ∧ Below w.heap.size w w' := by
  by_cases hc : ckWay nx = 0
  · obtain ⟨b1, b2, b3⟩ := ckWay_bd hc
    have hsl : ¬ s < 2 ^ nx.length := fun h => hck (ckMeet_of hc h)
    have hck4 : ckMeet nx s = 4 := by unfold ckMeet; rw [if_pos hc, if_neg hsl]
    rw [hck4]
    have HC := Lib.hid hc
    have HL := Lib.hid hl
    rw [hl] at b1 b2 hsl
    have hshr := shr_not hsl
    clear hl hc b3 hck hsl hck4
    go_enter Try.func68, Try.ntmps68
    go_wp2_with fail
    refine (ruleEdge_any A len cap nx _ hx HL.out HC.out).mono ?_
    rintro e wo ⟨eg, A2, c2, hed, rfl, hrd, hb1⟩
    clear hed
    go_wp2
    go_ret2
    exact ⟨rfl, hb1⟩
  · have hck4 : ckMeet nx s = ckWay nx := by unfold ckMeet; rw [if_neg hc]
    rw [hck4]
    have HC := Lib.hid hc
    have hne : (ckWay nx != 0) = true := by simp [hc]
    clear hc hck hck4
    go_enter Try.func68, Try.ntmps68
    go_wp2_with fail
    refine (ruleEdge_bad A len cap nx _ hx hl hm HC.out).mono ?_
    rintro e w1 ⟨A1, c1, rfl, hb1⟩
    go_wp2
    go_ret2
    exact ⟨rfl, hb1⟩

end Go.Proofs.Ytgcjknibelfjbaa

/-
  Package rule keeps its contracts.
-/

namespace Go.Proofs.Ytgcjknibelfjbaa
open Go.RowKit
set_option linter.unusedSimpArgs false
set_option linter.unusedVariables false
set_option maxRecDepth 100000

/-- 34 43 86 68 -/
theorem ruleIs : RuleIs where
  table := ruleTable_any
  tableBad := ruleTable_bad
  tree := ruleTree_any
  treeBad := ruleTree_bad
  edge := ruleEdge_any
  edgeBad := ruleEdge_bad
  meet := ruleMeet_any
  meetBad := ruleMeet_bad

/-- 68 -/
theorem meetIs : MeetIs := ⟨ruleMeet_any, ruleMeet_bad⟩

end Go.Proofs.Ytgcjknibelfjbaa
