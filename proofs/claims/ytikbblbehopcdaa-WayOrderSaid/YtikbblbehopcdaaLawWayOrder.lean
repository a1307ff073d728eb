/-
  Of each pair that does not go back the first stands ahead of the second in the order, which has all to which one comes: codemasonkeep.WayOrder returns true and leaves its arguments alone. No condition.
-/
import Derived.Test.YtikbblbehopcdaaLawWay
import Derived.Test.YtikbblbehopcdaaLawWayOrders
import Derived.BigRegion
namespace Go.Proofs.Ytikbblbehopcdaa
open Go.RowKit Go.ChangeShapes Go.WideShapes Go.ChangeAt Go.Deep
set_option linter.unusedSimpArgs false
set_option linter.unusedVariables false
set_option maxRecDepth 100000

theorem nodup_rev {l : List Nat} (h : l.Nodup) : l.reverse.Nodup := List.pairwise_reverse.2 (h.imp fun h => Ne.symm h)

/-- where each of the first k stands -/
def AtOk (L : List Nat) (k : Nat) (qs : List Int) : Prop := ∀ j x, j < k → L[j]? = some x → qs[x]? = some (j : Int)

theorem AtOk.step {L : List Nat} {k x : Nat} {qs : List Int} (h : AtOk L k qs) (hd : L.Nodup) (hx : L[k]? = some x) (hl : x < qs.length) : AtOk L (k + 1) (qs.set x (k : Int)) := by
  intro j y hj hy
  by_cases hjk : j = k
  · subst hjk
    rw [hx] at hy
    injection hy with hy
    subst hy
    rw [List.getElem?_set_self hl]
  · have hne : x ≠ y := fun e => by
      subst e
      have h1 := posL_at hd hx
      have h2 := posL_at hd hy
      omega
    rw [List.getElem?_set_ne hne]
    exact h j y (by omega) hy

theorem posL_rev {l : List Nat} (hd : l.Nodup) {x : Nat} (hx : x ∈ l) : posL l.reverse x = l.length - 1 - posL l x := by
  obtain ⟨h1, h2⟩ := posL_lt hx
  refine posL_at (nodup_rev hd) ?_
  rw [List.getElem?_reverse (by omega), show l.length - 1 - (l.length - 1 - posL l x) = posL l x by omega]
  exact h2

theorem AtOk.all {l : List Nat} (hd : l.Nodup) {qs : List Int} (h : AtOk l.reverse l.length qs) {x : Nat} (hx : x ∈ l) : qs[x]? = some ((l.length - 1 - posL l x : Nat) : Int) := by
  have hr := posL_lt (List.mem_reverse.2 hx)
  have := h (posL l.reverse x) x (by have := hr.1; rwa [List.length_reverse] at this) hr.2
  rwa [posL_rev hd hx] at this

theorem rev_head {nx : List (List Int)} (hc : ckWay nx = 0) : (finL nx).reverse[0]? = some 0 ∧ 0 < (finL nx).length := by
  obtain ⟨p, hp⟩ := fin_last hc
  rw [hp]
  simp

theorem mem_take_next {q : List (Nat × Nat)} {k : Nat} {p r : Nat × Nat} (h : q[k]? = some p) : r ∈ q.take (k + 1) ↔ r ∈ q.take k ∨ r = p := by
  rw [List.take_add_one, h, Option.toList_some, List.mem_append, List.mem_singleton]

set_option maxHeartbeats 8000000 in
theorem lawWayOrder_ok (K : WayIs) (A : Option Addr) (cap : Nat) (nx : List (List Int)) (w : World) (hx : RdG w w.heap.size A nx) (hm : nx.length ≤ maxLen) (hc : ckWay nx = 0) :
    Calls Try.prog 8 #[.slice A nx.length cap] w fun e w' => e = .returned (.bool true) ∧ Below w.heap.size w w' := by
  unfold maxLen at hm
  have HC := Lib.hid hc
  obtain ⟨hb1', hb2', _⟩ := ckWay_bd hc
  obtain ⟨len, hlen⟩ : ∃ len, nx.length = len := ⟨_, rfl⟩
  have HLEN := Lib.hid hlen
  have hml : (bkL nx).length ≤ 64 := by
    have h1 := bkM_len nx nx.length
    have h2 : nx.length * nx.length ≤ 8 * 8 := Nat.mul_le_mul hb2' hb2'
    unfold bkL
    omega
  have hfl := fin_len hc
  have HFD := Lib.hid (fin_nodup hc)
  have HFLT := Lib.hid (fun x => fin_lt hc (x := x))
  have HSC := Lib.hid (fun a b => fin_sc hc (a := a) (b := b))
  have HBM := Lib.hid (fun a b => bkL_mem hc (a := a) (b := b))
  obtain ⟨hhd, hpos⟩ := rev_head hc
  have HHD := Lib.hid hhd
  have hrw : reachW nx = setW (finL nx) := by unfold reachW; rw [if_pos hc]
  have hR8 := reachW_lt nx
  have hset : setW (finL nx).reverse = reachW nx := by rw [hrw]; exact word_ext fun j => by rw [setW_bit, setW_bit, List.mem_reverse]
  have hsz : szW (reachW nx) 32 = (finL nx).length := by rw [hrw]; exact szW_len (fin_nodup hc) fun x hx => by have := fin_lt8 hc x hx; omega
  have HF32 := Lib.hid (fun x (hx : x ∈ (finL nx).reverse) => show x < 32 by have := fin_lt8 hc x (List.mem_reverse.1 hx); omega)
  obtain ⟨R, hR⟩ : ∃ R, reachW nx = R := ⟨_, rfl⟩
  rw [hR] at hset hsz hR8
  have HRE := Lib.hid hR
  have hR32 : R < 4294967296 := by omega
  have hmk := make_ints (P := Try.prog) 30 3 Try.underlying30 (by kernel_rfl) len (by omega)
  rw [hlen] at hb1' hb2' hm hfl ⊢
  have HML : Hid (len ≤ maxLen) := Lib.hid (by unfold maxLen; omega)
  obtain ⟨fn, hfn⟩ : ∃ fn, (finL nx).length = fn := ⟨_, rfl⟩
  rw [hfn] at hfl hsz hpos
  have HFN := Lib.hid hfn
  have HSET := Lib.hid hset
  have HSZ := Lib.hid hsz
  have HNL : Hid ((ni (finL nx).reverse).length = fn) := Lib.hid (by simp [ni, hfn])
  have HRL : Hid ((finL nx).reverse.length = fn) := Lib.hid (by rw [List.length_reverse, hfn])
  have HRD : Hid ((finL nx).reverse.Nodup) := Lib.hid (nodup_rev HFD.out)
  have HIN : Hid (∀ x, x ∈ (finL nx).reverse ↔ x ∈ finL nx) := Lib.hid fun x => List.mem_reverse
  generalize hL : finL nx = L at *
  have HLE := Lib.hid hL
  clear hL
  obtain ⟨bl, hbl⟩ : ∃ bl, (bkL nx).length = bl := ⟨_, rfl⟩
  rw [hbl] at hml
  have HBL := Lib.hid hbl
  have hf0 : ((fn : Int) == 0) = false := by simp; omega
  clear hc hlen hbl hrw hR hset hsz hhd hfn
  go_enter Try.func8, Try.ntmps8
  go_wp2_with fail
  refine (K.order A _ cap nx _ hx HLEN.out HC.out).mono ?_
  rw [HLE.out, HFN.out]
  rintro e w0 ⟨A0, c0, rfl, hr0, hb0⟩
  have hx0 := (hx.below hb0 (Nat.le_refl _)).more hb0.size
  go_wp2_with fail
  refine (K.back A _ cap nx _ hx0 HLEN.out HC.out).mono ?_
  rw [HBL.out]
  rintro e w1 ⟨A1, c1, rfl, hr1, hb1⟩
  have hb01 := hb0.trans (hb1.mono hb0.size)
  have hx1 := (hx.below hb01 (Nat.le_refl _)).more hb01.size
  go_wp2_with fail
  refine (K.reach A _ cap nx _ hx1 HLEN.out HML.out).mono ?_
  rw [HRE.out, HC.out]
  rintro e w2 ⟨rfl, hb2⟩
  have hbw := hb01.trans (hb2.mono hb01.size)
  have hb12 := (hb1.trans (hb2.mono hb1.size))
  have hrl := (hr0.below hb12 (Nat.le_refl _)).more hb12.size
  have hrb := RdR.more (RdR.below hr1 hb2 (Nat.le_refl _)) hb2.size
  have hx2 := (hx.below hbw (Nat.le_refl _)).more hbw.size
  clear hr0 hr1 hb1 hb2 hb0 hb01 hb12 hx0 hx1 hx
  obtain ⟨al, y0, rfl, hbl0, hy0, hcl0⟩ := hrl.at_ (k := 0) (by rw [HNL.out]; exact hpos)
  rw [ni_at HHD.out] at hy0
  injection hy0 with hy0
  have hy0' : y0 = 0 := hy0.symm
  subst hy0'
  have hcl0' : w2.cell? al = some (.int .i64 0) := by
    have ha : al.add 0 = al := by unfold Addr.add; simp
    rw [ha] at hcl0
    exact hcl0
  go_wp2_with fail
  refine (may_any A _ cap nx _ hx2 HLEN.out HML.out).mono ?_
  rw [decide_eq_true HC.out]
  rintro e w3 ⟨rfl, rfl⟩
  go_wp2_with fail
  refine (refSet_any (some al) fn c0 L.reverse _ _ hrl HRL.out HF32.out (by omega)).mono ?_
  rw [HSET.out]
  rintro e w3 ⟨rfl, rfl⟩
  go_wp2_with fail
  refine (refSize_any R _ hR32).mono ?_
  rw [HSZ.out]
  rintro e w3 ⟨rfl, rfl⟩
  go_wp2
  have hown0 := Own.new w2 3 (iv (List.replicate len 0))
  clear hmk
  go_loopw [86] (fun z wr => ∃ (k : Nat) (qs : List Int), k ≤ fn ∧ z = .int .i64 k ∧ Hid (qs.length = len) ∧ Own wr w2.heap.size 3 (iv qs) ∧ Hid (AtOk L.reverse k qs) ∧ Below w2.heap.size w2 wr) (fun z _ => fn - (intOf z).toNat)
  case atStart => exact ⟨0, List.replicate len 0, Nat.zero_le _, rfl, Lib.hid (by simp), hown0, Lib.hid (fun j x h => by omega), by go_grown⟩
  case round =>
    obtain ⟨k, qs, hk, rfl, HQ, hown, HAT, hb⟩ := hrel
    have hsz := hb.size
    have hgl := hown.lt
    by_cases hlt : k < fn
    · obtain ⟨al', y', hal, hbly, hy, hcy⟩ := (hrl.below hb (Nat.le_refl _)).at_ (k := k) (by rw [HNL.out]; exact hlt)
      injection hal with hal
      subst hal
      obtain ⟨y, hyy⟩ : ∃ y, L.reverse[k]? = some y := ⟨_, List.getElem?_eq_getElem (by rw [HRL.out]; exact hlt)⟩
      rw [ni_at hyy] at hy
      injection hy with hy
      subst hy
      have hyl := HFLT.out y ((HIN.out y).1 (List.mem_of_getElem? hyy))
      rw [HLEN.out] at hyl
      have HST := Lib.hid (HAT.out.step HRD.out hyy (by rw [HQ.out]; exact hyl))
      obtain ⟨q, hq⟩ : ∃ q, qs[y]? = some q := ⟨_, List.getElem?_eq_getElem (by rw [HQ.out]; exact hyl)⟩
      have hcq := hown.cell (iv_at hq)
      have hfq := hown.frozen y
      clear hyy hq
      go_wp2
      go_round
      case rel => exact ⟨k + 1, qs.set y k, by omega, by go_num, Lib.hid (by rw [List.length_set]; exact HQ.out), OwnI.set hown y k, HST, by go_grown⟩
      case measure => (simp [intOf]; omega)
    · have hkl : k = fn := by omega
      subst hkl
      have HAL := Lib.hid (fun x (hx : x ∈ L) => AtOk.all HFD.out (by rw [HFN.out]; exact HAT.out) hx)
      obtain ⟨wo, rfl⟩ : ∃ wo : World, wo = wr := ⟨_, rfl⟩
      have hrlo := (hrl.below hb (Nat.le_refl _)).more hsz
      have hrbo := RdR.more (RdR.below hrb hb (Nat.le_refl _)) hsz
      have hxo := (hx2.below hb (Nat.le_refl _)).more hsz
      have hbwo := hbw.trans (hb.mono hbw.size)
      clear hrl hrb hx2 hb hcl0 hcl0' hown0 hsz
      go_wp2
      go_loopw [98] (fun z wr => ∃ i : Nat, i ≤ k ∧ z = .int .i64 i ∧ Below wo.heap.size wo wr) (fun z _ => k - (intOf z).toNat)
      case atStart => exact ⟨0, Nat.zero_le _, rfl, Below.refl _ _⟩
      case round =>
        obtain ⟨i, hi, rfl, hbr⟩ := hrel
        have hszr := hbr.size
        by_cases hit : i < k
        · obtain ⟨al', y', hal, hbly, hy, hcy⟩ := (hrlo.below hbr (Nat.le_refl _)).at_ (k := i) (by rw [HNL.out]; exact hit)
          injection hal with hal
          subst hal
          obtain ⟨x, hxx⟩ : ∃ x, L.reverse[i]? = some x := ⟨_, List.getElem?_eq_getElem (by rw [HRL.out]; exact hit)⟩
          rw [ni_at hxx] at hy
          injection hy with hy
          subst hy
          have hxm := (HIN.out x).1 (List.mem_of_getElem? hxx)
          have hxl := HFLT.out x hxm
          rw [HLEN.out] at hxl
          have HXM := Lib.hid hxm
          obtain ⟨ad, row, Ar, cr, rfl, hbl2, hd, hcell, hrow⟩ := (hxo.below hbr (Nat.le_refl _)).at_ (k := x) (by rw [HLEN.out]; exact hxl)
          have hrs := row_sc HC.out hd
          subst hrs
          obtain ⟨sl, hsl2⟩ : ∃ sl, (ni (sc nx x)).length = sl := ⟨_, rfl⟩
          have hsl3 : sl ≤ 3 := by have := sc_len HC.out x; rw [← hsl2]; simpa [ni] using this
          rw [hsl2] at hcell
          have HSL := Lib.hid hsl2
          have hrow0 := hrow.below (Below.refl wo.heap.size wr) (Nat.le_refl _)
          obtain ⟨wv, rfl⟩ : ∃ wv : World, wv = wr := ⟨_, rfl⟩
          clear hxx hxm hd hsl2
          go_wp2
          go_loopw [107] (fun z wr => ∃ j : Nat, j ≤ sl ∧ z = .int .i64 j ∧ Below wv.heap.size wv wr) (fun z _ => sl - (intOf z).toNat)
          case atStart => exact ⟨0, Nat.zero_le _, rfl, Below.refl _ _⟩
          case round =>
            obtain ⟨j, hj, rfl, hbj⟩ := hrel
            have hszj := hbj.size
            by_cases hjt : j < sl
            · have hrowj : RdI wr wo.heap.size Ar (ni (sc nx x)) := hrow.below (hbj.mono hszr) (Nat.le_refl _)
              obtain ⟨ar, y', rfl, hbly2, hy, hcy2⟩ := hrowj.at_ (k := j) (by rw [HSL.out]; exact hjt)
              obtain ⟨y, hyy⟩ : ∃ y, (sc nx x)[j]? = some y := ⟨_, List.getElem?_eq_getElem (by have := HSL.out; simp [ni] at this; omega)⟩
              rw [ni_at hyy] at hy
              injection hy with hy
              subst hy
              have hym := List.mem_of_getElem? hyy
              have hyL := HSC.out x y HXM.out hym
              have hbk := HBM.out x y
              have ha1 := HAL.out x HXM.out
              have ha2 := HAL.out y hyL
              rw [HFN.out] at ha1 ha2
              have hp1 := (posL_lt HXM.out).1
              have hp2 := (posL_lt hyL).1
              rw [HFN.out] at hp1 hp2
              have hiff : (x, y) ∈ bkL nx ↔ posL L x ≤ posL L y := by rw [hbk]; exact ⟨fun h => h.2.2, fun h => ⟨HXM.out, hym, h⟩⟩
              generalize posL L x = px at *
              generalize posL L y = py at *
              have HIFF := Lib.hid hiff
              obtain ⟨wu, rfl⟩ : ∃ wu : World, wu = wr := ⟨_, rfl⟩
              have hbou : Below wo.heap.size wo wu := hbr.trans (hbj.mono hszr)
              have hszu := hbou.size
              have hownu := hown.below hbou hgl
              have hcx := hownu.cell (iv_at ha1)
              have hcyy := hownu.cell (iv_at ha2)
              have HCX := Lib.hid hcx
              have HCYY := Lib.hid hcyy
              have hyl := HFLT.out y hyL
              rw [HLEN.out] at hyl
              have hq64 : bl ≤ 9223372036854775807 := by omega
              clear hyy hym hyL hbk ha1 ha2 hiff hcx hcyy
              go_wp2
              go_loopw [16, 113] (fun v z wr => ∃ (m : Nat) (b : Bool), m ≤ bl ∧ z = .int .i64 m ∧ v = .bool b ∧ Hid (b = true ↔ (x, y) ∈ (bkL nx).take m) ∧ Below wu.heap.size wu wr) (fun _ z _ => bl - (intOf z).toNat)
              case atStart => exact ⟨0, false, Nat.zero_le _, rfl, rfl, Lib.hid (by simp), Below.refl _ _⟩
              case round =>
                obtain ⟨m, b, hmb, rfl, rfl, HB, hbm⟩ := hrel
                have hszm := hbm.size
                by_cases hmt : m < bl
                · obtain ⟨ap, p1, p2, rfl, hblp, hpd, hcp1, hcp2⟩ := RdR.pair (RdR.below hrbo (hbou.trans (hbm.mono hszu)) (Nat.le_refl _)) (k := m) (by rw [HBL.out]; exact hmt)
                  have hnext : ∀ c : Bool, (c = true ↔ ((p1 : Int) = (x : Int) ∧ (p2 : Int) = (y : Int))) → ((b || c) = true ↔ (x, y) ∈ (bkL nx).take (m + 1)) := fun c hcc => by
                    rw [mem_take_next hpd, Bool.or_eq_true, HB.out, hcc, Prod.mk.injEq]
                    exact ⟨fun h => h.imp id fun h => ⟨by omega, by omega⟩, fun h => h.imp id fun h => ⟨by omega, by omega⟩⟩
                  have HNX := Lib.hid hnext
                  have hpb : (ap.add (m * 2)).block < wr.heap.size := by omega
                  clear hnext hpd
                  cases b with
                  | true =>
                    have HN := Lib.hid (HNX.out (decide ((p1 : Int) = (x : Int)) && decide ((p2 : Int) = (y : Int))) (by simp))
                    go_wp2
                    go_round
                    case rel => exact ⟨m + 1, true, by omega, by go_num, rfl, Lib.hid ⟨fun _ => HN.out.1 (by simp), fun _ => rfl⟩, by go_grown⟩
                    case measure => (simp [intOf]; omega)
                  | false =>
                    obtain ⟨c, hcc⟩ : ∃ c, (decide ((p1 : Int) = (x : Int)) && decide ((p2 : Int) = (y : Int))) = c := ⟨_, rfl⟩
                    have peq := fun w => (pair_eql w p1 p2 x y).trans (by rw [hcc])
                    have HN := Lib.hid (HNX.out c (by rw [← hcc]; simp))
                    clear hcc
                    go_wp2
                    go_round
                    case rel => exact ⟨m + 1, c, by omega, by go_num, rfl, Lib.hid (by have := HN.out; rwa [Bool.false_or] at this), by go_grown⟩
                    case measure => (simp [intOf]; omega)
                · have hml2 : m = bl := by omega
                  subst hml2
                  have hbb : b = true ↔ px ≤ py := by rw [HB.out, ← HIFF.out, ← HBL.out, List.take_length]
                  have hcx := (hbm.cell (p := ⟨w2.heap.size, x, none⟩) (by show w2.heap.size < _; omega)).trans HCX.out
                  have hcyy := (hbm.cell (p := ⟨w2.heap.size, y, none⟩) (by show w2.heap.size < _; omega)).trans HCYY.out
                  have hbf : Below wv.heap.size wv wr := hbj.trans (hbm.mono hszj)
                  obtain ⟨ax, hax⟩ : ∃ ax, k - 1 - px = ax := ⟨_, rfl⟩
                  obtain ⟨ay, hay⟩ : ∃ ay, k - 1 - py = ay := ⟨_, rfl⟩
                  rw [hax] at hcx
                  rw [hay] at hcyy
                  cases b with
                  | true =>
                    have hno : ¬ (ax < ay) := by have := hbb.1 rfl; omega
                    have hdd : decide (ax < ay) = false := by simp; omega
                    clear hbb hax hay hno
                    go_wp2
                    go_region
                    all_goals
                      go_wp2
                      go_round
                      case rel => exact ⟨j + 1, by omega, by go_num, by go_grown⟩
                      case measure => (simp [intOf]; omega)
                  | false =>
                    have hno : ax < ay := by
                      have : ¬ px ≤ py := fun h => by have := hbb.2 h; cases this
                      omega
                    have hdd : decide (ax < ay) = true := by simp; omega
                    clear hbb hax hay
                    go_wp2
                    go_region
                    all_goals
                      go_wp2
                      go_round
                      case rel => exact ⟨j + 1, by omega, by go_num, by go_grown⟩
                      case measure => (simp [intOf]; omega)
            · go_wp2
              go_round
              case rel => exact ⟨i + 1, by omega, by go_num, hbr.trans (hbj.mono hszr)⟩
              case measure => (simp [intOf]; omega)
        · go_wp2
          go_ret
          exact ⟨rfl, hbwo.trans (hbr.mono hbwo.size)⟩

theorem lawWayOrder_bad (K : WayIs) (A : Option Addr) (cap : Nat) (nx : List (List Int)) (w : World) (hx : RdG w w.heap.size A nx) (hm : nx.length ≤ maxLen) (hc : ckWay nx ≠ 0) :
    Calls Try.prog 8 #[.slice A nx.length cap] w fun e w' => e = .returned (.bool true) ∧ Below w.heap.size w w' := by
  have HM := Lib.hid hm
  unfold maxLen at hm
  have hne : (ckWay nx != 0) = true := by simp [hc]
  have HC := Lib.hid hc
  clear hc
  go_enter Try.func8, Try.ntmps8
  go_wp2_with fail
  refine (K.orderBad A _ cap nx _ hx rfl HM.out HC.out).mono ?_
  rintro e w0 ⟨A0, c0, rfl, hb0⟩
  have hx0 := (hx.below hb0 (Nat.le_refl _)).more hb0.size
  go_wp2_with fail
  refine (K.backBad A _ cap nx _ hx0 rfl HM.out HC.out).mono ?_
  rintro e w1 ⟨A1, c1, rfl, hb1⟩
  have hb01 := hb0.trans (hb1.mono hb0.size)
  have hx1 := (hx.below hb01 (Nat.le_refl _)).more hb01.size
  go_wp2_with fail
  refine (K.reach A _ cap nx _ hx1 rfl HM.out).mono ?_
  rintro e w2 ⟨rfl, hb2⟩
  have hb02 := hb01.trans (hb2.mono hb01.size)
  have hx2 := (hx.below hb02 (Nat.le_refl _)).more hb02.size
  go_wp2_with fail
  refine (may_any A _ cap nx _ hx2 rfl HM.out).mono ?_
  rw [decide_eq_false HC.out]
  rintro e w3 ⟨rfl, rfl⟩
  go_wp2
  go_ret
  exact ⟨ret_bool (by simp), hb02⟩

theorem lawWayOrder_any (K : WayIs) (A : Option Addr) (cap : Nat) (nx : List (List Int)) (w : World) (hx : RdG w w.heap.size A nx) (hm : nx.length ≤ maxLen) :
    Calls Try.prog 8 #[.slice A nx.length cap] w fun e w' => e = .returned (.bool true) ∧ Below w.heap.size w w' := by
  by_cases hc : ckWay nx = 0
  · exact lawWayOrder_ok K A cap nx w hx hm hc
  · exact lawWayOrder_bad K A cap nx w hx hm hc

set_option maxRecDepth 100000 in
theorem lawWayOrder_lifted (os : Os) (started : os.Started) (H : Type) (enc : TypeId × Value → H) :
    ReturnsInHanded {} Try.checked os 8 .any (Rows.wayOrderSpec.pre6 enc Try.prog Try.f8 Rows.wayOrderRow.domain false) (Rows.wayOrderSpec.post enc Try.prog Try.f8 false true false false) := by
  refine returnsInHanded_of_change_sized (C := Try.checked) Try.own started (by kernel_rfl) Try.func8
    (ChangeSpec.witness6 (enc := enc) (C := Try.checked) false ⟨#[], #[.slice none 0 0], []⟩ 8 (by kernel_rfl) (by kernel_rfl) (by kernel_rfl) (by kernel_rfl)) ?_
  intro W base args ds gs before hval0 hW hcnd hsz _
  have hval : ∀ (j : Nat) t v, Try.f8.params[j]? = some t → args[j]? = some v → Value.okWide Try.prog W .any base t v := hval0
  have hW' := hW
  obtain ⟨p, q, hA0, hV, rfl, hfz, hnd⟩ := hW
  have hA : DataW.TrodAll enc Try.prog W 0 (fun _ => true) true Try.f8.params.toList args.toList ds p := hA0
  obtain ⟨hgs, _⟩ := trodVars_none hV
  rw [Try.params8] at hA hval
  obtain ⟨v0, vs0, d0, ds0, p0, q0, hargs, rfl, rfl, h0, r0⟩ := trodAll_cons hA
  obtain ⟨rfl, rfl, rfl⟩ := trodAll_nil r0
  have hargs2 : args = #[v0] := Array.toList_inj.1 hargs
  subst hargs2
  obtain ⟨A0, c0, l0, rfl, lc0, cm0, x0, r0⟩ := open_graphA (hval 0 22 v0 rfl rfl) h0
  have b0 := len_reach Try.underlying22 (hval 0 22 _ rfl rfl) h0 hsz (j := 0) (by rw [Try.params8]; rfl) rfl
  rw [show Try.prog.bytesOf (Try.prog.elem 22) = 24 from by kernel_rfl] at b0
  refine (lawWayOrder_any wayIs A0 c0 l0 _ x0 (by omega)).mono fun e W' ⟨he, hb⟩ => ?_
  subst he
  exact ⟨_, rfl, law_post Try.laidOut rfl (by kernel_rfl) Try.underlying4 ⟨rfl, rfl, rfl⟩ (by kernel_rfl) hW' hb⟩

theorem wayOrder_holds : Rows.WayOrderSaid :=
  OpenClaim.holds_of_wide 8 Try.f8 rfl rfl rfl rfl rfl rfl rfl ⟨rfl, rfl, rfl, rfl, rfl⟩ rfl rfl rfl rfl rfl (by kernel_rfl) Try.func8 (show joinedFacts Try.prog 8 Try.f8 Rows.wayOrderSpec Rows.wayOrderRow = true from (by unfold joinedFacts; (repeat' (with_reducible refine and_both ?_ ?_)) <;> first | (with_reducible exact may_enter) | ((with_reducible refine make_ok ?_); rfl) | ((with_reducible refine lifts_ok ?_); rfl) | kernel_rfl))
    (of_decide_eq_true (by kernel_rfl)) (by unfold Func.isWrapper; rw [if_neg (of_decide_eq_false (by kernel_rfl))]; exact ⟨rfl, rfl⟩)
    (fun os started H enc _ => lawWayOrder_lifted os started H enc)

end Go.Proofs.Ytikbblbehopcdaa
