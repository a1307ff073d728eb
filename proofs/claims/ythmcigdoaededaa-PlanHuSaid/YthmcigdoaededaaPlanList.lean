/-
  plan.List: turn by turn the first of the list that may be done (Q1).
-/
import Derived.Test.YthmcigdoaededaaPlanReady
import Derived.Test.YthmcigdoaededaaListsAll
import Derived.Test.YthmcigdoaededaaPureSwap
namespace Go.Proofs.Ythmcigdoaededaa
open Go.RowKit
set_option linter.unusedSimpArgs false
set_option linter.unusedVariables false
set_option maxRecDepth 100000

theorem once_natP {n : Nat} {o : List Int} (h : OnceI n o) : ∃ q : List Nat, o = ni q ∧ AllOnce n q := by
  obtain ⟨h1, h2⟩ := h
  have hsub : ∀ (k : Nat) (o : List Int), o.length = k → (∀ i : Nat, i < k → (i : Int) ∈ o) → ∀ x ∈ o, 0 ≤ x := by
    intro k
    induction k with
    | zero => intro o hl _ x hx; rw [List.eq_nil_of_length_eq_zero hl] at hx; cases hx
    | succ k ih =>
      intro o hl ho x hx
      have hk := ho k (by omega)
      have h3 := List.length_erase_of_mem hk
      by_cases hxk : x = (k : Int)
      · omega
      · exact ih (o.erase (k : Int)) (by omega) (fun i hi => (List.mem_erase_of_ne (by omega)).2 (ho i (by omega))) x ((List.mem_erase_of_ne hxk).2 hx)
  have hpos := hsub n o (by omega) fun i hi => h2 i (by omega)
  have he : o = ni (o.map Int.toNat) := by
    unfold ni
    rw [List.map_map]
    have : o.map ((fun n : Nat => (n : Int)) ∘ Int.toNat) = o.map id := List.map_congr_left fun x hx => by
      have := hpos x hx
      simp only [Function.comp, id]
      omega
    rw [this, List.map_id]
  have hall : ∀ i, i < n → i ∈ o.map Int.toNat := fun i hi => by
    have h3 := h2 i (by omega)
    exact List.mem_map.2 ⟨(i : Int), h3, by simp⟩
  obtain ⟨hnd, hlt⟩ := cover hall (by rw [List.length_map]; omega)
  exact ⟨o.map Int.toNat, he, hnd, fun i => ⟨hlt i, hall i⟩⟩

theorem AllOnce.len {n : Nat} {od : List Nat} (h : AllOnce n od) : od.length = n := by
  have h1 := sub_len h.1 (b := List.range n) fun i hi => List.mem_range.2 ((h.2 i).1 hi)
  have h2 := sub_len List.nodup_range (b := od) fun i hi => (h.2 i).2 (List.mem_range.1 hi)
  rw [List.length_range] at h1 h2
  omega

theorem AllOnce.once {n : Nat} {od : List Nat} (h : AllOnce n od) : OnceI n (ni od) := ⟨by simp [ni, h.len], fun i hi => ni_mem.2 ((h.2 i).2 (by omega))⟩

theorem AllOnce.ord {n m : Nat} {ps : List (Nat × Nat)} {od : List Nat} (h : AllOnce n od) (hk : TkOk n ps) (hm : 1 ≤ m) : Ord n m ps od := ⟨h.1, h.2, hk.ins, ⟨_, hk.lev⟩, hm⟩

theorem setW_testBit {l : List Nat} {i : Nat} : (setW l).testBit i = decide (i ∈ l) := by
  cases h : (setW l).testBit i with
  | true => rw [decide_eq_true (setW_bit.1 h)]
  | false => rw [decide_eq_false fun h2 => by rw [setW_bit.2 h2] at h; cases h]

/-- those that may be done, told by the list of what is done -/
theorem mayE_mayB (ps : List (Nat × Nat)) (done : List Nat) (i : Nat) : mayE ps (setW done) i = mayB ps done i := by
  rw [Bool.eq_iff_iff, mayE_iff, mayB_iff, setW_testBit, decide_eq_false_iff_not]
  constructor
  · exact fun ⟨h1, h2⟩ => ⟨h1, fun a ha => setW_bit.1 (h2 a ha)⟩
  · exact fun ⟨h1, h2⟩ => ⟨h1, fun a ha => setW_bit.2 (h2 a ha)⟩

theorem rd_may {n i : Nat} {ps : List (Nat × Nat)} {done : List Nat} (hi : i < n) : (rdW n ps (setW done)).testBit i = mayB ps done i := by
  rw [Bool.eq_iff_iff, rdW_bit, mayE_mayB]
  exact ⟨fun h => h.2, fun h => ⟨hi, h⟩⟩

theorem done_all {n : Nat} {ps : List (Nat × Nat)} {done : List Nat} (h : DoneI n ps done) (hl : n ≤ done.length) : ∀ i, i < n → i ∈ done := fun i hi => by
  refine Classical.byContradiction fun h2 => ?_
  have h3 := sub_len (a := i :: done) (b := List.range n) (List.nodup_cons.2 ⟨h2, h.nd⟩) fun x hx => by
    rcases List.mem_cons.1 hx with e | hx
    · subst e; exact List.mem_range.2 hi
    · exact List.mem_range.2 (h.lt x hx)
  rw [List.length_range, List.length_cons] at h3
  omega

theorem all_bit {n i : Nat} : (2 ^ n - 1).testBit i = decide (i < n) := by
  rw [Nat.testBit_two_pow_sub_one]

theorem done_word {n : Nat} {ps : List (Nat × Nat)} {done : List Nat} (h : DoneI n ps done) (hl : n ≤ done.length) : setW done = 2 ^ n - 1 := word_ext fun i => by
  rw [setW_bit, all_bit, decide_eq_true_eq]
  exact ⟨h.lt i, done_all h hl i⟩

theorem done_word_ne {n : Nat} {ps : List (Nat × Nat)} {done : List Nat} (h : DoneI n ps done) (hl : done.length < n) : setW done ≠ 2 ^ n - 1 := fun he => by
  have h3 := sub_len (a := List.range n) (b := done) List.nodup_range fun i hi => by
    have : (setW done).testBit i = true := by rw [he, all_bit]; simpa using hi
    exact setW_bit.1 this
  rw [List.length_range] at h3
  omega

/-- where the turns stand: the whole way is T, what is left of it T2 -/
structure TwI (n m : Nat) (ps : List (Nat × Nat)) (od : List Nat) (T : List (List Nat)) (s : Nat) (done : List Nat) (T2 : List (List Nat)) (F : Nat → Nat) : Prop where
  trn : Trn m ps od done T2
  don : DoneI n ps done
  len : s + T2.length = T.length
  old : ∀ i, i ∈ done → F i = turnOf T i
  new : ∀ i, i < n → i ∉ done → turnOf T i = s + turnOf T2 i
  many : s ≤ done.length

theorem TwI.start {n m : Nat} {ps : List (Nat × Nat)} {od : List Nat} {T : List (List Nat)} (h : Trn m ps od [] T) : TwI n m ps od T 0 [] T (fun _ => 0) :=
  ⟨h, DoneI.nil n ps, by omega, fun i hi => by simp at hi, fun i _ _ => by omega, Nat.le_refl _⟩

theorem DoneI.small {n : Nat} {ps : List (Nat × Nat)} {done : List Nat} (h : DoneI n ps done) : done.length ≤ n := by
  have := sub_len h.nd (b := List.range n) fun i hi => List.mem_range.2 (h.lt i hi)
  rwa [List.length_range] at this

theorem TwI.more {n m s : Nat} {ps : List (Nat × Nat)} {od done : List Nat} {T T2 : List (List Nat)} {F G : Nat → Nat} (ho : Ord n m ps od) (h : TwI n m ps od T s done T2 F) (hl : done.length < n) (hG : ∀ i, G i = if i ∈ nowL m ps od done then s else F i) :
    ∃ T3, TwI n m ps od T (s + 1) (done ++ nowL m ps od done) T3 G ∧ s + 1 ≤ T.length := by
  obtain ⟨h1, h2, h3, h4, h5, h6⟩ := h
  cases h1 with
  | stop h7 => rw [ho.len] at h7; omega
  | @go _ T3 h7 h8 =>
    have hnot : ∀ i, i ∈ nowL m ps od done → i ∉ done ∧ i < n := fun i hi => ⟨(mayB_iff.1 (mem_nowL hi).2).1, (ho.mem i).1 (mem_nowL hi).1⟩
    rw [List.length_cons] at h3
    refine ⟨T3, ⟨h8, h2.next ho, by omega, fun i hi => ?_, fun i hi hn => ?_, ?_⟩, by omega⟩
    · rw [hG]
      by_cases hin : i ∈ nowL m ps od done
      · obtain ⟨h9, h10⟩ := hnot i hin
        rw [if_pos hin, h5 i h10 h9, turnOf, if_pos hin]
        omega
      · rw [if_neg hin]
        exact h4 i ((List.mem_append.1 hi).resolve_right hin)
    · rw [List.mem_append, not_or] at hn
      rw [h5 i hi hn.1, turnOf, if_neg hn.2]
      omega
    · obtain ⟨i, hi⟩ := nowL_some ho h2 hl
      have := List.length_pos_of_mem hi
      rw [List.length_append]
      omega

theorem TwI.done {n m s : Nat} {ps : List (Nat × Nat)} {od done : List Nat} {T T2 : List (List Nat)} {F : Nat → Nat} (h : TwI n m ps od T s done T2 F) (hl : n ≤ done.length) : tabN n F = tabN n (turnOf T) :=
  List.map_congr_left fun i hi => h.old i (done_all h.don hl i (List.mem_range.1 hi))

theorem rep_zeroI (n : Nat) : List.replicate n (0 : Int) = ni (tabN n fun _ => 0) := by
  apply List.ext_getElem?
  intro i
  unfold ni tabN
  rw [List.getElem?_replicate, List.getElem?_map, List.getElem?_map]
  by_cases h : i < n
  · rw [if_pos h, List.getElem?_range h]; rfl
  · rw [if_neg h, List.getElem?_eq_none (by simp; omega)]; rfl

/-- those of one turn set -/
def nwF (F : Nat → Nat) (s : Nat) (N : List Nat) (i : Nat) : Nat := if i ∈ N then s else F i

theorem nwF_set {n v s : Nat} (F : Nat → Nat) (N : List Nat) : (ni (tabN n (nwF F s N))).set v ((s : Nat) : Int) = ni (tabN n (nwF F s (N ++ [v]))) :=
  ni_tab_set (by unfold nwF; rw [if_pos (by simp)]) fun k _ hk => by
    unfold nwF
    by_cases h : k ∈ N
    · rw [if_pos h, if_pos (by simp [h])]
    · rw [if_neg h, if_neg (by simp [h, hk])]

set_option maxHeartbeats 8000000 in
theorem list_ok (n : Nat) (A : Option Addr) (len cap : Nat) (ps : List (Nat × Nat)) (m : Nat) (A2 : Option Addr) (cap2 : Nat) (od : List Nat) (T : List (List Nat)) (w : World) (hx : RdM w w.heap.size A (mvI ps)) (hl : ps.length = len) (hk : TkOk n ps) (hm1 : 1 ≤ m) (hm8 : m ≤ 8) (hxo : RdI w w.heap.size A2 (ni od)) (ho : AllOnce n od) (hT : Trn m ps od [] T) :
    Calls Try.prog 14 #[.int .i64 n, .slice A len cap, .int .i64 m, .slice A2 n cap2] w fun e w' => (∃ A' c', e = .returned (.tuple #[.slice A' n c', .int .i64 0]) ∧ RdI w' w'.heap.size A' (ni (tabN n (turnOf T)))) ∧ Below w.heap.size w w' := by
  have HPR := Lib.hid (predecessors_ok n A len cap ps m w hx hl hk hm1 hm8)
  have h8 := hk.small
  have HIN := Lib.hid hk.ins
  have HORD := Lib.hid (ho.ord hk hm1)
  have HLEN := Lib.hid ho.len
  have HON : Hid (onceB n (ni od) = true) := Lib.hid (onceB_iff.2 ho.once)
  have HEV := Lib.hid (fun w => everythingP_any n w h8)
  have HMEM := Lib.hid ho.2
  have HTW0 := Lib.hid (TwI.start (n := n) hT)
  have hmk := make_ints (P := Try.prog) 23 3 Try.underlying23 (by kernel_rfl) n (by omega)
  rw [rep_zeroI] at hmk
  have hp8 : 2 ^ n ≤ 256 := Nat.pow_le_pow_right (n := 2) (by omega) h8
  clear hl hk hx ho hT
  go_enter Try.func14, Try.ntmps14
  go_wp2_with fail
  refine HPR.out.mono ?_
  rintro e w1 ⟨⟨A1, c1, rfl, hrd⟩, hb1⟩
  have hs1 := hb1.size
  have hxo1 := (hxo.below hb1 (Nat.le_refl _)).more hs1
  have HLA := Lib.hid (listsAll_any n A2 n cap2 (ni od) w1.heap.size w1 hxo1 (by simp [ni, HLEN.out]) (by unfold maxLen; omega) h8)
  rw [HON.out] at HLA
  clear hxo
  go_wp2_with (go_at_call 28; (with_reducible refine HLA.out.mono ?_); rintro e w2 ⟨rfl, rfl⟩)
  have hown1 := Own.new w1 3 (iv (ni (tabN n fun _ => 0)))
  go_loopw [13, 14] (fun x st wr => ∃ (s E : Nat) (done : List Nat) (T2 : List (List Nat)) (F : Nat → Nat), x = .int .u32 (E : Nat) ∧ st = .int .i64 s ∧ s ≤ n ∧ E < 256 ∧ Hid (setW done = E) ∧ Hid (TwI n m ps od T s done T2 F) ∧ Own wr w1.heap.size 3 (iv (ni (tabN n F))) ∧ Below w1.heap.size w1 wr) (fun _ st _ => T.length - (intOf st).toNat)
  case atStart => exact ⟨0, 0, [], T, _, rfl, rfl, Nat.zero_le _, by omega, Lib.hid rfl, HTW0, hown1, by go_grown⟩
  case round =>
    obtain ⟨s, E, done, T2, F, rfl, rfl, hs, hE, HE, HTW, hown, hb2⟩ := hrel
    have hs2 := hb2.size
    have hgl := hown.lt
    by_cases hdl : done.length < n
    · have hne : E ≠ 2 ^ n - 1 := by rw [← HE.out]; exact done_word_ne HTW.out.don hdl
      have HRY := Lib.hid (ready_any n A1 c1 ps E w1.heap.size wr (hrd.below hb2 (Nat.le_refl _)) h8 HIN.out hE)
      have HRB : Hid (∀ i, i < n → (rdW n ps E).testBit i = mayB ps done i) := Lib.hid fun i hi => by rw [← HE.out]; exact rd_may hi
      have hr8 : rdW n ps E < 256 := lt_256P h8 (rdW_lt n ps E)
      obtain ⟨R, hR⟩ : ∃ R, rdW n ps E = R := ⟨_, rfl⟩
      rw [hR] at HRY HRB hr8
      have HDL := Lib.hid hdl
      have hneI : ((E : Int) != ((2 ^ n - 1 : Nat) : Int)) = true := by simp only [bne_iff_ne, ne_eq]; omega
      clear hR hdl hne
      go_wp2_with (first
        | (go_at_call 29; (with_reducible refine (HEV.out _).mono ?_); rintro e w3 ⟨rfl, rfl⟩)
        | (go_at_call 30; (with_reducible refine HRY.out.mono ?_); rintro e w3 ⟨rfl, rfl⟩))
      obtain ⟨wm, rfl⟩ : ∃ wm : World, wm = wr := ⟨_, rfl⟩
      go_loopw [13, 16, 47] (fun x id z wr => ∃ (k c X : Nat), k ≤ n ∧ c ≤ m ∧ z = .int .i64 k ∧ id = .int .i64 c ∧ x = .int .u32 (X : Nat) ∧ X < 256 ∧ Hid (setW (done ++ nowL m ps (od.take k) done) = X) ∧ Hid (c + (nowL m ps (od.take k) done).length = m) ∧ Own wr w1.heap.size 3 (iv (ni (tabN n (nwF F s (nowL m ps (od.take k) done))))) ∧ Below w1.heap.size w1 wr) (fun _ _ z _ => n - (intOf z).toNat)
      case atStart =>
        have e0 : nowL m ps (od.take 0) done = [] := by simp [nowL]
        refine ⟨0, m, E, Nat.zero_le _, Nat.le_refl _, rfl, rfl, rfl, hE, ?_, ?_, ?_, hb2⟩
        · rw [e0, List.append_nil]; exact HE
        · rw [e0]; exact Lib.hid rfl
        · rw [e0]
          have : nwF F s [] = F := by funext i; simp [nwF]
          rw [this]
          exact hown
      case round =>
        obtain ⟨k, c, X, hk, hc, rfl, rfl, rfl, hX, HX, HC, hown, hb3⟩ := hrel
        have hs3 := hb3.size
        have hgl := hown.lt
        by_cases hkn : k < n
        · obtain ⟨ad, v', rfl, hbl, hd, hcell⟩ := (hxo1.below hb3 (Nat.le_refl _)).at_ (k := k) (by simp [ni, HLEN.out]; exact hkn)
          obtain ⟨v, hv⟩ : ∃ v, od[k]? = some v := ⟨_, List.getElem?_eq_getElem (by rw [HLEN.out]; exact hkn)⟩
          rw [ni_at hv] at hd
          injection hd with hd
          subst hd
          have hvn : v < n := (HMEM.out v).1 (List.mem_of_getElem? hv)
          have HST := Lib.hid (nowL_step (m := m) (ps := ps) (done := done) hv)
          have HHS := Lib.hid (hasP_any R v wr hr8 (by omega))
          have hv8 : v < 8 := by omega
          have hfz := hown.frozen v
          have hcz := hown.cell (iv_at (ni_tab_at (nwF F s (nowL m ps (od.take k) done)) hvn))
          obtain ⟨z0, hz0⟩ : ∃ z0, nwF F s (nowL m ps (od.take k) done) v = z0 := ⟨_, rfl⟩
          rw [hz0] at hcz
          clear hz0
          rw [HRB.out v hvn] at HHS
          clear hv
          by_cases hc0 : 0 < c
          · cases hb : mayB ps done v with
            | false =>
              rw [hb] at HHS
              have HN : Hid (nowL m ps (od.take (k + 1)) done = nowL m ps (od.take k) done) := Lib.hid (by rw [HST.out, if_neg]; intro h; rw [hb] at h; exact absurd h.1 (by simp))
              rw [← HN.out] at HX HC hown
              clear hb
              go_wp2_with (go_at_call 31; (with_reducible refine HHS.out.mono ?_); rintro e w4 ⟨rfl, rfl⟩)
              go_round
              case rel => exact ⟨k + 1, c, X, by omega, by omega, by go_num, rfl, rfl, hX, HX, HC, hown, hb3⟩
              case measure => (simp [intOf]; omega)
            | true =>
              rw [hb] at HHS
              have HN : Hid (nowL m ps (od.take (k + 1)) done = nowL m ps (od.take k) done ++ [v]) := Lib.hid (by
                rw [HST.out, if_pos]
                have := HC.out
                exact ⟨hb, by omega⟩)
              have HX2 : Hid (setW (done ++ nowL m ps (od.take (k + 1)) done) = X ||| 2 ^ v) := Lib.hid (by rw [HN.out, ← List.append_assoc, setW_snoc, HX.out])
              have HC2 : Hid (c - 1 + (nowL m ps (od.take (k + 1)) done).length = m) := Lib.hid (by
                have := HC.out
                rw [HN.out, List.length_append, List.length_singleton]
                omega)
              have HOW : Hid (Own (wr.setCell ⟨w1.heap.size, v, none⟩ (.int .i64 (s : Nat))) w1.heap.size 3 (iv (ni (tabN n (nwF F s (nowL m ps (od.take (k + 1)) done)))))) := Lib.hid (by rw [HN.out, ← nwF_set]; exact OwnI.set hown v _)
              have HOR := Lib.hid (orP_u hX (j := v) hv8)
              have hX2 : X ||| 2 ^ v < 256 := Nat.or_lt_two_pow (n := 8) hX (Nat.lt_of_lt_of_le (Nat.pow_lt_pow_right (a := 2) (by omega) hv8) (by omega))
              clear hb hown
              go_wp2_with (go_at_call 31; (with_reducible refine HHS.out.mono ?_); rintro e w4 ⟨rfl, rfl⟩)
              go_round
              case rel => exact ⟨k + 1, c - 1, X ||| 2 ^ v, by omega, by omega, by go_num, by go_num, by rw [HOR.out], hX2, HX2, HC2, HOW.out, hb3.trans (by go_grown)⟩
              case measure => (simp [intOf]; omega)
          · have HN : Hid (nowL m ps (od.take (k + 1)) done = nowL m ps (od.take k) done) := Lib.hid (by
              rw [HST.out, if_neg]
              intro h
              have := HC.out
              omega)
            rw [← HN.out] at HX HC hown
            go_wp2
            go_round
            case rel => exact ⟨k + 1, c, X, by omega, by omega, by go_num, rfl, rfl, hX, HX, HC, hown, hb3⟩
            case measure => (simp [intOf]; omega)
        · have hkn2 : k = n := by omega
          subst hkn2
          rw [List.take_of_length_le (by rw [HLEN.out]; exact Nat.le_refl _)] at HX hown
          obtain ⟨T3, htw, hsl⟩ := HTW.out.more HORD.out HDL.out (G := nwF F s (nowL m ps od done)) fun i => rfl
          have hsn : s + 1 ≤ k := by
            have h1 := htw.many
            have h2 := htw.don.small
            omega
          have HTW2 := Lib.hid htw
          clear htw
          go_wp2
          go_round
          case rel => exact ⟨s + 1, X, _, T3, _, rfl, by go_num, hsn, hX, HX, HTW2, hown, hb3⟩
          case measure => (simp [intOf]; omega)
    · have hEq : E = 2 ^ n - 1 := by rw [← HE.out]; exact done_word HTW.out.don (by omega)
      have HD := Lib.hid (HTW.out.done (by omega))
      rw [HD.out] at hown
      have heqI : ((E : Int) != ((2 ^ n - 1 : Nat) : Int)) = false := by rw [hEq]; simp
      have HRD := Lib.hid (OwnI.rd hown)
      clear hown hEq hdl
      go_wp2_with (go_at_call 29; (with_reducible refine (HEV.out _).mono ?_); rintro e w3 ⟨rfl, rfl⟩)
      go_ret2
      exact ⟨⟨_, _, rfl, HRD.out.more (by omega)⟩, hb1.trans (hb2.mono hs1)⟩

set_option maxHeartbeats 1000000 in
theorem list_bad (n : Int) (A : Option Addr) (len cap : Nat) (l : List (Int × Int)) (m : Int) (A2 : Option Addr) (len2 cap2 : Nat) (od : List Int) (z : Int) (w : World) (hx : RdM w w.heap.size A l) (hl : l.length = len) (hm : len ≤ maxLen) (hz : TkCode n l z) (h0 : z ≠ 0) :
    Calls Try.prog 14 #[.int .i64 n, .slice A len cap, .int .i64 m, .slice A2 len2 cap2] w fun e w' => e = .returned (.tuple #[.slice none 0 0, .int .i64 z]) ∧ Below w.heap.size w w' := by
  have HPR := Lib.hid (predecessors_bad n A len cap l m z w hx hl hm hz h0)
  have hne : (z != 0) = true := by simpa using h0
  clear hx hl hm hz h0
  go_enter Try.func14, Try.ntmps14
  go_wp2_with fail
  refine HPR.out.mono ?_
  rintro e w1 ⟨rfl, hb1⟩
  go_wp2
  go_ret2
  exact ⟨rfl, hb1⟩

set_option maxHeartbeats 1000000 in
theorem list_range (n : Nat) (A : Option Addr) (len cap : Nat) (ps : List (Nat × Nat)) (m : Int) (A2 : Option Addr) (len2 cap2 : Nat) (w : World) (hx : RdM w w.heap.size A (mvI ps)) (hl : ps.length = len) (hk : TkOk n ps) (hm : m < 1 ∨ 8 < m) :
    Calls Try.prog 14 #[.int .i64 n, .slice A len cap, .int .i64 m, .slice A2 len2 cap2] w fun e w' => e = .returned (.tuple #[.slice none 0 0, .int .i64 4]) ∧ Below w.heap.size w w' := by
  have HPR := Lib.hid (predecessors_range n A len cap ps m w hx hl hk hm)
  clear hx hl hk hm
  go_enter Try.func14, Try.ntmps14
  go_wp2_with fail
  refine HPR.out.mono ?_
  rintro e w1 ⟨rfl, hb1⟩
  go_wp2
  go_ret2
  exact ⟨rfl, hb1⟩

set_option maxHeartbeats 1000000 in
theorem list_form (n : Nat) (A : Option Addr) (len cap : Nat) (ps : List (Nat × Nat)) (m : Nat) (A2 : Option Addr) (len2 cap2 : Nat) (od : List Int) (w : World) (hx : RdM w w.heap.size A (mvI ps)) (hl : ps.length = len) (hk : TkOk n ps) (hm1 : 1 ≤ m) (hm8 : m ≤ 8) (hxo : RdI w w.heap.size A2 od) (hlo : od.length = len2) (hmo : len2 ≤ maxLen) (hno : ¬ ∃ q, od = ni q ∧ AllOnce n q) :
    Calls Try.prog 14 #[.int .i64 n, .slice A len cap, .int .i64 m, .slice A2 len2 cap2] w fun e w' => e = .returned (.tuple #[.slice none 0 0, .int .i64 3]) ∧ Below w.heap.size w w' := by
  have HPR := Lib.hid (predecessors_ok n A len cap ps m w hx hl hk hm1 hm8)
  have h8 := hk.small
  have HON : Hid (onceB n od = false) := Lib.hid (onceB_no fun h => hno (once_natP h))
  have HLO := Lib.hid hlo
  clear hx hl hk hno hlo
  go_enter Try.func14, Try.ntmps14
  go_wp2_with fail
  refine HPR.out.mono ?_
  rintro e w1 ⟨⟨A1, c1, rfl, hrd⟩, hb1⟩
  have HLA := Lib.hid (listsAll_any n A2 len2 cap2 od w1.heap.size w1 ((hxo.below hb1 (Nat.le_refl _)).more hb1.size) HLO.out hmo h8)
  rw [HON.out] at HLA
  clear hxo hrd
  go_wp2_with (go_at_call 28; (with_reducible refine HLA.out.mono ?_); rintro e w2 ⟨rfl, rfl⟩)
  go_ret2
  exact ⟨rfl, hb1⟩

theorem listIs : ListIs := ⟨fun n A len cap ps m A2 cap2 od T w hx hl hk h1 h8 hxo ho hT => list_ok n A len cap ps m A2 cap2 od T w hx hl hk h1 h8 hxo ho hT,
  fun n A len cap l m A2 len2 cap2 od z w hx hl hm _ _ _ hz h0 => list_bad n A len cap l m A2 len2 cap2 od z w hx hl hm hz h0,
  fun n A len cap ps m A2 len2 cap2 od w hx hl hk _ _ _ hm => list_range n A len cap ps m A2 len2 cap2 w hx hl hk hm,
  fun n A len cap ps m A2 len2 cap2 od w hx hl hk h1 h8 hxo hlo hmo hno => list_form n A len cap ps m A2 len2 cap2 od w hx hl hk h1 h8 hxo hlo hmo hno⟩

end Go.Proofs.Ythmcigdoaededaa
