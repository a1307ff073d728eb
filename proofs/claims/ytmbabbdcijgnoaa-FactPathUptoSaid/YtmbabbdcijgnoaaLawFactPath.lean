/-
  KILDALL; KAM, ULLMAN: the facts along a path lie between the solution for all paths and that for some path: codemasonkeep.FactPath returns true and leaves its arguments alone. Condition: the input is of bulk at most 1048576 (a path as long as the picks, in ints, would else pass what a slice may take).
-/
import Derived.Test.YtmbabbdcijgnoaaLawFact
import Derived.Test.YtmbabbdcijgnoaaFact
import Derived.Test.YtmbabbdcijgnoaaFactMono
import Derived.Test.YtmbabbdcijgnoaaTurned
import Derived.Test.YtmbabbdcijgnoaaUpto
import Derived.BigRegion
namespace Go.Proofs.Ytmbabbdcijgnoaa
open Go.RowKit Go.ChangeShapes Go.WideShapes Go.ChangeAt Go.Deep
set_option linter.unusedSimpArgs false
set_option linter.unusedVariables false
set_option maxRecDepth 100000

theorem pthB_append {nx : List (List Int)} {bw : Bool} {b : Int} : ∀ {q : List Int} {a : Int}, q.getLast? = some a → pthB nx bw (q ++ [b]) = (pthB nx bw q && stB nx bw a b)
  | [], a, h => by simp at h
  | [x], a, h => by
    simp at h
    subst h
    simp [pthB]
  | x :: y :: r, a, h => by
    have ih := pthB_append (nx := nx) (bw := bw) (b := b) (q := y :: r) (a := a) (by simpa using h)
    show (stB nx bw x y && pthB nx bw ((y :: r) ++ [b])) = ((stB nx bw x y && pthB nx bw (y :: r)) && stB nx bw a b)
    rw [ih, Bool.and_assoc]

theorem alW_append {lw : Lw} {b : Int} : ∀ {q : List Int} {a : Int} (s : Nat), q.getLast? = some a → alW lw (q ++ [b]) s = behW lw a (alW lw q s)
  | [], a, s, h => by simp at h
  | [x], a, s, h => by
    simp at h
    subst h
    rfl
  | x :: y :: r, a, s, h => by
    have ih := alW_append (lw := lw) (b := b) (q := y :: r) (a := a) (behW lw x s) (by simpa using h)
    exact ih

/-- a path of the problem: where it ends, what is so there -/
structure FPth (nx : List (List Int)) (lw : Lw) (q : List Nat) (p : Nat) : Prop where
  lt : p < nx.length
  row : rowOk nx.length (ni q) = true
  pth : pthB nx lw.bw (ni q) = true
  lst : (ni q).getLast? = some (p : Int)
  w8 : alW lw (ni q) lw.st < 256
  val : ∀ f, StP nx lw f p ((alW lw (ni q) lw.st).testBit f)

section
variable {nx : List (List Int)} {lw : Lw} {q : List Nat} {p b : Nat}

theorem FPth.start (hc : ckWay nx = 0) (hs : lw.st < 256) (hp : p ∈ sts nx lw) : FPth nx lw [p] p := by
  have hl := sts_lt hc hp
  exact ⟨hl, by unfold rowOk; simp [ni]; omega, rfl, rfl, hs, fun f => .here hp⟩

theorem FPth.step (hc : ckWay nx = 0) (hM : ∀ x ∈ lw.ma, x < 256) (hE : ∀ x ∈ lw.en, x < 256) (h : FPth nx lw q p) (hb : b ∈ sc (dirG nx lw) p) : FPth nx lw (q ++ [b]) b := by
  have hbl := dirG_lt hc hb
  have hv : alW lw (ni (q ++ [b])) lw.st = behW lw (p : Int) (alW lw (ni q) lw.st) := by rw [ni_append]; exact alW_append _ h.lst
  refine ⟨hbl, ?_, ?_, by rw [ni_append]; simp [ni], ?_, fun f => ?_⟩
  · have := h.row
    unfold rowOk at this ⊢
    rw [ni_append, List.all_append, this]
    simp [ni]
    omega
  · rw [ni_append]
    show pthB nx lw.bw (ni q ++ [(b : Int)]) = true
    rw [pthB_append h.lst, h.pth, (Fol.stB hc h.lt hbl).2 ((Fol.dir hc).2 hb)]
    rfl
  · rw [hv]
    exact behW_lt hE hM h.w8 _
  · rw [hv, behW_tr hE hM h.w8]
    exact (h.val f).step hb

theorem FPth.ok (hk : ckLaw nx lw = 0) (h : FPth nx lw q p) : ckAlong nx lw (ni q) = 0 := ckAlong_good hk (fun e => by have := h.lst; rw [e] at this; simp at this) h.row h.pth

theorem FPth.all {W : Nat} (ha : lw.al = true) (h : FPth nx lw q p) (hW : PrW (SlP nx lw p) 8 W) : ∀ j, W.testBit j = true → (alW lw (ni q) lw.st).testBit j = true := fun j hj => by
  have h1 := ((hW.2 j).1 hj).2
  unfold SlP at h1
  rw [if_pos ha] at h1
  cases e : (alW lw (ni q) lw.st).testBit j with
  | true => rfl
  | false =>
    have := h.val j
    rw [e] at this
    exact absurd this h1

theorem FPth.some {W : Nat} (ha : lw.al = false) (h : FPth nx lw q p) (hW : PrW (SlP nx lw p) 8 W) : ∀ j, (alW lw (ni q) lw.st).testBit j = true → W.testBit j = true := fun j hj => by
  refine (hW.2 j).2 ⟨bit_8 h.w8 hj, ?_⟩
  unfold SlP
  rw [if_neg (by simp [ha])]
  have := h.val j
  rw [hj] at this
  exact this

end

theorem own_one {w : World} {base : Nat} (hb : base ≤ w.heap.size) (x : Int) : (w.alloc (.cells #[.int .i64 x] 3)).ownsRow base 3 1 (.slice (some ⟨w.heap.size, 0, none⟩) 1 1) 1 [.int .i64 x] :=
  ⟨rfl, .inr ⟨w.heap.size, 1, #[.int .i64 x], rfl, hb, heap_alloc_new w _, Nat.le_refl _, by unfold maxLen; omega, rfl, rfl⟩⟩

theorem own_cap {w : World} {base : Nat} {e : TypeId} {size : Nat} {A : Option Addr} {n c : Nat} {xs : List Value} (h : w.ownsRow base e size (.slice A n c) n xs) : n ≤ c := by
  rcases h.2 with ⟨_, rfl⟩ | ⟨g, cap, cur, hv, _, _, h1, _⟩
  · exact Nat.zero_le _
  · injection hv with _ _ hc
    omega

set_option maxHeartbeats 8000000 in
theorem lawFactPath_any (K : FactIs) (K2 : AlongIs) (A : Option Addr) (cap : Nat) (nx : List (List Int)) (A1 : Option Addr) (c1 : Nat) (A2 : Option Addr) (c2 : Nat) (lw : Lw) (fi : Int) (PA : Option Addr) (pcap : Nat) (pk : List Int) (w : World) (hx : RdG w w.heap.size A nx) (hm : nx.length ≤ maxLen) (hr : RdL w w.heap.size A1 A2 lw) (hu : U32L lw) (hfi : inB8 fi) (hp : RdB w w.heap.size PA pk) (hpm : pk.length ≤ 1048576) (hp8 : ∀ x ∈ pk, inB8 x) :
    Calls Try.prog 5 #[.slice A nx.length cap, .agg #[.bool lw.bw, .bool lw.al, .slice A1 lw.ma.length c1, .slice A2 lw.en.length c2, .int .u32 (lw.st : Nat)], .int .u8 fi, .slice PA pk.length pcap] w fun e w' => e = .returned (.bool true) ∧ Below w.heap.size w w' := by
  have HMX := Lib.hid hm
  by_cases hc : ckLaw nx lw = 0
  · obtain ⟨hcw, hm1, hm2, hM, hE, hst8⟩ := ckLaw_ok hc
    obtain ⟨b1, b2, b3⟩ := ckWay_bd hcw
    have HC := Lib.hid hc
    have HCW := Lib.hid hcw
    obtain ⟨len, hlen⟩ : ∃ len, nx.length = len := ⟨_, rfl⟩
    have hml : lw.ma.length = len := hm1.trans hlen
    have hel : lw.en.length = len := hm2.trans hlen
    have HLEN := Lib.hid hlen
    have HS1 := Lib.hid (fun (w2 : World) h1 h2 => K.solve A len cap nx A1 c1 A2 c2 lw w2 h1 hlen h2 hu hc)
    have HLF := Lib.hid (fun (w2 : World) h1 h2 => lawful_any A len cap nx A1 c1 A2 c2 lw w2 h1 hlen h2 hu)
    have HTU := Lib.hid (fun (w2 : World) h1 => refTurned_any A len cap nx w2 h1 hlen hcw)
    have HAL := Lib.hid (fun (Ap : Option Addr) (np cp : Nat) (ps : List Int) (w2 : World) (h1 : RdG w2 w2.heap.size A nx) (h2 : RdL w2 w2.heap.size A1 A2 lw) (h3 : RdI w2 w2.heap.size Ap ps) (h4 : ps.length = np) (h5 : np ≤ maxLen) (h6 : np ≤ cp) (h7 : ckAlong nx lw ps = 0) => K2.along A len cap nx A1 c1 A2 c2 lw Ap np cp ps w2 h1 hlen (by unfold maxLen; omega) h2 hu h3 h4 h5 h6 h7)
    rw [hml, hel] at HS1 HLF HAL
    have HSTART : Hid (∀ p, p ∈ sts nx lw → FPth nx lw [p] p) := Lib.hid fun p hp => FPth.start hcw hst8 hp
    have HSTEP : Hid (∀ q p b, FPth nx lw q p → b ∈ sc (dirG nx lw) p → FPth nx lw (q ++ [b]) b) := Lib.hid fun q p b h hb => h.step hcw hM hE hb
    have HOK : Hid (∀ q p, FPth nx lw q p → ckAlong nx lw (ni q) = 0) := Lib.hid fun q p h => h.ok hc
    have HALL : Hid (lw.al = true → ∀ q p W, FPth nx lw q p → PrW (SlP nx lw p) 8 W → ∀ j, W.testBit j = true → (alW lw (ni q) lw.st).testBit j = true) := Lib.hid fun ha q p W h hW => h.all ha hW
    have HSOME : Hid (lw.al = false → ∀ q p W, FPth nx lw q p → PrW (SlP nx lw p) 8 W → ∀ j, (alW lw (ni q) lw.st).testBit j = true → W.testBit j = true) := Lib.hid fun ha q p W h hW => h.some ha hW
    have HW8 : Hid (∀ q p, FPth nx lw q p → alW lw (ni q) lw.st < 256) := Lib.hid fun q p h => h.w8
    have HFWD : Hid (lw.bw = false → 0 ∈ sts nx lw ∧ dirG nx lw = nx) := Lib.hid fun hb => ⟨by unfold sts; simp [hb], by unfold dirG; simp [hb]⟩
    have HBWD : Hid (lw.bw = true → (∀ i, i < len → sc nx i = [] → i ∈ sts nx lw) ∧ dirG nx lw = trG nx) := Lib.hid fun hb => ⟨fun i hi hs => by unfold sts; rw [if_pos hb, List.mem_filter, List.mem_range, decide_eq_true_eq]; exact ⟨by omega, hs⟩, by unfold dirG; rw [if_pos hb]⟩
    have HDL : Hid ((dirG nx lw).length = len) := Lib.hid (dirG_len.trans hlen)
    have HDR : Hid (∀ i row, (dirG nx lw)[i]? = some row → row = ni (sc (dirG nx lw) i)) := Lib.hid fun i row h => dirG_row hcw h
    have HDT : Hid (∀ i j, j ∈ sc (dirG nx lw) i → j < len) := Lib.hid fun i j h => by rw [← hlen]; exact dirG_lt hcw h
    have HP8 := Lib.hid hp8
    obtain ⟨pn, hpn⟩ : ∃ pn, pk.length = pn := ⟨_, rfl⟩
    have HPN := Lib.hid hpn
    obtain ⟨st, hst⟩ : ∃ n, lw.st = n := ⟨_, rfl⟩
    obtain ⟨bw, hbw⟩ : ∃ b, lw.bw = b := ⟨_, rfl⟩
    obtain ⟨al, hal⟩ : ∃ b, lw.al = b := ⟨_, rfl⟩
    obtain ⟨D, hD⟩ : ∃ D, dirG nx lw = D := ⟨_, rfl⟩
    rw [hst, hbw, hal] at HS1 HLF HAL
    rw [hst] at HALL HSOME HW8
    rw [hal] at HALL HSOME
    rw [hbw] at HFWD HBWD
    rw [hD] at HSTEP HFWD HBWD HDL HDR HDT
    rw [hml, hel, hst, hbw, hal, hlen, hpn]
    rw [hpn] at hpm
    rw [hlen] at b1 b2
    obtain ⟨hf0, hf255⟩ := hfi
    obtain ⟨f, rfl⟩ := Int.eq_ofNat_of_zero_le hf0
    have hb0 : Below w.heap.size w (w.alloc (.cells #[.bool bw, .bool al, .slice A1 len c1, .slice A2 len c2, .int .u32 (st : Nat)] 26)) := by go_grown
    have hown : Own (w.alloc (.cells #[.bool bw, .bool al, .slice A1 len c1, .slice A2 len c2, .int .u32 (st : Nat)] 26)) w.heap.size 26 [.bool bw, .bool al, .slice A1 len c1, .slice A2 len c2, .int .u32 (st : Nat)] := Own.new w _ _
    have hx0 := (hx.below hb0 (Nat.le_refl _)).more hb0.size
    have hr0 := (hr.below hb0 (Nat.le_refl _)).more hb0.size
    have HX := Lib.hid hx
    have HR := Lib.hid hr
    have HP := Lib.hid hp
    clear hc hcw hm1 hm2 hM hE hst8 b3 hlen hml hel hp8 hpn hst hbw hal hD hx hr hp hm hu
    go_enter Try.func5, Try.ntmps5
    go_wp2_with fail
    refine (HS1.out _ hx0 hr0).mono ?_
    rintro e w1 ⟨so, A3, c3, hsv, rfl, hr3, hfr, hb1⟩
    have hx1 := (hx0.below hb1 (Nat.le_refl _)).more hb1.size
    have hr1 := (hr0.below hb1 (Nat.le_refl _)).more hb1.size
    have hown1 := hown.below hb1 hown.lt
    have d0 := hown1.cell (j := 0) rfl
    have d1 := hown1.cell (j := 1) rfl
    have d2 := hown1.cell (j := 2) rfl
    have d3 := hown1.cell (j := 3) rfl
    have d4 := hown1.cell (j := 4) rfl
    have hl1 := hown1.lt
    have HSV := Lib.hid hsv
    have HSL := Lib.hid (hsv.len.trans HLEN.out)
    clear hsv hfr hx0 hr0
    go_wp2_with fail
    refine (HLF.out _ hx1 hr1).mono ?_
    rintro e w2 ⟨rfl, hb2⟩
    rw [decide_eq_true HC.out]
    have hbw2 : Below w.heap.size w w2 := (hb0.trans (hb1.mono hb0.size)).trans (hb2.mono (by have := hb0.size; have := hb1.size; omega))
    have hr3' := (hr3.below hb2 (Nat.le_refl _)).more hb2.size
    have hown2 := hown1.below hb2 hl1
    have hx2 := (hx1.below hb2 (Nat.le_refl _)).more hb2.size
    have e0 := hown2.cell (j := 0) rfl
    clear d0 d1 d2 d3 d4 hx1 hr1 hr3 hown1 hown
    rcases hbc : bw with _ | _
    focus
      subst hbc
      obtain ⟨h0s, hDn⟩ := HFWD.out (by trivial)
      obtain ⟨p, HP0⟩ : ∃ p : Nat, Hid (p = 0) := ⟨0, Lib.hid rfl⟩
      have HSTQ : Hid (FPth nx lw [p] p) := Lib.hid (HSTART.out p (by rw [HP0.out]; exact h0s))
      have hxt : RdG w2 w2.heap.size A D := by rw [hDn]; exact hx2
      obtain ⟨wt, rfl⟩ : ∃ wt, wt = w2 := ⟨_, rfl⟩
      have hbwt := hbw2
      have hownt := hown2
      have hr3t := hr3'
      clear h0s hDn hx2 hbw2 hown2 hr3' hb2
    rotate_left
    focus
      subst hbc
      obtain ⟨hbs, hDn⟩ := HBWD.out (by trivial)
      have HBS := Lib.hid hbs
      go_wp2_with fail
      refine (HTU.out _ hx2).mono ?_
      rintro e wt ⟨A6, c6, rfl, hx6, hb6⟩
      have hxt : RdG wt wt.heap.size A6 D := by rw [hDn]; exact hx6
      have hbwt : Below w.heap.size w wt := hbw2.trans (hb6.mono hbw2.size)
      have hownt := hown2.below hb6 hown2.lt
      have hr3t := (hr3'.below hb6 (Nat.le_refl _)).more hb6.size
      have hxn := (HX.out.below hbwt (Nat.le_refl _)).more hbwt.size
      clear hbs hDn hx2 hbw2 hown2 hr3' hb2 hx6 hb6
      go_wp2
      go_loop [12, 13] (fun x z => ∃ k : Nat, k ≤ len ∧ z = .int .i64 k ∧ (x = .int .i64 (-1) ∨ ∃ p : Nat, x = .int .i64 p ∧ p < len ∧ p ∈ sts nx lw)) (fun _ z => len - (intOf z).toNat)
      case atStart => exact ⟨0, Nat.zero_le _, rfl, .inl rfl⟩
      obtain ⟨k, hk, rfl, hxx⟩ := hrel
      rcases hxx with rfl | ⟨p, rfl, hpl, hps⟩
      focus
        by_cases hkl : k < len
        · have hl0 : ((len : Int) == 0) = false := by simp; omega
          have hmod : (f + k) % len < len := Nat.mod_lt _ (by omega)
          have htm : ((f : Int) + (k : Int)).tmod (len : Int) = (((f + k) % len : Nat) : Int) := by rw [← Int.natCast_add]; exact (Int.ofNat_tmod (f + k) len).symm
          have hem : ((f : Int) + (k : Int)) % (len : Int) = (((f + k) % len : Nat) : Int) := by rw [← Int.natCast_add]; exact (Int.natCast_emod (f + k) len).symm
          obtain ⟨ad, row, Ar, cr, rfl, hbl, hd, hcell, hrow⟩ := hxn.at_ (k := (f + k) % len) (by rw [HLEN.out]; exact hmod)
          have hrs := row_sc HCW.out hd
          subst hrs
          have HSLL : (ni (sc nx ((f + k) % len))).length = (sc nx ((f + k) % len)).length := by simp [ni]
          rw [HSLL] at hcell
          have HFD := Lib.hid (fun h => HBS.out ((f + k) % len) hmod h)
          obtain ⟨r, hr⟩ : ∃ r, (f + k) % len = r := ⟨_, rfl⟩
          rw [hr] at hmod htm hem hcell HFD
          have hsl3 := sc_len HCW.out r
          obtain ⟨ss, hss⟩ : ∃ ss, sc nx r = ss := ⟨_, rfl⟩
          rw [hss] at hcell HFD hsl3
          obtain ⟨sl, hsl⟩ : ∃ sl, ss.length = sl := ⟨_, rfl⟩
          rw [hsl] at hcell hsl3
          have HSL2 := Lib.hid hsl
          clear hd HSLL hr hss hsl hrow
          by_cases h0 : sl = 0
          · have HIN := Lib.hid (HFD.out (List.eq_nil_of_length_eq_zero (by rw [HSL2.out]; exact h0)))
            have hz : ((sl : Int) == 0) = true := by simp [h0]
            clear h0
            go_wp2
            go_round
            case rel => exact ⟨k + 1, by omega, by go_num, .inr ⟨r, rfl, hmod, HIN.out⟩⟩
            case measure => (simp [intOf]; omega)
          · have hz : ((sl : Int) == 0) = false := by simp [h0]
            clear h0
            go_wp2
            go_round
            case rel => exact ⟨k + 1, by omega, by go_num, .inl rfl⟩
            case measure => (simp [intOf]; omega)
        · have hkn : k = len := by omega
          subst hkn
          go_wp2
          go_ret
          exact ⟨ret_bool (by simp), hbwt⟩
      have HSTQ : Hid (FPth nx lw [p] p) := Lib.hid (HSTART.out p hps)
      have HP0 : Hid (p = p) := Lib.hid rfl
      have hpn : ¬ ((p : Int) < 0) := by omega
      clear hps hxn
      rcases Nat.lt_or_ge k len with hkl | hkl
    all_goals
      go_wp2
      have hlt0 := hownt.lt
      have hb8 : Below wt.heap.size wt (wt.alloc (.cells #[.int .i64 (p : Int)] 3)) := by go_grown
      have ho8 := own_one (w := wt) (base := wt.heap.size) (Nat.le_refl _) (p : Int)
      have HST8 : Hid (wt.ownsRow wt.heap.size 3 1 (.slice none 0 0) 0 []) := Lib.hid (World.ownsRow_nil _ _ _ _)
      go_loopw [12, 15, 76] (fun x y z wr => ∃ (k p' m : Nat) (q : List Nat) (A5 : Option Addr) (c5 : Nat), k ≤ pn ∧ z = .int .i64 k ∧ x = .int .i64 p' ∧ y = .slice A5 m c5 ∧ m ≤ k + 1 ∧ Hid (q.length = m) ∧ wr.ownsRow wt.heap.size 3 1 (.slice A5 m c5) m (iv (ni q)) ∧ Hid (FPth nx lw q p') ∧ Below wt.heap.size wt wr) (fun _ _ z _ => pn - (intOf z).toNat)
      case atStart =>
        refine ⟨0, p, 1, [p], some ⟨wt.heap.size, 0, none⟩, 1, Nat.zero_le _, rfl, ?_, rfl, Nat.le_refl _, Lib.hid rfl, ?_, HSTQ, ?_⟩
        · first | rfl | (rw [HP0.out]; rfl)
        · first | exact ho8 | (rw [HP0.out] at ho8 ⊢; exact ho8)
        · first | exact hb8 | (rw [HP0.out] at hb8; exact hb8)
      obtain ⟨k2, p', m, q, A5, c5, hk2, rfl, rfl, rfl, hmk, HQL, hrow, HFP, hbr⟩ := hrel
      have hszr := hbr.size
      have hp'l := HFP.out.lt
      rw [HLEN.out] at hp'l
      have HROW := Lib.hid hrow
      clear ho8 hb8 hrow
      by_cases hkt : k2 < pn
      focus
        obtain ⟨pa, b, rfl, hbp, hbk, hcb⟩ := (HP.out.below (hbwt.trans (hbr.mono hbwt.size)) (Nat.le_refl _)).at_ (k := k2) (by rw [HPN.out]; exact hkt)
        obtain ⟨hbb0, hb255⟩ := HP8.out b (List.mem_of_getElem? hbk)
        obtain ⟨bn, rfl⟩ := Int.eq_ofNat_of_zero_le hbb0
        obtain ⟨ad, row, Ar, cr, rfl, hbl, hd, hcell, hrowD⟩ := (hxt.below hbr (Nat.le_refl _)).at_ (k := p') (by rw [HDL.out]; exact hp'l)
        have hrs := HDR.out p' row hd
        subst hrs
        obtain ⟨ss, hss⟩ : ∃ ss, sc D p' = ss := ⟨_, rfl⟩
        have HST := Lib.hid (fun b (hb : b ∈ ss) => HSTEP.out q p' b HFP.out (by rw [hss]; exact hb))
        have HSLT := Lib.hid (fun b (hb : b ∈ ss) => HDT.out p' b (by rw [hss]; exact hb))
        rw [hss] at hrowD hcell
        obtain ⟨sl, hsl⟩ : ∃ sl, ss.length = sl := ⟨_, rfl⟩
        have hnl : (ni ss).length = sl := by simp [ni, hsl]
        rw [hnl] at hcell
        have HSL3 := Lib.hid hsl
        have HNL := Lib.hid hnl
        clear hd hss hsl hnl hbk
        by_cases h0 : sl = 0
        focus
          have hz : ((sl : Int) == 0) = true := by simp [h0]
          have HPNK : Hid True := Lib.hid trivial
          clear h0
        rotate_left
        focus
          have hne : ((sl : Int) == 0) = false := by simp; omega
          have hpos : 0 < sl := by omega
          have hmod : bn % sl < sl := Nat.mod_lt _ hpos
          have htm : ((bn : Int)).tmod (sl : Int) = ((bn % sl : Nat) : Int) := (Int.ofNat_tmod bn sl).symm
          have hem : ((bn : Int)) % (sl : Int) = ((bn % sl : Nat) : Int) := (Int.natCast_emod bn sl).symm
          obtain ⟨ar, q', rfl, hbr2, hqr, hcq⟩ := hrowD.at_ (k := bn % sl) (by rw [HNL.out]; exact hmod)
          obtain ⟨b2', hqq⟩ : ∃ b2', ss[bn % sl]? = some b2' := ⟨_, List.getElem?_eq_getElem (by rw [HSL3.out]; exact hmod)⟩
          rw [ni_at hqq] at hqr
          injection hqr with hqr
          subst hqr
          have hqm := List.mem_of_getElem? hqq
          have HNP := Lib.hid (HST.out b2' hqm)
          have HQ2 : Hid ((q ++ [b2']).length = m + 1) := Lib.hid (by rw [List.length_append, HQL.out]; rfl)
          have h63 : m + 1 ≤ maxLen := by unfold maxLen; omega
          have hbig : (m + 1) * 8 ≤ 140737488355328 := by omega
          clear hqq hqm h0
          generalize bn % sl = r at *
          go_wp2
          go_region
          all_goals
            go_wp2_with (at_builtin; refine wpList_app rfl (.tmp 100) (.tmp 102) 34 rfl wt.heap.size 3 1 8 int_app _ rfl (own_below HROW.out (by go_grown)) [.int .i64 (b2' : Int)] rfl rfl (fun h => by cases h) (cells_at rfl _ _) (one_cell _) h63 hbig (Nat.le_trans hszr (by go_grown : Below wr.heap.size wr _).size) ?_; intro A7 c7 w7 hown7 hg7 hb7; have hbw7 : Below wt.heap.size wr w7 := (Below.mono (by go_grown : Below wr.heap.size wr _) hszr).trans hb7)
            go_round
            case rel => exact ⟨k2 + 1, b2', m + 1, q ++ [b2'], A7, c7, by omega, by go_num, rfl, rfl, by omega, HQ2, by rw [ni_append, iv_append]; exact hown7, HNP, hbr.trans hbw7⟩
            case measure => (simp [intOf]; omega)
      all_goals
        have hl63 : m ≤ maxLen := by unfold maxLen; omega
        have hcap := own_cap HROW.out
        have hbwr : Below w.heap.size w wr := hbwt.trans (hbr.mono hbwt.size)
        have hxr := (HX.out.below hbwr (Nat.le_refl _)).more hbwr.size
        have hrr := (HR.out.below hbwr (Nat.le_refl _)).more hbwr.size
        have hqr := own_rdI HROW.out (by simp [ni, HQL.out])
        have hownr := hownt.below hbr hlt0
        have d0 := hownr.cell (j := 0) rfl
        have d1 := hownr.cell (j := 1) rfl
        have d2 := hownr.cell (j := 2) rfl
        have d3 := hownr.cell (j := 3) rfl
        have d4 := hownr.cell (j := 4) rfl
        have hr3r := (hr3t.below hbr (Nat.le_refl _)).more hbr.size
        have hlr := hownr.lt
        go_wp2_with fail
        refine (HAL.out A5 m c5 (ni q) _ hxr hrr hqr (by simp [ni, HQL.out]) hl63 hcap (HOK.out q p' HFP.out)).mono ?_
        rintro e w9 ⟨rfl, hb9⟩
        have hw8 := HW8.out q p' HFP.out
        have HA := Lib.hid (fun h W hW => HALL.out h q p' W HFP.out hW)
        have HS := Lib.hid (fun h W hW => HSOME.out h q p' W HFP.out hW)
        obtain ⟨S, hS⟩ : ∃ S, alW lw (ni q) st = S := ⟨_, rfl⟩
        rw [hS] at hw8 HA HS ⊢
        have hS32 : S < 4294967296 := by omega
        have hown9 := hownr.below hb9 hlr
        have g1 := hown9.cell (j := 1) rfl
        obtain ⟨ax, W, rfl, hbs, hdW, hcW⟩ := (hr3r.below hb9 (Nat.le_refl _)).at_ (k := p') (by rw [HSL.out]; exact hp'l)
        have hW := HSV.out.mem p' W hdW
        have hW32 : W < 4294967296 := by have := hW.1; omega
        have HIA := Lib.hid (fun h => HA.out h W hW)
        have HIS := Lib.hid (fun h => HS.out h W hW)
        have hbw9 := hbwr.trans (hb9.mono hbwr.size)
        clear hS HA HS hdW hW d0 d1 d2 d3 d4
        rcases hac : al with _ | _
        · subst hac
          have HIN := Lib.hid (HIS.out (by trivial))
          go_wp2_with (go_at_call 17; (with_reducible refine (in_true HIN.out _ hS32 hW32).mono ?_); rintro e w5 ⟨rfl, rfl⟩)
          go_ret
          exact ⟨ret_bool rfl, hbw9⟩
        · subst hac
          have HIN := Lib.hid (HIA.out (by trivial))
          go_wp2_with (go_at_call 17; (with_reducible refine (in_true HIN.out _ hW32 hS32).mono ?_); rintro e w5 ⟨rfl, rfl⟩)
          go_ret
          exact ⟨ret_bool rfl, hbw9⟩
  · have hne : (ckLaw nx lw != 0) = true := by simp [hc]
    have HC := Lib.hid hc
    have hown := Own.new w 26 [.bool lw.bw, .bool lw.al, .slice A1 lw.ma.length c1, .slice A2 lw.en.length c2, .int .u32 (lw.st : Nat)]
    have hb0 : Below w.heap.size w (w.alloc (.cells #[.bool lw.bw, .bool lw.al, .slice A1 lw.ma.length c1, .slice A2 lw.en.length c2, .int .u32 (lw.st : Nat)] 26)) := by go_grown
    have hx0 := (hx.below hb0 (Nat.le_refl _)).more hb0.size
    have hr0 := (hr.below hb0 (Nat.le_refl _)).more hb0.size
    clear hc
    go_enter Try.func5, Try.ntmps5
    go_wp2_with fail
    refine (K.solveBad A _ cap nx A1 c1 A2 c2 lw _ hx0 rfl HMX.out hr0 hu HC.out).mono ?_
    rintro e w1 ⟨A3, c3, rfl, hb1⟩
    have hx1 := (hx0.below hb1 (Nat.le_refl _)).more hb1.size
    have hr1 := (hr0.below hb1 (Nat.le_refl _)).more hb1.size
    have hown1 := hown.below hb1 hown.lt
    have d0 := hown1.cell (j := 0) rfl
    have d1 := hown1.cell (j := 1) rfl
    have d2 := hown1.cell (j := 2) rfl
    have d3 := hown1.cell (j := 3) rfl
    have d4 := hown1.cell (j := 4) rfl
    go_wp2_with fail
    refine (lawful_any A _ cap nx A1 c1 A2 c2 lw _ hx1 rfl hr1 hu).mono ?_
    rintro e w2 ⟨rfl, hb2⟩
    rw [decide_eq_false HC.out]
    go_wp2
    go_ret
    exact ⟨ret_bool (by simp), (hb0.trans (hb1.mono hb0.size)).trans (hb2.mono (by have := hb0.size; have := hb1.size; omega))⟩

theorem lawFactPath_int (K : FactIs) (K2 : AlongIs) (A : Option Addr) (cap : Nat) (nx : List (List Int)) (A1 : Option Addr) (c1 : Nat) (A2 : Option Addr) (c2 : Nat) (lw : Lw) (fi : Int) (PA : Option Addr) (pcap : Nat) (pk : List Int) (w : World) (hx : RdG w w.heap.size A nx) (hm : nx.length ≤ maxLen) (hr : RdL w w.heap.size A1 A2 lw) (hu : U32L lw) (hfi : (Lit.int .u8 fi).wf = true) (hp : RdB w w.heap.size PA pk) (hpm : pk.length ≤ 1048576) (hp8 : ∀ x ∈ pk, inB8 x) :
    Calls Try.prog 5 #[.slice A nx.length cap, .agg #[.bool lw.bw, .bool lw.al, .slice A1 lw.ma.length c1, .slice A2 lw.en.length c2, .int .u32 (lw.st : Nat)], .int .u8 fi, .slice PA pk.length pcap] w fun e w' => e = .returned (.bool true) ∧ Below w.heap.size w w' :=
  lawFactPath_any K K2 A cap nx A1 c1 A2 c2 lw fi PA pcap pk w hx hm hr hu (inB8_of hfi) hp hpm hp8

set_option maxRecDepth 100000 in
theorem lawFactPath_lifted (os : Os) (started : os.Started) (H : Type) (enc : TypeId × Value → H) (F : Stop.Interp) :
    ReturnsInHanded {} Try.checked os 5 .any ((Rows.OpenSpec.upto Rows.factPathSpec).pre6 enc Try.prog Try.f5 Rows.factPathUptoRow.domain false) (((Rows.OpenSpec.upto Rows.factPathSpec).at F).post enc Try.prog Try.f5 false true false false) := by
  refine returnsInHanded_of_cond_sized (C := Try.checked) (s := Rows.OpenSpec.upto Rows.factPathSpec) (k := Rows.uptoSmall) rfl Try.own started (by kernel_rfl) Try.func5
    (OpenSpec.witness (enc := enc) (C := Try.checked) (s := Rows.OpenSpec.upto Rows.factPathSpec) (k := Rows.uptoSmall) rfl false ⟨#[], #[.slice none 0 0, .agg #[.bool false, .bool false, .slice none 0 0, .slice none 0 0, .int .u32 0], .int .u8 0, .slice none 0 0], []⟩ 8 (by kernel_rfl) (by kernel_rfl) (by kernel_rfl)
      (x := ([.nil, .agg [.lit (.bool false), .lit (.bool false), .nil, .nil, .lit (.int .u32 0)], .lit (.int .u8 0), .nil], [], [])) (by kernel_rfl) rfl (by kernel_rfl)) ?_
  intro W base args ds gs before hval0 hW hcnd hk hsz _
  have hval : ∀ (j : Nat) t v, Try.f5.params[j]? = some t → args[j]? = some v → Value.okWide Try.prog W .any base t v := hval0
  have hW' := hW
  obtain ⟨p, q, hA0, hV, rfl, hfz, hnd⟩ := hW
  have hA : DataW.TrodAll enc Try.prog W 0 (fun _ => true) true Try.f5.params.toList args.toList ds p := hA0
  obtain ⟨hgs, _⟩ := trodVars_none hV
  rw [Try.params5] at hA hval
  obtain ⟨v0, vs0, d0, ds0, p0, q0, hargs, rfl, rfl, h0, r0⟩ := trodAll_cons hA
  obtain ⟨v1, vs1, d1, ds1, p1, q1, rfl, rfl, rfl, h1, r1⟩ := trodAll_cons r0
  obtain ⟨v2, vs2, d2, ds2, p2, q2, rfl, rfl, rfl, h2, r2⟩ := trodAll_cons r1
  obtain ⟨v3, vs3, d3, ds3, p3, q3, rfl, rfl, rfl, h3, r3⟩ := trodAll_cons r2
  obtain ⟨rfl, rfl, rfl⟩ := trodAll_nil r3
  have hargs2 : args = #[v0, v1, v2, v3] := Array.toList_inj.1 hargs
  subst hargs2
  obtain ⟨A0, c0, l0, rfl, lc0, cm0, x0, r0⟩ := open_graphA (hval 0 22 v0 rfl rfl) h0
  have b0 := len_reach Try.underlying22 (hval 0 22 _ rfl rfl) h0 hsz (j := 0) (by rw [Try.params5]; rfl) rfl
  rw [show Try.prog.bytesOf (Try.prog.elem 22) = 24 from by kernel_rfl] at b0
  obtain ⟨w1, A1, c1, B1, e1, rfl, x1, u1⟩ := open_lawA (hval 1 26 v1 rfl rfl) h1
  obtain ⟨a2, rfl, _, _, w2⟩ := open_int Try.underlying5 (hval 2 5 v2 rfl rfl) h2
  obtain ⟨A3, c3, l3, rfl, lc3, cm3, x3, r3⟩ := open_bytesA (hval 3 40 v3 rfl rfl) h3
  have b3 := len_reach Try.underlying40 (hval 3 40 _ rfl rfl) h3 hsz (j := 3) (by rw [Try.params5]; rfl) rfl
  rw [show Try.prog.bytesOf (Try.prog.elem 40) = 1 from by kernel_rfl] at b3
  have t0 := len_bulk Try.underlying22 (hval 0 22 _ rfl rfl) h0 (Nat.le_trans (bulk_part (l := [d0, d1, d2, d3] ++ gs) (by simp)) (of_decide_eq_true hk))
  have t3 := len_bulk Try.underlying40 (hval 3 40 _ rfl rfl) h3 (Nat.le_trans (bulk_part (l := [d0, d1, d2, d3] ++ gs) (by simp)) (of_decide_eq_true hk))
  refine (lawFactPath_int factIs alongIs A0 c0 l0 A1 c1 B1 e1 w1 a2 A3 c3 l3 _ x0 (by omega) x1 u1 w2 x3 t3 r3).mono fun e W' ⟨he, hb⟩ => ?_
  subst he
  exact ⟨_, rfl, law_post Try.laidOut rfl (by kernel_rfl) Try.underlying4 ⟨rfl, rfl, rfl⟩ (by kernel_rfl) hW' hb⟩

theorem factPath_holds : Rows.FactPathUptoSaid :=
  OpenClaim.holds_of_cond 5 Try.f5 rfl rfl rfl rfl rfl rfl rfl ⟨rfl, rfl, rfl, rfl, rfl⟩ rfl rfl rfl rfl rfl (by kernel_rfl) Try.func5 (show joinedFacts Try.prog 5 Try.f5 (Rows.OpenSpec.upto Rows.factPathSpec).bare Rows.factPathUptoRow = true from (by unfold joinedFacts; (repeat' (with_reducible refine and_both ?_ ?_)) <;> first | (with_reducible exact may_enter) | ((with_reducible refine make_ok ?_); rfl) | ((with_reducible refine lifts_ok ?_); rfl) | kernel_rfl))
    (of_decide_eq_true (by kernel_rfl)) (by unfold Func.isWrapper; rw [if_neg (of_decide_eq_false (by kernel_rfl))]; exact ⟨rfl, rfl⟩)
    (fun os started H enc _ F => lawFactPath_lifted os started H enc F)

end Go.Proofs.Ytmbabbdcijgnoaa
