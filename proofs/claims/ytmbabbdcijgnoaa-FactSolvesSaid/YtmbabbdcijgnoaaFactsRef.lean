/-
  codemasonref.Facts (I2): fact by fact, along which paths one comes to a node with it, and without it.
-/
import Derived.Test.YtmbabbdcijgnoaaFactRef
namespace Go.Proofs.Ytmbabbdcijgnoaa
open Go.RowKit
set_option linter.unusedSimpArgs false
set_option linter.unusedVariables false
set_option maxRecDepth 100000

/-- of the first m beginnings -/
def FStK (nx : List (List Int)) (lw : Lw) (f m : Nat) (hs : List Nat) : Prop := ∀ i ∈ (sts nx lw).take m, cd nx.length i (lw.st.testBit f) ∈ hs

theorem FStK.next {nx : List (List Int)} {lw : Lw} {f m i : Nat} {hs : List Nat} (h : FStK nx lw f m hs) (hi : (sts nx lw)[m]? = some i) : FStK nx lw f (m + 1) (addH hs (cd nx.length i (lw.st.testBit f))) := fun j hj => by
  rw [List.take_add_one, hi, Option.toList_some, List.mem_append, List.mem_singleton] at hj
  rcases hj with hj | rfl
  · exact addH_sub (h j hj)
  · exact addH_mem

/-- what is gathered behind c of node i's edges -/
def fcK (nx : List (List Int)) (lw : Lw) (f i : Nat) (b : Bool) (hs : List Nat) (c : Nat) : List Nat := (((sc (dirG nx lw) i).take c).map fun j => cd nx.length j (trB lw f i b)).foldl addH hs

theorem fcK_next {nx : List (List Int)} {lw : Lw} {f i c j : Nat} {b : Bool} {hs : List Nat} (h : (sc (dirG nx lw) i)[c]? = some j) : fcK nx lw f i b hs (c + 1) = addH (fcK nx lw f i b hs c) (cd nx.length j (trB lw f i b)) := by
  unfold fcK
  rw [List.take_add_one, h, Option.toList_some, List.map_append, List.foldl_append]
  rfl

theorem fcK_in {nx : List (List Int)} (hc : ckWay nx = 0) {lw : Lw} {f i : Nat} {b : Bool} {hs : List Nat} (h : FIn nx lw f hs) (hp : StP nx lw f i b) (c : Nat) : FIn nx lw f (fcK nx lw f i b hs c) :=
  FIn.fold hc _ _ (fun _ hx => hp.step (List.mem_of_mem_take hx)) h

theorem fcK_ge {nx : List (List Int)} {lw : Lw} {f i : Nat} {b : Bool} {hs : List Nat} (c : Nat) : hs.length ≤ (fcK nx lw f i b hs c).length := addH_ge _

theorem cd_cases {n i y : Nat} {b : Bool} (h : cd n i b = y) : (b = true ∧ y = i) ∨ (b = false ∧ (n : Int) + (i : Int) = (y : Int)) := by
  unfold cd at h
  cases b
  · right
    simp at h
    exact ⟨rfl, by omega⟩
  · left
    simp at h
    exact ⟨rfl, h.symm⟩

theorem cd_ex {L cur : List Nat} {n j : Nat} {v : Bool} (h : L = addH cur (cd n j v)) : ∃ y, cd n j v = y ∧ L = addH cur y := ⟨_, rfl, h⟩

theorem dirG_sl {nx : List (List Int)} (hc : ckWay nx = 0) {lw : Lw} {i : Nat} : (sc (dirG nx lw) i).length ≤ 8 := by
  have hb := ckWay_bd hc
  rcases Nat.lt_or_ge i nx.length with hi | hi
  · unfold dirG
    split
    · rw [sc_at (trG_at hi), List.length_map]
      have := trR_len nx i nx.length
      simp only [ni, List.length_map]
      omega
    · have := sc_len hc i
      omega
  · rw [sc_out (by rw [dirG_len]; exact hi)]
    simp

/-- of fact f's word: what the words of the facts told so far are -/
structure OwK (nx : List (List Int)) (lw : Lw) (f m : Nat) (os : List Nat) : Prop where
  len : os.length = nx.length
  hi : ∀ r W, r < m → os[r]? = some W → PrW (SlP nx lw r) (f + 1) W
  lo : ∀ r W, m ≤ r → os[r]? = some W → PrW (SlP nx lw r) f W

theorem OwK.start (nx : List (List Int)) (lw : Lw) : OwK nx lw 0 0 (List.replicate nx.length 0) := ⟨by simp, fun r W h => by omega, fun r W _ h => by
  obtain ⟨h1, h2⟩ := List.getElem?_eq_some_iff.1 h
  rw [List.getElem_replicate] at h2
  subst h2
  exact PrW.zero⟩

theorem OwK.up {nx : List (List Int)} {lw : Lw} {f : Nat} {os : List Nat} (h : OwK nx lw f nx.length os) : OwK nx lw (f + 1) 0 os := ⟨h.len, fun r W h => by omega, fun r W _ hW => h.hi r W (by rw [← h.len]; exact (List.getElem?_eq_some_iff.1 hW).1) hW⟩

theorem OwK.no {nx : List (List Int)} {lw : Lw} {f m : Nat} {os : List Nat} (h : OwK nx lw f m os) (hp : ¬ SlP nx lw m f) : OwK nx lw f (m + 1) os := ⟨h.len, fun r W hr hW => by
  by_cases e : r = m
  · subst e; exact (h.lo r W (Nat.le_refl _) hW).no hp
  · exact h.hi r W (by omega) hW, fun r W hr hW => h.lo r W (by omega) hW⟩

theorem OwK.yes {nx : List (List Int)} {lw : Lw} {f m W : Nat} {os : List Nat} (h : OwK nx lw f m os) (hW : os[m]? = some W) (hp : SlP nx lw m f) : OwK nx lw f (m + 1) (os.set m (W ||| 2 ^ f)) := by
  have hm := (List.getElem?_eq_some_iff.1 hW).1
  refine ⟨by rw [List.length_set]; exact h.len, fun r V hr hV => ?_, fun r V hr hV => ?_⟩
  · by_cases e : r = m
    · subst e
      rw [List.getElem?_set_self hm] at hV
      injection hV with hV
      rw [← hV]
      exact (h.lo r W (Nat.le_refl _) hW).yes hp
    · rw [List.getElem?_set_ne (fun q => e q.symm)] at hV
      exact h.hi r V (by omega) hV
  · rw [List.getElem?_set_ne (by omega)] at hV
    exact h.lo r V (by omega) hV

theorem OwK.done {nx : List (List Int)} {lw : Lw} {os : List Nat} (h : OwK nx lw 8 0 os) : Slv nx lw os := ⟨h.len, fun r W hW => h.lo r W (Nat.zero_le _) hW⟩

theorem sts_bw {nx : List (List Int)} {lw : Lw} (h : lw.bw = true) : sts nx lw = (List.range nx.length).filter (fun i => decide (sc nx i = [])) := by unfold sts; rw [if_pos h]

/-- the exits among the first k nodes -/
def exK (nx : List (List Int)) (k : Nat) : List Nat := (List.range k).filter (fun i => decide (sc nx i = []))

theorem exK_succ (nx : List (List Int)) (k : Nat) : exK nx (k + 1) = if sc nx k = [] then exK nx k ++ [k] else exK nx k := by
  unfold exK
  rw [List.range_succ, List.filter_append]
  by_cases h : sc nx k = []
  · rw [if_pos h]; simp [h]
  · rw [if_neg h]; simp [h]

theorem exK_len (nx : List (List Int)) (k : Nat) : (exK nx k).length ≤ k := by
  unfold exK
  have := List.length_filter_le (fun i => decide (sc nx i = [])) (List.range k)
  simpa using this

/-- what stands while facts are gathered: graph and beginnings below block g, the words in block g -/
structure Fx (w wr : World) (nx : List (List Int)) (lw : Lw) (al bw : Bool) (st len : Nat) (A1 : Option Addr) (c1 : Nat) (A2 : Option Addr) (c2 : Nat) (Ad Af : Option Addr) (g : Nat) (os : List Nat) : Prop where
  gr : RdG wr g Ad (dirG nx lw)
  fi : RdI wr g Af (ni (sts nx lw))
  la : Own wr w.heap.size 26 [.bool bw, .bool al, .slice A1 len c1, .slice A2 len c2, .int .u32 (st : Nat)]
  out : Own wr g 24 (uv os)
  lt : w.heap.size < g
  be : Below w.heap.size w wr

section
variable {w X Y : World} {nx : List (List Int)} {lw : Lw} {al bw : Bool} {st len : Nat} {A1 A2 Ad Af : Option Addr} {c1 c2 g : Nat} {os : List Nat}

theorem Fx.quiet (h : Fx w X nx lw al bw st len A1 c1 A2 c2 Ad Af g os) (hb : Below (g + 1) X Y) : Fx w Y nx lw al bw st len A1 c1 A2 c2 Ad Af g os :=
  ⟨h.gr.below hb (by omega), h.fi.below hb (by omega), h.la.below hb (by have := h.lt; omega), h.out.below hb (by omega), h.lt, h.be.trans (hb.mono (by have := h.lt; omega))⟩

theorem Fx.set (h : Fx w X nx lw al bw st len A1 c1 A2 c2 Ad Af g os) (i W : Nat) : Fx w (X.setCell ⟨g, i, none⟩ (.int .u32 ((W : Nat) : Int))) nx lw al bw st len A1 c1 A2 c2 Ad Af g (os.set i W) := by
  have hb : Below g X (X.setCell ⟨g, i, none⟩ (.int .u32 ((W : Nat) : Int))) := (Below.refl g X).setCell (Nat.le_refl _) _
  refine ⟨h.gr.below hb (Nat.le_refl _), h.fi.below hb (Nat.le_refl _), h.la.below hb h.lt, ?_, h.lt, h.be.trans (hb.mono (Nat.le_of_lt h.lt))⟩
  have := h.out.set i (.int .u32 ((W : Nat) : Int))
  rwa [uv_set] at this

end

set_option maxHeartbeats 16000000 in
theorem refFacts_any (A : Option Addr) (len cap : Nat) (nx : List (List Int)) (A1 : Option Addr) (c1 : Nat) (A2 : Option Addr) (c2 : Nat) (lw : Lw) (w : World) (hx : RdG w w.heap.size A nx) (hl : nx.length = len) (hr : RdL w w.heap.size A1 A2 lw) (hc : ckLaw nx lw = 0) :
    Calls Try.prog 11 #[.slice A len cap, .agg #[.bool lw.bw, .bool lw.al, .slice A1 len c1, .slice A2 len c2, .int .u32 (lw.st : Nat)]] w fun e w' => ∃ ws A' c', Slv nx lw ws ∧ e = .returned (.slice A' len c') ∧ RdU w' w'.heap.size A' ws ∧ Below w.heap.size w w' := by
  obtain ⟨hcw, hm1, hm2, hk1, hk2, hst⟩ := ckLaw_ok hc
  obtain ⟨b1, b2, _⟩ := ckWay_bd hcw
  have HL := Lib.hid hl
  have HC := Lib.hid hcw
  rw [hl] at b1 b2 hm1 hm2
  have HM1 := Lib.hid hm1
  have HM2 := Lib.hid hm2
  have HK1 := Lib.hid hk1
  have HK2 := Lib.hid hk2
  have hst32 : lw.st < 4294967296 := by omega
  have hr1 := hr.ma
  have hr2 := hr.en
  obtain ⟨st, hste⟩ : ∃ n, lw.st = n := ⟨_, rfl⟩
  obtain ⟨bw, hbw⟩ : ∃ b, lw.bw = b := ⟨_, rfl⟩
  obtain ⟨al, hal⟩ : ∃ b, lw.al = b := ⟨_, rfl⟩
  rw [hste] at hst hst32 ⊢
  rw [hbw, hal]
  have HST := Lib.hid hste
  have HBW := Lib.hid hbw
  have HAL := Lib.hid hal
  have hmk := make_words (P := Try.prog) 23 24 Try.underlying23 (by kernel_rfl) len (by omega)
  have HOS : Hid (OwK nx lw 0 0 (List.replicate len 0)) := Lib.hid (by have := OwK.start nx lw; rwa [hl] at this)
  have hb0 : Below w.heap.size w ((w.alloc (.cells #[.bool bw, .bool al, .slice A1 len c1, .slice A2 len c2, .int .u32 (st : Nat)] 26)).alloc (.cells #[.int .i64 0] 3)) := by go_grown
  have hx0 := (hx.below hb0 (Nat.le_refl _)).more hb0.size
  have hown0 : Own ((w.alloc (.cells #[.bool bw, .bool al, .slice A1 len c1, .slice A2 len c2, .int .u32 (st : Nat)] 26)).alloc (.cells #[.int .i64 0] 3)) w.heap.size 26 [.bool bw, .bool al, .slice A1 len c1, .slice A2 len c2, .int .u32 (st : Nat)] := (Own.new w _ _).alloc _
  clear hc hcw hm1 hm2 hk1 hk2 hste hbw hal hr hl
  have hd0 := hown0.cell (j := 0) rfl
  cases bw
  focus
    have hrow : RdI ((w.alloc (.cells #[.bool false, .bool al, .slice A1 len c1, .slice A2 len c2, .int .u32 (st : Nat)] 26)).alloc (.cells #[.int .i64 0] 3)) (w.heap.size + 1 + 1) (some ⟨w.heap.size + 1, 0, none⟩) (ni (sts nx lw)) := by
      have h1 : sts nx lw = [0] := by unfold sts; rw [if_neg (by rw [HBW.out]; simp)]
      rw [h1]
      have h2 := Own.new (w.alloc (.cells #[.bool false, .bool al, .slice A1 len c1, .slice A2 len c2, .int .u32 (st : Nat)] 26)) 3 (iv (ni [0]))
      have h3 := OwnI.rd h2
      rw [World.size_alloc] at h3
      exact h3
    have hdir : dirG nx lw = nx := by unfold dirG; rw [if_neg (by rw [HBW.out]; simp)]
    have hsl : (sts nx lw).length = 1 := by unfold sts; rw [if_neg (by rw [HBW.out]; simp)]; rfl
    rw [← hdir] at hx0
    have hq := hmk ((w.alloc (.cells #[.bool false, .bool al, .slice A1 len c1, .slice A2 len c2, .int .u32 (st : Nat)] 26)).alloc (.cells #[.int .i64 0] 3))
    have hb2 : Below (w.heap.size + 1 + 1) ((w.alloc (.cells #[.bool false, .bool al, .slice A1 len c1, .slice A2 len c2, .int .u32 (st : Nat)] 26)).alloc (.cells #[.int .i64 0] 3)) (((w.alloc (.cells #[.bool false, .bool al, .slice A1 len c1, .slice A2 len c2, .int .u32 (st : Nat)] 26)).alloc (.cells #[.int .i64 0] 3)).alloc (.cells (uv (List.replicate len 0)).toArray 24)) := by
      have := Below.alloc (Below.refl _ ((w.alloc (.cells #[.bool false, .bool al, .slice A1 len c1, .slice A2 len c2, .int .u32 (st : Nat)] 26)).alloc (.cells #[.int .i64 0] 3))) (Nat.le_refl _) (.cells (uv (List.replicate len 0)).toArray 24)
      simpa using this
    have HS0 : Hid (∃ wa Af nf cf Ad capd g, wa = (((w.alloc (.cells #[.bool false, .bool al, .slice A1 len c1, .slice A2 len c2, .int .u32 (st : Nat)] 26)).alloc (.cells #[.int .i64 0] 3)).alloc (.cells (uv (List.replicate len 0)).toArray 24)) ∧ (Value.slice Af nf cf = .slice (some ⟨w.heap.size + 1, 0, none⟩) 1 1) ∧ Value.slice Ad len capd = .slice A len cap ∧ g = w.heap.size + 1 + 1 ∧ (sts nx lw).length = nf ∧ Fx w wa nx lw al lw.bw st len A1 c1 A2 c2 Ad Af g (List.replicate len 0)) := by
      rw [HBW.out]
      refine Lib.hid ⟨_, _, _, _, _, _, _, rfl, rfl, rfl, rfl, hsl, ⟨?_, hrow.below hb2 (Nat.le_refl _), hown0.alloc _, ?_, by omega, ?_⟩⟩
      · have := hx0.below hb2 (by simp)
        simpa using this
      · have := Own.new ((w.alloc (.cells #[.bool false, .bool al, .slice A1 len c1, .slice A2 len c2, .int .u32 (st : Nat)] 26)).alloc (.cells #[.int .i64 0] 3)) 24 (uv (List.replicate len 0))
        simpa using this
      · exact hb0.trans (hb2.mono (by omega))
    clear hrow hdir hsl hb2 hx0 hown0
    go_enter Try.func11, Try.ntmps11
    go_wp2_with fail
    clear hq hd0
    obtain ⟨wa, Af, nf, cf, Ad, capd, g, hwa, h1, h2, h3, hnf, hfx⟩ := HS0.out
    rw [← hwa, ← h1, ← h2, ← h3]
    clear hwa h1 h2 h3 HS0 hb0
  rotate_left
  focus
    have hdir : dirG nx lw = trG nx := by unfold dirG; rw [if_pos HBW.out]
    have hst' : sts nx lw = exK nx len := by rw [sts_bw HBW.out, HL.out]; rfl
    have HDIR := Lib.hid hdir
    have HSTS := Lib.hid hst'
    obtain ⟨w2, hw2⟩ : ∃ w2, w2 = ((w.alloc (.cells #[.bool true, .bool al, .slice A1 len c1, .slice A2 len c2, .int .u32 (st : Nat)] 26)).alloc (.cells #[.int .i64 0] 3)) := ⟨_, rfl⟩
    rw [← hw2] at hb0 hx0 hown0
    have hws : w.heap.size < w2.heap.size := hown0.lt
    have HOWN0 := Lib.hid hown0
    clear hdir hst' hown0
    go_enter Try.func11, Try.ntmps11
    go_wp2_with fail
    rw [← hw2]
    have hx2 := hx.below hb0 (Nat.le_refl _)
    clear hw2 hd0
    go_loopw [5, 6] (fun s z wr => ∃ (i : Nat) (A5 : Option Addr) (c5 : Nat), i ≤ len ∧ z = .int .i64 i ∧ s = .slice A5 (exK nx i).length c5 ∧ wr.ownsRow w2.heap.size 3 1 (.slice A5 (exK nx i).length c5) (exK nx i).length (iv (ni (exK nx i))) ∧ Below w2.heap.size w2 wr) (fun _ z _ => len - (intOf z).toNat)
    case atStart => exact ⟨0, none, 0, Nat.zero_le _, rfl, rfl, World.ownsRow_nil _ _ _ _, Below.refl _ _⟩
    obtain ⟨i, Af, cf, hi, rfl, rfl, hown, hb⟩ := hrel
    have hsz := hb.size
    by_cases hit : i < len
    focus
      obtain ⟨ad, row, Ar, cr, rfl, hbl, hd, hcell, hrow⟩ := (hx2.below hb (Nat.le_of_lt hws)).at_ (k := i) (by rw [HL.out]; exact hit)
      have hrs := row_sc HC.out hd
      subst hrs
      have hnl : (ni (sc nx i)).length = (sc nx i).length := by simp [ni]
      rw [hnl] at hcell
      have hxs := exK_succ nx i
      have hxl := exK_len nx i
      obtain ⟨ex, hex⟩ : ∃ ex, exK nx i = ex := ⟨_, rfl⟩
      rw [hex] at hxs hxl hown ⊢
      obtain ⟨en, hen⟩ : ∃ en, ex.length = en := ⟨_, rfl⟩
      rw [hen] at hxl hown ⊢
      have HEN := Lib.hid hen
      have h63 : en + 1 ≤ maxLen := by unfold maxLen; omega
      have hbig : (en + 1) * 8 ≤ 140737488355328 := by omega
      clear hex hen hd hnl
      by_cases h0 : sc nx i = []
      · rw [if_pos h0] at hxs
        have HXS := Lib.hid hxs
        have h00 : (sc nx i).length = 0 := by rw [h0]; rfl
        rw [h00] at hcell
        clear hxs h0 h00
        go_wp2_with (at_builtin; refine wpList_app rfl (.tmp 36) (.tmp 38) 34 rfl w2.heap.size 3 1 8 int_app _ rfl (hown.alloc _) [.int .i64 (i : Int)] rfl rfl (fun h => by cases h) (cells_at rfl _ _) (one_cell _) h63 hbig (by simp; omega) ?_; intro A7 c7 w7 hown7 hg7 hb7)
        go_round
        case rel =>
          have hlx : (exK nx (i + 1)).length = en + 1 := by rw [HXS.out, List.length_append, HEN.out]; rfl
          exact ⟨i + 1, A7, c7, by omega, by go_num, by rw [hlx], by rw [hlx, HXS.out, ni_append, iv_append]; exact hown7, (hb.alloc hsz _).trans hb7⟩
        case measure => (simp [intOf]; omega)
      · rw [if_neg h0] at hxs
        have HXS := Lib.hid hxs
        obtain ⟨sl, hsl⟩ : ∃ sl, (sc nx i).length = sl := ⟨_, rfl⟩
        rw [hsl] at hcell
        have e0 : ((sl : Int) == 0) = false := by
          have : sl ≠ 0 := fun h => h0 (List.eq_nil_of_length_eq_zero (hsl.trans h))
          simp [this]
        clear hxs h0 hsl
        go_wp2
        go_round
        case rel => exact ⟨i + 1, Af, cf, by omega, by go_num, by rw [HXS.out, HEN.out], by rw [HXS.out, HEN.out]; exact hown, hb⟩
        case measure => (simp [intOf]; omega)
    have hil : len = i := by omega
    subst hil
    have hxr := (hx2.below hb (Nat.le_of_lt hws)).more (show w.heap.size ≤ wr.heap.size by omega)
    rw [← HSTS.out] at hown
    obtain ⟨nf, hnf⟩ : ∃ nf, (sts nx lw).length = nf := ⟨_, rfl⟩
    have hnf' : (exK nx len).length = nf := by rw [← HSTS.out]; exact hnf
    rw [hnf'] 
    rw [hnf] at hown
    have hrd5 := own_rdI hown (by rw [← hnf]; simp [ni])
    have hla := HOWN0.out.below hb hws
    have hbw := hb0.trans (hb.mono (Nat.le_of_lt hws))
    clear hnf'
    go_wp2_with fail
    refine (refTurned_any A _ cap nx _ hxr HL.out HC.out).mono ?_
    rintro e w4 ⟨Ad, capd, rfl, hr4, hb4⟩
    rw [← HDIR.out] at hr4
    have hs4 := hb4.size
    have hq := hmk w4
    have hb5 : Below w4.heap.size w4 (w4.alloc (.cells (uv (List.replicate len 0)).toArray 24)) := by go_grown
    have hfx : Fx w (w4.alloc (.cells (uv (List.replicate len 0)).toArray 24)) nx lw al lw.bw st len A1 c1 A2 c2 Ad Af w4.heap.size (List.replicate len 0) := by
      rw [HBW.out]
      exact ⟨hr4.below hb5 (Nat.le_refl _), ((hrd5.below hb4 (Nat.le_refl _)).more hs4).below hb5 (Nat.le_refl _), (hla.below hb4 hla.lt).alloc _, Own.new w4 _ _, by have := hla.lt; omega, (hbw.trans (hb4.mono hbw.size)).trans (hb5.mono (by have := hla.lt; omega))⟩
    go_wp2
    obtain ⟨g, hg⟩ : ∃ g, w4.heap.size = g := ⟨_, rfl⟩
    rw [hg] at hfx
    rw [hg]
    obtain ⟨wa, hwa⟩ : ∃ wa, wa = w4.alloc (.cells (uv (List.replicate len 0)).toArray 24) := ⟨_, rfl⟩
    rw [← hwa] at hfx
    rw [← hwa]
    clear hwa hg hq hb5 hx2 hxr hrd5 hla hr4 hown hb0 hbw hx0
  all_goals
    go_loopw [9] (fun z wr => ∃ (f : Nat) (os : List Nat), f ≤ 8 ∧ z = .int .i64 f ∧ OwK nx lw f 0 os ∧ Fx w wr nx lw al lw.bw st len A1 c1 A2 c2 Ad Af g os) (fun z _ => 8 - (intOf z).toNat)
    case atStart => exact ⟨0, _, by omega, rfl, HOS.out, hfx⟩
    case round =>
      obtain ⟨f, os, hf, rfl, how, hfx⟩ := hrel
      by_cases hft : f < 8
      · have hft2 : decide ((f : Int) < 8) = true := decide_eq_true (by omega)
        have HOW := Lib.hid how
        have HFX := Lib.hid hfx
        have HNF := Lib.hid hnf
        have hnfl : nf ≤ len := by have := sts_len HC.out (lw := lw); rw [HL.out, hnf] at this; exact this
        have hg1 := hfx.out.lt
        have d4 := hfx.la.cell (j := 4) rfl
        have hwg := hfx.lt
        have hgb := hfx.be
        have hfi := hfx.fi
        have HFN : Hid ((ni (sts nx lw)).length = nf) := Lib.hid (by simp [ni, hnf])
        have hbst : bitB st (f : Int) = st.testBit f := bitB_nat (by omega)
        have hlw : w.heap.size < wr.heap.size := by omega
        obtain ⟨wo, rfl⟩ : ∃ wo : World, wo = wr := ⟨_, rfl⟩
        clear how hfx
        go_wp2
        go_loopw [10, 52] (fun s z wr => ∃ (m : Nat) (hs : List Nat) (A4 : Option Addr) (c4 : Nat), m ≤ nf ∧ z = .int .i64 m ∧ s = .slice A4 hs.length c4 ∧ wr.ownsRow wo.heap.size 3 1 (.slice A4 hs.length c4) hs.length (iv (ni hs)) ∧ Below wo.heap.size wo wr ∧ FIn nx lw f hs ∧ FStK nx lw f m hs) (fun _ z _ => nf - (intOf z).toNat)
        case atStart => exact ⟨0, [], none, 0, Nat.zero_le _, rfl, rfl, World.ownsRow_nil _ _ _ _, Below.refl _ _, FIn.nil, fun i hi => by simp at hi⟩
        case round =>
          obtain ⟨m, hs, A4, c4, hm, rfl, rfl, hown, hb, hfin, hfst⟩ := hrel
          have hsz := hb.size
          by_cases hmt : m < nf
          · obtain ⟨ad1, x', rfl, hbl1, hd1, hc1⟩ := (hfi.below hb (by omega)).at_ (k := m) (by rw [HFN.out]; exact hmt)
            obtain ⟨x, hxx⟩ : ∃ x, (sts nx lw)[m]? = some x := ⟨_, List.getElem?_eq_getElem (by rw [HNF.out]; exact hmt)⟩
            rw [ni_at hxx] at hd1
            injection hd1 with hd1
            subst hd1
            have hxs := List.mem_of_getElem? hxx
            have hxl := sts_lt HC.out hxs
            rw [HL.out] at hxl
            have d4r := (hb.cell (p := ⟨w.heap.size, 4, none⟩) hlw).trans d4
            have hlen := hfin.len
            rw [HL.out] at hlen
            have HNI := Lib.hid (hfin.add HC.out (.here hxs))
            have HNS := Lib.hid (hfst.next hxx)
            obtain ⟨y, hy⟩ : ∃ y, cd nx.length x (lw.st.testBit f) = y := ⟨_, rfl⟩
            rw [hy] at HNI HNS
            rw [HST.out, HL.out] at hy
            obtain ⟨tb, htb⟩ : ∃ tb, st.testBit f = tb := ⟨_, rfl⟩
            rw [htb] at hy
            have hbs : bitB st (f : Int) = tb := hbst.trans htb
            have HBS := Lib.hid hbs
            have hyl : y < 2 * len := by rw [← hy]; exact cd_lt hxl
            have h63 : hs.length + 1 ≤ maxLen := by unfold maxLen; omega
            have h63' : hs.length ≤ maxLen := by unfold maxLen; omega
            have hbig : (hs.length + 1) * 8 ≤ 140737488355328 := by omega
            have hrd := own_rdI hown (by simp [ni])
            have HHL : Hid ((ni hs).length = hs.length) := Lib.hid (by simp [ni])
            obtain ⟨hn, hhn⟩ : ∃ hn, hs.length = hn := ⟨_, rfl⟩
            rw [hhn] at hown h63 h63' hbig HHL
            have HHN := Lib.hid hhn
            have hwz : hn ≤ 16 := by omega
            clear hxx hxs hbs htb hlen hhn hfin hfst
            rw [HHN.out]
            rcases cd_cases hy with ⟨rfl, rfl⟩ | ⟨rfl, hyi⟩
            all_goals
              clear hy
              by_cases hin : y ∈ hs
              focus
                have hb1 : hasB (ni hs) (y : Int) = true := hasB_iff.2 (ni_mem.2 hin)
                have HB1 := Lib.hid hb1
                have HSAME : Hid (addH hs y = hs) := Lib.hid (by unfold addH; rw [if_pos hin])
                rw [HSAME.out] at HNI HNS
                clear hin hb1
                go_wp2_with (first
                  | (go_at_call 19; (with_reducible refine (bit_any st _ _ hst32).mono ?_); rw [HBS.out]; rintro e w5 ⟨rfl, rfl⟩)
                  | (go_at_call 14; (with_reducible refine (has_any _ A4 hn c4 (ni hs) _ _ hrd HHL.out h63').mono ?_); rw [HB1.out]; rintro e w5 ⟨rfl, rfl⟩))
                go_round
                case rel => exact ⟨m + 1, hs, A4, c4, by omega, by go_num, by rw [HHN.out], by rw [HHN.out]; exact hown, hb, HNI.out, HNS.out⟩
                case measure => (simp [intOf]; omega)
              have hb1 : hasB (ni hs) (y : Int) = false := by
                cases h : hasB (ni hs) (y : Int) with
                | false => rfl
                | true => exact absurd (ni_mem.1 (hasB_iff.1 h)) hin
              have HB1 := Lib.hid hb1
              have HSAME : Hid (addH hs y = hs ++ [y]) := Lib.hid (by unfold addH; rw [if_neg hin])
              rw [HSAME.out] at HNI HNS
              clear hin hb1
              go_wp2_with (first
                | (go_at_call 19; (with_reducible refine (bit_any st _ _ hst32).mono ?_); rw [HBS.out]; rintro e w5 ⟨rfl, rfl⟩)
                | (go_at_call 14; (with_reducible refine (has_any _ A4 hn c4 (ni hs) _ _ hrd HHL.out h63').mono ?_); rw [HB1.out]; rintro e w5 ⟨rfl, rfl⟩)
                | (at_builtin; refine wpList_app rfl (.tmp 68) (.tmp 70) 34 rfl wo.heap.size 3 1 8 int_app _ rfl (hown.alloc _) [.int .i64 (y : Int)] rfl rfl (fun h => by cases h) (cells_at rfl _ _) (one_cell _) h63 hbig (by simp; omega) ?_; intro A7 c7 w7 hown7 hg7 hb7))
              go_round
              case rel =>
                have hlx : (hs ++ [y]).length = hn + 1 := by rw [List.length_append, HHN.out]; rfl
                exact ⟨m + 1, hs ++ [y], A7, c7, by omega, by go_num, by rw [hlx], by rw [hlx, ni_append, iv_append]; exact hown7, (hb.alloc hsz _).trans hb7, HNI.out, HNS.out⟩
              case measure => (simp [intOf]; omega)
          · have hmn : m = nf := by omega
            have HFST : Hid (FSt nx lw f hs) := Lib.hid fun i hi => hfst i (by rw [List.take_of_length_le (by rw [HNF.out]; omega)]; exact hi)
            have HFIN := Lib.hid hfin
            have hln : nx.length = len := HL.out
            have h2n : 2 * nx.length = 2 * len := by omega
            have hgwo : g + 1 ≤ wo.heap.size := by omega
            clear hmn hfst hfin
            go_wp2
            go_loopw [10, 14] (fun s z wr => ∃ (hs : List Nat) (k : Nat) (A4 : Option Addr) (c4 : Nat), k ≤ hs.length ∧ z = .int .i64 k ∧ s = .slice A4 hs.length c4 ∧ wr.ownsRow wo.heap.size 3 1 (.slice A4 hs.length c4) hs.length (iv (ni hs)) ∧ Below wo.heap.size wo wr ∧ FIn nx lw f hs ∧ FDn nx lw f hs k ∧ FSt nx lw f hs) (fun s z _ => 2 * (2 * len - lenOf s) + (lenOf s - (intOf z).toNat))
            case atStart => exact ⟨hs, 0, A4, c4, Nat.zero_le _, rfl, rfl, hown, hb, HFIN.out, fun p i b hp => by omega, HFST.out⟩
            case round =>
              obtain ⟨hs, k, A4, c4, hk, rfl, rfl, hown, hb, hfin, hfdn, hfst⟩ := hrel
              have hsz := hb.size
              have hlen := hfin.len
              rw [h2n] at hlen
              have HFIN := Lib.hid hfin
              have HFDN := Lib.hid hfdn
              have HFST := Lib.hid hfst
              clear hfin hfdn hfst
              by_cases hkt : k < hs.length
              · obtain ⟨x, hx'⟩ : ∃ x, hs[k]? = some x := ⟨_, List.getElem?_eq_getElem hkt⟩
                obtain ⟨i, b, hil, hxe, hst'⟩ := HFIN.out.ok x (List.mem_of_getElem? hx')
                obtain ⟨ad4, x', rfl, hbl4, hd4, hc4⟩ := (own_rdI hown (by simp [ni])).at_ (k := k) (by simpa [ni] using hkt)
                rw [ni_at hx'] at hd4
                injection hd4 with hd4
                subst hd4
                rw [hxe] at hx'
                have HDN := Lib.hid (HFDN.out.step hx' hil)
                have HSP := Lib.hid hst'
                rw [hln] at hil hxe
                have hfxr := HFX.out.quiet (hb.mono hgwo)
                obtain ⟨adg, row, Ar, cr, rfl, hblg, hdg, hcg, hrowg⟩ := hfxr.gr.at_ (k := i) (by rw [dirG_len, hln]; exact hil)
                have hrs := dirG_row HC.out hdg
                subst hrs
                obtain ⟨E, hE⟩ : ∃ E, lw.en[i]? = some E := ⟨_, List.getElem?_eq_getElem (by rw [HM2.out]; exact hil)⟩
                obtain ⟨M, hM⟩ : ∃ M, lw.ma[i]? = some M := ⟨_, List.getElem?_eq_getElem (by rw [HM1.out]; exact hil)⟩
                obtain ⟨aE, E', rfl, hblE, hdE, hcE⟩ := (hr2.below hfxr.be (Nat.le_refl _)).at_ (k := i) (by rw [HM2.out]; exact hil)
                rw [hE] at hdE
                injection hdE with hdE
                subst hdE
                obtain ⟨aM, M', rfl, hblM, hdM, hcM⟩ := (hr1.below hfxr.be (Nat.le_refl _)).at_ (k := i) (by rw [HM1.out]; exact hil)
                rw [hM] at hdM
                injection hdM with hdM
                subst hdM
                have hE8 := HK2.out E (List.mem_of_getElem? hE)
                have hM8 := HK1.out M (List.mem_of_getElem? hM)
                have hE32 : E < 4294967296 := by omega
                have hM32 : M < 4294967296 := by omega
                have hebE : enB lw i f = E.testBit f := by unfold enB; rw [List.getD_eq_getElem?_getD, hE]; rfl
                have hebM : mkB lw i f = M.testBit f := by unfold mkB; rw [List.getD_eq_getElem?_getD, hM]; rfl
                have htr : trB lw f i b = (M.testBit f || (b && !E.testBit f)) := by unfold trB; rw [hebE, hebM]
                have hbE : bitB E (f : Int) = E.testBit f := bitB_nat (by omega)
                have hbM : bitB M (f : Int) = M.testBit f := bitB_nat (by omega)
                obtain ⟨eb, heb⟩ : ∃ eb, E.testBit f = eb := ⟨_, rfl⟩
                obtain ⟨mb, hmb⟩ : ∃ mb, M.testBit f = mb := ⟨_, rfl⟩
                rw [heb] at htr hbE
                rw [hmb] at htr hbM
                have HBE := Lib.hid hbE
                have HBM := Lib.hid hbM
                have e3 := hfxr.la.cell (j := 3) rfl
                have e2 := hfxr.la.cell (j := 2) rfl
                have hisb : decide ((x : Int) < (len : Int)) = b := by
                  rw [hxe]
                  unfold cd
                  cases b <;> simp <;> omega
                have hisb2 : decide (x < len) = b := by
                  rw [← hisb]
                  by_cases h : x < len
                  · rw [decide_eq_true h, decide_eq_true (by omega)]
                  · rw [decide_eq_false h, decide_eq_false (by omega)]
                have hmod : (x : Int).tmod (len : Int) = (i : Int) := by
                  rw [Int.tmod_eq_emod_of_nonneg (by omega), hxe]
                  unfold cd
                  cases b
                  · simp only [Bool.false_eq_true, if_false]
                    rw [Int.natCast_add, Int.add_emod_left]
                    exact Int.emod_eq_of_lt (by omega) (by omega)
                  · simp only [if_true]
                    exact Int.emod_eq_of_lt (by omega) (by omega)
                have hn0 : ((len : Int) == 0) = false := by simp; omega
                clear hE hM hebE hebM hbE hbM heb hmb hdg hx' hst' hxe
                obtain ⟨v, hv⟩ : ∃ v, trB lw f i b = v := ⟨_, rfl⟩
                rw [hv] at htr HDN
                have HFK := Lib.hid (fun c => fcK_in HC.out HFIN.out HSP.out c)
                have HFT := Lib.hid (fun c => HFST.out.sub ((((sc (dirG nx lw) i).take c).map fun j => cd nx.length j v)))
                have HGE := Lib.hid (fun c => fcK_ge (nx := nx) (lw := lw) (f := f) (i := i) (b := b) (hs := hs) c)
                have HNX := Lib.hid (fun c j => fcK_next (nx := nx) (lw := lw) (f := f) (i := i) (c := c) (j := j) (b := b) (hs := hs))
                have HZ0 : Hid (fcK nx lw f i b hs 0 = hs) := Lib.hid rfl
                have HALL : Hid (fcK nx lw f i b hs (sc (dirG nx lw) i).length = ((sc (dirG nx lw) i).map fun j => cd nx.length j v).foldl addH hs) := Lib.hid (by unfold fcK; rw [List.take_length, hv])
                rw [hv] at HNX
                rw [← HALL.out] at HDN
                have HFT2 : Hid (FSt nx lw f (fcK nx lw f i b hs (sc (dirG nx lw) i).length)) := Lib.hid (by rw [HALL.out]; exact HFST.out.sub _)
                have HJL := Lib.hid (fun j (hj : j ∈ sc (dirG nx lw) i) => dirG_lt HC.out hj)
                obtain ⟨ss, hss⟩ : ∃ ss, sc (dirG nx lw) i = ss := ⟨_, rfl⟩
                rw [hss] at hrowg hcg HNX HALL HDN HFT2 HJL
                have hnl : (ni ss).length = ss.length := by simp [ni]
                rw [hnl] at hcg
                obtain ⟨sl, hsl⟩ : ∃ sl, ss.length = sl := ⟨_, rfl⟩
                rw [hsl] at hcg hnl HALL HDN HFT2
                have HNL := Lib.hid hnl
                have HSL := Lib.hid hsl
                have hsl8 := dirG_sl HC.out (lw := lw) (i := i)
                have hslm : sl ≤ 8 := by rw [hss, hsl] at hsl8; exact hsl8
                have HFXR := Lib.hid hfxr
                have HHS : Hid (hs.length ≤ 2 * len) := Lib.hid hlen
                obtain ⟨fc, hfc⟩ : ∃ fc, fcK nx lw f i b hs = fc := ⟨_, rfl⟩
                rw [hfc] at HFK HGE HNX HZ0 HALL HDN HFT2
                have hrow0 := hown
                obtain ⟨wq, rfl⟩ : ∃ wq : World, wq = wr := ⟨_, rfl⟩
                clear hss hnl hsl hfxr hfc hv HFT hsl8
                have hcomb : (mb = true ∧ v = true) ∨ (mb = false ∧ eb = true ∧ v = false) ∨ (mb = false ∧ eb = false ∧ v = b) := by
                  cases mb <;> cases eb <;> cases b <;> simp_all
                clear htr
                rcases hcomb with ⟨rfl, rfl⟩ | ⟨rfl, rfl, rfl⟩ | ⟨rfl, rfl, rfl⟩
                focus cases eb
                rotate_left 3
                focus cases v
                all_goals
                  go_wp2_with (first
                    | (go_at_call 19; (with_reducible refine (bit_any E _ _ hE32).mono ?_); rw [HBE.out]; rintro e w5 ⟨rfl, rfl⟩)
                    | (go_at_call 19; (with_reducible refine (bit_any M _ _ hM32).mono ?_); rw [HBM.out]; rintro e w5 ⟨rfl, rfl⟩))
                all_goals
                  go_loopw [10, 110] (fun s z wr => ∃ (c : Nat) (A5 : Option Addr) (c5 : Nat), c ≤ sl ∧ z = .int .i64 c ∧ s = .slice A5 (fc c).length c5 ∧ wr.ownsRow wo.heap.size 3 1 (.slice A5 (fc c).length c5) (fc c).length (iv (ni (fc c))) ∧ Below wo.heap.size wo wr) (fun _ z _ => sl - (intOf z).toNat)
                  case atStart => exact ⟨0, some ad4, c4, Nat.zero_le _, rfl, by rw [HZ0.out], by rw [HZ0.out]; exact hrow0, hb⟩
                  case round =>
                    obtain ⟨c, A5, c5, hcc, rfl, rfl, hownc, hbc⟩ := hrel
                    have hszc := hbc.size
                    have hfl := (HFK.out c).len
                    rw [h2n] at hfl
                    by_cases hct : c < sl
                    · obtain ⟨j, hj⟩ : ∃ j, ss[c]? = some j := ⟨_, List.getElem?_eq_getElem (by rw [HSL.out]; exact hct)⟩
                      have hjl := HJL.out j (List.mem_of_getElem? hj)
                      rw [hln] at hjl
                      have hrowc : RdI wr g Ar (ni ss) := Rd.keep hrowg fun p hp => (hbc.cell (by omega)).trans (hb.cell (by omega)).symm
                      obtain ⟨ar, j', rfl, hbr, hjr, hcj⟩ := hrowc.at_ (k := c) (by rw [HNL.out]; exact hct)
                      rw [ni_at hj] at hjr
                      injection hjr with hjr
                      subst hjr
                      have hnx := HNX.out c j hj
                      rw [hln] at hnx
                      obtain ⟨y, hy, hnx2⟩ := cd_ex hnx
                      have HNX2 := Lib.hid hnx2
                      have hrdc := own_rdI hownc (by simp [ni])
                      obtain ⟨cur, hcur⟩ : ∃ cur, fc c = cur := ⟨_, rfl⟩
                      rw [hcur] at HNX2 hownc hfl hrdc
                      obtain ⟨cn, hcn⟩ : ∃ cn, cur.length = cn := ⟨_, rfl⟩
                      rw [hcn] at hownc hfl
                      have HCN := Lib.hid hcn
                      have HCUR : Hid ((fc c).length = cn) := Lib.hid (by rw [hcur]; exact hcn)
                      have HNC : Hid ((ni cur).length = cn) := Lib.hid (by simp [ni, hcn])
                      have h63 : cn + 1 ≤ maxLen := by unfold maxLen; omega
                      have h63' : cn ≤ maxLen := by unfold maxLen; omega
                      have hbig : (cn + 1) * 8 ≤ 140737488355328 := by omega
                      rw [HCUR.out]
                      clear hj hnx hnx2 hcur hcn
                      have hyl : y < 2 * len := by rw [← hy]; exact cd_lt hjl
                      rcases cd_cases hy with ⟨hvv, rfl⟩ | ⟨hvv, hyi⟩
                      all_goals
                        cases hvv
                      all_goals
                        clear hy
                        by_cases hin : y ∈ cur
                        focus
                          have hb1 : hasB (ni cur) (y : Int) = true := hasB_iff.2 (ni_mem.2 hin)
                          have HB1 := Lib.hid hb1
                          have HSAME : Hid (fc (c + 1) = cur) := Lib.hid (by rw [HNX2.out]; unfold addH; rw [if_pos hin])
                          clear hin hb1
                          go_wp2_with (go_at_call 14; (with_reducible refine (has_any _ A5 cn c5 (ni cur) _ _ hrdc HNC.out h63').mono ?_); rw [HB1.out]; rintro e w5 ⟨rfl, rfl⟩)
                          go_round
                          case rel => exact ⟨c + 1, A5, c5, by omega, by go_num, by rw [HSAME.out, HCN.out], by rw [HSAME.out, HCN.out]; exact hownc, hbc⟩
                          case measure => (simp [intOf]; omega)
                        have hb1 : hasB (ni cur) (y : Int) = false := by
                          cases h : hasB (ni cur) (y : Int) with
                          | false => rfl
                          | true => exact absurd (ni_mem.1 (hasB_iff.1 h)) hin
                        have HB1 := Lib.hid hb1
                        have HSAME : Hid (fc (c + 1) = cur ++ [y]) := Lib.hid (by rw [HNX2.out]; unfold addH; rw [if_neg hin])
                        clear hin hb1
                        go_wp2_with (first
                          | (go_at_call 14; (with_reducible refine (has_any _ A5 cn c5 (ni cur) _ _ hrdc HNC.out h63').mono ?_); rw [HB1.out]; rintro e w5 ⟨rfl, rfl⟩)
                          | (at_builtin; refine wpList_app rfl (.tmp 123) (.tmp 125) 34 rfl wo.heap.size 3 1 8 int_app _ rfl (hownc.alloc _) [.int .i64 (y : Int)] rfl rfl (fun h => by cases h) (cells_at rfl _ _) (one_cell _) h63 hbig (by simp; omega) ?_; intro A7 c7 w7 hown7 hg7 hb7))
                        go_round
                        case rel =>
                          have hlx : (fc (c + 1)).length = cn + 1 := by rw [HSAME.out, List.length_append, HCN.out]; rfl
                          exact ⟨c + 1, A7, c7, by omega, by go_num, by rw [hlx], by rw [hlx, HSAME.out, ni_append, iv_append]; exact hown7, (hbc.alloc hszc _).trans hb7⟩
                        case measure => (simp [intOf]; omega)
                    · have hcs : sl = c := by omega
                      subst hcs
                      have hge := HGE.out sl
                      have HF3 := Lib.hid (HFK.out sl)
                      show Code.wp _ _ _ _ _
                      go_wp2
                      go_round
                      case rel => exact ⟨fc sl, k + 1, A5, c5, by omega, by go_num, rfl, hownc, hbc, HF3.out, HDN.out, HFT2.out⟩
                      case measure =>
                        simp [intOf, lenOf]
                        omega
              · have hkn : k = hs.length := by omega
                rw [hkn] at HFDN
                have HMEM : Hid (∀ i b, i < nx.length → (cd nx.length i b ∈ hs ↔ StP nx lw f i b)) := Lib.hid fun i b hi => HFIN.out.all HC.out HFDN.out HFST.out hi
                have hfxr := HFX.out.quiet (hb.mono hgwo)
                have hHH : hs.length ≤ 16 := by omega
                obtain ⟨hn, hhn⟩ : ∃ hn, hs.length = hn := ⟨_, rfl⟩
                rw [hhn] at hown hHH hkn ⊢
                have HHN : Hid ((ni hs).length = hn) := Lib.hid (by simp [ni, hhn])
                have HFXR := Lib.hid hfxr
                obtain ⟨wq, rfl⟩ : ∃ wq : World, wq = wr := ⟨_, rfl⟩
                have h63 : hn ≤ maxLen := by unfold maxLen; omega
                subst hkn
                clear hhn hfxr
                go_wp2
                go_loopw [20] (fun z wr => ∃ (m : Nat) (os' : List Nat), m ≤ len ∧ z = .int .i64 m ∧ OwK nx lw f m os' ∧ Fx w wr nx lw al lw.bw st len A1 c1 A2 c2 Ad Af g os' ∧ wr.ownsRow wo.heap.size 3 1 (.slice A4 k c4) k (iv (ni hs))) (fun z _ => len - (intOf z).toNat)
                case atStart => exact ⟨0, os, Nat.zero_le _, rfl, HOW.out, HFXR.out, hown⟩
                case round =>
                  obtain ⟨m, os', hm, rfl, how, hfx, hownr⟩ := hrel
                  have HOW2 := Lib.hid how
                  have HFX2 := Lib.hid hfx
                  by_cases hmt : m < len
                  · obtain ⟨W, hW⟩ : ∃ W, os'[m]? = some W := ⟨_, List.getElem?_eq_getElem (by rw [how.len, hln]; exact hmt)⟩
                    have hcW := hfx.out.cell (uv_at hW)
                    have hfW := hfx.out.frozen m
                    have hWl := (how.lo m W (Nat.le_refl _) hW).1
                    have hWp : 2 ^ f ≤ 2 ^ 8 := Nat.pow_le_pow_right (by omega) (by omega)
                    have hW32 : W < 4294967296 := by omega
                    have d1 := hfx.la.cell (j := 1) rfl
                    have hf32 : f < 32 := by omega
                    have hor : bits .or .u32 ((W : Nat) : Int) ((2 : Int) ^ f % 4294967296) = ((W ||| 2 ^ f : Nat) : Int) := by rw [pow_u32' hf32]; exact u32_or_nat _ _ hW32 (pow_lt_32 hf32)
                    have HOR := Lib.hid hor
                    have hrd := own_rdI hownr (by simp [ni, HHN.out] <;> simpa [ni] using HHN.out)
                    have hm1 := HMEM.out m true (by rw [hln]; exact hmt)
                    have hm0 := HMEM.out m false (by rw [hln]; exact hmt)
                    rw [hln] at hm1 hm0
                    have hc1 : cd len m true = m := rfl
                    have hc0 : cd len m false = len + m := rfl
                    rw [hc1] at hm1
                    rw [hc0] at hm0
                    have HYES := Lib.hid (fun h => how.yes hW h)
                    have HNO := Lib.hid (fun h => how.no (m := m) h)
                    have hSl : SlP nx lw m f ↔ if al = true then len + m ∉ hs else m ∈ hs := by
                      unfold SlP
                      rw [HAL.out, hm1, hm0]
                    have HSL := Lib.hid hSl
                    obtain ⟨y, hy⟩ : ∃ y, len + m = y := ⟨_, rfl⟩
                    have hyi : (len : Int) + (m : Int) = (y : Int) := by omega
                    rw [hy] at HSL
                    clear hW how hfx hWl hWp hor hm1 hm0 hc1 hc0 hSl hy
                    cases al with
                    | true =>
                      by_cases hin : y ∈ hs
                      · have hb1 : hasB (ni hs) (y : Int) = true := hasB_iff.2 (ni_mem.2 hin)
                        have HB1 := Lib.hid hb1
                        have HN := Lib.hid (HNO.out (fun h => by have := HSL.out.1 h; rw [if_pos rfl] at this; exact this hin))
                        clear hin hb1
                        go_wp2_with (go_at_call 14; (with_reducible refine (has_any _ A4 k c4 (ni hs) _ _ hrd HHN.out h63).mono ?_); rw [HB1.out]; rintro e w5 ⟨rfl, rfl⟩)
                        go_round
                        case rel => exact ⟨m + 1, os', by omega, by go_num, HN.out, HFX2.out, hownr⟩
                        case measure => (simp [intOf]; omega)
                      · have hb1 : hasB (ni hs) (y : Int) = false := by
                          cases h : hasB (ni hs) (y : Int) with
                          | false => rfl
                          | true => exact absurd (ni_mem.1 (hasB_iff.1 h)) hin
                        have HB1 := Lib.hid hb1
                        have HY := Lib.hid (HYES.out (HSL.out.2 (by rw [if_pos rfl]; exact hin)))
                        clear hin hb1
                        go_wp2_with (go_at_call 14; (with_reducible refine (has_any _ A4 k c4 (ni hs) _ _ hrd HHN.out h63).mono ?_); rw [HB1.out]; rintro e w5 ⟨rfl, rfl⟩)
                        go_round
                        case rel => exact ⟨m + 1, _, by omega, by go_num, HY.out, by rw [HOR.out]; exact HFX2.out.set m _, own_farW hownr (show g < wo.heap.size from hgwo) _⟩
                        case measure => (simp [intOf]; omega)
                    | false =>
                      by_cases hin : m ∈ hs
                      · have hb1 : hasB (ni hs) (m : Int) = true := hasB_iff.2 (ni_mem.2 hin)
                        have HB1 := Lib.hid hb1
                        have HY := Lib.hid (HYES.out (HSL.out.2 (by rw [if_neg (by simp)]; exact hin)))
                        clear hin hb1
                        go_wp2_with (go_at_call 14; (with_reducible refine (has_any _ A4 k c4 (ni hs) _ _ hrd HHN.out h63).mono ?_); rw [HB1.out]; rintro e w5 ⟨rfl, rfl⟩)
                        go_round
                        case rel => exact ⟨m + 1, _, by omega, by go_num, HY.out, by rw [HOR.out]; exact HFX2.out.set m _, own_farW hownr (show g < wo.heap.size from hgwo) _⟩
                        case measure => (simp [intOf]; omega)
                      · have hb1 : hasB (ni hs) (m : Int) = false := by
                          cases h : hasB (ni hs) (m : Int) with
                          | false => rfl
                          | true => exact absurd (ni_mem.1 (hasB_iff.1 h)) hin
                        have HB1 := Lib.hid hb1
                        have HN := Lib.hid (HNO.out (fun h => by have := HSL.out.1 h; rw [if_neg (by simp)] at this; exact hin this))
                        clear hin hb1
                        go_wp2_with (go_at_call 14; (with_reducible refine (has_any _ A4 k c4 (ni hs) _ _ hrd HHN.out h63).mono ?_); rw [HB1.out]; rintro e w5 ⟨rfl, rfl⟩)
                        go_round
                        case rel => exact ⟨m + 1, os', by omega, by go_num, HN.out, HFX2.out, hownr⟩
                        case measure => (simp [intOf]; omega)
                  · have hml : m = len := by omega
                    rw [hml, ← hln] at how
                    have HUP := Lib.hid how.up
                    clear hml how
                    show Code.wp _ _ _ _ _
                    go_wp2
                    go_round
                    case rel => exact ⟨f + 1, os', by omega, by go_num, HUP.out, HFX2.out⟩
                    case measure => (simp [intOf]; omega)
      · have hf8 : f = 8 := by omega
        subst hf8
        have HSV := Lib.hid how.done
        have HRU := Lib.hid ((OwnU.rd hfx.out).more hfx.out.lt)
        have hbe := hfx.be
        clear how hfx
        go_wp2
        go_ret
        exact ⟨os, _, _, HSV.out, rfl, HRU.out, hbe⟩

end Go.Proofs.Ytmbabbdcijgnoaa
