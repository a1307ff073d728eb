/-
  codemasonref.Walk (E2): the search in depth, what was seen and what was left.
-/
import Derived.Test.YtpbajalecfaibaaGraph
import Derived.Test.YtpbajalecfaibaaPureDeep
namespace Go.Proofs.Ytpbajalecfaibaa
open Go.RowKit
set_option linter.unusedSimpArgs false
set_option linter.unusedVariables false
set_option maxRecDepth 100000

structure Wl (w : World) (B : Nat) (s : Sn) (A1 : Option Addr) (c1 : Nat) (A2 : Option Addr) (c2 : Nat) : Prop where
  r1 : w.ownsRow B 3 1 (.slice A1 s.1.length c1) s.1.length (iv (ni s.1))
  r2 : w.ownsRow B 3 1 (.slice A2 s.2.length c2) s.2.length (iv (ni s.2))
  ap : ∀ g, (Value.slice A1 s.1.length c1).ownBlock = some g → (Value.slice A2 s.2.length c2).ownBlock ≠ some g
  sz : B ≤ w.heap.size

section
variable {X Y : World} {B : Nat} {s : Sn} {A1 A2 : Option Addr} {c1 c2 : Nat}

theorem Wl.nil {w : World} {B : Nat} (h : B ≤ w.heap.size) : Wl w B ([], []) none 0 none 0 := ⟨World.ownsRow_nil _ _ _ _, World.ownsRow_nil _ _ _ _, (fun g h => by simp [Value.ownBlock] at h), h⟩

theorem Wl.quiet (h : Wl X B s A1 c1 A2 c2) (hb : Below X.heap.size X Y) : Wl Y B s A1 c1 A2 c2 := ⟨own_below h.r1 hb, own_below h.r2 hb, h.ap, Nat.le_trans h.sz hb.size⟩

theorem ownBlock_len {A : Option Addr} {n m c d : Nat} : (Value.slice A n c).ownBlock = (Value.slice A m d).ownBlock := by
  cases A <;> rfl

theorem Wl.seen (h : Wl X B s A1 c1 A2 c2) {x : Nat} {A' : Option Addr} {c' : Nat} (ho : Y.ownsRow B 3 1 (.slice A' (s.1.length + 1) c') (s.1.length + 1) (iv (ni s.1) ++ [.int .i64 (x : Int)]))
    (hg : X.grownBy Y (Value.slice A1 s.1.length c1).ownBlock) (hp : (Value.slice A' (s.1.length + 1) c').ownBlock = (Value.slice A1 s.1.length c1).ownBlock ∨ (Value.slice A' (s.1.length + 1) c').ownBlock = some X.heap.size) :
    Wl Y B (s.1 ++ [x], s.2) A' c' A2 c2 := by
  have e : (s.1 ++ [x]).length = s.1.length + 1 := by simp
  refine ⟨?_, h.r2.kept hg ?_, fun g hg1 hg2 => ?_, Nat.le_trans h.sz hg.size⟩
  · simp only [e, ni_append, iv_append]
    exact ho
  · cases he : (Value.slice A2 s.2.length c2).ownBlock with
    | none => exact .inl rfl
    | some g => exact .inr fun e => h.ap g e.symm he
  · simp only [e] at hg1
    rcases hp with hp | hp
    · exact h.ap g (by rw [← hp]; exact hg1) hg2
    · rw [hp] at hg1
      injection hg1 with hg1
      have := (h.r2.lt g hg2).2
      omega

theorem Wl.left (h : Wl X B s A1 c1 A2 c2) {x : Nat} {A' : Option Addr} {c' : Nat} (ho : Y.ownsRow B 3 1 (.slice A' (s.2.length + 1) c') (s.2.length + 1) (iv (ni s.2) ++ [.int .i64 (x : Int)]))
    (hg : X.grownBy Y (Value.slice A2 s.2.length c2).ownBlock) (hp : (Value.slice A' (s.2.length + 1) c').ownBlock = (Value.slice A2 s.2.length c2).ownBlock ∨ (Value.slice A' (s.2.length + 1) c').ownBlock = some X.heap.size) :
    Wl Y B (s.1, s.2 ++ [x]) A1 c1 A' c' := by
  have e : (s.2 ++ [x]).length = s.2.length + 1 := by simp
  refine ⟨h.r1.kept hg ?_, ?_, fun g hg1 hg2 => ?_, Nat.le_trans h.sz hg.size⟩
  · cases he : (Value.slice A1 s.1.length c1).ownBlock with
    | none => exact .inl rfl
    | some g => exact .inr fun e => h.ap g he e.symm
  · simp only [e, ni_append, iv_append]
    exact ho
  · simp only [e] at hg2
    rcases hp with hp | hp
    · exact h.ap g hg1 (by rw [← hp]; exact hg2)
    · rw [hp] at hg2
      injection hg2 with hg2
      have := (h.r1.lt g hg1).2
      omega

theorem Wl.below1 (h : Wl X B s A1 c1 A2 c2) (hg : X.grownBy Y (Value.slice A1 s.1.length c1).ownBlock) : Below B X Y := (Below.refl _ X).grown hg h.sz fun g hg => (h.r1.lt g hg).1

theorem Wl.below2 (h : Wl X B s A1 c1 A2 c2) (hg : X.grownBy Y (Value.slice A2 s.2.length c2).ownBlock) : Below B X Y := (Below.refl _ X).grown hg h.sz fun g hg => (h.r2.lt g hg).1

end

/-- where the search is behind k of i's edges -/
def wkK (nx : List (List Int)) (f i : Nat) (s : Sn) (k : Nat) : Sn := ((sc nx i).take k).foldl (wkJ nx f) (s.1 ++ [i], s.2)

theorem wkK_next {nx : List (List Int)} {f i k x : Nat} {s : Sn} (h : (sc nx i)[k]? = some x) : wkK nx f i s (k + 1) = wkJ nx f (wkK nx f i s k) x := by
  unfold wkK
  rw [List.take_add_one, h, Option.toList_some, List.foldl_append]
  rfl

theorem wkK_all {nx : List (List Int)} {f i : Nat} {s : Sn} : wkF nx (f + 1) i s = ((wkK nx f i s (sc nx i).length).1, (wkK nx f i s (sc nx i).length).2 ++ [i]) := by
  rw [wkF_succ]
  unfold wkK
  rw [List.take_length]

theorem wa_step {nx : List (List Int)} {f i : Nat} {s : Sn} (ha : Wa nx (f + 1) s) (hi : i < nx.length) (hin : i ∉ s.1) : Wa nx f (s.1 ++ [i], s.2) := by
  refine ⟨?_, fun x hx => ?_, ?_⟩
  · rw [List.nodup_append]
    exact ⟨ha.nd, by simp, fun a ha' b hb e => by simp at hb; subst hb e; exact hin ha'⟩
  · rcases List.mem_append.1 hx with hx | hx
    · exact ha.lt x hx
    · simp at hx; subst hx; exact hi
  · have := ha.fu
    simp only [List.length_append, List.length_singleton]
    omega

/-- what holds of the search behind k edges -/
theorem wkK_ok {nx : List (List Int)} (hc : ckWay nx = 0) {f i : Nat} {s : Sn} (ha : Wa nx (f + 1) s) (hi : i < nx.length) (hin : i ∉ s.1) (hl : s.2.length ≤ s.1.length) (k : Nat) :
    Wa nx f (wkK nx f i s k) ∧ (wkK nx f i s k).2.length ≤ (wkK nx f i s k).1.length ∧ (wkK nx f i s k).1.length ≤ nx.length := by
  obtain ⟨new, newl, h, _⟩ := wkL_spec hc (i := i) (fun j s ha hj hjs => wk_spec hc f j s ha hj hjs) ((sc nx i).take k) (s.1 ++ [i], s.2) (fun x hx => List.mem_of_mem_take hx) (by simp) (wa_step ha hi hin)
  have e1 := h.e1
  have e2 := h.e2
  have hn := nodup_len h.nd h.lt
  have hfu := (wa_step ha hi hin).fu
  have hln := h.ln
  change (wkK nx f i s k).1 = _ at e1
  change (wkK nx f i s k).2 = _ at e2
  change (wkK nx f i s k).1.length ≤ _ at hn
  refine ⟨⟨h.nd, h.lt, ?_⟩, ?_, hn⟩
  · change nx.length ≤ (wkK nx f i s k).1.length + f
    rw [e1, List.length_append]
    omega
  · rw [e1, e2]
    simp only [List.length_append, List.length_singleton]
    omega

theorem wa_zero {nx : List (List Int)} {i : Nat} {s : Sn} (ha : Wa nx 0 s) (hi : i < nx.length) (hin : i ∉ s.1) : False := by
  have h1 : (i :: s.1).length ≤ nx.length := nodup_len (List.nodup_cons.2 ⟨hin, ha.nd⟩) fun x hx => by
    rcases List.mem_cons.1 hx with rfl | hx
    · exact hi
    · exact ha.lt x hx
  have := ha.fu
  simp at h1
  omega

set_option maxHeartbeats 4000000 in
theorem refWalk_any (A : Option Addr) (len cap : Nat) (nx : List (List Int)) (B : Nat) (hl : nx.length = len) (hc : ckWay nx = 0) : ∀ (f i : Nat) (s : Sn) (A1 A2 : Option Addr) (c1 c2 : Nat) (w : World), RdG w B A nx → Wa nx f s → i < len → i ∉ s.1 → s.2.length ≤ s.1.length → Wl w B s A1 c1 A2 c2 →
    Calls Try.prog 49 #[.slice A len cap, .int .i64 i, .slice A1 s.1.length c1, .slice A2 s.2.length c2] w fun e w' =>
      ∃ A1' c1' A2' c2', e = .returned (.tuple #[.slice A1' (wkF nx f i s).1.length c1', .slice A2' (wkF nx f i s).2.length c2']) ∧ Wl w' B (wkF nx f i s) A1' c1' A2' c2' ∧ Below B w w'
  | 0, i, s, A1, A2, c1, c2, w, hx, ha, hi, hin, hsl, hw => (wa_zero ha (by rw [hl]; exact hi) hin).elim
  | f + 1, i, s, A1, A2, c1, c2, w, hx, ha, hi, hin, hsl, hw => by
    have IH := Lib.hid (refWalk_any A len cap nx B hl hc f)
    obtain ⟨b1, b2, b3⟩ := ckWay_bd hc
    have hsz : s.1.length ≤ nx.length := nodup_len ha.nd ha.lt
    have HOK := Lib.hid (wkK_ok hc ha (by rw [hl]; exact hi) hin hsl)
    have HNX := Lib.hid (fun k x => wkK_next (nx := nx) (f := f) (i := i) (k := k) (x := x) (s := s))
    have H0 : Hid (wkK nx f i s 0 = (s.1 ++ [i], s.2)) := Lib.hid rfl
    rw [wkK_all]
    have hslen := sc_len hc i
    have HSC := Lib.hid (fun x => sc_lt hc (i := i) (x := x))
    obtain ⟨ad, row, Ar, cr, rfl, hbl, hd, hcell, hrow⟩ := hx.at_ (k := i) (by rw [hl]; exact hi)
    have hrs := row_sc hc hd
    subst hrs
    have HSL : (ni (sc nx i)).length = (sc nx i).length := by simp [ni]
    rw [HSL] at hcell
    have HL := Lib.hid hl
    rw [hl] at b1 b2 hsz
    generalize wkK nx f i s = st at *
    generalize sc nx i = ss at *
    obtain ⟨sl, hsl2⟩ : ∃ sl, ss.length = sl := ⟨_, rfl⟩
    rw [hsl2] at hcell hslen ⊢
    have HSS := Lib.hid hsl2
    obtain ⟨n1, hn1⟩ : ∃ n1, s.1.length = n1 := ⟨_, rfl⟩
    obtain ⟨n2, hn2⟩ : ∃ n2, s.2.length = n2 := ⟨_, rfl⟩
    rw [hn1] at hsz hsl
    rw [hn2] at hsl
    have h63 : n1 + 1 ≤ maxLen := by unfold maxLen; omega
    have hbig : (n1 + 1) * 8 ≤ 140737488355328 := by omega
    have hr1 := hw.r1
    have hsB := hw.sz
    have hbB : (ad.add i).block < w.heap.size := by omega
    rw [hn1] at hr1 ⊢
    rw [hn2]
    have HW := Lib.hid hw
    have HN1 := Lib.hid hn1
    have HN2 := Lib.hid hn2
    clear hl hc hd HSL ha hin b3 hsl2 hw hn1 hn2
    simp only [List.length_append, List.length_singleton]
    go_enter Try.func49, Try.ntmps49
    go_wp2_with (at_builtin; refine wpList_app' rfl (.tmp 12) (.tmp 14) 37 rfl B 3 1 8 int_app _ rfl (hr1.alloc _) [.int .i64 (i : Int)] rfl rfl (fun h => by cases h) (cells_at rfl _ _) (one_cell _) h63 hbig (by simp; omega) ?_; intro A3 c3 w3 hown3 hg3 hb3 hp3; have hcell3 := (hb3.cell (p := ad.add i) hbl).trans (((by go_grown : Below w.heap.size w _).cell (p := ad.add i) hbB).trans hcell); have hW0 := Wl.seen (HW.out.quiet (Y := w.alloc (.cells #[.int .i64 (i : Int)] 3)) (by go_grown)) (x := i) (by rw [HN1.out]; exact hown3) (by rw [HN1.out]; exact hg3) (by rw [HN1.out]; exact hp3); have hbw3 : Below B w w3 := ((by go_grown : Below w.heap.size w (w.alloc (.cells #[.int .i64 (i : Int)] 3))).mono hsB).trans hb3)
    go_loopw [2, 3, 21] (fun s2 s3 z wr => ∃ (k : Nat) (A4 : Option Addr) (c4 : Nat) (A5 : Option Addr) (c5 : Nat), k ≤ sl ∧ z = .int .i64 k ∧ s2 = .slice A4 (st k).1.length c4 ∧ s3 = .slice A5 (st k).2.length c5 ∧ Wl wr B (st k) A4 c4 A5 c5 ∧ Below B w wr) (fun _ _ z _ => sl - (intOf z).toNat)
    case atStart => exact ⟨0, A3, c3, A2, c2, Nat.zero_le _, rfl, by rw [H0.out]; simp [HN1.out], by rw [H0.out]; simp only [HN2.out], by rw [H0.out]; exact hW0, hbw3⟩
    case round =>
      obtain ⟨k, A4, c4, A5, c5, hk, rfl, rfl, rfl, hWk, hbk⟩ := hrel
      obtain ⟨hwa, hl1, hl2⟩ := HOK.out k
      rw [HL.out] at hl2
      by_cases hlt : k < sl
      · obtain ⟨x, hxc⟩ : ∃ x, ss[k]? = some x := ⟨_, List.getElem?_eq_getElem (by rw [HSS.out]; exact hlt)⟩
        have hnx := HNX.out k x hxc
        have hxl := HSC.out x (List.mem_of_getElem? hxc)
        rw [HL.out] at hxl
        have hrowi : RdI wr B Ar (ni ss) := hrow.below hbk (Nat.le_refl _)
        obtain ⟨ar, x', rfl, hbr, hxr, hcx⟩ := hrowi.at_ (k := k) (by simp [ni]; rw [HSS.out]; exact hlt)
        rw [ni_at hxc] at hxr
        injection hxr with hxr
        subst hxr
        have hr1k := hWk.r1
        have hrd := own_rdI hr1k (by simp [ni])
        have hxg := hx.below hbk (Nat.le_refl _)
        generalize st k = sk at *
        obtain ⟨m1, hm1⟩ : ∃ m1, sk.1.length = m1 := ⟨_, rfl⟩
        obtain ⟨m2, hm2⟩ : ∃ m2, sk.2.length = m2 := ⟨_, rfl⟩
        have h63' : m1 ≤ maxLen := by unfold maxLen; omega
        have HWK := Lib.hid hWk
        have HWA := Lib.hid hwa
        have HL1 := Lib.hid hl1
        have HM1 : Hid ((ni sk.1).length = m1) := Lib.hid (by simp [ni, hm1])
        clear hxc hwa hl1 hWk
        by_cases hin : x ∈ sk.1
        · have hb1 : hasB (ni sk.1) (x : Int) = true := hasB_iff.2 (ni_mem.2 hin)
          rw [show wkJ nx f sk x = sk from by unfold wkJ; rw [if_pos hin]] at hnx
          have HNX2 := Lib.hid hnx
          rw [hm1, hm2]
          have HE1 := Lib.hid hm1
          have HE2 := Lib.hid hm2
          clear hnx hin hm1 hm2
          go_wp2_with (go_at_call 30; (with_reducible refine (has_any _ _ _ _ (ni sk.1) _ _ hrd HM1.out h63').mono ?_); rintro e w5 ⟨rfl, rfl⟩)
          go_round
          case rel => exact ⟨k + 1, A4, c4, A5, c5, by omega, by go_num, by rw [HNX2.out, HE1.out], by rw [HNX2.out, HE2.out], by rw [HNX2.out]; exact HWK.out, hbk⟩
          case measure => (simp [intOf]; omega)
        · have hb1 : hasB (ni sk.1) (x : Int) = false := by
            cases h : hasB (ni sk.1) (x : Int) with
            | false => rfl
            | true => exact absurd (ni_mem.1 (hasB_iff.1 h)) hin
          rw [show wkJ nx f sk x = wkF nx f x sk from by unfold wkJ; rw [if_neg hin]] at hnx
          have HNX2 := Lib.hid hnx
          have HIN := Lib.hid hin
          have HIX := Lib.hid (IH.out x sk A4 A5 c4 c5 wr hxg HWA.out hxl hin HL1.out HWK.out)
          rw [hm1, hm2] at HIX ⊢
          clear hnx hin hm1 hm2
          go_wp2_with (first
            | (go_at_call 30; (with_reducible refine (has_any _ _ _ _ (ni sk.1) _ _ hrd HM1.out h63').mono ?_); rintro e w5 ⟨rfl, rfl⟩)
            | (go_at_call 49; (with_reducible refine HIX.out.mono ?_); rintro e w5 ⟨A6, c6, A7, c7, rfl, hW5, hb5⟩))
          go_round
          case rel => exact ⟨k + 1, A6, c6, A7, c7, by omega, by go_num, by rw [HNX2.out], by rw [HNX2.out], by rw [HNX2.out]; exact hW5, hbk.trans hb5⟩
          case measure => (simp [intOf]; omega)
      · have hks : k = sl := by omega
        subst hks
        have hr2k := hWk.r2
        have hsz2 := hWk.sz
        obtain ⟨sk, hsk⟩ : ∃ sk, st k = sk := ⟨_, rfl⟩
        rw [hsk] at hWk hr2k hl1 hl2 hwa ⊢
        have HSK := Lib.hid hsk
        clear hsk
        have HWK := Lib.hid hWk
        have HLS := Lib.hid (by omega : sk.2.length + 1 ≤ 9)
        obtain ⟨m1, hm1⟩ : ∃ m1, sk.1.length = m1 := ⟨_, rfl⟩
        obtain ⟨m2, hm2⟩ : ∃ m2, sk.2.length = m2 := ⟨_, rfl⟩
        rw [hm2] at hr2k
        have h63' : m2 + 1 ≤ maxLen := by unfold maxLen; omega
        have hbig' : (m2 + 1) * 8 ≤ 140737488355328 := by omega
        rw [hm1, hm2]
        have HE1 := Lib.hid hm1
        have HE2 := Lib.hid hm2
        clear hwa hl1 hWk hm1 hm2
        go_wp2_with (at_builtin; refine wpList_app' rfl (.tmp 39) (.tmp 41) 37 rfl B 3 1 8 int_app _ rfl (hr2k.alloc _) [.int .i64 (i : Int)] rfl rfl (fun h => by cases h) (cells_at rfl _ _) (one_cell _) h63' hbig' (by simp; omega) ?_; intro A8 c8 w8 hown8 hg8 hb8 hp8; have hW8 := Wl.left (HWK.out.quiet (Y := wr.alloc (.cells #[.int .i64 (i : Int)] 3)) (by go_grown)) (x := i) (by rw [HE2.out]; exact hown8) (by rw [HE2.out]; exact hg8) (by rw [HE2.out]; exact hp8); have hbw8 : Below B w w8 := (hbk.trans ((by go_grown : Below wr.heap.size wr (wr.alloc (.cells #[.int .i64 (i : Int)] 3))).mono hsz2)).trans hb8)
        go_ret2
        rw [HSK.out, HE1.out, HE2.out]
        exact ⟨A4, c4, A8, c8, rfl, hW8, hbw8⟩

end Go.Proofs.Ytpbajalecfaibaa
