/-
  codemasonref.Folded (G2): foldings, as long as there are any.
-/
import Derived.Test.YtpbajalecfaibaaFoldedRef
import Derived.Test.YtpbajalecfaibaaPureFolded
import Derived.Test.YtpbajalecfaibaaReachRef
import Derived.Test.YtpbajalecfaibaaTurned
namespace Go.Proofs.Ytpbajalecfaibaa
open Go.RowKit
set_option linter.unusedSimpArgs false
set_option linter.unusedVariables false
set_option maxRecDepth 100000

theorem zero_bool (w : World) : (zeroValue 4).run Try.prog w = .ok (.bool false) w := by kernel_rfl

theorem bools_of (P : Nat → Prop) : ∃ b : Nat → Bool, ∀ x, b x = true ↔ P x := ⟨fun x => @decide (P x) (Classical.propDecidable _), fun x => by simp⟩

/-- a graph that is being folded: a list of its nodes, a map of its edges in block b, all below block B -/
structure Fd (W wr : World) (B b : Nat) (A : Option Addr) (V : List Nat) (E : Nat → Nat → Prop) : Prop where
  rd : RdI wr B A (ni V)
  nb : ∀ ad, A = some ad → ad.block ≠ b
  mp : OwnS Try.prog 57 wr b (fun v => ∃ x y, v = prV x y ∧ E x y)
  lt : b < B
  sz : B ≤ wr.heap.size
  be : Below W.heap.size W wr
  hb : W.heap.size ≤ b

section
variable {W X Y : World} {B b : Nat} {A : Option Addr} {V : List Nat} {E F : Nat → Nat → Prop}

theorem Fd.quiet (h : Fd W X B b A V E) (hb : Below B X Y) : Fd W Y B b A V E :=
  ⟨h.rd.below hb (Nat.le_refl _), h.nb, h.mp.below hb h.lt, h.lt, Nat.le_trans h.sz hb.size, h.be.trans (hb.mono (by have := h.hb; have := h.lt; omega)), h.hb⟩

theorem Fd.grow (h : Fd W X B b A V E) {B' : Nat} (h1 : B ≤ B') (h2 : B' ≤ X.heap.size) : Fd W X B' b A V E := ⟨h.rd.more h1, h.nb, h.mp, Nat.lt_of_lt_of_le h.lt h1, h2, h.be, h.hb⟩

theorem Fd.same (h : Fd W X B b A V E) (he : ∀ x y, E x y ↔ F x y) : Fd W X B b A V F :=
  ⟨h.rd, h.nb, h.mp.same fun v => ⟨fun ⟨x, y, h1, h2⟩ => ⟨x, y, h1, (he x y).1 h2⟩, fun ⟨x, y, h1, h2⟩ => ⟨x, y, h1, (he x y).2 h2⟩⟩, h.lt, h.sz, h.be, h.hb⟩

theorem Fd.turn (h : Fd W X B b A V E) (ht : Turned b X Y) (hm : OwnS Try.prog 57 Y b (fun v => ∃ x y, v = prV x y ∧ F x y)) : Fd W Y B b A V F :=
  ⟨RdI.but h.rd h.nb fun p _ hp => ht.cell hp, h.nb, hm, h.lt, by rw [ht.size]; exact h.sz, h.be.trans (ht.below h.hb), h.hb⟩

theorem Fd.put (h : Fd W X B b A V E) {p q : Nat} (ht : Turned b X Y) (hm : OwnS Try.prog 57 Y b (fun v => (∃ x y, v = prV x y ∧ E x y) ∨ v = prV p q)) : Fd W Y B b A V (fun x y => E x y ∨ (x = p ∧ y = q)) :=
  h.turn ht (hm.same fun v => ⟨fun h => by
    rcases h with ⟨x, y, h1, h2⟩ | h1
    · exact ⟨x, y, h1, .inl h2⟩
    · exact ⟨p, q, h1, .inr ⟨rfl, rfl⟩⟩, fun ⟨x, y, h1, h2⟩ => by
    rcases h2 with h2 | ⟨rfl, rfl⟩
    · exact .inl ⟨x, y, h1, h2⟩
    · exact .inr h1⟩)

theorem Fd.del (h : Fd W X B b A V E) {p q : Nat} (ht : Turned b X Y) (hm : OwnS Try.prog 57 Y b (fun v => (∃ x y, v = prV x y ∧ E x y) ∧ v ≠ prV p q)) : Fd W Y B b A V (fun x y => E x y ∧ ¬ (x = p ∧ y = q)) :=
  h.turn ht (hm.same fun v => ⟨fun ⟨⟨x, y, h1, h2⟩, h3⟩ => ⟨x, y, h1, h2, fun e => h3 (by rw [h1]; exact prV_inj.2 e)⟩, fun ⟨x, y, h1, h2, h3⟩ => ⟨⟨x, y, h1, h2⟩, fun e => h3 (prV_inj.1 (by rw [← h1]; exact e))⟩⟩)

theorem Fd.look {p q : Nat} {T : Bool} (hB : T = true ↔ E p q) : T = true ↔ ∃ x y, prV p q = prV x y ∧ E x y :=
  hB.trans ⟨fun h => ⟨p, q, rfl, h⟩, fun ⟨x, y, h1, h2⟩ => by obtain ⟨rfl, rfl⟩ := prV_inj.1 h1; exact h2⟩

theorem Fd.at_ (h : Fd W X B b A V E) {k : Nat} (hk : k < V.length) : ∃ (ad : Addr) (x : Nat), A = some ad ∧ (ad.add k).block < B ∧ V[k]? = some x ∧ X.cell? (ad.add k) = some (.int .i64 (x : Int)) := by
  obtain ⟨ad, z, e, h1, h2, h3⟩ := h.rd.at_ (k := k) (by simpa [ni] using hk)
  have hx := List.getElem?_eq_getElem hk
  rw [ni_at hx] at h2
  injection h2 with h2
  subst h2
  exact ⟨ad, _, e, h1, hx, h3⟩

end

/-- the edges of the first m nodes, and the first c of the next one -/
def bdE (nx : List (List Int)) (V : List Nat) (m c : Nat) (x y : Nat) : Prop := (x ∈ V.take m ∧ y ∈ sc nx x) ∨ (V[m]? = some x ∧ y ∈ (sc nx x).take c)

theorem bdE_zero {nx : List (List Int)} {V : List Nat} {m z : Nat} (hz : V[m]? = some z) (x y : Nat) : bdE nx V m (sc nx z).length x y ↔ bdE nx V (m + 1) 0 x y := by
  unfold bdE
  simp only [List.take_zero, List.not_mem_nil, and_false, or_false]
  rw [List.take_add_one, hz]
  simp only [Option.toList_some, List.mem_append, List.mem_singleton, Option.some.injEq]
  constructor
  · rintro (⟨h1, h2⟩ | ⟨h1, h2⟩)
    · exact ⟨.inl h1, h2⟩
    · subst h1; rw [List.take_length] at h2; exact ⟨.inr rfl, h2⟩
  · rintro ⟨h1 | h1, h2⟩
    · exact .inl ⟨h1, h2⟩
    · subst h1; exact .inr ⟨rfl, by rw [List.take_length]; exact h2⟩

theorem bdE_next {nx : List (List Int)} {V : List Nat} {m c z k : Nat} (hz : V[m]? = some z) (hk : (sc nx z)[c]? = some k) (x y : Nat) : (bdE nx V m c x y ∨ (x = z ∧ y = k)) ↔ bdE nx V m (c + 1) x y := by
  unfold bdE
  rw [hz]
  simp only [Option.some.injEq]
  constructor
  · rintro ((h | ⟨rfl, h⟩) | ⟨rfl, rfl⟩)
    · exact .inl h
    · exact .inr ⟨rfl, by rw [List.take_add_one]; exact List.mem_append_left _ h⟩
    · exact .inr ⟨rfl, by rw [List.take_add_one, hk]; simp⟩
  · rintro (h | ⟨rfl, h⟩)
    · exact .inl (.inl h)
    · rw [List.take_add_one, hk, Option.toList_some, List.mem_append, List.mem_singleton] at h
      rcases h with h | h
      · exact .inl (.inr ⟨rfl, h⟩)
      · exact .inr ⟨rfl, h⟩

theorem bdE_all {nx : List (List Int)} {V : List Nat} (x y : Nat) : bdE nx V V.length 0 x y ↔ x ∈ V ∧ y ∈ sc nx x := by
  unfold bdE
  rw [List.take_length]
  simp

theorem bdE_none {nx : List (List Int)} {V : List Nat} (x y : Nat) : False ↔ bdE nx V 0 0 x y := by
  unfold bdE
  simp

theorem Eqv.ok {G H : Gf} (h : G.Ok) (he : Eqv G H) : H.Ok := by
  refine ⟨he.nd, (he.mem 0).1 h.zero, fun x hx => ?_⟩
  have := h.rea x ((he.mem x).2 hx)
  clear hx
  induction this with
  | here h => exact .here h
  | @step x y h1 h2 h3 h4 h5 ih => exact ih.step h2 ((he.mem y).1 h3) ((he.edge x y (h1.inV h.zero) h3 h2).1 h4) h5

/-- between two rounds -/
structure Fo (nx : List (List Int)) (V : List Nat) (E : Nat → Nat → Prop) : Prop where
  ok : (Gf.mk V E).Ok
  lt : ∀ x ∈ V, x < 8
  red : ∀ k, Red ⟨V, E⟩ k → Red (gOf nx) k

theorem Fo.start {nx : List (List Int)} (hc : ckWay nx = 0) {hs : List Nat} (h : Rch nx (-1) 0 hs) {E : Nat → Nat → Prop} (hE : ∀ x y, E x y ↔ x ∈ hs ∧ y ∈ sc nx x) : Fo nx hs E := by
  have hm : ∀ x, x ∈ finL nx ↔ x ∈ hs := fun x => by rw [fin_mem hc, h.mem]
  have he : Eqv (gOf nx) ⟨hs, E⟩ := ⟨h.nd, hm, fun x y hx hy _ => by
    show y ∈ sc nx x ↔ E x y
    rw [hE]
    exact ⟨fun q => ⟨(hm x).1 hx, q⟩, fun q => q.2⟩⟩
  refine ⟨he.ok (gOf_ok hc), fun x hx => ?_, fun k hk => (he.symm (gOf_ok hc).nd).red h.nd hk⟩
  have := h.lt x hx
  have := ckWay_bd hc
  omega

/-- which node is to be folded, among the first m -/
def OneP (V : List Nat) (E : Nat → Nat → Prop) (m : Nat) (o p : Value) : Prop :=
  (o = .int .i64 (-1) ∧ p = .int .i64 (-1) ∧ ∀ x ∈ V.take m, ∀ q, ¬ Cl ⟨V, E⟩ x q) ∨ ∃ i q : Nat, o = .int .i64 (i : Int) ∧ p = .int .i64 (q : Int) ∧ Cl ⟨V, E⟩ i q

theorem cl_off {V : List Nat} {E F : Nat → Nat → Prop} (hoff : ∀ x y, x ≠ y → (F x y ↔ E x y)) {i p : Nat} : Cl ⟨V, F⟩ i p ↔ Cl ⟨V, E⟩ i p :=
  ⟨fun h => ⟨h.i0, h.iV, h.pV, h.ne, (hoff _ _ h.ne).1 h.e, fun q hq hne he => h.one q hq hne ((hoff _ _ hne).2 he)⟩, fun h => ⟨h.i0, h.iV, h.pV, h.ne, (hoff _ _ h.ne).2 h.e, fun q hq hne he => h.one q hq hne ((hoff _ _ hne).1 he)⟩⟩

theorem OneP.keep {V : List Nat} {E : Nat → Nat → Prop} {m x : Nat} {o p : Value} (h : OneP V E m o p) (hx : V[m]? = some x) (hn : ∀ q, ¬ Cl ⟨V, E⟩ x q) : OneP V E (m + 1) o p := by
  rcases h with ⟨h1, h2, h3⟩ | h
  · refine .inl ⟨h1, h2, fun y hy => ?_⟩
    rw [List.take_add_one, hx, Option.toList_some, List.mem_append, List.mem_singleton] at hy
    rcases hy with hy | rfl
    · exact h3 y hy
    · exact hn
  · exact .inr h

theorem eqv_off {V : List Nat} {E F : Nat → Nat → Prop} (hn : V.Nodup) (hoff : ∀ x y, x ≠ y → (F x y ↔ E x y)) : Eqv ⟨V, F⟩ ⟨V, E⟩ := ⟨hn, fun _ => Iff.rfl, fun x y _ _ h => hoff x y h⟩

theorem Fo.off {nx : List (List Int)} {V : List Nat} {E F : Nat → Nat → Prop} (h : Fo nx V E) (hoff : ∀ x y, x ≠ y → (F x y ↔ E x y)) : Fo nx V F :=
  ⟨(eqv_off h.ok.nd fun x y hne => (hoff x y hne).symm).ok h.ok, h.lt, fun k hk => h.red k (Eqv.red (G := ⟨V, F⟩) (H := ⟨V, E⟩) h.ok.nd (eqv_off h.ok.nd hoff) hk)⟩

theorem Fo.step {nx : List (List Int)} {V V' : List Nat} {E F : Nat → Nat → Prop} (h : Fo nx V E) {i p : Nat} (hs : Stp ⟨V, E⟩ ⟨V', F⟩ i p) : Fo nx V' F :=
  ⟨hs.ok h.ok, fun x hx => h.lt x ((hs.mem x).1 hx).1, fun k hk => h.red k (.step hs hk)⟩

theorem Fo.stop {nx : List (List Int)} {V : List Nat} {E : Nat → Nat → Prop} (h : Fo nx V E) (hn : ∀ x ∈ V, ∀ q, ¬ Cl ⟨V, E⟩ x q) : Red (gOf nx) V.length :=
  h.red _ (.stop fun i p hc => hn i hc.iV p hc)

theorem FlK.yes {V : List Nat} {E G : Nat → Nat → Prop} (hV : V.Nodup) {i p m k : Nat} (h : FlK V E i p m G) (hk : V[m]? = some k) (hpi : p ≠ i) (hE : G i k) :
    FlK V E i p (m + 1) (fun x y => ((G x y ∨ (x = p ∧ y = k)) ∧ ¬ (x = i ∧ y = k)) ∧ ¬ (x = k ∧ y = i)) := by
  have hnt : k ∉ V.take m := fun hm => by
    obtain ⟨j, hj, e⟩ := List.getElem_of_mem hm
    rw [List.length_take] at hj
    rw [List.getElem_take] at e
    have h1 : V[j]? = some k := by rw [List.getElem?_eq_getElem (by omega), e]
    have := (List.getElem?_inj (by omega) hV).1 (h1.trans hk.symm)
    omega
  have hEk := (h.b k hnt).1 hE
  exact h.next hV hk hpi fun x y => ⟨fun ⟨⟨h1, h2⟩, h3⟩ => ⟨h1.imp id fun q => ⟨hEk, q⟩, h2, h3⟩, fun ⟨h1, h2, h3⟩ => ⟨⟨h1.imp id fun q => q.2, h2⟩, h3⟩⟩

theorem FlK.not {V : List Nat} {E G : Nat → Nat → Prop} (hV : V.Nodup) {i p m k : Nat} (h : FlK V E i p m G) (hk : V[m]? = some k) (hpi : p ≠ i) (hE : ¬ G i k) :
    FlK V E i p (m + 1) (fun x y => (G x y ∧ ¬ (x = i ∧ y = k)) ∧ ¬ (x = k ∧ y = i)) := by
  have hnt : k ∉ V.take m := fun hm => by
    obtain ⟨j, hj, e⟩ := List.getElem_of_mem hm
    rw [List.length_take] at hj
    rw [List.getElem_take] at e
    have h1 : V[j]? = some k := by rw [List.getElem?_eq_getElem (by omega), e]
    have := (List.getElem?_inj (by omega) hV).1 (h1.trans hk.symm)
    omega
  have hEk : ¬ E i k := fun q => hE ((h.b k hnt).2 q)
  exact h.next hV hk hpi fun x y => ⟨fun ⟨⟨h1, h2⟩, h3⟩ => ⟨.inl h1, h2, h3⟩, fun ⟨h1, h2, h3⟩ => ⟨⟨h1.elim id fun q => absurd q.1 hEk, h2⟩, h3⟩⟩

theorem del_pair {w : World} {b : Nat} {S : Value → Prop} (h : OwnS Try.prog 57 w b S) {x y : Nat} (hx : x < 9223372036854775808) (hy : y < 9223372036854775808) :
    ∃ w', (Builtin.delete_ #[62, 57] 0 #[.map (some b), .agg #[.int .i64 (x : Int), .int .i64 (y : Int)]]).run Try.prog w = .ok (.tuple #[]) w' ∧ OwnS Try.prog 57 w' b (fun v => S v ∧ v ≠ prV x y) ∧ Turned b w w' :=
  run_del_set pair_keyed Try.underlying62 h (pair_key hx hy)

set_option maxHeartbeats 8000000 in
theorem refFolded_any (A : Option Addr) (len cap : Nat) (nx : List (List Int)) (w : World) (hx : RdG w w.heap.size A nx) (hl : nx.length = len) (hc : ckWay nx = 0) :
    Calls Try.prog 24 #[.slice A len cap] w fun e w' => ∃ k : Nat, Red (gOf nx) k ∧ e = .returned (.int .i64 (k : Nat)) ∧ Below w.heap.size w w' := by
  obtain ⟨b1, b2, b3⟩ := ckWay_bd hc
  have HL := Lib.hid hl
  have HC := Lib.hid hc
  rw [hl] at b1 b2
  have hmm := @run_makeMap Try.prog
  have hown0 : (w.alloc (.cells #[] 3)).ownsRow w.heap.size 3 1 (.slice (some ⟨w.heap.size, 0, none⟩) 0 0) 0 (iv []) := World.ownsRow_lit w #[] 0 (Nat.le_refl _) (Nat.zero_le _) rfl
  have hb0 : Below w.heap.size w (w.alloc (.cells #[] 3)) := by go_grown
  have hx0 := (hx.below hb0 (Nat.le_refl _)).more hb0.size
  clear hl hc b3
  go_enter Try.func24, Try.ntmps24
  go_wp2_with fail
  refine (refReach_any A len cap nx 0 (-1) _ hx0 HL.out HC.out (by omega)).mono ?_
  rintro e w1 ⟨hs, A2, c2, hrc, rfl, hr2, hb2⟩
  have hhl := hrc.len
  rw [HL.out] at hhl
  have HRC := Lib.hid hrc
  have hown1 := own_below hown0 hb2
  have hs1 : w.heap.size + 1 ≤ w1.heap.size := by have := hb2.size; simpa using this
  have h63 : 0 + hs.length ≤ maxLen := by unfold maxLen; omega
  have hbig : (0 + hs.length) * 8 ≤ 140737488355328 := by omega
  have hbw1 : Below w.heap.size w w1 := hb0.trans (hb2.mono hb0.size)
  clear hrc hown0 hx0
  go_wp2_with (at_builtin; refine wpList_app rfl (.tmp 19) (.tmp 21) 37 rfl w.heap.size 3 1 8 int_app _ rfl hown1 (iv (ni hs)) rfl (by simp [iv, ni]) (fun h => by have := hr2.nil h; simpa [ni] using this) hr2.news (iv_one _) h63 hbig (by omega) ?_; intro A3 c3 w3 hown3 hg3 hb3)
  clear hmm
  rw [show iv [] ++ iv (ni hs) = iv (ni hs) from rfl] at hown3
  have hbw3 : Below w.heap.size w w3 := hbw1.trans hb3
  have hrd3 := own_rdI hown3 (by simp [ni])
  have hF0 : Fd w (w3.alloc (.map #[] 0)) (w3.heap.size + 1) w3.heap.size A3 hs (bdE nx hs 0 0) :=
    ⟨(hrd3.below (by go_grown : Below w3.heap.size w3 (w3.alloc (.map #[] 0))) (Nat.le_refl _)).more (by omega), fun ad hA => by
      obtain ⟨ad', e, h⟩ := (show ∀ ad, A3 = some ad → ad.block < w3.heap.size from fun ad hA => by
        have := hown3.lt ad.block (by subst hA; rfl)
        exact this.2) |> fun h => (⟨ad, hA, h ad hA⟩ : ∃ ad', A3 = some ad' ∧ ad'.block < w3.heap.size)
      rw [hA] at e
      injection e with e
      subst e
      omega,
      (OwnS.new w3).same fun v => ⟨fun h => h.elim, fun ⟨x, y, _, h⟩ => (bdE_none x y).2 h⟩, by omega, by simp, hbw3.alloc hbw3.size _, hbw3.size⟩
  obtain ⟨n, hn'⟩ : ∃ n, hs.length = n := ⟨_, rfl⟩
  rw [hn']
  have HN := Lib.hid hn'
  rw [hn'] at hhl
  have HF0 := Lib.hid hF0
  have hmx : n ≤ maxLen := by unfold maxLen; omega
  obtain ⟨b, hb⟩ : ∃ b, w3.heap.size = b := ⟨_, rfl⟩
  rw [hb] at HF0
  simp only [hb]
  clear hn' hF0 hown3 hg3 hb3 hrd3 hr2 hown1 hb2 h63 hbig
  go_loopw [26] (fun z wr => ∃ m : Nat, m ≤ n ∧ z = .int .i64 m ∧ Fd w wr (b + 1) b A3 hs (bdE nx hs m 0)) (fun z _ => n - (intOf z).toNat)
  case atStart => exact ⟨0, Nat.zero_le _, rfl, HF0.out⟩
  case round =>
    obtain ⟨m, hm, rfl, hF⟩ := hrel
    by_cases hlt : m < n
    · obtain ⟨ad3, x, rfl, hb3, hxm, hcm⟩ := hF.at_ (k := m) (by rw [HN.out]; exact hlt)
      have hxl := HRC.out.lt x (List.mem_of_getElem? hxm)
      rw [HL.out] at hxl
      obtain ⟨ad, row, Ar, cr, rfl, hbl, hd, hcell, hrow⟩ := (hx.below hF.be (Nat.le_refl _)).at_ (k := x) (by rw [HL.out]; exact hxl)
      have hrs := row_sc HC.out hd
      subst hrs
      have HSL : Hid ((ni (sc nx x)).length = (sc nx x).length) := Lib.hid (by simp [ni])
      rw [HSL.out] at hcell
      have hsl := sc_len HC.out x
      have HZ := Lib.hid (bdE_zero (nx := nx) hxm)
      have HX := Lib.hid (fun c k => bdE_next (nx := nx) hxm (c := c) (k := k))
      have HSC := Lib.hid (fun y (hy : y ∈ sc nx x) => sc_lt HC.out hy)
      obtain ⟨sl, hsl2⟩ : ∃ sl, (sc nx x).length = sl := ⟨_, rfl⟩
      rw [hsl2] at hcell hsl
      have HSS := Lib.hid hsl2
      have HF := Lib.hid hF
      obtain ⟨wo, rfl⟩ : ∃ wo : World, wo = wr := ⟨_, rfl⟩
      have hx8 : x < 9223372036854775808 := by omega
      clear hxm hd hsl2
      go_wp2
      go_loopw [35] (fun z wr => ∃ c : Nat, c ≤ sl ∧ z = .int .i64 c ∧ Fd w wr (b + 1) b (some ad3) hs (bdE nx hs m c)) (fun z _ => sl - (intOf z).toNat)
      case atStart => exact ⟨0, Nat.zero_le _, rfl, HF.out⟩
      case round =>
        obtain ⟨c, hc, rfl, hFc⟩ := hrel
        by_cases hct : c < sl
        · obtain ⟨y, hy⟩ : ∃ y, (sc nx x)[c]? = some y := ⟨_, List.getElem?_eq_getElem (by rw [HSS.out]; exact hct)⟩
          have hyl := HSC.out y (List.mem_of_getElem? hy)
          rw [HL.out] at hyl
          have hrowc : RdI wr w.heap.size Ar (ni (sc nx x)) := Rd.keep hrow fun p hp => (hFc.be.cell hp).trans (HF.out.be.cell hp).symm
          obtain ⟨ar, y', rfl, hbr, hyr, hcy⟩ := hrowc.at_ (k := c) (by rw [HSL.out, HSS.out]; exact hct)
          rw [ni_at hy] at hyr
          injection hyr with hyr
          subst hyr
          have HNX := Lib.hid (HX.out c y hy)
          have hy8 : y < 9223372036854775808 := by omega
          have HFC := Lib.hid hFc
          clear hy
          go_wp2_with (at_mapUpdate; refine wpList_put_set rfl (.tmp 39) (.tmp 42) (.const (.bool true)) 62 rfl pair_keyed Try.underlying62 rfl HFC.out.mp rfl rfl (pair_key hx8 hy8) ?_; intro w5 hm5 hT5; have hF5 := HFC.out.put hT5 hm5)
          go_round
          case rel => exact ⟨c + 1, by omega, by go_num, hF5.same HNX.out⟩
          case measure => (simp [intOf]; omega)
        · have hcs : sl = c := by omega
          subst hcs
          rw [← HSS.out] at hFc
          have HFC := Lib.hid (hFc.same HZ.out)
          show Code.wp _ _ _ _ _
          go_wp2
          go_round
          case rel => exact ⟨m + 1, by omega, by go_num, HFC.out⟩
          case measure => (simp [intOf]; omega)
    · have hmn : n = m := by omega
      subst hmn
      rw [← HN.out] at hF
      have hFa := hF.same (bdE_all (nx := nx) (V := hs))
      have HFO := Lib.hid (Fo.start HC.out HRC.out (E := fun x y => x ∈ hs ∧ y ∈ sc nx x) (fun _ _ => Iff.rfl))
      have HFA := Lib.hid (hFa.grow hF.sz (Nat.le_refl _))
      clear hF hFa
      go_wp2
      go_loopw [3] (fun s wr => ∃ (A4 : Option Addr) (c4 : Nat) (V : List Nat) (E : Nat → Nat → Prop), s = .slice A4 V.length c4 ∧ Fd w wr wr.heap.size b A4 V E ∧ Fo nx V E) (fun s _ => lenOf s)
      case atStart => exact ⟨A3, c3, hs, _, by rw [HN.out], HFA.out, HFO.out⟩
      case round =>
        obtain ⟨A4, c4, V, E, rfl, hF, hFo⟩ := hrel
        have hvl : V.length ≤ 8 := nodup_len hFo.ok.nd hFo.lt
        have h0V := hFo.ok.zero
        obtain ⟨vn, hvn⟩ : ∃ vn, V.length = vn := ⟨_, rfl⟩
        rw [hvn] at hvl ⊢
        have HVN := Lib.hid hvn
        have HFO := Lib.hid hFo
        have HLT : Hid (∀ x ∈ V, x < 8) := Lib.hid hFo.lt
        have HF := Lib.hid hF
        obtain ⟨wo, rfl⟩ : ∃ wo : World, wo = wr := ⟨_, rfl⟩
        clear hvn hFo hF h0V
        go_wp2
        go_loopw [9, 10, 47] (fun o p z wr => ∃ (m : Nat) (F : Nat → Nat → Prop), m ≤ vn ∧ z = .int .i64 m ∧ Fd w wr wo.heap.size b A4 V F ∧ (∀ x y, x ≠ y → (F x y ↔ E x y)) ∧ OneP V E m o p) (fun _ _ z _ => vn - (intOf z).toNat)
        case atStart => exact ⟨0, E, Nat.zero_le _, rfl, HF.out, fun _ _ _ => Iff.rfl, .inl ⟨rfl, rfl, fun x hx => by simp at hx⟩⟩
        case round =>
          obtain ⟨m, F, hm, rfl, hFm, hoff, hone⟩ := hrel
          have HONE := Lib.hid hone
          clear hone
          by_cases hlt : m < vn
          · obtain ⟨ad4, x, rfl, hb4, hxm, hcm⟩ := hFm.at_ (k := m) (by rw [HVN.out]; exact hlt)
            have hxV := List.mem_of_getElem? hxm
            have hx8 : x < 9223372036854775808 := by have := HLT.out x hxV; omega
            have hx8' := HLT.out x hxV
            have HFM := Lib.hid hFm
            have HXM := Lib.hid hxm
            have HOFF := Lib.hid hoff
            clear hFm hxm hoff hxV
            obtain ⟨w5, hrun, hm5, hT5⟩ := del_pair HFM.out.mp hx8 hx8
            have hF5 := HFM.out.del hT5 hm5
            have hF5' : Fd w w5 wo.heap.size b (some ad4) V (fun x' y' => F x' y' ∧ ¬ (x' = x ∧ y' = x)) := hF5
            obtain ⟨F5, hF5e⟩ : ∃ F5 : Nat → Nat → Prop, F5 = fun x' y' => F x' y' ∧ ¬ (x' = x ∧ y' = x) := ⟨_, rfl⟩
            rw [← hF5e] at hF5'
            have hxx : ¬ F5 x x := by rw [hF5e]; exact fun h => h.2 ⟨rfl, rfl⟩
            have hoff5 : ∀ p q, p ≠ q → (F5 p q ↔ E p q) := fun p q hpq => by
              rw [hF5e, ← HOFF.out p q hpq]
              exact ⟨fun h => h.1, fun h => ⟨h, fun e => hpq (e.1.trans e.2.symm)⟩⟩
            have HF5 := Lib.hid hF5'
            have HXX := Lib.hid hxx
            have HOFF5 := Lib.hid hoff5
            obtain ⟨bE, hbE⟩ := bools_of (fun y => F5 y x)
            have HBE := Lib.hid hbE
            have hsz5 := hF5'.sz
            clear hF5 hF5' hF5e hxx hoff5 hbE hm5 hT5
            go_wp2
            clear hrun
            go_loopw [13, 57] (fun s z wr => ∃ (c : Nat) (A5 : Option Addr) (c5 : Nat), c ≤ vn ∧ z = .int .i64 c ∧ s = .slice A5 ((V.take c).filter bE).length c5 ∧ wr.ownsRow w5.heap.size 3 1 (.slice A5 ((V.take c).filter bE).length c5) ((V.take c).filter bE).length (iv (ni ((V.take c).filter bE))) ∧ Below w5.heap.size w5 wr) (fun _ z _ => vn - (intOf z).toNat)
            case atStart => exact ⟨0, none, 0, Nat.zero_le _, rfl, rfl, World.ownsRow_nil _ _ _ _, Below.refl _ _⟩
            case round =>
              obtain ⟨c, A5, c5, hc, rfl, rfl, hown5, hb5⟩ := hrel
              have hF6 := HF5.out.quiet (hb5.mono hsz5)
              by_cases hct : c < vn
              · obtain ⟨ad6, y, e6, hb6, hym, hcy⟩ := hF6.at_ (k := c) (by rw [HVN.out]; exact hct)
                injection e6 with e6
                subst e6
                have hyV := List.mem_of_getElem? hym
                have hy8 : y < 9223372036854775808 := by have := HLT.out y hyV; omega
                have hfl : ((V.take c).filter bE).length ≤ 8 := by
                  have h1 := List.length_filter_le bE (V.take c)
                  have h2 := List.length_take_le c V
                  omega
                have hnx : (V.take (c + 1)).filter bE = if bE y = true then (V.take c).filter bE ++ [y] else (V.take c).filter bE := by
                  rw [List.take_add_one, hym, Option.toList_some, List.filter_append]
                  by_cases h : bE y = true
                  · rw [if_pos h]; simp [h]
                  · rw [if_neg h]; simp [h]
                have hq := Fd.look (HBE.out y)
                have HF6 := Lib.hid hF6
                have hs5 := hb5.size
                generalize (V.take c).filter bE = fl at *
                cases hby : bE y with
                | true =>
                  rw [hby] at hq
                  rw [if_pos hby] at hnx
                  have HNX := Lib.hid hnx
                  have HQ := Lib.hid hq
                  have h63 : fl.length + 1 ≤ maxLen := by unfold maxLen; omega
                  have hbig : (fl.length + 1) * 8 ≤ 140737488355328 := by omega
                  clear hnx hq hby hym hyV hF6
                  go_wp2_with (first
                    | (at_lookup; refine wpList_look_set rfl (.tmp 61) (.tmp 64) 62 rfl pair_keyed Try.underlying62 rfl HF6.out.mp zero_bool rfl (pair_key hy8 hx8) HQ.out ?_)
                    | (at_builtin; refine wpList_app rfl (.tmp 66) (.tmp 68) 37 rfl w5.heap.size 3 1 8 int_app _ rfl (hown5.alloc _) [.int .i64 (y : Int)] rfl rfl (fun h => by cases h) (cells_at rfl _ _) (one_cell _) h63 hbig (by simp; omega) ?_; intro A7 c7 w7 hown7 hg7 hb7))
                  go_round
                  case rel =>
                    have hlx : ((V.take (c + 1)).filter bE).length = fl.length + 1 := by rw [HNX.out]; simp
                    exact ⟨c + 1, A7, c7, by omega, by go_num, by rw [hlx], by rw [hlx, HNX.out, ni_append, iv_append]; exact hown7, (hb5.alloc hs5 _).trans hb7⟩
                  case measure => (simp [intOf]; omega)
                | false =>
                  rw [hby] at hq
                  rw [if_neg (by rw [hby]; simp)] at hnx
                  have HNX := Lib.hid hnx
                  have HQ := Lib.hid hq
                  clear hnx hq hby hym hyV hF6
                  go_wp2_with (at_lookup; refine wpList_look_set rfl (.tmp 61) (.tmp 64) 62 rfl pair_keyed Try.underlying62 rfl HF6.out.mp zero_bool rfl (pair_key hy8 hx8) HQ.out ?_)
                  go_round
                  case rel => exact ⟨c + 1, A5, c5, by omega, by go_num, by rw [HNX.out], by rw [HNX.out]; exact hown5, hb5⟩
                  case measure => (simp [intOf]; omega)
              · have hcv : vn = c := by omega
                subst hcv
                have htk : V.take vn = V := by rw [← HVN.out, List.take_length]
                rw [htk] at hown5 ⊢
                have HNX := Lib.hid (fun h => OneP.keep HONE.out HXM.out h)
                have HCN := Lib.hid (fun hf q (hq : Cl ⟨V, E⟩ x q) => cl_no HFO.out.ok.nd (i := x) HBE.out HXX.out hf q ((cl_off HOFF5.out).2 hq))
                have hxV := List.mem_of_getElem? HXM.out
                have HCO := Lib.hid (fun q h0 hf => (cl_off HOFF5.out).1 (cl_of HFO.out.ok.nd (p := q) HBE.out hxV h0 HXX.out hf))
                have HF6 := Lib.hid hF6
                clear hF6 hxV
                obtain ⟨fl, hfl⟩ : ∃ fl, V.filter bE = fl := ⟨_, rfl⟩
                rw [hfl] at hown5 HCN HCO ⊢
                clear hfl
                show Code.wp _ _ _ _ _
                by_cases h0 : x = 0
                · subst h0
                  go_wp2
                  go_round
                  case rel => exact ⟨m + 1, F5, by omega, by go_num, HF6.out, HOFF5.out, HNX.out fun q hq => hq.i0 rfl⟩
                  case measure => (simp [intOf]; omega)
                · have e0 : ((x : Int) != 0) = true := by simp [h0]
                  by_cases h1 : fl.length = 1
                  · obtain ⟨q, rfl⟩ : ∃ q, fl = [q] := by
                      match fl, h1 with
                      | [q], _ => exact ⟨q, rfl⟩
                    have HOP := Lib.hid (HCO.out q h0 rfl)
                    obtain ⟨adq, z, rfl, hbq, hzq, hcq⟩ := (own_rdI hown5 (by simp [ni])).at_ (k := 0) (by simp [ni])
                    have hz : z = (q : Int) := by simpa [ni] using hzq.symm
                    subst hz
                    have hcq' : wr.cell? adq = some (.int .i64 (q : Int)) := by simpa [Addr.add] using hcq
                    simp only [List.length_cons, List.length_nil, Nat.zero_add]
                    clear h1 hzq hown5
                    go_wp2
                    go_round
                    case rel => exact ⟨m + 1, F5, by omega, by go_num, HF6.out, HOFF5.out, .inr ⟨x, q, rfl, rfl, HOP.out⟩⟩
                    case measure => (simp [intOf]; omega)
                  · have HC1 := Lib.hid (HCN.out h1)
                    have e1 : ((fl.length : Int) == 1) = false := by simp; omega
                    obtain ⟨fn, hfn⟩ : ∃ fn, fl.length = fn := ⟨_, rfl⟩
                    rw [hfn] at e1 ⊢
                    clear h1 hown5 hfn
                    go_wp2
                    go_round
                    case rel => exact ⟨m + 1, F5, by omega, by go_num, HF6.out, HOFF5.out, HNX.out HC1.out⟩
                    case measure => (simp [intOf]; omega)
          · have hmv : vn = m := by omega
            subst hmv
            have htk : V.take vn = V := by rw [← HVN.out, List.take_length]
            have hone := HONE.out
            unfold OneP at hone
            rw [htk] at hone
            rcases hone with ⟨rfl, rfl, hno⟩ | ⟨i, q, rfl, rfl, hcl⟩
            · have HRED := Lib.hid (HFO.out.stop hno)
              have hbe := hFm.be
              clear hno
              go_wp2
              go_ret
              exact ⟨V.length, HRED.out, by rw [HVN.out]; rfl, hbe⟩
            · have HCL := Lib.hid ((cl_off hoff).2 hcl)
              have HFF := Lib.hid (HFO.out.off hoff)
              have hqi := hcl.ne
              have hi8 : i < 9223372036854775808 := by have := HLT.out i hcl.iV; omega
              have hq8 : q < 9223372036854775808 := by have := HLT.out q hcl.pV; omega
              have hlt0 : ¬ (i : Int) < 0 := by omega
              obtain ⟨w6, rfl⟩ : ∃ w6 : World, w6 = wr := ⟨_, rfl⟩
              have HF6 := Lib.hid (hFm.grow hFm.sz (Nat.le_refl _))
              have hbB : b < w6.heap.size := Nat.lt_of_lt_of_le hFm.lt hFm.sz
              clear hcl hoff hFm
              go_wp2
              go_loopw [16, 89] (fun s z wr => ∃ (m : Nat) (A5 : Option Addr) (c5 : Nat) (G : Nat → Nat → Prop), m ≤ vn ∧ z = .int .i64 m ∧ s = .slice A5 ((V.take m).filter (fun x => decide (x ≠ i))).length c5 ∧
                wr.ownsRow w6.heap.size 3 1 (.slice A5 ((V.take m).filter (fun x => decide (x ≠ i))).length c5) ((V.take m).filter (fun x => decide (x ≠ i))).length (iv (ni ((V.take m).filter (fun x => decide (x ≠ i))))) ∧ Fd w wr w6.heap.size b A4 V G ∧ FlK V F i q m G) (fun _ z _ => vn - (intOf z).toNat)
              case atStart => exact ⟨0, none, 0, F, Nat.zero_le _, rfl, rfl, World.ownsRow_nil _ _ _ _, HF6.out, FlK.start V F i q⟩
              case round =>
                obtain ⟨m, A5, c5, G, hm5, rfl, rfl, hown, hG, hfk⟩ := hrel
                by_cases hmt : m < vn
                · obtain ⟨ad6, k, rfl, hb6, hkm, hck⟩ := hG.at_ (k := m) (by rw [HVN.out]; exact hmt)
                  have hkV := List.mem_of_getElem? hkm
                  have hk8 : k < 9223372036854775808 := by have := HLT.out k hkV; omega
                  have hfl : ((V.take m).filter (fun x => decide (x ≠ i))).length ≤ 8 := by
                    have h1 := List.length_filter_le (fun x => decide (x ≠ i)) (V.take m)
                    have h2 := List.length_take_le m V
                    omega
                  have hnx : (V.take (m + 1)).filter (fun x => decide (x ≠ i)) = if k = i then (V.take m).filter (fun x => decide (x ≠ i)) else (V.take m).filter (fun x => decide (x ≠ i)) ++ [k] := by
                    rw [List.take_add_one, hkm, Option.toList_some, List.filter_append]
                    by_cases h : k = i
                    · rw [if_pos h]; simp [h]
                    · rw [if_neg h]; simp [h]
                  have HYES := Lib.hid (hfk.yes HFO.out.ok.nd hkm hqi)
                  have HNOT := Lib.hid (hfk.not HFO.out.ok.nd hkm hqi)
                  have HG := Lib.hid hG
                  have hszG := hG.sz
                  generalize (V.take m).filter (fun x => decide (x ≠ i)) = fl at *
                  obtain ⟨T, hT⟩ := bool_of (G i k)
                  have HQ := Lib.hid (Fd.look hT)
                  have h63 : fl.length + 1 ≤ maxLen := by unfold maxLen; omega
                  have hbig : (fl.length + 1) * 8 ≤ 140737488355328 := by omega
                  clear hkm hkV hfk hG
                  cases T with
                  | true =>
                    have HFK := Lib.hid (HYES.out (hT.1 rfl))
                    clear hT
                    by_cases hki : k = i
                    · have e0 : ((k : Int) != (i : Int)) = false := by simp [hki]
                      rw [if_pos hki] at hnx
                      have HNX := Lib.hid hnx
                      clear hnx hki
                      go_wp2_with (first
                        | (at_lookup; refine wpList_look_set rfl (.tmp 93) (.tmp 96) 62 rfl pair_keyed Try.underlying62 rfl HG.out.mp zero_bool rfl (pair_key hi8 hk8) HQ.out ?_)
                        | (at_mapUpdate; refine wpList_put_set rfl (.tmp 98) (.tmp 101) (.const (.bool true)) 62 rfl pair_keyed Try.underlying62 rfl HG.out.mp rfl rfl (pair_key hq8 hk8) ?_; intro w7 hm7 hT7; have hF7 := HG.out.put hT7 hm7; obtain ⟨w8, hrun8, hm8, hT8⟩ := del_pair hF7.mp hi8 hk8; have hF8 := hF7.del hT8 hm8; obtain ⟨w9, hrun9, hm9, hT9⟩ := del_pair hF8.mp hk8 hi8; have hF9 := hF8.del hT9 hm9; have hown9 := hT9.row (hT8.row (hT7.row hown hbB) hbB) hbB))
                      go_round
                      case rel => exact ⟨m + 1, A5, c5, _, by omega, by go_num, by rw [HNX.out], by rw [HNX.out]; exact hown9, hF9, HFK.out⟩
                      case measure => (simp [intOf]; omega)
                    · have e0 : ((k : Int) != (i : Int)) = true := by simp; omega
                      rw [if_neg hki] at hnx
                      have HNX := Lib.hid hnx
                      clear hnx hki
                      go_wp2_with (first
                        | (at_lookup; refine wpList_look_set rfl (.tmp 93) (.tmp 96) 62 rfl pair_keyed Try.underlying62 rfl HG.out.mp zero_bool rfl (pair_key hi8 hk8) HQ.out ?_)
                        | (at_mapUpdate; refine wpList_put_set rfl (.tmp 98) (.tmp 101) (.const (.bool true)) 62 rfl pair_keyed Try.underlying62 rfl HG.out.mp rfl rfl (pair_key hq8 hk8) ?_; intro w7 hm7 hT7; have hF7 := HG.out.put hT7 hm7; obtain ⟨w8, hrun8, hm8, hT8⟩ := del_pair hF7.mp hi8 hk8; have hF8 := hF7.del hT8 hm8; obtain ⟨w9, hrun9, hm9, hT9⟩ := del_pair hF8.mp hk8 hi8; have hF9 := hF8.del hT9 hm9; have hown9 := hT9.row (hT8.row (hT7.row hown hbB) hbB) hbB; have hs9 := hF9.sz)
                        | (at_builtin; refine wpList_app rfl (.tmp 113) (.tmp 115) 37 rfl w6.heap.size 3 1 8 int_app _ rfl (hown9.alloc _) [.int .i64 (k : Int)] rfl rfl (fun h => by cases h) (cells_at rfl _ _) (one_cell _) h63 hbig (by simp; omega) ?_; intro A7 c7 w10 hown10 hg10 hb10; have hF10 := hF9.quiet (((by go_grown : Below w9.heap.size w9 (w9.alloc (.cells #[.int .i64 (k : Int)] 3))).mono hs9).trans hb10)))
                      go_round
                      case rel =>
                        have hlx : ((V.take (m + 1)).filter (fun x => decide (x ≠ i))).length = fl.length + 1 := by rw [HNX.out]; simp
                        exact ⟨m + 1, A7, c7, _, by omega, by go_num, by rw [hlx], by rw [hlx, HNX.out, ni_append, iv_append]; exact hown10, hF10, HFK.out⟩
                      case measure => (simp [intOf]; omega)
                  | false =>
                    have HFK := Lib.hid (HNOT.out (fun h => by have := hT.2 h; simp at this))
                    clear hT
                    obtain ⟨w8, hrun8, hm8, hT8⟩ := del_pair HG.out.mp hi8 hk8
                    have hF8 := HG.out.del hT8 hm8
                    obtain ⟨w9, hrun9, hm9, hT9⟩ := del_pair hF8.mp hk8 hi8
                    have hF9 := hF8.del hT9 hm9
                    have hown9 := hT9.row (hT8.row hown hbB) hbB
                    have hs9 := hF9.sz
                    by_cases hki : k = i
                    · have e0 : ((k : Int) != (i : Int)) = false := by simp [hki]
                      rw [if_pos hki] at hnx
                      have HNX := Lib.hid hnx
                      clear hnx hki
                      go_wp2_with (at_lookup; refine wpList_look_set rfl (.tmp 93) (.tmp 96) 62 rfl pair_keyed Try.underlying62 rfl HG.out.mp zero_bool rfl (pair_key hi8 hk8) HQ.out ?_)
                      go_round
                      case rel => exact ⟨m + 1, A5, c5, _, by omega, by go_num, by rw [HNX.out], by rw [HNX.out]; exact hown9, hF9, HFK.out⟩
                      case measure => (simp [intOf]; omega)
                    · have e0 : ((k : Int) != (i : Int)) = true := by simp; omega
                      rw [if_neg hki] at hnx
                      have HNX := Lib.hid hnx
                      clear hnx hki
                      go_wp2_with (first
                        | (at_lookup; refine wpList_look_set rfl (.tmp 93) (.tmp 96) 62 rfl pair_keyed Try.underlying62 rfl HG.out.mp zero_bool rfl (pair_key hi8 hk8) HQ.out ?_)
                        | (at_builtin; refine wpList_app rfl (.tmp 113) (.tmp 115) 37 rfl w6.heap.size 3 1 8 int_app _ rfl (hown9.alloc _) [.int .i64 (k : Int)] rfl rfl (fun h => by cases h) (cells_at rfl _ _) (one_cell _) h63 hbig (by simp; omega) ?_; intro A7 c7 w10 hown10 hg10 hb10; have hF10 := hF9.quiet (((by go_grown : Below w9.heap.size w9 (w9.alloc (.cells #[.int .i64 (k : Int)] 3))).mono hs9).trans hb10)))
                      go_round
                      case rel =>
                        have hlx : ((V.take (m + 1)).filter (fun x => decide (x ≠ i))).length = fl.length + 1 := by rw [HNX.out]; simp
                        exact ⟨m + 1, A7, c7, _, by omega, by go_num, by rw [hlx], by rw [hlx, HNX.out, ni_append, iv_append]; exact hown10, hF10, HFK.out⟩
                      case measure => (simp [intOf]; omega)
                · have hmv : vn = m := by omega
                  subst hmv
                  rw [htk] at hown ⊢
                  rw [← HVN.out] at hfk
                  have hst := hfk.done HFO.out.ok.nd HCL.out rfl
                  have HFO2 := Lib.hid (HFF.out.step hst)
                  have hlen := hst.len HFF.out.ok
                  simp only [] at hlen
                  rw [HVN.out] at hlen
                  have hblk := own_slice_block hown
                  have hrd := own_rdI hown (by simp [ni])
                  have HG : Hid (Fd w wr wr.heap.size b A5 (V.filter (fun x => decide (x ≠ i))) G) := Lib.hid ⟨hrd, fun ad hA => by have := hblk ad hA; omega, hG.mp, Nat.lt_of_lt_of_le hG.lt hG.sz, Nat.le_refl _, hG.be, hG.hb⟩
                  clear hfk hst hG hrd hblk hown
                  show Code.wp _ _ _ _ _
                  go_wp2
                  go_round
                  case rel => exact ⟨A5, c5, _, G, rfl, HG.out, HFO2.out⟩
                  case measure => simp only [lenOf]; omega

end Go.Proofs.Ytpbajalecfaibaa
