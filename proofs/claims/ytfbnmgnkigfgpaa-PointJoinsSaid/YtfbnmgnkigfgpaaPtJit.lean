/-
  codemasonref.Joined tells what may point to what, by unification (V2).
-/
import Derived.Test.YtfbnmgnkigfgpaaPtRefJ
import Derived.Deep.Cut
import Derived.Deep.CutRange
namespace Go.Proofs.Ytfbnmgnkigfgpaa
open Go.RowKit
set_option linter.unusedSimpArgs false
set_option linter.unusedVariables false
set_option maxRecDepth 100000

/-- the reference's two maps -/
structure JiI (l : List Qt) (n : Nat) (w wr : World) (bO bT : Nat) (O0 T0 O T : Prs) : Prop where
  mo : OwnL wr bO O
  mt : OwnL wr bT T
  ne : bO ≠ bT
  l1 : w.heap.size ≤ bO
  l2 : w.heap.size ≤ bT
  be : Below w.heap.size w wr
  ps : PsJ l n O0 T0 O T

section
variable {l : List Qt} {n : Nat} {w X Y : World} {bO bT : Nat} {O0 T0 O T : Prs}

theorem JiI.quiet (h : JiI l n w X bO bT O0 T0 O T) (hb : Below X.heap.size X Y) : JiI l n w Y bO bT O0 T0 O T :=
  ⟨h.mo.below hb h.mo.lt, h.mt.below hb h.mt.lt, h.ne, h.l1, h.l2, h.be.trans (hb.mono h.be.size), h.ps⟩

theorem JiI.putO (h : JiI l n w X bO bT O0 T0 O T) {a b : Nat} (hs : OwnS Try.prog 48 Y bO (fun x => (∃ p ∈ O, x = prQ p) ∨ x = prQ (a, b))) (ht : Turned bO X Y) (ha : Sg l n false a b) : JiI l n w Y bO bT O0 T0 (insP O (a, b)) T :=
  ⟨h.mo.put hs, h.mt.keep (ht.block _ h.ne.symm), h.ne, h.l1, h.l2, h.be.trans (ht.below h.l1), h.ps.putO ha⟩

theorem JiI.putT (h : JiI l n w X bO bT O0 T0 O T) {a b : Nat} (hs : OwnS Try.prog 48 Y bT (fun x => (∃ p ∈ T, x = prQ p) ∨ x = prQ (a, b))) (ht : Turned bT X Y) (ha : Sg l n true a b) : JiI l n w Y bO bT O0 T0 O (insP T (a, b)) :=
  ⟨h.mo.keep (ht.block _ h.ne), h.mt.put hs, h.ne, h.l1, h.l2, h.be.trans (ht.below h.l2), h.ps.putT ha⟩

theorem JiI.again (h : JiI l n w X bO bT O0 T0 O T) : JiI l n w X bO bT O T O T := ⟨h.mo, h.mt, h.ne, h.l1, h.l2, h.be, h.ps.start⟩

end

/-- a slice of ints stays while a map is written -/
theorem RdI.wroteM {w w' : World} {b B : Nat} {A : Option Addr} {xs : List Int} {T : Prs} (hr : RdI w B A xs) (hM : OwnL w b T) (hw : Wrote2 b b w w') (hB : B ≤ w.heap.size) : RdI w' B A xs := fun hm => by
  obtain ⟨ad, e, hb, hc⟩ := hr hm
  obtain ⟨ms, clock, hmap, _⟩ := hM.entries
  have hne : ad.block ≠ b := fun q => by
    have h0 := hc 0 hm
    have ha : (ad.add 0) = ad := by unfold Addr.add; simp
    rw [ha] at h0
    unfold World.cell? at h0
    rw [q, hmap] at h0
    cases h0
  exact ⟨ad, e, hb, fun j hj => (World.cell?_of_block (w := w) (by rw [addr_add_block]; exact hw.block _ (by omega) hne hne)).trans (hc j hj)⟩

theorem OwnL.lenRun {w : World} {b k : Nat} {L : Prs} (h : OwnL w b L) (hk : L.length = k) (ty : TypeId) : (Builtin.len_ #[47] ty #[.map (some b)]).run Try.prog w = .ok (.int .i64 (k : Int)) w := by
  obtain ⟨ms, clock, hb, hl⟩ := h.entries
  have := run_len_map (P := Try.prog) w 47 ty b ms.toArray clock (by kernel_rfl) hb
  rw [this, ← hk, ← hl]
  simp [goInt]

theorem nodup_sub {A B : Prs} (hn : A.Nodup) (hs : ∀ x ∈ A, x ∈ B) : A.length ≤ B.length := by
  induction A generalizing B with
  | nil => simp
  | cons a A ih =>
    rw [List.nodup_cons] at hn
    have ha := hs a List.mem_cons_self
    have h1 := ih (B := B.erase a) hn.2 fun x hx => (List.mem_erase_of_ne fun e => hn.1 (by rw [← e]; exact hx)).2 (hs x (List.mem_cons_of_mem _ hx))
    rw [List.length_erase_of_mem ha] at h1
    have h2 := List.length_pos_of_mem ha
    simp only [List.length_cons]
    omega

theorem tel_sets {n : Nat} {T : Prs} {R : Nat → Nat → Prop} (h8 : n ≤ 8) (h : ∀ a b, (a, b) ∈ T ↔ R a b) (hR : ∀ a b, R a b → b < n) : Tel n R ((List.range n).map fun a => setOf (poL T a n)) := by
  have hat : ∀ i, i < n → ((List.range n).map fun a => setOf (poL T a n))[i]? = some (setOf (poL T i n)) := fun i hi => by simp [hi]
  refine ⟨by simp, fun i W hW => ?_, fun i x hi => ?_⟩
  · have hi : i < n := by
      have := (List.getElem?_eq_some_iff.1 hW).1
      simpa using this
    rw [hat i hi] at hW
    injection hW with hW
    rw [← hW]
    exact setOf_lt fun x hx => by have := (poL_mem.1 hx).1; omega
  · unfold Bt
    rw [getD_at (hat i hi), setOf_bit, poL_mem, h]
    exact ⟨fun q => q.2, fun q => ⟨hR i x q, q⟩⟩

set_option maxHeartbeats 32000000 in
theorem refJoined_any (n : Nat) (A : Option Addr) (len cap : Nat) (q : List Qt) (w : World) (hx : RdPz w w.heap.size A (qI q)) (hl : q.length = len) (hq : QOk n q) (h1 : 1 ≤ n) (h8 : n ≤ 8) (hl12 : len ≤ 12) :
    Calls Try.prog 14 #[.int .i64 n, .slice A len cap] w fun e w' => ∃ S A' c', Tel n (Sg q n true) S ∧ e = .returned (.slice A' n c') ∧ RdU w' w'.heap.size A' S ∧ Below w.heap.size w w' := by
  have HL := Lib.hid hl
  have HQ := Lib.hid hq
  have hmm := @run_makeMap Try.prog
  clear hl hq
  go_enter Try.func14, Try.ntmps14
  go_upto_region 4 with fail
  clear hmm
  have hJ0 : JiI q n w ((w.alloc (.map #[] 0)).alloc (.map #[] 0)) w.heap.size (w.heap.size + 1) [] [] [] [] :=
    ⟨(OwnL.new w).alloc _, (by
      have h := OwnL.new (w.alloc (.map #[] 0))
      rw [show (w.alloc (.map #[] 0)).heap.size = w.heap.size + 1 from by simp] at h
      exact h), by omega, Nat.le_refl _, by omega, by go_grown, ⟨GrP.refl List.nodup_nil, GrP.refl List.nodup_nil, (fun x hx => absurd hx (by simp)), (fun x hx => absurd hx (by simp))⟩⟩
  obtain ⟨wI, hwI⟩ : ∃ wI, wI = (w.alloc (.map #[] 0)).alloc (.map #[] 0) := ⟨_, rfl⟩
  rw [← hwI] at hJ0 ⊢
  clear hwI
  obtain ⟨bT, hbT⟩ : ∃ b, w.heap.size + 1 = b := ⟨_, rfl⟩
  rw [hbT] at hJ0 ⊢
  clear hbT
  obtain ⟨bO, hbO⟩ : ∃ b, b = w.heap.size := ⟨_, rfl⟩
  have HJ0 : Hid (JiI q n w wI bO bT [] [] [] []) := Lib.hid (by rw [hbO]; exact hJ0)
  rw [← hbO]
  clear hbO hJ0
  go_loopw [7] (fun i wr => ∃ (k : Nat) (O : Prs), k ≤ n ∧ i = .int .i64 k ∧ JiI q n w wr bO bT [] [] O [] ∧ Hid (∀ j, j < k → (j, j) ∈ O)) (fun i _ => n - (intOf i).toNat)
  case atStart => exact ⟨0, [], Nat.zero_le _, rfl, HJ0.out, Lib.hid fun j h => absurd h (by omega)⟩
  case round =>
    obtain ⟨k, O, hk, rfl, hJ, HR⟩ := hrel
    have HJ := Lib.hid hJ
    by_cases hlt : k < n
    · have HA : Hid (Sg q n false k k) := Lib.hid (.refl hlt)
      have HR2 : Hid (∀ j, j < k + 1 → (j, j) ∈ insP O (k, k)) := Lib.hid fun j hj => by
        by_cases e : j = k
        · subst e; exact insP_self
        · exact insP_sub (HR.out j (by omega))
      clear hJ
      go_wp2_with (at_mapUpdate; refine wpList_put_set rfl (.tmp 30) (.tmp 33) (.const (.bool true)) 47 rfl pairQ_keyed Try.underlying47 rfl HJ.out.mo.2 rfl rfl (pairQ_key (x := k) (y := k) (by omega) (by omega)) ?_; intro w5 hm_ ht_; have hJ5 := HJ.out.putO hm_ ht_ HA.out)
      go_round
      case rel => exact ⟨k + 1, _, by omega, by go_num, hJ5, HR2⟩
      case measure => (simp [intOf]; omega)
    · have HRN : Hid (∀ j, j < n → (j, j) ∈ O) := Lib.hid fun j hj => HR.out j (by omega)
      have HJN := Lib.hid hJ.again
      clear hJ
      obtain ⟨w1, rfl⟩ : ∃ w1 : World, w1 = wr := ⟨_, rfl⟩
      go_wp2
      go_loopw [] (fun wr => ∃ (O T : Prs), JiI q n w wr bO bT O T O T ∧ Hid (∀ j, j < n → (j, j) ∈ O)) (fun wr => 130 - (mapLen wr bO + mapLen wr bT))
      case atStart => exact ⟨O, [], HJN.out, HRN⟩
      case round =>
        clear HJ HR HRN HJN
        obtain ⟨O, T, hJ, HR⟩ := hrel
        obtain ⟨hsO, hsT⟩ := hJ.ps.short HQ.out h8
        obtain ⟨lO, hlO⟩ : ∃ k, O.length = k := ⟨_, rfl⟩
        obtain ⟨lT, hlT⟩ : ∃ k, T.length = k := ⟨_, rfl⟩
        have hrO := hJ.mo.lenRun hlO 3
        have hrT := hJ.mt.lenRun hlT 3
        rw [hlO] at hsO
        rw [hlT] at hsT
        have HLO := Lib.hid hlO
        have HLT := Lib.hid hlT
        have HMU : Hid (mapLen wr bO + mapLen wr bT = lO + lT) := Lib.hid (by rw [hJ.mo.len, hJ.mt.len, hlO, hlT])
        have HRO := Lib.hid (hJ.ps.lt HQ.out)
        have HJ := Lib.hid hJ
        clear hlO hlT hJ
        obtain ⟨wp, rfl⟩ : ∃ wp : World, wp = wr := ⟨_, rfl⟩
        go_wp2
        clear hrO hrT
        go_loopw [41] (fun i wr => ∃ (m : Nat) (T0 : Prs), m ≤ len ∧ i = .int .i64 m ∧ JiI q n w wr bO bT O T O T0 ∧ Hid (∀ (j : Nat) (p : Qt), j < m → q[j]? = some p → DlJ p T T0 n)) (fun i _ => len - (intOf i).toNat)
        case atStart => exact ⟨0, T, Nat.zero_le _, rfl, HJ.out, Lib.hid fun j p h => absurd h (by omega)⟩
        case round =>
        obtain ⟨m, T0, hm, rfl, hJ1, HJD⟩ := hrel
        by_cases hml : m < len
        · obtain ⟨ad, a, t, f, rfl, hbl, hd, hc0, hc1, hc2⟩ := RdQ.at_ (hx.below hJ1.be (Nat.le_refl _)) (k := m) (by rw [HL.out]; exact hml)
          have HQM := Lib.hid hd
          have HP := Lib.hid (List.mem_of_getElem? hd)
          obtain ⟨p1, p2, p3, p4⟩ := HQ.out _ HP.out
          simp only at p1 p2 p3 p4
          obtain ⟨bs, hbs⟩ : ∃ b, wr.heap.size = b := ⟨_, rfl⟩
          have HNB : Hid (bs ≠ bT) := Lib.hid (by have := hJ1.mt.lt; omega)
          have HBS := Lib.hid hbs
          have hK : a = 1 ∨ a = 2 ∨ a = 3 ∨ a = 4 := by omega
          clear hd p1 p2 hbs
          obtain ⟨wm, rfl⟩ : ∃ wm : World, wm = wr := ⟨_, rfl⟩
          rcases hK with rfl | rfl | rfl | rfl
          · as_aux_lemma =>
              have hc0 : wm.cell? (ad.add (m * 3)) = some (.int .i64 1) := hc0
              have hJa := hJ1.quiet (Y := wm.alloc (.cells #[.int .i64 1, .int .i64 (t : Int), .int .i64 (f : Int)] 41)) ((Below.refl _ _).alloc (Nat.le_refl _) _)
              have hBa : Own (wm.alloc (.cells #[.int .i64 1, .int .i64 (t : Int), .int .i64 (f : Int)] 41)) bs 41 [.int .i64 1, .int .i64 (t : Int), .int .i64 (f : Int)] := by rw [← HBS.out]; exact Own.new wm _ _
              have HJa := Lib.hid hJa
              have HBa := Lib.hid hBa
              clear hJ1 hJa hBa
              have HA := Lib.hid (Sg.addr (n := n) HP.out rfl)
              go_wp2_with (at_mapUpdate; refine wpList_put_set rfl (.tmp 48) (.tmp 53) (.const (.bool true)) 47 rfl pairQ_keyed Try.underlying47 rfl HJa.out.mt.2 rfl rfl (pairQ_key (x := t) (y := f) (by omega) (by omega)) ?_; intro w5 hm_ ht_; have hJ5 := HJa.out.putT hm_ ht_ HA.out; have hw5 := Wrote2.turned (h := bT) ht_; clear hm_ ht_)
              have hB5 := hw5.own HBa.out HNB.out HNB.out
              obtain ⟨T1, hT1⟩ : ∃ T1, T1 = insP T0 (t, f) := ⟨_, rfl⟩
              have HT1 : Hid (∀ x ∈ T0, x ∈ T1) := Lib.hid fun x hx => by rw [hT1]; exact insP_sub hx
              have HD5 : Hid (DlJ ⟨1, t, f⟩ T T1 0) := Lib.hid (DlJ.start fun _ => by rw [hT1]; exact insP_self)
              rw [← hT1] at hJ5
              clear hT1 hw5
              simp only [HBS.out]
              go_loopw [11] (fun i wr => ∃ (X : Nat) (T2 : Prs), X ≤ n ∧ i = .int .i64 X ∧ JiI q n w wr bO bT O T O T2 ∧ Own wr bs 41 [.int .i64 1, .int .i64 (t : Int), .int .i64 (f : Int)] ∧ Hid (∀ x ∈ T1, x ∈ T2) ∧ Hid (DlJ ⟨1, t, f⟩ T T2 X)) (fun i _ => n - (intOf i).toNat)
              case atStart => exact ⟨0, T1, Nat.zero_le _, rfl, hJ5, hB5, Lib.hid fun x hx => hx, HD5⟩
              case round =>
                obtain ⟨X, T2, hX, rfl, hJ2, hB2, HS2, HD2⟩ := hrel
                have hk0 := hB2.cell (j := 0) rfl
                have hk1 := hB2.cell (j := 1) rfl
                have hk2 := hB2.cell (j := 2) rfl
                have hbl2 := hB2.lt
                by_cases hXl : X < n
                · have hb12 : Below wr.heap.size wr ((wr.alloc (.cells #[.int .i64 (t : Int)] 3)).alloc (.cells #[.int .i64 (f : Int)] 3)) := by go_grown
                  have hJa := hJ2.quiet hb12
                  have hBa := hB2.below hb12 hbl2
                  have HJA := Lib.hid hJa
                  have HBA := Lib.hid hBa
                  have HD3 := Lib.hid (HD2.out.next1 rfl)
                  clear hJ2 hB2 hJa hBa
                  go_wp2
                  go_round
                  case rel => exact ⟨X + 1, T2, by omega, by go_num, HJA.out, HBA.out, HS2, HD3⟩
                  case measure => (simp [intOf]; omega)
                · have hXn : X = n := by omega
                  have HDn : Hid (DlJ ⟨1, t, f⟩ T T2 n) := Lib.hid (by rw [← hXn]; exact HD2.out)
                  have HJ2 : Hid (∀ (j : Nat) (p : Qt), j < m + 1 → q[j]? = some p → DlJ p T T2 n) := Lib.hid fun j p hj hp => by
                    by_cases e : j = m
                    · subst e
                      rw [HQM.out] at hp
                      injection hp with hp
                      subst hp
                      exact HDn.out
                    · exact (HJD.out j p (by omega) hp).sub fun x hx => HS2.out x (HT1.out x hx)
                  have HJ3 := Lib.hid hJ2
                  clear hJ2 hB2 hXn
                  go_wp2
                  go_round
                  case rel => exact ⟨m + 1, T2, by omega, by go_num, HJ3.out, HJ2⟩
                  case measure => (simp [intOf]; omega)
          · as_aux_lemma =>
              have hc0 : wm.cell? (ad.add (m * 3)) = some (.int .i64 2) := hc0
              have hJa := hJ1.quiet (Y := wm.alloc (.cells #[.int .i64 2, .int .i64 (t : Int), .int .i64 (f : Int)] 41)) ((Below.refl _ _).alloc (Nat.le_refl _) _)
              have hBa : Own (wm.alloc (.cells #[.int .i64 2, .int .i64 (t : Int), .int .i64 (f : Int)] 41)) bs 41 [.int .i64 2, .int .i64 (t : Int), .int .i64 (f : Int)] := by rw [← HBS.out]; exact Own.new wm _ _
              have HJa := Lib.hid hJa
              have HBa := Lib.hid hBa
              clear hJ1 hJa hBa
              obtain ⟨T1, hT1⟩ : ∃ T1, T1 = T0 := ⟨_, rfl⟩
              have HT1 : Hid (∀ x ∈ T0, x ∈ T1) := Lib.hid fun x hx => by rw [hT1]; exact hx
              have HD5 : Hid (DlJ ⟨2, t, f⟩ T T1 0) := Lib.hid (DlJ.start fun e => absurd e (by simp))
              rw [← hT1] at HJa
              clear hT1
              go_wp2
              simp only [HBS.out]
              go_loopw [11] (fun i wr => ∃ (X : Nat) (T2 : Prs), X ≤ n ∧ i = .int .i64 X ∧ JiI q n w wr bO bT O T O T2 ∧ Own wr bs 41 [.int .i64 2, .int .i64 (t : Int), .int .i64 (f : Int)] ∧ Hid (∀ x ∈ T1, x ∈ T2) ∧ Hid (DlJ ⟨2, t, f⟩ T T2 X)) (fun i _ => n - (intOf i).toNat)
              case atStart => exact ⟨0, T1, Nat.zero_le _, rfl, HJa.out, HBa.out, Lib.hid fun x hx => hx, HD5⟩
              case round =>
                obtain ⟨X, T2, hX, rfl, hJ2, hB2, HS2, HD2⟩ := hrel
                have hk0 := hB2.cell (j := 0) rfl
                have hk1 := hB2.cell (j := 1) rfl
                have hk2 := hB2.cell (j := 2) rfl
                have hbl2 := hB2.lt
                by_cases hXl : X < n
                · have hb12 : Below wr.heap.size wr ((wr.alloc (.cells #[.int .i64 (t : Int)] 3)).alloc (.cells #[.int .i64 (f : Int)] 3)) := by go_grown
                  have hJa := hJ2.quiet hb12
                  have hBa := hB2.below hb12 hbl2
                  have hka := hBa.cell (j := 0) rfl
                  have hkb := hBa.cell (j := 1) rfl
                  have hkc := hBa.cell (j := 2) rfl
                  have ra : RdI ((wr.alloc (.cells #[.int .i64 (t : Int)] 3)).alloc (.cells #[.int .i64 (f : Int)] 3)) ((wr.alloc (.cells #[.int .i64 (t : Int)] 3)).alloc (.cells #[.int .i64 (f : Int)] 3)).heap.size (some ⟨wr.heap.size, 0, none⟩) (ni [t]) := ((OwnI.rd (xs := [(t : Int)]) ((Own.new wr 3 [.int .i64 (t : Int)]).alloc _)).more (by simp))
                  have rb : RdI ((wr.alloc (.cells #[.int .i64 (t : Int)] 3)).alloc (.cells #[.int .i64 (f : Int)] 3)) ((wr.alloc (.cells #[.int .i64 (t : Int)] 3)).alloc (.cells #[.int .i64 (f : Int)] 3)).heap.size (some ⟨wr.heap.size + 1, 0, none⟩) (ni [f]) := by
                    have hN := Own.new (wr.alloc (.cells #[.int .i64 (t : Int)] 3)) 3 [.int .i64 (f : Int)]
                    rw [show (wr.alloc (.cells #[.int .i64 (t : Int)] 3)).heap.size = wr.heap.size + 1 from by simp] at hN
                    exact (OwnI.rd (xs := [(f : Int)]) hN).more (by simp)
                  obtain ⟨al, hal⟩ : ∃ al, al = [t] := ⟨_, rfl⟩
                  obtain ⟨bl, hbl⟩ : ∃ bl, bl = [f] := ⟨_, rfl⟩
                  have HRA : Hid (RdI ((wr.alloc (.cells #[.int .i64 (t : Int)] 3)).alloc (.cells #[.int .i64 (f : Int)] 3)) ((wr.alloc (.cells #[.int .i64 (t : Int)] 3)).alloc (.cells #[.int .i64 (f : Int)] 3)).heap.size (some ⟨wr.heap.size, 0, none⟩) (ni al)) := Lib.hid (by rw [hal]; exact ra)
                  have HRB : Hid (RdI ((wr.alloc (.cells #[.int .i64 (t : Int)] 3)).alloc (.cells #[.int .i64 (f : Int)] 3)) ((wr.alloc (.cells #[.int .i64 (t : Int)] 3)).alloc (.cells #[.int .i64 (f : Int)] 3)).heap.size (some ⟨wr.heap.size + 1, 0, none⟩) (ni bl)) := Lib.hid (by rw [hbl]; exact rb)
                  have HEQ : Hid (EqJ q n al bl) := Lib.hid (by rw [hal, hbl]; exact EqJ.copy HQ.out HP.out rfl)
                  have HAL : Hid (∀ i, AeJ ⟨2, t, f⟩ T i → i ∈ al) := Lib.hid fun i h => by unfold AeJ at h; rw [if_neg (by simp)] at h; rw [hal, h]; simp
                  have HBL : Hid (∀ i, BeJ ⟨2, t, f⟩ T i → i ∈ bl) := Lib.hid fun i h => by unfold BeJ at h; rw [if_neg (by simp)] at h; rw [hbl, h]; simp
                  obtain ⟨ma, hma⟩ : ∃ m, m = 1 := ⟨_, rfl⟩
                  obtain ⟨mb, hmb⟩ : ∃ m, m = 1 := ⟨_, rfl⟩
                  have HLA : Hid (al.length = ma) := Lib.hid (by rw [hal, hma]; rfl)
                  have HLB : Hid (bl.length = mb) := Lib.hid (by rw [hbl, hmb]; rfl)
                  have HMA := Lib.hid hma
                  have HMB := Lib.hid hmb
                  have HJX := Lib.hid hJa
                  have HBX := Lib.hid hBa
                  clear hJ2 hB2 hJa hBa ra rb hal hbl hma hmb
                  go_upto_region 23 with fail
                  obtain ⟨wX, hwX⟩ : ∃ x, x = (wr.alloc (.cells #[.int .i64 (t : Int)] 3)).alloc (.cells #[.int .i64 (f : Int)] 3) := ⟨_, rfl⟩
                  rw [← hwX] at HRA HRB HJX HBX ⊢
                  clear hwX hb12 hka hkb hkc
                  have hma8 : ma ≤ 8 := by have := HMA.out; omega
                  have hmb8 : mb ≤ 8 := by have := HMB.out; omega
                  obtain ⟨Aa, hAa⟩ : ∃ A : Option Addr, A = some ⟨wr.heap.size, 0, none⟩ := ⟨_, rfl⟩
                  rw [← hAa] at HRA
                  have hlit : Value.slice (some ⟨wr.heap.size, 0, none⟩) 1 1 = Value.slice Aa ma ma := by rw [hAa, HMA.out]
                  rw [hlit]
                  clear hlit hAa
                  obtain ⟨Ab, hAb⟩ : ∃ A : Option Addr, A = some ⟨wr.heap.size + 1, 0, none⟩ := ⟨_, rfl⟩
                  rw [← hAb] at HRB
                  have hlit : Value.slice (some ⟨wr.heap.size + 1, 0, none⟩) 1 1 = Value.slice Ab mb mb := by rw [hAb, HMB.out]
                  rw [hlit]
                  clear hlit hAb
                  obtain ⟨wo2, rfl⟩ : ∃ wx : World, wx = wr := ⟨_, rfl⟩
                  go_wp2
                  go_loopw [86] (fun z wr => ∃ (U : Nat) (T3 : Prs), U ≤ ma ∧ z = .int .i64 U ∧ JiI q n w wr bO bT O T O T3 ∧ Wrote2 bT bT wX wr ∧ Hid (∀ x ∈ T2, x ∈ T3) ∧ Hid (LlJ al bl T T3 X U 0)) (fun z _ => ma - (intOf z).toNat)
                  case atStart => exact ⟨0, T2, Nat.zero_le _, rfl, HJX.out, Wrote2.refl _, Lib.hid fun x hx => hx, Lib.hid LlJ.start⟩
                  case round =>
                    obtain ⟨U, T3, hU, rfl, hJ3, hw3, HS3, HL3⟩ := hrel
                    by_cases hUl : U < ma
                    · obtain ⟨ad3, in_, rfl, hbl3, hd3, hcell3⟩ := ((HRA.out).wroteM HJX.out.mt hw3 (Nat.le_refl _)).at_ (k := U) (by rw [pn_len, HLA.out]; exact hUl)
                      obtain ⟨i, rfl, hi⟩ := pn_inv hd3
                      have HI := Lib.hid hi
                      have HIM := Lib.hid (List.mem_of_getElem? hi)
                      have HJ3 := Lib.hid hJ3
                      have HW3 := Lib.hid hw3
                      clear hd3 hi hJ3 hw3
                      obtain ⟨w3o, rfl⟩ : ∃ wx : World, wx = wr := ⟨_, rfl⟩
                      go_wp2
                      go_loopw [92] (fun z wr => ∃ (V : Nat) (T4 : Prs), V ≤ mb ∧ z = .int .i64 V ∧ JiI q n w wr bO bT O T O T4 ∧ Wrote2 bT bT wX wr ∧ Hid (∀ x ∈ T2, x ∈ T4) ∧ Hid (LlJ al bl T T4 X U V)) (fun z _ => mb - (intOf z).toNat)
                      case atStart => exact ⟨0, T3, Nat.zero_le _, rfl, HJ3.out, HW3.out, HS3, HL3⟩
                      case round =>
                        obtain ⟨V, T4, hV, rfl, hJ4, hw4, HS4, HL4⟩ := hrel
                        by_cases hVl : V < mb
                        · obtain ⟨ad4, jn, rfl, hbl4, hd4, hcell4⟩ := ((HRB.out).wroteM HJX.out.mt hw4 (Nat.le_refl _)).at_ (k := V) (by rw [pn_len, HLB.out]; exact hVl)
                          obtain ⟨j, rfl, hj⟩ := pn_inv hd4
                          have hjm := List.mem_of_getElem? hj
                          obtain ⟨hi8, hj8, hij⟩ := HEQ.out i HIM.out j hjm
                          have HIJ := Lib.hid hij
                          have HJ4 := Lib.hid hJ4
                          have HW4 := Lib.hid hw4
                          have HCOL := Lib.hid (fun (T5 : Prs) (h : LlJ al bl T T5 X U V) => h.col HI.out hj)
                          obtain ⟨q1, hq1⟩ : ∃ b, decide ((i, X) ∈ T4) = b := ⟨_, rfl⟩
                          have hl1 := hJ4.mt.run (x := i) (y := X) (by omega) (by omega) hq1
                          have HQ1 := Lib.hid hq1
                          clear hd4 hj hjm hij hJ4 hw4 hq1
                          cases q1 with
                          | true =>
                            have HA := Lib.hid (HJ4.out.ps.st _ (of_decide_eq_true HQ1.out))
                            go_wp2_with (first
                              | (at_mapUpdate; refine wpList_put_set rfl (.tmp 101) (.tmp 104) (.const (.bool true)) 47 rfl pairQ_keyed Try.underlying47 rfl HJ4.out.mt.2 rfl rfl (pairQ_key (x := j) (y := X) (by omega) (by omega)) ?_; intro w5 hm_ ht_; have hJ5 := HJ4.out.putT hm_ ht_ ((HIJ.out X).1 HA.out); have HJ5 := Lib.hid hJ5; have hl2 := hJ5.mt.run (x := j) (y := X) (by omega) (by omega) (decide_eq_true insP_self); have hw5 := HW4.out.trans (Wrote2.turned ht_); clear hm_ ht_ hJ5)
                              | (at_mapUpdate; refine wpList_put_set rfl (.tmp 110) (.tmp 113) (.const (.bool true)) 47 rfl pairQ_keyed Try.underlying47 rfl HJ5.out.mt.2 rfl rfl (pairQ_key (x := i) (y := X) (by omega) (by omega)) ?_; intro w6 hm_ ht_; have hJ6 := HJ5.out.putT hm_ ht_ HA.out; have hw6 := hw5.trans (Wrote2.turned ht_); clear hm_ ht_))
                            have HS6 : Hid (∀ x ∈ T2, x ∈ insP (insP T4 (j, X)) (i, X)) := Lib.hid fun x hx => insP_sub (insP_sub (HS4.out x hx))
                            have HL6 : Hid (LlJ al bl T (insP (insP T4 (j, X)) (i, X)) X U (V + 1)) := Lib.hid (HCOL.out _ (HL4.out.sub fun x hx => insP_sub (insP_sub hx)) (fun _ => insP_sub insP_self) (fun _ => insP_self))
                            go_round
                            case rel => exact ⟨V + 1, _, by omega, by go_num, hJ6, hw6, HS6, HL6⟩
                            case measure => (simp [intOf]; omega)
                          | false =>
                            obtain ⟨q2, hq2⟩ : ∃ b, decide ((j, X) ∈ T4) = b := ⟨_, rfl⟩
                            have hl2 := HJ4.out.mt.run (x := j) (y := X) (by omega) (by omega) hq2
                            have HQ2 := Lib.hid hq2
                            have HN1 : Hid ((i, X) ∉ T) := Lib.hid fun h => absurd (HJ4.out.ps.gt.sub h) (of_decide_eq_false HQ1.out)
                            clear hq2
                            cases q2 with
                            | true =>
                              have HA := Lib.hid ((HIJ.out X).2 (HJ4.out.ps.st _ (of_decide_eq_true HQ2.out)))
                              go_wp2_with (at_mapUpdate; refine wpList_put_set rfl (.tmp 110) (.tmp 113) (.const (.bool true)) 47 rfl pairQ_keyed Try.underlying47 rfl HJ4.out.mt.2 rfl rfl (pairQ_key (x := i) (y := X) (by omega) (by omega)) ?_; intro w6 hm_ ht_; have hJ6 := HJ4.out.putT hm_ ht_ HA.out; have hw6 := HW4.out.trans (Wrote2.turned ht_); clear hm_ ht_)
                              have HS6 : Hid (∀ x ∈ T2, x ∈ insP T4 (i, X)) := Lib.hid fun x hx => insP_sub (HS4.out x hx)
                              have HL6 : Hid (LlJ al bl T (insP T4 (i, X)) X U (V + 1)) := Lib.hid (HCOL.out _ (HL4.out.sub fun x hx => insP_sub hx) (fun h => absurd h HN1.out) (fun _ => insP_self))
                              go_round
                              case rel => exact ⟨V + 1, _, by omega, by go_num, hJ6, hw6, HS6, HL6⟩
                              case measure => (simp [intOf]; omega)
                            | false =>
                              have HL6 : Hid (LlJ al bl T T4 X U (V + 1)) := Lib.hid (HCOL.out _ HL4.out (fun h => absurd h HN1.out) (fun h => absurd (HJ4.out.ps.gt.sub h) (of_decide_eq_false HQ2.out)))
                              go_wp2
                              go_round
                              case rel => exact ⟨V + 1, T4, by omega, by go_num, HJ4.out, HW4.out, HS4, HL6⟩
                              case measure => (simp [intOf]; omega)
                        · have hVn : V = bl.length := by rw [HLB.out]; omega
                          have HL6 : Hid (LlJ al bl T T4 X (U + 1) 0) := Lib.hid (by have h := HL4.out; rw [hVn] at h; exact h.row)
                          have HJ4 := Lib.hid hJ4
                          clear hVn hJ4
                          go_wp2
                          go_round
                          case rel => exact ⟨U + 1, T4, by omega, by go_num, HJ4.out, hw4, HS4, HL6⟩
                          case measure => (simp [intOf]; omega)
                    · have hUn : U = al.length := by rw [HLA.out]; omega
                      have HD6 : Hid (DlJ ⟨2, t, f⟩ T T3 (X + 1)) := Lib.hid ((HD2.out.sub HS3.out).next (by have h := HL3.out; rw [hUn] at h; exact h) HAL.out HBL.out)
                      have HB3 := Lib.hid (hw3.own HBX.out HNB.out HNB.out)
                      have HS6 : Hid (∀ x ∈ T1, x ∈ T3) := Lib.hid fun x hx => HS3.out x (HS2.out x hx)
                      have HJ3 := Lib.hid hJ3
                      clear hUn hJ3
                      go_wp2
                      go_round
                      case rel => exact ⟨X + 1, T3, by omega, by go_num, HJ3.out, HB3.out, HS6, HD6⟩
                      case measure => (simp [intOf]; omega)
                · have hXn : X = n := by omega
                  have HDn : Hid (DlJ ⟨2, t, f⟩ T T2 n) := Lib.hid (by rw [← hXn]; exact HD2.out)
                  have HJ2 : Hid (∀ (j : Nat) (p : Qt), j < m + 1 → q[j]? = some p → DlJ p T T2 n) := Lib.hid fun j p hj hp => by
                    by_cases e : j = m
                    · subst e
                      rw [HQM.out] at hp
                      injection hp with hp
                      subst hp
                      exact HDn.out
                    · exact (HJD.out j p (by omega) hp).sub fun x hx => HS2.out x (HT1.out x hx)
                  have HJ3 := Lib.hid hJ2
                  clear hJ2 hB2 hXn
                  go_wp2
                  go_round
                  case rel => exact ⟨m + 1, T2, by omega, by go_num, HJ3.out, HJ2⟩
                  case measure => (simp [intOf]; omega)
          · as_aux_lemma =>
              have hc0 : wm.cell? (ad.add (m * 3)) = some (.int .i64 3) := hc0
              have hJa := hJ1.quiet (Y := wm.alloc (.cells #[.int .i64 3, .int .i64 (t : Int), .int .i64 (f : Int)] 41)) ((Below.refl _ _).alloc (Nat.le_refl _) _)
              have hBa : Own (wm.alloc (.cells #[.int .i64 3, .int .i64 (t : Int), .int .i64 (f : Int)] 41)) bs 41 [.int .i64 3, .int .i64 (t : Int), .int .i64 (f : Int)] := by rw [← HBS.out]; exact Own.new wm _ _
              have HJa := Lib.hid hJa
              have HBa := Lib.hid hBa
              clear hJ1 hJa hBa
              obtain ⟨T1, hT1⟩ : ∃ T1, T1 = T0 := ⟨_, rfl⟩
              have HT1 : Hid (∀ x ∈ T0, x ∈ T1) := Lib.hid fun x hx => by rw [hT1]; exact hx
              have HD5 : Hid (DlJ ⟨3, t, f⟩ T T1 0) := Lib.hid (DlJ.start fun e => absurd e (by simp))
              rw [← hT1] at HJa
              clear hT1
              go_wp2
              simp only [HBS.out]
              go_loopw [11] (fun i wr => ∃ (X : Nat) (T2 : Prs), X ≤ n ∧ i = .int .i64 X ∧ JiI q n w wr bO bT O T O T2 ∧ Own wr bs 41 [.int .i64 3, .int .i64 (t : Int), .int .i64 (f : Int)] ∧ Hid (∀ x ∈ T1, x ∈ T2) ∧ Hid (DlJ ⟨3, t, f⟩ T T2 X)) (fun i _ => n - (intOf i).toNat)
              case atStart => exact ⟨0, T1, Nat.zero_le _, rfl, HJa.out, HBa.out, Lib.hid fun x hx => hx, HD5⟩
              case round =>
                obtain ⟨X, T2, hX, rfl, hJ2, hB2, HS2, HD2⟩ := hrel
                have hk0 := hB2.cell (j := 0) rfl
                have hk1 := hB2.cell (j := 1) rfl
                have hk2 := hB2.cell (j := 2) rfl
                have hbl2 := hB2.lt
                by_cases hXl : X < n
                · have hb12 : Below wr.heap.size wr ((wr.alloc (.cells #[.int .i64 (t : Int)] 3)).alloc (.cells #[.int .i64 (f : Int)] 3)) := by go_grown
                  have hJa := hJ2.quiet hb12
                  have hBa := hB2.below hb12 hbl2
                  have hka := hBa.cell (j := 0) rfl
                  have hkb := hBa.cell (j := 1) rfl
                  have hkc := hBa.cell (j := 2) rfl
                  have ra : RdI ((wr.alloc (.cells #[.int .i64 (t : Int)] 3)).alloc (.cells #[.int .i64 (f : Int)] 3)) ((wr.alloc (.cells #[.int .i64 (t : Int)] 3)).alloc (.cells #[.int .i64 (f : Int)] 3)).heap.size (some ⟨wr.heap.size, 0, none⟩) (ni [t]) := ((OwnI.rd (xs := [(t : Int)]) ((Own.new wr 3 [.int .i64 (t : Int)]).alloc _)).more (by simp))
                  have rb : RdI ((wr.alloc (.cells #[.int .i64 (t : Int)] 3)).alloc (.cells #[.int .i64 (f : Int)] 3)) ((wr.alloc (.cells #[.int .i64 (t : Int)] 3)).alloc (.cells #[.int .i64 (f : Int)] 3)).heap.size (some ⟨wr.heap.size + 1, 0, none⟩) (ni [f]) := by
                    have hN := Own.new (wr.alloc (.cells #[.int .i64 (t : Int)] 3)) 3 [.int .i64 (f : Int)]
                    rw [show (wr.alloc (.cells #[.int .i64 (t : Int)] 3)).heap.size = wr.heap.size + 1 from by simp] at hN
                    exact (OwnI.rd (xs := [(f : Int)]) hN).more (by simp)
                  have HPE := Lib.hid (pointees_any n f bT T2 _ hJa.mt h8 (by omega))
                  have HJA := Lib.hid hJa
                  have HBA := Lib.hid hBa
                  have HRA0 := Lib.hid ra
                  have HRB0 := Lib.hid rb
                  clear hJ2 hB2 hJa ra rb
                  go_upto_region 23 with (go_at_call 31; (with_reducible refine HPE.out.mono ?_); rintro e w5 ⟨Ap, mp, cp, rfl, hlp, hrp, hb5⟩; have hB5 := HBA.out.below hb5 HBA.out.lt; have h50 := hB5.cell (j := 0) rfl; have h51 := hB5.cell (j := 1) rfl; have h52 := hB5.cell (j := 2) rfl)
                  have HJX := Lib.hid (HJA.out.quiet hb5)
                  have HBX := Lib.hid hB5
                  obtain ⟨pl, hpl⟩ : ∃ pl, poL T2 f n = pl := ⟨_, rfl⟩
                  have hps : ∀ j, j ∈ pl ↔ j < n ∧ (f, j) ∈ T2 := fun j => by rw [← hpl]; exact poL_mem
                  rw [hpl] at hlp hrp
                  obtain ⟨al, hal⟩ : ∃ al, al = [t] := ⟨_, rfl⟩
                  obtain ⟨bl, hbl⟩ : ∃ bl, bl = pl := ⟨_, rfl⟩
                  have HRA : Hid (RdI w5 w5.heap.size (some ⟨wr.heap.size, 0, none⟩) (ni al)) := Lib.hid (by rw [hal]; exact (HRA0.out.below hb5 (Nat.le_refl _)).more hb5.size)
                  have HRB : Hid (RdI w5 w5.heap.size Ap (ni bl)) := Lib.hid (by rw [hbl]; exact hrp)
                  have HEQ : Hid (EqJ q n al bl) := Lib.hid (by rw [hal, hbl]; exact EqJ.load HQ.out HP.out rfl fun j hj => HJA.out.ps.st _ ((hps j).1 hj).2)
                  have HAL : Hid (∀ i, AeJ ⟨3, t, f⟩ T i → i ∈ al) := Lib.hid fun i h => by unfold AeJ at h; rw [if_neg (by simp)] at h; rw [hal, h]; simp
                  have HBL : Hid (∀ i, BeJ ⟨3, t, f⟩ T i → i ∈ bl) := Lib.hid fun i h => by unfold BeJ at h; rw [if_pos rfl] at h; rw [hbl]; exact (hps i).2 ⟨(HJA.out.ps.lt HQ.out).2 _ (HJA.out.ps.gt.sub h) |>.2, HJA.out.ps.gt.sub h⟩
                  obtain ⟨ma, hma⟩ : ∃ m, m = 1 := ⟨_, rfl⟩
                  obtain ⟨mb, hmb⟩ : ∃ m, m = mp := ⟨_, rfl⟩
                  subst hmb
                  have HLA : Hid (al.length = ma) := Lib.hid (by rw [hal, hma]; rfl)
                  have HLB : Hid (bl.length = mb) := Lib.hid (by rw [hbl]; exact hlp)
                  have hma8 : ma ≤ 8 := by omega
                  have hmb8 : mb ≤ 8 := by have h := poL_len (T := T2) (a := f) n; rw [hpl, hlp] at h; omega
                  have HMA := Lib.hid hma
                  clear hma hal hbl hpl hps hlp hrp hb12 hka hkb hkc h50 h51 h52 hb5 hB5 hBa
                  obtain ⟨wX, hwX⟩ : ∃ x : World, x = w5 := ⟨_, rfl⟩
                  subst hwX
                  obtain ⟨Aa, hAa⟩ : ∃ A : Option Addr, A = some ⟨wr.heap.size, 0, none⟩ := ⟨_, rfl⟩
                  rw [← hAa] at HRA
                  have hlit : Value.slice (some ⟨wr.heap.size, 0, none⟩) 1 1 = Value.slice Aa ma ma := by rw [hAa, HMA.out]
                  rw [hlit]
                  clear hlit hAa
                  obtain ⟨wo2, rfl⟩ : ∃ wx : World, wx = wr := ⟨_, rfl⟩
                  go_wp2
                  go_loopw [86] (fun z wr => ∃ (U : Nat) (T3 : Prs), U ≤ ma ∧ z = .int .i64 U ∧ JiI q n w wr bO bT O T O T3 ∧ Wrote2 bT bT wX wr ∧ Hid (∀ x ∈ T2, x ∈ T3) ∧ Hid (LlJ al bl T T3 X U 0)) (fun z _ => ma - (intOf z).toNat)
                  case atStart => exact ⟨0, T2, Nat.zero_le _, rfl, HJX.out, Wrote2.refl _, Lib.hid fun x hx => hx, Lib.hid LlJ.start⟩
                  case round =>
                    obtain ⟨U, T3, hU, rfl, hJ3, hw3, HS3, HL3⟩ := hrel
                    by_cases hUl : U < ma
                    · obtain ⟨ad3, in_, rfl, hbl3, hd3, hcell3⟩ := ((HRA.out).wroteM HJX.out.mt hw3 (Nat.le_refl _)).at_ (k := U) (by rw [pn_len, HLA.out]; exact hUl)
                      obtain ⟨i, rfl, hi⟩ := pn_inv hd3
                      have HI := Lib.hid hi
                      have HIM := Lib.hid (List.mem_of_getElem? hi)
                      have HJ3 := Lib.hid hJ3
                      have HW3 := Lib.hid hw3
                      clear hd3 hi hJ3 hw3
                      obtain ⟨w3o, rfl⟩ : ∃ wx : World, wx = wr := ⟨_, rfl⟩
                      go_wp2
                      go_loopw [92] (fun z wr => ∃ (V : Nat) (T4 : Prs), V ≤ mb ∧ z = .int .i64 V ∧ JiI q n w wr bO bT O T O T4 ∧ Wrote2 bT bT wX wr ∧ Hid (∀ x ∈ T2, x ∈ T4) ∧ Hid (LlJ al bl T T4 X U V)) (fun z _ => mb - (intOf z).toNat)
                      case atStart => exact ⟨0, T3, Nat.zero_le _, rfl, HJ3.out, HW3.out, HS3, HL3⟩
                      case round =>
                        obtain ⟨V, T4, hV, rfl, hJ4, hw4, HS4, HL4⟩ := hrel
                        by_cases hVl : V < mb
                        · obtain ⟨ad4, jn, rfl, hbl4, hd4, hcell4⟩ := ((HRB.out).wroteM HJX.out.mt hw4 (Nat.le_refl _)).at_ (k := V) (by rw [pn_len, HLB.out]; exact hVl)
                          obtain ⟨j, rfl, hj⟩ := pn_inv hd4
                          have hjm := List.mem_of_getElem? hj
                          obtain ⟨hi8, hj8, hij⟩ := HEQ.out i HIM.out j hjm
                          have HIJ := Lib.hid hij
                          have HJ4 := Lib.hid hJ4
                          have HW4 := Lib.hid hw4
                          have HCOL := Lib.hid (fun (T5 : Prs) (h : LlJ al bl T T5 X U V) => h.col HI.out hj)
                          obtain ⟨q1, hq1⟩ : ∃ b, decide ((i, X) ∈ T4) = b := ⟨_, rfl⟩
                          have hl1 := hJ4.mt.run (x := i) (y := X) (by omega) (by omega) hq1
                          have HQ1 := Lib.hid hq1
                          clear hd4 hj hjm hij hJ4 hw4 hq1
                          cases q1 with
                          | true =>
                            have HA := Lib.hid (HJ4.out.ps.st _ (of_decide_eq_true HQ1.out))
                            go_wp2_with (first
                              | (at_mapUpdate; refine wpList_put_set rfl (.tmp 101) (.tmp 104) (.const (.bool true)) 47 rfl pairQ_keyed Try.underlying47 rfl HJ4.out.mt.2 rfl rfl (pairQ_key (x := j) (y := X) (by omega) (by omega)) ?_; intro w5 hm_ ht_; have hJ5 := HJ4.out.putT hm_ ht_ ((HIJ.out X).1 HA.out); have HJ5 := Lib.hid hJ5; have hl2 := hJ5.mt.run (x := j) (y := X) (by omega) (by omega) (decide_eq_true insP_self); have hw5 := HW4.out.trans (Wrote2.turned ht_); clear hm_ ht_ hJ5)
                              | (at_mapUpdate; refine wpList_put_set rfl (.tmp 110) (.tmp 113) (.const (.bool true)) 47 rfl pairQ_keyed Try.underlying47 rfl HJ5.out.mt.2 rfl rfl (pairQ_key (x := i) (y := X) (by omega) (by omega)) ?_; intro w6 hm_ ht_; have hJ6 := HJ5.out.putT hm_ ht_ HA.out; have hw6 := hw5.trans (Wrote2.turned ht_); clear hm_ ht_))
                            have HS6 : Hid (∀ x ∈ T2, x ∈ insP (insP T4 (j, X)) (i, X)) := Lib.hid fun x hx => insP_sub (insP_sub (HS4.out x hx))
                            have HL6 : Hid (LlJ al bl T (insP (insP T4 (j, X)) (i, X)) X U (V + 1)) := Lib.hid (HCOL.out _ (HL4.out.sub fun x hx => insP_sub (insP_sub hx)) (fun _ => insP_sub insP_self) (fun _ => insP_self))
                            go_round
                            case rel => exact ⟨V + 1, _, by omega, by go_num, hJ6, hw6, HS6, HL6⟩
                            case measure => (simp [intOf]; omega)
                          | false =>
                            obtain ⟨q2, hq2⟩ : ∃ b, decide ((j, X) ∈ T4) = b := ⟨_, rfl⟩
                            have hl2 := HJ4.out.mt.run (x := j) (y := X) (by omega) (by omega) hq2
                            have HQ2 := Lib.hid hq2
                            have HN1 : Hid ((i, X) ∉ T) := Lib.hid fun h => absurd (HJ4.out.ps.gt.sub h) (of_decide_eq_false HQ1.out)
                            clear hq2
                            cases q2 with
                            | true =>
                              have HA := Lib.hid ((HIJ.out X).2 (HJ4.out.ps.st _ (of_decide_eq_true HQ2.out)))
                              go_wp2_with (at_mapUpdate; refine wpList_put_set rfl (.tmp 110) (.tmp 113) (.const (.bool true)) 47 rfl pairQ_keyed Try.underlying47 rfl HJ4.out.mt.2 rfl rfl (pairQ_key (x := i) (y := X) (by omega) (by omega)) ?_; intro w6 hm_ ht_; have hJ6 := HJ4.out.putT hm_ ht_ HA.out; have hw6 := HW4.out.trans (Wrote2.turned ht_); clear hm_ ht_)
                              have HS6 : Hid (∀ x ∈ T2, x ∈ insP T4 (i, X)) := Lib.hid fun x hx => insP_sub (HS4.out x hx)
                              have HL6 : Hid (LlJ al bl T (insP T4 (i, X)) X U (V + 1)) := Lib.hid (HCOL.out _ (HL4.out.sub fun x hx => insP_sub hx) (fun h => absurd h HN1.out) (fun _ => insP_self))
                              go_round
                              case rel => exact ⟨V + 1, _, by omega, by go_num, hJ6, hw6, HS6, HL6⟩
                              case measure => (simp [intOf]; omega)
                            | false =>
                              have HL6 : Hid (LlJ al bl T T4 X U (V + 1)) := Lib.hid (HCOL.out _ HL4.out (fun h => absurd h HN1.out) (fun h => absurd (HJ4.out.ps.gt.sub h) (of_decide_eq_false HQ2.out)))
                              go_wp2
                              go_round
                              case rel => exact ⟨V + 1, T4, by omega, by go_num, HJ4.out, HW4.out, HS4, HL6⟩
                              case measure => (simp [intOf]; omega)
                        · have hVn : V = bl.length := by rw [HLB.out]; omega
                          have HL6 : Hid (LlJ al bl T T4 X (U + 1) 0) := Lib.hid (by have h := HL4.out; rw [hVn] at h; exact h.row)
                          have HJ4 := Lib.hid hJ4
                          clear hVn hJ4
                          go_wp2
                          go_round
                          case rel => exact ⟨U + 1, T4, by omega, by go_num, HJ4.out, hw4, HS4, HL6⟩
                          case measure => (simp [intOf]; omega)
                    · have hUn : U = al.length := by rw [HLA.out]; omega
                      have HD6 : Hid (DlJ ⟨3, t, f⟩ T T3 (X + 1)) := Lib.hid ((HD2.out.sub HS3.out).next (by have h := HL3.out; rw [hUn] at h; exact h) HAL.out HBL.out)
                      have HB3 := Lib.hid (hw3.own HBX.out HNB.out HNB.out)
                      have HS6 : Hid (∀ x ∈ T1, x ∈ T3) := Lib.hid fun x hx => HS3.out x (HS2.out x hx)
                      have HJ3 := Lib.hid hJ3
                      clear hUn hJ3
                      go_wp2
                      go_round
                      case rel => exact ⟨X + 1, T3, by omega, by go_num, HJ3.out, HB3.out, HS6, HD6⟩
                      case measure => (simp [intOf]; omega)
                · have hXn : X = n := by omega
                  have HDn : Hid (DlJ ⟨3, t, f⟩ T T2 n) := Lib.hid (by rw [← hXn]; exact HD2.out)
                  have HJ2 : Hid (∀ (j : Nat) (p : Qt), j < m + 1 → q[j]? = some p → DlJ p T T2 n) := Lib.hid fun j p hj hp => by
                    by_cases e : j = m
                    · subst e
                      rw [HQM.out] at hp
                      injection hp with hp
                      subst hp
                      exact HDn.out
                    · exact (HJD.out j p (by omega) hp).sub fun x hx => HS2.out x (HT1.out x hx)
                  have HJ3 := Lib.hid hJ2
                  clear hJ2 hB2 hXn
                  go_wp2
                  go_round
                  case rel => exact ⟨m + 1, T2, by omega, by go_num, HJ3.out, HJ2⟩
                  case measure => (simp [intOf]; omega)
          · as_aux_lemma =>
              have hc0 : wm.cell? (ad.add (m * 3)) = some (.int .i64 4) := hc0
              have hJa := hJ1.quiet (Y := wm.alloc (.cells #[.int .i64 4, .int .i64 (t : Int), .int .i64 (f : Int)] 41)) ((Below.refl _ _).alloc (Nat.le_refl _) _)
              have hBa : Own (wm.alloc (.cells #[.int .i64 4, .int .i64 (t : Int), .int .i64 (f : Int)] 41)) bs 41 [.int .i64 4, .int .i64 (t : Int), .int .i64 (f : Int)] := by rw [← HBS.out]; exact Own.new wm _ _
              have HJa := Lib.hid hJa
              have HBa := Lib.hid hBa
              clear hJ1 hJa hBa
              obtain ⟨T1, hT1⟩ : ∃ T1, T1 = T0 := ⟨_, rfl⟩
              have HT1 : Hid (∀ x ∈ T0, x ∈ T1) := Lib.hid fun x hx => by rw [hT1]; exact hx
              have HD5 : Hid (DlJ ⟨4, t, f⟩ T T1 0) := Lib.hid (DlJ.start fun e => absurd e (by simp))
              rw [← hT1] at HJa
              clear hT1
              go_wp2
              simp only [HBS.out]
              go_loopw [11] (fun i wr => ∃ (X : Nat) (T2 : Prs), X ≤ n ∧ i = .int .i64 X ∧ JiI q n w wr bO bT O T O T2 ∧ Own wr bs 41 [.int .i64 4, .int .i64 (t : Int), .int .i64 (f : Int)] ∧ Hid (∀ x ∈ T1, x ∈ T2) ∧ Hid (DlJ ⟨4, t, f⟩ T T2 X)) (fun i _ => n - (intOf i).toNat)
              case atStart => exact ⟨0, T1, Nat.zero_le _, rfl, HJa.out, HBa.out, Lib.hid fun x hx => hx, HD5⟩
              case round =>
                obtain ⟨X, T2, hX, rfl, hJ2, hB2, HS2, HD2⟩ := hrel
                have hk0 := hB2.cell (j := 0) rfl
                have hk1 := hB2.cell (j := 1) rfl
                have hk2 := hB2.cell (j := 2) rfl
                have hbl2 := hB2.lt
                by_cases hXl : X < n
                · have hb12 : Below wr.heap.size wr ((wr.alloc (.cells #[.int .i64 (t : Int)] 3)).alloc (.cells #[.int .i64 (f : Int)] 3)) := by go_grown
                  have hJa := hJ2.quiet hb12
                  have hBa := hB2.below hb12 hbl2
                  have hka := hBa.cell (j := 0) rfl
                  have hkb := hBa.cell (j := 1) rfl
                  have hkc := hBa.cell (j := 2) rfl
                  have ra : RdI ((wr.alloc (.cells #[.int .i64 (t : Int)] 3)).alloc (.cells #[.int .i64 (f : Int)] 3)) ((wr.alloc (.cells #[.int .i64 (t : Int)] 3)).alloc (.cells #[.int .i64 (f : Int)] 3)).heap.size (some ⟨wr.heap.size, 0, none⟩) (ni [t]) := ((OwnI.rd (xs := [(t : Int)]) ((Own.new wr 3 [.int .i64 (t : Int)]).alloc _)).more (by simp))
                  have rb : RdI ((wr.alloc (.cells #[.int .i64 (t : Int)] 3)).alloc (.cells #[.int .i64 (f : Int)] 3)) ((wr.alloc (.cells #[.int .i64 (t : Int)] 3)).alloc (.cells #[.int .i64 (f : Int)] 3)).heap.size (some ⟨wr.heap.size + 1, 0, none⟩) (ni [f]) := by
                    have hN := Own.new (wr.alloc (.cells #[.int .i64 (t : Int)] 3)) 3 [.int .i64 (f : Int)]
                    rw [show (wr.alloc (.cells #[.int .i64 (t : Int)] 3)).heap.size = wr.heap.size + 1 from by simp] at hN
                    exact (OwnI.rd (xs := [(f : Int)]) hN).more (by simp)
                  have HPE := Lib.hid (pointees_any n t bT T2 _ hJa.mt h8 (by omega))
                  have HJA := Lib.hid hJa
                  have HBA := Lib.hid hBa
                  have HRA0 := Lib.hid ra
                  have HRB0 := Lib.hid rb
                  clear hJ2 hB2 hJa ra rb
                  go_upto_region 23 with (go_at_call 31; (with_reducible refine HPE.out.mono ?_); rintro e w5 ⟨Ap, mp, cp, rfl, hlp, hrp, hb5⟩; have hB5 := HBA.out.below hb5 HBA.out.lt; have h50 := hB5.cell (j := 0) rfl; have h51 := hB5.cell (j := 1) rfl; have h52 := hB5.cell (j := 2) rfl)
                  have HJX := Lib.hid (HJA.out.quiet hb5)
                  have HBX := Lib.hid hB5
                  obtain ⟨pl, hpl⟩ : ∃ pl, poL T2 t n = pl := ⟨_, rfl⟩
                  have hps : ∀ j, j ∈ pl ↔ j < n ∧ (t, j) ∈ T2 := fun j => by rw [← hpl]; exact poL_mem
                  rw [hpl] at hlp hrp
                  obtain ⟨al, hal⟩ : ∃ al, al = pl := ⟨_, rfl⟩
                  obtain ⟨bl, hbl⟩ : ∃ bl, bl = [f] := ⟨_, rfl⟩
                  have HRA : Hid (RdI w5 w5.heap.size Ap (ni al)) := Lib.hid (by rw [hal]; exact hrp)
                  have HRB : Hid (RdI w5 w5.heap.size (some ⟨wr.heap.size + 1, 0, none⟩) (ni bl)) := Lib.hid (by rw [hbl]; exact (HRB0.out.below hb5 (Nat.le_refl _)).more hb5.size)
                  have HEQ : Hid (EqJ q n al bl) := Lib.hid (by rw [hal, hbl]; exact EqJ.store HQ.out HP.out rfl fun j hj => HJA.out.ps.st _ ((hps j).1 hj).2)
                  have HAL : Hid (∀ i, AeJ ⟨4, t, f⟩ T i → i ∈ al) := Lib.hid fun i h => by unfold AeJ at h; rw [if_pos rfl] at h; rw [hal]; exact (hps i).2 ⟨(HJA.out.ps.lt HQ.out).2 _ (HJA.out.ps.gt.sub h) |>.2, HJA.out.ps.gt.sub h⟩
                  have HBL : Hid (∀ i, BeJ ⟨4, t, f⟩ T i → i ∈ bl) := Lib.hid fun i h => by unfold BeJ at h; rw [if_neg (by simp)] at h; rw [hbl, h]; simp
                  obtain ⟨ma, hma⟩ : ∃ m, m = mp := ⟨_, rfl⟩
                  obtain ⟨mb, hmb⟩ : ∃ m, m = 1 := ⟨_, rfl⟩
                  subst hma
                  have HLA : Hid (al.length = ma) := Lib.hid (by rw [hal]; exact hlp)
                  have HLB : Hid (bl.length = mb) := Lib.hid (by rw [hbl, hmb]; rfl)
                  have hmb8 : mb ≤ 8 := by omega
                  have hma8 : ma ≤ 8 := by have h := poL_len (T := T2) (a := t) n; rw [hpl, hlp] at h; omega
                  have HMB := Lib.hid hmb
                  clear hmb hal hbl hpl hps hlp hrp hb12 hka hkb hkc h50 h51 h52 hb5 hB5 hBa
                  obtain ⟨wX, hwX⟩ : ∃ x : World, x = w5 := ⟨_, rfl⟩
                  subst hwX
                  obtain ⟨Ab, hAb⟩ : ∃ A : Option Addr, A = some ⟨wr.heap.size + 1, 0, none⟩ := ⟨_, rfl⟩
                  rw [← hAb] at HRB
                  have hlit : Value.slice (some ⟨wr.heap.size + 1, 0, none⟩) 1 1 = Value.slice Ab mb mb := by rw [hAb, HMB.out]
                  rw [hlit]
                  clear hlit hAb
                  obtain ⟨wo2, rfl⟩ : ∃ wx : World, wx = wr := ⟨_, rfl⟩
                  go_wp2
                  go_loopw [86] (fun z wr => ∃ (U : Nat) (T3 : Prs), U ≤ ma ∧ z = .int .i64 U ∧ JiI q n w wr bO bT O T O T3 ∧ Wrote2 bT bT wX wr ∧ Hid (∀ x ∈ T2, x ∈ T3) ∧ Hid (LlJ al bl T T3 X U 0)) (fun z _ => ma - (intOf z).toNat)
                  case atStart => exact ⟨0, T2, Nat.zero_le _, rfl, HJX.out, Wrote2.refl _, Lib.hid fun x hx => hx, Lib.hid LlJ.start⟩
                  case round =>
                    obtain ⟨U, T3, hU, rfl, hJ3, hw3, HS3, HL3⟩ := hrel
                    by_cases hUl : U < ma
                    · obtain ⟨ad3, in_, rfl, hbl3, hd3, hcell3⟩ := ((HRA.out).wroteM HJX.out.mt hw3 (Nat.le_refl _)).at_ (k := U) (by rw [pn_len, HLA.out]; exact hUl)
                      obtain ⟨i, rfl, hi⟩ := pn_inv hd3
                      have HI := Lib.hid hi
                      have HIM := Lib.hid (List.mem_of_getElem? hi)
                      have HJ3 := Lib.hid hJ3
                      have HW3 := Lib.hid hw3
                      clear hd3 hi hJ3 hw3
                      obtain ⟨w3o, rfl⟩ : ∃ wx : World, wx = wr := ⟨_, rfl⟩
                      go_wp2
                      go_loopw [92] (fun z wr => ∃ (V : Nat) (T4 : Prs), V ≤ mb ∧ z = .int .i64 V ∧ JiI q n w wr bO bT O T O T4 ∧ Wrote2 bT bT wX wr ∧ Hid (∀ x ∈ T2, x ∈ T4) ∧ Hid (LlJ al bl T T4 X U V)) (fun z _ => mb - (intOf z).toNat)
                      case atStart => exact ⟨0, T3, Nat.zero_le _, rfl, HJ3.out, HW3.out, HS3, HL3⟩
                      case round =>
                        obtain ⟨V, T4, hV, rfl, hJ4, hw4, HS4, HL4⟩ := hrel
                        by_cases hVl : V < mb
                        · obtain ⟨ad4, jn, rfl, hbl4, hd4, hcell4⟩ := ((HRB.out).wroteM HJX.out.mt hw4 (Nat.le_refl _)).at_ (k := V) (by rw [pn_len, HLB.out]; exact hVl)
                          obtain ⟨j, rfl, hj⟩ := pn_inv hd4
                          have hjm := List.mem_of_getElem? hj
                          obtain ⟨hi8, hj8, hij⟩ := HEQ.out i HIM.out j hjm
                          have HIJ := Lib.hid hij
                          have HJ4 := Lib.hid hJ4
                          have HW4 := Lib.hid hw4
                          have HCOL := Lib.hid (fun (T5 : Prs) (h : LlJ al bl T T5 X U V) => h.col HI.out hj)
                          obtain ⟨q1, hq1⟩ : ∃ b, decide ((i, X) ∈ T4) = b := ⟨_, rfl⟩
                          have hl1 := hJ4.mt.run (x := i) (y := X) (by omega) (by omega) hq1
                          have HQ1 := Lib.hid hq1
                          clear hd4 hj hjm hij hJ4 hw4 hq1
                          cases q1 with
                          | true =>
                            have HA := Lib.hid (HJ4.out.ps.st _ (of_decide_eq_true HQ1.out))
                            go_wp2_with (first
                              | (at_mapUpdate; refine wpList_put_set rfl (.tmp 101) (.tmp 104) (.const (.bool true)) 47 rfl pairQ_keyed Try.underlying47 rfl HJ4.out.mt.2 rfl rfl (pairQ_key (x := j) (y := X) (by omega) (by omega)) ?_; intro w5 hm_ ht_; have hJ5 := HJ4.out.putT hm_ ht_ ((HIJ.out X).1 HA.out); have HJ5 := Lib.hid hJ5; have hl2 := hJ5.mt.run (x := j) (y := X) (by omega) (by omega) (decide_eq_true insP_self); have hw5 := HW4.out.trans (Wrote2.turned ht_); clear hm_ ht_ hJ5)
                              | (at_mapUpdate; refine wpList_put_set rfl (.tmp 110) (.tmp 113) (.const (.bool true)) 47 rfl pairQ_keyed Try.underlying47 rfl HJ5.out.mt.2 rfl rfl (pairQ_key (x := i) (y := X) (by omega) (by omega)) ?_; intro w6 hm_ ht_; have hJ6 := HJ5.out.putT hm_ ht_ HA.out; have hw6 := hw5.trans (Wrote2.turned ht_); clear hm_ ht_))
                            have HS6 : Hid (∀ x ∈ T2, x ∈ insP (insP T4 (j, X)) (i, X)) := Lib.hid fun x hx => insP_sub (insP_sub (HS4.out x hx))
                            have HL6 : Hid (LlJ al bl T (insP (insP T4 (j, X)) (i, X)) X U (V + 1)) := Lib.hid (HCOL.out _ (HL4.out.sub fun x hx => insP_sub (insP_sub hx)) (fun _ => insP_sub insP_self) (fun _ => insP_self))
                            go_round
                            case rel => exact ⟨V + 1, _, by omega, by go_num, hJ6, hw6, HS6, HL6⟩
                            case measure => (simp [intOf]; omega)
                          | false =>
                            obtain ⟨q2, hq2⟩ : ∃ b, decide ((j, X) ∈ T4) = b := ⟨_, rfl⟩
                            have hl2 := HJ4.out.mt.run (x := j) (y := X) (by omega) (by omega) hq2
                            have HQ2 := Lib.hid hq2
                            have HN1 : Hid ((i, X) ∉ T) := Lib.hid fun h => absurd (HJ4.out.ps.gt.sub h) (of_decide_eq_false HQ1.out)
                            clear hq2
                            cases q2 with
                            | true =>
                              have HA := Lib.hid ((HIJ.out X).2 (HJ4.out.ps.st _ (of_decide_eq_true HQ2.out)))
                              go_wp2_with (at_mapUpdate; refine wpList_put_set rfl (.tmp 110) (.tmp 113) (.const (.bool true)) 47 rfl pairQ_keyed Try.underlying47 rfl HJ4.out.mt.2 rfl rfl (pairQ_key (x := i) (y := X) (by omega) (by omega)) ?_; intro w6 hm_ ht_; have hJ6 := HJ4.out.putT hm_ ht_ HA.out; have hw6 := HW4.out.trans (Wrote2.turned ht_); clear hm_ ht_)
                              have HS6 : Hid (∀ x ∈ T2, x ∈ insP T4 (i, X)) := Lib.hid fun x hx => insP_sub (HS4.out x hx)
                              have HL6 : Hid (LlJ al bl T (insP T4 (i, X)) X U (V + 1)) := Lib.hid (HCOL.out _ (HL4.out.sub fun x hx => insP_sub hx) (fun h => absurd h HN1.out) (fun _ => insP_self))
                              go_round
                              case rel => exact ⟨V + 1, _, by omega, by go_num, hJ6, hw6, HS6, HL6⟩
                              case measure => (simp [intOf]; omega)
                            | false =>
                              have HL6 : Hid (LlJ al bl T T4 X U (V + 1)) := Lib.hid (HCOL.out _ HL4.out (fun h => absurd h HN1.out) (fun h => absurd (HJ4.out.ps.gt.sub h) (of_decide_eq_false HQ2.out)))
                              go_wp2
                              go_round
                              case rel => exact ⟨V + 1, T4, by omega, by go_num, HJ4.out, HW4.out, HS4, HL6⟩
                              case measure => (simp [intOf]; omega)
                        · have hVn : V = bl.length := by rw [HLB.out]; omega
                          have HL6 : Hid (LlJ al bl T T4 X (U + 1) 0) := Lib.hid (by have h := HL4.out; rw [hVn] at h; exact h.row)
                          have HJ4 := Lib.hid hJ4
                          clear hVn hJ4
                          go_wp2
                          go_round
                          case rel => exact ⟨U + 1, T4, by omega, by go_num, HJ4.out, hw4, HS4, HL6⟩
                          case measure => (simp [intOf]; omega)
                    · have hUn : U = al.length := by rw [HLA.out]; omega
                      have HD6 : Hid (DlJ ⟨4, t, f⟩ T T3 (X + 1)) := Lib.hid ((HD2.out.sub HS3.out).next (by have h := HL3.out; rw [hUn] at h; exact h) HAL.out HBL.out)
                      have HB3 := Lib.hid (hw3.own HBX.out HNB.out HNB.out)
                      have HS6 : Hid (∀ x ∈ T1, x ∈ T3) := Lib.hid fun x hx => HS3.out x (HS2.out x hx)
                      have HJ3 := Lib.hid hJ3
                      clear hUn hJ3
                      go_wp2
                      go_round
                      case rel => exact ⟨X + 1, T3, by omega, by go_num, HJ3.out, HB3.out, HS6, HD6⟩
                      case measure => (simp [intOf]; omega)
                · have hXn : X = n := by omega
                  have HDn : Hid (DlJ ⟨4, t, f⟩ T T2 n) := Lib.hid (by rw [← hXn]; exact HD2.out)
                  have HJ2 : Hid (∀ (j : Nat) (p : Qt), j < m + 1 → q[j]? = some p → DlJ p T T2 n) := Lib.hid fun j p hj hp => by
                    by_cases e : j = m
                    · subst e
                      rw [HQM.out] at hp
                      injection hp with hp
                      subst hp
                      exact HDn.out
                    · exact (HJD.out j p (by omega) hp).sub fun x hx => HS2.out x (HT1.out x hx)
                  have HJ3 := Lib.hid hJ2
                  clear hJ2 hB2 hXn
                  go_wp2
                  go_round
                  case rel => exact ⟨m + 1, T2, by omega, by go_num, HJ3.out, HJ2⟩
                  case measure => (simp [intOf]; omega)
        · as_aux_lemma =>
            have HDA : Hid (∀ p ∈ q, DlJ p T T0 n) := Lib.hid fun p hp => by
              obtain ⟨j, hj, rfl⟩ := List.getElem_of_mem hp
              exact HJD.out j q[j] (by rw [HL.out] at hj; omega) (List.getElem?_eq_getElem hj)
            have HJ1 := Lib.hid hJ1
            clear hJ1 HJD
            obtain ⟨w2, rfl⟩ : ∃ w2 : World, w2 = wr := ⟨_, rfl⟩
            go_wp2
            go_loopw [18] (fun i wr => ∃ (I : Nat) (O1 T1 : Prs), I ≤ n ∧ i = .int .i64 I ∧ JiI q n w wr bO bT O T O1 T1 ∧ Hid (∀ x ∈ T0, x ∈ T1) ∧ Hid (ClJ O T O1 T1 I 0 0)) (fun i _ => n - (intOf i).toNat)
            case atStart => exact ⟨0, O, T0, Nat.zero_le _, rfl, HJ1.out, Lib.hid fun x hx => hx, Lib.hid ClJ.start⟩
            case round =>
              obtain ⟨I, O1, T1, hI, rfl, hJ2, HT1, HC1⟩ := hrel
              by_cases hIl : I < n
              · have HJ2 := Lib.hid hJ2
                clear hJ2
                obtain ⟨w3, rfl⟩ : ∃ w3 : World, w3 = wr := ⟨_, rfl⟩
                go_wp2
                go_loopw [19] (fun i wr => ∃ (J : Nat) (O2 T2 : Prs), J ≤ n ∧ i = .int .i64 J ∧ JiI q n w wr bO bT O T O2 T2 ∧ Hid (∀ x ∈ T0, x ∈ T2) ∧ Hid (ClJ O T O2 T2 I J 0)) (fun i _ => n - (intOf i).toNat)
                case atStart => exact ⟨0, O1, T1, Nat.zero_le _, rfl, HJ2.out, HT1, HC1⟩
                case round =>
                  obtain ⟨J, O2, T2, hJ, rfl, hJ3, HT2, HC2⟩ := hrel
                  by_cases hJl : J < n
                  · have HJ3 := Lib.hid hJ3
                    clear hJ3
                    obtain ⟨w4, rfl⟩ : ∃ w4 : World, w4 = wr := ⟨_, rfl⟩
                    go_wp2
                    go_loopw [20] (fun i wr => ∃ (K : Nat) (O3 T3 : Prs), K ≤ n ∧ i = .int .i64 K ∧ JiI q n w wr bO bT O T O3 T3 ∧ Hid (∀ x ∈ T0, x ∈ T3) ∧ Hid (ClJ O T O3 T3 I J K)) (fun i _ => n - (intOf i).toNat)
                    case atStart => exact ⟨0, O2, T2, Nat.zero_le _, rfl, HJ3.out, HT2, HC2⟩
                    case round =>
                      obtain ⟨K, O3, T3, hK, rfl, hJ4, HT3, HC3⟩ := hrel
                      by_cases hKl : K < n
                      · have HJc1 := Lib.hid hJ4
                        clear hJ4
                        obtain ⟨wq, rfl⟩ : ∃ wx : World, wx = wr := ⟨_, rfl⟩
                        obtain ⟨a1, ha1⟩ : ∃ b, decide ((I, J) ∈ T3) = b := ⟨_, rfl⟩
                        obtain ⟨a2, ha2⟩ : ∃ b, decide ((I, K) ∈ T3) = b := ⟨_, rfl⟩
                        have hl1 := HJc1.out.mt.run (by omega) (by omega) ha1
                        have hl2 := HJc1.out.mt.run (by omega) (by omega) ha2
                        have HA1 := Lib.hid ha1
                        have HA2 := Lib.hid ha2
                        clear ha1 ha2
                        go_upto_region 45 with fail
                        go_cut [143] from 127 to 195 (fun s wx => s = .bool (a1 && a2) ∧ wx = wq)
                        case first =>
                          cases a1 with
                          | false =>
                            go_wp2_with fail
                            go_meet
                            exact ⟨rfl, rfl⟩
                          | true =>
                            cases a2 with
                            | false =>
                              go_wp2_with fail
                              go_meet
                              exact ⟨rfl, rfl⟩
                            | true =>
                              go_wp2_with fail
                              go_meet
                              exact ⟨rfl, rfl⟩
                        case rest =>
                          obtain ⟨rfl, hwc⟩ := hcut
                          subst hwc
                          clear hl1 hl2
                          obtain ⟨c1, hc1⟩ : ∃ c, (a1 && a2) = c := ⟨_, rfl⟩
                          rw [hc1]
                          have HC1x := Lib.hid hc1
                          clear hc1
                          go_upto_if 143 with fail
                          go_cut [] from 127 to 195 (fun wx => ∃ O4 : Prs, JiI q n w wx bO bT O T O4 T3 ∧ Hid (∀ x ∈ O3, x ∈ O4) ∧ Hid ((I, J) ∈ T → (I, K) ∈ T → (J, K) ∈ O4))
                          case first =>
                            cases c1 with
                            | true =>
                              have hab : a1 = true ∧ a2 = true := by have h := HC1x.out; rwa [Bool.and_eq_true] at h
                              have HB1 : Hid ((I, J) ∈ T3) := Lib.hid (of_decide_eq_true (HA1.out.trans hab.1))
                              have HB2 : Hid ((I, K) ∈ T3) := Lib.hid (of_decide_eq_true (HA2.out.trans hab.2))
                              have HG := Lib.hid (Sg.one (HJc1.out.ps.st (I, J) HB1.out) (HJc1.out.ps.st (I, K) HB2.out))
                              clear hab
                              go_wp2_with (at_mapUpdate; refine wpList_put_set rfl (.tmp 144) (.tmp 147) (.const (.bool true)) 47 rfl pairQ_keyed Try.underlying47 rfl HJc1.out.mo.2 rfl rfl (pairQ_key (x := J) (y := K) (by omega) (by omega)) ?_; intro w9 hm_ ht_; have hJ9 := HJc1.out.putO hm_ ht_ HG.out)
                              go_meet
                              exact ⟨insP O3 (J, K), hJ9, Lib.hid fun x hx => insP_sub hx, Lib.hid fun _ _ => insP_self⟩
                            | false =>
                              have HF : Hid ((I, J) ∈ T → (I, K) ∈ T → (J, K) ∈ O3) := Lib.hid fun h1 h2 => by
                                have e1 : a1 = true := HA1.out.symm.trans (decide_eq_true (HJc1.out.ps.gt.sub h1))
                                have e2 : a2 = true := HA2.out.symm.trans (decide_eq_true (HJc1.out.ps.gt.sub h2))
                                have h := HC1x.out
                                rw [e1, e2] at h
                                cases h
                              go_wp2_with fail
                              go_meet
                              exact ⟨O3, HJc1.out, Lib.hid fun x hx => hx, HF⟩
                          case rest =>
                            obtain ⟨O4, hJ9, HS1, HF1⟩ := hcut
                            have HJc2 := Lib.hid hJ9
                            clear hJ9 HJc1 HA1 HA2 HC1x
                            obtain ⟨wz1, rfl⟩ : ∃ wx : World, wx = wc := ⟨_, rfl⟩
                            obtain ⟨a1, ha1⟩ : ∃ b, decide ((I, J) ∈ O4) = b := ⟨_, rfl⟩
                            obtain ⟨a2, ha2⟩ : ∃ b, decide ((J, K) ∈ O4) = b := ⟨_, rfl⟩
                            have hl1 := HJc2.out.mo.run (by omega) (by omega) ha1
                            have hl2 := HJc2.out.mo.run (by omega) (by omega) ha2
                            have HA1 := Lib.hid ha1
                            have HA2 := Lib.hid ha2
                            clear ha1 ha2
                            go_upto_region 47 with fail
                            go_cut [159] from 127 to 195 (fun s wx => s = .bool (a1 && a2) ∧ wx = wz1)
                            case first =>
                              cases a1 with
                              | false =>
                                go_wp2_with fail
                                go_meet
                                exact ⟨rfl, rfl⟩
                              | true =>
                                cases a2 with
                                | false =>
                                  go_wp2_with fail
                                  go_meet
                                  exact ⟨rfl, rfl⟩
                                | true =>
                                  go_wp2_with fail
                                  go_meet
                                  exact ⟨rfl, rfl⟩
                            case rest =>
                              obtain ⟨rfl, hwc⟩ := hcut
                              subst hwc
                              clear hl1 hl2
                              obtain ⟨c1, hc1⟩ : ∃ c, (a1 && a2) = c := ⟨_, rfl⟩
                              rw [hc1]
                              have HC1x := Lib.hid hc1
                              clear hc1
                              go_upto_if 159 with fail
                              go_cut [] from 127 to 195 (fun wx => ∃ O5 : Prs, JiI q n w wx bO bT O T O5 T3 ∧ Hid (∀ x ∈ O4, x ∈ O5) ∧ Hid ((I, J) ∈ O → (J, K) ∈ O → (I, K) ∈ O5))
                              case first =>
                                cases c1 with
                                | true =>
                                  have hab : a1 = true ∧ a2 = true := by have h := HC1x.out; rwa [Bool.and_eq_true] at h
                                  have HB1 : Hid ((I, J) ∈ O4) := Lib.hid (of_decide_eq_true (HA1.out.trans hab.1))
                                  have HB2 : Hid ((J, K) ∈ O4) := Lib.hid (of_decide_eq_true (HA2.out.trans hab.2))
                                  have HG := Lib.hid (Sg.trans (HJc2.out.ps.so (I, J) HB1.out) (HJc2.out.ps.so (J, K) HB2.out))
                                  clear hab
                                  go_wp2_with (at_mapUpdate; refine wpList_put_set rfl (.tmp 160) (.tmp 163) (.const (.bool true)) 47 rfl pairQ_keyed Try.underlying47 rfl HJc2.out.mo.2 rfl rfl (pairQ_key (x := I) (y := K) (by omega) (by omega)) ?_; intro w9 hm_ ht_; have hJ9 := HJc2.out.putO hm_ ht_ HG.out)
                                  go_meet
                                  exact ⟨insP O4 (I, K), hJ9, Lib.hid fun x hx => insP_sub hx, Lib.hid fun _ _ => insP_self⟩
                                | false =>
                                  have HF : Hid ((I, J) ∈ O → (J, K) ∈ O → (I, K) ∈ O4) := Lib.hid fun h1 h2 => by
                                    have e1 : a1 = true := HA1.out.symm.trans (decide_eq_true (HJc2.out.ps.go.sub h1))
                                    have e2 : a2 = true := HA2.out.symm.trans (decide_eq_true (HJc2.out.ps.go.sub h2))
                                    have h := HC1x.out
                                    rw [e1, e2] at h
                                    cases h
                                  go_wp2_with fail
                                  go_meet
                                  exact ⟨O4, HJc2.out, Lib.hid fun x hx => hx, HF⟩
                              case rest =>
                                obtain ⟨O5, hJ9, HS2, HF2⟩ := hcut
                                have HJc3 := Lib.hid hJ9
                                clear hJ9 HJc2 HA1 HA2 HC1x
                                obtain ⟨wz2, rfl⟩ : ∃ wx : World, wx = wc := ⟨_, rfl⟩
                                obtain ⟨a1, ha1⟩ : ∃ b, decide ((I, J) ∈ T3) = b := ⟨_, rfl⟩
                                obtain ⟨a2, ha2⟩ : ∃ b, decide ((J, K) ∈ O5) = b := ⟨_, rfl⟩
                                have hl1 := HJc3.out.mt.run (by omega) (by omega) ha1
                                have hl2 := HJc3.out.mo.run (by omega) (by omega) ha2
                                have HA1 := Lib.hid ha1
                                have HA2 := Lib.hid ha2
                                clear ha1 ha2
                                go_upto_region 49 with fail
                                go_cut [175] from 127 to 195 (fun s wx => s = .bool (a1 && a2) ∧ wx = wz2)
                                case first =>
                                  cases a1 with
                                  | false =>
                                    go_wp2_with fail
                                    go_meet
                                    exact ⟨rfl, rfl⟩
                                  | true =>
                                    cases a2 with
                                    | false =>
                                      go_wp2_with fail
                                      go_meet
                                      exact ⟨rfl, rfl⟩
                                    | true =>
                                      go_wp2_with fail
                                      go_meet
                                      exact ⟨rfl, rfl⟩
                                case rest =>
                                  obtain ⟨rfl, hwc⟩ := hcut
                                  subst hwc
                                  clear hl1 hl2
                                  obtain ⟨c1, hc1⟩ : ∃ c, (a1 && a2) = c := ⟨_, rfl⟩
                                  rw [hc1]
                                  have HC1x := Lib.hid hc1
                                  clear hc1
                                  go_upto_if 175 with fail
                                  go_cut [] from 127 to 195 (fun wx => ∃ T4 : Prs, JiI q n w wx bO bT O T O5 T4 ∧ Hid (∀ x ∈ T3, x ∈ T4) ∧ Hid ((I, J) ∈ T → (J, K) ∈ O → (I, K) ∈ T4))
                                  case first =>
                                    cases c1 with
                                    | true =>
                                      have hab : a1 = true ∧ a2 = true := by have h := HC1x.out; rwa [Bool.and_eq_true] at h
                                      have HB1 : Hid ((I, J) ∈ T3) := Lib.hid (of_decide_eq_true (HA1.out.trans hab.1))
                                      have HB2 : Hid ((J, K) ∈ O5) := Lib.hid (of_decide_eq_true (HA2.out.trans hab.2))
                                      have HG := Lib.hid (Sg.into (HJc3.out.ps.st (I, J) HB1.out) (HJc3.out.ps.so (J, K) HB2.out))
                                      clear hab
                                      go_wp2_with (at_mapUpdate; refine wpList_put_set rfl (.tmp 176) (.tmp 179) (.const (.bool true)) 47 rfl pairQ_keyed Try.underlying47 rfl HJc3.out.mt.2 rfl rfl (pairQ_key (x := I) (y := K) (by omega) (by omega)) ?_; intro w9 hm_ ht_; have hJ9 := HJc3.out.putT hm_ ht_ HG.out)
                                      go_meet
                                      exact ⟨insP T3 (I, K), hJ9, Lib.hid fun x hx => insP_sub hx, Lib.hid fun _ _ => insP_self⟩
                                    | false =>
                                      have HF : Hid ((I, J) ∈ T → (J, K) ∈ O → (I, K) ∈ T3) := Lib.hid fun h1 h2 => by
                                        have e1 : a1 = true := HA1.out.symm.trans (decide_eq_true (HJc3.out.ps.gt.sub h1))
                                        have e2 : a2 = true := HA2.out.symm.trans (decide_eq_true (HJc3.out.ps.go.sub h2))
                                        have h := HC1x.out
                                        rw [e1, e2] at h
                                        cases h
                                      go_wp2_with fail
                                      go_meet
                                      exact ⟨T3, HJc3.out, Lib.hid fun x hx => hx, HF⟩
                                  case rest =>
                                    obtain ⟨T4, hJ9, HS3, HF3⟩ := hcut
                                    have HJc4 := Lib.hid hJ9
                                    clear hJ9 HJc3 HA1 HA2 HC1x
                                    obtain ⟨wz3, rfl⟩ : ∃ wx : World, wx = wc := ⟨_, rfl⟩
                                    obtain ⟨a1, ha1⟩ : ∃ b, decide ((I, J) ∈ O5) = b := ⟨_, rfl⟩
                                    obtain ⟨a2, ha2⟩ : ∃ b, decide ((J, K) ∈ T4) = b := ⟨_, rfl⟩
                                    have hl1 := HJc4.out.mo.run (by omega) (by omega) ha1
                                    have hl2 := HJc4.out.mt.run (by omega) (by omega) ha2
                                    have HA1 := Lib.hid ha1
                                    have HA2 := Lib.hid ha2
                                    clear ha1 ha2
                                    go_upto_region 51 with fail
                                    go_cut [191] from 127 to 195 (fun s wx => s = .bool (a1 && a2) ∧ wx = wz3)
                                    case first =>
                                      cases a1 with
                                      | false =>
                                        go_wp2_with fail
                                        go_meet
                                        exact ⟨rfl, rfl⟩
                                      | true =>
                                        cases a2 with
                                        | false =>
                                          go_wp2_with fail
                                          go_meet
                                          exact ⟨rfl, rfl⟩
                                        | true =>
                                          go_wp2_with fail
                                          go_meet
                                          exact ⟨rfl, rfl⟩
                                    case rest =>
                                      obtain ⟨rfl, hwc⟩ := hcut
                                      subst hwc
                                      clear hl1 hl2
                                      obtain ⟨c1, hc1⟩ : ∃ c, (a1 && a2) = c := ⟨_, rfl⟩
                                      rw [hc1]
                                      have HC1x := Lib.hid hc1
                                      clear hc1
                                      go_upto_if 191 with fail
                                      cases c1 with
                                      | true =>
                                        have hab : a1 = true ∧ a2 = true := by have h := HC1x.out; rwa [Bool.and_eq_true] at h
                                        have HB1 : Hid ((I, J) ∈ O5) := Lib.hid (of_decide_eq_true (HA1.out.trans hab.1))
                                        have HB2 : Hid ((J, K) ∈ T4) := Lib.hid (of_decide_eq_true (HA2.out.trans hab.2))
                                        have HG := Lib.hid (Sg.from_ (HJc4.out.ps.so (I, J) HB1.out) (HJc4.out.ps.st (J, K) HB2.out))
                                        clear hab
                                        have HCS : Hid (ClJ O T O5 (insP T4 (I, K)) I J (K + 1)) := Lib.hid (((HC3.out.sub (fun x hx => HS2.out x (HS1.out x hx)) (fun x hx => insP_sub (HS3.out x hx)))).step (fun a b => HS2.out _ (HF1.out a b)) HF2.out (fun a b => insP_sub (HF3.out a b)) (fun _ _ => insP_self))
                                        have HTS : Hid (∀ x ∈ T0, x ∈ insP T4 (I, K)) := Lib.hid fun x hx => insP_sub (HS3.out x (HT3.out x hx))
                                        go_wp2_with (at_mapUpdate; refine wpList_put_set rfl (.tmp 192) (.tmp 195) (.const (.bool true)) 47 rfl pairQ_keyed Try.underlying47 rfl HJc4.out.mt.2 rfl rfl (pairQ_key (x := I) (y := K) (by omega) (by omega)) ?_; intro w9 hm_ ht_; have hJ9 := HJc4.out.putT hm_ ht_ HG.out)
                                        go_round
                                        case rel => exact ⟨K + 1, O5, _, by omega, by go_num, hJ9, HTS, HCS⟩
                                        case measure => (simp [intOf]; omega)
                                      | false =>
                                        have HF : Hid ((I, J) ∈ O → (J, K) ∈ T → (I, K) ∈ T4) := Lib.hid fun h1 h2 => by
                                          have e1 : a1 = true := HA1.out.symm.trans (decide_eq_true (HJc4.out.ps.go.sub h1))
                                          have e2 : a2 = true := HA2.out.symm.trans (decide_eq_true (HJc4.out.ps.gt.sub h2))
                                          have h := HC1x.out
                                          rw [e1, e2] at h
                                          cases h
                                        have HCS : Hid (ClJ O T O5 T4 I J (K + 1)) := Lib.hid (((HC3.out.sub (fun x hx => HS2.out x (HS1.out x hx)) HS3.out)).step (fun a b => HS2.out _ (HF1.out a b)) HF2.out HF3.out HF.out)
                                        have HTS : Hid (∀ x ∈ T0, x ∈ T4) := Lib.hid fun x hx => HS3.out x (HT3.out x hx)
                                        go_wp2
                                        go_round
                                        case rel => exact ⟨K + 1, O5, T4, by omega, by go_num, HJc4.out, HTS, HCS⟩
                                        case measure => (simp [intOf]; omega)
                      · have hKn : K = n := by omega
                        have HCN : Hid (ClJ O T O3 T3 I (J + 1) 0) := Lib.hid (by have h := HC3.out; rw [hKn] at h; exact h.row HRO.out.1 HRO.out.2)
                        have HJ4 := Lib.hid hJ4
                        clear hKn hJ4
                        go_wp2
                        go_round
                        case rel => exact ⟨J + 1, O3, T3, by omega, by go_num, HJ4.out, HT3, HCN⟩
                        case measure => (simp [intOf]; omega)
                  · have hJn : J = n := by omega
                    have HCN : Hid (ClJ O T O2 T2 (I + 1) 0 0) := Lib.hid (by have h := HC2.out; rw [hJn] at h; exact h.col HRO.out.1 HRO.out.2)
                    have HJ3 := Lib.hid hJ3
                    clear hJn hJ3
                    go_wp2
                    go_round
                    case rel => exact ⟨I + 1, O2, T2, by omega, by go_num, HJ3.out, HT2, HCN⟩
                    case measure => (simp [intOf]; omega)
              · have hIn : I = n := by omega
                have HCN : Hid (ClJ O T O1 T1 n 0 0) := Lib.hid (by have h := HC1.out; rw [hIn] at h; exact h)
                obtain ⟨hsO1, hsT1⟩ := hJ2.ps.short HQ.out h8
                obtain ⟨kO, hkO⟩ : ∃ k, O1.length = k := ⟨_, rfl⟩
                obtain ⟨kT, hkT⟩ : ∃ k, T1.length = k := ⟨_, rfl⟩
                have hrO := hJ2.mo.lenRun hkO 3
                have hrT := hJ2.mt.lenRun hkT 3
                have hle1 := hJ2.ps.go.le
                have hle2 := hJ2.ps.gt.le
                rw [hkO] at hsO1 hle1
                rw [hkT] at hsT1 hle2
                rw [HLO.out] at hle1
                rw [HLT.out] at hle2
                have HKO := Lib.hid hkO
                have HKT := Lib.hid hkT
                have HJ2 := Lib.hid hJ2
                clear hIn hJ2 hkO hkT
                by_cases heq : kO + kT = lO + lT
                · have e1 : (((kO : Nat) : Int) + ((kT : Nat) : Int) == ((lO : Nat) : Int) + ((lT : Nat) : Int)) = true := by simp; omega
                  have hOO : O1 = O := HJ2.out.ps.go.same (by rw [HKO.out, HLO.out]; omega)
                  have hTT : T1 = T := HJ2.out.ps.gt.same (by rw [HKT.out, HLT.out]; omega)
                  have hT0 : T0 = T := HJ1.out.ps.gt.same (by
                    have h0 : T0.length ≤ T1.length := nodup_sub HJ1.out.ps.gt.nd HT1.out
                    rw [HKT.out] at h0
                    rw [HLT.out]
                    omega)
                  subst hOO hTT hT0
                  have HTLD : Hid (∀ a b, (a, b) ∈ T0 ↔ Sg q n true a b) := Lib.hid fun a b => ⟨fun h => HJ2.out.ps.st _ h, fun h => by simpa using Sg.toldJ HQ.out HR.out HDA.out HCN.out h⟩
                  have HBE := Lib.hid HJ2.out.be
                  have hszo := HJ2.out.be.size
                  have HMO := Lib.hid HJ2.out.mt
                  obtain ⟨wo, rfl⟩ : ∃ wo : World, wo = wr := ⟨_, rfl⟩
                  go_wp2
                  clear hrO hrT e1
                  go_loopw [21, 22] (fun s z wr => ∃ (a : Nat) (A' : Option Addr) (c' : Nat), a ≤ n ∧ z = .int .i64 a ∧ s = .slice A' a c' ∧ wr.ownsRow wo.heap.size 38 1 (.slice A' a c') a (uv ((List.range a).map fun a => setOf (poL T0 a n))) ∧ Below wo.heap.size wo wr) (fun _ z _ => n - (intOf z).toNat)
                  case atStart => exact ⟨0, none, 0, Nat.zero_le _, rfl, rfl, World.ownsRow_nil _ _ _ _, Below.refl _ _⟩
                  case round =>
                    obtain ⟨a, A', c', ha, rfl, rfl, hown, hb⟩ := hrel
                    have hsz := hb.size
                    by_cases hal : a < n
                    · have HPE := Lib.hid (pointees_any n a bT T0 wr (HMO.out.below hb HMO.out.lt) h8 (by omega))
                      have HSE := Lib.hid (fun (A : Option Addr) (m c : Nat) (Z : World) (hr : RdI Z Z.heap.size A (ni (poL T0 a n))) (hl : (poL T0 a n).length = m) => setRef_any A m c (poL T0 a n) _ Z hr hl (by have := poL_len (T := T0) (a := a) n; omega) (fun x hx => by have := (poL_mem.1 hx).1; omega))
                      have hnx : (List.range (a + 1)).map (fun a => setOf (poL T0 a n)) = (List.range a).map (fun a => setOf (poL T0 a n)) ++ [setOf (poL T0 a n)] := by rw [List.range_succ, List.map_append]; rfl
                      obtain ⟨V, hV⟩ : ∃ V, setOf (poL T0 a n) = V := ⟨_, rfl⟩
                      rw [hV] at HSE hnx
                      have HNX := Lib.hid hnx
                      have HOWN := Lib.hid hown
                      have h63 : a + 1 ≤ maxLen := by unfold maxLen; omega
                      have hbig : (a + 1) * 4 ≤ 140737488355328 := by omega
                      clear hnx hV hown
                      go_wp2_with (first
                        | (go_at_call 31; (with_reducible refine HPE.out.mono ?_); rintro e w5 ⟨A5, m5, c5, rfl, hl5, hr5, hb5⟩)
                        | (go_at_call 32; (with_reducible refine (HSE.out _ _ _ _ hr5 hl5).mono ?_); rintro e w6 ⟨rfl, rfl⟩)
                        | (at_builtin; refine wpList_app rfl (.tmp 208) (.tmp 214) 23 rfl wo.heap.size 38 1 4 word_appQ _ rfl (own_below (own_below HOWN.out hb5) ((Below.refl _ _).alloc (Nat.le_refl _) _)) [.int .u32 (V : Int)] rfl rfl (fun h => by cases h) (cells_at rfl _ _) (uv1_oneQ _) h63 hbig (Nat.le_trans hsz (Nat.le_trans hb5.size (by simp))) ?_; intro A7 c7 w7 hown7 hg7 hb7))
                      go_round
                      case rel => exact ⟨a + 1, A7, c7, by omega, by go_num, rfl, by rw [HNX.out, uv_appendQ]; exact hown7, ((hb.trans (hb5.mono hsz)).alloc (Nat.le_trans hsz hb5.size) _).trans hb7⟩
                      case measure => (simp [intOf]; omega)
                    · have han : a = n := by omega
                      have HTL : Hid (Tel n (Sg q n true) ((List.range n).map fun a => setOf (poL T0 a n))) := Lib.hid (tel_sets h8 HTLD.out fun a b h => (h.lt HQ.out).2)
                      rw [han] at hown ⊢
                      go_wp2
                      go_ret
                      exact ⟨_, A', c', HTL.out, rfl, own_rdUQ hown (by simp), HBE.out.trans (hb.mono hszo)⟩
                · have e1 : (((kO : Nat) : Int) + ((kT : Nat) : Int) == ((lO : Nat) : Int) + ((lT : Nat) : Int)) = false := by simp; omega
                  have HRN : Hid (∀ j, j < n → (j, j) ∈ O1) := Lib.hid fun j hj => HJ2.out.ps.go.sub (HR.out j hj)
                  go_wp2
                  go_round
                  case rel => exact ⟨O1, T1, HJ2.out.again, HRN⟩
                  case measure =>
                    have g1 := HJ2.out.mo.len
                    have g2 := HJ2.out.mt.len
                    have g3 := HMU.out
                    rw [g1, g2, g3, HKO.out, HKT.out]
                    omega

end Go.Proofs.Ytfbnmgnkigfgpaa
