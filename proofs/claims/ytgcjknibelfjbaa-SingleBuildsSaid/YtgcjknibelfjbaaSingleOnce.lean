/-
  codemasonref.OnceSet (M3): is each name set once, ahead of its uses?
-/
import Derived.Test.YtgcjknibelfjbaaSingleAv
import Derived.Test.YtgcjknibelfjbaaPureOnceRef
import Derived.Test.YtgcjknibelfjbaaReachRef
import Derived.Test.YtgcjknibelfjbaaMBase
namespace Go.Proofs.Ytgcjknibelfjbaa
open Go.RowKit
set_option linter.unusedSimpArgs false
set_option linter.unusedVariables false
set_option maxRecDepth 100000

theorem setAll_len (n : Int) : ∀ l : List Sg, setAll n l ≤ manyC l + manyJ l
  | [] => by simp [setAll]
  | s :: r => by
    have h1 := setAll_len n r
    have h2 := setN_len s n s.code.length
    simp only [setAll, manyC, manyJ]
    omega

theorem isSetB_any (p2 p3 p5 B nv : Nat) (A A4 : Option Addr) (len cap c4 k : Nat) (l : List Sg) (n i : Int) (b : Bool) (w : World) (hcl : ClA w B p2 p3 p5 nv A A4 len cap c4 l) (hl : l.length = len) (hc : ckSingle nv l = 0)
    (hb : b = true ↔ Av nv l n i k) (hi : i = -1 ∨ (0 ≤ i ∧ i < len ∧ k ≤ (l.getD i.toNat sg0).code.length)) :
    Calls Try.prog 38 #[.int .i64 n, .int .i64 i, .int .i64 k, .pointer (some ⟨p2, 0, none⟩), .pointer (some ⟨p3, 0, none⟩), .pointer (some ⟨p5, 0, none⟩)] w fun e w' => e = .returned (.bool b) ∧ Below w.heap.size w w' := by
  refine (isSet_any p2 p3 p5 B nv A A4 len cap c4 k l n i w hcl hl hc hi).mono ?_
  rintro e w' ⟨⟨b2, rfl, h2⟩, h3⟩
  refine ⟨?_, h3⟩
  have : b2 = b := Bool.eq_iff_iff.2 (h2.trans hb.symm)
  rw [this]

theorem frP_src {l : List Sg} {i : Nat} {row : List Int} (h : (frP l)[i]? = some row) : ∀ f ∈ row, f = -1 ∨ (0 ≤ f ∧ f < l.length) := fun f hf => by
  rcases (frG_mem h).1 hf with ⟨_, h1⟩ | ⟨k, h1, h2, _⟩
  · exact .inl h1
  · have : k < l.length := by simpa [nxP, bareP] using h2
    exact .inr (by omega)

theorem ni_get2 {hs : List Nat} {x : Nat} {z : Int} (h : (ni hs)[x]? = some z) : ∃ b, hs[x]? = some b ∧ z = (b : Int) := by
  unfold ni at h
  rw [List.getElem?_map] at h
  cases e : hs[x]? with
  | none => rw [e] at h; cases h
  | some b =>
    rw [e] at h
    injection h with h
    exact ⟨b, rfl, h.symm⟩

theorem mem_ni {hs : List Nat} {b : Nat} : (b : Int) ∈ ni hs ↔ b ∈ hs := by
  unfold ni
  rw [List.mem_map]
  constructor
  · rintro ⟨c, hc, e⟩
    have : c = b := by omega
    rw [← this]; exact hc
  · exact fun h => ⟨b, h, rfl⟩

theorem says_false {p : Prop} (h : ¬ p) : SaysB (.returned (.bool false)) p := ⟨false, rfl, fun h2 => absurd h2 (by decide), fun h2 => absurd h2 h⟩

theorem says_true {p : Prop} (h : p) : SaysB (.returned (.bool true)) p := ⟨true, rfl, fun _ => h, fun _ => rfl⟩

set_option maxHeartbeats 16000000 in
theorem onceSet_any (nv : Nat) (A : Option Addr) (len cap : Nat) (l : List Sg) (w : World) (hx : RdN w w.heap.size A l) (hl : l.length = len) (hc : ckSingle nv l = 0) :
    Calls Try.prog 15 #[.int .i64 nv, .slice A len cap] w fun e w' => SaysB e (OnP nv l) ∧ Below w.heap.size w w' := by
  obtain ⟨b1, b2, b3, b4, b5, b6, b7, b8⟩ := ckSingle_bd hc
  have HC := Lib.hid hc
  have HL := Lib.hid hl
  have HMC := Lib.hid b5
  have HMJ := Lib.hid b6
  have HWAY : Hid (ckWay (nxP (bareP l)) = 0) := Lib.hid (bareP_way (vars := nv) b3 b4 b7)
  have HNL : Hid ((nxP (bareP l)).length = len) := Lib.hid (by rw [← hl]; simp [bareP, nxP])
  have HBL : Hid ((bareP l).length = len) := Lib.hid (by rw [← hl]; simp [bareP])
  have HFL : Hid ((frP l).length = len) := Lib.hid (by rw [frP_len, hl])
  have HONE := Lib.hid (fun (h : OnP nv l) (n : Nat) (hn : n < 128) => onP_one h hn)
  rw [hl] at b3 b4
  have hnv6 : nv ≤ 6 := by omega
  obtain ⟨OP, hOP⟩ : ∃ OP : Prop, OnP nv l = OP := ⟨_, rfl⟩
  have HX := Lib.hid hx
  have ho2 := Own.new w 3 [.int .i64 nv]
  have ho3 := Own.new (w.alloc (.cells #[.int .i64 nv] 3)) 22 [.slice A len cap]
  clear hl hc b1 b2 b5 b6 b7 b8 hx hOP
  go_enter Try.func15, Try.ntmps15
  go_wp2_with fail
  refine (bare_any A len cap l _ ((HX.out.below (by go_grown) (Nat.le_refl _)).more (by simp; omega)) HL.out b4).mono ?_
  rintro e w3 ⟨A3, c3, rfl, hp3, hb3⟩
  have hbw3 : Below w.heap.size w w3 := Below.trans (by go_grown) (hb3.mono (by simp; omega))
  have q2 : Own w3 w.heap.size 3 [.int .i64 nv] := Own.below (Own.alloc ho2 _) hb3 (by simp; omega)
  have q3 : Own w3 (w.heap.size + 1) 22 [.slice A len cap] := Own.below (by simpa using ho3) hb3 (by simp)
  have HQ2 := Lib.hid q2
  have HQ3 := Lib.hid q3
  have hsz3 := q3.lt
  clear ho2 ho3 hb3 q2 q3
  go_wp2_with fail
  refine (refNexts_any A3 len c3 (bareP l) w3 hp3 HBL.out b4).mono ?_
  rintro e w4 ⟨A4, c4, rfl, hg4, hb4⟩
  have HG4 := Lib.hid hg4
  have HB4 := Lib.hid hb4
  have hsz4 := hb4.size
  have ho5 := Own.new w4 51 [.slice A4 len c4]
  have hb45 : Below w4.heap.size w4 (w4.alloc (.cells #[.slice A4 len c4] 51)) := by go_grown
  clear hp3 hg4 hb4
  go_wp2_with fail
  refine (froms_any A4 len c4 (nxP (bareP l)) _ ((HG4.out.below hb45 (Nat.le_refl _)).more (by simp)) HNL.out HWAY.out b3 b4).mono ?_
  rintro e w5 ⟨A5, c5, rfl, hg5, hb5⟩
  have hg5' : RdG w5 w5.heap.size A5 (frP l) := hg5
  have HG5 := Lib.hid hg5'
  have hb5' : Below w4.heap.size w4 w5 := hb45.trans (hb5.mono (by simp))
  have hb35 : Below w3.heap.size w3 w5 := HB4.out.trans (hb5'.mono hsz4)
  have hbw5 : Below w.heap.size w w5 := hbw3.trans (hb35.mono (by omega))
  have q5 : Own w5 w4.heap.size 51 [.slice A4 len c4] := Own.below ho5 hb5 (by simp)
  have hcl : ClA w5 w5.heap.size w.heap.size (w.heap.size + 1) w4.heap.size nv A A4 len cap c4 l := by
    have s35 := hb35.size
    refine ⟨(Own.below HQ2.out hb35 (by omega)).cell (j := 0) rfl, (Own.below HQ3.out hb35 (by omega)).cell (j := 0) rfl, q5.cell (j := 0) rfl, by omega, by omega, q5.lt, (HX.out.below hbw5 (Nat.le_refl _)).more hbw5.size, (HG4.out.below hb5' (Nat.le_refl _)).more hb5'.size, Nat.le_refl _⟩
  have HCL := Lib.hid hcl
  have hsz5 := hbw5.size
  have hg3 := hcl.b3
  have hg5b := hcl.b5
  obtain ⟨gb, hgb⟩ : ∃ gb, w4.heap.size = gb := ⟨_, rfl⟩
  rw [hgb] at HCL hg5b ⊢
  clear hcl q5 ho5 hb45 hb5 hb5' hb35 hg5 hg5' HQ2 HQ3 HB4 HG4 hbw3 hsz3 hsz4 hgb
  go_wp2
  go_loopw [7] (fun z wr => ∃ n : Nat, n ≤ 128 ∧ z = .int .i64 n ∧ UpTo (OneN nv l) n ∧ Below w5.heap.size w5 wr) (fun z _ => 128 - (intOf z).toNat)
  case atStart => exact ⟨0, by omega, rfl, UpTo.zero _, Below.refl _ _⟩
  case round =>
    obtain ⟨n, hn, rfl, hup, hb⟩ := hrel
    have HUP := Lib.hid hup
    have hsz := hb.size
    clear hup
    by_cases hn128 : n < 128
    · have hone := setAll_len (n : Int) l
      have hmc := HMC.out
      have hmj := HMJ.out
      have HST := Lib.hid (fun (h : OneN nv l n) => HUP.out.step h)
      have HNO := Lib.hid (fun (h : ¬ OneN nv l n) => show ¬ OnP nv l from fun h2 => h (HONE.out h2 n hn128))
      obtain ⟨m0, hm0, hcase⟩ : ∃ m0 : Nat, (if n < nv then 1 else 0) = m0 ∧ ((decide (n < nv) = true ∧ m0 = 1) ∨ (decide (n < nv) = false ∧ m0 = 0)) := by
        by_cases h : n < nv
        · exact ⟨1, if_pos h, .inl ⟨by simp; omega, rfl⟩⟩
        · exact ⟨0, if_neg h, .inr ⟨by simp; omega, rfl⟩⟩
      obtain ⟨R, hR⟩ : ∃ R : Nat, m0 + setAll (n : Int) l = R := ⟨_, rfl⟩
      have HON : Hid (OneN nv l n ↔ R ≤ 1) := Lib.hid (by unfold OneN; rw [hm0, hR])
      have HR0 : Hid (R = m0 + setAll (n : Int) (l.drop 0)) := Lib.hid (by rw [← hR]; rfl)
      have hR85 : R ≤ 85 := by rcases hcase with ⟨_, h⟩ | ⟨_, h⟩ <;> omega
      have HCL0 := Lib.hid (HCL.out.quiet hb)
      have r2 := HCL0.out.v2
      clear hone hmc hmj hm0 hR
      obtain ⟨wo, rfl⟩ : ∃ wo : World, wo = wr := ⟨_, rfl⟩
      have f128 : decide ((n : Int) < 128) = true := by simp; omega
      have f129 : decide (n < 128) = true := by simp; omega
      rcases hcase with ⟨f1, rfl⟩ | ⟨f1, rfl⟩
      all_goals
        go_wp2
        go_loopw [8, 9] (fun z8 z wr => ∃ i m : Nat, i ≤ len ∧ z = .int .i64 i ∧ z8 = .int .i64 m ∧ R = m + setAll (n : Int) (l.drop i) ∧ Below wo.heap.size wo wr) (fun _ z _ => len - (intOf z).toNat)
        case atStart => exact ⟨0, _, Nat.zero_le _, rfl, rfl, HR0.out, Below.refl _ _⟩
        case round =>
          obtain ⟨j, m, hj, rfl, rfl, hr, hbi⟩ := hrel
          have HR := Lib.hid hr
          have hbr := hb.trans (hbi.mono hsz)
          have hszr := hbr.size
          have HCLR := Lib.hid (HCL.out.quiet hbr)
          have r3 := HCLR.out.v3
          clear hr
          by_cases hjt : j < len
          · obtain ⟨ad, ⟨js2, co2, te2, th2, el2, la2⟩, Bj, cj2, Bc, cc2, Bl, cl2, rfl, hblj, hdj, hrj2, hrc2, _, d0, d1, d2, d3, d4, d5⟩ := HCLR.out.rd.at_ (k := j) (by rw [HL.out]; exact hjt)
            have hm3 := manyC_le hdj
            have hm4 := manyJ_le hdj
            have hmc := HMC.out
            have hmj := HMJ.out
            have HD := Lib.hid (setAll_drop (n := (n : Int)) hdj)
            simp only [] at d0 d1 d2 d3 d4 d5 hm3 hm4 hrj2 hrc2 HD
            obtain ⟨n4, hn4⟩ : ∃ n, co2.length = n := ⟨_, rfl⟩
            obtain ⟨n5, hn5⟩ : ∃ n, js2.length = n := ⟨_, rfl⟩
            obtain ⟨n6, hn6⟩ : ∃ n, la2.length = n := ⟨_, rfl⟩
            rw [hn4] at d1 hm3 HD
            rw [hn5] at d0 hm4
            rw [hn6] at d5
            have hBr := HCLR.out.le
            have HSO2 := Lib.hid (fun (Z : World) (hZ : Below wr.heap.size wr Z) => setsOf_any Bj Bc Bl n5 cj2 n4 cc2 n6 cl2 n4 js2 co2 te2 th2 el2 la2 n Z (((hrj2.more hBr).below hZ (Nat.le_refl _)).more hZ.size) ((RdS.below (RdS.more hrc2 hBr) hZ (Nat.le_refl _)).more hZ.size) hn5 hn4 (by omega) (by omega) (Nat.le_refl _))
            obtain ⟨q2, hq2⟩ : ∃ q, setN ⟨js2, co2, te2, th2, el2, la2⟩ n n4 = q := ⟨_, rfl⟩
            rw [hq2] at HSO2 HD
            have HE : Hid (R = (m + q2) + setAll (n : Int) (l.drop (j + 1))) := Lib.hid (by rw [HR.out, HD.out]; omega)
            have hmq := HE.out
            have hwr : IntKind.i64.wrap ((m : Int) + (q2 : Int)) = (m : Int) + (q2 : Int) := IntWalk.i64_in _ ⟨by omega, by omega⟩
            have hblr : (ad.add (j * 6)).block < wr.heap.size := by omega
            have hp3 : w.heap.size + 1 < wr.heap.size := by omega
            have HSA : Hid (∀ w' : World, Below wr.heap.size wr w' → ((fun w' => w'.cell? ⟨w.heap.size + 1, 0, none⟩ = some (.slice (some ad) len cap) ∧ w'.cell? (ad.add (j * 6)) = some (.slice Bj n5 cj2) ∧ w'.cell? ⟨(ad.add (j * 6)).block, (ad.add (j * 6)).off + 1, none⟩ = some (.slice Bc n4 cc2) ∧ w'.cell? ⟨(ad.add (j * 6)).block, (ad.add (j * 6)).off + 2, none⟩ = some (.int .i64 te2) ∧ w'.cell? ⟨(ad.add (j * 6)).block, (ad.add (j * 6)).off + 3, none⟩ = some (.int .i64 th2) ∧ w'.cell? ⟨(ad.add (j * 6)).block, (ad.add (j * 6)).off + 4, none⟩ = some (.int .i64 el2) ∧ w'.cell? ⟨(ad.add (j * 6)).block, (ad.add (j * 6)).off + 5, none⟩ = some (.slice Bl n6 cl2))) w') := Lib.hid fun w' h =>
              ⟨(h.cell (p := ⟨w.heap.size + 1, 0, none⟩) hp3).trans r3, (h.cell hblr).trans d0, (h.cell (p := ⟨(ad.add (j * 6)).block, (ad.add (j * 6)).off + 1, none⟩) hblr).trans d1, (h.cell (p := ⟨(ad.add (j * 6)).block, (ad.add (j * 6)).off + 2, none⟩) hblr).trans d2, (h.cell (p := ⟨(ad.add (j * 6)).block, (ad.add (j * 6)).off + 3, none⟩) hblr).trans d3, (h.cell (p := ⟨(ad.add (j * 6)).block, (ad.add (j * 6)).off + 4, none⟩) hblr).trans d4, (h.cell (p := ⟨(ad.add (j * 6)).block, (ad.add (j * 6)).off + 5, none⟩) hblr).trans d5⟩
            clear hdj hn4 hn5 hn6 hq2 hrj2 hrc2 hmq hmc hmj
            go_wp2
            go_region_held3 (fun w' => w'.cell? ⟨w.heap.size + 1, 0, none⟩ = some (.slice (some ad) len cap) ∧ w'.cell? (ad.add (j * 6)) = some (.slice Bj n5 cj2) ∧ w'.cell? ⟨(ad.add (j * 6)).block, (ad.add (j * 6)).off + 1, none⟩ = some (.slice Bc n4 cc2) ∧ w'.cell? ⟨(ad.add (j * 6)).block, (ad.add (j * 6)).off + 2, none⟩ = some (.int .i64 te2) ∧ w'.cell? ⟨(ad.add (j * 6)).block, (ad.add (j * 6)).off + 3, none⟩ = some (.int .i64 th2) ∧ w'.cell? ⟨(ad.add (j * 6)).block, (ad.add (j * 6)).off + 4, none⟩ = some (.int .i64 el2) ∧ w'.cell? ⟨(ad.add (j * 6)).block, (ad.add (j * 6)).off + 5, none⟩ = some (.slice Bl n6 cl2))
              (first | exact HSA.out _ (Below.drew (Below.refl _ _)) | exact HSA.out _ hb5')
              (first | (go_at_call 37; (with_reducible refine (HSO2.out _ (Below.drew (Below.refl _ _))).mono ?_); rintro e w6 ⟨A6, c6, rfl, hb6⟩; have hb5' : Below wr.heap.size wr w6 := (Below.drew (Below.refl _ _) : Below wr.heap.size wr wr.drew).trans (hb6.mono (Nat.le_refl _))))
            go_wp2
            go_round
            case rel => exact ⟨j + 1, m + q2, by omega, by go_num, rfl, HE.out, hbi.trans (hb5'.mono hbi.size)⟩
            case measure => (simp [intOf]; omega)
          · have hRm : R = m := by rw [HR.out, List.drop_of_length_le (by rw [HL.out]; omega)]; rfl
            subst hRm
            by_cases hm1 : R ≤ 1
            · have f2 : decide (1 < R) = false := by simp; omega
              have f3 : decide ((1 : Int) < (R : Int)) = false := by simp; omega
              have HUP2 := Lib.hid (HST.out (HON.out.2 hm1))
              clear hm1
              go_wp2
              go_round
              case rel => exact ⟨n + 1, by omega, by go_num, HUP2.out, hbr⟩
              case measure => (simp [intOf]; omega)
            · have f2 : decide (1 < R) = true := by simp; omega
              have f3 : decide ((1 : Int) < (R : Int)) = true := by simp; omega
              have HNP := Lib.hid (HNO.out fun h => hm1 (HON.out.1 h))
              clear hm1
              go_wp2
              go_ret
              exact ⟨says_false HNP.out, hbw5.trans (hbr.mono hsz5)⟩
    · have hn8 : n = 128 := by omega
      subst hn8
      have HCLR := Lib.hid (HCL.out.quiet hb)
      have r2 := HCLR.out.v2
      have r3 := HCLR.out.v3
      have r5 := HCLR.out.v5
      obtain ⟨wp, rfl⟩ : ∃ wp : World, wp = wr := ⟨_, rfl⟩
      go_wp2_with fail
      refine (refReach_any A4 len c4 (nxP (bareP l)) 0 (-1) wp (HCLR.out.gr.more HCLR.out.le) HNL.out HWAY.out b3).mono ?_
      rintro e w6 ⟨hs, A6, c6, hrch, rfl, hrd6, hb6⟩
      have HMEM := Lib.hid hrch.mem
      have HLT := Lib.hid hrch.lt
      have hb56 : Below w5.heap.size w5 w6 := hb.trans (hb6.mono hsz)
      have hbw6 : Below w.heap.size w w6 := hbw5.trans (hb56.mono hsz5)
      have hsz6 := hbw6.size
      have hsz56 := hb56.size
      have HRD6 := Lib.hid hrd6
      have HQU : Hid (∀ Z : World, Below w6.heap.size w6 Z → ClA Z w5.heap.size w.heap.size (w.heap.size + 1) gb nv A A4 len cap c4 l) := Lib.hid fun Z hZ => HCL.out.quiet (hb56.trans (hZ.mono hsz56))
      have HSET := Lib.hid (fun (Z : World) (hZ : Below w6.heap.size w6 Z) (n i : Int) (k : Nat) (b : Bool) (hb : b = true ↔ Av nv l n i k) (hi : i = -1 ∨ (0 ≤ i ∧ i < len ∧ k ≤ (l.getD i.toNat sg0).code.length)) =>
        isSetB_any w.heap.size (w.heap.size + 1) gb w5.heap.size nv A A4 len cap c4 k l n i b Z (HQU.out Z hZ) HL.out HC.out hb hi)
      have HRE := Lib.hid (fun (Z : World) (hZ : Below w6.heap.size w6 Z) => refReach_any A4 len c4 (nxP (bareP l)) 0 (-1) Z ((HQU.out Z hZ).gr.more (HQU.out Z hZ).le) HNL.out HWAY.out b3)
      have HG6 := Lib.hid ((HG5.out.below hb56 (Nat.le_refl _)).more hsz56)
      obtain ⟨nh, hnh⟩ : ∃ nh, hs.length = nh := ⟨_, rfl⟩
      have HNH := Lib.hid hnh
      have hnh8 : nh ≤ 8 := by have := hrch.len; rw [hnh, HNL.out] at this; omega
      rw [hnh]
      clear hrch hrd6 hb6 hb HCLR HCL HG5 HONE r2 r3 r5 hnh
      go_wp2
      go_loopw [63] (fun z wr => ∃ x : Nat, x ≤ nh ∧ z = .int .i64 x ∧ UpTo (BlkOn nv l hs) x ∧ Below w6.heap.size w6 wr) (fun z _ => nh - (intOf z).toNat)
      case atStart => exact ⟨0, by omega, rfl, UpTo.zero _, Below.refl _ _⟩
      case round =>
        obtain ⟨x, hx, rfl, hupx, hbx⟩ := hrel
        have HUPX := Lib.hid hupx
        have hszx := hbx.size
        have hbwx := hbw6.trans (hbx.mono hsz6)
        clear hupx
        by_cases hxt : x < nh
        · obtain ⟨ah, z, rfl, hblh, hdh, hch⟩ := (RdI.below HRD6.out hbx (Nat.le_refl _)).at_ (k := x) (by rw [ni, List.length_map, HNH.out]; exact hxt)
          obtain ⟨bi, hbi, rfl⟩ := ni_get2 hdh
          have hbim : bi ∈ hs := List.mem_of_getElem? hbi
          have hrea := (HMEM.out bi).1 hbim
          have hbil : bi < len := by have := HLT.out bi hbim; rwa [HNL.out] at this
          have HCLR := Lib.hid (HQU.out wr hbx)
          obtain ⟨ad, ⟨js, co, te, th, el, la⟩, Aj, cj, Ac, cc, Al, cl, rfl, hbl, hd, hrj, hrc, hrl, e0, e1, e2, e3, e4, e5⟩ := HCLR.out.rd.at_ (k := bi) (by rw [HL.out]; exact hbil)
          obtain ⟨af, row, Ar, cr, rfl, hblf, hdf, hcf, hrr⟩ := (HG6.out.below hbx (Nat.le_refl _)).at_ (k := bi) (by rw [HFL.out]; exact hbil)
          have hsg := ckSingle_at HC.out hd hdf
          have hm1 := manyC_le hd
          have hm2 := manyJ_le hd
          have hmc := HMC.out
          have hmj := HMJ.out
          have hgd : l.getD bi sg0 = ⟨js, co, te, th, el, la⟩ := by rw [List.getD_eq_getElem?_getD, hd]; rfl
          have HJN := Lib.hid hsg.joins
          have HCO := Lib.hid hsg.code
          have HLL := Lib.hid hsg.len
          have HFR := Lib.hid (frP_src hdf)
          have hr3 := HCLR.out.v3
          simp only [] at e0 e1 e2 e3 e4 e5 hrj hrc hrl hm1 hm2 HJN HCO HLL
          obtain ⟨n1, hn1⟩ : ∃ m, co.length = m := ⟨_, rfl⟩
          obtain ⟨n2, hn2⟩ : ∃ m, js.length = m := ⟨_, rfl⟩
          obtain ⟨n3, hn3⟩ : ∃ m, la.length = m := ⟨_, rfl⟩
          obtain ⟨ns, hns⟩ : ∃ m, row.length = m := ⟨_, rfl⟩
          rw [hn1] at e1 hm1
          rw [hn2] at e0 hm2
          rw [hn3] at e5
          rw [hns] at hcf HJN
          have HN1 := Lib.hid hn1
          have HN2 := Lib.hid hn2
          have HN3 := Lib.hid hn3
          have HNS := Lib.hid hns
          have HDF := Lib.hid hdf
          have hn36 : n3 ≤ 6 := by have := HLL.out; omega
          have hns9 : ns ≤ 9 := by rw [← hns]; have := frP_row hdf; have := HL.out; omega
          have HJF := Lib.hid (fun (h : OnP nv l) (c k : Nat) (j : Jn) (f n : Int) (hj : js[c]? = some j) (hf : row[k]? = some f) (hn : j.fr[k]? = some n) => h.join hd hrea hdf hj hf hn)
          have HSF := Lib.hid (fun (h : OnP nv l) (k : Nat) (st : St) (hk : co[k]? = some st) => h.step hd hrea hk)
          have HTF := Lib.hid (fun (h : OnP nv l) (ht : 0 ≤ te) => show Av nv l te bi n1 from by have := h.test hd hrea ht; simp only [hn1] at this; exact this)
          have HLF := Lib.hid (fun (h : OnP nv l) (k : Nat) (n : Int) (hk : la[k]? = some n) => show Av nv l n bi n1 from by have := h.last hd hrea (k := k) (n := n) hk; simp only [hn1] at this; exact this)
          have HBK := Lib.hid (fun (h1 : UpTo (JnOk nv l row js) n2) (h2 : UpTo (CdOk nv l bi co) n1) (h3 : 0 ≤ te → Av nv l te bi n1) (h4 : UpTo (LaOk nv l bi n1 la) n3) => show UpTo (BlkOn nv l hs) (x + 1) from HUPX.out.step fun i hi => by
            rw [hbi] at hi
            injection hi with hi
            subst hi
            rw [hgd]
            exact onB_of (th := th) (el := el) hdf hn1 (by rw [hn2]; exact h1) (by rw [hn1]; exact h2) h3 (by rw [hn3]; exact h4))
          have HBI : Hid ((0 : Int) ≤ (bi : Int) ∧ (bi : Int) < len ∧ ∀ k, k ≤ n1 → k ≤ (l.getD (bi : Int).toNat sg0).code.length) := Lib.hid ⟨by omega, by omega, fun k hk => by rw [Int.toNat_natCast, hgd]; simp only [hn1]; exact hk⟩
          obtain ⟨wo, rfl⟩ : ∃ wo : World, wo = wr := ⟨_, rfl⟩
          have hown0 := Own.new wo 43 [.slice Aj n2 cj, .slice Ac n1 cc, .int .i64 te, .int .i64 th, .int .i64 el, .slice Al n3 cl]
          have hbo0 : Below wo.heap.size wo (wo.alloc (.cells #[.slice Aj n2 cj, .slice Ac n1 cc, .int .i64 te, .int .i64 th, .int .i64 el, .slice Al n3 cl] 43)) := by go_grown
          have HRJ := Lib.hid (hrj.more HCLR.out.le)
          have HRC := Lib.hid (RdS.more hrc HCLR.out.le)
          have HRL := Lib.hid (hrl.more HCLR.out.le)
          have HRR := Lib.hid hrr
          have hr5 := HCLR.out.v5
          have hle5 := HCLR.out.le
          have hblw : (ad.add (bi * 6)).block < wo.heap.size := by omega
          have hcfw := hcf
          have hn120 : n1 ≤ 20 := by omega
          have hn264 : n2 ≤ 64 := by omega
          clear hdh hbim hsg hgd hd hdf hn1 hn2 hn3 hns hrj hrc hrl hrr hbi hmc hmj
          go_wp2
          go_loopw [74] (fun z wr => ∃ c : Nat, c ≤ n2 ∧ z = .int .i64 c ∧ UpTo (JnOk nv l row js) c ∧ Own wr wo.heap.size 43 [.slice Aj n2 cj, .slice Ac n1 cc, .int .i64 te, .int .i64 th, .int .i64 el, .slice Al n3 cl] ∧ Below wo.heap.size wo wr) (fun z _ => n2 - (intOf z).toNat)
          case atStart => exact ⟨0, Nat.zero_le _, rfl, UpTo.zero _, hown0, hbo0⟩
          case round =>
            obtain ⟨c, hcn, rfl, hupc, hown, hbc⟩ := hrel
            have HUPC := Lib.hid hupc
            have HOWN := Lib.hid hown
            have hbxc := hbx.trans (hbc.mono hszx)
            have hszc := hbc.size
            clear hupc
            by_cases hct : c < n2
            · obtain ⟨adj, ⟨to, fr⟩, Af, cf, rfl, hblj, hdj, hrf, c0, c1, _⟩ := (HRJ.out.below hbc (Nat.le_refl _)).at_ (k := c) (by rw [HN2.out]; exact hct)
              have hfl : fr.length = ns := (ckJn_ok (HJN.out _ (List.mem_of_getElem? hdj))).1
              have HJC := Lib.hid (fun (h : UpTo (FrOk nv l row fr) ns) => show UpTo (JnOk nv l row js) (c + 1) from HUPC.out.step fun j hj k f n hf hn => by
                rw [hdj] at hj
                injection hj with hj
                subst hj
                have hk : k < ns := by rw [← HNS.out]; exact (List.getElem?_eq_some_iff.1 hf).1
                exact h k hk f n hf hn)
              have HJG := Lib.hid (fun (h : OnP nv l) (k : Nat) (f n : Int) (hf : row[k]? = some f) (hn : fr[k]? = some n) => HJF.out h c k ⟨to, fr⟩ f n hdj hf hn)
              simp only [] at c0 c1 hrf
              rw [hfl] at c1
              have HFLN := Lib.hid hfl
              obtain ⟨wj, rfl⟩ : ∃ wj : World, wj = wr := ⟨_, rfl⟩
              have HRF := Lib.hid (hrf.more (B' := wj.heap.size) (by omega))
              have hblf2 : (af.add bi).block < wj.heap.size := by omega
              have hcfj := (hbc.cell (p := af.add bi) (by omega)).trans hcfw
              have hownb := hown.lt
              have HRRJ := Lib.hid ((HRR.out.below hbc hszx).more (B' := wj.heap.size) (by omega))
              clear hdj hfl hrf hown
              go_wp2
              go_loopw [81] (fun z wr => ∃ k : Nat, k ≤ ns ∧ z = .int .i64 k ∧ UpTo (FrOk nv l row fr) k ∧ Below wj.heap.size wj wr) (fun z _ => ns - (intOf z).toNat)
              case atStart => exact ⟨0, Nat.zero_le _, rfl, UpTo.zero _, by go_grown⟩
              case round =>
                obtain ⟨k, hk, rfl, hupk, hbk⟩ := hrel
                have HUPK := Lib.hid hupk
                have hszk := hbk.size
                have hbxk := hbxc.trans (hbk.mono hbxc.size)
                clear hupk
                by_cases hkt : k < ns
                · obtain ⟨adf, n, rfl, hbln, hdn, hcn2⟩ := (HRF.out.below hbk (Nat.le_refl _)).at_ (k := k) (by rw [HFLN.out]; exact hkt)
                  obtain ⟨adr, f, rfl, hblr, hdr, hcr⟩ := (HRRJ.out.below hbk (Nat.le_refl _)).at_ (k := k) (by rw [HNS.out]; exact hkt)
                  have hcfk := (hbk.cell (p := af.add bi) hblf2).trans hcfj
                  have HFK := Lib.hid (fun (h : JoinOk nv l f n) => show UpTo (FrOk nv l row fr) (k + 1) from HUPK.out.step fun f2 n2 hf hn => by
                    rw [hdr] at hf
                    rw [hdn] at hn
                    injection hf with hf
                    injection hn with hn
                    subst hf hn
                    exact h)
                  have HNK := Lib.hid (fun (h : ¬ JoinOk nv l f n) => show ¬ OnP nv l from fun h2 => h (HJG.out h2 k f n hdr hdn))
                  have hfr := HFR.out f (List.mem_of_getElem? hdr)
                  rw [HL.out] at hfr
                  have hr3k := (HQU.out wr hbxk).v3
                  have hr5k := (HQU.out wr hbxk).v5
                  clear hdn hdr
                  rcases hfr with rfl | ⟨hf0, hfl⟩
                  · obtain ⟨b, hb⟩ := bool_of (Av nv l n (-1) 0)
                    have HJ : Hid (JoinOk nv l (-1) n ↔ b = true) := Lib.hid (by
                      rw [hb]
                      unfold JoinOk
                      rw [if_neg (by omega)]
                      exact ⟨fun h => h.elim (fun h => absurd h.1 (by omega)) id, .inr⟩)
                    have HS := Lib.hid (fun (Z : World) (hZ : Below wr.heap.size wr Z) => HSET.out Z (hbxk.trans (hZ.mono hbxk.size)) n (-1) 0 b hb (.inl rfl))
                    clear hb
                    cases b
                    · have HNP := Lib.hid (HNK.out fun h => absurd (HJ.out.1 h) (by decide))
                      go_wp2_with (go_at_call 38; (refine (HS.out _ (Below.refl _ _)).mono ?_); rintro e w7 ⟨rfl, hb7⟩)
                      go_ret
                      exact ⟨says_false HNP.out, hbwx.trans ((hbc.trans ((hbk.trans (hb7.mono hszk)).mono hszc)).mono hbwx.size)⟩
                    · have HUK := Lib.hid (HFK.out (HJ.out.2 rfl))
                      go_wp2_with (go_at_call 38; (refine (HS.out _ (Below.refl _ _)).mono ?_); rintro e w7 ⟨rfl, hb7⟩)
                      go_round
                      case rel => exact ⟨k + 1, by omega, by go_num, HUK.out, hbk.trans (hb7.mono hszk)⟩
                      case measure => (simp [intOf]; omega)
                  · obtain ⟨jf, rfl⟩ := Int.eq_ofNat_of_zero_le hf0
                    have hjl : jf < len := by omega
                    have hf1 : decide ((0 : Int) ≤ (jf : Int)) = true := by simp
                    obtain ⟨adl, ⟨js3, co3, te3, th3, el3, la3⟩, Bj, cj3, Bc, cc3, Bl, cl3, eadl, hbll, hdl, _, _, _, d0, d1, d2, d3, d4, d5⟩ := (HQU.out wr hbxk).rd.at_ (k := jf) (by rw [HL.out]; exact hjl)
                    injection eadl with eadl
                    subst eadl
                    have hgl : l.getD jf sg0 = ⟨js3, co3, te3, th3, el3, la3⟩ := by rw [List.getD_eq_getElem?_getD, hdl]; rfl
                    have hm3 := manyC_le hdl
                    have hmc := HMC.out
                    simp only [] at d0 d1 d2 d3 d4 d5 hm3
                    obtain ⟨m3, hm3e⟩ : ∃ n, co3.length = n := ⟨_, rfl⟩
                    rw [hm3e] at d1 hm3
                    have HJO : Hid (JoinOk nv l (jf : Int) n ↔ (¬ Rea (nxP (bareP l)) (-1) 0 jf ∨ Av nv l n (jf : Int) m3)) := Lib.hid (by
                      unfold JoinOk
                      rw [if_pos (by omega), Int.toNat_natCast, hgl]
                      simp only [hm3e]
                      exact ⟨fun h => h.imp And.right id, fun h => h.imp (fun h => ⟨by omega, h⟩) id⟩)
                    have hi3 : Hid ((jf : Int) = -1 ∨ (0 ≤ (jf : Int) ∧ (jf : Int) < len ∧ m3 ≤ (l.getD (jf : Int).toNat sg0).code.length)) := Lib.hid (.inr ⟨by omega, by omega, by rw [Int.toNat_natCast, hgl]; simp only [hm3e]; exact Nat.le_refl _⟩)
                    have hbllr : (ad.add (jf * 6)).block < wr.heap.size := by have := (HQU.out wr hbxk).le; omega
                    clear hdl hgl hm3e hmc hf0 hfl
                    by_cases hrf : Rea (nxP (bareP l)) (-1) 0 jf
                    · have HHB : Hid (∀ hs2 : List Nat, (∀ j, j ∈ hs2 ↔ Rea (nxP (bareP l)) (-1) 0 j) → hasB (ni hs2) (jf : Int) = true) := Lib.hid fun hs2 h => hasB_iff.2 (mem_ni.2 ((h jf).2 hrf))
                      obtain ⟨b, hb⟩ := bool_of (Av nv l n (jf : Int) m3)
                      have HJ : Hid (JoinOk nv l (jf : Int) n ↔ b = true) := Lib.hid (by
                        rw [hb, HJO.out]
                        exact ⟨fun h => h.elim (fun h => absurd hrf h) id, .inr⟩)
                      have HS := Lib.hid (fun (Z : World) (hZ : Below wr.heap.size wr Z) => HSET.out Z (hbxk.trans (hZ.mono hbxk.size)) n (jf : Int) m3 b hb hi3.out)
                      clear hb hrf
                      cases b
                      · have HNP := Lib.hid (HNK.out fun h => absurd (HJ.out.1 h) (by decide))
                        go_wp2_with (first | (go_at_call 40; (refine (HRE.out _ hbxk).mono ?_); rintro e w8 ⟨hs2, A8, c8, hr8, rfl, hrd8, hb8⟩) | (go_at_call 41; (with_reducible refine (has_any (jf : Int) A8 hs2.length c8 (ni hs2) _ w8 hrd8 (by simp [ni]) (by have := hr8.len; rw [HNL.out] at this; unfold maxLen; omega)).mono ?_); rintro e w9 ⟨rfl, rfl⟩; have hB9 := HHB.out hs2 hr8.mem; have d1' := (hb8.cell (p := ⟨(ad.add (jf * 6)).block, (ad.add (jf * 6)).off + 1, none⟩) hbllr).trans d1; have hr3z := (HQU.out w8 (hbxk.trans (hb8.mono hbxk.size))).v3) | (go_at_call 38; (with_reducible refine (HS.out _ hb8).mono ?_); rintro e w7 ⟨rfl, hb7⟩))
                        go_ret
                        exact ⟨says_false HNP.out, hbwx.trans ((hbc.trans ((hbk.trans ((hb8.trans (hb7.mono hb8.size)).mono hszk)).mono hszc)).mono hbwx.size)⟩
                      · have HUK := Lib.hid (HFK.out (HJ.out.2 rfl))
                        go_wp2_with (first | (go_at_call 40; (refine (HRE.out _ hbxk).mono ?_); rintro e w8 ⟨hs2, A8, c8, hr8, rfl, hrd8, hb8⟩) | (go_at_call 41; (with_reducible refine (has_any (jf : Int) A8 hs2.length c8 (ni hs2) _ w8 hrd8 (by simp [ni]) (by have := hr8.len; rw [HNL.out] at this; unfold maxLen; omega)).mono ?_); rintro e w9 ⟨rfl, rfl⟩; have hB9 := HHB.out hs2 hr8.mem; have d1' := (hb8.cell (p := ⟨(ad.add (jf * 6)).block, (ad.add (jf * 6)).off + 1, none⟩) hbllr).trans d1; have hr3z := (HQU.out w8 (hbxk.trans (hb8.mono hbxk.size))).v3) | (go_at_call 38; (with_reducible refine (HS.out _ hb8).mono ?_); rintro e w7 ⟨rfl, hb7⟩))
                        go_round
                        case rel => exact ⟨k + 1, by omega, by go_num, HUK.out, hbk.trans ((hb8.trans (hb7.mono hb8.size)).mono hszk)⟩
                        case measure => (simp [intOf]; omega)
                    · have HHB : Hid (∀ hs2 : List Nat, (∀ j, j ∈ hs2 ↔ Rea (nxP (bareP l)) (-1) 0 j) → hasB (ni hs2) (jf : Int) = false) := Lib.hid fun hs2 h => by
                        cases e : hasB (ni hs2) (jf : Int) with
                        | false => rfl
                        | true => exact absurd ((h jf).1 (mem_ni.1 (hasB_iff.1 e))) hrf
                      have HUK := Lib.hid (HFK.out (HJO.out.2 (.inl hrf)))
                      clear hrf
                      go_wp2_with (first | (go_at_call 40; (refine (HRE.out _ hbxk).mono ?_); rintro e w8 ⟨hs2, A8, c8, hr8, rfl, hrd8, hb8⟩) | (go_at_call 41; (with_reducible refine (has_any (jf : Int) A8 hs2.length c8 (ni hs2) _ w8 hrd8 (by simp [ni]) (by have := hr8.len; rw [HNL.out] at this; unfold maxLen; omega)).mono ?_); rintro e w9 ⟨rfl, rfl⟩; have hB9 := HHB.out hs2 hr8.mem; have d1' := (hb8.cell (p := ⟨(ad.add (jf * 6)).block, (ad.add (jf * 6)).off + 1, none⟩) hbllr).trans d1; have hr3z := (HQU.out w8 (hbxk.trans (hb8.mono hbxk.size))).v3))
                      go_round
                      case rel => exact ⟨k + 1, by omega, by go_num, HUK.out, hbk.trans (hb8.mono hszk)⟩
                      case measure => (simp [intOf]; omega)
                · have HJC2 := Lib.hid (HJC.out (by have := HUPK.out; rwa [show k = ns by omega] at this))
                  go_wp2
                  go_round
                  case rel => exact ⟨c + 1, by omega, by go_num, HJC2.out, HOWN.out.below hbk hownb, hbc.trans (hbk.mono hszc)⟩
                  case measure => (simp [intOf]; omega)
            · have HUJ := Lib.hid (show UpTo (JnOk nv l row js) n2 from by have := HUPC.out; rwa [show c = n2 by omega] at this)
              obtain ⟨wj, rfl⟩ : ∃ wj : World, wj = wr := ⟨_, rfl⟩
              have g0 := hown.cell (j := 1) rfl
              clear hown
              go_wp2
              go_loopw [121] (fun z wr => ∃ k : Nat, k ≤ n1 ∧ z = .int .i64 k ∧ UpTo (CdOk nv l bi co) k ∧ Own wr wo.heap.size 43 [.slice Aj n2 cj, .slice Ac n1 cc, .int .i64 te, .int .i64 th, .int .i64 el, .slice Al n3 cl] ∧ Below wo.heap.size wo wr) (fun z _ => n1 - (intOf z).toNat)
              case atStart => exact ⟨0, Nat.zero_le _, rfl, UpTo.zero _, HOWN.out, hbc⟩
              case round =>
                obtain ⟨k, hk, rfl, hupk, hownk, hbk⟩ := hrel
                have HUPK := Lib.hid hupk
                have HOWNK := Lib.hid hownk
                have hbxk := hbx.trans (hbk.mono hszx)
                have hszk := hbk.size
                have hownkb := hownk.lt
                clear hupk g0
                by_cases hkt : k < n1
                · obtain ⟨ad4, o, t, a, b, v, rfl, hbl5, hd4, g0, g1, g2, g3, g4⟩ := (RdS.below HRC.out hbk (Nat.le_refl _)).at_ (k := k) (by rw [HN1.out]; exact hkt)
                  have hst := ckStNs_at HCO.out hd4
                  have hop : 1 ≤ o ∧ o ≤ 6 := by
                    unfold ckStN at hst
                    simp only [] at hst
                    split at hst
                    · cases hst
                    · omega
                  have HCK := Lib.hid (fun (h : StOk nv l bi k o v a b) => show UpTo (CdOk nv l bi co) (k + 1) from HUPK.out.step fun s hs => by
                    rw [hd4] at hs
                    injection hs with hs
                    subst hs
                    exact h)
                  have HNK := Lib.hid (fun (h : ¬ StOk nv l bi k o v a b) => show ¬ OnP nv l from fun h2 => h (HSF.out h2 k _ hd4))
                  have hk20 : k ≤ n1 := hk
                  have HS := Lib.hid (fun (Z : World) (hZ : Below wr.heap.size wr Z) (n : Int) (b : Bool) (hb : b = true ↔ Av nv l n bi k) => HSET.out Z (hbxk.trans (hZ.mono hbxk.size)) n bi k b hb (.inr ⟨HBI.out.1, HBI.out.2.1, HBI.out.2.2 k hk20⟩))
                  have hownk2 := hownk.cell (j := 1) rfl
                  clear hd4 hst hownk
                  by_cases h1 : o = 1
                  · subst h1
                    have HU := Lib.hid (HCK.out ⟨fun h => absurd h (by decide), fun h => absurd h (by decide)⟩)
                    go_wp2
                    go_round
                    case rel => exact ⟨k + 1, by omega, by go_num, HU.out, HOWNK.out.alloc _, by go_grown⟩
                    case measure => (simp [intOf]; omega)
                  · by_cases h2 : o = 2
                    · subst h2
                      obtain ⟨bv, hbv⟩ := bool_of (Av nv l v bi k)
                      have HSV := Lib.hid (fun (Z : World) (hZ : Below wr.heap.size wr Z) => HS.out Z hZ v bv hbv)
                      have HST : Hid (StOk nv l bi k 2 v a b ↔ bv = true) := Lib.hid (by
                        rw [hbv]
                        exact ⟨fun h => h.1 rfl, fun h => ⟨fun _ => h, fun h => absurd h (by decide)⟩⟩)
                      clear hbv
                      cases bv
                      · have HNP := Lib.hid (HNK.out fun h => absurd (HST.out.1 h) (by decide))
                        go_wp2_with (go_at_call 38; (with_reducible refine (HSV.out _ (by go_grown)).mono ?_); rintro e w7 ⟨rfl, hb7⟩)
                        go_ret
                        exact ⟨says_false HNP.out, hbwx.trans ((hbk.trans ((Below.trans (by go_grown : Below wr.heap.size wr _) (hb7.mono (by simp))).mono hszk)).mono hbwx.size)⟩
                      · have HU := Lib.hid (HCK.out (HST.out.2 rfl))
                        go_wp2_with (go_at_call 38; (with_reducible refine (HSV.out _ (by go_grown)).mono ?_); rintro e w7 ⟨rfl, hb7⟩; have ho7 := Own.below (Own.new wr 61 [.int .i64 2, .int .i64 t, .int .i64 a, .int .i64 b, .int .i64 v]) hb7 (by simp); have j0 := ho7.cell (j := 0) rfl; have j2 := ho7.cell (j := 2) rfl; have j3 := ho7.cell (j := 3) rfl; have hb78 : Below wr.heap.size wr w7 := Below.trans (by go_grown) (hb7.mono (by simp)))
                        go_round
                        case rel => exact ⟨k + 1, by omega, by go_num, HU.out, HOWNK.out.below hb78 hownkb, hbk.trans (hb78.mono hszk)⟩
                        case measure => (simp [intOf]; omega)
                    · have h3 : 3 ≤ o := by omega
                      have e2 : (o == 2) = false := by simp; omega
                      have e3 : decide (3 ≤ o) = true := by simp; omega
                      obtain ⟨ba, hba⟩ := bool_of (Av nv l a bi k)
                      obtain ⟨bb, hbb⟩ := bool_of (Av nv l b bi k)
                      have HSA := Lib.hid (fun (Z : World) (hZ : Below wr.heap.size wr Z) => HS.out Z hZ a ba hba)
                      have HSB := Lib.hid (fun (Z : World) (hZ : Below wr.heap.size wr Z) => HS.out Z hZ b bb hbb)
                      have HST : Hid (StOk nv l bi k o v a b ↔ (ba = true ∧ bb = true)) := Lib.hid (by
                        rw [hba, hbb]
                        exact ⟨fun h => h.2 h3, fun h => ⟨fun e => absurd e h2, fun _ => h⟩⟩)
                      clear hba hbb h1 h2 h3
                      cases ba
                      · have HNP := Lib.hid (HNK.out fun h => absurd (HST.out.1 h).1 (by decide))
                        go_wp2_with (go_at_call 38; (with_reducible refine (HSA.out _ (by go_grown)).mono ?_); rintro e w7 ⟨rfl, hb7⟩; have ho7 := Own.below (Own.new wr 61 [.int .i64 o, .int .i64 t, .int .i64 a, .int .i64 b, .int .i64 v]) hb7 (by simp); have j0 := ho7.cell (j := 0) rfl; have j2 := ho7.cell (j := 2) rfl; have j3 := ho7.cell (j := 3) rfl; have hb78 : Below wr.heap.size wr w7 := Below.trans (by go_grown) (hb7.mono (by simp)))
                        go_ret
                        exact ⟨says_false HNP.out, hbwx.trans ((hbk.trans (hb78.mono hszk)).mono hbwx.size)⟩
                      · cases bb
                        · have HNP := Lib.hid (HNK.out fun h => absurd (HST.out.1 h).2 (by decide))
                          go_wp2_with (first | (go_at_call 38; (with_reducible refine (HSA.out _ (by go_grown)).mono ?_); rintro e w7 ⟨rfl, hb7⟩; have ho7 := Own.below (Own.new wr 61 [.int .i64 o, .int .i64 t, .int .i64 a, .int .i64 b, .int .i64 v]) hb7 (by simp); have j0 := ho7.cell (j := 0) rfl; have j2 := ho7.cell (j := 2) rfl; have j3 := ho7.cell (j := 3) rfl; have hb78 : Below wr.heap.size wr w7 := Below.trans (by go_grown) (hb7.mono (by simp))) | (go_at_call 38; (with_reducible refine (HSB.out _ hb78).mono ?_); rintro e w8 ⟨rfl, hb8⟩))
                          go_ret
                          exact ⟨says_false HNP.out, hbwx.trans ((hbk.trans ((hb78.trans (hb8.mono hb78.size)).mono hszk)).mono hbwx.size)⟩
                        · have HU := Lib.hid (HCK.out (HST.out.2 ⟨rfl, rfl⟩))
                          go_wp2_with (first | (go_at_call 38; (with_reducible refine (HSA.out _ (by go_grown)).mono ?_); rintro e w7 ⟨rfl, hb7⟩; have ho7 := Own.below (Own.new wr 61 [.int .i64 o, .int .i64 t, .int .i64 a, .int .i64 b, .int .i64 v]) hb7 (by simp); have j0 := ho7.cell (j := 0) rfl; have j2 := ho7.cell (j := 2) rfl; have j3 := ho7.cell (j := 3) rfl; have hb78 : Below wr.heap.size wr w7 := Below.trans (by go_grown) (hb7.mono (by simp))) | (go_at_call 38; (with_reducible refine (HSB.out _ hb78).mono ?_); rintro e w8 ⟨rfl, hb8⟩))
                          have hb79 := hb78.trans (hb8.mono hb78.size)
                          go_round
                          case rel => exact ⟨k + 1, by omega, by go_num, HU.out, HOWNK.out.below hb79 hownkb, hbk.trans (hb79.mono hszk)⟩
                          case measure => (simp [intOf]; omega)
                · have HUC := Lib.hid (show UpTo (CdOk nv l bi co) n1 from by have := HUPK.out; rwa [show k = n1 by omega] at this)
                  have g1 := hownk.cell (j := 1) rfl
                  have g2 := hownk.cell (j := 2) rfl
                  have g5 := hownk.cell (j := 5) rfl
                  have HS := Lib.hid (fun (Z : World) (hZ : Below wr.heap.size wr Z) (n : Int) (b : Bool) (hb : b = true ↔ Av nv l n bi n1) => HSET.out Z (hbxk.trans (hZ.mono hbxk.size)) n bi n1 b hb (.inr ⟨HBI.out.1, HBI.out.2.1, HBI.out.2.2 n1 (Nat.le_refl _)⟩))
                  obtain ⟨wk, rfl⟩ : ∃ wk : World, wk = wr := ⟨_, rfl⟩
                  clear hownk
                  obtain ⟨bt, hbt⟩ := bool_of (0 ≤ te → Av nv l te bi n1)
                  have HTE : Hid (bt = true ↔ (0 ≤ te → Av nv l te bi n1)) := Lib.hid hbt
                  clear hbt
                  cases bt
                  · have ht0 : 0 ≤ te := Classical.byContradiction fun h => absurd (HTE.out.2 fun h2 => absurd h2 h) (by decide)
                    have e3 : decide (0 ≤ te) = true := by simp; omega
                    have hna : ¬ Av nv l te bi n1 := fun h => absurd (HTE.out.2 fun _ => h) (by decide)
                    have HNP : Hid (¬ OnP nv l) := Lib.hid fun h => hna (HTF.out h ht0)
                    have HSV := Lib.hid (fun (Z : World) (hZ : Below wk.heap.size wk Z) => HS.out Z hZ te false (by simp [hna]))
                    clear hna ht0
                    go_wp2_with (go_at_call 38; (refine (HSV.out _ (Below.refl _ _)).mono ?_); rintro e w7 ⟨rfl, hb7⟩)
                    go_ret
                    exact ⟨says_false HNP.out, hbwx.trans ((hbk.trans (hb7.mono hszk)).mono hbwx.size)⟩
                  · have HTE2 := Lib.hid (HTE.out.1 rfl)
                    have HLST : Hid (∀ (W : World), Below wk.heap.size wk W → Own W wo.heap.size 43 [.slice Aj n2 cj, .slice Ac n1 cc, .int .i64 te, .int .i64 th, .int .i64 el, .slice Al n3 cl]) := Lib.hid fun W hW => HOWNK.out.below hW hownkb
                    have hjoin : ∀ (W : World), Below wk.heap.size wk W → Below w.heap.size w W := fun W hW => hbwx.trans ((hbk.trans (hW.mono hszk)).mono hbwx.size)
                    have HJ := Lib.hid hjoin
                    clear hjoin
                    by_cases ht0 : 0 ≤ te
                    · have e3 : decide (0 ≤ te) = true := by simp; omega
                      have HSV := Lib.hid (fun (Z : World) (hZ : Below wk.heap.size wk Z) => HS.out Z hZ te true (by simp [HTE2.out ht0]))
                      clear ht0
                      go_wp2_with (go_at_call 38; (refine (HSV.out _ (Below.refl _ _)).mono ?_); rintro e w7 ⟨rfl, hb7⟩; have g57 := (HLST.out w7 hb7).cell (j := 5) rfl)
                      go_loopw [179] (fun z wr => ∃ q : Nat, q ≤ n3 ∧ z = .int .i64 q ∧ UpTo (LaOk nv l bi n1 la) q ∧ Below w7.heap.size w7 wr) (fun z _ => n3 - (intOf z).toNat)
                      case atStart => exact ⟨0, Nat.zero_le _, rfl, UpTo.zero _, Below.refl _ _⟩
                      case round =>
                        obtain ⟨q, hq, rfl, hupq, hbq⟩ := hrel
                        have HUPQ := Lib.hid hupq
                        have hb7q : Below wk.heap.size wk wr := hb7.trans (hbq.mono hb7.size)
                        have hkq := hbk.trans (hb7q.mono hszk)
                        have g1q := (HLST.out wr hb7q).cell (j := 1) rfl
                        clear hupq
                        by_cases hqt : q < n3
                        · obtain ⟨adl, n, rfl, hbll, hdl, hcl⟩ := (HRL.out.below hkq (Nat.le_refl _)).at_ (k := q) (by rw [HN3.out]; exact hqt)
                          obtain ⟨bv, hbv⟩ := bool_of (Av nv l n bi n1)
                          have HSV := Lib.hid (fun (Z : World) (hZ : Below wr.heap.size wr Z) => HS.out Z (hb7q.trans (hZ.mono hb7q.size)) n bv hbv)
                          have HLK : Hid (bv = true → UpTo (LaOk nv l bi n1 la) (q + 1)) := Lib.hid fun h => HUPQ.out.step fun n2 hn2 => by
                            rw [hdl] at hn2
                            injection hn2 with hn2
                            subst hn2
                            exact hbv.1 h
                          have HNP0 : Hid (bv = false → ¬ OnP nv l) := Lib.hid fun h h2 => by
                            have := hbv.2 (HLF.out h2 q n hdl)
                            rw [h] at this
                            cases this
                          clear hdl hbv
                          cases bv
                          · have HNP := Lib.hid (HNP0.out rfl)
                            go_wp2_with (go_at_call 38; (refine (HSV.out _ (Below.refl _ _)).mono ?_); rintro e w9 ⟨rfl, hb9⟩)
                            go_ret
                            exact ⟨says_false HNP.out, HJ.out _ (hb7q.trans (hb9.mono hb7q.size))⟩
                          · have HU := Lib.hid (HLK.out rfl)
                            go_wp2_with (go_at_call 38; (refine (HSV.out _ (Below.refl _ _)).mono ?_); rintro e w9 ⟨rfl, hb9⟩)
                            go_round
                            case rel => exact ⟨q + 1, by omega, by go_num, HU.out, hbq.trans (hb9.mono hbq.size)⟩
                            case measure => (simp [intOf]; omega)
                        · have HU := Lib.hid (HBK.out HUJ.out HUC.out HTE2.out (by have := HUPQ.out; rwa [show q = n3 by omega] at this))
                          go_wp2
                          go_round
                          case rel => exact ⟨x + 1, by omega, by go_num, HU.out, hbx.trans (hkq.mono hszx)⟩
                          case measure => (simp [intOf]; omega)
                    · have e3 : decide (0 ≤ te) = false := by simp; omega
                      have hb7 : Below wk.heap.size wk wk := Below.refl _ _
                      clear ht0
                      obtain ⟨w7, rfl⟩ : ∃ w7 : World, w7 = wk := ⟨_, rfl⟩
                      go_wp2
                      go_loopw [179] (fun z wr => ∃ q : Nat, q ≤ n3 ∧ z = .int .i64 q ∧ UpTo (LaOk nv l bi n1 la) q ∧ Below w7.heap.size w7 wr) (fun z _ => n3 - (intOf z).toNat)
                      case atStart => exact ⟨0, Nat.zero_le _, rfl, UpTo.zero _, Below.refl _ _⟩
                      case round =>
                        obtain ⟨q, hq, rfl, hupq, hbq⟩ := hrel
                        have HUPQ := Lib.hid hupq
                        have hb7q : Below w7.heap.size w7 wr := hb7.trans (hbq.mono hb7.size)
                        have hkq := hbk.trans (hb7q.mono hszk)
                        have g1q := (HLST.out wr hb7q).cell (j := 1) rfl
                        clear hupq
                        by_cases hqt : q < n3
                        · obtain ⟨adl, n, rfl, hbll, hdl, hcl⟩ := (HRL.out.below hkq (Nat.le_refl _)).at_ (k := q) (by rw [HN3.out]; exact hqt)
                          obtain ⟨bv, hbv⟩ := bool_of (Av nv l n bi n1)
                          have HSV := Lib.hid (fun (Z : World) (hZ : Below wr.heap.size wr Z) => HS.out Z (hb7q.trans (hZ.mono hb7q.size)) n bv hbv)
                          have HLK : Hid (bv = true → UpTo (LaOk nv l bi n1 la) (q + 1)) := Lib.hid fun h => HUPQ.out.step fun n2 hn2 => by
                            rw [hdl] at hn2
                            injection hn2 with hn2
                            subst hn2
                            exact hbv.1 h
                          have HNP0 : Hid (bv = false → ¬ OnP nv l) := Lib.hid fun h h2 => by
                            have := hbv.2 (HLF.out h2 q n hdl)
                            rw [h] at this
                            cases this
                          clear hdl hbv
                          cases bv
                          · have HNP := Lib.hid (HNP0.out rfl)
                            go_wp2_with (go_at_call 38; (refine (HSV.out _ (Below.refl _ _)).mono ?_); rintro e w9 ⟨rfl, hb9⟩)
                            go_ret
                            exact ⟨says_false HNP.out, HJ.out _ (hb7q.trans (hb9.mono hb7q.size))⟩
                          · have HU := Lib.hid (HLK.out rfl)
                            go_wp2_with (go_at_call 38; (refine (HSV.out _ (Below.refl _ _)).mono ?_); rintro e w9 ⟨rfl, hb9⟩)
                            go_round
                            case rel => exact ⟨q + 1, by omega, by go_num, HU.out, hbq.trans (hb9.mono hbq.size)⟩
                            case measure => (simp [intOf]; omega)
                        · have HU := Lib.hid (HBK.out HUJ.out HUC.out HTE2.out (by have := HUPQ.out; rwa [show q = n3 by omega] at this))
                          go_wp2
                          go_round
                          case rel => exact ⟨x + 1, by omega, by go_num, HU.out, hbx.trans (hkq.mono hszx)⟩
                          case measure => (simp [intOf]; omega)
        · have HOP := Lib.hid (onP_of (nv := nv) HUP.out HMEM.out (by have := HUPX.out; rwa [show x = hs.length by rw [HNH.out]; omega] at this))
          go_wp2
          go_ret
          exact ⟨says_true HOP.out, hbwx⟩

end Go.Proofs.Ytgcjknibelfjbaa
