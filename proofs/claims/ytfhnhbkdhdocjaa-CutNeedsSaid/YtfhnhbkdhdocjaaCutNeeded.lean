/-
  codemasonref.Needed (T1): the smallest sets of what is needed.
-/
import Derived.Test.YtfhnhbkdhdocjaaCutNeed
import Derived.Test.YtfhnhbkdhdocjaaMRuleR
namespace Go.Proofs.Ytfhnhbkdhdocjaa
open Go.RowKit
set_option linter.unusedSimpArgs false
set_option linter.unusedVariables false
set_option maxRecDepth 100000

theorem boolS_app : AppTy Try.prog 71 76 1 24 := appTy_of (z := .slice none 0 0) Try.underlying71 (by kernel_rfl) rfl (by omega)

theorem boolN_info : (Try.prog.info? 4).map (fun i => (i.zero, i.size, i.bytes)) = some (some (.bool false), 1, 1) := by kernel_rfl

theorem offW_eq {base c : Nat} {A : Option Addr} {ms : List (List Bool)} {bs : List Nat} {w : World} (h : MkO base A c ms bs w) : offW bs w = offS ms := h.off

/-- all steps of the blocks below i are done -/
theorem NdP.rowEnd {p : List Bk} {want m0 t i cl : Nat} {ms : List (List Bool)} {more : Bool} {DT : Nat → Nat → Prop} {b : Bk} (h : NdP p want m0 ms t more (fun a l => a < i ∨ (a = i ∧ l < cl)) DT) (hb : p[i]? = some b) (hcl : b.code.length = cl) : NdP p want m0 ms t more (fun a _ => a < i + 1) DT :=
  ⟨h.nd, fun hm a l b' s hd hb' hs hl => by
    rcases Nat.lt_or_ge a i with h1 | h1
    · exact h.ss hm a l b' s (.inl h1) hb' hs hl
    · have : a = i := by omega
      subst this
      rw [hb] at hb'
      injection hb' with hb'
      subst hb'
      exact h.ss hm a l b s (.inr ⟨rfl, by rw [← hcl]; exact (List.getElem?_eq_some_iff.1 hs).1⟩) hb hs hl, h.tt, h.le, h.lt⟩

/-- what Needed answers -/
def NdTo (p : List Bk) (want : Nat) (w : World) (e : Ending) (w' : World) : Prop :=
  ∃ (A : Option Addr) (c t : Nat) (ms : List (List Bool)), e = .returned (.tuple #[.slice A p.length c, .int .u32 (t : Int)]) ∧ NdS p want ms t ∧ Ndd p want (mkS ms) (mkT t) ∧ RdM2 w' w'.heap.size A ms ∧ Below w.heap.size w w'

set_option maxHeartbeats 16000000 in
theorem refNeeded_any (n want : Nat) (A : Option Addr) (len cap : Nat) (p : List Bk) (w : World) (hx : RdP w w.heap.size A p) (hl : p.length = len) (hc : ckProg n p = 0) (hw : want < 4294967296) :
    Calls Try.prog 42 #[.slice A len cap, .int .u32 (want : Nat)] w fun e w' => NdTo p want w e w' := by
  obtain ⟨b1, b2, b3, b4, b5, _⟩ := ckProg_bd hc
  have HC := Lib.hid hc
  have HL := Lib.hid hl
  have HWAY := Lib.hid (nxP_way hc)
  rw [hl] at b3 b4
  obtain ⟨fS, hfS⟩ := sure_bool (nxP p)
  obtain ⟨gB, hgB⟩ := hang_bool (nxP p)
  have HFS := Lib.hid hfS
  have HGB := Lib.hid hgB
  have HX := Lib.hid hx
  have HRP := Lib.hid (fun (Z : World) (hZ : Below w.heap.size w Z) => (RdP.below hx hZ (Nat.le_refl _)).more hZ.size)
  have HNX := Lib.hid (refNexts_any A len cap p w hx hl b4)
  have hmk := fun (m : Nat) (hm : m ≤ 65536) => make_bools (P := Try.prog) 76 4 Try.underlying76 boolN_info m hm
  have HMK := Lib.hid hmk
  have HCL20 : Hid (∀ (i : Nat) (b : Bk), p[i]? = some b → b.code.length ≤ 20) := Lib.hid fun i b hb => by have := manyS_le hb; omega
  clear hx hl hc hmk hfS hgB
  go_enter Try.func42, Try.ntmps42
  go_wp2_with (go_at_call 50; (with_reducible refine HNX.out.mono ?_); rintro e w1 ⟨NA, nc, rfl, hrg, hb1⟩)
  have HRG := Lib.hid (fun (Z : World) (hZ : Below w1.heap.size w1 Z) => (RdG.below hrg hZ (Nat.le_refl _)).more hZ.size)
  have HB1 := Lib.hid hb1
  have HP1 := Lib.hid (fun (Z : World) (hZ : Below w1.heap.size w1 Z) => HRP.out Z (below_via HB1.out hZ))
  obtain ⟨base, hbase⟩ : ∃ base, w1.heap.size = base := ⟨_, rfl⟩
  have HBS := Lib.hid hbase
  clear hrg hb1 hbase
  go_loopw [7, 24] (fun s i wr => ∃ (k : Nat) (SA : Option Addr) (sc0 : Nat) (ms : List (List Bool)) (bs : List Nat), k ≤ len ∧ i = .int .i64 k ∧ s = .slice SA k sc0 ∧ Hid (ms = (p.take k).map fun b => List.replicate b.code.length false) ∧ Hid (ms.length = k) ∧ Hid (MkO base SA sc0 ms bs wr) ∧ Hid (Below w1.heap.size w1 wr)) (fun _ i _ => len - (intOf i).toNat)
  case atStart => exact ⟨0, none, 0, [], [], Nat.zero_le _, rfl, rfl, Lib.hid rfl, Lib.hid rfl, Lib.hid (MkO.nil _ _), Lib.hid (Below.refl _ _)⟩
  case round =>
    obtain ⟨k, SA, sc0, ms, bs, hk, rfl, rfl, HMS, HML, HMO, HB⟩ := hrel
    have hsz := HB.out.size
    by_cases hlt : k < len
    · obtain ⟨ad, b, Ac, cc, rfl, hbl, hd, _, hc0, hc1, hc2, hc3⟩ := (HP1.out wr HB.out).at_ (k := k) (by rw [HL.out]; exact hlt)
      have HD := Lib.hid hd
      have h20 := HCL20.out k b hd
      obtain ⟨code, te, th, el⟩ := b
      simp only [] at hc0 hc1 hc2 hc3 h20
      obtain ⟨cl, hcl⟩ : ∃ cl, code.length = cl := ⟨_, rfl⟩
      have HCL := Lib.hid hcl
      rw [hcl] at hc0 h20
      have hmk := HMK.out cl (by omega)
      have h63 : k + 1 ≤ maxLen := by unfold maxLen; omega
      have hbig : (k + 1) * 24 ≤ 140737488355328 := by omega
      have HBB : Hid (base ≤ wr.heap.size) := Lib.hid (by have := HBS.out; omega)
      clear hd hcl
      go_wp2_with (at_builtin; refine wpList_app' rfl (.tmp 28) (.tmp 33) 71 rfl base 76 1 24 boolS_app (mkV ms bs) rfl (own_below (by have := HMO.out.arr; rw [HML.out] at this; exact this) (by go_grown)) [.slice (some ⟨wr.heap.size + 1, 0, none⟩) cl cl] rfl rfl (fun h => by cases h) (cells_at (by simp) _ _) (by intro u hu; simp at hu; subst hu; rfl) h63 hbig (by have := HBB.out; simp; omega) ?_; intro A3 c3 w3 hown3 hg3 hb3 hbl3)
      go_round
      case rel =>
        refine ⟨k + 1, A3, c3, ms ++ [List.replicate cl false], bs ++ [wr.heap.size + 1], by omega, by go_num, rfl, Lib.hid ?_, Lib.hid (by simp [HML.out]), Lib.hid ?_, Lib.hid ?_⟩
        · rw [List.take_add_one, HD.out, Option.toList_some, List.map_append, ← HMS.out]
          simp [HCL.out]
        · refine HMO.out.add (g := wr.heap.size + 1) (r := List.replicate cl false) (Y := ((wr.alloc (.cells #[.slice Ac cl cc, .int .i64 te, .int .i64 th, .int .i64 el] 79)).alloc (.cells (bv (List.replicate cl false)).toArray 4)).alloc (.cells #[.slice (some ⟨wr.heap.size + 1, 0, none⟩) cl cl] 76)) (by go_grown) (Own.alloc (by simpa using Own.new (wr.alloc (.cells #[.slice Ac cl cc, .int .i64 te, .int .i64 th, .int .i64 el] 79)) 4 (bv (List.replicate cl false))) _) (by omega) HBB.out (by rw [HML.out]; simpa using hown3) (by rw [HML.out]; exact hg3) (by rw [HML.out]; exact hbl3)
        · have hb3' : Below w1.heap.size _ w3 := hb3.mono (Nat.le_of_eq HBS.out)
          exact HB.out.trans ((by go_grown : Below w1.heap.size wr _).trans hb3')
      case measure => (simp [intOf]; omega)
    · have hkl : k = len := by omega
      subst hkl
      have HND0 : Hid (NdS p want ms 0) := Lib.hid (by
        have e := HMS.out
        rw [List.take_of_length_le (by rw [HL.out]; exact Nat.le_refl _)] at e
        rw [e]
        exact NdS.start p want)
      have HB0 := HB
      have HMO0 := HMO
      obtain ⟨wo, rfl⟩ : ∃ wo : World, wo = wr := ⟨_, rfl⟩
      obtain ⟨ms0, rfl⟩ : ∃ ms0 : List (List Bool), ms0 = ms := ⟨_, rfl⟩
      clear HMS HML HMO HB hsz
      go_wp2_with fail
      go_loopw [10] (fun s wr => ∃ (t : Nat) (ms : List (List Bool)), s = .int .u32 t ∧ Hid (NdS p want ms t) ∧ Hid (MkO base SA sc0 ms bs wr) ∧ Hid (Below w1.heap.size w1 wr)) (fun s wr => offW bs wr + fvW (intOf s).toNat k)
      case atStart => exact ⟨0, ms0, rfl, HND0, HMO0, HB0⟩
      case round =>
        obtain ⟨t0, ms1, rfl, HND, HMO, HB⟩ := hrel
        have HP0 : Hid (NdP p want (offS ms1 + fvW t0 p.length) ms1 t0 false (fun a _ => a < 0) (fun a _ => a < 0)) := Lib.hid (NdP.start HND.out (fun i k => by omega) (fun i j => by omega))
        have HM0 : Hid (offW bs wr + fvW t0 k = offS ms1 + fvW t0 p.length) := Lib.hid (by rw [offW_eq HMO.out, HL.out])
        obtain ⟨m0, hm0⟩ : ∃ m0, offS ms1 + fvW t0 p.length = m0 := ⟨_, rfl⟩
        rw [hm0] at HP0 HM0
        have HMO1 := HMO
        have HB1' := HB
        obtain ⟨wq, rfl⟩ : ∃ wq : World, wq = wr := ⟨_, rfl⟩
        clear HND HMO HB hm0
        go_wp2_with fail
        go_loopw [10, 11, 38] (fun s m i wr => ∃ (j t : Nat) (more : Bool) (ms : List (List Bool)), j ≤ k ∧ i = .int .i64 j ∧ s = .int .u32 t ∧ m = .bool more ∧ Hid (NdP p want m0 ms t more (fun a _ => a < j) (fun a _ => a < j)) ∧ Hid (MkO base SA sc0 ms bs wr) ∧ Hid (Below w1.heap.size w1 wr)) (fun _ _ i _ => k - (intOf i).toNat)
        case atStart => exact ⟨0, t0, false, ms1, Nat.zero_le _, rfl, rfl, rfl, HP0, HMO1, HB1'⟩
        case round =>
          obtain ⟨i, t, more, ms, hi, rfl, rfl, rfl, HP, HMO, HB⟩ := hrel
          by_cases hlt : i < k
          · obtain ⟨ad, b, Ac, cc, hA, hbl, hd, hrs, hc0, hc1, hc2, hc3⟩ := HX.out.at_ (k := i) (by rw [HL.out]; exact hlt)
            have HBW := Lib.hid (below_via HB1.out HB.out)
            have HD := Lib.hid hd
            have h20 := HCL20.out i b hd
            have HBK := Lib.hid (ckProg_at HC.out hd)
            have HCODE := Lib.hid (ckProg_at HC.out hd).code
            obtain ⟨code, te, th, el⟩ := b
            simp only [] at hc0 hc1 hc2 hc3 h20 hrs
            have hcode : ckStepsF n n code = 0 := HCODE.out
            have HCD := Lib.hid hcode
            obtain ⟨cl, hcl⟩ : ∃ cl, code.length = cl := ⟨_, rfl⟩
            have HCL := Lib.hid hcl
            rw [hcl] at hc0 h20
            have HRS := Lib.hid (fun (Z : World) (hZ : Below w.heap.size w Z) => (RdS.below hrs hZ (Nat.le_refl _)).more hZ.size)
            have d0 := (HBW.out.cell hbl).trans hc0
            have d1 := (HBW.out.cell (p := ⟨(ad.add (i * 4)).block, (ad.add (i * 4)).off + 1, none⟩) hbl).trans hc1
            have d2 := (HBW.out.cell (p := ⟨(ad.add (i * 4)).block, (ad.add (i * 4)).off + 2, none⟩) hbl).trans hc2
            have d3 := (HBW.out.cell (p := ⟨(ad.add (i * 4)).block, (ad.add (i * 4)).off + 3, none⟩) hbl).trans hc3
            have hblw : (ad.add (i * 4)).block < wr.heap.size := by have := HBW.out.size; omega
            have HOX : Hid (Own (wr.alloc (.cells #[.slice Ac cl cc, .int .i64 te, .int .i64 th, .int .i64 el] 79)) wr.heap.size 79 [.slice Ac cl cc, .int .i64 te, .int .i64 th, .int .i64 el]) := Lib.hid (Own.new wr _ _)
            have HBX : Hid (Below wr.heap.size wr (wr.alloc (.cells #[.slice Ac cl cc, .int .i64 te, .int .i64 th, .int .i64 el] 79))) := Lib.hid (by go_grown)
            have HMX := Lib.hid (HMO.out.below HBX.out)
            have hwsz : w1.heap.size ≤ wr.heap.size := HB.out.size
            have HBX1 := Lib.hid (below_via HB.out HBX.out)
            have HPS : Hid (NdP p want m0 ms t more (fun a l => a < i ∨ (a = i ∧ l < 0)) (fun a _ => a < i)) := Lib.hid (HP.out.wide (fun a l h => by omega) fun a c h => h)
            obtain ⟨g0, hg0⟩ : ∃ g0, wr.heap.size = g0 := ⟨_, rfl⟩
            have HG0 := Lib.hid hg0
            have HBSL : Hid (∀ (j b : Nat), bs[j]? = some b → b < g0) := Lib.hid fun j b hj => by
              have hjl := (List.getElem?_eq_some_iff.1 hj).1
              rw [HMO.out.len] at hjl
              rw [← hg0]
              exact (HMO.out.row j b _ hj (List.getElem?_eq_getElem hjl)).1.lt
            obtain ⟨wo, rfl⟩ : ∃ wo : World, wo = wr := ⟨_, rfl⟩
            obtain ⟨mo, rfl⟩ : ∃ mo : Bool, mo = more := ⟨_, rfl⟩
            obtain ⟨mz, rfl⟩ : ∃ mz : List (List Bool), mz = ms := ⟨_, rfl⟩
            subst hA
            clear hd hrs hc0 hc1 hc2 hc3 hcode hcl HP HMO HB
            go_wp2_with fail
            clear d0 d1 d2 d3 hblw
            rw [hg0] at HOX
            (try simp only [hg0])
            clear hg0
            go_loopw [11, 46] (fun m z wr => ∃ (q : Nat) (more : Bool) (ms : List (List Bool)), q ≤ cl ∧ z = .int .i64 q ∧ m = .bool more ∧ Hid (NdP p want m0 ms t more (fun a l => a < i ∨ (a = i ∧ l < q)) (fun a _ => a < i)) ∧ Hid (MkO base SA sc0 ms bs wr) ∧ Hid (Below w1.heap.size w1 wr) ∧ Hid (Own wr g0 79 [.slice Ac cl cc, .int .i64 te, .int .i64 th, .int .i64 el])) (fun _ z _ => cl - (intOf z).toNat)
            case atStart => exact ⟨0, mo, mz, Nat.zero_le _, rfl, rfl, HPS, HMX, HBX1, HOX⟩
            case round =>
              obtain ⟨q, more, ms, hq, rfl, rfl, HP, HMO, HB, HO⟩ := hrel
              have HBW2 := Lib.hid (below_via HB1.out HB.out)
              by_cases hqt : q < cl
              · obtain ⟨ad3, o, tt, a2, b2, vv, rfl, hbl3, hd3, e0, e1, e2, e3, e4⟩ := (HRS.out wr HBW2.out).at_ (k := q) (by rw [HCL.out]; exact hqt)
                have hcks := ckStepsF_at HCD.out hd3
                simp only [] at hcks
                obtain ⟨⟨t0', t1'⟩, _⟩ := ckStep_cases hcks
                obtain ⟨tn, rfl⟩ := Int.eq_ofNat_of_zero_le t0'
                have htn : tn < n := by omega
                have HD3 := Lib.hid hd3
                have hmsl : ms.length = k := by rw [HP.out.nd.sl, HL.out]
                obtain ⟨r, hr⟩ : ∃ r, ms[i]? = some r := ⟨_, List.getElem?_eq_getElem (by omega)⟩
                have hrl : r.length = cl := by rw [HP.out.nd.rl i _ r HD.out hr]; exact HCL.out
                obtain ⟨sad, rb, rfl, hrb, hsbl, hsc, hor, hrbb⟩ := HMO.out.at_ hr
                rw [hrl] at hsc
                obtain ⟨mk, hmk⟩ : ∃ mk, r[q]? = some mk := ⟨_, List.getElem?_eq_getElem (by omega)⟩
                have hmc := hor.cell (bv_at hmk)
                have hrbl := hor.lt
                have hrg : rb < g0 := HBSL.out i rb hrb
                have HR := Lib.hid hr
                have HRB := Lib.hid hrb
                have HMK2 := Lib.hid hmk
                have HRBB := Lib.hid hrbb
                have HMARK : Hid (mkS ms i q ↔ mk = true) := Lib.hid (by
                  unfold mkS
                  have e1 : ms.getD i [] = r := by rw [List.getD_eq_getElem?_getD, hr]; rfl
                  rw [e1, List.getD_eq_getElem?_getD, hmk, Option.getD_some])
                have HBV : Hid (Below wr.heap.size wr (wr.alloc (.cells #[.int .i64 o, .int .i64 (tn : Int), .int .i64 a2, .int .i64 b2, .int .i64 vv] 87))) := Lib.hid (by go_grown)
                clear hd3 hcks hr hrb hmk hrbb hmsl hrl t0' t1'
                cases mk with
                | true =>
                  clear hor
                  go_wp2
                  go_round
                  case rel => exact ⟨q + 1, more, ms, by omega, by go_num, rfl, Lib.hid (HP.out.okS HD.out HD3.out (.inl (HMARK.out.2 rfl)) fun j l h => by omega), Lib.hid (HMO.out.below HBV.out), Lib.hid (below_via HB.out HBV.out), Lib.hid (HO.out.below HBV.out HO.out.lt)⟩
                  case measure => (simp [intOf]; omega)
                | false =>
                  obtain ⟨T, hT⟩ := lvM_bool p want (mkS ms) (mkT t) tn (i, q + 1)
                  have HT := Lib.hid hT
                  have HNE := Lib.hid (fun (Z : World) (hZ : Below wr.heap.size wr Z) => (show Calls Try.prog 73 #[.slice (some ad) k cap, .int .u32 (want : Nat), .slice (some sad) k sc0, .int .u32 (t : Nat), .int .i64 (tn : Int), .agg #[.int .i64 (i : Int), .int .i64 ((q : Int) + 1)]] Z fun e w' => e = .returned (.bool T) ∧ Below Z.heap.size Z w' from
                    refNeeds_any T n want t tn (some ad) (some sad) k cap sc0 p ms i (q + 1) Z (HRP.out Z (below_via HBW2.out hZ)) HL.out HC.out hw htn ⟨_, HD.out, by show q + 1 ≤ code.length; rw [HCL.out]; omega⟩ (HMO.out.below hZ).rd (by rw [HP.out.nd.sl, HL.out]) (fun j b' r' h1 h2 => HP.out.nd.rl j b' r' h1 h2) (by have := HP.out.nd.t8 (by rw [HL.out]; omega); omega) hT))
                  clear hT
                  cases T with
                  | false =>
                    clear hor
                    go_wp2_with (go_at_call 73; (refine (HNE.out _ HBV.out).mono ?_); rintro e w5 ⟨rfl, hb5⟩; have HB5 := Lib.hid (below_via HBV.out hb5); clear hb5)
                    go_round
                    case rel => exact ⟨q + 1, more, ms, by omega, by go_num, rfl, Lib.hid (HP.out.okS HD.out HD3.out (.inr fun h => by have := HT.out.2 h; cases this) fun j l h => by omega), Lib.hid (HMO.out.below HB5.out), Lib.hid (below_via HB.out HB5.out), Lib.hid (HO.out.below HB5.out HO.out.lt)⟩
                    case measure => (simp [intOf]; omega)
                  | true =>
                    have HOR := Lib.hid hor
                    clear hor
                    go_wp2_with (go_at_call 73; (refine (HNE.out _ HBV.out).mono ?_); rintro e w5 ⟨rfl, hb5⟩; have HB5 := Lib.hid (below_via HBV.out hb5); have x0 := (HB5.out.cell hsbl).trans hsc; have x1 := (HB5.out.cell (p := ⟨rb, q, none⟩) hrbl).trans hmc; have x2 := (HOR.out.below HB5.out hrbl).frozen q; have x3 : (sad.add i).block < w5.heap.size := Nat.lt_of_lt_of_le hsbl HB5.out.size; have x4 : rb < w5.heap.size := Nat.lt_of_lt_of_le hrbl HB5.out.size; clear hb5)
                    go_round
                    case rel => exact ⟨q + 1, true, ms.set i (r.set q true), by omega, by go_num, rfl, Lib.hid (HP.out.setS HD.out HD3.out HR.out HMK2.out (HT.out.1 (by simp))), Lib.hid ((HMO.out.below HB5.out).set HRB.out HR.out true), Lib.hid ((below_via HB.out HB5.out).setCell (p := ⟨rb, q, none⟩) (by rw [HBS.out]; exact HRBB.out) _), Lib.hid ((HO.out.below HB5.out HO.out.lt).far (p := ⟨rb, q, none⟩) (by show g0 ≠ rb; omega) _)⟩
                    case measure => (simp [intOf]; omega)
              · have hqc : q = cl := by omega
                subst hqc
                have HP2 : Hid (NdP p want m0 ms t more (fun a _ => a < i + 1) (fun a _ => a < i)) := Lib.hid (HP.out.rowEnd HD.out HCL.out)
                have HT8 : Hid (t < 4294967296) := Lib.hid (by have := HP.out.nd.t8 (by rw [HL.out]; omega); omega)
                have x1 := HO.out.cell (j := 1) rfl
                have hgl := HO.out.lt
                obtain ⟨tb, htb⟩ : ∃ tb, t.testBit i = tb := ⟨_, rfl⟩
                have HBB : Hid (bitB t (i : Int) = tb) := Lib.hid (by rw [bitB_small (by omega), htb])
                have HTB := Lib.hid htb
                have HTE : Hid (te = -1 ∨ (0 ≤ te ∧ te < (n : Int))) := Lib.hid HBK.out.test
                clear htb
                by_cases hte : te < 0
                · go_wp2
                  go_round
                  case rel => exact ⟨i + 1, t, more, ms, by omega, by go_num, rfl, rfl, Lib.hid (HP2.out.okB HD.out (.inl hte) fun a c h => by omega), HMO, HB⟩
                  case measure => (simp [intOf]; omega)
                · cases tb with
                  | true =>
                    go_wp2_with (go_at_call 19; (with_reducible refine (bit_any t _ _ HT8.out).mono ?_); rw [HBB.out]; rintro e w6 ⟨rfl, rfl⟩)
                    go_round
                    case rel => exact ⟨i + 1, t, more, ms, by omega, by go_num, rfl, rfl, Lib.hid (HP2.out.okB HD.out (.inr HTB.out) fun a c h => by omega), HMO, HB⟩
                    case measure => (simp [intOf]; omega)
                  | false =>
                    have HTE0 : Hid (0 ≤ te) := Lib.hid (by omega)
                    have HPT : Hid (NdP p want m0 ms t more (fun a _ => a < i + 1) (fun a c => a < i ∨ (a = i ∧ c < 0))) := Lib.hid (HP2.out.wide (fun a l h => h) fun a c h => by omega)
                    obtain ⟨wx, rfl⟩ : ∃ wx : World, wx = wr := ⟨_, rfl⟩
                    obtain ⟨mx, rfl⟩ : ∃ mx : Bool, mx = more := ⟨_, rfl⟩
                    obtain ⟨tx, rfl⟩ : ∃ tx : Nat, tx = t := ⟨_, rfl⟩
                    have HMOX := HMO
                    have HBX2 := HB
                    clear HP HP2 HMO HB HO HTB hgl
                    go_wp2_with (go_at_call 19; (with_reducible refine (bit_any tx _ _ HT8.out).mono ?_); rw [HBB.out]; rintro e w6 ⟨rfl, rfl⟩)
                    clear x1 HBB HT8 HBW2
                    go_loopw [10, 11, 16] (fun s m z wr => ∃ (j t : Nat) (more : Bool), j ≤ k ∧ z = .int .i64 j ∧ s = .int .u32 t ∧ m = .bool more ∧ Hid (NdP p want m0 ms t more (fun a _ => a < i + 1) (fun a c => a < i ∨ (a = i ∧ c < j))) ∧ Hid (MkO base SA sc0 ms bs wr) ∧ Hid (Below w1.heap.size w1 wr)) (fun _ _ z _ => k - (intOf z).toNat)
                    case atStart => exact ⟨0, tx, mx, Nat.zero_le _, rfl, rfl, rfl, HPT, HMOX, HBX2⟩
                    case round =>
                      obtain ⟨j, t, more, hj, rfl, rfl, rfl, HP, HMO, HB⟩ := hrel
                      by_cases hjt : j < k
                      · have HHG := Lib.hid (refHangs_any fS gB NA k nc (nxP p) i j wr HFS.out HGB.out (HRG.out wr HB.out) (by unfold nxP; rw [List.length_map]; exact HL.out) HWAY.out hlt)
                        have HGI := HGB.out i j
                        obtain ⟨hb, hhb⟩ : ∃ hb, gB i j = hb := ⟨_, rfl⟩
                        rw [hhb] at HHG HGI
                        have HGI' := Lib.hid HGI
                        clear HGI hhb
                        cases hb with
                        | false =>
                          go_wp2_with (go_at_call 74; (refine HHG.out.mono ?_); rintro e w5 ⟨rfl, hb5⟩; have HB5 := Lib.hid hb5; clear hb5)
                          go_round
                          case rel => exact ⟨j + 1, t, more, by omega, by go_num, rfl, rfl, Lib.hid (HP.out.okT (i := i) (j := j) (.inr (.inl fun h => by have := HGI'.out.2 h; cases this)) fun a c h => by omega), Lib.hid (HMO.out.below HB5.out), Lib.hid (below_via HB.out HB5.out)⟩
                          case measure => (simp [intOf]; omega)
                        | true =>
                          have HHA : Hid (HangP (nxP p) i j) := Lib.hid (HGI'.out.1 (by simp))
                          have hmsl : ms.length = k := by rw [HP.out.nd.sl, HL.out]
                          have ht8 : t < 4294967296 := by have := HP.out.nd.t8 (by rw [HL.out]; omega); omega
                          obtain ⟨tj, htj⟩ : ∃ tj, t.testBit j = tj := ⟨_, rfl⟩
                          obtain ⟨ti, hti⟩ : ∃ ti, t.testBit i = ti := ⟨_, rfl⟩
                          have HBJ : Hid (bitB t (j : Int) = tj) := Lib.hid (by rw [bitB_small (by omega), htj])
                          have HBI : Hid (bitB t (i : Int) = ti) := Lib.hid (by rw [bitB_small (by omega), hti])
                          have HT8 := Lib.hid ht8
                          have HTJ := Lib.hid htj
                          have HTI := Lib.hid hti
                          have hp := pow_u32' (v := i) (by omega)
                          have hor : bits .or .u32 (t : Int) ((2 : Int) ^ i % 4294967296) = ((t ||| 2 ^ i : Nat) : Int) := by rw [hp]; exact u32_or_nat _ _ ht8 (pow_lt_32 (by omega))
                          have HOR := Lib.hid hor
                          obtain ⟨r, hr⟩ : ∃ r, ms[j]? = some r := ⟨_, List.getElem?_eq_getElem (by omega)⟩
                          obtain ⟨rl, hrl⟩ : ∃ rl, r.length = rl := ⟨_, rfl⟩
                          have HR := Lib.hid hr
                          have HRL := Lib.hid hrl
                          have hat := HMO.out.at_ hr
                          rw [hrl] at hat
                          have HRI : Hid (r.length ≤ 20) := Lib.hid (by
                            obtain ⟨b', hb'⟩ : ∃ b', p[j]? = some b' := ⟨_, List.getElem?_eq_getElem (by rw [HL.out]; exact hjt)⟩
                            rw [HP.out.nd.rl j b' r hb' hr]
                            exact HCL20.out j b' hb')
                          have h20r := HRI.out
                          rw [hrl] at h20r
                          have HMKS : Hid (∀ l, mkS ms j l ↔ r[l]? = some true) := Lib.hid fun l => by
                            unfold mkS
                            have e1 : ms.getD j [] = r := by rw [List.getD_eq_getElem?_getD, hr]; rfl
                            rw [e1, List.getD_eq_getElem?_getD]
                            cases r[l]? <;> simp
                          obtain ⟨sad, rb, rfl, hrb, hsbl, hsc, hown, hrbb⟩ := hat
                          have HOWN := Lib.hid hown
                          clear hr hrl hmsl htj hti hp hor hown hrbb hrb ht8
                          go_wp2_with (first
                            | (go_at_call 74; (refine HHG.out.mono ?_); rintro e w5 ⟨rfl, hb5⟩; have HB5 := Lib.hid hb5; have x0 := (HB5.out.cell hsbl).trans hsc; have x1 : (sad.add j).block < w5.heap.size := Nat.lt_of_lt_of_le hsbl HB5.out.size; have HOW5 := Lib.hid (HOWN.out.below HB5.out HOWN.out.lt); clear hb5 hsc hsbl)
                            | (go_at_call 19; (with_reducible refine (bit_any t (j : Int) _ HT8.out).mono ?_); rw [HBJ.out]; rintro e w6 ⟨rfl, rfl⟩))
                          go_loopw [17, 106] (fun z q w6 => ∃ (c : Nat) (bb : Bool), c ≤ rl ∧ q = .int .i64 c ∧ z = .bool bb ∧ Hid (bb = true ↔ (tj = true ∨ ∃ l, l < c ∧ r[l]? = some true)) ∧ Hid (Below w5.heap.size w5 w6)) (fun _ q _ => rl - (intOf q).toNat)
                          case atStart => exact ⟨0, tj, Nat.zero_le _, rfl, rfl, Lib.hid ⟨.inl, fun h => h.elim id fun ⟨l, h1, _⟩ => by omega⟩, Lib.hid (Below.refl _ _)⟩
                          case round =>
                            obtain ⟨c, bb, hc, rfl, rfl, HIS, HB6⟩ := hrel
                            by_cases hct : c < rl
                            · obtain ⟨mk, hmk⟩ : ∃ mk, r[c]? = some mk := ⟨_, List.getElem?_eq_getElem (by rw [HRL.out]; exact hct)⟩
                              have hmc := (HOW5.out.below HB6.out HOW5.out.lt).cell (bv_at hmk)
                              have hrbl := (HOW5.out.below HB6.out HOW5.out.lt).lt
                              have HIS2 : Hid ((bb || mk) = true ↔ (tj = true ∨ ∃ l, l < c + 1 ∧ r[l]? = some true)) := Lib.hid (by
                                rw [Bool.or_eq_true, HIS.out]
                                constructor
                                · rintro ((h | ⟨l, h1, h2⟩) | h)
                                  · exact .inl h
                                  · exact .inr ⟨l, by omega, h2⟩
                                  · exact .inr ⟨c, by omega, by rw [hmk, h]⟩
                                · rintro (h | ⟨l, h1, h2⟩)
                                  · exact .inl (.inl h)
                                  · rcases Nat.lt_or_ge l c with h3 | h3
                                    · exact .inl (.inr ⟨l, h3, h2⟩)
                                    · have : l = c := by omega
                                      subst this
                                      rw [hmk] at h2
                                      injection h2 with h2
                                      exact .inr h2)
                              clear hmk HIS
                              cases bb
                              · go_wp2
                                go_round
                                case rel => exact ⟨c + 1, false || mk, by omega, by go_num, by simp, HIS2, HB6⟩
                                case measure => (simp [intOf]; omega)
                              · go_wp2
                                go_round
                                case rel => exact ⟨c + 1, true || mk, by omega, by go_num, by simp, HIS2, HB6⟩
                                case measure => (simp [intOf]; omega)
                            · have hcl2 : c = rl := by omega
                              subst hcl2
                              have HIS2 : Hid (bb = true ↔ (mkT t j ∨ ∃ l, mkS ms j l)) := Lib.hid (by
                                rw [HIS.out]
                                unfold mkT
                                rw [HTJ.out]
                                constructor
                                · rintro (h | ⟨l, _, h2⟩)
                                  · exact .inl h
                                  · exact .inr ⟨l, (HMKS.out l).2 h2⟩
                                · rintro (h | ⟨l, h⟩)
                                  · exact .inl h
                                  · have h2 := (HMKS.out l).1 h
                                    exact .inr ⟨l, by rw [← HRL.out]; exact (List.getElem?_eq_some_iff.1 h2).1, h2⟩)
                              have HM6 := Lib.hid ((HMO.out.below HB5.out).below HB6.out)
                              have HB7 := Lib.hid (below_via (below_via HB.out HB5.out) HB6.out)
                              clear HIS HHG
                              cases bb with
                              | false =>
                                go_wp2
                                go_round
                                case rel => exact ⟨j + 1, t, more, by omega, by go_num, rfl, rfl, Lib.hid (HP.out.okT (i := i) (j := j) (.inr (.inr fun h => by have := HIS2.out.2 h; simp at this)) fun a c h => by omega), HM6, HB7⟩
                                case measure => (simp [intOf]; omega)
                              | true =>
                                have HNE : Hid (mkT t j ∨ ∃ l, mkS ms j l) := Lib.hid (HIS2.out.1 (by simp))
                                cases ti with
                                | true =>
                                  go_wp2_with (go_at_call 19; (with_reducible refine (bit_any t (i : Int) _ HT8.out).mono ?_); rw [HBI.out]; rintro e w7 ⟨rfl, rfl⟩)
                                  go_round
                                  case rel => exact ⟨j + 1, t, more, by omega, by go_num, rfl, rfl, Lib.hid (HP.out.okT (i := i) (j := j) (.inl (by unfold mkT; exact HTI.out)) fun a c h => by omega), HM6, HB7⟩
                                  case measure => (simp [intOf]; omega)
                                | false =>
                                  go_wp2_with (go_at_call 19; (with_reducible refine (bit_any t (i : Int) _ HT8.out).mono ?_); rw [HBI.out]; rintro e w7 ⟨rfl, rfl⟩)
                                  go_round
                                  case rel => exact ⟨j + 1, t ||| 2 ^ i, true, by omega, by go_num, by rw [← HOR.out], rfl, Lib.hid (HP.out.setT HD.out HTE0.out HHA.out HNE.out (by unfold mkT; rw [HTI.out]; simp)), HM6, HB7⟩
                                  case measure => (simp [intOf]; omega)
                      · have hjk : j = k := by omega
                        subst hjk
                        have HPW : Hid (NdP p want m0 ms t more (fun a _ => a < i + 1) (fun a _ => a < i + 1)) := Lib.hid
                          ⟨HP.out.nd, HP.out.ss, fun hm a c b' hd hb' ht hh hx => HP.out.tt hm a c b' (by
                            have h1 := hh.lt HWAY.out
                            have h2 : (nxP p).length = j := by unfold nxP; rw [List.length_map]; exact HL.out
                            omega) hb' ht hh hx, HP.out.le, HP.out.lt⟩
                        go_wp2
                        go_round
                        case rel => exact ⟨i + 1, t, more, ms, by omega, by go_num, rfl, rfl, HPW, HMO, HB⟩
                        case measure => (simp [intOf]; omega)
          · have hik : i = k := by omega
            subst hik
            cases more with
            | false =>
              have HDN : Hid (Ndd p want (mkS ms) (mkT t)) := Lib.hid (HP.out.done HWAY.out (fun a l b s hb _ => by have := (List.getElem?_eq_some_iff.1 hb).1; have := HL.out; omega) fun a c ha _ => by have := HL.out; omega)
              have HNS := Lib.hid HP.out.nd
              have HRD := Lib.hid HMO.out.rd
              have HMLN : Hid (ms.length = i) := Lib.hid (by rw [HP.out.nd.sl, HL.out])
              go_wp2
              go_returns
              exact ⟨SA, sc0, t, ms, by rw [HL.out]; rfl, HNS.out, HDN.out, HRD.out, below_via HB1.out HB.out⟩
            | true =>
              have hmea : offW bs wr + fvW t i < m0 := by
                have := HP.out.lt rfl
                rw [HL.out] at this
                rw [offW_eq HMO.out]
                exact this
              have HMEA := Lib.hid hmea
              have HNS := Lib.hid HP.out.nd
              clear hmea
              go_wp2
              go_round
              case rel => exact ⟨t, ms, rfl, HNS, HMO, HB⟩
              case measure =>
                have h1 := HM0.out
                have h2 := HMEA.out
                simp [intOf]
                omega

end Go.Proofs.Ytfhnhbkdhdocjaa
