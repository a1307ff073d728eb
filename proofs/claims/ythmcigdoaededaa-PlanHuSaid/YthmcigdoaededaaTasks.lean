/-
  codemasonref.TasksCheck (Q1).
-/
import Derived.Test.YthmcigdoaededaaPlanPure
import Derived.Test.YthmcigdoaededaaHasC
import Derived.Test.YthmcigdoaededaaMBase
namespace Go.Proofs.Ythmcigdoaededaa
open Go.RowKit
set_option linter.unusedSimpArgs false
set_option linter.unusedVariables false
set_option maxRecDepth 100000

def sizesK (n : Int) (l : List (Int × Int)) : Prop := 1 ≤ n ∧ n ≤ 8 ∧ l.length ≤ 28

/-- the code of tasks -/
inductive TkCode (n : Int) (l : List (Int × Int)) : Int → Prop
  | large : ¬ sizesK n l → TkCode n l 1
  | arg : sizesK n l → allM n l = false → TkCode n l 2
  | form (m : Nat) (ps : List (Nat × Nat)) : n = m → l = mvI ps → 1 ≤ m → m ≤ 8 → ps.length ≤ 28 → (∀ p ∈ ps, p.1 < m ∧ p.2 < m) → Round m ps → TkCode n l 3
  | ok (m : Nat) (ps : List (Nat × Nat)) : n = m → l = mvI ps → TkOk m ps → TkCode n l 0

theorem mvI_inj {a b : List (Nat × Nat)} (h : mvI a = mvI b) : a = b := by
  apply List.ext_getElem?
  intro i
  have := congrArg (fun l => l[i]?) h
  simp only [mvI, List.getElem?_map] at this
  cases ha : a[i]? <;> cases hb : b[i]? <;> rw [ha, hb] at this <;> simp at this
  congr 1
  rename_i x y
  exact Prod.ext (by omega) (by omega)

theorem mvI_all {m : Nat} {ps : List (Nat × Nat)} (h : ∀ p ∈ ps, p.1 < m ∧ p.2 < m) : allM (m : Int) (mvI ps) = true := by
  unfold allM
  rw [List.all_eq_true]
  intro x hx
  obtain ⟨p, hp, rfl⟩ := List.mem_map.1 hx
  have := h p hp
  rw [inM_iff]
  simp
  omega

theorem TkCode.same {n : Int} {l : List (Int × Int)} {z z' : Int} (h : TkCode n l z) (h' : TkCode n l z') : z = z' := by
  have sz : ∀ {m : Nat} {ps : List (Nat × Nat)}, 1 ≤ m → m ≤ 8 → ps.length ≤ 28 → sizesK (m : Int) (mvI ps) := fun h1 h2 h3 => ⟨by omega, by omega, by rw [mvI_len]; exact h3⟩
  cases h with
  | large h1 =>
    cases h' with
    | large => rfl
    | arg h2 => exact absurd h2 h1
    | form m ps e1 e2 a1 a2 a3 => subst e1 e2; exact absurd (sz a1 a2 a3) h1
    | ok m ps e1 e2 a => subst e1 e2; exact absurd (sz a.pos a.small a.short) h1
  | arg h1 h2 =>
    cases h' with
    | large h3 => exact absurd h1 h3
    | arg => rfl
    | form m ps e1 e2 a1 a2 a3 a4 => subst e1 e2; rw [mvI_all a4] at h2; cases h2
    | ok m ps e1 e2 a => subst e1 e2; rw [mvI_all a.ins] at h2; cases h2
  | form m ps e1 e2 a1 a2 a3 a4 a5 =>
    cases h' with
    | large h3 => subst e1 e2; exact absurd (sz a1 a2 a3) h3
    | arg _ h3 => subst e1 e2; rw [mvI_all a4] at h3; cases h3
    | form => rfl
    | ok m' ps' f1 f2 b =>
      have hm : m = m' := by omega
      have hp : ps = ps' := mvI_inj (e2.symm.trans f2)
      subst hm hp
      exact absurd a5 b.open_
  | ok m ps e1 e2 a =>
    cases h' with
    | large h3 => subst e1 e2; exact absurd (sz a.pos a.small a.short) h3
    | arg _ h3 => subst e1 e2; rw [mvI_all a.ins] at h3; cases h3
    | ok => rfl
    | form m' ps' f1 f2 _ _ _ _ b5 =>
      have hm : m = m' := by omega
      have hp : ps = ps' := mvI_inj (e2.symm.trans f2)
      subst hm hp
      exact absurd b5 a.open_

theorem TkCode.zero {n : Int} {l : List (Int × Int)} (h : TkCode n l 0) : ∃ (m : Nat) (ps : List (Nat × Nat)), n = m ∧ l = mvI ps ∧ TkOk m ps := by
  cases h with
  | ok m ps h1 h2 h3 => exact ⟨m, ps, h1, h2, h3⟩

/-- no chain from below i closes -/
def NoR (n : Nat) (ps : List (Nat × Nat)) (i : Nat) : Prop := ∀ a b, a < i → (a, b) ∈ ps → ¬ Rea (bhG n ps) (-1) b a

set_option maxHeartbeats 8000000 in
theorem tasksCheck_any (n : Int) (A : Option Addr) (len cap : Nat) (l : List (Int × Int)) (w : World) (hx : RdM w w.heap.size A l) (hl : l.length = len) (hm : len ≤ maxLen) :
    Calls Try.prog 11 #[.int .i64 n, .slice A len cap] w fun e w' => (∃ z : Int, TkCode n l z ∧ e = .returned (.int .i64 z)) ∧ Below w.heap.size w w' := by
  unfold maxLen at hm
  by_cases hz : sizesK n l
  · have HZ := Lib.hid hz
    obtain ⟨h1, h8, hl8⟩ := hz
    rw [hl] at hl8
    have HL := Lib.hid hl
    have g1 : ¬ n < 1 := by omega
    have g2 : ¬ 8 < n := by omega
    have g3 : ¬ (28 : Int) < (len : Int) := by omega
    clear hl
    go_enter Try.func11, Try.ntmps11
    go_wp2
    go_loopw [24] (fun i wr => ∃ k : Nat, k ≤ len ∧ i = .int .i64 k ∧ Hid (allM n l = allM n (l.drop k)) ∧ Below w.heap.size w wr) (fun i _ => len - (intOf i).toNat)
    case atStart => exact ⟨0, Nat.zero_le _, rfl, Lib.hid rfl, Below.refl _ _⟩
    case round =>
      obtain ⟨k, hk, rfl, HR, hb⟩ := hrel
      have hsz := hb.size
      by_cases hlt : k < len
      · obtain ⟨ad, a, b, rfl, hbl, hd, hc0, hc1⟩ := RdM.at_ (hx.below hb (Nat.le_refl _)) (k := k) (by rw [HL.out]; exact hlt)
        have HD := Lib.hid (allM_drop (n := n) hd)
        clear hd
        have hin : inM n (a, b) = decide (0 ≤ a ∧ a < n ∧ 0 ≤ b ∧ b < n) := rfl
        by_cases he : inM n (a, b) = true
        · have HE := Lib.hid he
          rw [he] at hin
          have HIN := Lib.hid hin
          clear he hin
          go_wp2_with (go_at_call 25; (with_reducible refine (inside2_any n a b _ _ _ (by simp) (by simp)).mono ?_); rintro e w2 ⟨rfl, rfl⟩; rw [← HIN.out])
          go_round
          case rel => exact ⟨k + 1, by omega, by go_num, Lib.hid (by rw [HR.out, HD.out, HE.out, Bool.true_and]), hb.trans (by go_grown)⟩
          case measure => (simp [intOf]; omega)
        · have he2 : inM n (a, b) = false := by simpa using he
          have HE := Lib.hid he2
          rw [he2] at hin
          have HIN := Lib.hid hin
          clear he he2 hin
          go_wp2_with (go_at_call 25; (with_reducible refine (inside2_any n a b _ _ _ (by simp) (by simp)).mono ?_); rintro e w2 ⟨rfl, rfl⟩; rw [← HIN.out])
          go_ret
          exact ⟨⟨2, .arg HZ.out (by rw [HR.out, HD.out, HE.out, Bool.false_and]), rfl⟩, hb.trans (by go_grown)⟩
      · have hall : allM n l = true := by rw [HR.out, List.drop_of_length_le (by rw [HL.out]; omega)]; rfl
        obtain ⟨m, rfl⟩ : ∃ m : Nat, n = m := ⟨n.toNat, by omega⟩
        obtain ⟨ps, rfl, hins⟩ := allM_nat hall
        have HINS := Lib.hid hins
        have hpl : ps.length = len := by rw [← HL.out, mvI_len]
        have HPL := Lib.hid hpl
        have hxw := (hx.below hb (Nat.le_refl _)).more hb.size
        have HBH := Lib.hid (behinds_any m A len cap ps wr hxw hpl (by omega) (by omega) (by omega) hins)
        have HWAY := Lib.hid (bhG_way (n := m) (ps := ps) (by omega) (by omega) (by omega) hins)
        have HG : Hid (1 ≤ m ∧ m ≤ 8 ∧ ps.length ≤ 28) := Lib.hid ⟨by omega, by omega, by omega⟩
        have hm8 : m ≤ 8 := by omega
        clear hall hins hpl hxw
        obtain ⟨wo, rfl⟩ : ∃ wo : World, wo = wr := ⟨_, rfl⟩
        go_wp2_with fail
        refine HBH.out.mono ?_
        rintro e w1 ⟨cs, rfl, hro, hb1⟩
        have HRG := Lib.hid hro.rd
        have hs1 := hb1.size
        have hgl := hro.own.lt
        clear hro
        go_wp2
        go_loopw [8] (fun i wr => ∃ k : Nat, k ≤ m ∧ i = .int .i64 k ∧ Hid (NoR m ps k) ∧ Below w1.heap.size w1 wr) (fun i _ => m - (intOf i).toNat)
        case atStart => exact ⟨0, Nat.zero_le _, rfl, Lib.hid (fun a b ha => by omega), Below.refl _ _⟩
        case round =>
          obtain ⟨i, hi, rfl, HNR, hb2⟩ := hrel
          have hs2 := hb2.size
          by_cases hil : i < m
          · obtain ⟨ad, row, Ar, cr, he, hbl, hd, hcell, hrow⟩ := (HRG.out.below hb2 (Nat.le_refl _)).at_ (k := i) (by rw [bhG_len]; exact hil)
            injection he with he
            subst he
            rw [Addr.add_lit, Nat.zero_add] at hcell hbl
            rw [bhG_at ps hil] at hd
            injection hd with hd
            have HROWE := Lib.hid hd
            obtain ⟨rl, hrl⟩ : ∃ rl, row.length = rl := ⟨_, rfl⟩
            have HRL := Lib.hid hrl
            rw [hrl] at hcell
            have HRW := Lib.hid hrow
            have hrl28 : rl ≤ 28 := by
              have := bhL_len ps i
              have h28 := HG.out.2.2
              rw [← hrl, ← hd]
              simp [ni]
              omega
            clear hd hrl hrow
            obtain ⟨wm, rfl⟩ : ∃ wm : World, wm = wr := ⟨_, rfl⟩
            go_wp2
            go_loopw [50] (fun z wr => ∃ c : Nat, c ≤ rl ∧ z = .int .i64 c ∧ Hid (∀ b ∈ (bhL ps i).take c, ¬ Rea (bhG m ps) (-1) b i) ∧ Below wm.heap.size wm wr) (fun z _ => rl - (intOf z).toNat)
            case atStart => exact ⟨0, Nat.zero_le _, rfl, Lib.hid (by simp), Below.refl _ _⟩
            case round =>
              obtain ⟨c, hc, rfl, HNB, hb3⟩ := hrel
              have hs3 := hb3.size
              have hb13 : Below w1.heap.size w1 wr := hb2.trans (hb3.mono hs2)
              by_cases hcl : c < rl
              · obtain ⟨ar, x, rfl, hbr, hxr, hcx⟩ := (HRW.out.below (hb3.mono hs2) (Nat.le_refl _)).at_ (k := c) (by rw [HRL.out]; exact hcl)
                have hxb : ∃ b, (bhL ps i)[c]? = some b ∧ x = (b : Int) := by
                  rw [← HROWE.out] at hxr
                  unfold ni at hxr
                  rw [List.getElem?_map] at hxr
                  obtain ⟨b, e1, e2⟩ := Option.map_eq_some_iff.1 hxr
                  exact ⟨b, e1, e2.symm⟩
                obtain ⟨b, hbc, rfl⟩ := hxb
                have hbm : b < m := (HINS.out _ (bhL_mem.1 (List.mem_of_getElem? hbc))).2
                have HBC := Lib.hid hbc
                have HRE := Lib.hid (refReachB_any _ m m (bhG m ps) b (-1) wr ((HRG.out.below hb13 (Nat.le_refl _)).more hb13.size) (bhG_len m ps) HWAY.out hbm)
                clear hxr hbc
                go_wp2_with fail
                refine HRE.out.mono ?_
                rintro e w4 ⟨hs, A4, c4, hrch, rfl, hrd4, hb4⟩
                have hlen4 := hrch.len
                rw [bhG_len] at hlen4
                have hb14 : Below w1.heap.size w1 w4 := hb13.trans (hb4.mono hb13.size)
                have HHS := Lib.hid (refHas_any A4 hs.length c4 (ni hs) (i : Int) _ w4 hrd4 (by simp [ni]) (by unfold maxLen; omega))
                have HRC := Lib.hid (hrch.mem i)
                by_cases hmem : i ∈ hs
                · rw [decide_eq_true (ni_mem.2 hmem)] at HHS
                  have hrea := HRC.out.1 hmem
                  have HRD : Hid (Round m ps) := Lib.hid ⟨i, b, hil, bhL_mem.1 (List.mem_of_getElem? HBC.out), hrea⟩
                  clear hmem hrea hrch hrd4
                  go_wp2_with (go_at_call 17; (with_reducible refine HHS.out.mono ?_); rintro e w5 ⟨rfl, rfl⟩)
                  go_ret
                  exact ⟨⟨3, .form m ps rfl rfl HG.out.1 HG.out.2.1 HG.out.2.2 HINS.out HRD.out, rfl⟩, hb.trans ((hb1.trans (hb14.mono hs1)).mono hsz)⟩
                · rw [decide_eq_false (fun h => hmem (ni_mem.1 h))] at HHS
                  have HNB2 : Hid (∀ b ∈ (bhL ps i).take (c + 1), ¬ Rea (bhG m ps) (-1) b i) := Lib.hid fun b' hb' => by
                    rw [List.take_add_one, HBC.out, Option.toList_some, List.mem_append] at hb'
                    rcases hb' with h | h
                    · exact HNB.out b' h
                    · rw [List.mem_singleton.1 h]; exact fun h2 => hmem (HRC.out.2 h2)
                  clear hmem hrch hrd4
                  go_wp2_with (go_at_call 17; (with_reducible refine HHS.out.mono ?_); rintro e w5 ⟨rfl, rfl⟩)
                  go_round
                  case rel => exact ⟨c + 1, by omega, by go_num, HNB2, hb3.trans (hb4.mono hs3)⟩
                  case measure => (simp [intOf]; omega)
              · have hcr : c = rl := by omega
                subst hcr
                have HNR2 : Hid (NoR m ps (i + 1)) := Lib.hid fun a b ha hp => by
                  by_cases e : a = i
                  · subst e
                    refine HNB.out b ?_
                    rw [List.take_of_length_le (by have := HRL.out; rw [← HROWE.out] at this; simp [ni] at this; omega)]
                    exact bhL_mem.2 hp
                  · exact HNR.out a b (by omega) hp
                go_wp2
                go_round
                case rel => exact ⟨i + 1, by omega, by go_num, HNR2, hb2.trans (hb3.mono hs2)⟩
                case measure => (simp [intOf]; omega)
          · have him : i = m := by omega
            subst him
            have HOK : Hid (TkOk i ps) := Lib.hid ⟨HG.out.1, HG.out.2.1, HG.out.2.2, HINS.out, fun ⟨a, b, ha, hp, hr⟩ => HNR.out a b ha hp hr⟩
            go_wp2
            go_ret
            exact ⟨⟨0, .ok i ps rfl rfl HOK.out, rfl⟩, hb.trans ((hb1.trans (hb2.mono hs1)).mono hsz)⟩
  · have HZ := Lib.hid hz
    have hz2 : n < 1 ∨ 8 < n ∨ 28 < len := by
      unfold sizesK at hz
      rw [hl] at hz
      omega
    clear hz hl
    by_cases g1 : n < 1
    · clear hz2
      go_enter Try.func11, Try.ntmps11
      go_wp2
      go_ret
      exact ⟨⟨1, .large HZ.out, rfl⟩, Below.refl _ _⟩
    · by_cases g2 : 8 < n
      · clear hz2
        go_enter Try.func11, Try.ntmps11
        go_wp2
        go_ret
        exact ⟨⟨1, .large HZ.out, rfl⟩, Below.refl _ _⟩
      · have g3 : (28 : Int) < (len : Int) := by omega
        clear hz2
        go_enter Try.func11, Try.ntmps11
        go_wp2
        go_ret
        exact ⟨⟨1, .large HZ.out, rfl⟩, Below.refl _ _⟩

end Go.Proofs.Ythmcigdoaededaa
