/-
  The reference's Colored returns the first coloring that goes on from one (O1).
-/
import Derived.Test.YtkgahblengjkfaaColorRef
import Derived.Test.YtkgahblengjkfaaPurePerfect
import Derived.Lib.SliceRun
namespace Go.Proofs.Ytkgahblengjkfaa
open Go.RowKit
set_option linter.unusedSimpArgs false
set_option linter.unusedVariables false
set_option maxRecDepth 100000

/-- what a search tells -/
def Found (w' : World) (n : Nat) (o : Option (List Nat)) (e : Ending) : Prop := match o with
  | none => e = .returned (.slice none 0 0)
  | some r => ∃ p c, e = .returned (.slice (some p) n c) ∧ RdI w' w'.heap.size (some p) (ni r)

def okP (ad : Nat → Nat → Bool) (l : List Nat) (c j : Nat) : Bool := (List.range j).all fun j => !(cof l j == c && ad j l.length)

theorem okP_succ (ad : Nat → Nat → Bool) (l : List Nat) (c j : Nat) : okP ad l c (j + 1) = (okP ad l c j && !(cof l j == c && ad j l.length)) := by
  unfold okP
  rw [List.range_succ, List.all_append]
  simp

theorem okP_all (ad : Nat → Nat → Bool) (l : List Nat) (c : Nat) : okP ad l c l.length = okC ad l c := rfl

theorem own_empty1 (X : World) (base g : Nat) (e : TypeId) (hg : g = X.heap.size) (hb : base ≤ X.heap.size) : (X.alloc (.cells #[] e)).ownsRow base e 1 (.slice (some ⟨g, 0, none⟩) 0 0) 0 [] := by
  subst hg
  exact World.ownsRow_made X #[] 0 hb (Nat.zero_le _) rfl

theorem colG_succ (ad : Nat → Nat → Bool) (k m : Nat) (l : List Nat) : colG ad k (m + 1) l = tryC (fun c => if okC ad l c then colG ad k m (l ++ [c]) else none) k 0 := rfl

theorem tryC_step (f : Nat → Option (List Nat)) {k c : Nat} (h : c < k) : tryC f (k - c) c = match f c with
    | some r => some r
    | none => tryC f (k - (c + 1)) (c + 1) := by
  have e : k - c = (k - (c + 1)) + 1 := by omega
  rw [e]
  rfl

set_option maxHeartbeats 8000000 in
theorem colored_any (n : Nat) (A : Option Addr) (len cap : Nat) (ps : List (Nat × Nat)) (k : Nat) (hn : n ≤ 8) (hn1 : 1 ≤ n) (hk : k ≤ 65536) (hlen : ps.length = len) (hm : len ≤ 65536) :
    ∀ (m : Nat) (l : List Nat) (Al : Option Addr) (ln cl : Nat) (w : World), RdM w w.heap.size A (mvI ps) → RdI w w.heap.size Al (ni l) → l.length = ln → ln + m = n →
      Calls Try.prog 12 #[.int .i64 n, .slice A len cap, .int .i64 k, .slice Al ln cl] w fun e w' => Found w' n (colG (clP ps) k m l) e ∧ Below w.heap.size w w' := by
  intro m
  induction m with
  | zero =>
    intro l Al ln cl w hx hr hl hmn
    have hln : ln = n := by omega
    subst hln
    obtain ⟨p, rfl⟩ : ∃ p, Al = some p := by
      have hpos : 0 < (ni l).length := by rw [ni_len2]; omega
      obtain ⟨p, _, hp, _⟩ := hr.at_ hpos
      exact ⟨p, hp⟩
    have HR := Lib.hid hr
    clear hr hx
    go_enter Try.func12, Try.ntmps12
    go_wp2
    go_ret
    exact ⟨⟨p, cl, rfl, HR.out⟩, Below.refl _ _⟩
  | succ m ih =>
    intro l Al ln cl w hx hr hl hmn
    have HIH := Lib.hid ih
    have HL := Lib.hid hl
    have HNL : Hid ((ni l).length = ln) := Lib.hid (by rw [ni_len2, hl])
    obtain ⟨ad, had⟩ : ∃ ad, clP ps = ad := ⟨_, rfl⟩
    have HCL : Hid (∀ (i j : Nat) (w1 : World), Below w.heap.size w w1 → Calls Try.prog 16 #[.slice A len cap, .int .i64 (i : Int), .int .i64 (j : Int)] w1 fun e w' => e = .returned (.bool (ad i j)) ∧ Below w1.heap.size w1 w') := Lib.hid fun i j w1 hb1 => by
      rw [← had]
      exact clash_any A len cap ps i j w1 ((hx.below hb1 (Nat.le_refl _)).more hb1.size) hlen hm
    have HX := Lib.hid hx
    have HRL := Lib.hid hr
    rw [had] at HIH ⊢
    have hne : ((ln : Int) == (n : Int)) = false := by simp; omega
    obtain ⟨f, hf⟩ : ∃ f, (fun c => if okC ad l c then colG ad k m (l ++ [c]) else none) = f := ⟨_, rfl⟩
    have HF : Hid (∀ c, f c = if okC ad l c then colG ad k m (l ++ [c]) else none) := Lib.hid fun c => by rw [← hf]
    rw [colG_succ, hf]
    have hhold : (0 : Nat) ≤ k := Nat.zero_le _
    clear ih had hx hl hf hr
    have qT : ∀ (w : World) (a : Option Addr) (n c n' c' : Nat), (binOp .eql 23 (.slice a n c) (.slice none n' c')).run Try.prog w = .ok (.bool a.isNone) w := fun w a n c n' c' => Lib.run_eql_slice_nil w _ _ a n c n' c' Try.underlying23
    go_enter Try.func12, Try.ntmps12
    go_wp2
    go_loopw [9] (fun t wr => ∃ c : Nat, c ≤ k ∧ t = .int .i64 c ∧ Hid (tryC f k 0 = tryC f (k - c) c) ∧ Below w.heap.size w wr) (fun t _ => k - (intOf t).toNat)
    case atStart => exact ⟨0, Nat.zero_le _, rfl, Lib.hid rfl, Below.refl _ _⟩
    case round =>
      obtain ⟨c, hc, rfl, HT, hb⟩ := hrel
      have hsz := hb.size
      by_cases hlt : c < k
      · obtain ⟨w1, rfl⟩ : ∃ w1 : World, w1 = wr := ⟨_, rfl⟩
        go_wp2
        go_loopw [10, 11] (fun o t wr => ∃ j : Nat, j ≤ ln ∧ t = .int .i64 j ∧ o = .bool (okP ad l c j) ∧ Below w.heap.size w wr) (fun _ t _ => ln - (intOf t).toNat)
        case atStart => exact ⟨0, Nat.zero_le _, rfl, rfl, hb⟩
        case round =>
          obtain ⟨j, hj, rfl, rfl, hb2⟩ := hrel
          have hsz2 := hb2.size
          by_cases hjl : j < ln
          · obtain ⟨ad1, x, rfl, hbl, hd, hcell⟩ := (HRL.out.below hb2 (Nat.le_refl _)).at_ (k := j) (by rw [HNL.out]; exact hjl)
            obtain ⟨y, hy⟩ : ∃ y, l[j]? = some y := ⟨_, List.getElem?_eq_getElem (by rw [HL.out]; exact hjl)⟩
            rw [ni_at hy] at hd
            injection hd with hd
            subst hd
            have HC := Lib.hid (HCL.out j ln wr hb2)
            have HS : Hid (okP ad l c (j + 1) = (okP ad l c j && !(y == c && ad j ln))) := Lib.hid (by rw [okP_succ, cof_at hy, HL.out])
            obtain ⟨op, hop⟩ : ∃ op, okP ad l c j = op := ⟨_, rfl⟩
            rw [hop] at HS ⊢
            obtain ⟨cl2, hcl2⟩ : ∃ cl2, ad j ln = cl2 := ⟨_, rfl⟩
            rw [hcl2] at HS HC
            clear hop hcl2 hy
            by_cases hyc : y = c
            · have hb1 : ((y : Int) == (c : Int)) = true := by simp [hyc]
              have HE : Hid (okP ad l c (j + 1) = (op && !cl2)) := Lib.hid (by rw [HS.out, hyc]; simp)
              clear hyc
              cases cl2
              · go_wp2_with (go_at_call 16; (with_reducible refine HC.out.mono ?_); rintro e w5 ⟨rfl, hb5⟩)
                go_round
                case rel => exact ⟨j + 1, by omega, by go_num, by rw [HE.out]; simp, hb2.trans (hb5.mono hsz2)⟩
                case measure => (simp [intOf]; omega)
              · go_wp2_with (go_at_call 16; (with_reducible refine HC.out.mono ?_); rintro e w5 ⟨rfl, hb5⟩)
                go_round
                case rel => exact ⟨j + 1, by omega, by go_num, by rw [HE.out]; simp, hb2.trans (hb5.mono hsz2)⟩
                case measure => (simp [intOf]; omega)
            · have hb1 : ((y : Int) == (c : Int)) = false := by simp; omega
              have HE : Hid (okP ad l c (j + 1) = op) := Lib.hid (by rw [HS.out, beq_no hyc]; simp)
              clear hyc
              go_wp2
              go_round
              case rel => exact ⟨j + 1, by omega, by go_num, by rw [HE.out], hb2⟩
              case measure => (simp [intOf]; omega)
          · have hjl2 : j = ln := by omega
            have HOK : Hid (okP ad l c j = okC ad l c) := Lib.hid (by rw [← okP_all, HL.out, hjl2])
            have HFC := Lib.hid (HF.out c)
            have HST := Lib.hid (tryC_step f hlt)
            rw [HOK.out]
            cases ho : okC ad l c with
            | false =>
              rw [ho] at HFC
              have HNX : Hid (tryC f k 0 = tryC f (k - (c + 1)) (c + 1)) := Lib.hid (by rw [HT.out, HST.out, HFC.out]; rfl)
              clear ho
              go_wp2
              go_round
              case rel => exact ⟨c + 1, by omega, by go_num, HNX, hb2⟩
              case measure => (simp [intOf]; omega)
            | true =>
              rw [ho] at HFC
              clear ho
              obtain ⟨w2, rfl⟩ : ∃ w2 : World, w2 = wr := ⟨_, rfl⟩
              have hrl2 := (HRL.out.below hb2 (Nat.le_refl _)).more hb2.size
              have ha1 : 0 + ln ≤ maxLen := by unfold maxLen; omega
              have hb1 : (0 + ln) * 8 ≤ 140737488355328 := by omega
              have ha2 : ln + 1 ≤ maxLen := by unfold maxLen; omega
              have hb2' : (ln + 1) * 8 ≤ 140737488355328 := by omega
              have hnil : Al = none → ln = 0 := fun h => by have := RdI.nil hrl2 h; rwa [HNL.out] at this
              have hil : (iv (ni l)).length = ln * 1 := by rw [Nat.mul_one]; simp [iv]; exact HNL.out
              go_wp2_with (first
                | (at_builtin; refine wpList_app rfl (.tmp 46) (.tmp 47) 23 rfl w2.heap.size 3 1 8 int_app [] rfl (own_empty1 _ _ _ _ (by simp) (by simp)) (iv (ni l)) rfl hil hnil (RdI.news (hrl2.below (by go_grown : Below w2.heap.size w2 _) (Nat.le_refl _))) (iv_one _) ha1 hb1 (by simp) ?_; intro A6 c6 w6 hown6 hg6 hb6; rw [Nat.zero_add, List.nil_append] at hown6; have hb26 : Below w2.heap.size w2 w6 := (by go_grown : Below w2.heap.size w2 _).trans hb6; have hs26 := hb26.size)
                | (at_builtin; refine wpList_app rfl (.tmp 48) (.tmp 50) 23 rfl w2.heap.size 3 1 8 int_app _ rfl (own_below hown6 (by go_grown)) [.int .i64 (c : Int)] rfl rfl (fun h => by cases h) (cells_at (by simp) _ _) (one_cell _) ha2 hb2' (by simp; omega) ?_; intro A7 c7 w7 hown7 hg7 hb7; have hb27 : Below w2.heap.size w2 w7 := hb26.trans ((by go_grown : Below w2.heap.size w6 _).trans hb7)))
              have hown7' := hown7
              rw [show iv (ni l) ++ [Value.int .i64 (c : Int)] = iv (ni (l ++ [c])) from by rw [ni_append, iv_append]; rfl] at hown7'
              have hs27 := hb27.size
              have hb07 : Below w.heap.size w w7 := hb2.trans (hb27.mono hsz2)
              have hrec := HIH.out (l ++ [c]) A7 (ln + 1) c7 w7 ((HX.out.below hb07 (Nat.le_refl _)).more hb07.size) (own_rdI hown7' (by rw [ni_len2, List.length_append, HL.out]; rfl)) (by rw [List.length_append, HL.out]; rfl) (by omega)
              clear hown7 hown7' hown6 hg6 hg7 hb6 hb7 hb26
              obtain ⟨o, ho⟩ : ∃ o, colG ad k m (l ++ [c]) = o := ⟨_, rfl⟩
              rw [ho] at hrec
              have HO := Lib.hid ho
              have HREC := Lib.hid hrec
              clear ho hrec
              refine HREC.out.mono ?_
              rintro e w8 ⟨hfd, hb8⟩
              have hb08 : Below w.heap.size w w8 := hb07.trans (hb8.mono hb07.size)
              cases o with
              | none =>
                have he : e = .returned (.slice none 0 0) := hfd
                subst he
                have HNX : Hid (tryC f k 0 = tryC f (k - (c + 1)) (c + 1)) := Lib.hid (by rw [HT.out, HST.out, HFC.out]; simp [HO.out])
                clear hfd
                go_wp2
                go_round
                case rel => exact ⟨c + 1, by omega, by go_num, HNX, hb08⟩
                case measure => (simp [intOf]; omega)
              | some r =>
                obtain ⟨p, c8, rfl, hr8⟩ := hfd
                have HRES : Hid (tryC f k 0 = some r) := Lib.hid (by rw [HT.out, HST.out, HFC.out]; simp [HO.out])
                have HR8 := Lib.hid hr8
                clear hr8
                go_wp2
                go_ret
                exact ⟨by rw [HRES.out]; exact ⟨p, c8, rfl, HR8.out⟩, hb08⟩
      · have hck : c = k := by omega
        have HNO : Hid (tryC f k 0 = none) := Lib.hid (by rw [HT.out, hck, Nat.sub_self]; rfl)
        go_wp2
        go_ret
        exact ⟨by rw [HNO.out]; show _ = _; rfl, hb⟩

end Go.Proofs.Ytkgahblengjkfaa
