/- THE LAW OF WHAT IS LEFT, CALLED WITH WHATEVER CAN BE READ. -/
import Derived.Test.YtegeacnehkpinaaDoorSxLawA
import Derived.Test.YtegeacnehkpinaaDoorSxFired
import Derived.Test.YtegeacnehkpinaaDoorSxLfPa
import Derived.Test.YtegeacnehkpinaaDoorSxLfFa
import Derived.Test.YtegeacnehkpinaaDoorSxLfPb
import Derived.Test.YtegeacnehkpinaaDoorSxLfFb
import Derived.Test.YtegeacnehkpinaaDoorSxLfP43
import Derived.Test.YtegeacnehkpinaaDoorSxLfF43
import Derived.Test.YtegeacnehkpinaaDoorSxLfP53
import Derived.Test.YtegeacnehkpinaaDoorSxLfF53
import Derived.Test.YtegeacnehkpinaaDoorSxLfP54x
import Derived.Test.YtegeacnehkpinaaDoorSxLfF54x
import Derived.Test.YtegeacnehkpinaaDoorSxLfP54y
import Derived.Test.YtegeacnehkpinaaDoorSxLfF54y
import Derived.Test.YtegeacnehkpinaaDoorSxSt3
import Derived.Test.YtegeacnehkpinaaDoorSxSt5
import Derived.Test.YtegeacnehkpinaaDoorSxEvO
import Derived.Test.YtegeacnehkpinaaDoorSxLawBad
import Derived.Test.YtegeacnehkpinaaDoorSxLawBad2
/-! THE CALLS of an evening are as they are said. -/
namespace Go.Sx
open Go.RowKit Go.Proofs
set_option maxRecDepth 100000

theorem anyOrc_ok {args : List AV} {h : Heap} {f : FuncId} {t : T (AV × Heap)} : ∀ (l : List CSpec), (∀ c ∈ l, ∀ u, c.orc args h = some u → CallOk pT c.f args h u) → anyOrc args h f l = some t → CallOk pT f args h t
  | [], _, e => by cases e
  | c :: l, H, e => by
    have e : (cond (Nat.beq f c.f) (match c.orc args h with
      | some t => some t
      | none => anyOrc args h f l) (anyOrc args h f l)) = some t := e
    have ih := anyOrc_ok l (fun c hc => H c (List.mem_cons_of_mem _ hc)) (t := t) (f := f)
    cases hf : Nat.beq f c.f with
    | false => rw [hf] at e; exact ih e
    | true =>
      rw [hf, cond_true] at e
      have := beq_t.1 hf; subst this
      split at e
      · rename_i u hu; cases e; exact H c List.mem_cons_self _ hu
      · exact ih e

theorem five {P : Nat → Prop} (h1 : P 1) (h2 : P 2) (h3 : P 3) (h4 : P 4) (h5 : P 5) : ∀ L, 1 ≤ L → L ≤ 5 → P L := by
  intro L a b
  match L, a, b with
  | 1, _, _ => exact h1
  | 2, _, _ => exact h2
  | 3, _, _ => exact h3
  | 4, _, _ => exact h4
  | 5, _, _ => exact h5
  | n + 6, _, h => omega

theorem and_t {a b : Bool} (h : and a b = true) : a = true ∧ b = true := by simpa using h
theorem evCk_all : ∀ L, 1 ≤ L → L ≤ 5 → evCk L = true := five evCk_1 evCk_2 evCk_3 evCk_4 evCk_5
theorem noCk_all : ∀ L, 1 ≤ L → L ≤ 5 → noCk L = true := five noCk_1 noCk_2 noCk_3 noCk_4 noCk_5
theorem stepCk_all : ∀ L, 1 ≤ L → L ≤ 5 → ∀ i, i < L → stepCk (L, i) = true := by
  refine five ?_ ?_ ?_ ?_ ?_
  · exact fun i hi => by
      match i, hi with
      | 0, _ => exact stepCk_10
      | n + 1, h => omega
  · exact fun i hi => by
      match i, hi with
      | 0, _ => exact stepCk_20
      | 1, _ => exact stepCk_21
      | n + 2, h => omega
  · exact fun i hi => by
      match i, hi with
      | 0, _ => exact stepCk_30
      | 1, _ => exact stepCk_31
      | 2, _ => exact stepCk_32
      | n + 3, h => omega
  · exact fun i hi => by
      match i, hi with
      | 0, _ => exact stepCk_40
      | 1, _ => exact stepCk_41
      | 2, _ => exact stepCk_42
      | 3, _ => exact stepCk_43
      | n + 4, h => omega
  · exact fun i hi => by
      match i, hi with
      | 0, _ => exact stepCk_50
      | 1, _ => exact stepCk_51
      | 2, _ => exact stepCk_52
      | 3, _ => exact stepCk_53
      | 4, _ => exact stepCk_54
      | n + 5, h => omega

section
variable {args : List AV} {h : Heap} {t : T (AV × Heap)} {L : Nat}
theorem evTrue_ok (h1 : 1 ≤ L) (h5 : L ≤ 5) (ho : (evTrue L).orc args h = some t) : CallOk pT 51 args h t :=
  CSpec.okK (c := evTrue L) rfl (eval_ok tabs0 60 51 (evTrue L).args _) (and_t (evCk_all L h1 h5)).1 (fun ρ _ => rules_nil ρ) (Nat.le_of_ble_eq_true rfl) ho
theorem ckZero_ok (h1 : 1 ≤ L) (h5 : L ≤ 5) (ho : (ckZero L).orc args h = some t) : CallOk pT 17 args h t :=
  CSpec.okK (c := ckZero L) rfl (eval_ok tabs0 60 17 (ckZero L).args _) (and_t (evCk_all L h1 h5)).2 (fun ρ _ => rules_nil ρ) (Nat.le_of_ble_eq_true rfl) ho
theorem evFalse_ok (h1 : 1 ≤ L) (h5 : L ≤ 5) (ho : (evFalse L).orc args h = some t) : CallOk pT 51 args h t :=
  CSpec.okK (c := evFalse L) (q := []) (cs0 := []) rfl (eval_ok tabs0 60 51 (evFalse L).args _) (and_t (noCk_all L h1 h5)).1 (fun ρ _ => rules_nil ρ) (Nat.le_of_ble_eq_true rfl) ho
theorem ckForty_ok (h1 : 1 ≤ L) (h5 : L ≤ 5) (ho : (ckForty L).orc args h = some t) : CallOk pT 17 args h t :=
  CSpec.okK (c := ckForty L) (q := []) (cs0 := []) rfl (eval_ok tabs0 60 17 (ckForty L).args _) (and_t (noCk_all L h1 h5)).2 (fun ρ _ => rules_nil ρ) (Nat.le_of_ble_eq_true rfl) ho
theorem step_ok (h1 : 1 ≤ L) (h5 : L ≤ 5) {i : Nat} (hi : i < L) (hi' : Bool) (ho : (stepC hi' L i).orc args h = some t) : CallOk pT 99 args h t := by
  have hk := and_t (stepCk_all L h1 h5 i hi)
  cases hi' with
  | false => exact CSpec.okK (c := stepC false L i) (q := stepQ i) (cs0 := []) rfl (eval_ok tabs0 60 99 (stepC false L i).args _) hk.1 (fun ρ _ => rules_nil ρ) (Nat.le_of_ble_eq_true rfl) ho
  | true => exact CSpec.okK (c := stepC true L i) (q := stepQ i) (cs0 := []) rfl (eval_ok tabs0 60 99 (stepC true L i).args _) hk.2 (fun ρ _ => rules_nil ρ) (Nat.le_of_ble_eq_true rfl) ho
theorem stepsL_ok (h1 : 1 ≤ L) (h5 : L ≤ 5) : ∀ n, n ≤ L → ∀ c ∈ stepsL L n, ∀ u, c.orc args h = some u → CallOk pT c.f args h u
  | 0, _, c, hc, _, _ => by cases hc
  | n + 1, hn, c, hc, u, hu => by
    simp only [stepsL, List.mem_cons] at hc
    rcases hc with rfl | rfl | hc
    · exact step_ok h1 h5 (by omega) false hu
    · exact step_ok h1 h5 (by omega) true hu
    · exact stepsL_ok h1 h5 n (by omega) c hc u hu
end
theorem orcE_ok {L : Nat} (h1 : 1 ≤ L) (h5 : L ≤ 5) : ∀ f args h t, orcE L f args h = some t → CallOk pT f args h t := by
  intro f args h t e
  refine anyOrc_ok (specsE L) (fun c hc u hu => ?_) e
  simp only [specsE, List.mem_cons] at hc
  rcases hc with rfl | rfl | hc
  · exact evTrue_ok h1 h5 hu
  · exact ckZero_ok h1 h5 hu
  · exact stepsL_ok h1 h5 L (Nat.le_refl _) c hc u hu
theorem tabsE {L : Nat} (h1 : 1 ≤ L) (h5 : L ≤ 5) : TabOk pT Sx.Tryd.tt.get (tbE L) := Tryd.tab (orcE L) (orcE_ok h1 h5) 2000

theorem pt0 {f : List Bool → Bool} (h : f [] = true) : ∀ pre ∈ pats 0, f pre = true := by simpa [pats] using h
theorem pt2 {f : List Bool → Bool} (h : f [true, true] = true ∧ f [true, false] = true ∧ f [false, true] = true ∧ f [false, false] = true) : ∀ pre ∈ pats 2, f pre = true := by simpa [pats] using h
theorem pt3 {f : List Bool → Bool} (h : f [true, true, true] = true ∧ f [true, true, false] = true ∧ f [true, false, true] = true ∧ f [true, false, false] = true ∧ f [false, true, true] = true ∧ f [false, true, false] = true ∧ f [false, false, true] = true ∧ f [false, false, false] = true) : ∀ pre ∈ pats 3, f pre = true := by simpa [pats] using h
theorem leftP_all : ∀ L, 1 ≤ L → L ≤ 5 → ∀ k, k < L → ∃ m, ∀ pre ∈ pats m, leftP L k pre = true := by
  refine five ?_ ?_ ?_ ?_ ?_
  · intro k hk
    match k, hk with
    | 0, _ => exact ⟨0, pt0 leftP_10_0⟩
    | n + 1, h => omega
  · intro k hk
    match k, hk with
    | 0, _ => exact ⟨0, pt0 leftP_20_0⟩
    | 1, _ => exact ⟨0, pt0 leftP_21_0⟩
    | n + 2, h => omega
  · intro k hk
    match k, hk with
    | 0, _ => exact ⟨0, pt0 leftP_30_0⟩
    | 1, _ => exact ⟨0, pt0 leftP_31_0⟩
    | 2, _ => exact ⟨0, pt0 leftP_32_0⟩
    | n + 3, h => omega
  · intro k hk
    match k, hk with
    | 0, _ => exact ⟨0, pt0 leftP_40_0⟩
    | 1, _ => exact ⟨0, pt0 leftP_41_0⟩
    | 2, _ => exact ⟨0, pt0 leftP_42_0⟩
    | 3, _ => exact ⟨2, pt2 ⟨leftP_43_0, leftP_43_1, leftP_43_2, leftP_43_3⟩⟩
    | n + 4, h => omega
  · intro k hk
    match k, hk with
    | 0, _ => exact ⟨0, pt0 leftP_50_0⟩
    | 1, _ => exact ⟨0, pt0 leftP_51_0⟩
    | 2, _ => exact ⟨0, pt0 leftP_52_0⟩
    | 3, _ => exact ⟨2, pt2 ⟨leftP_53_0, leftP_53_1, leftP_53_2, leftP_53_3⟩⟩
    | 4, _ => exact ⟨3, pt3 ⟨leftP_54_0, leftP_54_1, leftP_54_2, leftP_54_3, leftP_54_4, leftP_54_5, leftP_54_6, leftP_54_7⟩⟩
    | n + 5, h => omega
theorem leftF_all : ∀ L, 1 ≤ L → L ≤ 5 → ∀ k, k < L → ∃ m, ∀ pre ∈ pats m, leftF L k pre = true := by
  refine five ?_ ?_ ?_ ?_ ?_
  · intro k hk
    match k, hk with
    | 0, _ => exact ⟨0, pt0 leftF_10_0⟩
    | n + 1, h => omega
  · intro k hk
    match k, hk with
    | 0, _ => exact ⟨0, pt0 leftF_20_0⟩
    | 1, _ => exact ⟨0, pt0 leftF_21_0⟩
    | n + 2, h => omega
  · intro k hk
    match k, hk with
    | 0, _ => exact ⟨0, pt0 leftF_30_0⟩
    | 1, _ => exact ⟨0, pt0 leftF_31_0⟩
    | 2, _ => exact ⟨0, pt0 leftF_32_0⟩
    | n + 3, h => omega
  · intro k hk
    match k, hk with
    | 0, _ => exact ⟨0, pt0 leftF_40_0⟩
    | 1, _ => exact ⟨0, pt0 leftF_41_0⟩
    | 2, _ => exact ⟨0, pt0 leftF_42_0⟩
    | 3, _ => exact ⟨2, pt2 ⟨leftF_43_0, leftF_43_1, leftF_43_2, leftF_43_3⟩⟩
    | n + 4, h => omega
  · intro k hk
    match k, hk with
    | 0, _ => exact ⟨0, pt0 leftF_50_0⟩
    | 1, _ => exact ⟨0, pt0 leftF_51_0⟩
    | 2, _ => exact ⟨0, pt0 leftF_52_0⟩
    | 3, _ => exact ⟨2, pt2 ⟨leftF_53_0, leftF_53_1, leftF_53_2, leftF_53_3⟩⟩
    | 4, _ => exact ⟨3, pt3 ⟨leftF_54_0, leftF_54_1, leftF_54_2, leftF_54_3, leftF_54_4, leftF_54_5, leftF_54_6, leftF_54_7⟩⟩
    | n + 5, h => omega

theorem leftP_K {L k : Nat} (h1 : 1 ≤ L) (h5 : L ≤ 5) (hk : k < L) : ∀ ρ, (∀ d ∈ (leftC 18 L k).cs, d.den ρ = true) → ∃ R K, RulesOk ρ R ∧ KnOk ρ K ∧ servesW R (leftC 18 L k).u ((runS (tbE L) (leftC 18 L k)).bind fun r => .ret r.1) K = true := fun ρ hd => by
  obtain ⟨m, hm⟩ := leftP_all L h1 h5 k hk
  exact ⟨leftRules (preOf ρ.bv m 0) k, preK (preOf ρ.bv m 0) 0 (knOf (leftQ L) (leftR L)), leftRules_ok hk hd _, preK_ok m 0 _ (knOf_ok (fun d h => hd d (List.mem_append_left _ h)) (fun d h => hd d (List.mem_append_right _ h))), hm _ (preOf_mem _ _ _)⟩
theorem leftF_K {L k : Nat} (h1 : 1 ≤ L) (h5 : L ≤ 5) (hk : k < L) : ∀ ρ, (∀ d ∈ (leftC 19 L k).cs, d.den ρ = true) → ∃ R K, RulesOk ρ R ∧ KnOk ρ K ∧ servesW R (leftC 19 L k).u ((runS (tbE L) (leftC 19 L k)).bind fun r => .ret r.1) K = true := fun ρ hd => by
  obtain ⟨m, hm⟩ := leftF_all L h1 h5 k hk
  exact ⟨[], preK (preOf ρ.bv m 0) 0 (knOf (leftQ L) (leftR L)), rules_nil ρ, preK_ok m 0 _ (knOf_ok (fun d h => hd d (List.mem_append_left _ h)) (fun d h => hd d (List.mem_append_right _ h))), hm _ (preOf_mem _ _ _)⟩
end Go.Sx
/-! THE LAW OF WHAT IS LEFT, CALLED WITH WHATEVER CAN BE READ. -/
namespace Go.Sx
open Go.RowKit Go.Proofs Go.IntWalk
set_option maxRecDepth 100000

theorem lawI_all : ∀ L, 1 ≤ L → L ≤ 5 → lawI L = true := five lawI_1 lawI_2 lawI_3 lawI_4 lawI_5
theorem lawN_all : ∀ L, 1 ≤ L → L ≤ 5 → lawN L = true := five lawN_1 lawN_2 lawN_3 lawN_4 lawN_5
theorem lawB_all : ∀ L, 1 ≤ L → L ≤ 5 → lawB L = true := five lawB_1 lawB_2 lawB_3 lawB_4 lawB_5
theorem badP_all : ∀ L, 1 ≤ L → L ≤ 5 → badCk 18 L = true := five badP_1 badP_2 badP_3 badP_4 badP_5
theorem badF_all : ∀ L, 1 ≤ L → L ≤ 5 → badCk 19 L = true := five badF_1 badF_2 badF_3 badF_4 badF_5
theorem lawX_all : ∀ L, 1 ≤ L → L ≤ 5 → ∀ k, k < L → lawX L k = true := by
  refine five ?_ ?_ ?_ ?_ ?_
  · intro k hk
    match k, hk with
    | 0, _ => exact lawX_10
    | n + 1, h => omega
  · intro k hk
    match k, hk with
    | 0, _ => exact lawX_20
    | 1, _ => exact lawX_21
    | n + 2, h => omega
  · intro k hk
    match k, hk with
    | 0, _ => exact lawX_30
    | 1, _ => exact lawX_31
    | 2, _ => exact lawX_32
    | n + 3, h => omega
  · intro k hk
    match k, hk with
    | 0, _ => exact lawX_40
    | 1, _ => exact lawX_41
    | 2, _ => exact lawX_42
    | 3, _ => exact lawX_43
    | n + 4, h => omega
  · intro k hk
    match k, hk with
    | 0, _ => exact lawX_50
    | 1, _ => exact lawX_51
    | 2, _ => exact lawX_52
    | 3, _ => exact lawX_53
    | 4, _ => exact lawX_54
    | n + 5, h => omega
theorem outs_all : ∀ k, k < 5 → varsT 110 isOut (leftU k) = true ∧ noFail (leftU k) = true := by
  intro k hk
  match k, hk with
  | 0, _ => exact ⟨outs_0, ends_0⟩
  | 1, _ => exact ⟨outs_1, ends_1⟩
  | 2, _ => exact ⟨outs_2, ends_2⟩
  | 3, _ => exact ⟨outs_3, ends_3⟩
  | 4, _ => exact ⟨outs_4, ends_4⟩
  | n + 5, h => omega

theorem orcS_ok {l : List CSpec} (H : ∀ c ∈ l, ∀ args h u, c.orc args h = some u → CallOk pT c.f args h u) : ∀ f args h t, orcS l f args h = some t → CallOk pT f args h t := by
  intro f args h t e
  unfold orcS at e
  cases hf : Nat.beq f 20 with
  | true => rw [hf] at e; have := beq_t.1 hf; subst this; exact firedOrc_ok e
  | false => rw [hf] at e; exact anyOrc_ok l (fun c hc u hu => H c hc args h u hu) e
theorem tabsS {l : List CSpec} (H : ∀ c ∈ l, ∀ args h u, c.orc args h = some u → CallOk pT c.f args h u) : TabOk pT Sx.Tryd.tt.get (tbS l) := Tryd.tab (orcS l) (orcS_ok H) 2000

section
variable {L : Nat} (h1 : 1 ≤ L) (h5 : L ≤ 5)
include h1 h5
theorem two_ok : ∀ c ∈ [evTrue L, ckZero L], ∀ args h u, c.orc args h = some u → CallOk pT c.f args h u := by
  intro c hc args h u hu
  simp only [List.mem_cons, List.not_mem_nil, or_false] at hc
  rcases hc with rfl | rfl
  · exact evTrue_ok h1 h5 hu
  · exact ckZero_ok h1 h5 hu
theorem twoI_ok : ∀ c ∈ [evFalse L, ckForty L], ∀ args h u, c.orc args h = some u → CallOk pT c.f args h u := by
  intro c hc args h u hu
  simp only [List.mem_cons, List.not_mem_nil, or_false] at hc
  rcases hc with rfl | rfl
  · exact evFalse_ok h1 h5 hu
  · exact ckForty_ok h1 h5 hu
theorem specsB_ok : ∀ c ∈ specsB L, ∀ args h u, c.orc args h = some u → CallOk pT c.f args h u := by
  intro c hc args h u hu
  simp only [specsB, List.mem_cons, List.not_mem_nil, or_false] at hc
  rcases hc with rfl | rfl | rfl | rfl
  · exact evTrue_ok h1 h5 hu
  · exact ckZero_ok h1 h5 hu
  · exact CSpec.okK (c := leftBad 18 L) (q := evQ L) (cs0 := evR L) rfl (eval_ok (tabsS (two_ok h1 h5)) 60 18 (leftBad 18 L).args _) (badP_all L h1 h5) (fun ρ _ => rules_nil ρ) (Nat.le_of_ble_eq_true rfl) hu
  · exact CSpec.okK (c := leftBad 19 L) (q := evQ L) (cs0 := evR L) rfl (eval_ok (tabsS (two_ok h1 h5)) 60 19 (leftBad 19 L).args _) (badF_all L h1 h5) (fun ρ _ => rules_nil ρ) (Nat.le_of_ble_eq_true rfl) hu
end
theorem noCkU_all (many : Bool) : noCkU many = true := by cases many; exact noCkU_f; exact noCkU_t
theorem lawU_all (many : Bool) : lawU many = true := by cases many; exact lawU_f; exact lawU_t
theorem twoU_ok (many : Bool) : ∀ c ∈ [evNo many, ckNo many], ∀ args h u, c.orc args h = some u → CallOk pT c.f args h u := by
  intro c hc args h u hu
  simp only [List.mem_cons, List.not_mem_nil, or_false] at hc
  rcases hc with rfl | rfl
  · exact CSpec.okK (c := evNo many) (q := []) (cs0 := [fewC many]) rfl (eval_ok tabs0 60 51 (evNo many).args _) (and_t (noCkU_all many)).1 (fun ρ _ => rules_nil ρ) (Nat.le_of_ble_eq_true rfl) hu
  · exact CSpec.okK (c := ckNo many) (q := []) (cs0 := [fewC many]) rfl (eval_ok tabs0 60 17 (ckNo many).args _) (and_t (noCkU_all many)).2 (fun ρ _ => rules_nil ρ) (Nat.le_of_ble_eq_true rfl) hu

/-! ## The law's run in a world -/
theorem conj_t {ρ : Rho} : ∀ (l : List BE), (conjC l).den ρ = true → ∀ c ∈ l, c.den ρ = true
  | [], _, c, hc => (List.not_mem_nil hc).elim
  | d :: l, h, c, hc => by
    simp only [conjC, BE.den, Bool.and_eq_true] at h
    rcases List.mem_cons.1 hc with rfl | hc
    · exact h.1
    · exact conj_t l h.2 c hc
theorem conj_f {ρ : Rho} {l : List BE} (h : ¬ ∀ c ∈ l, c.den ρ = true) : (conjC l).den ρ = false := by
  cases hc : (conjC l).den ρ with
  | false => rfl
  | true => exact (h (conj_t l hc)).elim

def EvOk (W : World) (vs : List Value) : Prop := Calls Tryd.prog 3 vs.toArray W fun e w' => e = .returned (.bool true) ∧ Below W.heap.size W w'

/-- a run of the law that ends well wherever it can -/
theorem run_ok {l : List CSpec} (H : ∀ c ∈ l, ∀ args h u, c.orc args h = some u → CallOk pT c.f args h u) {args : List AV} {view : List (Nat × List AV)} {K : Kn} {E : Env} {w : World} {vs : List Value}
    (hv : ∀ g ∈ view, ViewIn w E g) (hf : ∀ b, 2000 ≤ b → E.σ b = none) (hg : ∀ b, b < 1000 → E.σ b = some (b, 0)) (hn : E.n ≤ 2000) (ha : concL E args = some vs) (hK : KnOk E.ρ K)
    (hrun : allK isTrueK (lawRun l args view) K = true) : EvOk w vs :=
  law_view (tabsS H) hv hf hg hn ha (allK_ok (fun K a H h => isTrueK_ok H h) _ _ hK hrun) trivial

/-! ## What is left, by names of its own -/
def okR (L k : Nat) (ρ : Rho) : Prop := (∀ d ∈ (leftC 18 L k).cs, d.den ρ = true) ∧ ∃ b, (leftU k).leaf ρ = some b ∧ SameE ρ vX b
noncomputable def pR (L k : Nat) : Par := ⟨Tryd.prog, rcOf Tryd.rows, okR L k⟩
theorem vids_all : ∀ L, 1 ≤ L → L ≤ 5 → lAll (fun g : Nat × List AV => and (Nat.ble (g.1 + 1) 2000) (idsLts 2000 g.2)) (viewP L) = true := five (by kernel_rfl) (by kernel_rfl) (by kernel_rfl) (by kernel_rfl) (by kernel_rfl)
theorem ids_left (L k : Nat) : idsLts 2000 [bookV L, planV L, li k] = true := by kernel_rfl
theorem orcX_ok {L k : Nat} (h1 : 1 ≤ L) (h5 : L ≤ 5) (hk : k < L) : ∀ f args h t, orcX L k f args h = some t → CallOk (pR L k) f args h t := by
  intro f args h t e
  unfold orcX at e
  cases f20 : Nat.beq f 20 with
  | true => rw [f20] at e; have := beq_t.1 f20; subst this; exact CallOk.lift (firedOrc_ok e)
  | false =>
    rw [f20, cond_false] at e
    cases f18 : Nat.beq f 18 with
    | true =>
      rw [f18, cond_true] at e
      have := beq_t.1 f18; subst this
      exact CSpec.okX (p0 := pT) (p := pR L k) (c := leftC 18 L k) (eval_ok (tabsE h1 h5) 60 18 (leftC 18 L k).args _) (leftP_K h1 h5 hk) (Nat.le_of_ble_eq_true rfl) (ids_left L k) (vids_all L h1 h5) (fun ρ h => h) e
    | false =>
      rw [f18, cond_false] at e
      cases f19 : Nat.beq f 19 with
      | true =>
        rw [f19, cond_true] at e
        have := beq_t.1 f19; subst this
        exact CSpec.okX (p0 := pT) (p := pR L k) (c := leftC 19 L k) (eval_ok (tabsE h1 h5) 60 19 (leftC 19 L k).args _) (leftF_K h1 h5 hk) (Nat.le_of_ble_eq_true rfl) (ids_left L k) (vids_all L h1 h5) (fun ρ h => h) e
      | false =>
        rw [f19, cond_false] at e
        exact CallOk.lift (anyOrc_ok _ (fun c hc u hu => two_ok h1 h5 c hc args h u hu) e)
theorem isOut_some {v : AV} (h : isOut v = true) : ∃ a b c d e, v = .tup [.agg [.int .i64 a, .int .i64 b], .agg [.int .i64 c, .int .i64 d], .int .i64 e] ∧ varsI 110 a = true ∧ varsI 110 b = true ∧ varsI 110 c = true ∧ varsI 110 d = true ∧ varsI 110 e = true := by
  unfold isOut at h
  split at h
  · rename_i a b c d e
    simp only [Bool.and_eq_true] at h
    exact ⟨a, b, c, d, e, rfl, h.1, h.2.1, h.2.2.1, h.2.2.2.1, h.2.2.2.2⟩
  · cases h

/-! ## What comes in, as values -/
def evRho (nb : Nat → Int) (z : Nat → Int) (zb : Nat → Bool) (zp : Nat → Int) (m0 m1 : Int) (len lenp : Nat) (s sp : Value) (rr : Nat → Int) : Rho :=
  ⟨fun j => if j < 22 then nb j else if j < 50 then z (j - 30) else if j < 80 then zp (j - 60) else if j = 88 then m0 else if j = 89 then m1 else if j = 95 then len else if j = 96 then lenp else if j < 110 then 0 else rr (j - 110), fun j => zb (j - 30), fun _ _ _ _ => 0, fun _ _ _ _ => false, fun j => if j = 95 then s else sp⟩
def evEnv (ρ : Rho) (b o cap bp op capp : Nat) : Env := ⟨ρ, fun x => if x < 1000 then some (x, 0) else if x = 1001 then some (b, o) else if x = 1002 then some (bp, op) else none, fun x => if x = 1001 then cap else capp, 2000, fun _ => #[]⟩

theorem viUp_vals (E : Env) (z : Nat → Int) : ∀ (k i : Nat), (∀ j, i ≤ j → j < i + k → E.ρ.iv j = z j) → concL E (viUp k i) = some ((List.range k).map fun q => .int .i64 (z (i + q)))
  | 0, i, _ => rfl
  | k + 1, i, h => by
    simp only [viUp, vi, concL, conc, IE.den]
    rw [h i (Nat.le_refl _) (by omega), viUp_vals E z k (i + 1) fun j h1 h2 => h j (by omega) (by omega)]
    simp only [List.range_succ_eq_map, List.map_cons, List.map_map, Nat.add_zero]
    congr 2
    apply List.map_congr_left
    intro q _
    simp only [Function.comp, Nat.succ_eq_add_one]
    rw [show i + 1 + q = i + (q + 1) by omega]
def partVals (z : Nat → Int) (zb : Nat → Bool) : Nat → Nat → List Value
  | 0, _ => []
  | n + 1, c => .int .i64 (z c) :: .int .i64 (z (c + 1)) :: .bool (zb (c + 2)) :: .int .i64 (z (c + 3)) :: partVals z zb n (c + 4)
theorem partVals_get (z : Nat → Int) (zb : Nat → Bool) : ∀ (n c : Nat), c % 4 = 0 → (partVals z zb n c).length = 4 * n ∧ ∀ i, i < 4 * n → (partVals z zb n c)[i]? = some (partAt z zb (c + i))
  | 0, _, _ => ⟨rfl, fun i hi => by omega⟩
  | n + 1, c, hc => by
    obtain ⟨h1, h2⟩ := partVals_get z zb n (c + 4) (by omega)
    refine ⟨by simp only [partVals, List.length_cons, h1]; omega, fun i hi => ?_⟩
    simp only [partVals]
    match i, hi with
    | 0, _ => simp [partAt, hc]
    | 1, _ => simp only [List.getElem?_cons_succ, List.getElem?_cons_zero, partAt]; rw [if_neg (by omega)]
    | 2, _ => simp only [List.getElem?_cons_succ, List.getElem?_cons_zero, partAt]; rw [if_pos (by omega)]
    | 3, _ => simp only [List.getElem?_cons_succ, List.getElem?_cons_zero, partAt]; rw [if_neg (by omega)]
    | i + 4, hi =>
      simp only [List.getElem?_cons_succ]
      rw [h2 i (by omega), show c + 4 + i = c + (i + 4) by omega]
theorem partCells_vals (E : Env) (z : Nat → Int) (zb : Nat → Bool) : ∀ (n b c : Nat), (∀ q, q < 4 * n → E.ρ.iv (b + q) = z (c + q)) → (∀ q, q < 4 * n → E.ρ.bv (b + q) = zb (c + q)) → concL E (partCells n b) = some (partVals z zb n c)
  | 0, _, _, _, _ => rfl
  | n + 1, b, c, h1, h2 => by
    have e0 := h1 0 (by omega)
    have e1 := h1 1 (by omega)
    have e2 := h2 2 (by omega)
    have e3 := h1 3 (by omega)
    have ih := partCells_vals E z zb n (b + 4) (c + 4) (fun q hq => by rw [show b + 4 + q = b + (q + 4) by omega, h1 (q + 4) (by omega), show c + (q + 4) = c + 4 + q by omega]) (fun q hq => by rw [show b + 4 + q = b + (q + 4) by omega, h2 (q + 4) (by omega), show c + (q + 4) = c + 4 + q by omega])
    simp only [partCells, vi, concL, conc, IE.den, BE.den, ih, partVals]
    rw [e1, e2, e3]
    simp only [Nat.add_zero] at e0
    rw [e0]

/-! ## Conditions of a plan -/
theorem planC_of {ρ : Rho} : ∀ (n b j : Nat), (∀ i, i < n → 0 ≤ ρ.iv (b + 4 * i + 3) ∧ ρ.iv (b + 4 * i + 3) ≤ 5) → (∀ c ∈ planC n b j, c.den ρ = true) → (∀ c ∈ ivC (planQ n j), c.den ρ = true) ∧ (∀ c ∈ planR n b j, c.den ρ = true)
  | 0, _, _, _, _ => ⟨fun c hc => (List.not_mem_nil hc).elim, fun c hc => (List.not_mem_nil hc).elim⟩
  | n + 1, b, j, hw, H => by
    simp only [planC, leE, vE, List.mem_cons, forall_eq_or_imp] at H
    obtain ⟨a1, a2, a3, a4, a5⟩ := H
    have w0 := hw 0 (by omega)
    simp only [Nat.mul_zero, Nat.add_zero] at w0
    have a4' := a4
    rw [BE.t_leq] at a1 a2 a3 a4
    simp only [bin, IE.den_lit, IE.den_var, IE.den_sub] at a1 a2 a3 a4
    rw [i64_in _ (by omega)] at a4
    obtain ⟨h1, h2⟩ := planC_of n (b + 4) (j + 2) (fun i hi => by have := hw (i + 1) (by omega); rw [show b + 4 * (i + 1) + 3 = b + 4 + 4 * i + 3 by omega] at this; exact this) a5
    refine ⟨fun c hc => ?_, fun c hc => ?_⟩
    · simp only [planQ, ivC, List.mem_cons] at hc
      rcases hc with rfl | rfl | rfl | rfl | hc
      · rw [BE.t_leq]; simp only [IE.den_lit, IE.den_var]; omega
      · rw [BE.t_leq]; simp only [IE.den_lit, IE.den_var]; omega
      · rw [BE.t_leq]; simp only [IE.den_lit, IE.den_var]; omega
      · rw [BE.t_leq]; simp only [IE.den_lit, IE.den_var]; omega
      · exact h1 c hc
    · simp only [planR, leE, vE, List.mem_cons] at hc
      rcases hc with rfl | rfl | hc
      · rw [BE.t_leq]; simp only [IE.den_var]; omega
      · exact a4'
      · exact h2 c hc
theorem walks_of {ρ : Rho} : ∀ (n b : Nat), (∀ c ∈ ivC (partsQ n b), c.den ρ = true) → ∀ i, i < n → 0 ≤ ρ.iv (b + 4 * i + 3) ∧ ρ.iv (b + 4 * i + 3) ≤ 5
  | 0, _, _ => fun i hi => by omega
  | n + 1, b, H => by
    simp only [partsQ, ivC, List.mem_cons, forall_eq_or_imp, BE.t_leq, IE.den_lit, IE.den_var] at H
    obtain ⟨a1, a2, a3, a4, a5, a6, a7⟩ := H
    have ih := walks_of n (b + 4) a7
    intro i hi
    match i, hi with
    | 0, _ => exact ⟨a5, a6⟩
    | i + 1, hi =>
      have := ih i (by omega)
      rw [show b + 4 + 4 * i + 3 = b + 4 * (i + 1) + 3 by omega] at this
      exact this
theorem left_of {ρ : Rho} {L : Nat} (H : ∀ c ∈ csV L, c.den ρ = true) (HP : ∀ c ∈ askC L, c.den ρ = true) : ∀ c ∈ ivC (leftQ L) ++ leftR L, c.den ρ = true := by
  have hE := ev_of H
  have hw := walks_of (ρ := ρ) L 30 fun c hc => hE c (by simp only [evQ, ivC_app, List.mem_append]; exact .inl (.inr hc))
  obtain ⟨p1, p2⟩ := planC_of L 30 60 hw fun c hc => HP c (by simp only [askC, List.mem_append]; exact .inl hc)
  intro c hc
  simp only [leftQ, leftR, ivC_app, List.mem_append] at hc
  rcases hc with (hc | hc) | (hc | hc)
  · exact hE c (List.mem_append_left _ hc)
  · exact p1 c hc
  · exact hE c (List.mem_append_right _ hc)
  · exact p2 c hc

/-- states in which all that comes in is as told, whatever the names of what is left stand for -/
theorem ev_env (nb z : Nat → Int) (zb : Nat → Bool) (zp : Nat → Int) (m0 m1 : Int) (len lenp : Nat) (s sp : Value) (b o cap bp op capp : Nat) : ∃ F : (Nat → Int) → Env, (∀ rr,
    (∀ x, x < 1000 → (F rr).σ x = some (x, 0)) ∧ (∀ x, 2000 ≤ x → (F rr).σ x = none) ∧ (F rr).n ≤ 2000 ∧ (F rr).σ 1001 = some (b, o) ∧ (F rr).σ 1002 = some (bp, op) ∧ (F rr).κ 1001 = cap ∧ (F rr).κ 1002 = capp ∧
    (∀ j, j < 22 → (F rr).ρ.iv j = nb j) ∧ (∀ q, q < 20 → (F rr).ρ.iv (30 + q) = z q) ∧ (∀ q, q < 20 → (F rr).ρ.bv (30 + q) = zb q) ∧ (∀ q, q < 20 → (F rr).ρ.iv (60 + q) = zp q) ∧
    (F rr).ρ.iv 88 = m0 ∧ (F rr).ρ.iv 89 = m1 ∧ (F rr).ρ.iv 95 = len ∧ (F rr).ρ.iv 96 = lenp ∧ (F rr).ρ.ov 95 = s ∧ (F rr).ρ.ov 96 = sp) ∧
    (∀ rr rr' i, i < 110 → (F rr).ρ.iv i = (F rr').ρ.iv i) ∧ (∀ rr rr', (F rr).ρ.bv = (F rr').ρ.bv) ∧ ∀ rr q, (F rr).ρ.iv (110 + q) = rr q := by
  refine ⟨fun rr => evEnv (evRho nb z zb zp m0 m1 len lenp s sp rr) b o cap bp op capp, fun rr => ⟨fun x hx => by simp [evEnv, hx], fun x hx => ?_, Nat.le_refl _, by simp [evEnv], by simp [evEnv], by simp [evEnv], by simp [evEnv], fun j hj => ?_, fun q hq => ?_, fun q hq => ?_, fun q hq => ?_, by simp [evEnv, evRho], by simp [evEnv, evRho], by simp [evEnv, evRho], by simp [evEnv, evRho], by simp [evEnv, evRho], by simp [evEnv, evRho]⟩, fun rr rr' i hi => ?_, fun rr rr' => rfl, fun rr q => ?_⟩
  · simp only [evEnv]; rw [if_neg (by omega), if_neg (by omega), if_neg (by omega)]
  · simp only [evEnv, evRho]; rw [if_pos hj]
  · simp only [evEnv, evRho]; rw [if_neg (by omega), if_pos (by omega), show 30 + q - 30 = q by omega]
  · simp only [evEnv, evRho]; rw [show 30 + q - 30 = q by omega]
  · simp only [evEnv, evRho]; rw [if_neg (by omega), if_neg (by omega), if_pos (by omega), show 60 + q - 60 = q by omega]
  · simp only [evEnv, evRho, if_pos hi]
  · simp only [evEnv, evRho]
    rw [if_neg (by omega), if_neg (by omega), if_neg (by omega), if_neg (by omega), if_neg (by omega), if_neg (by omega), if_neg (by omega), if_neg (by omega), show 110 + q - 110 = q by omega]

/-- a valid evening, a plan of it, and one of its parts -/
def Good (W : World) (E : Env) (vs : List Value) (len : Nat) (m1 : Int) : Prop := ∃ k : Nat, 1 ≤ len ∧ len ≤ 5 ∧ k < len ∧ m1 = k ∧ (∀ g ∈ viewP len, ViewIn W E g) ∧ concL E [bookV len, planV len, .agg [vi 88, li k]] = some vs ∧ ∀ c ∈ ivC (leftQ len) ++ leftR len, c.den E.ρ = true
/-- the law holds of all else -/
theorem lefts_at {W : World} {ρ0 : Rho} (hG : ∀ g ∈ glE, GlobIn W ρ0 g) {nb z : Nat → Int} {zb : Nat → Bool} {zp : Nat → Int} {m0 m1 : Int} {bp op lenp capp b o len cap : Nat} {ap a : Option Addr} (hlcp : lenp ≤ capp)
    (hcp : 0 < lenp → ∃ cells el fz, W.heap[bp]? = some (.cells cells el fz) ∧ ∀ q, q < 2 * lenp → cells[op + q]? = some (.int .i64 (zp q))) (hap : 0 < lenp → ap = some ⟨bp, op, none⟩) (hlc : len ≤ cap)
    (hc : 0 < len → ∃ cells el fz, W.heap[b]? = some (.cells cells el fz) ∧ ∀ q, q < 4 * len → cells[o + q]? = some (partAt z zb q)) (hab : 0 < len → a = some ⟨b, o, none⟩)
    {E : Env} (hσ : ∀ x, x < 1000 → E.σ x = some (x, 0)) (hnone : ∀ x, 2000 ≤ x → E.σ x = none) (hn : E.n ≤ 2000) (s1 : E.σ 1001 = some (b, o)) (s2 : E.σ 1002 = some (bp, op)) (k1 : E.κ 1001 = cap) (k2 : E.κ 1002 = capp)
    (vnb : ∀ j, j < 22 → E.ρ.iv j = nb j) (vz : ∀ q, q < 20 → E.ρ.iv (30 + q) = z q) (vzb : ∀ q, q < 20 → E.ρ.bv (30 + q) = zb q) (vzp : ∀ q, q < 20 → E.ρ.iv (60 + q) = zp q)
    (iv88 : E.ρ.iv 88 = m0) (iv89 : E.ρ.iv 89 = m1) (iv95 : E.ρ.iv 95 = len) (iv96 : E.ρ.iv 96 = lenp) (o95 : E.ρ.ov 95 = .slice a len cap) (o96 : E.ρ.ov 96 = .slice ap lenp capp)
    (hno : ¬ EvOk W [.agg ((List.range 22).map (fun i => Value.int .i64 (nb i)) ++ [Value.slice a len cap]).toArray, .slice ap lenp capp, .agg #[.int .i64 m0, .int .i64 m1]]) : Good W E [.agg ((List.range 22).map (fun i => Value.int .i64 (nb i)) ++ [Value.slice a len cap]).toArray, .slice ap lenp capp, .agg #[.int .i64 m0, .int .i64 m1]] len m1 := by
  have gvw : ∀ g ∈ glE, ViewIn W E g := glob_view glE_lit hG hσ
  have cU : conc E (.sliceU 95) = some (Value.slice a len cap) := by simp only [conc, o95, iv95, if_pos]
  have cP : conc E (.sliceU 96) = some (Value.slice ap lenp capp) := by simp only [conc, o96, iv96, if_pos]
  have cA : conc E (.agg [vi 88, vi 89]) = some (.agg #[.int .i64 m0, .int .i64 m1]) := by simp [conc, concL, vi, IE.den, iv88, iv89]
  have cK : ∀ k : Nat, m1 = k → conc E (.agg [vi 88, li k]) = some (.agg #[.int .i64 m0, .int .i64 m1]) := fun k hk => by
    subst hk
    simp [conc, concL, vi, li, IE.den, iv88]
  have cB : ∀ x, conc E x = some (Value.slice a len cap) → conc E (.agg (bookL x)) = some (.agg ((List.range 22).map (fun i => Value.int .i64 (nb i)) ++ [Value.slice a len cap]).toArray) := fun x hx => by
    have h1 : concL E (viUp 22 0) = some ((List.range 22).map fun i => .int .i64 (nb i)) := by
      rw [viUp_vals E nb 22 0 fun j _ hj => vnb j (by omega)]
      simp
    have h2 : concL E [x] = some [Value.slice a len cap] := concL_cons.2 ⟨_, _, hx, rfl, rfl⟩
    simp only [bookL, lApp_eq, conc, concL_app h1 h2, Option.map_some]
  have hall : ∀ x y q, conc E x = some (Value.slice a len cap) → conc E y = some (Value.slice ap lenp capp) → conc E q = some (.agg #[.int .i64 m0, .int .i64 m1]) →
      concL E [.agg (bookL x), y, q] = some [.agg ((List.range 22).map (fun i => Value.int .i64 (nb i)) ++ [Value.slice a len cap]).toArray, .slice ap lenp capp, .agg #[.int .i64 m0, .int .i64 m1]] :=
    fun x y q hx hy hq => concL_cons.2 ⟨_, _, cB x hx, concL_cons.2 ⟨_, _, hy, concL_cons.2 ⟨_, _, hq, rfl, rfl⟩, rfl⟩, rfl⟩
  have few : ∀ many, (fewC many).den E.ρ = true → False := fun many hm => hno <|
    run_ok (twoU_ok many) gvw hnone hσ hn (hall (.sliceU 95) (.sliceU 96) (.agg [vi 88, vi 89]) cU cP cA)
      (knOf_ok (fun c hc => (List.not_mem_nil hc).elim) (fun c hc => by rcases List.mem_singleton.1 hc with rfl; exact hm)) (lawU_all many)
  by_cases h0 : len = 0
  · exact (few false (by simp only [fewC, cond, leE, vE, BE.t_leq, IE.den_lit, IE.den_var, iv95]; omega)).elim
  · by_cases h6 : 6 ≤ len
    · exact (few true (by simp only [fewC, cond, leE, vE, BE.t_leq, IE.den_lit, IE.den_var, iv95]; omega)).elim
    · have l1 : 1 ≤ len := by omega
      have l5 : len ≤ 5 := by omega
      obtain rfl := hab (by omega)
      obtain ⟨cells, el, fz, c1, c2⟩ := hc (by omega)
      have cX : conc E (.sliceX 1001 4 0 len) = some (.slice (some ⟨b, o, none⟩) len cap) := by
        simp only [conc, s1, k1]
        rw [if_pos (by omega)]
        simp
      have pv := partVals_get z zb len 0 (by omega)
      have hvB : ∀ g ∈ viewB len, ViewIn W E g := fun g hg => by
        rcases List.mem_cons.1 hg with rfl | hg
        · refine ⟨b, o, _, cells, el, fz, s1, partCells_vals E z zb len 30 0 (fun q hq => by rw [vz q (by omega), Nat.zero_add]) (fun q hq => by rw [vzb q (by omega), Nat.zero_add]), c1, fun i hi => ?_⟩
          rw [pv.1] at hi
          rw [c2 i hi, pv.2 i hi, Nat.zero_add]
        · exact gvw g hg
      by_cases hcs : ∀ c ∈ csV len, c.den E.ρ = true
      · have hE := ev_of hcs
        have hKE : KnOk E.ρ (knOf (evQ len) (evR len)) := knOf_ok (fun c hc => hE c (List.mem_append_left _ hc)) (fun c hc => hE c (List.mem_append_right _ hc))
        by_cases hl : lenp = len
        · subst hl
          obtain rfl := hap (by omega)
          obtain ⟨cellsp, elp, fzp, d1, d2⟩ := hcp (by omega)
          have cXp : conc E (.sliceX 1002 2 0 lenp) = some (.slice (some ⟨bp, op, none⟩) lenp capp) := by
            simp only [conc, s2, k2]
            rw [if_pos (by omega)]
            simp
          have hvP : ∀ g ∈ viewP lenp, ViewIn W E g := fun g hg => by
            rcases List.mem_cons.1 hg with rfl | hg
            · refine ⟨bp, op, _, cellsp, elp, fzp, s2, viUp_vals E (fun j => zp (j - 60)) (2 * lenp) 60 (fun j h3 h4 => by have := vzp (j - 60) (by omega); rw [show 60 + (j - 60) = j by omega] at this; exact this), d1, fun i hi => ?_⟩
              simp only [List.length_map, List.length_range] at hi
              rw [d2 i hi, List.getElem?_map, List.getElem?_range hi]
              simp
            · exact hvB g hg
          by_cases hask : ∀ c ∈ askC lenp, c.den E.ρ = true
          · have hk1 : 0 ≤ m1 := by
              have := hask (leE (.lit 0) (vE 89)) (by simp [askC])
              simp only [leE, vE, BE.t_leq, IE.den_lit, IE.den_var, iv89] at this; exact this
            have hk2 : m1 < lenp := by
              have := hask (.cmp .lss (vE 89) (.lit lenp)) (by simp [askC])
              simp only [vE, BE.t_lss, IE.den_lit, IE.den_var, iv89] at this; exact this
            obtain ⟨k, rfl⟩ : ∃ k : Nat, m1 = k := ⟨m1.toNat, by omega⟩
            have hk : k < lenp := by omega
            have hLf := left_of hcs hask
            exact ⟨k, l1, l5, hk, rfl, hvP, hall _ _ _ cX cXp (cK k rfl), hLf⟩
          · exact (hno (run_ok (specsB_ok l1 l5) hvP hnone hσ hn (hall _ _ _ cX cXp cA) (hKE.bool (conj_f hask)) (lawB_all lenp l1 l5))).elim
        · refine (hno ?_).elim
          refine run_ok (two_ok l1 l5) hvB hnone hσ hn (hall _ _ _ cX cP cA) (addK_ok _ false _ hKE ?_) (lawN_all len l1 l5)
          show cmpDen .eql (E.ρ.iv 96) len = false
          rw [iv96]
          simp only [cmpDen, beq_eq_false_iff_ne, ne_eq]
          omega
      · refine (hno ?_).elim
        exact run_ok (twoI_ok l1 l5) hvB hnone hσ hn (hall _ _ _ cX cP cA)
          ⟨fun i v h => (by rw [PT.get_nil] at h; cases h), fun f hf => (List.not_mem_nil hf).elim, fun c hc => by rcases List.mem_singleton.1 hc with rfl; exact conj_f hcs⟩ (lawI_all len l1 l5)

/-- THE LAW, called with whatever evening, plan and numbers. -/
theorem lefts_any {W : World} {ρ0 : Rho} (hG : ∀ g ∈ glE, GlobIn W ρ0 g) {nb : Nat → Int} {s sp : Value} {m0 m1 : Int} (hs : PartsIn W s) (hp : PlanIn W sp) :
    EvOk W [.agg ((List.range 22).map (fun i => Value.int .i64 (nb i)) ++ [s]).toArray, sp, .agg #[.int .i64 m0, .int .i64 m1]] := by
  -- what comes in, told
  obtain ⟨bp, op, lenp, capp, zp, hplan, hlcp, hcp⟩ : ∃ (bp op lenp capp : Nat) (zp : Nat → Int), (∃ a, sp = .slice a lenp capp ∧ (0 < lenp → a = some ⟨bp, op, none⟩)) ∧ lenp ≤ capp ∧ (0 < lenp → ∃ cells el fz, W.heap[bp]? = some (.cells cells el fz) ∧ ∀ q, q < 2 * lenp → cells[op + q]? = some (.int .i64 (zp q))) := by
    rcases hp with rfl | ⟨b, o, len, cap, z, rfl, h1, h2⟩
    · exact ⟨0, 0, 0, 0, fun _ => 0, ⟨none, rfl, fun h => by omega⟩, Nat.le_refl _, fun h => by omega⟩
    · exact ⟨b, o, len, cap, z, ⟨_, rfl, fun _ => rfl⟩, h1, h2⟩
  obtain ⟨ap, rfl, hap⟩ := hplan
  obtain ⟨b, o, len, cap, z, zb, hparts, hlc, hc⟩ : ∃ (b o len cap : Nat) (z : Nat → Int) (zb : Nat → Bool), (∃ a, s = .slice a len cap ∧ (0 < len → a = some ⟨b, o, none⟩)) ∧ len ≤ cap ∧ (0 < len → ∃ cells el fz, W.heap[b]? = some (.cells cells el fz) ∧ ∀ q, q < 4 * len → cells[o + q]? = some (partAt z zb q)) := by
    rcases hs with rfl | ⟨b, o, len, cap, z, zb, rfl, h1, h2⟩
    · exact ⟨0, 0, 0, 0, fun _ => 0, fun _ => false, ⟨none, rfl, fun h => by omega⟩, Nat.le_refl _, fun h => by omega⟩
    · exact ⟨b, o, len, cap, z, zb, ⟨_, rfl, fun _ => rfl⟩, h1, h2⟩
  obtain ⟨a, rfl, hab⟩ := hparts
  obtain ⟨F, hF, hFi, hFb, hFr⟩ := ev_env nb z zb zp m0 m1 len lenp (.slice a len cap) (.slice ap lenp capp) b o cap bp op capp
  refine Classical.byContradiction fun hno => ?_
  have good : ∀ rr, Good W (F rr) _ len m1 := fun rr => by
    obtain ⟨p1, p2, p3, p4, p5, p6, p7, p8, p9, p10, p11, p12, p13, p14, p15, p16, p17⟩ := hF rr
    exact lefts_at hG hlcp hcp hap hlc hc hab p1 p2 p3 p4 p5 p6 p7 p8 p9 p10 p11 p12 p13 p14 p15 p16 p17 hno
  obtain ⟨k, l1, l5, hk, hmk, _, _, _⟩ := good fun _ => 0
  obtain ⟨o1, o2⟩ := outs_all k (by omega)
  obtain ⟨v, hv⟩ := noFail_leaf (ρ := (F fun _ => 0).ρ) (leftU k) o2
  obtain ⟨va, vb, vc, vd, ve, rfl, q1, q2, q3, q4, q5⟩ := isOut_some ((varsT_leaf (ρ := (F fun _ => 0).ρ) (ρ' := (F fun _ => 0).ρ) (fun _ _ => rfl) rfl (leftU k) o1).2 _ hv)
  let rr : Nat → Int := fun q => match q with
    | 0 => va.den (F fun _ => 0).ρ
    | 1 => vb.den (F fun _ => 0).ρ
    | 2 => vc.den (F fun _ => 0).ρ
    | 3 => vd.den (F fun _ => 0).ρ
    | _ => ve.den (F fun _ => 0).ρ
  obtain ⟨p1, p2, p3, _⟩ := hF rr
  obtain ⟨k', _, _, hk', hmk', hview, hargs, hcs⟩ := good rr
  obtain rfl : k' = k := by omega
  have hi : ∀ i, i < 110 → (F rr).ρ.iv i = (F fun _ => 0).ρ.iv i := fun i hi => hFi rr _ i hi
  have hok : (pR len k').ok (F rr).ρ := by
    refine ⟨fun d hd => hcs d hd, _, by rw [(varsT_leaf hi (hFb rr _) (leftU k') o1).1]; exact hv, fun E hE => ?_⟩
    have e0 := hFr rr 0
    have e1 := hFr rr 1
    have e2 := hFr rr 2
    have e3 := hFr rr 3
    have e4 := hFr rr 4
    simp only [vX, vi, conc, concL, hE, IE.den, varsI_den hi va q1, varsI_den hi vb q2, varsI_den hi vc q3, varsI_den hi vd q4, varsI_den hi ve q5]
    rw [show (110 : Nat) = 110 + 0 from rfl, show (111 : Nat) = 110 + 1 from rfl, show (112 : Nat) = 110 + 2 from rfl, show (113 : Nat) = 110 + 3 from rfl, show (114 : Nat) = 110 + 4 from rfl, e0, e1, e2, e3, e4]
    rfl
  exact hno (law_view (Tryd.tab (orcX len k') (orcX_ok l1 l5 hk') 2000) hview p2 p1 p3 hargs
    (allK_ok (fun K a H h => isTrueK_ok H h) _ _ (knOf_ok (fun c hc => hcs c (List.mem_append_left _ hc)) (fun c hc => hcs c (List.mem_append_right _ hc))) (lawX_all len l1 l5 k' hk')) hok)
end Go.Sx
