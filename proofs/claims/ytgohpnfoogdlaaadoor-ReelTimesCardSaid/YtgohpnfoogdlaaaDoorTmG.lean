/- THE LAW OF THE TIMES, CALLED WITH WHATEVER CAN BE READ. -/
import Derived.Test.YtgohpnfoogdlaaaDoorTmV
import Derived.Test.YtgohpnfoogdlaaaDoorTmM1
import Derived.Test.YtgohpnfoogdlaaaDoorTmM2
import Derived.Test.YtgohpnfoogdlaaaDoorTmM3
import Derived.Test.YtgohpnfoogdlaaaDoorTmM4a
import Derived.Test.YtgohpnfoogdlaaaDoorTmM4b
import Derived.Test.YtgohpnfoogdlaaaDoorTmM550
import Derived.Test.YtgohpnfoogdlaaaDoorTmM551
import Derived.Test.YtgohpnfoogdlaaaDoorTmM560
import Derived.Test.YtgohpnfoogdlaaaDoorTmM561
import Derived.Test.YtgohpnfoogdlaaaDoorTmM60
import Derived.Test.YtgohpnfoogdlaaaDoorTmM61
import Derived.Test.YtgohpnfoogdlaaaDoorTmM62
import Derived.Test.YtgohpnfoogdlaaaDoorTmM63
import Derived.Test.YtgohpnfoogdlaaaDoorTmM64
import Derived.Test.YtgohpnfoogdlaaaDoorTmM65
import Derived.Test.YtgohpnfoogdlaaaDoorTmM66
import Derived.Test.YtgohpnfoogdlaaaDoorTmM67
/-! THE LAW OF THE TIMES, for a valid film. -/
namespace Go.Sx
open Go.RowKit Go.Proofs
set_option maxRecDepth 100000
def sumF (ρ : Rho) (v : Nat) : Nat → Int
  | 0 => 0
  | s + 1 => sumF ρ v s + ρ.iv (v + s)
theorem sumE_den {ρ : Rho} {v : Nat} : ∀ s : Nat, s ≤ 6 → (∀ i, i < s → 0 ≤ ρ.iv (v + i) ∧ ρ.iv (v + i) ≤ 1200) → (sumE v s).den ρ = sumF ρ v s ∧ 0 ≤ sumF ρ v s ∧ sumF ρ v s ≤ 1200 * s
  | 0, _, _ => ⟨rfl, Int.le_refl _, Int.le_refl _⟩
  | s + 1, h6, h => by
    obtain ⟨h1, h2, h3⟩ := sumE_den s (by omega) fun i hi => h i (by omega)
    have h0 := h s (by omega)
    have e : (sumE v (s + 1)).den ρ = IntKind.i64.wrap ((sumE v s).den ρ + ρ.iv (v + s)) := rfl
    rw [h1, IntWalk.i64_in _ (by omega)] at e
    refine ⟨e, ?_, ?_⟩
    · show 0 ≤ sumF ρ v s + ρ.iv (v + s); omega
    · show sumF ρ v s + ρ.iv (v + s) ≤ 1200 * ((s + 1 : Nat) : Int); omega
theorem box {x y a b : Int} (h0 : 0 ≤ x) (h1 : x ≤ a) (h2 : 0 ≤ y) (h3 : y ≤ b) : 0 ≤ x * y ∧ x * y ≤ a * b :=
  ⟨Int.mul_nonneg h0 h2, Int.mul_le_mul h1 h3 h2 (by omega)⟩
theorem refS_den {ρ : Rho} {v t : Nat} (ht : 0 ≤ ρ.iv t ∧ ρ.iv t ≤ 20) : ∀ s : Nat, s ≤ 6 → (∀ i, i < s → 0 ≤ ρ.iv (v + i) ∧ ρ.iv (v + i) ≤ 1200) → (refS v t s).den ρ = sumF ρ v s * ρ.iv t
  | 0, _, _ => by show (0 : Int) = 0 * _; rw [Int.zero_mul]
  | s + 1, h6, h => by
    have h1 := refS_den ht s (by omega) fun i hi => h i (by omega)
    obtain ⟨_, h2, h3⟩ := sumE_den s (by omega) fun i hi => h i (by omega)
    have h0 := h s (by omega)
    have b1 := box h2 (a := 7200) (by omega) ht.1 ht.2
    have b2 := box h0.1 h0.2 ht.1 ht.2
    have e : (refS v t (s + 1)).den ρ = IntKind.i64.wrap ((refS v t s).den ρ + IntKind.i64.wrap (ρ.iv (v + s) * ρ.iv t)) := rfl
    rw [h1, IntWalk.i64_in (ρ.iv (v + s) * ρ.iv t) (by omega), IntWalk.i64_in _ (by omega)] at e
    rw [e]
    show _ = (sumF ρ v s + ρ.iv (v + s)) * ρ.iv t
    rw [Int.add_mul]
theorem eqC_ok {ρ : Rho} {v t : Nat} (ht : 0 ≤ ρ.iv t ∧ ρ.iv t ≤ 20) {s : Nat} (h6 : s ≤ 6) (h : ∀ i, i < s → 0 ≤ ρ.iv (v + i) ∧ ρ.iv (v + i) ≤ 1200) : (eqC v t s).den ρ = true := by
  obtain ⟨h1, h2, h3⟩ := sumE_den s h6 h
  have b1 := box h2 (a := 7200) (by omega) ht.1 ht.2
  have e1 : (IE.bin .mul .i64 (sumE v s) (.var t)).den ρ = IntKind.i64.wrap ((sumE v s).den ρ * ρ.iv t) := rfl
  rw [h1, IntWalk.i64_in _ (by omega)] at e1
  have e2 := refS_den ht s h6 h
  show ((IE.bin .mul .i64 (sumE v s) (.var t)).den ρ == (refS v t s).den ρ) = true
  rw [e1, e2]; exact beq_self_eq_true _
/-- the checks -/
def dOf (k : Nat) : Nat := match k with
  | 4 => 1
  | 5 => 2
  | 6 => 3
  | _ => 0
theorem law_all {L k : Nat} (hL : InL L) (hk1 : 1 ≤ k) (hk : k ≤ L) : ∀ j, j < 2 ^ dOf k → lawCkN L k (dOf k) j = true := by
  have two : ∀ {P : Nat → Prop}, P 0 → P 1 → ∀ j, j < 2 → P j := fun h0 h1 j hj => by
    have : j = 0 ∨ j = 1 := by omega
    rcases this with rfl | rfl
    · exact h0
    · exact h1
  have one : ∀ {P : Nat → Prop}, P 0 → ∀ j, j < 1 → P j := fun h0 j hj => by
    have : j = 0 := by omega
    subst this; exact h0
  have four : ∀ {P : Nat → Prop}, P 0 → P 1 → P 2 → P 3 → ∀ j, j < 4 → P j := fun h0 h1 h2 h3 j hj => by
    have : j = 0 ∨ j = 1 ∨ j = 2 ∨ j = 3 := by omega
    rcases this with rfl | rfl | rfl | rfl
    · exact h0
    · exact h1
    · exact h2
    · exact h3
  have eight : ∀ {P : Nat → Prop}, P 0 → P 1 → P 2 → P 3 → P 4 → P 5 → P 6 → P 7 → ∀ j, j < 8 → P j := fun h0 h1 h2 h3 h4 h5 h6 h7 j hj => by
    have : j = 0 ∨ j = 1 ∨ j = 2 ∨ j = 3 ∨ j = 4 ∨ j = 5 ∨ j = 6 ∨ j = 7 := by omega
    rcases this with rfl | rfl | rfl | rfl | rfl | rfl | rfl | rfl
    · exact h0
    · exact h1
    · exact h2
    · exact h3
    · exact h4
    · exact h5
    · exact h6
    · exact h7
  have h1 : ∀ L, InL L → lawCkN L 1 0 0 = true := fun L h => by
    rcases h with rfl | rfl | rfl | rfl | rfl | rfl
    · exact law11_0
    · exact law21_0
    · exact law31_0
    · exact law41_0
    · exact law51_0
    · exact law61_0
  have hk' : k = 1 ∨ k = 2 ∨ k = 3 ∨ k = 4 ∨ k = 5 ∨ k = 6 := by have := (inL_le hL).2; omega
  rcases hk' with rfl | rfl | rfl | rfl | rfl | rfl
  · exact one (P := fun j => lawCkN L 1 0 j = true) (h1 L hL)
  · rcases hL with rfl | rfl | rfl | rfl | rfl | rfl
    · omega
    · exact one (P := fun j => lawCkN 2 2 0 j = true) law22_0
    · exact one (P := fun j => lawCkN 3 2 0 j = true) law32_0
    · exact one (P := fun j => lawCkN 4 2 0 j = true) law42_0
    · exact one (P := fun j => lawCkN 5 2 0 j = true) law52_0
    · exact one (P := fun j => lawCkN 6 2 0 j = true) law62_0
  · rcases hL with rfl | rfl | rfl | rfl | rfl | rfl
    · omega
    · omega
    · exact one (P := fun j => lawCkN 3 3 0 j = true) law33_0
    · exact one (P := fun j => lawCkN 4 3 0 j = true) law43_0
    · exact one (P := fun j => lawCkN 5 3 0 j = true) law53_0
    · exact one (P := fun j => lawCkN 6 3 0 j = true) law63_0
  · rcases hL with rfl | rfl | rfl | rfl | rfl | rfl
    · omega
    · omega
    · omega
    · exact two (P := fun j => lawCkN 4 4 1 j = true) law44_0 law44_1
    · exact two (P := fun j => lawCkN 5 4 1 j = true) law54_0 law54_1
    · exact two (P := fun j => lawCkN 6 4 1 j = true) law64_0 law64_1
  · rcases hL with rfl | rfl | rfl | rfl | rfl | rfl
    · omega
    · omega
    · omega
    · omega
    · exact four (P := fun j => lawCkN 5 5 2 j = true) law55_0 law55_1 law55_2 law55_3
    · exact four (P := fun j => lawCkN 6 5 2 j = true) law65_0 law65_1 law65_2 law65_3
  · rcases hL with rfl | rfl | rfl | rfl | rfl | rfl
    · omega
    · omega
    · omega
    · omega
    · omega
    · exact eight (P := fun j => lawCkN 6 6 3 j = true) law66_0 law66_1 law66_2 law66_3 law66_4 law66_5 law66_6 law66_7
theorem lawL_all {L : Nat} (hL : InL L) : lawLCk L = true := by
  rcases hL with rfl | rfl | rfl | rfl | rfl | rfl
  · exact lawL1
  · exact lawL2
  · exact lawL3
  · exact lawL4
  · exact lawL5
  · exact lawL6
theorem splits_len : ∀ (d i : Nat) (r : IE), (splits d i r).length = 2 ^ d
  | 0, _, _ => rfl
  | d + 1, i, r => by
    simp only [splits, List.length_append, List.length_map, splits_len d]
    rw [Nat.pow_succ]; omega
theorem ivC_ok {ρ : Rho} : ∀ l : List (Nat × Int × Int), (∀ g ∈ l, g.2.1 ≤ ρ.iv g.1 ∧ ρ.iv g.1 ≤ g.2.2) → ∀ c ∈ ivC l, c.den ρ = true
  | [], _, c, hc => by simp [ivC] at hc
  | (i, a, b) :: l, hg, c, hc => by
    simp only [ivC, List.mem_cons] at hc
    have h0 := hg _ List.mem_cons_self
    rcases hc with rfl | rfl | hc
    · rw [BE.t_leq, IE.den_lit, IE.den_var]; exact h0.1
    · rw [BE.t_leq, IE.den_lit, IE.den_var]; exact h0.2
    · exact ivC_ok l (fun g hg' => hg g (List.mem_cons_of_mem _ hg')) c hc
section
variable {L : Nat} {ρ : Rho} {m : Nat → Obj → Prop}
theorem worn_in {k : Nat} (H : OkR L (.reels k) true ρ m) {i : Nat} (hi : i < k) : 0 ≤ ρ.iv (120 + i) ∧ ρ.iv (120 + i) ≤ ρ.iv (130 + i) ∧ ρ.iv (130 + i) ≤ 1200 := by
  obtain ⟨f1, f2, f3, f4, f5, f6, f7, f8, f9⟩ := film_facts H.film
  have hn := H.n rfl
  obtain ⟨j, hj, hx⟩ := x_at H (show i < kOf (.reels k) from hi)
  obtain ⟨q1, q2⟩ := H.worn rfl i hi j hj hx
  obtain ⟨g1, g2, g3⟩ := f1 j hj
  rw [q1, q2]
  have a1 := wornF_in (a := ρ.iv (hadV j 0)) hn.1 (s := ρ.iv 3) (by omega) (by omega)
  have a2 := wornF_in (a := ρ.iv (hadV j 1)) hn.1 (s := ρ.iv 2) (by omega) (by omega)
  have a3 := wornF_le g2 hn.1 f6
  omega
theorem iv_ok {k : Nat} (H : OkR L (.reels k) true ρ m) : ∀ c ∈ ivC (ivTm k), c.den ρ = true := by
  obtain ⟨f1, f2, f3, f4, f5, f6, f7, f8, f9⟩ := film_facts H.film
  refine ivC_ok _ fun g hg => ?_
  simp only [ivTm, List.mem_append, List.mem_flatMap, List.mem_cons, List.not_mem_nil, or_false] at hg
  rcases hg with (rfl | rfl | rfl | rfl) | ⟨i, hi, hg⟩
  · show 1 ≤ ρ.iv 0 ∧ ρ.iv 0 ≤ 20; omega
  · show 1 ≤ ρ.iv 1 ∧ ρ.iv 1 ≤ 20; omega
  · show 1 ≤ ρ.iv 4 ∧ ρ.iv 4 ≤ 6000; omega
  · exact H.n rfl
  · have h1 := worn_in H ((upTo_mem _ _).1 hi)
    rcases hg with rfl | rfl
    · show 0 ≤ ρ.iv (120 + i) ∧ ρ.iv (120 + i) ≤ 1200; omega
    · show 0 ≤ ρ.iv (130 + i) ∧ ρ.iv (130 + i) ≤ 1200; omega
theorem fact_ok {k : Nat} (hk : k ≤ 6) (H : OkR L (.reels k) true ρ m) : ∀ c ∈ factT k, c.den ρ = true := by
  obtain ⟨f1, f2, f3, f4, f5, f6, f7, f8, f9⟩ := film_facts H.film
  intro c hc
  simp only [factT, List.mem_cons, List.mem_append, List.mem_map, List.mem_flatMap, List.not_mem_nil, or_false, List.cons_append] at hc
  rcases hc with rfl | ⟨i, hi, rfl⟩ | ⟨s, hs, hc⟩
  · unfold le2; rw [BE.t_leq, IE.den_var, IE.den_var]; exact f3
  · unfold le2; rw [BE.t_leq, IE.den_var, IE.den_var]; exact (worn_in H ((upTo_mem _ _).1 hi)).2.1
  · have hs := (upTo_mem _ _).1 hs
    rcases hc with rfl | rfl
    · exact eqC_ok (by omega) (by omega) fun i hi => by have := worn_in H (i := i) (by omega); omega
    · exact eqC_ok (by omega) (by omega) fun i hi => by have := worn_in H (i := i) (by omega); omega
end
section
variable {L : Nat} (hL : InL L) {q : Lst} {sh : Bool} {E : Env} {w : World} {vs : List Value}
theorem law_serves {p : Par} {ty : Nat → Option TI} {tb : Tabs} (B : TabOk p ty tb) {d : Nat} {f : FuncId} {args : List AV} {l : List (Nat × List AV)}
    (hv : ∀ g ∈ l, ViewIn w E g) (hf : ∀ b, 2000 ≤ b → E.σ b = none) (hg : ∀ b, b < 1000 → E.σ b = some (b, 0)) (hn : E.n ≤ 2000) (ha : concL E args = some vs)
    {K : Kn} (hK : KnOk E.ρ K) (h : servesX [] (.ret tT) (only (evalN tb d false f args (viewHeap 2000 l))) K = true) (hok : p.okB E.ρ (Base.of w)) :
    Calls p.P f vs.toArray w fun e w' => e = .returned (.bool true) ∧ Below w.heap.size w w' := by
  have key := servesX_ok (R := []) (rules_nil E.ρ) (P := fun v => v = tT) (u := .ret tT) rfl _ _ hK h
  unfold only at key
  rw [T.holds_bind] at key
  have HS : HeapOk p E (viewHeap 2000 l) (Base.of w) w := view_ok hv hf hg hn hok
  obtain ⟨r1, r2⟩ := eval_ok B d f args (viewHeap 2000 l) vs E (Base.of w) w _ (fun cv w' => cv = .bool true ∧ Below w.heap.size w w') key HS ha
    (fun v h' E2 w' cv hq2 hle HH' hv2 => by
      obtain ⟨b, rfl, _, hs⟩ := hq2
      refine ⟨?_, Base.keeps_below HH'.below⟩
      have := hs E2 hle.ρ
      rw [hv2] at this
      simpa [tT, conc, BE.den] using this)
  refine r2.mono ?_
  rintro e w' ⟨cv, rfl, rfl, hb⟩
  exact ⟨rfl, hb⟩
include hL
/-- a list of reels, and so many showings -/
theorem times_reels {k : Nat} (hk1 : 1 ≤ k) (hv : ∀ g ∈ lawView L (.reels k), ViewIn w E g) (hf : ∀ b, 2000 ≤ b → E.σ b = none) (hg : ∀ b, b < 1000 → E.σ b = some (b, 0)) (hn : E.n ≤ 2000)
    (ha : concL E (lawArgs L (.reels k)) = some vs) {m : Nat → Obj → Prop} (H : OkR L (.reels k) true E.ρ m) (hm : ∀ c o, m c o → (Base.of w).has c o) :
    Calls Tryd.prog 3 vs.toArray w fun e w' => e = .returned (.bool true) ∧ Below w.heap.size w w' := by
  have hkL := kOf_le H
  have hk6 : k ≤ 6 := (show k ≤ 6 ∧ _ from H.lst).1
  obtain ⟨e, he, hc⟩ := splits_one (ρ := E.ρ) (dOf k) 1 room0
  obtain ⟨j, hj⟩ := List.getElem?_of_mem he
  have hlt : j < 2 ^ dOf k := by rw [← splits_len (dOf k) 1 room0]; exact (List.getElem?_eq_some_iff.1 hj).1
  have h1 := law_all hL hk1 hkL j hlt
  simp only [lawCkN, hj, lawCkC] at h1
  refine law_serves (p := pR L (.reels k) true) (tabsL hL hkL) hv hf hg hn ha (knOf_ok (iv_ok H) fun c hc' => ?_) h1 ⟨m, H, hm⟩
  rcases List.mem_append.1 hc' with hc' | hc'
  · exact fact_ok hk6 H c hc'
  · exact hc c hc'
/-- a list of reels, and showings that are not so many -/
theorem times_shows {k : Nat} (hk1 : 1 ≤ k) (hv : ∀ g ∈ lawView L (.reels k), ViewIn w E g) (hf : ∀ b, 2000 ≤ b → E.σ b = none) (hg : ∀ b, b < 1000 → E.σ b = some (b, 0)) (hn : E.n ≤ 2000)
    (ha : concL E (lawArgs L (.reels k)) = some vs) {m : Nat → Obj → Prop} (H : OkR L (.reels k) false E.ρ m) (hm : ∀ c o, m c o → (Base.of w).has c o) (hs : E.ρ.iv 85 < 0 ∨ 999 < E.ρ.iv 85) :
    Calls Tryd.prog 3 vs.toArray w fun e w' => e = .returned (.bool true) ∧ Below w.heap.size w w' := by
  have hkL := kOf_le H
  have h1 := lawL_all hL
  simp only [lawLCk, Bool.and_eq_true] at h1
  have h2 := lAll_mem h1.2.2.2 (k - 1) ((upTo_mem _ _).2 (by have : k ≤ L := hkL; omega))
  rw [show k - 1 + 1 = k by omega] at h2
  simp only [lawShCk, Bool.and_eq_true] at h2
  rcases hs with hs | hs
  · refine law_serves (p := pR L (.reels k) false) (tabsL hL hkL) hv hf hg hn ha (knOf_ok (fun c hc => by simp [ivC] at hc) fun c hc' => ?_) h2.1 ⟨m, H, hm⟩
    rcases List.mem_singleton.1 hc' with rfl
    unfold fewC; rw [BE.t_lss]; exact hs
  · refine law_serves (p := pR L (.reels k) false) (tabsL hL hkL) hv hf hg hn ha (knOf_ok (fun c hc => by simp [ivC] at hc) fun c hc' => ?_) h2.2 ⟨m, H, hm⟩
    rcases List.mem_singleton.1 hc' with rfl
    unfold manyC; rw [BE.t_lss]; exact hs
/-- no list, an empty one, or one that is not of reels -/
theorem times_q (hq : q = .nil ∨ q = .empty ∨ q = .any) (hv : ∀ g ∈ lawView L q, ViewIn w E g) (hf : ∀ b, 2000 ≤ b → E.σ b = none) (hg : ∀ b, b < 1000 → E.σ b = some (b, 0)) (hn : E.n ≤ 2000)
    (ha : concL E (lawArgs L q) = some vs) {m : Nat → Obj → Prop} (H : OkR L q false E.ρ m) (hm : ∀ c o, m c o → (Base.of w).has c o) :
    Calls Tryd.prog 3 vs.toArray w fun e w' => e = .returned (.bool true) ∧ Below w.heap.size w w' := by
  have hkL := kOf_le H
  have h1 := lawL_all hL
  simp only [lawLCk, Bool.and_eq_true] at h1
  have h2 : lawQCk L q = true := by
    rcases hq with rfl | rfl | rfl
    · exact h1.1
    · exact h1.2.1
    · exact h1.2.2.1
  refine law_serves (p := pR L q false) (tabsL hL hkL) hv hf hg hn ha (knOf_ok (fun c hc => by simp [ivC] at hc) fun c hc' => ?_) h2 ⟨m, H, hm⟩
  obtain ⟨f1, f2, f3, f4, f5, f6, f7, f8, f9⟩ := film_facts H.film
  simp only [List.mem_cons, List.not_mem_nil, or_false] at hc'
  rcases hc' with rfl | rfl
  · exact eqC_ok (by omega) (by omega) fun i hi => by omega
  · exact eqC_ok (by omega) (by omega) fun i hi => by omega
end
end Go.Sx
/-! THE LAW OF THE TIMES: films that are not valid, lists of no reel or too many. -/
namespace Go.Sx
open Go.RowKit Go.Proofs
set_option maxRecDepth 100000
/-- so many reels has a film -/
def Long (s : AV) (ρ : Rho) (n : Nat) : Prop := ∀ E : Env, E.ρ = ρ → ∀ sv, conc E s = some sv → ∃ q c, sv = .slice q n c
noncomputable def pB (s : AV) : Par := ⟨Tryd.prog, rcOf Tryd.rows, fun ρ m => ∃ n, Long s ρ n ∧ okList (ρ.bv 40) (topF n) ρ m⟩
theorem long_x {ρ : Rho} {L : Nat} : Long (.sliceX 1001 6 0 L) ρ L := fun _ _ _ h => film_conc h
theorem long_nil {ρ : Rho} : Long .nilslice ρ 0 := fun E _ sv h => by
  simp only [conc, Option.some.injEq] at h
  exact ⟨none, 0, h.symm⟩
theorem long_u {ρ : Rho} {q : Option Addr} {n c : Nat} (h : ρ.ov 95 = .slice q n c) : Long (.sliceU 95) ρ n := fun E hE sv hs => by
  subst hE
  simp only [conc, h] at hs
  split at hs
  · simp only [Option.some.injEq] at hs; exact ⟨q, c, hs.symm⟩
  · cases hs
theorem bad_said {s : AV} {h : Heap} : Said (pB s) h s (.sliceU 96) false (.var 40) := by
  intro E w0 w HH sv lv hs hl
  obtain ⟨m, ⟨n, h1, h2⟩, hmh⟩ := HH.ok
  obtain ⟨q, c, rfl⟩ := h1 E rfl sv hs
  obtain ⟨y, len, k1, k2⟩ := okList_in HH h2 hmh hl
  exact ⟨q, n, c, y, len, rfl, (fun h => by cases h), k1, k2⟩
theorem badOrc_ok {s : AV} {args : List AV} {h : Heap} {t : T (AV × Heap)} (e : badOrc s args h = some t) : CallOk (pB s) 18 args h t := by
  unfold badOrc at e
  split at e
  · obtain ⟨h1, h2⟩ := cond_some e
    simp only [Bool.and_eq_true] at h1
    have e1 := eqAV_eq _ _ h1.1
    have e2 := eqAV_eq _ _ h1.2
    subst e1 e2
    cases h2
    exact rare_orc rfl bad_said
  · cases e
theorem orcTI_ok {L : Nat} (hL : L ∈ [1, 2, 3, 4, 5, 6]) : ∀ f args h t, orcTI L f args h = some t → CallOk (pB (.sliceX 1001 6 0 L)) f args h t := by
  intro f args h t e
  have h1 : ckI L = true := lAll_mem ckI_all L hL
  simp only [ckI, Bool.and_eq_true] at h1
  unfold orcTI at e
  cases h12 : Nat.beq f 12 with
  | true => rw [h12] at e; have := beq_t.1 h12; subst this; exact CallOk.lift (turned_orc e)
  | false =>
    rw [h12, cond_false] at e
    cases h18 : Nat.beq f 18 with
    | true => rw [h18] at e; have := beq_t.1 h18; subst this; exact badOrc_ok e
    | false =>
      rw [h18, cond_false] at e
      cases h54 : Nat.beq f 54 with
      | true =>
        rw [h54] at e
        have := beq_t.1 h54; subst this
        exact CSpec.ok (p0 := pT) (c := notFilm L) (eval_ok tabs0 60 54 (notFilm L).args _) h1.1 (Nat.le_of_ble_eq_true rfl) e
      | false =>
        rw [h54, cond_false] at e
        obtain ⟨h42, e⟩ := cond_some e
        have := beq_t.1 h42; subst this
        exact CSpec.ok (p0 := pT) (c := notRef L) (eval_ok tabs0 60 42 (notRef L).args _) h1.2 (Nat.le_of_ble_eq_true rfl) e
theorem orcTS_ok {s : AV} : ∀ f args h t, orcTS s f args h = some t → CallOk (pB s) f args h t := by
  intro f args h t e
  unfold orcTS at e
  cases h12 : Nat.beq f 12 with
  | true => rw [h12] at e; have := beq_t.1 h12; subst this; exact CallOk.lift (turned_orc e)
  | false =>
    rw [h12, cond_false] at e
    obtain ⟨h18, e⟩ := cond_some e
    have := beq_t.1 h18; subst this
    exact badOrc_ok e
theorem conj_false {ρ : Rho} : ∀ (l : List BE), (conjC l).den ρ = true → ∀ c ∈ l, c.den ρ = true
  | [], _, c, hc => by cases hc
  | d :: l, h, c, hc => by
    simp only [conjC, BE.den, Bool.and_eq_true] at h
    rcases List.mem_cons.1 hc with rfl | hc
    · exact h.1
    · exact conj_false l h.2 c hc
section
variable {E : Env} {w : World} {vs : List Value}
/-- a film that is not valid -/
theorem times_bad {L : Nat} (hL : L ∈ [1, 2, 3, 4, 5, 6]) (hv : ∀ g ∈ viewV L, ViewIn w E g) (hf : ∀ b, 2000 ≤ b → E.σ b = none) (hg : ∀ b, b < 1000 → E.σ b = some (b, 0)) (hn : E.n ≤ 2000)
    (ha : concL E [filmV L, .sliceU 96, vi 85] = some vs) (hno : ¬ ∀ c ∈ csL L, c.den E.ρ = true) (hok : okList (E.ρ.bv 40) (topF L) E.ρ (Base.of w).has) : Calls Tryd.prog 3 vs.toArray w fun e w' => e = .returned (.bool true) ∧ Below w.heap.size w w' := by
  have h1 : lawTI L = true := lAll_mem lawTI_all L hL
  have hc : (conjC (csL L)).den E.ρ = false := by
    cases h : (conjC (csL L)).den E.ρ with
    | false => rfl
    | true => exact absurd (conj_false _ h) hno
  have hK : KnOk E.ρ ⟨.nil, [], [⟨conjC (csL L), false⟩]⟩ := by
    refine ⟨fun i v h => ?_, fun f hf => (List.not_mem_nil hf).elim, fun a ha => ?_⟩
    · rw [PT.get_nil] at h; cases h
    · rcases List.mem_singleton.1 ha with rfl; exact hc
  exact law_view (p := pB (.sliceX 1001 6 0 L)) (Tryd.tab (orcTI L) (orcTI_ok hL) 2000) hv hf hg hn ha (allK_ok (fun K a H h => isTrueK_ok H h) _ _ hK h1) ⟨_, ⟨L, long_x, hok⟩, fun _ _ h => h⟩
/-- a film of no reel, or of too many -/
theorem times_short {s : AV} {cs : List BE} (h1 : lawTS s cs = true) (hv : ∀ g ∈ glV, ViewIn w E g) (hf : ∀ b, 2000 ≤ b → E.σ b = none) (hg : ∀ b, b < 1000 → E.σ b = some (b, 0)) (hn : E.n ≤ 2000)
    (ha : concL E [filmW s, .sliceU 96, vi 85] = some vs) (hcs : ∀ c ∈ cs, c.den E.ρ = true) {n : Nat} (hl : Long s E.ρ n) (hok : okList (E.ρ.bv 40) (topF n) E.ρ (Base.of w).has) : Calls Tryd.prog 3 vs.toArray w fun e w' => e = .returned (.bool true) ∧ Below w.heap.size w w' := by
  have hK : KnOk E.ρ (knOf [] cs) := knOf_ok (fun c hc => by simp [ivC] at hc) hcs
  exact law_view (p := pB s) (Tryd.tab (orcTS s) orcTS_ok 2000) hv hf hg hn ha (allK_ok (fun K a H h => isTrueK_ok H h) _ _ hK h1) ⟨_, ⟨n, hl, hok⟩, fun _ _ h => h⟩
end
end Go.Sx
/-! THE LAW OF THE TIMES, CALLED WITH WHATEVER CAN BE READ. -/
namespace Go.Sx
open Go.RowKit Go.Proofs
set_option maxRecDepth 100000
noncomputable def numI (nf z y : Nat → Int) (shows : Int) (len bl : Nat) (j : Nat) : Int :=
  if j < 5 then nf j else if j < 60 then z (j - 10) else if j = 85 then shows else if j = 95 then len else if j = 96 then bl else if 110 ≤ j ∧ j < 116 then y (j - 110)
  else if 120 ≤ j ∧ j < 126 then wornF (z (6 * (y (j - 120)).toNat + 4)) shows (nf 3) else if 130 ≤ j ∧ j < 136 then wornF (z (6 * (y (j - 130)).toNat + 5)) shows (nf 2) else 0
noncomputable def rhoT (nf z y : Nat → Int) (shows : Int) (len bl : Nat) (s v : Value) : Rho := ⟨numI nf z y shows len bl, fun _ => okUp y (topF len) bl, fun _ _ _ _ => 0, fun _ _ _ _ => false, fun j => if j = 95 then s else v⟩
def envT (ρ : Rho) (b o cap c x bc : Nat) : Env := ⟨ρ, fun j => if j < 1000 then some (j, 0) else if j = 1001 then some (b, o) else if j = 1004 then some (c, x) else none, fun j => if j = 1001 then cap else bc, 2000, fun _ => #[]⟩
theorem times_any {W : World} {ρ0 : Rho} (hG : ∀ g ∈ glV, GlobIn W ρ0 g) {s v : Value} {shows : Int} {nf : Nat → Int}
    (hs : s = .slice none 0 0 ∨ ∃ (b o len cap : Nat) (z : Nat → Int), s = .slice (some ⟨b, o, none⟩) len cap ∧ len ≤ cap ∧
        (0 < len → ∃ cells el fz, W.heap[b]? = some (.cells cells el fz) ∧ ∀ q, q < 6 * len → cells[o + q]? = some (.int .i64 (z q))))
    {bb : Option Addr} {bl bc : Nat} {y : Nat → Int} (hv : v = .slice bb bl bc) (hbl : (bl : Int) ≤ 9223372036854775807) (hbc : bl ≤ bc)
    (hb : (bb = none ∧ bl = 0 ∧ bc = 0) ∨ ∃ c x, bb = some ⟨c, x, none⟩ ∧ (0 < bl → ∃ cells el fz, W.heap[c]? = some (.cells cells el fz) ∧ ∀ q, q < bl → cells[x + q]? = some (.int .i64 (y q)))) :
    Calls Tryd.prog 3 #[.agg #[s, .int .i64 (nf 0), .int .i64 (nf 1), .int .i64 (nf 2), .int .i64 (nf 3), .int .i64 (nf 4)], v, .int .i64 shows] W fun e w' => e = .returned (.bool true) ∧ Below W.heap.size W w' := by
  have hσ : ∀ ρ b o cap c x bc, ∀ j, j < 1000 → (envT ρ b o cap c x bc).σ j = some (j, 0) := fun ρ b o cap c x bc j hj => by simp [envT, hj]
  have hnone : ∀ ρ b o cap c x bc, ∀ j, 2000 ≤ j → (envT ρ b o cap c x bc).σ j = none := fun ρ b o cap c x bc j hj => by
    simp only [envT]; rw [if_neg (by omega), if_neg (by omega), if_neg (by omega)]
  have gvw : ∀ ρ b o cap c x bc, ∀ g ∈ glV, ViewIn W (envT ρ b o cap c x bc) g := fun ρ b o cap c x bc => glob_view glV_lit' hG (hσ ρ b o cap c x bc)
  have args : ∀ (z : Nat → Int) (len b o cap c x : Nat) (a l : AV), conc (envT (rhoT nf z y shows len bl s v) b o cap c x bc) a = some s → conc (envT (rhoT nf z y shows len bl s v) b o cap c x bc) l = some v →
      concL (envT (rhoT nf z y shows len bl s v) b o cap c x bc) [.agg [a, vi 0, vi 1, vi 2, vi 3, vi 4], l, vi 85] =
      some [.agg #[s, .int .i64 (nf 0), .int .i64 (nf 1), .int .i64 (nf 2), .int .i64 (nf 3), .int .i64 (nf 4)], v, .int .i64 shows] := fun z len b o cap c x a l ha hl => by
    have h1 : conc (envT (rhoT nf z y shows len bl s v) b o cap c x bc) (.agg [a, vi 0, vi 1, vi 2, vi 3, vi 4]) = some (.agg #[s, .int .i64 (nf 0), .int .i64 (nf 1), .int .i64 (nf 2), .int .i64 (nf 3), .int .i64 (nf 4)]) := by
      rw [conc, concL_cons.2 ⟨_, _, ha, (show concL _ [vi 0, vi 1, vi 2, vi 3, vi 4] = some [.int .i64 (nf 0), .int .i64 (nf 1), .int .i64 (nf 2), .int .i64 (nf 3), .int .i64 (nf 4)] by
        simp [vi, concL, conc, IE.den, envT, rhoT, numI]), rfl⟩]; rfl
    have h2 : concL (envT (rhoT nf z y shows len bl s v) b o cap c x bc) [vi 85] = some [.int .i64 shows] := by
      simp [vi, concL, conc, IE.den, envT, rhoT, numI]
    exact concL_cons.2 ⟨_, _, h1, concL_cons.2 ⟨_, _, hl, h2, rfl⟩, rfl⟩
  have hlst : ∀ (z : Nat → Int) (len : Nat) (N : Int), okList (okUp y N bl) N (rhoT nf z y shows len bl s v) (Base.of W).has := fun z len N => by
    refine ⟨bb, bl, bc, y, by simp [rhoT, hv], by simp [rhoT, numI], hbl, hbc, fun hp => ?_, rfl⟩
    rcases hb with ⟨_, h0, _⟩ | ⟨c, x, rfl, hc⟩
    · omega
    · obtain ⟨cells, el, fz, h1, h2⟩ := hc hp
      exact ⟨c, x, cells, el, fz, rfl, ⟨(Array.getElem?_eq_some_iff.1 h1).1, h1⟩, h2⟩
  have hu : ∀ (z : Nat → Int) (len b o cap c x : Nat), conc (envT (rhoT nf z y shows len bl s v) b o cap c x bc) (.sliceU 96) = some v := fun z len b o cap c x => by
    simp [conc, envT, rhoT, numI, hv]
  rcases hs with hs0 | ⟨b, o, len, cap, z, hs1, hlc, hcells⟩
  · exact times_short lawTS_nil (gvw _ 0 0 0 0 0 bc) (hnone _ _ _ _ _ _ _) (hσ _ _ _ _ _ _ _) (Nat.le_refl _) (args (fun _ => 0) 0 0 0 0 0 0 .nilslice (.sliceU 96) (by rw [hs0]; rfl) (hu _ _ _ _ _ _ _)) (fun c hc => (List.not_mem_nil hc).elim) long_nil (hlst _ _ _)
  · have hsu : ∀ c x, conc (envT (rhoT nf z y shows len bl s v) b o cap c x bc) (.sliceU 95) = some s := fun c x => by
      rw [hs1]; simp [conc, envT, rhoT, numI]
    have hov : (rhoT nf z y shows len bl s v).ov 95 = .slice (some ⟨b, o, none⟩) len cap := by simp [rhoT, hs1]
    have i95 : (rhoT nf z y shows len bl s v).iv 95 = len := by simp [rhoT, numI]
    by_cases h0 : len = 0
    · exact times_short lawTS_few (gvw _ b o cap 0 0 bc) (hnone _ _ _ _ _ _ _) (hσ _ _ _ _ _ _ _) (Nat.le_refl _) (args z len b o cap 0 0 (.sliceU 95) (.sliceU 96) (hsu _ _) (hu _ _ _ _ _ _ _)) (fun c hc => by
        rcases List.mem_singleton.1 hc with rfl
        rw [BE.t_leq, IE.den_var, IE.den_lit]; show (rhoT nf z y shows len bl s v).iv 95 ≤ 0; rw [i95]; omega) (long_u hov) (hlst _ _ _)
    · by_cases h7 : 7 ≤ len
      · exact times_short lawTS_many (gvw _ b o cap 0 0 bc) (hnone _ _ _ _ _ _ _) (hσ _ _ _ _ _ _ _) (Nat.le_refl _) (args z len b o cap 0 0 (.sliceU 95) (.sliceU 96) (hsu _ _) (hu _ _ _ _ _ _ _)) (fun c hc => by
          rcases List.mem_singleton.1 hc with rfl
          rw [BE.t_leq, IE.den_var, IE.den_lit]; show 7 ≤ (rhoT nf z y shows len bl s v).iv 95; rw [i95]; omega) (long_u hov) (hlst _ _ _)
      · have hL : InL len := by unfold InL; omega
        have hLm : len ∈ [1, 2, 3, 4, 5, 6] := by
          simp only [List.mem_cons, List.not_mem_nil, or_false]; omega
        obtain ⟨cells, el, fz, c1, c2⟩ := hcells (by omega)
        have htop := topF_in (L := len) (by omega)
        let ρ := rhoT nf z y shows len bl s v
        have hsl : ∀ c x, conc (envT ρ b o cap c x bc) (.sliceX 1001 6 0 len) = some s := fun c x => by
          rw [hs1]
          simp only [conc, envT]
          rw [if_pos (by simp; omega)]
          simp
        have hview : ∀ c x, ∀ g ∈ viewV len, ViewIn W (envT ρ b o cap c x bc) g := fun c x g hg => by
          rcases List.mem_cons.1 hg with rfl | hg
          · refine ⟨b, o, _, cells, el, fz, by simp [envT], cellsUp_vals _ (fun j => z (j - 10)) (6 * len) 10 (fun j h3 h4 => ?_), c1, fun i hi => ?_⟩
            · show numI nf z y shows len bl j = _
              unfold numI
              rw [if_neg (by omega), if_pos (by omega)]
            · simp only [List.length_map, List.length_range] at hi
              rw [c2 i hi, List.getElem?_map, List.getElem?_range hi]
              simp
          · exact gvw ρ b o cap c x bc g hg
        by_cases hcs : ∀ c ∈ csL len, c.den ρ = true
        · have i85 : ρ.iv 85 = shows := by simp [ρ, rhoT, numI]
          have i110 : ∀ i, i < 6 → ρ.iv (110 + i) = y i := fun i hi => by
            show numI nf z y shows len bl (110 + i) = _
            unfold numI
            rw [if_neg (by omega), if_neg (by omega), if_neg (by omega), if_neg (by omega), if_neg (by omega), if_pos (by omega), Nat.add_sub_cancel_left]
          have i120 : ∀ i, i < 6 → ρ.iv (120 + i) = wornF (z (6 * (y i).toNat + 4)) shows (nf 3) := fun i hi => by
            show numI nf z y shows len bl (120 + i) = _
            unfold numI
            rw [if_neg (by omega), if_neg (by omega), if_neg (by omega), if_neg (by omega), if_neg (by omega), if_neg (by omega), if_pos (by omega), Nat.add_sub_cancel_left]
          have i130 : ∀ i, i < 6 → ρ.iv (130 + i) = wornF (z (6 * (y i).toNat + 5)) shows (nf 2) := fun i hi => by
            show numI nf z y shows len bl (130 + i) = _
            unfold numI
            rw [if_neg (by omega), if_neg (by omega), if_neg (by omega), if_neg (by omega), if_neg (by omega), if_neg (by omega), if_neg (by omega), if_pos (by omega), Nat.add_sub_cancel_left]
          have hhad : ∀ k e, k < 6 → e < 2 → ρ.iv (hadV k e) = z (6 * k + 4 + e) := fun k e hk he => by
            show numI nf z y shows len bl (hadV k e) = _
            unfold numI hadV
            rw [if_neg (by omega), if_pos (by omega), show 6 * k + 14 + e - 10 = 6 * k + 4 + e by omega]
          have ilow : ∀ j, j < 5 → ρ.iv j = nf j := fun j hj => by
            show numI nf z y shows len bl j = _
            unfold numI
            rw [if_pos hj]
          have hworn : ∀ i, i < 6 → ∀ k : Nat, k < len → ρ.iv (110 + i) = k → ρ.iv (120 + i) = wornF (ρ.iv (hadV k 0)) (ρ.iv 85) (ρ.iv 3) ∧ ρ.iv (130 + i) = wornF (ρ.iv (hadV k 1)) (ρ.iv 85) (ρ.iv 2) := fun i hi k hk hx => by
            rw [i110 i hi] at hx
            rw [i120 i hi, i130 i hi, hx, hhad k 0 (by omega) (by omega), hhad k 1 (by omega) (by omega), i85, ilow 3 (by omega), ilow 2 (by omega)]
            exact ⟨rfl, rfl⟩
          rcases Nat.eq_zero_or_pos bl with hz | hpos
          · rcases hb with ⟨rfl, _, h2⟩ | ⟨c, x, rfl, _⟩
            · refine times_q hL (q := .nil) (.inl rfl) (E := envT ρ b o cap 0 0 bc) (fun g hg => hview _ _ g hg) (hnone _ _ _ _ _ _ _) (hσ _ _ _ _ _ _ _) (Nat.le_refl _) (args z len b o cap 0 0 _ _ (hsl _ _) (by rw [hv, hz, h2]; rfl)) (m := (Base.of W).has) ⟨hcs, trivial, (fun h => by cases h), (fun h => by cases h)⟩ fun _ _ h => h
            · refine times_q hL (q := .empty) (.inr (.inl rfl)) (E := envT ρ b o cap c x bc) (fun g hg => hview _ _ g hg) (hnone _ _ _ _ _ _ _) (hσ _ _ _ _ _ _ _) (Nat.le_refl _) (args z len b o cap c x _ _ (hsl _ _) ?_) (m := (Base.of W).has) ⟨hcs, trivial, (fun h => by cases h), (fun h => by cases h)⟩ fun _ _ h => h
              rw [hv, hz]
              show conc _ (.sliceX 1004 1 0 0) = _
              simp [conc, envT]
          · rcases hb with ⟨_, h0, _⟩ | ⟨c, x, rfl, hc⟩
            · omega
            · obtain ⟨lcells, lel, lfz, d1, d2⟩ := hc hpos
              cases hok : okUp y ((len : Int) - 1) bl with
              | false =>
                refine times_q hL (q := .any) (.inr (.inr rfl)) (E := envT ρ b o cap c x bc) (fun g hg => hview _ _ g hg) (hnone _ _ _ _ _ _ _) (hσ _ _ _ _ _ _ _) (Nat.le_refl _) (args z len b o cap c x _ _ (hsl _ _) (hu _ _ _ _ _ _ _)) (m := (Base.of W).has) ⟨hcs, ?_, (fun h => by cases h), (fun h => by cases h)⟩ fun _ _ h => h
                have := hlst z len ((len : Int) - 1)
                rw [hok] at this
                exact this
              | true =>
                have hbl6 : bl ≤ len := okUp_len hok
                have hl : LstOk len (.reels bl) ρ (Base.of W).has := ⟨by omega, by rw [← hok]; exact okUp_congr fun i hi => i110 i (by omega)⟩
                have hvw : ∀ g ∈ lawView len (.reels bl), ViewIn W (envT ρ b o cap c x bc) g := fun g hg => by
                  rcases List.mem_cons.1 hg with rfl | hg
                  · refine ⟨c, x, _, lcells, lel, lfz, by simp [envT], cellsUp_vals _ (fun j => y (j - 110)) bl 110 (fun j h3 h4 => ?_), d1, fun i hi => ?_⟩
                    · have := i110 (j - 110) (by omega)
                      rw [show 110 + (j - 110) = j by omega] at this
                      exact this
                    · simp only [List.length_map, List.length_range] at hi
                      rw [d2 i hi, List.getElem?_map, List.getElem?_range hi]
                      simp
                  · exact hview c x g hg
                have hav : conc (envT ρ b o cap c x bc) (Lst.reels bl).av = some v := by
                  rw [hv]
                  show conc _ (.sliceX 1004 1 0 bl) = _
                  simp only [conc, envT]
                  rw [if_pos (by simp; omega)]
                  simp
                by_cases hsh : 0 ≤ shows ∧ shows ≤ 999
                · exact times_reels hL hpos hvw (hnone _ _ _ _ _ _ _) (hσ _ _ _ _ _ _ _) (Nat.le_refl _) (args z len b o cap c x _ _ (hsl _ _) hav) (m := (Base.of W).has) ⟨hcs, hl, fun _ => by (show 0 ≤ ρ.iv 85 ∧ ρ.iv 85 ≤ 999); rw [i85]; exact hsh, fun _ i hi => hworn i (by have : i < bl := hi; omega)⟩ fun _ _ h => h
                · exact times_shows hL hpos hvw (hnone _ _ _ _ _ _ _) (hσ _ _ _ _ _ _ _) (Nat.le_refl _) (args z len b o cap c x _ _ (hsl _ _) hav) (m := (Base.of W).has) ⟨hcs, hl, (fun h => by cases h), (fun h => by cases h)⟩ (fun _ _ h => h) (by
                    show ρ.iv 85 < 0 ∨ 999 < ρ.iv 85
                    rw [i85]; omega)
        · refine times_bad hLm (hview 0 0) (hnone _ _ _ _ _ _ _) (hσ _ _ _ _ _ _ _) (Nat.le_refl _) (args z len b o cap 0 0 _ _ (hsl _ _) (hu _ _ _ _ _ _ _)) hcs (hlst _ _ _)
end Go.Sx
