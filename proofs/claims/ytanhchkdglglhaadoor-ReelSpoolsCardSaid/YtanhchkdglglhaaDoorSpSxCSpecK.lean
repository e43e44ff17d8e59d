/- CALLS, AS THEY ARE SAID, held against their run under linear facts: values alike, not the same text. -/
import Derived.Test.YtanhchkdglglhaaDoorSpSxEnt
import Derived.Test.YtanhchkdglglhaaDoorSpSxRound
import Derived.Test.YtanhchkdglglhaaDoorSpSxLin
/-! CLOSED CALLS, TAKEN AS MADE: a call without arguments that hands back true, wherever the listed variables lie as said. -/
namespace Go.Sx
open Go.RowKit

/-- do the listed variables lie as said? -/
noncomputable def globsIn (h : Heap) : List (Nat × List AV) → Bool
  | [] => true
  | g :: l => (match h.cells g.1 with
    | some c => cond (eqAVs c g.2) (globsIn h l) false
    | none => false)
noncomputable def closedOrc (l : List (Nat × List AV)) (args : List AV) (h : Heap) : Option (T (AV × Heap)) :=
  match args with
  | [] => cond (globsIn h l) (some (.ret (.bool (.lit true), h))) none
  | _ => none

/-- values of numbers that are known -/
noncomputable def litVal : AV → Bool
  | .int _ (.lit _) => true
  | .bool (.lit _) => true
  | _ => false
theorem litVal_conc {E E' : Env} {a : AV} (h : litVal a = true) : conc E a = conc E' a := by
  unfold litVal at h
  split at h
  · simp only [conc, IE.den]
  · simp only [conc, BE.den]
  · cases h
theorem litVals_conc {E E' : Env} : ∀ {l : List AV}, lAll litVal l = true → concL E l = concL E' l
  | [], _ => rfl
  | a :: l, h => by
    have h : cond (litVal a) (lAll litVal l) false = true := h
    cases ha : litVal a with
    | false => rw [ha] at h; cases h
    | true => rw [ha] at h; simp only [concL, litVal_conc (E := E) (E' := E') ha, litVals_conc (E := E) (E' := E') h]

theorem cells_get' {h : Heap} {b : Nat} {cs : List AV} (e : h.cells b = some cs) : ∃ el own ext, h.get b = some (.cells cs el own ext) := by
  unfold Heap.cells at e
  split at e
  · rename_i c el own ext hh; cases e; exact ⟨el, own, ext, hh⟩
  · cases e

theorem globsIn_ok {p : Par} {E : Env} {h : Heap} {w0 : Base} {w : World} (HH : HeapOk p E h w0 w) : ∀ (l : List (Nat × List AV)), globsIn h l = true → lAll (fun g : Nat × List AV => and (Nat.ble (g.1 + 1) 1000) (lAll litVal g.2)) l = true → ∀ g ∈ l, GlobIn w E.ρ g
  | [], _, _, g, hg => by cases hg
  | q :: l, h1, h2, g, hg => by
    have h2 : cond (and (Nat.ble (q.1 + 1) 1000) (lAll litVal q.2)) (lAll (fun g : Nat × List AV => and (Nat.ble (g.1 + 1) 1000) (lAll litVal g.2)) l) false = true := h2
    cases hc : and (Nat.ble (q.1 + 1) 1000) (lAll litVal q.2) with
    | false => rw [hc] at h2; cases h2
    | true =>
      rw [hc, cond_true] at h2
      simp only [globsIn] at h1
      split at h1
      · rename_i c hcells
        cases he : eqAVs c q.2 with
        | false => rw [he] at h1; cases h1
        | true =>
          rw [he, cond_true] at h1
          rcases List.mem_cons.1 hg with rfl | hg
          · simp only [Bool.and_eq_true] at hc
            have hlt := ble_t.1 hc.1
            obtain ⟨el, own, ext, g0⟩ := cells_get' hcells
            have v0 := ViewIn.of_heap HH g0
            rw [eqAVs_eq _ _ he] at v0
            obtain ⟨b, base, us, cells, el, fz, q1, q2, q3, q4⟩ := v0
            rw [HH.glob g.1 (by omega)] at q1; cases q1
            exact ⟨by omega, us, cells, el, fz, by rw [← q2]; exact litVals_conc hc.2, q3, fun i hi => by have := q4 i hi; simpa using this⟩
          · exact globsIn_ok HH l h1 h2 g hg
      · cases h1

theorem closedOrc_ok {p : Par} {ty : Nat → Option TI} {tb : Tabs} (B : TabOk p ty tb) {d : Nat} {f : FuncId} {l : List (Nat × List AV)} (hrun : isTrue1 (evalN tb d false f [] (globHeap l)) = true)
    (hl : lAll (fun g : Nat × List AV => and (Nat.ble (g.1 + 1) 1000) (lAll litVal g.2)) l = true) {args : List AV} {h : Heap} {t : T (AV × Heap)} (ho : closedOrc l args h = some t) : CallOk p f args h t := by
  unfold closedOrc at ho
  split at ho
  · cases hc : globsIn h l with
    | false => rw [hc] at ho; cases ho
    | true =>
      rw [hc] at ho
      cases ho
      refine callOk_of fun vs E w0 w Q HH ha k => ?_
      have hg := globsIn_ok HH l hc hl
      simp only [concL, Option.some.injEq] at ha
      subst ha
      obtain ⟨h1, hr⟩ := isTrue1_some hrun
      have key := eval_ok B d f [] (globHeap l) [] (E0 E.ρ) (Base.of w) w (fun r => r = (.bool (.lit true), h1)) (fun cv w' => cv = .bool true ∧ Below w.heap.size w w') (by rw [hr]; rfl) (start_ok hg (HH.ok.of HH.below)) rfl ?_
      · refine ⟨key.1, key.2.mono ?_⟩
        rintro e w' ⟨cv, rfl, rfl, hb⟩
        exact ⟨.bool (.lit true), _, rfl, k, rfl, hb⟩
      · intro v h' E' w' cv q hle HH' hv
        cases q
        simp only [conc, BE.den, Option.some.injEq] at hv
        exact ⟨hv.symm, Base.keeps_below HH'.below⟩
  · cases ho

/-! ## A law's run, over what lies in the world -/
/-- a law hands back true, and leaves what lay: from its tree over views -/
theorem law_view {p : Par} {ty : Nat → Option TI} {tb : Tabs} (B : TabOk p ty tb) {d : Nat} {f : FuncId} {args : List AV} {n : Nat} {l : List (Nat × List AV)} {E : Env} {w : World} {vs : List Value}
    (h : ∀ g ∈ l, ViewIn w E g) (hf : ∀ b, n ≤ b → E.σ b = none) (hg : ∀ b, b < 1000 → E.σ b = some (b, 0)) (hn : E.n ≤ n) (ha : concL E args = some vs)
    (hrun : (evalN tb d false f args (viewHeap n l)).Holds E.ρ (fun r => ∃ b, r.1 = .bool b ∧ b.den E.ρ = true)) (hok : p.okB E.ρ (Base.of w)) :
    Calls p.P f vs.toArray w fun e w' => e = .returned (.bool true) ∧ Below w.heap.size w w' := by
  refine (call_view B h hf hg hn ha (Q := fun v => ∃ b, v = .bool b ∧ b.den E.ρ = true) hrun hok).2.mono ?_
  rintro e w' ⟨v, cv, E', rfl, ⟨b, rfl, hb⟩, hle, hcv, hbl⟩
  simp only [conc, Option.some.injEq] at hcv
  subst hcv
  rw [hle.ρ, hb]
  exact ⟨rfl, hbl⟩
end Go.Sx
namespace Go.Sx
open Go.RowKit
theorem lAll_mem' {α : Type} {p : α → Bool} : ∀ {l : List α}, lAll p l = true → ∀ a ∈ l, p a = true
  | [], _, a, ha => by cases ha
  | x :: l, h, a, ha => by
    have h : cond (p x) (lAll p l) false = true := h
    cases hx : p x with
    | false => rw [hx] at h; cases h
    | true =>
      rw [hx] at h
      rcases List.mem_cons.1 ha with rfl | ha
      · exact hx
      · exact lAll_mem' h a ha
/-- listed variables, as views -/
theorem glob_view {w : World} {ρ : Rho} {l : List (Nat × List AV)} (hl : lAll (fun g : Nat × List AV => and (Nat.ble (g.1 + 1) 1000) (lAll litVal g.2)) l = true) (h : ∀ g ∈ l, GlobIn w ρ g) {E : Env} (hg : ∀ b, b < 1000 → E.σ b = some (b, 0)) : ∀ g ∈ l, ViewIn w E g := by
  intro g hgl
  obtain ⟨h1, vs, cells, el, fz, h2, h3, h4⟩ := h g hgl
  have h5 := lAll_mem' hl g hgl
  simp only [Bool.and_eq_true] at h5
  exact ⟨g.1, 0, vs, cells, el, fz, hg _ h1, by rw [← h2]; exact litVals_conc h5.2, h3, fun i hi => by rw [Nat.zero_add]; exact h4 i hi⟩
end Go.Sx
/-! CALLS, AS THEY ARE SAID, held against their run under linear facts: values alike, not the same text. -/
namespace Go.Sx
open Go.RowKit

/-- alike, in whatever state with these numbers -/
def SameE (ρ : Rho) (a b : AV) : Prop := ∀ E : Env, E.ρ = ρ → conc E a = conc E b
def SameEs (ρ : Rho) (a b : List AV) : Prop := ∀ E : Env, E.ρ = ρ → concL E a = concL E b
mutual
noncomputable def eqS (K : Kn) : AV → AV → Bool
  | .bool a, .bool b => (match decK K a, decK K b with
    | some x, some y => x == y
    | _, _ => eqBE a b)
  | .int k a, .int k' b => and (kindEq k k') (cond (eqIE a b) true (match decEq0 K ((linE K a).sub (linE K b)) with
    | some x => x
    | none => false))
  | .agg x, .agg y => eqSs K x y
  | .tup x, .tup y => eqSs K x y
  | a, b => eqAV a b
noncomputable def eqSs (K : Kn) : List AV → List AV → Bool
  | [], [] => true
  | a :: l, b :: m => cond (eqS K a b) (eqSs K l m) false
  | _, _ => false
end
mutual
theorem eqS_ok {ρ : Rho} {K : Kn} (H : KnOk ρ K) : ∀ (a b : AV), eqS K a b = true → SameE ρ a b := by
  intro a b h
  unfold eqS at h
  split at h
  · rename_i a b
    split at h
    · rename_i x y hx hy
      have h1 := decK_ok H a x hx
      have h2 := decK_ok H b y hy
      intro E hE
      simp only [conc, hE, h1, h2]
      rw [beq_iff_eq.1 h]
    · rw [eqBE_eq _ _ h]; intro E _; rfl
  · rename_i k a k' b
    simp only [Bool.and_eq_true] at h
    obtain ⟨hk, h⟩ := h
    have hk := kindEq_eq hk
    subst hk
    cases he : eqIE a b with
    | true => rw [eqIE_eq _ _ he]; intro E _; rfl
    | false =>
      rw [he, cond_false] at h
      split at h
      · rename_i x hx
        subst h
        have h1 := (decEq0_ok H hx).2 rfl
        rw [LC.sub_den, linE_ok H a, linE_ok H b] at h1
        intro E hE
        simp only [conc, hE]
        rw [show a.den ρ = b.den ρ by omega]
      · cases h
  · rename_i x y
    have := eqSs_ok H x y h
    intro E hE
    simp only [conc, this E hE]
  · rename_i x y
    have := eqSs_ok H x y h
    intro E hE
    simp only [conc, this E hE]
  · rw [eqAV_eq _ _ h]; intro E _; rfl
theorem eqSs_ok {ρ : Rho} {K : Kn} (H : KnOk ρ K) : ∀ (a b : List AV), eqSs K a b = true → SameEs ρ a b
  | [], [], _ => fun _ _ => rfl
  | [], _ :: _, h => by simp [eqSs] at h
  | _ :: _, [], h => by simp [eqSs] at h
  | a :: l, b :: m, h => by
    simp only [eqSs] at h
    cases hab : eqS K a b with
    | false => rw [hab] at h; cases h
    | true =>
      rw [hab, cond_true] at h
      have h1 := eqS_ok H a b hab
      have h2 := eqSs_ok H l m h
      intro E hE
      simp only [concL, h1 E hE, h2 E hE]
end

/-- a value, and the said tree -/
noncomputable def matchU (a : AV) (u : T AV) : Kn → Bool :=
  @T.rec AV (fun _ => Kn → Bool) (fun b K => and (eqS K a b) (pureAV b))
    (fun c _ _ ih1 ih2 K => match decK K c with
      | some b => cond b (ih1 K) (ih2 K)
      | none => and (ih1 (addK true c K)) (ih2 (addK false c K)))
    (fun _ _ => true) u
theorem matchU_ok {ρ : Rho} {a : AV} {P : AV → Prop} : ∀ (u : T AV) (K : Kn), KnOk ρ K → matchU a u K = true → u.Holds ρ P → ∃ b, P b ∧ pureAV b = true ∧ SameE ρ a b
  | .ret b, K, H, h, hu => by
    have h : and (eqS K a b) (pureAV b) = true := h
    simp only [Bool.and_eq_true] at h
    exact ⟨b, hu, h.2, eqS_ok H a b h.1⟩
  | .fail w, K, H, h, hu => hu.elim
  | .br c x y, K, H, h, hu => by
    have h : (match decK K c with
      | some b => cond b (matchU a x K) (matchU a y K)
      | none => and (matchU a x (addK true c K)) (matchU a y (addK false c K))) = true := h
    simp only [T.Holds] at hu
    split at h
    · rename_i b hb
      have hc := decK_ok H c b hb
      cases b with
      | true => rw [hc, if_pos rfl] at hu; exact matchU_ok x K H h hu
      | false => rw [hc, if_neg (by simp)] at hu; exact matchU_ok y K H h hu
    · simp only [Bool.and_eq_true] at h
      cases hc : c.den ρ with
      | true => rw [hc, if_pos rfl] at hu; exact matchU_ok x _ (addK_ok c true K H hc) h.1 hu
      | false => rw [hc, if_neg (by simp)] at hu; exact matchU_ok y _ (addK_ok c false K H hc) h.2 hu
/-- the said tree ends nowhere -/
noncomputable def deadU (u : T AV) : Kn → Bool :=
  @T.rec AV (fun _ => Kn → Bool) (fun _ _ => false)
    (fun c _ _ ih1 ih2 K => match decK K c with
      | some b => cond b (ih1 K) (ih2 K)
      | none => and (ih1 (addK true c K)) (ih2 (addK false c K)))
    (fun _ _ => true) u
theorem deadU_ok {ρ : Rho} {P : AV → Prop} : ∀ (u : T AV) (K : Kn), KnOk ρ K → deadU u K = true → u.Holds ρ P → False
  | .ret b, K, H, h, hu => by cases h
  | .fail w, K, H, h, hu => hu
  | .br c x y, K, H, h, hu => by
    have h : (match decK K c with
      | some b => cond b (deadU x K) (deadU y K)
      | none => and (deadU x (addK true c K)) (deadU y (addK false c K))) = true := h
    simp only [T.Holds] at hu
    split at h
    · rename_i b hb
      have hc := decK_ok H c b hb
      cases b with
      | true => rw [hc, if_pos rfl] at hu; exact deadU_ok x K H h hu
      | false => rw [hc, if_neg (by simp)] at hu; exact deadU_ok y K H h hu
    · simp only [Bool.and_eq_true] at h
      cases hc : c.den ρ with
      | true => rw [hc, if_pos rfl] at hu; exact deadU_ok x _ (addK_ok c true K H hc) h.1 hu
      | false => rw [hc, if_neg (by simp)] at hu; exact deadU_ok y _ (addK_ok c false K H hc) h.2 hu

/-! ## Rules: what follows from some conditions -/
abbrev Rules := List (List BE × BE)
def RulesOk (ρ : Rho) (R : Rules) : Prop := ∀ r ∈ R, (∀ p ∈ r.1, p.den ρ = true) → r.2.den ρ = true
noncomputable def allT (K : Kn) (l : List BE) : Bool := lAll (fun c => match decK K c with
  | some b => b
  | none => false) l
noncomputable def fires (R : Rules) (K : Kn) (c : BE) : Bool :=
  @List.rec (List BE × BE) (fun _ => Bool) false (fun r _ ih => cond (eqBE r.2 c) (cond (allT K r.1) true ih) ih) R
theorem fires_ok {ρ : Rho} {K : Kn} (H : KnOk ρ K) {c : BE} : ∀ {R : Rules}, RulesOk ρ R → fires R K c = true → c.den ρ = true
  | [], _, h => by cases h
  | r :: R, HR, h => by
    have h : cond (eqBE r.2 c) (cond (allT K r.1) true (fires R K c)) (fires R K c) = true := h
    have ih := fires_ok H (R := R) (fun r hr => HR r (List.mem_cons_of_mem _ hr)) (c := c)
    cases he : eqBE r.2 c with
    | false => rw [he] at h; exact ih h
    | true =>
      rw [he, cond_true] at h
      cases ha : allT K r.1 with
      | false => rw [ha] at h; exact ih h
      | true =>
        rw [← eqBE_eq _ _ he]
        refine HR r List.mem_cons_self fun p hp => ?_
        have := lAll_mem' ha p hp
        split at this
        · rename_i b hb; subst this; exact decK_ok H p _ hb
        · cases this
noncomputable def decW (R : Rules) (K : Kn) (c : BE) : Option Bool :=
  match decK K c with
  | some b => some b
  | none => cond (fires R K c) (some true) none
theorem decW_ok {ρ : Rho} {R : Rules} {K : Kn} (HR : RulesOk ρ R) (H : KnOk ρ K) {c : BE} {b : Bool} (h : decW R K c = some b) : c.den ρ = b := by
  unfold decW at h
  split at h
  · rename_i x hx; cases h; exact decK_ok H c _ hx
  · obtain ⟨h1, h2⟩ := cond_some h
    cases h2
    exact fires_ok H HR h1
/-- one tree serves for another one, under what is known and some rules -/
noncomputable def servesW (R : Rules) (u t : T AV) : Kn → Bool :=
  @T.rec AV (fun _ => Kn → Bool) (fun a K => matchU a u K)
    (fun c _ _ ih1 ih2 K => match decW R K c with
      | some b => cond b (ih1 K) (ih2 K)
      | none => and (ih1 (addK true c K)) (ih2 (addK false c K)))
    (fun _ K => deadU u K) t
theorem servesW_ok {ρ : Rho} {R : Rules} (HR : RulesOk ρ R) {P : AV → Prop} {u : T AV} (hu : u.Holds ρ P) : ∀ (t : T AV) (K : Kn), KnOk ρ K → servesW R u t K = true → t.Holds ρ fun a => ∃ b, P b ∧ pureAV b = true ∧ SameE ρ a b
  | .ret a, K, H, h => matchU_ok u K H h hu
  | .fail w, K, H, h => (deadU_ok u K H h hu).elim
  | .br c x y, K, H, h => by
    have h : (match decW R K c with
      | some b => cond b (servesW R u x K) (servesW R u y K)
      | none => and (servesW R u x (addK true c K)) (servesW R u y (addK false c K))) = true := h
    simp only [T.Holds]
    split at h
    · rename_i b hb
      have hc := decW_ok HR H hb
      cases b with
      | true => rw [hc, if_pos rfl]; exact servesW_ok HR hu x K H h
      | false => rw [hc, if_neg (by simp)]; exact servesW_ok HR hu y K H h
    · simp only [Bool.and_eq_true] at h
      cases hc : c.den ρ with
      | true => rw [if_pos rfl]; exact servesW_ok HR hu x _ (addK_ok c true K H hc) h.1
      | false => rw [if_neg (by simp)]; exact servesW_ok HR hu y _ (addK_ok c false K H hc) h.2

/-- a call as it is said: bounds of its variables, and other conditions -/
noncomputable def mkC (f : Nat) (args : List AV) (view : List (Nat × List AV)) (q : List (Nat × Int × Int)) (cs : List BE) (u : T AV) : CSpec := ⟨f, args, view, 2000, ivC q ++ cs, u⟩
noncomputable def CSpec.chkK (c : CSpec) (R : Rules) (q : List (Nat × Int × Int)) (cs : List BE) (run : T (AV × Heap)) : Bool :=
  servesW R c.u (run.bind fun r => .ret r.1) (knOf q cs)

/-- a call as it is said, whatever shows it -/
theorem CSpec.okS {p0 p : Par} {c : CSpec} {run : T (AV × Heap)} (hc : CallOk p0 c.f c.args (viewHeap c.nv c.view) run)
    (hS : ∀ ρ, (∀ d ∈ c.cs, d.den ρ = true) → ∀ P : AV → Prop, c.u.Holds ρ P → (run.bind fun r => .ret r.1).Holds ρ fun a => ∃ b, P b ∧ pureAV b = true ∧ SameE ρ a b) (hnv : 1000 ≤ c.nv) {args : List AV} {h : Heap} {t : T (AV × Heap)} (ho : c.orc args h = some t) (hP : p0.P = p.P := by rfl) (hfree : ∀ ρ m, p0.ok ρ m := by exact fun _ _ => trivial) : CallOk p c.f args h t := by
  unfold CSpec.orc at ho
  split at ho
  · cases ho
  · rename_i B0 h0
    split at ho
    · cases ho
    · rename_i B hB
      split at ho
      · rename_i cs u hcs hu
        cases ho
        intro vs E w0 w Q K k HH ha P
        obtain ⟨hdom, hret⟩ := brAll_holds k
        rw [T.holds_bind] at hret
        obtain ⟨a1, a2, a3⟩ := bdL_ok _ _ _ _ h0
        obtain ⟨c1, c2, c3⟩ := bdVw_ok _ _ _ hB
        have G0 : GoodD E B0 := a2 E vs ha (fun j v h => by cases h)
        have G : GoodD E B := c2 HH G0
        have R : RelD c.nv E (envD c.nv E B) B := envD_rel HH.glob G
        have hargs : concL (envD c.nv E B) c.args = some vs := a3 E (envD c.nv E B) vs (R.sub c1) ha
        have hdom' : ∀ d ∈ c.cs, d.den (rhoD E B) = true := fun d hd => by
          obtain ⟨d', h1, h2⟩ := sBs_ok _ _ hcs d hd
          have := sB_ok R rfl rfl d d' h2
          rw [hdom d' h1] at this
          exact this.symm
        have hV := c3 R HH
        have hview : ∀ g ∈ c.view, ViewIn w (envD c.nv E B) g := fun g hg => by
          have hm : (⟨g.1, none, g.2, g.2, g.2⟩ : VS) ∈ c.vs := List.mem_map.2 ⟨g, hg, rfl⟩
          obtain ⟨c', base, vs', cells, el, fz, k1, k2, k3, k4, k5⟩ := (hV _ hm).obj
          exact ⟨c', base, vs', cells, el, fz, k1, k2, k3, k4⟩
        have HS : HeapOk p0 (envD c.nv E B) (viewHeap c.nv c.view) (Base.of w) w := view_ok hview
          (fun b hb => by simp only [envD, sigD]; rw [if_neg (by omega), if_neg (by omega)]) (fun b hb => by simp only [envD, sigD, if_pos hb]) (Nat.le_refl _) (Par.okB_all hfree _ _)
        have hu' := sT_holds R rfl rfl c.u u hu hret
        have hrun := hS _ hdom' _ hu'
        rw [T.holds_bind] at hrun
        obtain ⟨r1, r2⟩ := hc vs (envD c.nv E B) (Base.of w) w (fun r => ∃ b, (∃ v', sV c.nv B b = some v' ∧ (T.ret (v', h)).Holds E.ρ Q) ∧ pureAV b = true ∧ SameE (rhoD E B) r.1 b)
          (fun cv w' => ∃ b v', pureAV b = true ∧ sV c.nv B b = some v' ∧ Q (v', h) ∧ conc (envD c.nv E B) b = some cv ∧ Below w.heap.size w w') hrun HS hargs
          (fun v h' E' w' cv hq hle HH' hv => by
            obtain ⟨b, ⟨v', hs, hQ⟩, hp, hsame⟩ := hq
            refine ⟨b, v', hp, hs, hQ, ?_, Base.keeps_below HH'.below⟩
            rw [← hv, hsame E' hle.ρ]
            exact (conc_pure hle.ρ b hp).symm)
        rw [hP] at r1 r2
        refine ⟨r1, r2.mono ?_⟩
        rintro e w' ⟨cv, rfl, b, v', hp, hs, hQ, hv, hb⟩
        exact ⟨cv, rfl, P v' h E w' cv hQ (Env.le.refl E) (HH.world hb) (by rw [sV_ok R rfl rfl b v' hs]; exact hv)⟩
      · cases ho

theorem CSpec.okR {p0 p : Par} {c : CSpec} {run : T (AV × Heap)} (hc : CallOk p0 c.f c.args (viewHeap c.nv c.view) run)
    (hK : ∀ ρ, (∀ d ∈ c.cs, d.den ρ = true) → ∃ R K, RulesOk ρ R ∧ KnOk ρ K ∧ servesW R c.u (run.bind fun r => .ret r.1) K = true) (hnv : 1000 ≤ c.nv) {args : List AV} {h : Heap} {t : T (AV × Heap)} (ho : c.orc args h = some t) (hP : p0.P = p.P := by rfl) (hfree : ∀ ρ m, p0.ok ρ m := by exact fun _ _ => trivial) : CallOk p c.f args h t :=
  CSpec.okS hc (fun ρ hd P hP => by
    obtain ⟨R, K, hR, hKn, hchk⟩ := hK ρ hd
    exact servesW_ok hR hP _ _ hKn hchk) hnv ho hP hfree

theorem CSpec.okK {p0 p : Par} {c : CSpec} {R : Rules} {q : List (Nat × Int × Int)} {cs0 : List BE} (hcs0 : c.cs = ivC q ++ cs0) {run : T (AV × Heap)} (hc : CallOk p0 c.f c.args (viewHeap c.nv c.view) run) (hchk : c.chkK R q cs0 run = true) (hR : ∀ ρ, (∀ d ∈ ivC q ++ cs0, d.den ρ = true) → RulesOk ρ R) (hnv : 1000 ≤ c.nv) {args : List AV} {h : Heap} {t : T (AV × Heap)} (ho : c.orc args h = some t) (hP : p0.P = p.P := by rfl) (hfree : ∀ ρ m, p0.ok ρ m := by exact fun _ _ => trivial) : CallOk p c.f args h t :=
  CSpec.okR hc (fun ρ hd => by
    rw [hcs0] at hd
    exact ⟨R, knOf q cs0, hR ρ hd, knOf_ok (fun d h => hd d (List.mem_append_left _ h)) (fun d h => hd d (List.mem_append_right _ h)), hchk⟩) hnv ho hP hfree
theorem rules_nil (ρ : Rho) : RulesOk ρ [] := fun _ h => (List.not_mem_nil h).elim

noncomputable def allW {α : Type} (R : Rules) (Q : Kn → α → Bool) (t : T α) : Kn → Bool :=
  @T.rec α (fun _ => Kn → Bool) (fun a K => Q K a)
    (fun c _ _ ih1 ih2 K => match decW R K c with
      | some b => cond b (ih1 K) (ih2 K)
      | none => and (ih1 (addK true c K)) (ih2 (addK false c K)))
    (fun _ _ => false) t
theorem allW_ok {α : Type} {ρ : Rho} {R : Rules} (HR : RulesOk ρ R) {Q : Kn → α → Bool} {P : α → Prop} (hQ : ∀ K a, KnOk ρ K → Q K a = true → P a) : ∀ (t : T α) (K : Kn), KnOk ρ K → allW R Q t K = true → t.Holds ρ P
  | .ret a, K, H, h => hQ K a H h
  | .fail w, K, H, h => by cases h
  | .br c x y, K, H, h => by
    have h : (match decW R K c with
      | some b => cond b (allW R Q x K) (allW R Q y K)
      | none => and (allW R Q x (addK true c K)) (allW R Q y (addK false c K))) = true := h
    simp only [T.Holds]
    split at h
    · rename_i b hb
      have hc := decW_ok HR H hb
      cases b with
      | true => rw [hc, if_pos rfl]; exact allW_ok HR hQ x K H h
      | false => rw [hc, if_neg (by simp)]; exact allW_ok HR hQ y K H h
    · simp only [Bool.and_eq_true] at h
      cases hc : c.den ρ with
      | true => rw [if_pos rfl]; exact allW_ok HR hQ x _ (addK_ok c true K H hc) h.1
      | false => rw [if_neg (by simp)]; exact allW_ok HR hQ y _ (addK_ok c false K H hc) h.2

theorem isTrueK_ok {ρ : Rho} {K : Kn} {r : AV × Heap} (H : KnOk ρ K) (h : isTrueK K r = true) : ∃ b, r.1 = .bool b ∧ b.den ρ = true := by
  unfold isTrueK at h
  split at h
  · rename_i b hb
    split at h
    · rename_i c hc; subst h; exact ⟨_, hb, decK_ok H _ _ hc⟩
    · cases h
  · cases h
end Go.Sx
