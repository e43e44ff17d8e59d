/- CALLS WHOSE RESULTS HAVE NAMES: values that mean the same wherever the blocks lie alike. -/
import Derived.Test.YtpejfdjeejdocaaDoorSxCSpecK
/-! WHAT A CALL HANDS BACK, BY NAMES OF ITS OWN: variables that stand for it, where some more is known of the numbers. -/
namespace Go.Sx
open Go.RowKit

/-- where a tree ends -/
def T.leaf {α : Type} (ρ : Rho) : T α → Option α
  | .ret a => some a
  | .br c x y => if c.den ρ then x.leaf ρ else y.leaf ρ
  | .fail _ => none
theorem T.leaf_holds {α : Type} {ρ : Rho} {b : α} : ∀ (t : T α), t.leaf ρ = some b → t.Holds ρ fun a => a = b
  | .ret a, h => by simp only [T.leaf, Option.some.injEq] at h; exact h
  | .br c x y, h => by
    simp only [T.leaf] at h
    simp only [T.Holds]
    split at h
    · rename_i hc; rw [if_pos hc]; exact T.leaf_holds x h
    · rename_i hc; rw [if_neg hc]; exact T.leaf_holds y h
  | .fail w, h => by simp [T.leaf] at h

/-! ## Numbers that name the variables below a number alone -/
def varsI (n : Nat) : IE → Bool
  | .lit _ => true
  | .var i => Nat.ble (i + 1) n
  | .bin _ _ a b => and (varsI n a) (varsI n b)
  | .conv _ a => varsI n a
  | .mx a b => and (varsI n a) (varsI n b)
  | .mn a b => and (varsI n a) (varsI n b)
  | .app _ a b c => and (varsI n a) (and (varsI n b) (varsI n c))
def varsB (n : Nat) : BE → Bool
  | .lit _ => true
  | .var _ => true
  | .not a => varsB n a
  | .and a b => and (varsB n a) (varsB n b)
  | .cmp _ a b => and (varsI n a) (varsI n b)
  | .iff a b => and (varsB n a) (varsB n b)
  | .app _ a b c => and (varsI n a) (and (varsI n b) (varsI n c))
theorem varsI_den {n : Nat} {ρ ρ' : Rho} (h : ∀ i, i < n → ρ'.iv i = ρ.iv i) (hf : ρ'.fi = ρ.fi ∧ ρ'.fb = ρ.fb) : ∀ e : IE, varsI n e = true → e.den ρ' = e.den ρ
  | .lit _, _ => rfl
  | .var i, k => h i (ble_t.1 k)
  | .bin op kd a b, k => by
    simp only [varsI, Bool.and_eq_true] at k
    simp only [IE.den, varsI_den h hf a k.1, varsI_den h hf b k.2]
  | .conv kd a, k => by
    simp only [varsI] at k
    simp only [IE.den, varsI_den h hf a k]
  | .mx a b, k => by
    simp only [varsI, Bool.and_eq_true] at k
    simp only [IE.den, varsI_den h hf a k.1, varsI_den h hf b k.2]
  | .mn a b, k => by
    simp only [varsI, Bool.and_eq_true] at k
    simp only [IE.den, varsI_den h hf a k.1, varsI_den h hf b k.2]
  | .app f a b c, k => by
    simp only [varsI, Bool.and_eq_true] at k
    simp only [IE.den, varsI_den h hf a k.1, varsI_den h hf b k.2.1, varsI_den h hf c k.2.2, hf.1]
theorem varsB_den {n : Nat} {ρ ρ' : Rho} (h : ∀ i, i < n → ρ'.iv i = ρ.iv i) (hb : ρ'.bv = ρ.bv) (hf : ρ'.fi = ρ.fi ∧ ρ'.fb = ρ.fb) : ∀ c : BE, varsB n c = true → c.den ρ' = c.den ρ
  | .lit _, _ => rfl
  | .var i, _ => by simp only [BE.den, hb]
  | .not a, k => by
    simp only [varsB] at k
    simp only [BE.den, varsB_den h hb hf a k]
  | .and a b, k => by
    simp only [varsB, Bool.and_eq_true] at k
    simp only [BE.den, varsB_den h hb hf a k.1, varsB_den h hb hf b k.2]
  | .iff a b, k => by
    simp only [varsB, Bool.and_eq_true] at k
    simp only [BE.den, varsB_den h hb hf a k.1, varsB_den h hb hf b k.2]
  | .cmp op a b, k => by
    simp only [varsB, Bool.and_eq_true] at k
    simp only [BE.den, varsI_den h hf a k.1, varsI_den h hf b k.2]
  | .app f a b c, k => by
    simp only [varsB, Bool.and_eq_true] at k
    simp only [BE.den, varsI_den h hf a k.1, varsI_den h hf b k.2.1, varsI_den h hf c k.2.2, hf.2]

/-- a tree's conditions, and its ends -/
def varsT (n : Nat) (P : AV → Bool) : T AV → Bool
  | .ret a => P a
  | .br c x y => and (varsB n c) (and (varsT n P x) (varsT n P y))
  | .fail _ => true
theorem varsT_leaf {n : Nat} {P : AV → Bool} {ρ ρ' : Rho} (h : ∀ i, i < n → ρ'.iv i = ρ.iv i) (hb : ρ'.bv = ρ.bv) (hf : ρ'.fi = ρ.fi ∧ ρ'.fb = ρ.fb) : ∀ t : T AV, varsT n P t = true → t.leaf ρ' = t.leaf ρ ∧ ∀ b, t.leaf ρ = some b → P b = true
  | .ret a, k => ⟨rfl, fun b e => by simp only [T.leaf, Option.some.injEq] at e; subst e; exact k⟩
  | .fail w, _ => ⟨rfl, fun b e => by simp [T.leaf] at e⟩
  | .br c x y, k => by
    simp only [varsT, Bool.and_eq_true] at k
    obtain ⟨k1, k2, k3⟩ := k
    obtain ⟨x1, x2⟩ := varsT_leaf h hb hf x k2
    obtain ⟨y1, y2⟩ := varsT_leaf h hb hf y k3
    simp only [T.leaf, varsB_den h hb hf c k1]
    split
    · exact ⟨x1, x2⟩
    · exact ⟨y1, y2⟩

/-! ## A call whose result has names -/
/-- called just as it is said, with the view's blocks just so: it hands back 'v' -/
noncomputable def CSpec.orcX (c : CSpec) (v : AV) (args : List AV) (h : Heap) : Option (T (AV × Heap)) :=
  cond (and (eqAVs args c.args) (globsIn h c.view)) (some (.ret (v, h))) none

theorem globsIn_get {h : Heap} : ∀ (l : List (Nat × List AV)), globsIn h l = true → ∀ g ∈ l, ∃ el own ext, h.get g.1 = some (.cells g.2 el own ext)
  | [], _, g, hg => (List.not_mem_nil hg).elim
  | q :: l, h1, g, hg => by
    simp only [globsIn] at h1
    split at h1
    · rename_i c hcells
      cases he : eqAVs c q.2 with
      | false => rw [he] at h1; cases h1
      | true =>
        rw [he, cond_true] at h1
        rcases List.mem_cons.1 hg with rfl | hg
        · obtain ⟨el, own, ext, g0⟩ := cells_get' hcells
          exact ⟨el, own, ext, by rw [g0, eqAVs_eq _ _ he]⟩
        · exact globsIn_get l h1 g hg
    · cases h1

theorem CSpec.okX {p0 p : Par} {c : CSpec} {v : AV} {run : T (AV × Heap)} (hc : CallOk p0 c.f c.args (viewHeap c.nv c.view) run)
    (hK : ∀ ρ, (∀ d ∈ c.cs, d.den ρ = true) → ∃ R K, RulesOk ρ R ∧ KnOk ρ K ∧ servesW R c.u (run.bind fun r => .ret r.1) K = true) (hnv : 1000 ≤ c.nv)
    (hids : idsLts c.nv c.args = true) (hvids : lAll (fun g : Nat × List AV => and (Nat.ble (g.1 + 1) c.nv) (idsLts c.nv g.2)) c.view = true)
    (hv : ∀ ρ b, p.okB ρ b → (∀ d ∈ c.cs, d.den ρ = true) ∧ ∃ b, c.u.leaf ρ = some b ∧ SameE ρ v b) {args : List AV} {h : Heap} {t : T (AV × Heap)} (ho : c.orcX v args h = some t)
    (hP : p0.P = p.P := by rfl) (hfree : ∀ ρ m, p0.ok ρ m := by exact fun _ _ => trivial) : CallOk p c.f args h t := by
  unfold CSpec.orcX at ho
  obtain ⟨h1, h2⟩ := cond_some ho
  cases h2
  simp only [Bool.and_eq_true] at h1
  obtain ⟨h1, h2⟩ := h1
  have := eqAVs_eq _ _ h1; subst this
  refine callOk_of fun vs E w0 w Q HH ha k => ?_
  obtain ⟨hcs, b, hleaf, hsame⟩ := hv E.ρ _ HH.ok
  let E' : Env := ⟨E.ρ, fun x => if x < c.nv then E.σ x else none, E.κ, c.nv, fun _ => #[]⟩
  have hσ : ∀ x, x < c.nv → E'.σ x = E.σ x ∧ (E.σ x ≠ none → E'.κ x = E.κ x) := fun x hx => ⟨by simp only [E', if_pos hx], fun _ => rfl⟩
  have ha' : concL E' c.args = some vs := by rw [concL_ids (E := E) (E' := E') rfl hσ c.args hids]; exact ha
  have hview : ∀ g ∈ c.view, ViewIn w E' g := fun g hg => by
    obtain ⟨el, own, ext, g0⟩ := globsIn_get c.view h2 g hg
    have hg2 := lAll_mem' hvids g hg
    simp only [Bool.and_eq_true] at hg2
    have v0 := ViewIn.of_heap HH g0
    exact v0.re (hσ g.1 (ble_t.1 hg2.1)).1 (concL_ids (E := E) (E' := E') rfl hσ g.2 hg2.2)
  have HS : HeapOk p0 E' (viewHeap c.nv c.view) (Base.of w) w := view_ok hview
    (fun x hx => by simp only [E']; rw [if_neg (by omega)]) (fun x hx => by simp only [E']; rw [if_pos (by omega)]; exact HH.glob x hx) (Nat.le_refl _) (Par.okB_all hfree _ _)
  obtain ⟨R', K', hR, hKn, hchk⟩ := hK E.ρ hcs
  have hrun := servesW_ok hR (T.leaf_holds c.u hleaf) _ _ hKn hchk
  rw [T.holds_bind] at hrun
  obtain ⟨r1, r2⟩ := hc vs E' (Base.of w) w (fun r => ∃ b', b' = b ∧ pureAV b' = true ∧ SameE E.ρ r.1 b') (fun cv w' => conc E v = some cv ∧ Below w.heap.size w w') hrun HS ha'
    (fun v' h' E2 w' cv hq hle HH' hv' => by
      obtain ⟨b', rfl, hp, hs⟩ := hq
      refine ⟨?_, Base.keeps_below HH'.below⟩
      have hρ : E2.ρ = E.ρ := hle.ρ
      rw [← hv', hs E2 hρ, hsame E rfl]
      exact (conc_pure (E := E2) (E' := E) hρ.symm b' hp))
  rw [hP] at r1 r2
  refine ⟨r1, r2.mono ?_⟩
  rintro e w' ⟨cv, rfl, hcv, hb⟩
  exact ⟨v, cv, rfl, k, hcv, hb⟩

/-! ## Where more is known of the numbers -/
theorem HeapOk.re {P : Program} {RC : Nat → Nat → List Nat → Code → Code → Prop} {ok ok' : Rho → (Nat → Obj → Prop) → Prop} {E : Env} {h : Heap} {w0 : Base} {w : World} (H : HeapOk ⟨P, RC, ok⟩ E h w0 w) (hok : Par.okB ⟨P, RC, ok'⟩ E.ρ w0) : HeapOk ⟨P, RC, ok'⟩ E h w0 w :=
  ⟨fun b o e => by have := H.obj b o e; cases o <;> exact this, H.inj, H.base, H.ro, H.fresh, H.lt, H.glob, H.below, H.nx, hok⟩
theorem CallOk.lift {P : Program} {RC : Nat → Nat → List Nat → Code → Code → Prop} {ok : Rho → (Nat → Obj → Prop) → Prop} {f : FuncId} {args : List AV} {h : Heap} {t : T (AV × Heap)} (H : CallOk ⟨P, RC, fun _ _ => True⟩ f args h t) : CallOk ⟨P, RC, ok⟩ f args h t := by
  intro vs E w0 w Q K k HH ha P'
  exact H vs E w0 w Q K k (HH.re (Par.okB_all (fun _ _ => trivial) _ _)) ha fun v h' E' w' cv q hle HH' hv => P' v h' E' w' cv q hle (HH'.re (by rw [hle.ρ]; exact HH.ok)) hv

/-! ## Trees that end somewhere -/
def noFail {α : Type} : T α → Bool
  | .ret _ => true
  | .br _ x y => and (noFail x) (noFail y)
  | .fail _ => false
theorem noFail_leaf {α : Type} {ρ : Rho} : ∀ t : T α, noFail t = true → ∃ b, t.leaf ρ = some b
  | .ret a, _ => ⟨a, rfl⟩
  | .fail w, h => by cases h
  | .br c x y, h => by
    simp only [noFail, Bool.and_eq_true] at h
    obtain ⟨a, ha⟩ := noFail_leaf (ρ := ρ) x h.1
    obtain ⟨b, hb⟩ := noFail_leaf (ρ := ρ) y h.2
    simp only [T.leaf]
    split
    · exact ⟨a, ha⟩
    · exact ⟨b, hb⟩
end Go.Sx
/-! CALLS WHOSE RESULTS HAVE NAMES, whatever they mean: what a run ends with, where more is known of the numbers. -/
namespace Go.Sx
open Go.RowKit
theorem T.holds_leaf {α : Type} {ρ : Rho} {P : α → Prop} : ∀ t : T α, t.Holds ρ P → ∃ b, t.leaf ρ = some b ∧ P b
  | .ret a, h => ⟨a, rfl, h⟩
  | .fail w, h => absurd h id
  | .br c x y, h => by
    simp only [T.Holds] at h
    simp only [T.leaf]
    split at h
    · rename_i hc; rw [if_pos hc]; exact T.holds_leaf x h
    · rename_i hc; rw [if_neg hc]; exact T.holds_leaf y h
theorem T.leaf_of {α : Type} {ρ : Rho} {P : α → Prop} {t : T α} {b : α} (h : t.Holds ρ P) (e : t.leaf ρ = some b) : P b := by
  obtain ⟨b', e', p⟩ := T.holds_leaf t h
  rw [e] at e'; cases e'; exact p
/-- called just as it is said, with the view's blocks just so, on its terms: it hands back what the tree says -/
noncomputable def CSpec.orcY (c : CSpec) (u : T AV) (args : List AV) (h : Heap) : Option (T (AV × Heap)) :=
  cond (and (eqAVs args c.args) (globsIn h c.view)) (some (brAll (u.bind fun v => .ret (v, h)) c.cs)) none
theorem CSpec.okY {p0 p : Par} {c : CSpec} {u : T AV} {run : T (AV × Heap)} (hc : CallOk p0 c.f c.args (viewHeap c.nv c.view) run) (hnv : 1000 ≤ c.nv)
    (hids : idsLts c.nv c.args = true) (hvids : lAll (fun g : Nat × List AV => and (Nat.ble (g.1 + 1) c.nv) (idsLts c.nv g.2)) c.view = true)
    (hv : ∀ ρ b, p.okB ρ b → (∀ d ∈ c.cs, d.den ρ = true) → ∃ v v', (run.bind fun r => T.ret r.1).leaf ρ = some v ∧ idsLt c.nv v = true ∧ (∀ E vs, E.ρ = ρ → concL E c.args = some vs → ∃ x, conc E v = some x) ∧ u.leaf ρ = some v' ∧ SameE ρ v v') {args : List AV} {h : Heap} {t : T (AV × Heap)} (ho : c.orcY u args h = some t)
    (hP : p0.P = p.P) (hfree : ∀ ρ b b', p.okB ρ b → p0.okB ρ b') : CallOk p c.f args h t := by
  unfold CSpec.orcY at ho
  obtain ⟨h1, h2⟩ := cond_some ho
  cases h2
  simp only [Bool.and_eq_true] at h1
  obtain ⟨h1, h2⟩ := h1
  have := eqAVs_eq _ _ h1; subst this
  refine callOk_of fun vs E w0 w Q HH ha k => ?_
  obtain ⟨hcs, hret⟩ := brAll_holds k
  rw [T.holds_bind] at hret
  obtain ⟨b, b', hleaf, hidb, hdef, huleaf, hsame⟩ := hv E.ρ _ HH.ok hcs
  let E' : Env := ⟨E.ρ, fun x => if x < c.nv then E.σ x else none, E.κ, c.nv, fun _ => #[]⟩
  have hσ : ∀ x, x < c.nv → E'.σ x = E.σ x ∧ (E.σ x ≠ none → E'.κ x = E.κ x) := fun x hx => ⟨by simp only [E', if_pos hx], fun _ => rfl⟩
  have ha' : concL E' c.args = some vs := by rw [concL_ids (E := E) (E' := E') rfl hσ c.args hids]; exact ha
  have hview : ∀ g ∈ c.view, ViewIn w E' g := fun g hg => by
    obtain ⟨el, own, ext, g0⟩ := globsIn_get c.view h2 g hg
    have hg2 := lAll_mem' hvids g hg
    simp only [Bool.and_eq_true] at hg2
    have v0 := ViewIn.of_heap HH g0
    exact v0.re (hσ g.1 (ble_t.1 hg2.1)).1 (concL_ids (E := E) (E' := E') rfl hσ g.2 hg2.2)
  have HS : HeapOk p0 E' (viewHeap c.nv c.view) (Base.of w) w := view_ok hview
    (fun x hx => by simp only [E']; rw [if_neg (by omega)]) (fun x hx => by simp only [E']; rw [if_pos (by omega)]; exact HH.glob x hx) (Nat.le_refl _) (hfree _ _ _ HH.ok)
  have hrun := T.leaf_holds _ hleaf
  rw [T.holds_bind] at hrun
  obtain ⟨r1, r2⟩ := hc vs E' (Base.of w) w (fun r => r.1 = b) (fun cv w' => conc E b' = some cv ∧ Below w.heap.size w w') hrun HS ha'
    (fun v' h' E2 w' cv hq hle HH' hv' => by
      obtain rfl := hq
      refine ⟨?_, Base.keeps_below HH'.below⟩
      obtain ⟨x, hx⟩ := hdef E' vs rfl ha'
      have hx2 := conc_mono hle.tole0 _ _ hx
      rw [← hsame E rfl, ← conc_ids (E := E) (E' := E') rfl hσ _ hidb, hx, ← hx2, hv'])
  rw [hP] at r1 r2
  refine ⟨r1, r2.mono ?_⟩
  rintro e w' ⟨cv, rfl, hcv, hb⟩
  exact ⟨b', cv, rfl, T.leaf_of (P := fun a => Q (a, h)) hret huleaf, hcv, hb⟩
end Go.Sx
/-! CALLS WHOSE RESULTS HAVE NAMES: values that mean the same wherever the blocks lie alike. -/
namespace Go.Sx
open Go.RowKit
theorem CSpec.okZ {p0 p : Par} {c : CSpec} {u : T AV} {run : T (AV × Heap)} (hc : CallOk p0 c.f c.args (viewHeap c.nv c.view) run) (hnv : 1000 ≤ c.nv)
    (hids : idsLts c.nv c.args = true) (hvids : lAll (fun g : Nat × List AV => and (Nat.ble (g.1 + 1) c.nv) (idsLts c.nv g.2)) c.view = true)
    (hv : ∀ ρ b, p.okB ρ b → (∀ d ∈ c.cs, d.den ρ = true) → ∃ v v', (run.bind fun r => T.ret r.1).leaf ρ = some v ∧ (∀ E E' : Env, E.ρ = ρ → E'.ρ = ρ → (∀ b, b < c.nv → E'.σ b = E.σ b ∧ (E.σ b ≠ none → E'.κ b = E.κ b)) → conc E' v = conc E v) ∧ (∀ E vs, E.ρ = ρ → concL E c.args = some vs → ∃ x, conc E v = some x) ∧ u.leaf ρ = some v' ∧ SameE ρ v v') {args : List AV} {h : Heap} {t : T (AV × Heap)} (ho : c.orcY u args h = some t)
    (hP : p0.P = p.P) (hfree : ∀ ρ b b', p.okB ρ b → p0.okB ρ b') : CallOk p c.f args h t := by
  unfold CSpec.orcY at ho
  obtain ⟨h1, h2⟩ := cond_some ho
  cases h2
  simp only [Bool.and_eq_true] at h1
  obtain ⟨h1, h2⟩ := h1
  have := eqAVs_eq _ _ h1; subst this
  refine callOk_of fun vs E w0 w Q HH ha k => ?_
  obtain ⟨hcs, hret⟩ := brAll_holds k
  rw [T.holds_bind] at hret
  obtain ⟨b, b', hleaf, hidb, hdef, huleaf, hsame⟩ := hv E.ρ _ HH.ok hcs
  let E' : Env := ⟨E.ρ, fun x => if x < c.nv then E.σ x else none, E.κ, c.nv, fun _ => #[]⟩
  have hσ : ∀ x, x < c.nv → E'.σ x = E.σ x ∧ (E.σ x ≠ none → E'.κ x = E.κ x) := fun x hx => ⟨by simp only [E', if_pos hx], fun _ => rfl⟩
  have ha' : concL E' c.args = some vs := by rw [concL_ids (E := E) (E' := E') rfl hσ c.args hids]; exact ha
  have hview : ∀ g ∈ c.view, ViewIn w E' g := fun g hg => by
    obtain ⟨el, own, ext, g0⟩ := globsIn_get c.view h2 g hg
    have hg2 := lAll_mem' hvids g hg
    simp only [Bool.and_eq_true] at hg2
    have v0 := ViewIn.of_heap HH g0
    exact v0.re (hσ g.1 (ble_t.1 hg2.1)).1 (concL_ids (E := E) (E' := E') rfl hσ g.2 hg2.2)
  have HS : HeapOk p0 E' (viewHeap c.nv c.view) (Base.of w) w := view_ok hview
    (fun x hx => by simp only [E']; rw [if_neg (by omega)]) (fun x hx => by simp only [E']; rw [if_pos (by omega)]; exact HH.glob x hx) (Nat.le_refl _) (hfree _ _ _ HH.ok)
  have hrun := T.leaf_holds _ hleaf
  rw [T.holds_bind] at hrun
  obtain ⟨r1, r2⟩ := hc vs E' (Base.of w) w (fun r => r.1 = b) (fun cv w' => conc E b' = some cv ∧ Below w.heap.size w w') hrun HS ha'
    (fun v' h' E2 w' cv hq hle HH' hv' => by
      obtain rfl := hq
      refine ⟨?_, Base.keeps_below HH'.below⟩
      obtain ⟨x, hx⟩ := hdef E' vs rfl ha'
      have hx2 := conc_mono hle.tole0 _ _ hx
      rw [← hsame E rfl, ← hidb E E' rfl rfl hσ, hx, ← hx2, hv'])
  rw [hP] at r1 r2
  refine ⟨r1, r2.mono ?_⟩
  rintro e w' ⟨cv, rfl, hcv, hb⟩
  exact ⟨b', cv, rfl, T.leaf_of (P := fun a => Q (a, h)) hret huleaf, hcv, hb⟩
end Go.Sx
