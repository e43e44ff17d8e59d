/- CALLS WHOSE RESULTS HAVE NAMES, with blocks under other numbers, and new blocks: what a run ends with, number by number. -/
import Derived.Test.YtanhchkdglglhaaDoorSpSxCSpecK
import Derived.Test.YtanhchkdglglhaaDoorSpSxEnt
/-! WHAT A CALL HANDS BACK, BY NAMES OF ITS OWN: variables that stand for it, where some more is known of the numbers. -/
namespace Go.Sx
open Go.RowKit

/-- where a tree ends -/
def T.leaf {α : Type} (ρ : Rho) : T α → Option α
  | .ret a => some a
  | .br c x y => if c.den ρ then x.leaf ρ else y.leaf ρ
  | .fail _ => none
theorem T.leaf_holds {α : Type} {ρ : Rho} {b : α} : ∀ (t : T α), t.leaf ρ = some b → t.Holds ρ fun a => a = b
  | .ret a, h => by simp only [T.leaf, Option.some.injEq] at h; exact h
  | .br c x y, h => by
    simp only [T.leaf] at h
    simp only [T.Holds]
    split at h
    · rename_i hc; rw [if_pos hc]; exact T.leaf_holds x h
    · rename_i hc; rw [if_neg hc]; exact T.leaf_holds y h
  | .fail w, h => by simp [T.leaf] at h

/-! ## Numbers that name the variables below a number alone -/
def varsI (n : Nat) : IE → Bool
  | .lit _ => true
  | .var i => Nat.ble (i + 1) n
  | .bin _ _ a b => and (varsI n a) (varsI n b)
  | .conv _ a => varsI n a
  | .mx a b => and (varsI n a) (varsI n b)
  | .mn a b => and (varsI n a) (varsI n b)
  | .app _ a b c => and (varsI n a) (and (varsI n b) (varsI n c))
def varsB (n : Nat) : BE → Bool
  | .lit _ => true
  | .var _ => true
  | .not a => varsB n a
  | .and a b => and (varsB n a) (varsB n b)
  | .cmp _ a b => and (varsI n a) (varsI n b)
  | .iff a b => and (varsB n a) (varsB n b)
  | .app _ a b c => and (varsI n a) (and (varsI n b) (varsI n c))
theorem varsI_den {n : Nat} {ρ ρ' : Rho} (h : ∀ i, i < n → ρ'.iv i = ρ.iv i) (hf : ρ'.fi = ρ.fi ∧ ρ'.fb = ρ.fb) : ∀ e : IE, varsI n e = true → e.den ρ' = e.den ρ
  | .lit _, _ => rfl
  | .var i, k => h i (ble_t.1 k)
  | .bin op kd a b, k => by
    simp only [varsI, Bool.and_eq_true] at k
    simp only [IE.den, varsI_den h hf a k.1, varsI_den h hf b k.2]
  | .conv kd a, k => by
    simp only [varsI] at k
    simp only [IE.den, varsI_den h hf a k]
  | .mx a b, k => by
    simp only [varsI, Bool.and_eq_true] at k
    simp only [IE.den, varsI_den h hf a k.1, varsI_den h hf b k.2]
  | .mn a b, k => by
    simp only [varsI, Bool.and_eq_true] at k
    simp only [IE.den, varsI_den h hf a k.1, varsI_den h hf b k.2]
  | .app f a b c, k => by
    simp only [varsI, Bool.and_eq_true] at k
    simp only [IE.den, varsI_den h hf a k.1, varsI_den h hf b k.2.1, varsI_den h hf c k.2.2, hf.1]
theorem varsB_den {n : Nat} {ρ ρ' : Rho} (h : ∀ i, i < n → ρ'.iv i = ρ.iv i) (hb : ρ'.bv = ρ.bv) (hf : ρ'.fi = ρ.fi ∧ ρ'.fb = ρ.fb) : ∀ c : BE, varsB n c = true → c.den ρ' = c.den ρ
  | .lit _, _ => rfl
  | .var i, _ => by simp only [BE.den, hb]
  | .not a, k => by
    simp only [varsB] at k
    simp only [BE.den, varsB_den h hb hf a k]
  | .and a b, k => by
    simp only [varsB, Bool.and_eq_true] at k
    simp only [BE.den, varsB_den h hb hf a k.1, varsB_den h hb hf b k.2]
  | .iff a b, k => by
    simp only [varsB, Bool.and_eq_true] at k
    simp only [BE.den, varsB_den h hb hf a k.1, varsB_den h hb hf b k.2]
  | .cmp op a b, k => by
    simp only [varsB, Bool.and_eq_true] at k
    simp only [BE.den, varsI_den h hf a k.1, varsI_den h hf b k.2]
  | .app f a b c, k => by
    simp only [varsB, Bool.and_eq_true] at k
    simp only [BE.den, varsI_den h hf a k.1, varsI_den h hf b k.2.1, varsI_den h hf c k.2.2, hf.2]

/-- a tree's conditions, and its ends -/
def varsT (n : Nat) (P : AV → Bool) : T AV → Bool
  | .ret a => P a
  | .br c x y => and (varsB n c) (and (varsT n P x) (varsT n P y))
  | .fail _ => true
theorem varsT_leaf {n : Nat} {P : AV → Bool} {ρ ρ' : Rho} (h : ∀ i, i < n → ρ'.iv i = ρ.iv i) (hb : ρ'.bv = ρ.bv) (hf : ρ'.fi = ρ.fi ∧ ρ'.fb = ρ.fb) : ∀ t : T AV, varsT n P t = true → t.leaf ρ' = t.leaf ρ ∧ ∀ b, t.leaf ρ = some b → P b = true
  | .ret a, k => ⟨rfl, fun b e => by simp only [T.leaf, Option.some.injEq] at e; subst e; exact k⟩
  | .fail w, _ => ⟨rfl, fun b e => by simp [T.leaf] at e⟩
  | .br c x y, k => by
    simp only [varsT, Bool.and_eq_true] at k
    obtain ⟨k1, k2, k3⟩ := k
    obtain ⟨x1, x2⟩ := varsT_leaf h hb hf x k2
    obtain ⟨y1, y2⟩ := varsT_leaf h hb hf y k3
    simp only [T.leaf, varsB_den h hb hf c k1]
    split
    · exact ⟨x1, x2⟩
    · exact ⟨y1, y2⟩

/-! ## A call whose result has names -/
/-- called just as it is said, with the view's blocks just so: it hands back 'v' -/
noncomputable def CSpec.orcX (c : CSpec) (v : AV) (args : List AV) (h : Heap) : Option (T (AV × Heap)) :=
  cond (and (eqAVs args c.args) (globsIn h c.view)) (some (.ret (v, h))) none

theorem globsIn_get {h : Heap} : ∀ (l : List (Nat × List AV)), globsIn h l = true → ∀ g ∈ l, ∃ el own ext, h.get g.1 = some (.cells g.2 el own ext)
  | [], _, g, hg => (List.not_mem_nil hg).elim
  | q :: l, h1, g, hg => by
    simp only [globsIn] at h1
    split at h1
    · rename_i c hcells
      cases he : eqAVs c q.2 with
      | false => rw [he] at h1; cases h1
      | true =>
        rw [he, cond_true] at h1
        rcases List.mem_cons.1 hg with rfl | hg
        · obtain ⟨el, own, ext, g0⟩ := cells_get' hcells
          exact ⟨el, own, ext, by rw [g0, eqAVs_eq _ _ he]⟩
        · exact globsIn_get l h1 g hg
    · cases h1

theorem CSpec.okX {p0 p : Par} {c : CSpec} {v : AV} {run : T (AV × Heap)} (hc : CallOk p0 c.f c.args (viewHeap c.nv c.view) run)
    (hK : ∀ ρ, (∀ d ∈ c.cs, d.den ρ = true) → ∃ R K, RulesOk ρ R ∧ KnOk ρ K ∧ servesW R c.u (run.bind fun r => .ret r.1) K = true) (hnv : 1000 ≤ c.nv)
    (hids : idsLts c.nv c.args = true) (hvids : lAll (fun g : Nat × List AV => and (Nat.ble (g.1 + 1) c.nv) (idsLts c.nv g.2)) c.view = true)
    (hv : ∀ ρ b, p.okB ρ b → (∀ d ∈ c.cs, d.den ρ = true) ∧ ∃ b, c.u.leaf ρ = some b ∧ SameE ρ v b) {args : List AV} {h : Heap} {t : T (AV × Heap)} (ho : c.orcX v args h = some t)
    (hP : p0.P = p.P := by rfl) (hfree : ∀ ρ m, p0.ok ρ m := by exact fun _ _ => trivial) : CallOk p c.f args h t := by
  unfold CSpec.orcX at ho
  obtain ⟨h1, h2⟩ := cond_some ho
  cases h2
  simp only [Bool.and_eq_true] at h1
  obtain ⟨h1, h2⟩ := h1
  have := eqAVs_eq _ _ h1; subst this
  refine callOk_of fun vs E w0 w Q HH ha k => ?_
  obtain ⟨hcs, b, hleaf, hsame⟩ := hv E.ρ _ HH.ok
  let E' : Env := ⟨E.ρ, fun x => if x < c.nv then E.σ x else none, E.κ, c.nv, fun _ => #[]⟩
  have hσ : ∀ x, x < c.nv → E'.σ x = E.σ x ∧ (E.σ x ≠ none → E'.κ x = E.κ x) := fun x hx => ⟨by simp only [E', if_pos hx], fun _ => rfl⟩
  have ha' : concL E' c.args = some vs := by rw [concL_ids (E := E) (E' := E') rfl hσ c.args hids]; exact ha
  have hview : ∀ g ∈ c.view, ViewIn w E' g := fun g hg => by
    obtain ⟨el, own, ext, g0⟩ := globsIn_get c.view h2 g hg
    have hg2 := lAll_mem' hvids g hg
    simp only [Bool.and_eq_true] at hg2
    have v0 := ViewIn.of_heap HH g0
    exact v0.re (hσ g.1 (ble_t.1 hg2.1)).1 (concL_ids (E := E) (E' := E') rfl hσ g.2 hg2.2)
  have HS : HeapOk p0 E' (viewHeap c.nv c.view) (Base.of w) w := view_ok hview
    (fun x hx => by simp only [E']; rw [if_neg (by omega)]) (fun x hx => by simp only [E']; rw [if_pos (by omega)]; exact HH.glob x hx) (Nat.le_refl _) (Par.okB_all hfree _ _)
  obtain ⟨R', K', hR, hKn, hchk⟩ := hK E.ρ hcs
  have hrun := servesW_ok hR (T.leaf_holds c.u hleaf) _ _ hKn hchk
  rw [T.holds_bind] at hrun
  obtain ⟨r1, r2⟩ := hc vs E' (Base.of w) w (fun r => ∃ b', b' = b ∧ pureAV b' = true ∧ SameE E.ρ r.1 b') (fun cv w' => conc E v = some cv ∧ Below w.heap.size w w') hrun HS ha'
    (fun v' h' E2 w' cv hq hle HH' hv' => by
      obtain ⟨b', rfl, hp, hs⟩ := hq
      refine ⟨?_, Base.keeps_below HH'.below⟩
      have hρ : E2.ρ = E.ρ := hle.ρ
      rw [← hv', hs E2 hρ, hsame E rfl]
      exact (conc_pure (E := E2) (E' := E) hρ.symm b' hp))
  rw [hP] at r1 r2
  refine ⟨r1, r2.mono ?_⟩
  rintro e w' ⟨cv, rfl, hcv, hb⟩
  exact ⟨v, cv, rfl, k, hcv, hb⟩

/-! ## Where more is known of the numbers -/
theorem HeapOk.re {P : Program} {RC : Nat → Nat → List Nat → Code → Code → Prop} {ok ok' : Rho → (Nat → Obj → Prop) → Prop} {E : Env} {h : Heap} {w0 : Base} {w : World} (H : HeapOk ⟨P, RC, ok⟩ E h w0 w) (hok : Par.okB ⟨P, RC, ok'⟩ E.ρ w0) : HeapOk ⟨P, RC, ok'⟩ E h w0 w :=
  ⟨fun b o e => by have := H.obj b o e; cases o <;> exact this, H.inj, H.base, H.ro, H.fresh, H.lt, H.glob, H.below, H.nx, hok⟩
theorem CallOk.lift {P : Program} {RC : Nat → Nat → List Nat → Code → Code → Prop} {ok : Rho → (Nat → Obj → Prop) → Prop} {f : FuncId} {args : List AV} {h : Heap} {t : T (AV × Heap)} (H : CallOk ⟨P, RC, fun _ _ => True⟩ f args h t) : CallOk ⟨P, RC, ok⟩ f args h t := by
  intro vs E w0 w Q K k HH ha P'
  exact H vs E w0 w Q K k (HH.re (Par.okB_all (fun _ _ => trivial) _ _)) ha fun v h' E' w' cv q hle HH' hv => P' v h' E' w' cv q hle (HH'.re (by rw [hle.ρ]; exact HH.ok)) hv

/-! ## Trees that end somewhere -/
def noFail {α : Type} : T α → Bool
  | .ret _ => true
  | .br _ x y => and (noFail x) (noFail y)
  | .fail _ => false
theorem noFail_leaf {α : Type} {ρ : Rho} : ∀ t : T α, noFail t = true → ∃ b, t.leaf ρ = some b
  | .ret a, _ => ⟨a, rfl⟩
  | .fail w, h => by cases h
  | .br c x y, h => by
    simp only [noFail, Bool.and_eq_true] at h
    obtain ⟨a, ha⟩ := noFail_leaf (ρ := ρ) x h.1
    obtain ⟨b, hb⟩ := noFail_leaf (ρ := ρ) y h.2
    simp only [T.leaf]
    split
    · exact ⟨a, ha⟩
    · exact ⟨b, hb⟩
end Go.Sx
/-! CALLS WHOSE RESULTS HAVE NAMES, whatever they mean: what a run ends with, where more is known of the numbers. -/
namespace Go.Sx
open Go.RowKit
theorem T.holds_leaf {α : Type} {ρ : Rho} {P : α → Prop} : ∀ t : T α, t.Holds ρ P → ∃ b, t.leaf ρ = some b ∧ P b
  | .ret a, h => ⟨a, rfl, h⟩
  | .fail w, h => absurd h id
  | .br c x y, h => by
    simp only [T.Holds] at h
    simp only [T.leaf]
    split at h
    · rename_i hc; rw [if_pos hc]; exact T.holds_leaf x h
    · rename_i hc; rw [if_neg hc]; exact T.holds_leaf y h
theorem T.leaf_of {α : Type} {ρ : Rho} {P : α → Prop} {t : T α} {b : α} (h : t.Holds ρ P) (e : t.leaf ρ = some b) : P b := by
  obtain ⟨b', e', p⟩ := T.holds_leaf t h
  rw [e] at e'; cases e'; exact p
/-- called just as it is said, with the view's blocks just so, on its terms: it hands back what the tree says -/
noncomputable def CSpec.orcY (c : CSpec) (u : T AV) (args : List AV) (h : Heap) : Option (T (AV × Heap)) :=
  cond (and (eqAVs args c.args) (globsIn h c.view)) (some (brAll (u.bind fun v => .ret (v, h)) c.cs)) none
theorem CSpec.okY {p0 p : Par} {c : CSpec} {u : T AV} {run : T (AV × Heap)} (hc : CallOk p0 c.f c.args (viewHeap c.nv c.view) run) (hnv : 1000 ≤ c.nv)
    (hids : idsLts c.nv c.args = true) (hvids : lAll (fun g : Nat × List AV => and (Nat.ble (g.1 + 1) c.nv) (idsLts c.nv g.2)) c.view = true)
    (hv : ∀ ρ b, p.okB ρ b → (∀ d ∈ c.cs, d.den ρ = true) → ∃ v v', (run.bind fun r => T.ret r.1).leaf ρ = some v ∧ idsLt c.nv v = true ∧ (∀ E vs, E.ρ = ρ → concL E c.args = some vs → ∃ x, conc E v = some x) ∧ u.leaf ρ = some v' ∧ SameE ρ v v') {args : List AV} {h : Heap} {t : T (AV × Heap)} (ho : c.orcY u args h = some t)
    (hP : p0.P = p.P) (hfree : ∀ ρ b b', p.okB ρ b → p0.okB ρ b') : CallOk p c.f args h t := by
  unfold CSpec.orcY at ho
  obtain ⟨h1, h2⟩ := cond_some ho
  cases h2
  simp only [Bool.and_eq_true] at h1
  obtain ⟨h1, h2⟩ := h1
  have := eqAVs_eq _ _ h1; subst this
  refine callOk_of fun vs E w0 w Q HH ha k => ?_
  obtain ⟨hcs, hret⟩ := brAll_holds k
  rw [T.holds_bind] at hret
  obtain ⟨b, b', hleaf, hidb, hdef, huleaf, hsame⟩ := hv E.ρ _ HH.ok hcs
  let E' : Env := ⟨E.ρ, fun x => if x < c.nv then E.σ x else none, E.κ, c.nv, fun _ => #[]⟩
  have hσ : ∀ x, x < c.nv → E'.σ x = E.σ x ∧ (E.σ x ≠ none → E'.κ x = E.κ x) := fun x hx => ⟨by simp only [E', if_pos hx], fun _ => rfl⟩
  have ha' : concL E' c.args = some vs := by rw [concL_ids (E := E) (E' := E') rfl hσ c.args hids]; exact ha
  have hview : ∀ g ∈ c.view, ViewIn w E' g := fun g hg => by
    obtain ⟨el, own, ext, g0⟩ := globsIn_get c.view h2 g hg
    have hg2 := lAll_mem' hvids g hg
    simp only [Bool.and_eq_true] at hg2
    have v0 := ViewIn.of_heap HH g0
    exact v0.re (hσ g.1 (ble_t.1 hg2.1)).1 (concL_ids (E := E) (E' := E') rfl hσ g.2 hg2.2)
  have HS : HeapOk p0 E' (viewHeap c.nv c.view) (Base.of w) w := view_ok hview
    (fun x hx => by simp only [E']; rw [if_neg (by omega)]) (fun x hx => by simp only [E']; rw [if_pos (by omega)]; exact HH.glob x hx) (Nat.le_refl _) (hfree _ _ _ HH.ok)
  have hrun := T.leaf_holds _ hleaf
  rw [T.holds_bind] at hrun
  obtain ⟨r1, r2⟩ := hc vs E' (Base.of w) w (fun r => r.1 = b) (fun cv w' => conc E b' = some cv ∧ Below w.heap.size w w') hrun HS ha'
    (fun v' h' E2 w' cv hq hle HH' hv' => by
      obtain rfl := hq
      refine ⟨?_, Base.keeps_below HH'.below⟩
      obtain ⟨x, hx⟩ := hdef E' vs rfl ha'
      have hx2 := conc_mono hle.tole0 _ _ hx
      rw [← hsame E rfl, ← conc_ids (E := E) (E' := E') rfl hσ _ hidb, hx, ← hx2, hv'])
  rw [hP] at r1 r2
  refine ⟨r1, r2.mono ?_⟩
  rintro e w' ⟨cv, rfl, hcv, hb⟩
  exact ⟨b', cv, rfl, T.leaf_of (P := fun a => Q (a, h)) hret huleaf, hcv, hb⟩
end Go.Sx
/-! CALLS WHOSE RESULTS HAVE NAMES: values that mean the same wherever the blocks lie alike. -/
namespace Go.Sx
open Go.RowKit
theorem CSpec.okZ {p0 p : Par} {c : CSpec} {u : T AV} {run : T (AV × Heap)} (hc : CallOk p0 c.f c.args (viewHeap c.nv c.view) run) (hnv : 1000 ≤ c.nv)
    (hids : idsLts c.nv c.args = true) (hvids : lAll (fun g : Nat × List AV => and (Nat.ble (g.1 + 1) c.nv) (idsLts c.nv g.2)) c.view = true)
    (hv : ∀ ρ b, p.okB ρ b → (∀ d ∈ c.cs, d.den ρ = true) → ∃ v v', (run.bind fun r => T.ret r.1).leaf ρ = some v ∧ (∀ E E' : Env, E.ρ = ρ → E'.ρ = ρ → (∀ b, b < c.nv → E'.σ b = E.σ b ∧ (E.σ b ≠ none → E'.κ b = E.κ b)) → conc E' v = conc E v) ∧ (∀ E vs, E.ρ = ρ → concL E c.args = some vs → ∃ x, conc E v = some x) ∧ u.leaf ρ = some v' ∧ SameE ρ v v') {args : List AV} {h : Heap} {t : T (AV × Heap)} (ho : c.orcY u args h = some t)
    (hP : p0.P = p.P) (hfree : ∀ ρ b b', p.okB ρ b → p0.okB ρ b') : CallOk p c.f args h t := by
  unfold CSpec.orcY at ho
  obtain ⟨h1, h2⟩ := cond_some ho
  cases h2
  simp only [Bool.and_eq_true] at h1
  obtain ⟨h1, h2⟩ := h1
  have := eqAVs_eq _ _ h1; subst this
  refine callOk_of fun vs E w0 w Q HH ha k => ?_
  obtain ⟨hcs, hret⟩ := brAll_holds k
  rw [T.holds_bind] at hret
  obtain ⟨b, b', hleaf, hidb, hdef, huleaf, hsame⟩ := hv E.ρ _ HH.ok hcs
  let E' : Env := ⟨E.ρ, fun x => if x < c.nv then E.σ x else none, E.κ, c.nv, fun _ => #[]⟩
  have hσ : ∀ x, x < c.nv → E'.σ x = E.σ x ∧ (E.σ x ≠ none → E'.κ x = E.κ x) := fun x hx => ⟨by simp only [E', if_pos hx], fun _ => rfl⟩
  have ha' : concL E' c.args = some vs := by rw [concL_ids (E := E) (E' := E') rfl hσ c.args hids]; exact ha
  have hview : ∀ g ∈ c.view, ViewIn w E' g := fun g hg => by
    obtain ⟨el, own, ext, g0⟩ := globsIn_get c.view h2 g hg
    have hg2 := lAll_mem' hvids g hg
    simp only [Bool.and_eq_true] at hg2
    have v0 := ViewIn.of_heap HH g0
    exact v0.re (hσ g.1 (ble_t.1 hg2.1)).1 (concL_ids (E := E) (E' := E') rfl hσ g.2 hg2.2)
  have HS : HeapOk p0 E' (viewHeap c.nv c.view) (Base.of w) w := view_ok hview
    (fun x hx => by simp only [E']; rw [if_neg (by omega)]) (fun x hx => by simp only [E']; rw [if_pos (by omega)]; exact HH.glob x hx) (Nat.le_refl _) (hfree _ _ _ HH.ok)
  have hrun := T.leaf_holds _ hleaf
  rw [T.holds_bind] at hrun
  obtain ⟨r1, r2⟩ := hc vs E' (Base.of w) w (fun r => r.1 = b) (fun cv w' => conc E b' = some cv ∧ Below w.heap.size w w') hrun HS ha'
    (fun v' h' E2 w' cv hq hle HH' hv' => by
      obtain rfl := hq
      refine ⟨?_, Base.keeps_below HH'.below⟩
      obtain ⟨x, hx⟩ := hdef E' vs rfl ha'
      have hx2 := conc_mono hle.tole0 _ _ hx
      rw [← hsame E rfl, ← hidb E E' rfl rfl hσ, hx, ← hx2, hv'])
  rw [hP] at r1 r2
  refine ⟨r1, r2.mono ?_⟩
  rintro e w' ⟨cv, rfl, hcv, hb⟩
  exact ⟨b', cv, rfl, T.leaf_of (P := fun a => Q (a, h)) hret huleaf, hcv, hb⟩
end Go.Sx
/-! CALLS WHOSE RESULTS HAVE NAMES, with blocks under other numbers, and new blocks: what a run ends with, number by number. -/
namespace Go.Sx
open Go.RowKit
/-- a block whose numbers are alike -/
def SameO (ρ : Rho) (o : AObj) (q : NB) : Prop :=
  match q with
  | .cells cs el ext => ∃ cs' more, o = .cells (cs' ++ more) el true ext ∧ SameEs ρ cs' cs ∧ (more = [] ∨ ext = true)
  | .map es k => o = .map es k
theorem SameO.own {ρ : Rho} {o : AObj} {q : NB} (h : SameO ρ o q) : ownO o = true := by
  cases q with
  | cells cs el ext => obtain ⟨cs', more, rfl, _⟩ := h; rfl
  | map es k => have h : o = .map es k := h; subst h; rfl
theorem concL_split {E : Env} : ∀ {l m : List AV} {vs : List Value}, concL E (l ++ m) = some vs → ∃ us ws, concL E l = some us ∧ concL E m = some ws ∧ vs = us ++ ws
  | [], m, vs, h => ⟨[], vs, rfl, h, rfl⟩
  | a :: l, m, vs, h => by
    obtain ⟨x, r, h1, h2, rfl⟩ := concL_cons.1 h
    obtain ⟨us, ws, k1, k2, rfl⟩ := concL_split h2
    exact ⟨x :: us, ws, concL_cons.2 ⟨x, us, h1, k1, rfl⟩, k2, rfl⟩
theorem SameO.obj {p : Par} {E : Env} {b : Nat} {o : AObj} {q : NB} {heap : Array Obj} (h : SameO E.ρ o q) (H : objOk p E b o heap) : objOk p E b q.raw heap := by
  cases q with
  | cells cs el ext =>
    obtain ⟨cs', more, rfl, hs, hm⟩ := h
    obtain ⟨c, base, vs, cells, el', fz, k1, k2, k3, k4, k5⟩ := H
    obtain ⟨us, ws, u1, u2, rfl⟩ := concL_split k2
    refine ⟨c, base, us, cells, el', fz, k1, by rw [← hs E rfl]; exact u1, k3, fun i hi => ?_, fun ho => ?_⟩
    · rw [k4 i (by rw [List.length_append]; omega), List.getElem?_append_left hi]
    · obtain ⟨a1, a2, a3, a4⟩ := k5 ho
      refine ⟨a1, a2, fun he => ?_, a4⟩
      rcases hm with rfl | hm
      · have : ws = [] := by simpa [concL] using u2
        subst this
        rw [a3 he]; simp
      · rw [hm] at he; cases he
  | map es k => have h : o = .map es k := h; subst h; exact H
noncomputable def putN : List (Nat × NB) → Heap → Heap
  | [], h => h
  | q :: l, h => (putN l h).put q.1 q.2.raw
theorem putN_get : ∀ (l : List (Nat × NB)) (h : Heap) (n : Nat), rises n l = true → ∀ q ∈ l, (putN l h).get q.1 = some q.2.raw
  | [], _, _, _, q, hq => (List.not_mem_nil hq).elim
  | p :: l, h, n, hr, q, hq => by
    have hr0 := hr
    simp only [rises] at hr
    obtain ⟨h1, h2⟩ : Nat.ble n p.1 = true ∧ rises (Nat.succ p.1) l = true := by
      cases h1 : Nat.ble n p.1 with
      | false => rw [h1] at hr; cases hr
      | true => rw [h1] at hr; exact ⟨rfl, hr⟩
    simp only [putN]
    rw [Heap.get_put]
    rcases List.mem_cons.1 hq with rfl | hq
    · rw [if_pos rfl]
    · have := rises_ge l _ h2 q hq
      rw [if_neg (by omega)]
      exact putN_get l h _ h2 q hq
theorem putN_next : ∀ (l : List (Nat × NB)) (h : Heap), (putN l h).next = h.next
  | [], _ => rfl
  | _ :: l, h => by simp only [putN]; rw [Heap.next_put]; exact putN_next l h
theorem putN_ok {p : Par} {E : Env} {w0 : Base} {w : World} : ∀ (l : List (Nat × NB)) (h : Heap), HeapOk p E h w0 w → (∀ q ∈ l, ∃ o, h.get q.1 = some o ∧ SameO E.ρ o q.2) → HeapOk p E (putN l h) w0 w ∧ ∀ j o, (putN l h).get j = some o → ∃ o0, h.get j = some o0 ∧ (ownO o0 = ownO o) ∧ (roO o0 = roO o)
  | [], h, H, _ => ⟨H, fun j o e => ⟨o, e, rfl, rfl⟩⟩
  | q :: l, h, H, hs => by
    obtain ⟨H1, g1⟩ := putN_ok l h H fun q' hq' => hs q' (List.mem_cons_of_mem _ hq')
    obtain ⟨o, ho, hso⟩ := hs q List.mem_cons_self
    have hob := hso.obj (H.obj _ _ ho)
    have hown : ownO q.2.raw = true := q.2.raw_own
    have hro : ∀ x : AObj, ownO x = true → roO x = false := fun x hx => by cases x <;> simp_all [ownO, roO]
    have back : ∀ j x, ((putN l h).put q.1 q.2.raw).get j = some x → ∃ o0, h.get j = some o0 ∧ (ownO o0 = ownO x) ∧ (roO o0 = roO x) := fun j x e => by
      rw [Heap.get_put] at e
      split at e
      · rename_i hj; subst hj; cases e
        exact ⟨o, ho, by rw [hso.own, hown], by rw [hro _ hso.own, hro _ hown]⟩
      · exact g1 j x e
    refine ⟨⟨fun b x e => ?_, fun b b' x x' c y z e e' w1 w2 s1 s2 => ?_, fun b x c y e w1 s => ?_, fun b x c y e r1 s => ?_, fun b hb => H.fresh b (by rw [putN_next] at hb; exact hb), fun b x c y e s => ?_, H.glob, H.below, (by rw [putN_next]; exact H.nx), H.ok⟩, back⟩
    · have e0 := e
      simp only [putN] at e
      rw [Heap.get_put] at e
      split at e
      · rename_i hj; subst hj; cases e; exact hob
      · exact H1.obj b x e
    · obtain ⟨o1, a1, a2, _⟩ := back _ _ e
      obtain ⟨o2, b1, b2, _⟩ := back _ _ e'
      exact H.inj _ _ _ _ _ _ _ a1 b1 (a2.trans w1) (b2.trans w2) s1 s2
    · obtain ⟨o1, a1, a2, _⟩ := back _ _ e
      exact H.base _ _ _ _ a1 (a2.trans w1) s
    · obtain ⟨o1, a1, _, a3⟩ := back _ _ e
      exact H.ro _ _ _ _ a1 (a3.trans r1) s
    · obtain ⟨o1, a1, _, _⟩ := back _ _ e
      exact H.lt _ _ _ _ a1 s
/-- A CALL WHOSE RESULT HAS NAMES: it meets what is said of it, on its terms; what its run ends with is that, number by number. -/
theorem meetN {p : Par} {ty : Nat → Option TI} {tb : Tabs} (B : TabOk p ty tb) {d : Nat} {f : FuncId} {args0 : List AV} {n : Nat} {view : List (Nat × VO)} (hst : and (Nat.ble 1000 n) (and (viewUp 0 view) (outsOk n view [])) = true) {args : List AV} {h : Heap} {cs : List BE} {rr : AV × Heap}
    (hsem : ∀ ρ b, p.okB ρ b → (∀ c ∈ cs, c.den ρ = true) → ∃ res news r1, rises n news = true ∧ (Ent.mk f args0 n view res news []).meet args h = some (.ret rr) ∧ (evalN tb d false f args0 (viewO n view)).leaf ρ = some r1 ∧ SameE ρ r1.1 res ∧
      ∀ q ∈ news, ∃ o, r1.2.get q.1 = some o ∧ SameO ρ o q.2) : CallOk p f args h (brAll (.ret rr) cs) := by
  intro vs E w0 w Q K k0 HH ha P
  obtain ⟨hcs, k⟩ := brAll_holds k0
  obtain ⟨res, news, ⟨v1, h1⟩, k3, hm, hleaf, hsame, hnews⟩ := hsem E.ρ _ HH.ok hcs
  let e : Ent := Ent.mk f args0 n view res news []
  have hm : e.meet args h = some (.ret rr) := hm
  simp only [Bool.and_eq_true] at hst
  obtain ⟨k4, k6, k7⟩ := hst
  unfold Ent.meet at hm
  split at hm
  · rename_i r0 h0
    split at hm
    · rename_i r hr
      obtain ⟨hinj, hm⟩ := cond_some hm
      split at hm
      · rename_i v hv
        split at hm
        · rename_i h2 hn
          split at hm
          · rename_i h3 hp
            cases hm
            obtain ⟨s0, m0⟩ := mtL_ok _ _ _ _ h0
            obtain ⟨s1, m1⟩ := mtView_ok _ _ _ hr
            have R : Rel e.n E (envR e.n E r) r := envR_rel HH.glob
            · -- (what the run ends with)
              have hn1 : 1000 ≤ e.n := ble_t.1 k4
              obtain ⟨o1, o2⟩ := outsOk_own _ _ k7
              have hargs : concL (envR e.n E r) e.args = some vs := by rw [m0 E _ (R.sub s1)]; exact ha
              have hview := m1 R HH
              have h1000 : ∀ b, b < 1000 → (envR e.n E r).σ b = some (b, 0) := fun b hb => by simp only [envR, if_pos hb]
              have res1000 : ∀ b c, 1000 ≤ b → (cond (Nat.ble (Nat.succ b) 1000) (some b) (cond (Nat.ble (Nat.succ b) e.n) (lFind r b) none)) = some c → lFind r b = some c := fun b c hb hc => by
                have k1 : Nat.ble (Nat.succ b) 1000 = false := by
                  cases hk : Nat.ble (Nat.succ b) 1000 with
                  | false => rfl
                  | true => have := ble_t.1 hk; omega
                rw [k1, cond_false] at hc
                exact (cond_some hc).2
              -- what may be written lies where it may be
              have outR : ∀ q ∈ e.outs, 1000 ≤ q.1 ∧ q.1 < e.n ∧ ∃ g ∈ e.view, g.1 = q.1 ∧ g.2.isOwn = true ∧ ∃ j o, lFind r q.1 = some j ∧ h.get j = some o ∧ ownO o = true ∧ (envR e.n E r).σ q.1 = E.σ j := fun q hq => by
                obtain ⟨b1, b2, g, b3, b4, b5⟩ := o2 q hq
                obtain ⟨b, o, c1, c2, c3, c4, c5⟩ := (hview g b3).at_
                rw [b4] at c1 c3
                exact ⟨b1, b2, g, b3, b4, b5, b, o, res1000 _ _ b1 c1, c2, c4 b5, c3⟩
              have inj : e.outs ≠ [] → injR r = true := fun hne => absurd rfl hne
              let b1 : Base := ⟨w, fun c => c < w.heap.size ∧ ∀ q ∈ e.outs, ∀ x, (envR e.n E r).σ q.1 ≠ some (c, x), fun c hc => hc.1⟩
              have hvo : HeapOk p (envR e.n E r) (viewO e.n e.view) b1 w := by
                have obj : ∀ b o, (viewO e.n e.view).get b = some o → objOk p (envR e.n E r) b o w.heap := fun b o ho => by
                  obtain ⟨g, hg, rfl, rfl⟩ := viewO_get _ _ _ _ ho
                  exact (hview g hg).obj
                have lt : ∀ b o c x, (viewO e.n e.view).get b = some o → (envR e.n E r).σ b = some (c, x) → c < w.heap.size := fun b o c x ho hs => by
                  obtain ⟨g, hg, rfl, rfl⟩ := viewO_get _ _ _ _ ho
                  obtain ⟨b', o', c1, c2, c3, c4, c5⟩ := (hview g hg).at_
                  rw [c3] at hs
                  exact HH.lt _ _ _ _ c2 hs
                have own : ∀ b o, (viewO e.n e.view).get b = some o → ownO o = true → ∃ q ∈ e.outs, q.1 = b := fun b o ho hw => by
                  obtain ⟨g, hg, rfl, rfl⟩ := viewO_get _ _ _ _ ho
                  rw [VO.own_obj] at hw
                  exact o1 g hg hw
                have same : ∀ q ∈ e.outs, ∀ b o c x y, (viewO e.n e.view).get b = some o → (envR e.n E r).σ b = some (c, x) → (envR e.n E r).σ q.1 = some (c, y) → b = q.1 := by
                  intro q hq b o c x y ho hs hs'
                  have hi := injR_ok (inj (fun h0 => by rw [h0] at hq; cases hq))
                  obtain ⟨d1, d2, g', d3, d4, d5, j, o', d6, d7, d8, d9⟩ := outR q hq
                  obtain ⟨g, hg, rfl, rfl⟩ := viewO_get _ _ _ _ ho
                  obtain ⟨b', o2, c1, c2, c3, c4, c5⟩ := (hview g hg).at_
                  rw [c3] at hs
                  rw [d9] at hs'
                  have hj : b' = j := by
                    rcases c5 with c5 | c5
                    · exact HH.inj _ _ _ _ _ _ _ c2 d7 c5 d8 hs hs'
                    · exact absurd (HH.ro _ _ _ _ c2 c5 hs) (HH.base _ _ _ _ d7 d8 hs')
                  subst hj
                  rcases Nat.lt_or_ge g.1 1000 with hlt | hge
                  · have : g.1 = b' := by
                      have k1 : Nat.ble (Nat.succ g.1) 1000 = true := ble_t.2 hlt
                      rw [k1, cond_true] at c1; exact Option.some.inj c1
                    have := (hi.1 _ _ d6).1
                    omega
                  · exact hi.2 _ _ _ (res1000 _ _ hge c1) d6
                refine ⟨obj, fun b b' o o' c x y g1 g2 w1 w2 s1 s2 => ?_, fun b o c x ho hw hs hc => ?_, fun b o c y ho hr hs => ?_, fun b hb => ?_, lt, h1000, Kept.refl _ _, (by rw [viewO_next]; exact Nat.le_refl _), HH.ok.mono fun c o e' => ⟨⟨HH.below.lt e'.1, fun q hq x hx => ?_⟩, Base.Keeps.has HH.below e'⟩⟩
                · obtain ⟨q, hq, e1⟩ := own _ _ g2 w2
                  rw [← e1] at s2
                  rw [← e1]
                  exact same q hq _ _ _ _ _ g1 s1 s2
                · obtain ⟨q, hq, e1⟩ := own _ _ ho hw
                  rw [← e1] at hs
                  exact hc.2 q hq x hs
                · refine ⟨lt _ _ _ _ ho hs, fun q hq x hx => ?_⟩
                  have hb := same q hq _ _ _ _ _ ho hs hx
                  obtain ⟨d1, d2, g', d3, d4, d5, _⟩ := outR q hq
                  obtain ⟨g, hg, e1, rfl⟩ := viewO_get _ _ _ _ ho
                  have := viewUp_inj _ _ k6 g hg g' d3 (by rw [e1, hb, d4])
                  subst this
                  rw [VO.ro_obj, d5] at hr; cases hr
                · rw [viewO_next] at hb
                  simp only [envR]; rw [if_neg (by omega), if_neg (by omega)]
                · obtain ⟨d1, d2, g', d3, d4, d5, j, o', d6, d7, d8, d9⟩ := outR q hq
                  rw [d9] at hx
                  exact HH.base _ _ _ _ d7 d8 hx e'.1
              have key := eval_ok B d e.f e.args (viewO e.n e.view) vs (envR e.n E r) b1 w (fun r => r = (v1, h1)) (fun cv w' => ∃ E1, (envR e.n E r).le E1 ∧ HeapOk p E1 h1 b1 w' ∧ conc E1 v1 = some cv)
                (T.leaf_holds _ hleaf) hvo hargs ?_
              · refine ⟨key.1, key.2.mono ?_⟩
                rintro ex w' ⟨cv, rfl, E1, hle, H1, hcv⟩
                have hρ : E1.ρ = E.ρ := hle.ρ
                obtain ⟨H2, _⟩ := putN_ok e.news h1 H1 (fun q hq => by
                  obtain ⟨o, o1, o2⟩ := hnews q hq
                  exact ⟨o, o1, by rw [hρ]; exact o2⟩)
                obtain ⟨z1, z2, z3⟩ := HH.merge (outs := e.outs) H2 rfl (fun c => Iff.rfl) hle k3 (fun q hq => putN_get _ _ _ k3 q hq)
                  (fun q hq => (List.not_mem_nil hq).elim) hn hp
                have hcv : conc E1 e.res = some cv := by rw [← hsame E1 hρ]; exact hcv
                exact ⟨cv, rfl, P v h3 _ w' cv k z1 z3 (rnV_ok z2 _ _ _ hv hcv)⟩
              · intro v' h' E' w' cv q hle HH' hv'
                cases q
                exact ⟨E', hle, HH', hv'⟩
          · cases hm
        · cases hm
      · cases hm
    · cases hm
  · cases hm
end Go.Sx
