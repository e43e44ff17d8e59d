/- VIEWS: blocks that are only read, wherever they lie; calls over them; calls that others may take as made. -/
import Derived.Test.YtjbagflebkiplaaDoorSxStart
/-! VIEWS: blocks that are only read, wherever they lie; calls over them; calls that others may take as made. -/
namespace Go.Sx
open Go.RowKit

/-- blocks that are only read -/
noncomputable def viewHeap (n : Nat) : List (Nat × List AV) → Heap
  | [] => ⟨.nil, n⟩
  | g :: l => (viewHeap n l).put g.1 (.cells g.2 0 false false)

theorem viewHeap_next (n : Nat) : ∀ l, (viewHeap n l).next = n
  | [] => rfl
  | g :: l => by rw [viewHeap, Heap.next_put]; exact viewHeap_next n l

theorem viewHeap_get (n : Nat) : ∀ (l : List (Nat × List AV)) (b : Nat) (o : AObj), (viewHeap n l).get b = some o → ∃ g ∈ l, g.1 = b ∧ o = .cells g.2 0 false false
  | [], b, o, h => by
    have : (PT.nil : PT AObj).get b = some o := h
    rw [PT.get_nil] at this; cases this
  | g :: l, b, o, h => by
    rw [viewHeap, Heap.get_put] at h
    by_cases c : b = g.1
    · rw [if_pos c] at h; cases h; exact ⟨g, List.mem_cons_self, c.symm, rfl⟩
    · rw [if_neg c] at h
      obtain ⟨g', h1, h2⟩ := viewHeap_get n l b o h
      exact ⟨g', List.mem_cons_of_mem _ h1, h2⟩

/-- the block lies in the world as said -/
def ViewIn (w : World) (E : Env) (g : Nat × List AV) : Prop :=
  ∃ c base vs cells el fz, E.σ g.1 = some (c, base) ∧ concL E g.2 = some vs ∧ w.heap[c]? = some (.cells cells el fz) ∧ ∀ i, i < vs.length → cells[base + i]? = vs[i]?

theorem ViewIn.lt {w : World} {E : Env} {g : Nat × List AV} (h : ViewIn w E g) : ∃ c base, E.σ g.1 = some (c, base) ∧ c < w.heap.size := by
  obtain ⟨c, base, vs, cells, el, fz, h1, h2, h3, h4⟩ := h
  exact ⟨c, base, h1, (Array.getElem?_eq_some_iff.1 h3).1⟩

theorem ViewIn.world {w w' : World} {E : Env} {g : Nat × List AV} (h : ViewIn w E g) (hb : Below w.heap.size w w') : ViewIn w' E g := by
  obtain ⟨c, base, vs, cells, el, fz, h1, h2, h3, h4⟩ := h
  exact ⟨c, base, vs, cells, el, fz, h1, h2, by rw [hb.block c (Array.getElem?_eq_some_iff.1 h3).1]; exact h3, h4⟩

theorem ViewIn.re {w : World} {E E' : Env} {b b' : Nat} {cs cs' : List AV} (h : ViewIn w E (b, cs)) (hσ : E'.σ b' = E.σ b) (hc : concL E' cs' = concL E cs) : ViewIn w E' (b', cs') := by
  obtain ⟨c, base, vs, cells, el, fz, h1, h2, h3, h4⟩ := h
  exact ⟨c, base, vs, cells, el, fz, hσ.trans h1, hc.trans h2, h3, h4⟩

theorem ViewIn.of_heap {p : Par} {E : Env} {h : Heap} {w0 : Base} {w : World} (HH : HeapOk p E h w0 w) {b : Nat} {cs : List AV} {e : TypeId} {own ext : Bool} (hg : h.get b = some (.cells cs e own ext)) : ViewIn w E (b, cs) := by
  obtain ⟨c, base, vs, cells, el, fz, h1, h2, h3, h4, _⟩ := HH.obj b _ hg
  exact ⟨c, base, vs, cells, el, fz, h1, h2, h3, h4⟩

/-- a world in which the blocks lie as said -/
theorem view_ok {p : Par} {E : Env} {w : World} {n : Nat} {l : List (Nat × List AV)} (h : ∀ g ∈ l, ViewIn w E g) (hf : ∀ b, n ≤ b → E.σ b = none) (hg : ∀ b, b < 1000 → E.σ b = some (b, 0)) (hn : E.n ≤ n) : HeapOk p E (viewHeap n l) (Base.of w) w := by
  have own : ∀ b o, (viewHeap n l).get b = some o → ownO o = false := fun b o e => by
    obtain ⟨g, _, _, rfl⟩ := viewHeap_get n l b o e; rfl
  refine ⟨fun b o e => ?_, fun b b' o o' c x y h1 h2 w1 => ?_, fun b o c x e ow => ?_, fun b o c y hg _ s => ?_, fun b hb => ?_, fun b o c x e s => ?_, hg, Kept.refl _ _, by rw [viewHeap_next]; exact hn⟩
  · obtain ⟨g, hg, rfl, rfl⟩ := viewHeap_get n l b o e
    obtain ⟨c, base, vs, cells, el, fz, h1, h2, h3, h4⟩ := h g hg
    exact ⟨c, base, vs, cells, el, fz, h1, h2, h3, h4, fun h => by cases h⟩
  · rw [own b o h1] at w1; cases w1
  · rw [own b o e] at ow; cases ow
  · obtain ⟨g, hg', rfl, _⟩ := viewHeap_get n l b _ hg
    obtain ⟨c', base, h1, h2⟩ := (h g hg').lt
    rw [h1] at s; cases s; exact h2
  · rw [viewHeap_next] at hb; exact hf b hb
  · obtain ⟨g, hg', rfl, _⟩ := viewHeap_get n l b _ e
    obtain ⟨c', base, h1, h2⟩ := (h g hg').lt
    rw [h1] at s; cases s; exact h2

/-! ## Values without a block -/
mutual
def pureAV : AV → Bool
  | .bool _ => true
  | .int _ _ => true
  | .agg cs => pureAVs cs
  | .tup cs => pureAVs cs
  | .nilslice => true
  | .nilmap => true
  | .nilFunc => true
  | .nilptr => true
  | .opq _ => true
  | .sliceU _ => true
  | _ => false
def pureAVs : List AV → Bool
  | [] => true
  | a :: l => and (pureAV a) (pureAVs l)
end

mutual
theorem conc_pure {E E' : Env} (h : E'.ρ = E.ρ) : ∀ (a : AV), pureAV a = true → conc E' a = conc E a
  | .bool b, _ => by simp only [conc, h]
  | .int k e, _ => by simp only [conc, h]
  | .agg cs, k => by simp only [conc, concL_pure h cs (by simpa [pureAV] using k)]
  | .tup cs, k => by simp only [conc, concL_pure h cs (by simpa [pureAV] using k)]
  | .nilslice, _ => rfl
  | .nilmap, _ => rfl
  | .nilFunc, _ => rfl
  | .nilptr, _ => rfl
  | .opq i, _ => by simp only [conc, h]
  | .sliceU i, _ => by simp only [conc, h]
  | .ptr .., k => by simp [pureAV] at k
  | .slice .., k => by simp [pureAV] at k
  | .sliceX .., k => by simp [pureAV] at k
  | .map _, k => by simp [pureAV] at k
  | .func .., k => by simp [pureAV] at k
  | .yieldF _, k => by simp [pureAV] at k
  | .bad, k => by simp [pureAV] at k
theorem concL_pure {E E' : Env} (h : E'.ρ = E.ρ) : ∀ (l : List AV), pureAVs l = true → concL E' l = concL E l
  | [], _ => rfl
  | a :: l, k => by
    simp only [pureAVs, Bool.and_eq_true] at k
    simp only [concL, conc_pure h a k.1, concL_pure h l k.2]
end

/-! ## Calls over views -/
theorem call_view {p : Par} {ty : Nat → Option TI} {tb : Tabs} (B : TabOk p ty tb) {d : Nat} {f : FuncId} {args : List AV} {n : Nat} {l : List (Nat × List AV)} {E : Env} {w : World} {vs : List Value}
    (h : ∀ g ∈ l, ViewIn w E g) (hf : ∀ b, n ≤ b → E.σ b = none) (hg : ∀ b, b < 1000 → E.σ b = some (b, 0)) (hn : E.n ≤ n) (ha : concL E args = some vs) {Q : AV → Prop}
    (hrun : (evalN tb d false f args (viewHeap n l)).Holds E.ρ (fun r => Q r.1)) :
    (callFunc f vs.toArray).run p.P w = .ok (.enter f vs.toArray) w ∧ Calls p.P f vs.toArray w fun e w' => ∃ v cv E', e = .returned cv ∧ Q v ∧ E.le E' ∧ conc E' v = some cv ∧ Below w.heap.size w w' := by
  have key := eval_ok B d f args (viewHeap n l) vs E (Base.of w) w (fun r => Q r.1) (fun cv w' => ∃ v E', Q v ∧ E.le E' ∧ conc E' v = some cv ∧ Below w.heap.size w w') hrun (view_ok h hf hg hn) ha ?_
  · exact ⟨key.1, key.2.mono fun e w' ⟨cv, he, v, E', h1, h2, h3, h4⟩ => ⟨v, cv, E', he, h1, h2, h3, h4⟩⟩
  · intro v h' E' w' cv q hle HH hv
    exact ⟨v, E', q, hle, hv, Base.keeps_below HH.below⟩

/-- A call that hands back no block, and leaves what lay: others may take it as made. -/
theorem callOk_of {p : Par} {f : FuncId} {args : List AV} {h : Heap} {t : T (AV × Heap)}
    (H : ∀ vs E w0 w Q, HeapOk p E h w0 w → concL E args = some vs → t.Holds E.ρ Q →
      (callFunc f vs.toArray).run p.P w = .ok (.enter f vs.toArray) w ∧ Calls p.P f vs.toArray w fun e w' => ∃ v cv, e = .returned cv ∧ Q (v, h) ∧ conc E v = some cv ∧ Below w.heap.size w w') : CallOk p f args h t := by
  intro vs E w0 w Q K k HH ha P
  obtain ⟨h1, h2⟩ := H vs E w0 w Q HH ha k
  refine ⟨h1, h2.mono ?_⟩
  rintro e w' ⟨v, cv, rfl, q, hv, hb⟩
  exact ⟨cv, rfl, P v h E w' cv q (Env.le.refl E) (HH.world hb) hv⟩

/-! ## Trees out of lists -/
noncomputable def treeOf : List (Nat × AV) → PT AV
  | [] => .nil
  | g :: l => (treeOf l).set g.1 g.2

theorem treeOf_get : ∀ (l : List (Nat × AV)) (b : Nat) (o : AV), (treeOf l).get b = some o → (b, o) ∈ l
  | [], b, o, h => by rw [treeOf, PT.get_nil] at h; cases h
  | g :: l, b, o, h => by
    rw [treeOf, PT.get_set] at h
    by_cases c : b = g.1
    · rw [if_pos c] at h; cases h; subst c; exact List.mem_cons_self
    · rw [if_neg c] at h
      exact List.mem_cons_of_mem _ (treeOf_get l b o h)

/-! ## The values of a run -/
noncomputable def T.map {α β : Type} (f : α → β) (t : T α) : T β := t.bind fun a => .ret (f a)
theorem T.holds_map {α β : Type} {ρ : Rho} {f : α → β} {t : T α} {Q : β → Prop} : (t.map f).Holds ρ Q ↔ t.Holds ρ fun a => Q (f a) := T.holds_bind

noncomputable def eqTV (t u : T AV) : Bool :=
  match t, u with
  | .ret a, .ret b => eqAV a b
  | .br c x y, .br c' x' y' => and (eqBE c c') (and (eqTV x x') (eqTV y y'))
  | _, _ => false

theorem eqTV_eq : ∀ (t u : T AV), eqTV t u = true → t = u
  | .ret a, u, h => by
    cases u <;> simp [eqTV] at h
    rw [eqAV_eq _ _ h]
  | .br c x y, u, h => by
    cases u <;> simp [eqTV] at h
    rw [eqBE_eq _ _ h.1, eqTV_eq x _ h.2.1, eqTV_eq y _ h.2.2]
  | .fail w, u, h => by cases u <;> simp [eqTV] at h

/-! ## Truth values, as statements -/
theorem BE.t_lss {ρ : Rho} {a b : IE} : (BE.cmp .lss a b).den ρ = true ↔ a.den ρ < b.den ρ := by simp [BE.den, cmpDen]
theorem BE.t_leq {ρ : Rho} {a b : IE} : (BE.cmp .leq a b).den ρ = true ↔ a.den ρ ≤ b.den ρ := by simp [BE.den, cmpDen]
theorem BE.t_gtr {ρ : Rho} {a b : IE} : (BE.cmp .gtr a b).den ρ = true ↔ b.den ρ < a.den ρ := by simp [BE.den, cmpDen]
theorem BE.t_geq {ρ : Rho} {a b : IE} : (BE.cmp .geq a b).den ρ = true ↔ b.den ρ ≤ a.den ρ := by simp [BE.den, cmpDen]
theorem BE.t_eql {ρ : Rho} {a b : IE} : (BE.cmp .eql a b).den ρ = true ↔ a.den ρ = b.den ρ := by simp [BE.den, cmpDen]
theorem BE.t_neq {ρ : Rho} {a b : IE} : (BE.cmp .neq a b).den ρ = true ↔ a.den ρ ≠ b.den ρ := by simp [BE.den, cmpDen]
theorem BE.t_and {ρ : Rho} {a b : BE} : (BE.and a b).den ρ = true ↔ a.den ρ = true ∧ b.den ρ = true := by simp [BE.den]
theorem BE.t_not {ρ : Rho} {a : BE} : (BE.not a).den ρ = true ↔ ¬ a.den ρ = true := by simp [BE.den]
theorem BE.t_lit {ρ : Rho} {a : Bool} : (BE.lit a).den ρ = true ↔ a = true := by simp [BE.den]

theorem mxden (a b : Int) : (if b > a then b else a) = max a b := by
  rcases Int.lt_or_le a b with h | h
  · rw [if_pos h]; omega
  · rw [if_neg (by omega)]; omega

theorem IE.den_mx {ρ : Rho} {a b : IE} : (IE.mx a b).den ρ = max (a.den ρ) (b.den ρ) := mxden (a.den ρ) (b.den ρ)
theorem IE.den_lit {ρ : Rho} {n : Int} : (IE.lit n).den ρ = n := rfl
theorem IE.den_var {ρ : Rho} {n : Nat} : (IE.var n).den ρ = ρ.iv n := rfl
theorem IE.den_add {ρ : Rho} {a b : IE} : (IE.bin .add .i64 a b).den ρ = IntKind.i64.wrap (a.den ρ + b.den ρ) := rfl
theorem IE.den_sub {ρ : Rho} {a b : IE} : (IE.bin .sub .i64 a b).den ρ = IntKind.i64.wrap (a.den ρ - b.den ρ) := rfl
theorem IE.den_mul {ρ : Rho} {a b : IE} : (IE.bin .mul .i64 a b).den ρ = IntKind.i64.wrap (a.den ρ * b.den ρ) := rfl
theorem IE.den_rem {ρ : Rho} {a b : IE} : (IE.bin .rem .i64 a b).den ρ = (a.den ρ).tmod (b.den ρ) := rfl

end Go.Sx
