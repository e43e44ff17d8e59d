/- WHAT COMES IN, OPENED: numbers, structs and arrays of numbers, slices of them. -/
import Derived.Test.YtgohpnfoogdlaaaDoorSxTab
import Derived.Test.YtgohpnfoogdlaaaDoorSxOps
import Derived.ProofKit
import Derived.LaidMore
import Derived.OpenShut
import Derived.Carry
import Derived.OpenVars
/-! CLOSED CALLS, IN WHATEVER WORLD THE LISTED VARIABLES LIE AS SAID. -/
namespace Go.Sx
open Go.RowKit

/-- the start: every block below 1000 is its own name -/
def E0 (ρ : Rho) : Env := ⟨ρ, fun b => if b < 1000 then some (b, 0) else none, fun _ => 0, 1000, fun _ => #[]⟩

/-- package variables: their blocks, and what lies there -/
noncomputable def globHeap : List (Nat × List AV) → Heap
  | [] => ⟨.nil, 1000⟩
  | g :: l => (globHeap l).put g.1 (.cells g.2 0 false false)

theorem globHeap_next : ∀ l, (globHeap l).next = 1000
  | [] => rfl
  | g :: l => by rw [globHeap, Heap.next_put]; exact globHeap_next l

theorem globHeap_get : ∀ (l : List (Nat × List AV)) (b : Nat) (o : AObj), (globHeap l).get b = some o → ∃ g ∈ l, g.1 = b ∧ o = .cells g.2 0 false false
  | [], b, o, h => by
    have : (PT.nil : PT AObj).get b = some o := h
    rw [PT.get_nil] at this; cases this
  | g :: l, b, o, h => by
    rw [globHeap, Heap.get_put] at h
    by_cases c : b = g.1
    · rw [if_pos c] at h; cases h; exact ⟨g, List.mem_cons_self, c.symm, rfl⟩
    · rw [if_neg c] at h
      obtain ⟨g', h1, h2⟩ := globHeap_get l b o h
      exact ⟨g', List.mem_cons_of_mem _ h1, h2⟩

/-- a package variable lies in the world as said -/
def GlobIn (w : World) (ρ : Rho) (g : Nat × List AV) : Prop := g.1 < 1000 ∧ ∃ vs cells el fz, concL (E0 ρ) g.2 = some vs ∧ w.heap[g.1]? = some (.cells cells el fz) ∧ ∀ i, i < vs.length → cells[i]? = vs[i]?

theorem start_ok {p : Par} {ρ : Rho} {w : World} {l : List (Nat × List AV)} (h : ∀ g ∈ l, GlobIn w ρ g) (hok : p.okB ρ (Base.of w)) : HeapOk p (E0 ρ) (globHeap l) (Base.of w) w := by
  have own : ∀ b o, (globHeap l).get b = some o → ownO o = false := fun b o e => by
    obtain ⟨g, _, _, rfl⟩ := globHeap_get l b o e; rfl
  refine ⟨fun b o e => ?_, fun b b' o o' c x y h1 h2 w1 => ?_, fun b o c x e ow => ?_, fun b o c y hg _ s => ?_, fun b hb => ?_, fun b o c x e s => ?_, fun b hb => by simp [E0, hb], Kept.refl _ _, (by rw [globHeap_next]; exact Nat.le_refl _), hok⟩
  · obtain ⟨g, hg, rfl, rfl⟩ := globHeap_get l b o e
    obtain ⟨hlt, vs, cells, el, fz, h1, h2, h3⟩ := h g hg
    exact ⟨g.1, 0, vs, cells, el, fz, by simp [E0, hlt], h1, h2, fun i hi => by rw [Nat.zero_add]; exact h3 i hi, fun h => by cases h⟩
  · rw [own b o h1] at w1; cases w1
  · rw [own b o e] at ow; cases ow
  · obtain ⟨g, hg', rfl, _⟩ := globHeap_get l b _ hg
    obtain ⟨hlt, vs, cells, el, fz, h1, h2, h3⟩ := h g hg'
    simp only [E0, hlt, if_true, Option.some.injEq, Prod.mk.injEq] at s
    rw [← s.1]
    exact (Array.getElem?_eq_some_iff.1 h2).1
  · rw [globHeap_next] at hb
    simp only [E0]
    rw [if_neg (by omega)]
  · obtain ⟨g, hg', rfl, _⟩ := globHeap_get l b _ e
    obtain ⟨hlt, vs, cells, el, fz, h1, h2, h3⟩ := h g hg'
    simp only [E0, hlt, if_true, Option.some.injEq, Prod.mk.injEq] at s
    rw [← s.1]
    exact (Array.getElem?_eq_some_iff.1 h2).1

/-- A CLOSED CALL. -/
theorem closed_ok {p : Par} {ty : Nat → Option TI} {tb : Tabs} (B : TabOk p ty tb) {d : Nat} {f : FuncId} {args : List AV} {l : List (Nat × List AV)} {v : AV} {h1 : Heap} (hrun : evalN tb d false f args (globHeap l) = .ret (v, h1))
    {ρ : Rho} {w : World} (hg : ∀ g ∈ l, GlobIn w ρ g) (hok : p.okB ρ (Base.of w)) {vs : List Value} (ha : concL (E0 ρ) args = some vs) :
    Calls p.P f vs.toArray w fun e w' => ∃ cv E, e = .returned cv ∧ conc E v = some cv ∧ HeapOk p E h1 (Base.of w) w' := by
  have := (eval_ok B d f args (globHeap l) vs (E0 ρ) (Base.of w) w (fun r => r = (v, h1)) (fun cv w' => ∃ E, conc E v = some cv ∧ HeapOk p E h1 (Base.of w) w') (by rw [hrun]; rfl) (start_ok hg hok) ha ?_).2
  · exact this.mono fun e w' ⟨cv, he, E, h2, h3⟩ => ⟨cv, E, he, h2, h3⟩
  · intro v' h' E' w' cv q hle HH hv
    cases q
    exact ⟨E', hv, HH⟩

/-- A closed call that hands back true, and leaves what lay. -/
theorem closed_true {p : Par} {ty : Nat → Option TI} {tb : Tabs} (B : TabOk p ty tb) {d : Nat} {f : FuncId} {l : List (Nat × List AV)} {h1 : Heap} (hrun : evalN tb d false f [] (globHeap l) = .ret (.bool (.lit true), h1))
    {ρ : Rho} {w : World} (hg : ∀ g ∈ l, GlobIn w ρ g) (hok : p.okB ρ (Base.of w)) : Calls p.P f #[] w fun e w' => e = .returned (.bool true) ∧ Below w.heap.size w w' := by
  refine (closed_ok B hrun hg hok (vs := []) rfl).mono ?_
  rintro e w' ⟨cv, E, rfl, hv, HH⟩
  simp only [conc, BE.den, Option.some.injEq] at hv
  subst hv
  exact ⟨rfl, Base.keeps_below HH.below⟩

/-- has it handed back true? -/
noncomputable def isTrue1 (t : T (AV × Heap)) : Bool :=
  match t with
  | .ret r => (match r.1 with
    | .bool b => (match b with
      | .lit b => b
      | _ => false)
    | _ => false)
  | _ => false

theorem isTrue1_some {t : T (AV × Heap)} (h : isTrue1 t = true) : ∃ h1, t = .ret (.bool (.lit true), h1) := by
  unfold isTrue1 at h
  split at h
  · rename_i r
    split at h
    · rename_i b hb
      split at h
      · rename_i c
        obtain ⟨v, h1⟩ := r
        simp only at hb
        subst hb
        subst h
        exact ⟨h1, rfl⟩
      · cases h
    · cases h
  · cases h

theorem closed_true1 {p : Par} {ty : Nat → Option TI} {tb : Tabs} (B : TabOk p ty tb) {d : Nat} {f : FuncId} {l : List (Nat × List AV)} (hrun : isTrue1 (evalN tb d false f [] (globHeap l)) = true)
    {ρ : Rho} {w : World} (hg : ∀ g ∈ l, GlobIn w ρ g) (hok : p.okB ρ (Base.of w)) : Calls p.P f #[] w fun e w' => e = .returned (.bool true) ∧ Below w.heap.size w w' := by
  obtain ⟨h1, hr⟩ := isTrue1_some hrun
  exact closed_true B hr hg hok

end Go.Sx
/-! VIEWS: blocks that are only read, wherever they lie; calls over them; calls that others may take as made. -/
namespace Go.Sx
open Go.RowKit

/-- blocks that are only read -/
noncomputable def viewHeap (n : Nat) : List (Nat × List AV) → Heap
  | [] => ⟨.nil, n⟩
  | g :: l => (viewHeap n l).put g.1 (.cells g.2 0 false false)

theorem viewHeap_next (n : Nat) : ∀ l, (viewHeap n l).next = n
  | [] => rfl
  | g :: l => by rw [viewHeap, Heap.next_put]; exact viewHeap_next n l

theorem viewHeap_get (n : Nat) : ∀ (l : List (Nat × List AV)) (b : Nat) (o : AObj), (viewHeap n l).get b = some o → ∃ g ∈ l, g.1 = b ∧ o = .cells g.2 0 false false
  | [], b, o, h => by
    have : (PT.nil : PT AObj).get b = some o := h
    rw [PT.get_nil] at this; cases this
  | g :: l, b, o, h => by
    rw [viewHeap, Heap.get_put] at h
    by_cases c : b = g.1
    · rw [if_pos c] at h; cases h; exact ⟨g, List.mem_cons_self, c.symm, rfl⟩
    · rw [if_neg c] at h
      obtain ⟨g', h1, h2⟩ := viewHeap_get n l b o h
      exact ⟨g', List.mem_cons_of_mem _ h1, h2⟩

/-- the block lies in the world as said -/
def ViewIn (w : World) (E : Env) (g : Nat × List AV) : Prop :=
  ∃ c base vs cells el fz, E.σ g.1 = some (c, base) ∧ concL E g.2 = some vs ∧ w.heap[c]? = some (.cells cells el fz) ∧ ∀ i, i < vs.length → cells[base + i]? = vs[i]?

theorem ViewIn.lt {w : World} {E : Env} {g : Nat × List AV} (h : ViewIn w E g) : ∃ c base, E.σ g.1 = some (c, base) ∧ c < w.heap.size := by
  obtain ⟨c, base, vs, cells, el, fz, h1, h2, h3, h4⟩ := h
  exact ⟨c, base, h1, (Array.getElem?_eq_some_iff.1 h3).1⟩

theorem ViewIn.world {w w' : World} {E : Env} {g : Nat × List AV} (h : ViewIn w E g) (hb : Below w.heap.size w w') : ViewIn w' E g := by
  obtain ⟨c, base, vs, cells, el, fz, h1, h2, h3, h4⟩ := h
  exact ⟨c, base, vs, cells, el, fz, h1, h2, by rw [hb.block c (Array.getElem?_eq_some_iff.1 h3).1]; exact h3, h4⟩

theorem ViewIn.re {w : World} {E E' : Env} {b b' : Nat} {cs cs' : List AV} (h : ViewIn w E (b, cs)) (hσ : E'.σ b' = E.σ b) (hc : concL E' cs' = concL E cs) : ViewIn w E' (b', cs') := by
  obtain ⟨c, base, vs, cells, el, fz, h1, h2, h3, h4⟩ := h
  exact ⟨c, base, vs, cells, el, fz, hσ.trans h1, hc.trans h2, h3, h4⟩

theorem ViewIn.of_heap {p : Par} {E : Env} {h : Heap} {w0 : Base} {w : World} (HH : HeapOk p E h w0 w) {b : Nat} {cs : List AV} {e : TypeId} {own ext : Bool} (hg : h.get b = some (.cells cs e own ext)) : ViewIn w E (b, cs) := by
  obtain ⟨c, base, vs, cells, el, fz, h1, h2, h3, h4, _⟩ := HH.obj b _ hg
  exact ⟨c, base, vs, cells, el, fz, h1, h2, h3, h4⟩

/-- a world in which the blocks lie as said -/
theorem view_ok {p : Par} {E : Env} {w : World} {n : Nat} {l : List (Nat × List AV)} (h : ∀ g ∈ l, ViewIn w E g) (hf : ∀ b, n ≤ b → E.σ b = none) (hg : ∀ b, b < 1000 → E.σ b = some (b, 0)) (hn : E.n ≤ n) (hok : p.okB E.ρ (Base.of w)) : HeapOk p E (viewHeap n l) (Base.of w) w := by
  have own : ∀ b o, (viewHeap n l).get b = some o → ownO o = false := fun b o e => by
    obtain ⟨g, _, _, rfl⟩ := viewHeap_get n l b o e; rfl
  refine ⟨fun b o e => ?_, fun b b' o o' c x y h1 h2 w1 => ?_, fun b o c x e ow => ?_, fun b o c y hg _ s => ?_, fun b hb => ?_, fun b o c x e s => ?_, hg, Kept.refl _ _, (by rw [viewHeap_next]; exact hn), hok⟩
  · obtain ⟨g, hg, rfl, rfl⟩ := viewHeap_get n l b o e
    obtain ⟨c, base, vs, cells, el, fz, h1, h2, h3, h4⟩ := h g hg
    exact ⟨c, base, vs, cells, el, fz, h1, h2, h3, h4, fun h => by cases h⟩
  · rw [own b o h1] at w1; cases w1
  · rw [own b o e] at ow; cases ow
  · obtain ⟨g, hg', rfl, _⟩ := viewHeap_get n l b _ hg
    obtain ⟨c', base, h1, h2⟩ := (h g hg').lt
    rw [h1] at s; cases s; exact h2
  · rw [viewHeap_next] at hb; exact hf b hb
  · obtain ⟨g, hg', rfl, _⟩ := viewHeap_get n l b _ e
    obtain ⟨c', base, h1, h2⟩ := (h g hg').lt
    rw [h1] at s; cases s; exact h2

/-! ## Values without a block -/
mutual
def pureAV : AV → Bool
  | .bool _ => true
  | .int _ _ => true
  | .agg cs => pureAVs cs
  | .tup cs => pureAVs cs
  | .nilslice => true
  | .nilmap => true
  | .nilFunc => true
  | .nilptr => true
  | .opq _ => true
  | .sliceU _ => true
  | _ => false
def pureAVs : List AV → Bool
  | [] => true
  | a :: l => and (pureAV a) (pureAVs l)
end

mutual
theorem conc_pure {E E' : Env} (h : E'.ρ = E.ρ) : ∀ (a : AV), pureAV a = true → conc E' a = conc E a
  | .bool b, _ => by simp only [conc, h]
  | .int k e, _ => by simp only [conc, h]
  | .agg cs, k => by simp only [conc, concL_pure h cs (by simpa [pureAV] using k)]
  | .tup cs, k => by simp only [conc, concL_pure h cs (by simpa [pureAV] using k)]
  | .nilslice, _ => rfl
  | .nilmap, _ => rfl
  | .nilFunc, _ => rfl
  | .nilptr, _ => rfl
  | .opq i, _ => by simp only [conc, h]
  | .sliceU i, _ => by simp only [conc, h]
  | .ptr .., k => by simp [pureAV] at k
  | .slice .., k => by simp [pureAV] at k
  | .sliceX .., k => by simp [pureAV] at k
  | .sliceV .., k => by simp [pureAV] at k
  | .ptrV .., k => by simp [pureAV] at k
  | .map _, k => by simp [pureAV] at k
  | .func .., k => by simp [pureAV] at k
  | .yieldF _, k => by simp [pureAV] at k
  | .bad, k => by simp [pureAV] at k
theorem concL_pure {E E' : Env} (h : E'.ρ = E.ρ) : ∀ (l : List AV), pureAVs l = true → concL E' l = concL E l
  | [], _ => rfl
  | a :: l, k => by
    simp only [pureAVs, Bool.and_eq_true] at k
    simp only [concL, conc_pure h a k.1, concL_pure h l k.2]
end

/-! ## Calls over views -/
theorem call_view {p : Par} {ty : Nat → Option TI} {tb : Tabs} (B : TabOk p ty tb) {d : Nat} {f : FuncId} {args : List AV} {n : Nat} {l : List (Nat × List AV)} {E : Env} {w : World} {vs : List Value}
    (h : ∀ g ∈ l, ViewIn w E g) (hf : ∀ b, n ≤ b → E.σ b = none) (hg : ∀ b, b < 1000 → E.σ b = some (b, 0)) (hn : E.n ≤ n) (ha : concL E args = some vs) {Q : AV → Prop}
    (hrun : (evalN tb d false f args (viewHeap n l)).Holds E.ρ (fun r => Q r.1)) (hok : p.okB E.ρ (Base.of w)) :
    (callFunc f vs.toArray).run p.P w = .ok (.enter f vs.toArray) w ∧ Calls p.P f vs.toArray w fun e w' => ∃ v cv E', e = .returned cv ∧ Q v ∧ E.le E' ∧ conc E' v = some cv ∧ Below w.heap.size w w' := by
  have key := eval_ok B d f args (viewHeap n l) vs E (Base.of w) w (fun r => Q r.1) (fun cv w' => ∃ v E', Q v ∧ E.le E' ∧ conc E' v = some cv ∧ Below w.heap.size w w') hrun (view_ok h hf hg hn hok) ha ?_
  · exact ⟨key.1, key.2.mono fun e w' ⟨cv, he, v, E', h1, h2, h3, h4⟩ => ⟨v, cv, E', he, h1, h2, h3, h4⟩⟩
  · intro v h' E' w' cv q hle HH hv
    exact ⟨v, E', q, hle, hv, Base.keeps_below HH.below⟩

/-- A call that hands back no block, and leaves what lay: others may take it as made. -/
theorem callOk_of {p : Par} {f : FuncId} {args : List AV} {h : Heap} {t : T (AV × Heap)}
    (H : ∀ vs E w0 w Q, HeapOk p E h w0 w → concL E args = some vs → t.Holds E.ρ Q →
      (callFunc f vs.toArray).run p.P w = .ok (.enter f vs.toArray) w ∧ Calls p.P f vs.toArray w fun e w' => ∃ v cv, e = .returned cv ∧ Q (v, h) ∧ conc E v = some cv ∧ Below w.heap.size w w') : CallOk p f args h t := by
  intro vs E w0 w Q K k HH ha P
  obtain ⟨h1, h2⟩ := H vs E w0 w Q HH ha k
  refine ⟨h1, h2.mono ?_⟩
  rintro e w' ⟨v, cv, rfl, q, hv, hb⟩
  exact ⟨cv, rfl, P v h E w' cv q (Env.le.refl E) (HH.world hb) hv⟩

/-! ## Trees out of lists -/
noncomputable def treeOf : List (Nat × AV) → PT AV
  | [] => .nil
  | g :: l => (treeOf l).set g.1 g.2

theorem treeOf_get : ∀ (l : List (Nat × AV)) (b : Nat) (o : AV), (treeOf l).get b = some o → (b, o) ∈ l
  | [], b, o, h => by rw [treeOf, PT.get_nil] at h; cases h
  | g :: l, b, o, h => by
    rw [treeOf, PT.get_set] at h
    by_cases c : b = g.1
    · rw [if_pos c] at h; cases h; subst c; exact List.mem_cons_self
    · rw [if_neg c] at h
      exact List.mem_cons_of_mem _ (treeOf_get l b o h)

/-! ## The values of a run -/
noncomputable def T.map {α β : Type} (f : α → β) (t : T α) : T β := t.bind fun a => .ret (f a)
theorem T.holds_map {α β : Type} {ρ : Rho} {f : α → β} {t : T α} {Q : β → Prop} : (t.map f).Holds ρ Q ↔ t.Holds ρ fun a => Q (f a) := T.holds_bind

noncomputable def eqTV (t u : T AV) : Bool :=
  match t, u with
  | .ret a, .ret b => eqAV a b
  | .br c x y, .br c' x' y' => and (eqBE c c') (and (eqTV x x') (eqTV y y'))
  | _, _ => false

theorem eqTV_eq : ∀ (t u : T AV), eqTV t u = true → t = u
  | .ret a, u, h => by
    cases u <;> simp [eqTV] at h
    rw [eqAV_eq _ _ h]
  | .br c x y, u, h => by
    cases u <;> simp [eqTV] at h
    rw [eqBE_eq _ _ h.1, eqTV_eq x _ h.2.1, eqTV_eq y _ h.2.2]
  | .fail w, u, h => by cases u <;> simp [eqTV] at h

/-! ## Truth values, as statements -/
theorem BE.t_lss {ρ : Rho} {a b : IE} : (BE.cmp .lss a b).den ρ = true ↔ a.den ρ < b.den ρ := by simp [BE.den, cmpDen]
theorem BE.t_leq {ρ : Rho} {a b : IE} : (BE.cmp .leq a b).den ρ = true ↔ a.den ρ ≤ b.den ρ := by simp [BE.den, cmpDen]
theorem BE.t_gtr {ρ : Rho} {a b : IE} : (BE.cmp .gtr a b).den ρ = true ↔ b.den ρ < a.den ρ := by simp [BE.den, cmpDen]
theorem BE.t_geq {ρ : Rho} {a b : IE} : (BE.cmp .geq a b).den ρ = true ↔ b.den ρ ≤ a.den ρ := by simp [BE.den, cmpDen]
theorem BE.t_eql {ρ : Rho} {a b : IE} : (BE.cmp .eql a b).den ρ = true ↔ a.den ρ = b.den ρ := by simp [BE.den, cmpDen]
theorem BE.t_neq {ρ : Rho} {a b : IE} : (BE.cmp .neq a b).den ρ = true ↔ a.den ρ ≠ b.den ρ := by simp [BE.den, cmpDen]
theorem BE.t_and {ρ : Rho} {a b : BE} : (BE.and a b).den ρ = true ↔ a.den ρ = true ∧ b.den ρ = true := by simp [BE.den]
theorem BE.t_not {ρ : Rho} {a : BE} : (BE.not a).den ρ = true ↔ ¬ a.den ρ = true := by simp [BE.den]
theorem BE.t_lit {ρ : Rho} {a : Bool} : (BE.lit a).den ρ = true ↔ a = true := by simp [BE.den]

theorem mxden (a b : Int) : (if b > a then b else a) = max a b := by
  rcases Int.lt_or_le a b with h | h
  · rw [if_pos h]; omega
  · rw [if_neg (by omega)]; omega

theorem IE.den_mx {ρ : Rho} {a b : IE} : (IE.mx a b).den ρ = max (a.den ρ) (b.den ρ) := mxden (a.den ρ) (b.den ρ)
theorem IE.den_lit {ρ : Rho} {n : Int} : (IE.lit n).den ρ = n := rfl
theorem IE.den_var {ρ : Rho} {n : Nat} : (IE.var n).den ρ = ρ.iv n := rfl
theorem IE.den_add {ρ : Rho} {a b : IE} : (IE.bin .add .i64 a b).den ρ = IntKind.i64.wrap (a.den ρ + b.den ρ) := rfl
theorem IE.den_sub {ρ : Rho} {a b : IE} : (IE.bin .sub .i64 a b).den ρ = IntKind.i64.wrap (a.den ρ - b.den ρ) := rfl
theorem IE.den_mul {ρ : Rho} {a b : IE} : (IE.bin .mul .i64 a b).den ρ = IntKind.i64.wrap (a.den ρ * b.den ρ) := rfl
theorem IE.den_rem {ρ : Rho} {a b : IE} : (IE.bin .rem .i64 a b).den ρ = (a.den ρ).tmod (b.den ρ) := rfl

end Go.Sx
/-! ENTRIES: calls that are taken as made. No theorem stands here. -/
namespace Go.Sx

abbrev Ren := List (Nat × Nat)

/-- a block of the entry is that block of the heap -/
noncomputable def bindR (n b b' : Nat) (r : Ren) : Option Ren :=
  cond (Nat.ble (Nat.succ b) 1000) (cond (Nat.beq b b') (some r) none)
    (cond (Nat.ble (Nat.succ b) n) (match lFind r b with
    | some c => cond (Nat.beq c b') (some r) none
    | none => some ((b, b') :: r)) none)

noncomputable def eqFn (a b : Fn) : Bool :=
  match a, b with
  | .func f, .func g => Nat.beq f g
  | _, _ => false
mutual
noncomputable def mtV (n : Nat) : AV → AV → Ren → Option Ren
  | .ptr b o, .ptr b' o', r => cond (Nat.beq o o') (bindR n b b' r) none
  | .slice b o l c, .slice b' o' l' c', r => cond (and (Nat.beq o o') (and (Nat.beq l l') (Nat.beq c c'))) (bindR n b b' r) none
  | .sliceX b o l c, .sliceX b' o' l' c', r => cond (and (Nat.beq o o') (and (Nat.beq l l') (Nat.beq c c'))) (bindR n b b' r) none
  | .map b, .map b', r => bindR n b b' r
  | .agg x, .agg y, r => mtL n x y r
  | .tup x, .tup y, r => mtL n x y r
  | .func fn x y, .func fn' x' y', r => cond (eqFn fn fn') (match mtL n x x' r with
    | some r' => mtL n y y' r'
    | none => none) none
  | .bool a, .bool b, r => cond (eqBE a b) (some r) none
  | .int k a, .int k' b, r => cond (and (kindEq k k') (eqIE a b)) (some r) none
  | .nilptr, .nilptr, r => some r
  | .nilslice, .nilslice, r => some r
  | .nilmap, .nilmap, r => some r
  | .nilFunc, .nilFunc, r => some r
  | .sliceU i, .sliceU j, r => cond (Nat.beq i j) (some r) none
  | _, _, _ => none
noncomputable def mtL (n : Nat) : List AV → List AV → Ren → Option Ren
  | [], [], r => some r
  | a :: l, b :: m, r => (match mtV n a b r with
    | some r' => mtL n l m r'
    | none => none)
  | _, _, _ => none
end

noncomputable def mtE (n : Nat) : List (AV × AV × Nat) → List (AV × AV × Nat) → Ren → Option Ren
  | [], [], r => some r
  | a :: l, b :: m, r => cond (Nat.beq a.2.2 b.2.2) (match mtV n a.1 b.1 r with
    | some r1 => (match mtV n a.2.1 b.2.1 r1 with
      | some r2 => mtE n l m r2
      | none => none)
    | none => none) none
  | _, _, _ => none

/-- what is read of a block -/
inductive VO where
  | cells (cs : List AV)
  | map (es : List (AV × AV × Nat)) (clock : Nat)
  | own (cs : List AV) (el : TypeId) (ext : Bool)
  | ownMap (es : List (AV × AV × Nat)) (clock : Nat)

noncomputable def VO.obj (v : VO) : AObj :=
  match v with
  | .cells cs => .cells cs 0 false false
  | .map es k => .rmap es k
  | .own cs el ext => .cells cs el true ext
  | .ownMap es k => .map es k

noncomputable def beqB (a b : Bool) : Bool := cond a b (cond b false true)

noncomputable def mtO (n : Nat) (v : VO) (o : Option AObj) (r : Ren) : Option Ren :=
  match v with
  | .cells cs => (match o with
    | some (.cells cs' _ _ _) => mtL n cs cs' r
    | _ => none)
  | .map es k => (match o with
    | some (.map es' k') => cond (Nat.beq k k') (mtE n es es' r) none
    | some (.rmap es' k') => cond (Nat.beq k k') (mtE n es es' r) none
    | _ => none)
  | .own cs el ext => (match o with
    | some (.cells cs' el' own ext') => cond (and own (and (Nat.beq el el') (beqB ext ext'))) (mtL n cs cs' r) none
    | _ => none)
  | .ownMap es k => (match o with
    | some (.map es' k') => cond (Nat.beq k k') (mtE n es es' r) none
    | _ => none)

/-- the blocks that are read, as a heap -/
noncomputable def viewO (n : Nat) : List (Nat × VO) → Heap
  | [] => ⟨.nil, n⟩
  | g :: l => (viewO n l).put g.1 g.2.obj

/-- the blocks that are read -/
noncomputable def mtView (n : Nat) (h : Heap) : List (Nat × VO) → Ren → Option Ren
  | [], r => some r
  | g :: l, r => (match cond (Nat.ble (Nat.succ g.1) 1000) (some g.1) (cond (Nat.ble (Nat.succ g.1) n) (lFind r g.1) none) with
    | some b => (match mtO n g.2 (h.get b) r with
      | some r' => mtView n h l r'
      | none => none)
    | none => none)

/-- a block's name: as the entry has it, and as it is here; 'nb': those that are new -/
noncomputable def blR (n : Nat) (r nb : Ren) (b : Nat) : Option Nat :=
  cond (Nat.ble (Nat.succ b) 1000) (some b) (cond (Nat.ble (Nat.succ b) n) (lFind r b) (lFind nb b))

mutual
noncomputable def rnV (g : Nat → Option Nat) : AV → Option AV
  | .ptr b o => (match g b with
    | some b' => some (.ptr b' o)
    | none => none)
  | .slice b o l c => (match g b with
    | some b' => some (.slice b' o l c)
    | none => none)
  | .sliceX b o l c => (match g b with
    | some b' => some (.sliceX b' o l c)
    | none => none)
  | .sliceV b i => (match g b with
    | some b' => some (.sliceV b' i)
    | none => none)
  | .map b => (match g b with
    | some b' => some (.map b')
    | none => none)
  | .agg x => (match rnL g x with
    | some y => some (.agg y)
    | none => none)
  | .tup x => (match rnL g x with
    | some y => some (.tup y)
    | none => none)
  | .bool a => some (.bool a)
  | .int k a => some (.int k a)
  | .nilptr => some .nilptr
  | .nilslice => some .nilslice
  | .nilmap => some .nilmap
  | .nilFunc => some .nilFunc
  | _ => none
noncomputable def rnL (g : Nat → Option Nat) : List AV → Option (List AV)
  | [] => some []
  | a :: l => (match rnV g a with
    | some b => (match rnL g l with
      | some m => some (b :: m)
      | none => none)
    | none => none)
end

noncomputable def rnE (g : Nat → Option Nat) : List (AV × AV × Nat) → Option (List (AV × AV × Nat))
  | [] => some []
  | a :: l => (match rnV g a.1, rnV g a.2.1, rnE g l with
    | some k, some v, some m => some ((k, v, a.2.2) :: m)
    | _, _, _ => none)

/-- what lies in a new block -/
inductive NB where
  | cells (cs : List AV) (el : TypeId) (ext : Bool)
  | map (es : List (AV × AV × Nat)) (clock : Nat)

noncomputable def NB.raw (q : NB) : AObj :=
  match q with
  | .cells cs el ext => .cells cs el true ext
  | .map es k => .map es k

noncomputable def NB.ren (g : Nat → Option Nat) (q : NB) : Option AObj :=
  match q with
  | .cells cs el ext => (match rnL g cs with
    | some cs' => some (.cells cs' el true ext)
    | none => none)
  | .map es k => (match rnE g es with
    | some es' => some (.map es' k)
    | none => none)

/-- the new blocks, as they are here -/
noncomputable def newsH (g : Nat → Option Nat) : List (Nat × NB) → Heap → Option Heap
  | [], h => some h
  | q :: l, h => (match q.2.ren g with
    | some o => newsH g l (h.new o)
    | none => none)

/-- their names: those of the entry, and those here, from a number on -/
noncomputable def newsR : List (Nat × NB) → Nat → Ren
  | [], _ => []
  | q :: l, k => (q.1, k) :: newsR l (Nat.succ k)

/-- the names of the entry are new, and rise -/
noncomputable def rises : Nat → List (Nat × NB) → Bool
  | _, [] => true
  | n, q :: l => cond (Nat.ble n q.1) (rises (Nat.succ q.1) l) false

/-- a call: what it is called with, the blocks that it reads, what it hands back, and the blocks that this has anew -/
structure Ent where
  f : Nat
  args : List AV
  n : Nat
  view : List (Nat × VO)
  res : AV
  news : List (Nat × NB)
  outs : List (Nat × NB)

noncomputable def eqEs : List (AV × AV × Nat) → List (AV × AV × Nat) → Bool
  | [], [] => true
  | a :: l, b :: m => and (and (eqAV a.1 b.1) (and (eqAV a.2.1 b.2.1) (Nat.beq a.2.2 b.2.2))) (eqEs l m)
  | _, _ => false
noncomputable def newOk (h : Heap) (q : Nat × NB) : Bool :=
  match q.2 with
  | .cells cs el ext => (match h.get q.1 with
    | some (.cells cs' el' own ext') => and own (and (eqAVs cs' cs) (and (Nat.beq el' el) (beqB ext' ext)))
    | _ => false)
  | .map es k => (match h.get q.1 with
    | some (.map es' k') => and (eqEs es' es) (Nat.beq k' k)
    | _ => false)
/-- the blocks that are written, as they are then -/
noncomputable def putsH (g : Nat → Option Nat) : List (Nat × NB) → Heap → Option Heap
  | [], h => some h
  | q :: l, h => (match g q.1 with
    | some b => (match q.2.ren g with
      | some o => putsH g l (h.put b o)
      | none => none)
    | none => none)

noncomputable def memR (c : Nat) : Ren → Bool
  | [] => false
  | p :: l => cond (Nat.beq p.2 c) true (memR c l)
/-- no two names for one block -/
noncomputable def injR : Ren → Bool
  | [] => true
  | p :: l => cond (and (Nat.ble 1000 p.2) (Bool.not (memR p.2 l))) (injR l) false
noncomputable def someInj (l : List (Nat × NB)) (r : Ren) : Bool :=
  match l with
  | [] => true
  | _ => injR r

/-- the blocks of the view rise, and those that may be written are those that are told -/
noncomputable def viewUp : Nat → List (Nat × VO) → Bool
  | _, [] => true
  | n, g :: l => cond (Nat.ble n g.1) (viewUp (Nat.succ g.1) l) false
noncomputable def outsOk (n : Nat) : List (Nat × VO) → List (Nat × NB) → Bool
  | [], [] => true
  | [], _ :: _ => false
  | g :: l, m => (match g.2 with
    | .cells _ => outsOk n l m
    | .map _ _ => outsOk n l m
    | .own _ _ _ => (match m with
      | q :: m => cond (and (Nat.beq g.1 q.1) (and (Nat.ble 1000 q.1) (Nat.ble (Nat.succ q.1) n))) (outsOk n l m) false
      | [] => false)
    | .ownMap _ _ => (match m with
      | q :: m => cond (and (Nat.beq g.1 q.1) (and (Nat.ble 1000 q.1) (Nat.ble (Nat.succ q.1) n))) (outsOk n l m) false
      | [] => false))

/-- does a call meet the entry? what it leads to -/
noncomputable def Ent.meet (e : Ent) (args : List AV) (h : Heap) : Option (T (AV × Heap)) :=
  match mtL e.n e.args args [] with
  | some r0 => (match mtView e.n h e.view r0 with
    | some r => cond (someInj e.outs r) (match rnV (blR e.n r (newsR e.news h.next)) e.res with
      | some v => (match newsH (blR e.n r (newsR e.news h.next)) e.news h with
        | some h1 => (match putsH (blR e.n r (newsR e.news h.next)) e.outs h1 with
          | some h2 => some (.ret (v, h2))
          | none => none)
        | none => none)
      | none => none) none
    | none => none)
  | none => none

/-- a number of what a call is called with, by which its entries are found -/
noncomputable def keyI (e : IE) (k : Nat) : Nat :=
  match e with
  | .lit n => (match n with
    | .ofNat m => Nat.add (Nat.mul (Nat.mod k 1000003) 31) (Nat.succ m)
    | .negSucc m => Nat.add (Nat.mul (Nat.mod k 1000003) 37) (Nat.succ m))
  | _ => k
mutual
noncomputable def keyV : AV → Nat → Nat
  | .int _ e, k => keyI e k
  | .agg l, k => keyL l k
  | .tup l, k => keyL l k
  | .func _ a c, k => keyL c (keyL a k)
  | .slice _ o n _, k => Nat.add (Nat.mul (Nat.mod k 1000003) 41) (Nat.add o n)
  | .sliceX _ _ _ n, k => Nat.add (Nat.mul (Nat.mod k 1000003) 41) n
  | _, k => k
noncomputable def keyL : List AV → Nat → Nat
  | [], k => k
  | a :: l, k => keyL l (keyV a k)
end

/-- entries, as an oracle -/
noncomputable def entOrc (f : FuncId) (args : List AV) (h : Heap) (l : List Ent) : Option (T (AV × Heap)) :=
  @List.rec Ent (fun _ => Option (T (AV × Heap))) none (fun e _ ih => cond (Nat.beq f e.f) (match e.meet args h with
    | some t => some t
    | none => ih) ih) l


noncomputable def entPT (m : Nat) (pt : PT (List Ent)) (f : FuncId) (args : List AV) (h : Heap) : Option (T (AV × Heap)) :=
  match pt.get (Nat.mod (keyL args f) m) with
  | some l => entOrc f args h l
  | none => none

end Go.Sx
/-! CALLS THAT ARE TAKEN AS MADE: what they read is held against what lies there, wherever it lies; what they make is laid anew. -/
namespace Go.Sx
open Go.RowKit

theorem eqFn_eq {a b : Fn} (h : eqFn a b = true) : a = b := by
  cases a <;> cases b <;> simp only [eqFn] at h <;> first | (cases h; done) | skip
  rw [beq_t.1 h]

structure Rel (n : Nat) (E ES : Env) (r : Ren) : Prop where
  ρ : ES.ρ = E.ρ
  lo : ∀ b, b < 1000 → ES.σ b = E.σ b ∧ ES.κ b = E.κ b
  at_ : ∀ b c, 1000 ≤ b → b < n → lFind r b = some c → ES.σ b = E.σ c ∧ ES.κ b = E.κ c

def SubR (n : Nat) (r r' : Ren) : Prop := ∀ b c, 1000 ≤ b → b < n → lFind r b = some c → lFind r' b = some c
theorem SubR.refl (n : Nat) (r : Ren) : SubR n r r := fun _ _ _ _ h => h
theorem SubR.trans {n : Nat} {r s t : Ren} (h : SubR n r s) (k : SubR n s t) : SubR n r t := fun b c h1 h2 e => k b c h1 h2 (h b c h1 h2 e)
theorem Rel.sub {n : Nat} {E ES : Env} {r r' : Ren} (h : Rel n E ES r') (k : SubR n r r') : Rel n E ES r := ⟨h.ρ, h.lo, fun b c h1 h2 e => h.at_ b c h1 h2 (k b c h1 h2 e)⟩

theorem bindR_ok {n b b' : Nat} {r r' : Ren} (h : bindR n b b' r = some r') :
    SubR n r r' ∧ ∀ E ES, Rel n E ES r' → ES.σ b = E.σ b' ∧ ES.κ b = E.κ b' := by
  unfold bindR at h
  cases h1 : Nat.ble (Nat.succ b) 1000 with
  | true =>
    rw [h1, cond_true] at h
    cases h2 : Nat.beq b b' with
    | false => rw [h2] at h; cases h
    | true =>
      rw [h2] at h; cases h
      have e := beq_t.1 h2
      subst e
      exact ⟨SubR.refl _ _, fun E ES R => R.lo b (ble_t.1 h1)⟩
  | false =>
    rw [h1, cond_false] at h
    have hb : 1000 ≤ b := by
      rcases Nat.lt_or_ge b 1000 with k | k
      · have := ble_t.2 k; rw [h1] at this; cases this
      · exact k
    cases h3 : Nat.ble (Nat.succ b) n with
    | false => rw [h3] at h; cases h
    | true =>
      rw [h3, cond_true] at h
      have hn : b < n := ble_t.1 h3
      cases h2 : lFind r b with
      | some c =>
        rw [h2] at h
        simp only at h
        cases h4 : Nat.beq c b' with
        | false => rw [h4] at h; cases h
        | true =>
          rw [h4] at h; cases h
          have e := beq_t.1 h4
          subst e
          exact ⟨SubR.refl _ _, fun E ES R => R.at_ b c hb hn h2⟩
      | none =>
        rw [h2] at h
        simp only at h
        cases h
        refine ⟨fun i c _ _ e => ?_, fun E ES R => R.at_ b b' hb hn (by rw [lFind_cons, beq_t.2 rfl]; rfl)⟩
        rw [lFind_cons]
        cases hi : Nat.beq b i with
        | true => have := beq_t.1 hi; subst this; rw [h2] at e; cases e
        | false => exact e

theorem cond_some {α : Type} {c : Bool} {x : Option α} {y : α} (h : cond c x none = some y) : c = true ∧ x = some y := by
  cases c with
  | true => exact ⟨rfl, h⟩
  | false => cases h

mutual
theorem mtV_ok {n : Nat} : ∀ (a a' : AV) (r r' : Ren), mtV n a a' r = some r' → SubR n r r' ∧ ∀ E ES, Rel n E ES r' → conc ES a = conc E a'
  | .ptr b o, a', r, r', h => by
    cases a' <;> simp only [mtV] at h <;> first | (cases h; done) | skip
    obtain ⟨h1, h2⟩ := cond_some h
    have := beq_t.1 h1; subst this
    obtain ⟨q1, q2⟩ := bindR_ok h2
    exact ⟨q1, fun E ES R => by simp only [conc, (q2 E ES R).1]⟩
  | .slice b o l c, a', r, r', h => by
    cases a' <;> simp only [mtV] at h <;> first | (cases h; done) | skip
    obtain ⟨h1, h2⟩ := cond_some h
    simp only [Bool.and_eq_true] at h1
    have e1 := beq_t.1 h1.1; have e2 := beq_t.1 h1.2.1; have e3 := beq_t.1 h1.2.2; subst e1; subst e2; subst e3
    obtain ⟨q1, q2⟩ := bindR_ok h2
    exact ⟨q1, fun E ES R => by simp only [conc, (q2 E ES R).1]⟩
  | .sliceX b o l c, a', r, r', h => by
    cases a' <;> simp only [mtV] at h <;> first | (cases h; done) | skip
    obtain ⟨h1, h2⟩ := cond_some h
    simp only [Bool.and_eq_true] at h1
    have e1 := beq_t.1 h1.1; have e2 := beq_t.1 h1.2.1; have e3 := beq_t.1 h1.2.2; subst e1; subst e2; subst e3
    obtain ⟨q1, q2⟩ := bindR_ok h2
    exact ⟨q1, fun E ES R => by simp only [conc, (q2 E ES R).1, (q2 E ES R).2]⟩
  | .agg x, a', r, r', h => by
    cases a' <;> simp only [mtV] at h <;> first | (cases h; done) | skip
    obtain ⟨q1, q2⟩ := mtL_ok x _ r r' h
    exact ⟨q1, fun E ES R => by simp only [conc, q2 E ES R]⟩
  | .tup x, a', r, r', h => by
    cases a' <;> simp only [mtV] at h <;> first | (cases h; done) | skip
    obtain ⟨q1, q2⟩ := mtL_ok x _ r r' h
    exact ⟨q1, fun E ES R => by simp only [conc, q2 E ES R]⟩
  | .func fn x y, a', r, r', h => by
    cases a' <;> simp only [mtV] at h <;> first | (cases h; done) | skip
    rename_i fn' x' y'
    obtain ⟨h1, h2⟩ := cond_some h
    have e1 := eqFn_eq h1; subst e1
    cases h3 : mtL n x x' r with
    | none => rw [h3] at h2; cases h2
    | some r1 =>
      rw [h3] at h2
      obtain ⟨q1, q2⟩ := mtL_ok x _ r r1 h3
      obtain ⟨q3, q4⟩ := mtL_ok y _ r1 r' h2
      exact ⟨q1.trans q3, fun E ES R => by simp only [conc, q2 E ES (R.sub q3), q4 E ES R]⟩
  | .bool b, a', r, r', h => by
    cases a' <;> simp only [mtV] at h <;> first | (cases h; done) | skip
    obtain ⟨h1, h2⟩ := cond_some h
    cases h2
    have := eqBE_eq _ _ h1; subst this
    exact ⟨SubR.refl _ _, fun E ES R => by simp only [conc, R.ρ]⟩
  | .int k e, a', r, r', h => by
    cases a' <;> simp only [mtV] at h <;> first | (cases h; done) | skip
    obtain ⟨h1, h2⟩ := cond_some h
    cases h2
    simp only [Bool.and_eq_true] at h1
    have e1 := kindEq_eq h1.1; have e2 := eqIE_eq _ _ h1.2; subst e1; subst e2
    exact ⟨SubR.refl _ _, fun E ES R => by simp only [conc, R.ρ]⟩
  | .nilptr, a', r, r', h => by
    cases a' <;> simp only [mtV] at h <;> first | (cases h; done) | skip
    cases h; exact ⟨SubR.refl _ _, fun E ES R => rfl⟩
  | .nilslice, a', r, r', h => by
    cases a' <;> simp only [mtV] at h <;> first | (cases h; done) | skip
    cases h; exact ⟨SubR.refl _ _, fun E ES R => rfl⟩
  | .nilmap, a', r, r', h => by
    cases a' <;> simp only [mtV] at h <;> first | (cases h; done) | skip
    cases h; exact ⟨SubR.refl _ _, fun E ES R => rfl⟩
  | .nilFunc, a', r, r', h => by
    cases a' <;> simp only [mtV] at h <;> first | (cases h; done) | skip
    cases h; exact ⟨SubR.refl _ _, fun E ES R => rfl⟩
  | .map b, a', r, r', h => by
    cases a' <;> simp only [mtV] at h <;> first | (cases h; done) | skip
    obtain ⟨q1, q2⟩ := bindR_ok h
    exact ⟨q1, fun E ES R => by simp only [conc, (q2 E ES R).1]⟩
  | .yieldF b, a', r, r', h => by cases a' <;> simp only [mtV] at h <;> cases h
  | .opq b, a', r, r', h => by cases a' <;> simp only [mtV] at h <;> cases h
  | .sliceU b, a', r, r', h => by
    cases a' <;> simp only [mtV] at h <;> first | (cases h; done) | skip
    obtain ⟨h1, h2⟩ := cond_some h
    cases h2
    have := beq_t.1 h1; subst this
    exact ⟨SubR.refl _ _, fun E ES R => by simp only [conc, R.ρ]⟩
  | .sliceV _ _, a', r, r', h => by cases a' <;> simp only [mtV] at h <;> cases h
  | .ptrV _ _ _ _ _, a', r, r', h => by cases a' <;> simp only [mtV] at h <;> cases h
  | .bad, a', r, r', h => by cases a' <;> simp only [mtV] at h <;> cases h
theorem mtL_ok {n : Nat} : ∀ (l l' : List AV) (r r' : Ren), mtL n l l' r = some r' → SubR n r r' ∧ ∀ E ES, Rel n E ES r' → concL ES l = concL E l'
  | [], l', r, r', h => by
    cases l' <;> simp only [mtL] at h
    · cases h; exact ⟨SubR.refl _ _, fun E ES R => rfl⟩
    · cases h
  | a :: l, l', r, r', h => by
    cases l' with
    | nil => simp only [mtL] at h; cases h
    | cons b m =>
      simp only [mtL] at h
      cases h3 : mtV n a b r with
      | none => rw [h3] at h; cases h
      | some r1 =>
        rw [h3] at h
        obtain ⟨q1, q2⟩ := mtV_ok a b r r1 h3
        obtain ⟨q3, q4⟩ := mtL_ok l m r1 r' h
        exact ⟨q1.trans q3, fun E ES R => by simp only [concL, q2 E ES (R.sub q3), q4 E ES R]⟩
end

theorem mtE_ok {n : Nat} : ∀ (l l' : List (AV × AV × Nat)) (r r' : Ren), mtE n l l' r = some r' → SubR n r r' ∧ ∀ E ES, Rel n E ES r' → ∀ ms, concE E l' ms → concE ES l ms
  | [], [], r, r', h => by simp only [mtE, Option.some.injEq] at h; subst h; exact ⟨SubR.refl _ _, fun E ES R ms k => by cases ms <;> first | exact trivial | exact k.elim⟩
  | [], _ :: _, r, r', h => by simp only [mtE] at h; cases h
  | _ :: _, [], r, r', h => by simp only [mtE] at h; cases h
  | a :: l, b :: m, r, r', h => by
    simp only [mtE] at h
    obtain ⟨h0, h⟩ := cond_some h
    have h0 := beq_t.1 h0
    split at h
    · rename_i r1 e1
      split at h
      · rename_i r2 e2
        obtain ⟨s1, m1⟩ := mtV_ok _ _ _ _ e1
        obtain ⟨s2, m2⟩ := mtV_ok _ _ _ _ e2
        obtain ⟨s3, m3⟩ := mtE_ok l m r2 r' h
        refine ⟨(s1.trans s2).trans s3, fun E ES R ms k => ?_⟩
        cases ms with
        | nil => exact k.elim
        | cons x ms =>
          obtain ⟨k1, k2, k3, k4⟩ := k
          exact ⟨(m1 E ES ((R.sub s3).sub s2)).trans k1, (m2 E ES (R.sub s3)).trans k2, k3.trans h0.symm, m3 E ES R ms k4⟩
      · cases h
    · cases h

theorem beqB_eq {a b : Bool} (h : beqB a b = true) : a = b := by cases a <;> cases b <;> first | rfl | cases h

/-- is it one that may be written? -/
def VO.isOwn (v : VO) : Bool :=
  match v with
  | .own _ _ _ => true
  | .ownMap _ _ => true
  | _ => false
theorem VO.own_obj (v : VO) : ownO v.obj = v.isOwn := by cases v <;> rfl
theorem VO.ro_obj (v : VO) : roO v.obj = !v.isOwn := by cases v <;> rfl

/-- a block of the view: which block of the heap it is, and that it lies in the world as said -/
structure ViewAt (p : Par) (E ES : Env) (h : Heap) (w : World) (r : Ren) (n : Nat) (g : Nat × VO) : Prop where
  at_ : ∃ b o, (cond (Nat.ble (Nat.succ g.1) 1000) (some g.1) (cond (Nat.ble (Nat.succ g.1) n) (lFind r g.1) none)) = some b ∧ h.get b = some o ∧ ES.σ g.1 = E.σ b ∧ (g.2.isOwn = true → ownO o = true) ∧ (ownO o = true ∨ roO o = true)
  obj : objOk p ES g.1 g.2.obj w.heap

theorem resolve_sub {n b c : Nat} {r r' : Ren} (q : SubR n r r') (h : (cond (Nat.ble (Nat.succ b) 1000) (some b) (cond (Nat.ble (Nat.succ b) n) (lFind r b) none)) = some c) :
    (cond (Nat.ble (Nat.succ b) 1000) (some b) (cond (Nat.ble (Nat.succ b) n) (lFind r' b) none)) = some c ∧ ∀ E ES, Rel n E ES r' → ES.σ b = E.σ c ∧ ES.κ b = E.κ c := by
  cases h2 : Nat.ble (Nat.succ b) 1000 with
  | true =>
    rw [h2] at h; cases h
    exact ⟨rfl, fun E ES R => R.lo _ (ble_t.1 h2)⟩
  | false =>
    rw [h2, cond_false] at h
    obtain ⟨h3, h4⟩ := cond_some h
    have h5 : 1000 ≤ b := by
      rcases Nat.lt_or_ge b 1000 with k | k
      · have := ble_t.2 k; rw [h2] at this; cases this
      · exact k
    have h6 := q _ _ h5 (ble_t.1 h3) h4
    exact ⟨by rw [cond_false, h3, cond_true]; exact h6, fun E ES R => R.at_ _ _ h5 (ble_t.1 h3) h6⟩

theorem mtView_ok {n : Nat} {h : Heap} : ∀ (l : List (Nat × VO)) (r r' : Ren), mtView n h l r = some r' → SubR n r r' ∧
    ∀ {p : Par} {E ES : Env} {w0 : Base} {w : World}, Rel n E ES r' → HeapOk p E h w0 w → ∀ g ∈ l, ViewAt p E ES h w r' n g
  | [], r, r', e => by
    simp only [mtView, Option.some.injEq] at e; subst e
    exact ⟨SubR.refl _ _, fun _ _ g hg => by cases hg⟩
  | g :: l, r, r', e => by
    simp only [mtView] at e
    split at e
    · rename_i b hb
      split at e
      · rename_i r1 h1
        obtain ⟨q3, q4⟩ := mtView_ok l r1 r' e
        have fin : ∀ (q1 : SubR n r r1), (∀ {p : Par} {E ES : Env} {w0 : Base} {w : World}, Rel n E ES r1 → HeapOk p E h w0 w → ES.σ g.1 = E.σ b → ES.κ g.1 = E.κ b →
            ∃ o, h.get b = some o ∧ (g.2.isOwn = true → ownO o = true) ∧ (ownO o = true ∨ roO o = true) ∧ objOk p ES g.1 g.2.obj w.heap) →
            SubR n r r' ∧ ∀ {p : Par} {E ES : Env} {w0 : Base} {w : World}, Rel n E ES r' → HeapOk p E h w0 w → ∀ g' ∈ g :: l, ViewAt p E ES h w r' n g' := by
          intro q1 H
          refine ⟨q1.trans q3, fun {p E ES w0 w} R HH g' hg' => ?_⟩
          rcases List.mem_cons.1 hg' with rfl | hg'
          · obtain ⟨e1, e2⟩ := resolve_sub (q1.trans q3) hb
            obtain ⟨o, z1, z2, z3, z4⟩ := H (R.sub q3) HH (e2 E ES R).1 (e2 E ES R).2
            exact ⟨⟨b, o, e1, z1, (e2 E ES R).1, z2, z3⟩, z4⟩
          · exact q4 R HH g' hg'
        have cellsAt : ∀ {p : Par} {E ES : Env} {w0 : Base} {w : World} {cs cs' : List AV} {el : TypeId} {own ext : Bool}, HeapOk p E h w0 w → h.get b = some (.cells cs' el own ext) → ES.σ g.1 = E.σ b → concL ES cs = concL E cs' → objOk p ES g.1 (.cells cs 0 false false) w.heap :=
          fun HH hg hσ hc => by
            obtain ⟨c, base, vs, cells, el', fz, k1, k2, k3, k4, k5⟩ := HH.obj b _ hg
            exact ⟨c, base, vs, cells, el', fz, hσ.trans k1, hc.trans k2, k3, k4, fun h => by cases h⟩
        unfold mtO at h1
        split at h1
        · rename_i cs hcs
          split at h1
          · rename_i cs' el own ext hg
            obtain ⟨q1, q2⟩ := mtL_ok _ _ _ _ h1
            refine fin q1 fun {p E ES w0 w} R HH hσ hκ => ⟨_, hg, by rw [hcs]; exact fun h => (by cases h), ?_, by rw [hcs]; exact cellsAt HH hg hσ (q2 E ES R)⟩
            cases own; exact .inr rfl; exact .inl rfl
          · cases h1
        · rename_i es k hes
          split at h1
          · rename_i es' k' hg
            obtain ⟨h2, h3⟩ := cond_some h1
            have h2 := beq_t.1 h2
            subst h2
            obtain ⟨q1, q2⟩ := mtE_ok _ _ _ _ h3
            refine fin q1 fun {p E ES w0 w} R HH hσ hκ => ⟨_, hg, by rw [hes]; exact fun h => (by cases h), .inl rfl, ?_⟩
            rw [hes]
            obtain ⟨c, ms, z1, z2, z3⟩ := HH.obj b _ hg
            exact ⟨c, ms, hσ.trans z1, q2 E ES R ms z2, z3⟩
          · rename_i es' k' hg
            obtain ⟨h2, h3⟩ := cond_some h1
            have h2 := beq_t.1 h2
            subst h2
            obtain ⟨q1, q2⟩ := mtE_ok _ _ _ _ h3
            refine fin q1 fun {p E ES w0 w} R HH hσ hκ => ⟨_, hg, by rw [hes]; exact fun h => (by cases h), .inr rfl, ?_⟩
            rw [hes]
            obtain ⟨c, ms, z1, z2, z3⟩ := HH.obj b _ hg
            exact ⟨c, ms, hσ.trans z1, q2 E ES R ms z2, z3⟩
          · cases h1
        · rename_i cs el ext hcs
          split at h1
          · rename_i cs' el' own ext' hg
            obtain ⟨h2, h3⟩ := cond_some h1
            simp only [Bool.and_eq_true] at h2
            obtain ⟨h4, h5, h6⟩ := h2
            have h5 := beq_t.1 h5; have h6 := beqB_eq h6
            subst h4; subst h5; subst h6
            obtain ⟨q1, q2⟩ := mtL_ok _ _ _ _ h3
            refine fin q1 fun {p E ES w0 w} R HH hσ hκ => ⟨_, hg, fun _ => rfl, .inl rfl, ?_⟩
            rw [hcs]
            obtain ⟨c, base, vs, cells, el', fz, k1, k2, k3, k4, k5⟩ := HH.obj b _ hg
            exact ⟨c, base, vs, cells, el', fz, hσ.trans k1, (q2 E ES R).trans k2, k3, k4, by rw [hκ]; exact k5⟩
          · cases h1
        · rename_i es k hes
          split at h1
          · rename_i es' k' hg
            obtain ⟨h2, h3⟩ := cond_some h1
            have h2 := beq_t.1 h2
            subst h2
            obtain ⟨q1, q2⟩ := mtE_ok _ _ _ _ h3
            refine fin q1 fun {p E ES w0 w} R HH hσ hκ => ⟨_, hg, fun _ => rfl, .inl rfl, ?_⟩
            rw [hes]
            obtain ⟨c, ms, z1, z2, z3⟩ := HH.obj b _ hg
            exact ⟨c, ms, hσ.trans z1, q2 E ES R ms z2, z3⟩
          · cases h1
      · cases e
    · cases e

theorem viewO_next (n : Nat) : ∀ l, (viewO n l).next = n
  | [] => rfl
  | g :: l => by rw [viewO, Heap.next_put]; exact viewO_next n l

theorem viewO_get (n : Nat) : ∀ (l : List (Nat × VO)) (b : Nat) (o : AObj), (viewO n l).get b = some o → ∃ g ∈ l, g.1 = b ∧ o = g.2.obj
  | [], b, o, h => by
    have : (PT.nil : PT AObj).get b = some o := h
    rw [PT.get_nil] at this; cases this
  | g :: l, b, o, h => by
    rw [viewO, Heap.get_put] at h
    by_cases c : b = g.1
    · rw [if_pos c] at h; cases h; exact ⟨g, List.mem_cons_self, c.symm, rfl⟩
    · rw [if_neg c] at h
      obtain ⟨g', h1, h2⟩ := viewO_get n l b o h
      exact ⟨g', List.mem_cons_of_mem _ h1, h2⟩

theorem viewUp_ge : ∀ (l : List (Nat × VO)) (n : Nat), viewUp n l = true → ∀ q ∈ l, n ≤ q.1
  | [], n, _, q, hq => by cases hq
  | q :: l, n, h, q', hq => by
    simp only [viewUp] at h
    cases h1 : Nat.ble n q.1 with
    | false => rw [h1] at h; cases h
    | true =>
      rw [h1] at h
      rcases List.mem_cons.1 hq with rfl | hq
      · exact ble_t.1 h1
      · have := viewUp_ge l _ h q' hq; have := ble_t.1 h1; omega

/-- no block of the view stands twice -/
theorem viewUp_inj : ∀ (l : List (Nat × VO)) (n : Nat), viewUp n l = true → ∀ q ∈ l, ∀ q' ∈ l, q.1 = q'.1 → q = q'
  | [], n, _, q, hq, _, _, _ => by cases hq
  | p :: l, n, h, q, hq, q', hq', e => by
    simp only [viewUp] at h
    cases h0 : Nat.ble n p.1 with
    | false => rw [h0] at h; cases h
    | true =>
      rw [h0] at h
      rcases List.mem_cons.1 hq with h1 | h1
      · rcases List.mem_cons.1 hq' with h2 | h2
        · rw [h1, h2]
        · have := viewUp_ge l _ h q' h2; rw [h1] at e; omega
      · rcases List.mem_cons.1 hq' with h2 | h2
        · have := viewUp_ge l _ h q h1; rw [h2] at e; omega
        · exact viewUp_inj l _ h q h1 q' h2 e

theorem outsOk_own {n : Nat} : ∀ (l : List (Nat × VO)) (m : List (Nat × NB)), outsOk n l m = true →
    (∀ g ∈ l, g.2.isOwn = true → ∃ q ∈ m, q.1 = g.1) ∧ (∀ q ∈ m, 1000 ≤ q.1 ∧ q.1 < n ∧ ∃ g ∈ l, g.1 = q.1 ∧ g.2.isOwn = true)
  | [], [], _ => ⟨fun g hg => (by cases hg), fun q hq => (by cases hq)⟩
  | [], _ :: _, h => by simp only [outsOk] at h; cases h
  | g :: l, m, h => by
    have ro : g.2.isOwn = false → outsOk n l m = true → (∀ g' ∈ g :: l, g'.2.isOwn = true → ∃ q ∈ m, q.1 = g'.1) ∧ (∀ q ∈ m, 1000 ≤ q.1 ∧ q.1 < n ∧ ∃ g' ∈ g :: l, g'.1 = q.1 ∧ g'.2.isOwn = true) := fun hg h => by
      obtain ⟨a1, a2⟩ := outsOk_own l m h
      refine ⟨fun g' hg' ho => ?_, fun q hq => ?_⟩
      · rcases List.mem_cons.1 hg' with rfl | hg'
        · rw [hg] at ho; cases ho
        · exact a1 g' hg' ho
      · obtain ⟨b1, b2, g', b3, b4⟩ := a2 q hq
        exact ⟨b1, b2, g', List.mem_cons_of_mem _ b3, b4⟩
    have own : ∀ (q : Nat × NB) (m' : List (Nat × NB)), g.2.isOwn = true → cond (and (Nat.beq g.1 q.1) (and (Nat.ble 1000 q.1) (Nat.ble (Nat.succ q.1) n))) (outsOk n l m') false = true →
        (∀ g' ∈ g :: l, g'.2.isOwn = true → ∃ q' ∈ q :: m', q'.1 = g'.1) ∧ (∀ q' ∈ q :: m', 1000 ≤ q'.1 ∧ q'.1 < n ∧ ∃ g' ∈ g :: l, g'.1 = q'.1 ∧ g'.2.isOwn = true) := fun q m' hg h => by
      cases hc : and (Nat.beq g.1 q.1) (and (Nat.ble 1000 q.1) (Nat.ble (Nat.succ q.1) n)) with
      | false => rw [hc] at h; cases h
      | true =>
        rw [hc, cond_true] at h
        simp only [Bool.and_eq_true] at hc
        have c1 := beq_t.1 hc.1; have c2 := ble_t.1 hc.2.1; have c3 := ble_t.1 hc.2.2
        obtain ⟨a1, a2⟩ := outsOk_own l m' h
        refine ⟨fun g' hg' ho => ?_, fun q' hq => ?_⟩
        · rcases List.mem_cons.1 hg' with rfl | hg'
          · exact ⟨q, List.mem_cons_self, c1.symm⟩
          · obtain ⟨q', b1, b2⟩ := a1 g' hg' ho
            exact ⟨q', List.mem_cons_of_mem _ b1, b2⟩
        · rcases List.mem_cons.1 hq with rfl | hq
          · exact ⟨c2, c3, g, List.mem_cons_self, c1, hg⟩
          · obtain ⟨b1, b2, g', b3, b4⟩ := a2 q' hq
            exact ⟨b1, b2, g', List.mem_cons_of_mem _ b3, b4⟩
    obtain ⟨gb, gv⟩ := g
    cases gv with
    | cells cs => simp only [outsOk] at h; exact ro rfl h
    | map es k => simp only [outsOk] at h; exact ro rfl h
    | own cs el ext =>
      cases m with
      | nil => simp only [outsOk] at h; cases h
      | cons q m => simp only [outsOk] at h; exact own q m rfl h
    | ownMap es k =>
      cases m with
      | nil => simp only [outsOk] at h; cases h
      | cons q m => simp only [outsOk] at h; exact own q m rfl h

theorem injR_ok : ∀ {r : Ren}, injR r = true → (∀ b c, lFind r b = some c → 1000 ≤ c ∧ memR c r = true) ∧ ∀ b b' c, lFind r b = some c → lFind r b' = some c → b = b'
  | [], _ => ⟨fun b c h => (by cases h), fun b b' c h => (by cases h)⟩
  | p :: l, h => by
    simp only [injR] at h
    cases hc : and (Nat.ble 1000 p.2) (Bool.not (memR p.2 l)) with
    | false => rw [hc] at h; cases h
    | true =>
      rw [hc] at h
      simp only [Bool.and_eq_true, Bool.not_eq_true'] at hc
      obtain ⟨a1, a2⟩ := injR_ok (r := l) h
      refine ⟨fun b c e => ?_, fun b b' c e e' => ?_⟩
      · rw [lFind_cons] at e
        simp only [memR]
        cases hb : Nat.beq p.1 b with
        | true => rw [hb] at e; cases e; exact ⟨ble_t.1 hc.1, by rw [beq_t.2 rfl]; rfl⟩
        | false =>
          rw [hb] at e
          obtain ⟨b1, b2⟩ := a1 b c e
          exact ⟨b1, by cases Nat.beq p.2 c <;> first | rfl | exact b2⟩
      · rw [lFind_cons] at e e'
        cases hb : Nat.beq p.1 b with
        | true =>
          rw [hb] at e; cases e
          cases hb' : Nat.beq p.1 b' with
          | true => rw [← beq_t.1 hb, ← beq_t.1 hb']
          | false =>
            rw [hb'] at e'
            have := (a1 b' _ e').2
            rw [hc.2] at this; cases this
        | false =>
          rw [hb] at e
          cases hb' : Nat.beq p.1 b' with
          | true =>
            rw [hb'] at e'; cases e'
            have := (a1 b _ e).2
            rw [hc.2] at this; cases this
          | false => rw [hb'] at e'; exact a2 b b' c e e'

/-- the entry's names -/
noncomputable def envR (n : Nat) (E : Env) (r : Ren) : Env :=
  ⟨E.ρ, fun b => if b < 1000 then some (b, 0) else if b < n then (match lFind r b with | some c => E.σ c | none => none) else none,
    fun b => if b < 1000 then E.κ b else if b < n then (match lFind r b with | some c => E.κ c | none => 0) else 0, n, fun _ => #[]⟩

theorem envR_rel {n : Nat} {E : Env} {r : Ren} (hg : ∀ b, b < 1000 → E.σ b = some (b, 0)) : Rel n E (envR n E r) r := by
  refine ⟨rfl, fun b hb => ?_, fun b c h1 h2 e => ?_⟩
  · simp only [envR, if_pos hb, hg b hb, and_self]
  · simp only [envR, if_neg (show ¬ b < 1000 by omega), if_pos h2, e, and_self]

/-! ## What is handed back -/
structure RelB (g : Nat → Option Nat) (E1 E2 : Env) : Prop where
  ρ : E2.ρ = E1.ρ
  at_ : ∀ b c q, g b = some c → E1.σ b = some q → E2.σ c = some q ∧ E2.κ c = E1.κ b

mutual
theorem rnV_ok {g : Nat → Option Nat} {E1 E2 : Env} (R : RelB g E1 E2) : ∀ (a a' : AV) (v : Value), rnV g a = some a' → conc E1 a = some v → conc E2 a' = some v
  | .ptr b o, a', v, h, e => by
    simp only [rnV] at h
    split at h
    · rename_i b' hb
      cases h
      simp only [conc, Option.map_eq_some_iff] at e ⊢
      obtain ⟨q, hq, e⟩ := e
      exact ⟨q, (R.at_ _ _ _ hb hq).1, e⟩
    · cases h
  | .slice b o l c, a', v, h, e => by
    simp only [rnV] at h
    split at h
    · rename_i b' hb
      cases h
      simp only [conc, Option.map_eq_some_iff] at e ⊢
      obtain ⟨q, hq, e⟩ := e
      exact ⟨q, (R.at_ _ _ _ hb hq).1, e⟩
    · cases h
  | .sliceX b o l c, a', v, h, e => by
    simp only [rnV] at h
    split at h
    · rename_i b' hb
      cases h
      simp only [conc] at e ⊢
      split at e
      · rename_i hl
        simp only [Option.map_eq_some_iff] at e
        obtain ⟨q, hq, e⟩ := e
        obtain ⟨h1, h2⟩ := R.at_ _ _ _ hb hq
        rw [if_pos (by rw [h2]; exact hl), h1, h2, Option.map_some, e]
      · cases e
    · cases h
  | .agg x, a', v, h, e => by
    simp only [rnV] at h
    split at h
    · rename_i y hy
      cases h
      simp only [conc, Option.map_eq_some_iff] at e ⊢
      obtain ⟨q, hq, e⟩ := e
      exact ⟨q, rnL_ok R x y q hy hq, e⟩
    · cases h
  | .tup x, a', v, h, e => by
    simp only [rnV] at h
    split at h
    · rename_i y hy
      cases h
      simp only [conc, Option.map_eq_some_iff] at e ⊢
      obtain ⟨q, hq, e⟩ := e
      exact ⟨q, rnL_ok R x y q hy hq, e⟩
    · cases h
  | .bool a, a', v, h, e => by simp only [rnV, Option.some.injEq] at h; subst h; simpa only [conc, R.ρ] using e
  | .int k a, a', v, h, e => by simp only [rnV, Option.some.injEq] at h; subst h; simpa only [conc, R.ρ] using e
  | .nilptr, a', v, h, e => by simp only [rnV, Option.some.injEq] at h; subst h; exact e
  | .nilslice, a', v, h, e => by simp only [rnV, Option.some.injEq] at h; subst h; exact e
  | .nilmap, a', v, h, e => by simp only [rnV, Option.some.injEq] at h; subst h; exact e
  | .nilFunc, a', v, h, e => by simp only [rnV, Option.some.injEq] at h; subst h; exact e
  | .map b, a', v, h, e => by
    simp only [rnV] at h
    split at h
    · rename_i b' hb
      cases h
      simp only [conc, Option.map_eq_some_iff] at e ⊢
      obtain ⟨q, hq, e⟩ := e
      exact ⟨q, (R.at_ _ _ _ hb hq).1, e⟩
    · cases h
  | .func f x y, a', v, h, e => by simp only [rnV] at h; cases h
  | .yieldF b, a', v, h, e => by simp only [rnV] at h; cases h
  | .opq b, a', v, h, e => by simp only [rnV] at h; cases h
  | .sliceU b, a', v, h, e => by simp only [rnV] at h; cases h
  | .sliceV b i, a', v, h, e => by
    simp only [rnV] at h
    split at h
    · rename_i b' hb
      cases h
      simp only [conc] at e ⊢
      split at e
      · rename_i hl
        simp only [Option.map_eq_some_iff] at e
        obtain ⟨q, hq, e⟩ := e
        obtain ⟨h1, h2⟩ := R.at_ _ _ _ hb hq
        rw [if_pos (by rw [h2, R.ρ]; exact hl), h1, Option.map_some, R.ρ, h2, e]
      · cases e
    · cases h
  | .ptrV _ _ _ _ _, a', v, h, e => by simp only [rnV] at h; cases h
  | .bad, a', v, h, e => by simp only [rnV] at h; cases h
theorem rnL_ok {g : Nat → Option Nat} {E1 E2 : Env} (R : RelB g E1 E2) : ∀ (l l' : List AV) (vs : List Value), rnL g l = some l' → concL E1 l = some vs → concL E2 l' = some vs
  | [], l', vs, h, e => by simp only [rnL, Option.some.injEq] at h; subst h; exact e
  | a :: l, l', vs, h, e => by
    simp only [rnL] at h
    split at h
    · rename_i b hb
      split at h
      · rename_i m hm
        cases h
        obtain ⟨v, rest, h1, h2, rfl⟩ := concL_cons.1 e
        exact concL_cons.2 ⟨v, rest, rnV_ok R a b v hb h1, rnL_ok R l m rest hm h2, rfl⟩
      · cases h
    · cases h
end

theorem rnE_ok {g : Nat → Option Nat} {E1 E2 : Env} (R : RelB g E1 E2) : ∀ (l l' : List (AV × AV × Nat)) (ms : List MapEntry), rnE g l = some l' → concE E1 l ms → concE E2 l' ms
  | [], l', ms, h, e => by simp only [rnE, Option.some.injEq] at h; subst h; cases ms <;> first | exact trivial | exact e.elim
  | a :: l, l', ms, h, e => by
    simp only [rnE] at h
    split at h
    · rename_i k v m hk hv hm
      cases h
      cases ms with
      | nil => exact e.elim
      | cons x ms =>
        obtain ⟨k1, k2, k3, k4⟩ := e
        exact ⟨rnV_ok R _ _ _ hk k1, rnV_ok R _ _ _ hv k2, k3, rnE_ok R l m ms hm k4⟩
    · cases h

theorem NB.raw_own (q : NB) : ownO q.raw = true := by cases q <;> rfl
theorem NB.ren_own {g : Nat → Option Nat} {q : NB} {o : AObj} (h : q.ren g = some o) : ownO o = true := by
  unfold NB.ren at h
  split at h
  · split at h
    · cases h; rfl
    · cases h
  · split at h
    · cases h; rfl
    · cases h

/-! ## Blocks laid anew -/
theorem newsH_next {g : Nat → Option Nat} : ∀ (l : List (Nat × NB)) (h h2 : Heap), newsH g l h = some h2 → h2.next = h.next + l.length
  | [], h, h2, e => by simp only [newsH, Option.some.injEq] at e; subst e; rfl
  | q :: l, h, h2, e => by
    simp only [newsH] at e
    split at e
    · rename_i o ho
      rw [newsH_next l _ h2 e, Heap.next_new, List.length_cons]; omega
    · cases e

theorem newsH_get {g : Nat → Option Nat} : ∀ (l : List (Nat × NB)) (h h2 : Heap), newsH g l h = some h2 → ∀ j o, h2.get j = some o →
    (h.get j = some o ∧ (j < h.next ∨ h.next + l.length ≤ j)) ∨ ∃ (i : Nat) (q : Nat × NB), l[i]? = some q ∧ j = h.next + i ∧ q.2.ren g = some o
  | [], h, h2, e, j, o, ho => by
    simp only [newsH, Option.some.injEq] at e; subst e
    refine .inl ⟨ho, ?_⟩
    simp only [List.length_nil]; omega
  | q :: l, h, h2, e, j, o, ho => by
    simp only [newsH] at e
    split at e
    · rename_i o1 ho1
      rcases newsH_get l _ h2 e j o ho with ⟨h1, h3⟩ | ⟨i, q', h1, h3, h4⟩
      · rw [Heap.get_new] at h1
        by_cases hj : j = h.next
        · rw [if_pos hj] at h1; cases h1
          exact .inr ⟨0, q, rfl, by omega, ho1⟩
        · rw [if_neg hj] at h1
          rw [Heap.next_new] at h3
          refine .inl ⟨h1, ?_⟩
          simp only [List.length_cons]; omega
      · rw [Heap.next_new] at h3
        exact .inr ⟨i + 1, q', by simpa using h1, by omega, h4⟩
    · cases e

theorem newsR_find : ∀ (l : List (Nat × NB)) (k b c : Nat), lFind (newsR l k) b = some c → ∃ i q, l[i]? = some q ∧ q.1 = b ∧ c = k + i
  | [], k, b, c, e => by cases e
  | q :: l, k, b, c, e => by
    simp only [newsR, lFind_cons] at e
    cases h : Nat.beq q.1 b with
    | true => rw [h] at e; cases e; exact ⟨0, q, rfl, beq_t.1 h, rfl⟩
    | false =>
      rw [h] at e
      obtain ⟨i, q', h1, h2, h3⟩ := newsR_find l _ b c e
      exact ⟨i + 1, q', by simpa using h1, h2, by omega⟩

theorem rises_ge : ∀ (l : List (Nat × NB)) (n : Nat), rises n l = true → ∀ q ∈ l, n ≤ q.1
  | [], n, _, q, hq => by cases hq
  | q :: l, n, h, q', hq => by
    simp only [rises] at h
    cases h1 : Nat.ble n q.1 with
    | false => rw [h1] at h; cases h
    | true =>
      rw [h1] at h
      rcases List.mem_cons.1 hq with rfl | hq
      · exact ble_t.1 h1
      · have := rises_ge l _ h q' hq; have := ble_t.1 h1; omega

theorem rises_inj : ∀ (l : List (Nat × NB)) (n : Nat), rises n l = true → ∀ (i j : Nat) (q q' : Nat × NB), l[i]? = some q → l[j]? = some q' → q.1 = q'.1 → i = j
  | [], n, _, i, j, q, q', h1, _, _ => by simp at h1
  | p :: l, n, h, i, j, q, q', h1, h2, e => by
    simp only [rises] at h
    cases h0 : Nat.ble n p.1 with
    | false => rw [h0] at h; cases h
    | true =>
      rw [h0] at h
      cases i with
      | zero =>
        cases j with
        | zero => rfl
        | succ j =>
          simp at h1 h2; subst h1
          have := rises_ge l _ h q' (List.mem_of_getElem? h2); omega
      | succ i =>
        cases j with
        | zero =>
          simp at h1 h2; subst h2
          have := rises_ge l _ h q (List.mem_of_getElem? h1); omega
        | succ j =>
          simp at h1 h2
          rw [rises_inj l _ h i j q q' h1 h2 e]

/-- the names here, with those of the new blocks -/
noncomputable def envN (E E1 : Env) (base : Nat) (l : List (Nat × NB)) : Env :=
  ⟨E.ρ, fun b => if b < base then E.σ b else match l[b - base]? with | some q => E1.σ q.1 | none => none,
    fun b => if b < base then E.κ b else match l[b - base]? with | some q => E1.κ q.1 | none => 0, base + l.length,
    E.rc⟩

theorem putsH_next {g : Nat → Option Nat} : ∀ (l : List (Nat × NB)) (h h2 : Heap), putsH g l h = some h2 → h2.next = h.next
  | [], h, h2, e => by simp only [putsH, Option.some.injEq] at e; subst e; rfl
  | q :: l, h, h2, e => by
    simp only [putsH] at e
    split at e
    · split at e
      · rw [putsH_next l _ h2 e, Heap.next_put]
      · cases e
    · cases e

theorem putsH_get {g : Nat → Option Nat} : ∀ (l : List (Nat × NB)) (h h2 : Heap), putsH g l h = some h2 → ∀ j o, h2.get j = some o →
    (h.get j = some o ∧ ∀ q ∈ l, g q.1 ≠ some j) ∨ ∃ q ∈ l, g q.1 = some j ∧ q.2.ren g = some o
  | [], h, h2, e, j, o, ho => by
    simp only [putsH, Option.some.injEq] at e; subst e
    exact .inl ⟨ho, fun q hq => by cases hq⟩
  | q :: l, h, h2, e, j, o, ho => by
    simp only [putsH] at e
    split at e
    · rename_i b hb
      split at e
      · rename_i o1 ho1
        rcases putsH_get l _ h2 e j o ho with ⟨h1, h3⟩ | ⟨q', h1, h3, h4⟩
        · rw [Heap.get_put] at h1
          by_cases hj : j = b
          · rw [if_pos hj] at h1; cases h1
            exact .inr ⟨q, List.mem_cons_self, by rw [hj]; exact hb, ho1⟩
          · rw [if_neg hj] at h1
            refine .inl ⟨h1, fun q' hq' => ?_⟩
            rcases List.mem_cons.1 hq' with rfl | hq'
            · rw [hb]; intro e; cases e; exact hj rfl
            · exact h3 q' hq'
        · exact .inr ⟨q', List.mem_cons_of_mem _ h1, h3, h4⟩
      · cases e
    · cases e

/-- a new block's content, turned -/
theorem NB.ren_ok {p : Par} {g : Nat → Option Nat} {E1 E2 : Env} (hR : RelB g E1 E2) {q : NB} {b j : Nat} {o : AObj} {heap : Array Obj} (hq : q.ren g = some o) (hσ : ∀ x, E1.σ b = some x → E2.σ j = some x ∧ E2.κ j = E1.κ b) (hg : objOk p E1 b q.raw heap) : objOk p E2 j o heap := by
  cases q with
  | cells cs el ext =>
    simp only [NB.ren] at hq
    split at hq
    · rename_i cs' hcs'
      cases hq
      obtain ⟨c, base, vs, cells, el', fz, k1, k2, k3, k4, k5⟩ := hg
      exact ⟨c, base, vs, cells, el', fz, (hσ _ k1).1, rnL_ok hR _ _ _ hcs' k2, k3, k4, by rw [(hσ _ k1).2]; exact k5⟩
    · cases hq
  | map es k =>
    simp only [NB.ren] at hq
    split at hq
    · rename_i es' hes'
      cases hq
      obtain ⟨c, ms, k1, k2, k3⟩ := hg
      exact ⟨c, ms, (hσ _ k1).1, rnE_ok hR _ _ _ hes' k2, k3⟩
    · cases hq

/-- THE NEW BLOCKS LAID BESIDE WHAT LAY, AND WHAT WAS WRITTEN PUT THERE. -/
theorem HeapOk.merge {p : Par} {E E1 : Env} {h h1 h2 h3 : Heap} {w0 b1 : Base} {w w' : World} {n : Nat} {r : Ren} {l outs : List (Nat × NB)}
    (HH : HeapOk p E h w0 w) (H1 : HeapOk p E1 h1 b1 w') (hb1 : b1.w = w) (hS : ∀ c, b1.S c ↔ c < w.heap.size ∧ ∀ q ∈ outs, ∀ x, (envR n E r).σ q.1 ≠ some (c, x))
    (hle : (envR n E r).le E1) (hrise : rises n l = true)
    (hl : ∀ q ∈ l, h1.get q.1 = some q.2.raw)
    (hout : ∀ q ∈ outs, h1.get q.1 = some q.2.raw ∧ 1000 ≤ q.1 ∧ q.1 < n ∧ ∃ j o0, lFind r q.1 = some j ∧ h.get j = some o0 ∧ ownO o0 = true)
    (e2 : newsH (blR n r (newsR l h.next)) l h = some h2) (e3 : putsH (blR n r (newsR l h.next)) outs h2 = some h3) :
    E.le (envN E E1 h.next l) ∧ RelB (blR n r (newsR l h.next)) E1 (envN E E1 h.next l) ∧ HeapOk p (envN E E1 h.next l) h3 w0 w' := by
  have hnx := newsH_next l h h2 e2
  have hfr : ∀ b q, E.σ b = some q → b < h.next := fun b q e => by
    rcases Nat.lt_or_ge b h.next with k | k
    · exact k
    · rw [HH.fresh b k] at e; cases e
  have h1000 : 1000 ≤ h.next := by
    rcases Nat.lt_or_ge h.next 1000 with k | k
    · have := HH.glob h.next k; rw [HH.fresh _ (Nat.le_refl _)] at this; cases this
    · exact k
  have hσ0 : ∀ b, b < h.next → (envN E E1 h.next l).σ b = E.σ b := fun b hb => by simp only [envN, if_pos hb]
  have hκ0 : ∀ b, b < h.next → (envN E E1 h.next l).κ b = E.κ b := fun b hb => by simp only [envN, if_pos hb]
  have hσ1 : ∀ i q, l[i]? = some q → (envN E E1 h.next l).σ (h.next + i) = E1.σ q.1 := fun i q hq => by
    simp only [envN, if_neg (show ¬ h.next + i < h.next by omega), Nat.add_sub_cancel_left, hq]
  have hκ1 : ∀ i q, l[i]? = some q → (envN E E1 h.next l).κ (h.next + i) = E1.κ q.1 := fun i q hq => by
    simp only [envN, if_neg (show ¬ h.next + i < h.next by omega), Nat.add_sub_cancel_left, hq]
  have hσ2 : ∀ b, h.next + l.length ≤ b → (envN E E1 h.next l).σ b = none := fun b hb => by
    simp only [envN, if_neg (show ¬ b < h.next by omega)]
    rw [List.getElem?_eq_none (by omega)]
  have hEle : E.le (envN E E1 h.next l) := by
    refine ⟨⟨rfl, fun b q e => by rw [hσ0 b (hfr b q e)]; exact e, fun b q e => hκ0 b (hfr b q e), fun _ _ _ => rfl⟩, ?_, fun b hb e => ?_⟩
    · have := HH.nx; simp only [envN]; omega
    · rw [hσ0 b (Nat.lt_of_lt_of_le hb HH.nx)]; exact e
  have hR : RelB (blR n r (newsR l h.next)) E1 (envN E E1 h.next l) := by
    refine ⟨?_, fun b c q hb hq => ?_⟩
    · exact hle.ρ.symm
    · unfold blR at hb
      cases k1 : Nat.ble (Nat.succ b) 1000 with
      | true =>
        rw [k1] at hb; cases hb
        have hb' : b < 1000 := ble_t.1 k1
        have s0 : (envR n E r).σ b = some (b, 0) := by simp only [envR, if_pos hb']
        have s1 := hle.σ _ _ s0
        rw [hq] at s1; cases s1
        have kk := hle.κ _ _ s0
        rw [hσ0 b (by omega), hκ0 b (by omega), HH.glob b hb', kk]
        exact ⟨rfl, by simp only [envR, if_pos hb']⟩
      | false =>
        rw [k1, cond_false] at hb
        have hb1 : 1000 ≤ b := by
          rcases Nat.lt_or_ge b 1000 with k | k
          · have := ble_t.2 k; rw [k1] at this; cases this
          · exact k
        cases k2 : Nat.ble (Nat.succ b) n with
        | true =>
          rw [k2, cond_true] at hb
          have hbn : b < n := ble_t.1 k2
          have s0 : (envR n E r).σ b = E.σ c := by simp only [envR, if_neg (show ¬ b < 1000 by omega), if_pos hbn, hb]
          have t0 : (envR n E r).κ b = E.κ c := by simp only [envR, if_neg (show ¬ b < 1000 by omega), if_pos hbn, hb]
          cases hc : E.σ c with
          | none =>
            have := hle.none b (by simpa [envR] using hbn) (by rw [s0]; exact hc)
            rw [hq] at this; cases this
          | some q' =>
            rw [hc] at s0
            have s1 := hle.σ _ _ s0
            rw [hq] at s1; cases s1
            have hcn := hfr c _ hc
            refine ⟨by rw [hσ0 c hcn]; exact hc, ?_⟩
            rw [hκ0 c hcn, hle.κ _ _ s0, t0]
        | false =>
          rw [k2, cond_false] at hb
          obtain ⟨i, q', g1, g2, rfl⟩ := newsR_find l _ b c hb
          subst g2
          exact ⟨by rw [hσ1 i q' g1]; exact hq, hκ1 i q' g1⟩
  refine ⟨hEle, hR, ?_⟩
  have HW := HH.below
  have hK : Kept b1.S w w' := by have := H1.below; rw [← hb1]; exact this
  have hnx3 := putsH_next outs h2 h3 e3
  -- what may be written: where it lies
  have outAt : ∀ q ∈ outs, ∃ j o0 c, lFind r q.1 = some j ∧ blR n r (newsR l h.next) q.1 = some j ∧ h.get j = some o0 ∧ ownO o0 = true ∧ (∃ x, E1.σ q.1 = some (c, x) ∧ E.σ j = some (c, x) ∧ (envR n E r).σ q.1 = some (c, x)) := by
    intro q hq
    obtain ⟨g1, g2, g3, j, o0, g4, g5, g6⟩ := hout q hq
    have hbl : blR n r (newsR l h.next) q.1 = some j := by
      unfold blR
      have k1 : Nat.ble (Nat.succ q.1) 1000 = false := by
        cases hk : Nat.ble (Nat.succ q.1) 1000 with
        | false => rfl
        | true => have := ble_t.1 hk; omega
      rw [k1, cond_false, ble_t.2 g3, cond_true]; exact g4
    have ho := H1.obj _ _ g1
    obtain ⟨⟨c, x⟩, hσ1⟩ : ∃ y, E1.σ q.1 = some y := by
      revert ho
      obtain ⟨qb, qo⟩ := q
      cases qo with
      | cells cs el ext => rintro ⟨c, base, vs, cells, el', fz, k1, _⟩; exact ⟨_, k1⟩
      | map es k => rintro ⟨c, ms, k1, _⟩; exact ⟨_, k1⟩
    have hes : (envR n E r).σ q.1 = E.σ j := by simp only [envR, if_neg (show ¬ q.1 < 1000 by omega), if_pos g3, g4]
    have hEj : E.σ j = some (c, x) := by
      cases hc : E.σ j with
      | none =>
        have := hle.none q.1 (by simpa [envR] using g3) (by rw [hes]; exact hc)
        rw [hσ1] at this; cases this
      | some y =>
        have := hle.σ _ _ (hes.trans hc)
        rw [hσ1] at this; exact this.symm
    exact ⟨j, o0, c, g4, hbl, g5, g6, x, hσ1, hEj, hes.trans hEj⟩
  have newO : ∀ (i : Nat) (q : Nat × NB), l[i]? = some q → ∀ c x, E1.σ q.1 = some (c, x) → w.heap.size ≤ c ∧ c < w'.heap.size := fun i q hq c x hs => by
    have hg := hl q (List.mem_of_getElem? hq)
    refine ⟨?_, H1.lt _ _ _ _ hg hs⟩
    rcases Nat.lt_or_ge c w.heap.size with hc | hc
    · exfalso
      refine H1.base _ _ _ _ hg q.2.raw_own hs ((hS c).2 ⟨hc, fun q' hq' y hy => ?_⟩)
      obtain ⟨g1, g2, g3, _⟩ := hout q' hq'
      have := hle.σ _ _ hy
      have := H1.inj _ _ _ _ _ _ _ hg g1 q.2.raw_own q'.2.raw_own hs this
      have := rises_ge l n hrise q (List.mem_of_getElem? hq)
      omega
    · exact hc
  have old : ∀ j o, h.get j = some o → (j < h.next ∨ h.next + l.length ≤ j) → (envN E E1 h.next l).σ j = E.σ j := fun j o _ hj => by
    rcases hj with hj | hj
    · exact hσ0 j hj
    · rw [hσ2 j hj, HH.fresh j (by omega)]
  -- each block that lies there: a new one, or an old one, as it was or written
  have kinds : ∀ j o, h3.get j = some o →
      (∃ (i : Nat) (q : Nat × NB), l[i]? = some q ∧ j = h.next + i ∧ q.2.ren (blR n r (newsR l h.next)) = some o) ∨
      (∃ o0, h.get j = some o0 ∧ (envN E E1 h.next l).σ j = E.σ j ∧
        ((o0 = o ∧ ∀ q ∈ outs, lFind r q.1 ≠ some j) ∨ (ownO o0 = true ∧ ∃ q ∈ outs, blR n r (newsR l h.next) q.1 = some j ∧ q.2.ren (blR n r (newsR l h.next)) = some o))) := by
    intro j o ho
    rcases putsH_get outs h2 h3 e3 j o ho with ⟨g1, g2⟩ | ⟨q, hq, g1, g2⟩
    · rcases newsH_get l h h2 e2 j o g1 with ⟨g3, hj⟩ | ⟨i, q, hq, rfl, hcs⟩
      · refine .inr ⟨o, g3, old j o g3 hj, .inl ⟨rfl, fun q hq e => ?_⟩⟩
        obtain ⟨j', o0, c, z1, z2, _⟩ := outAt q hq
        rw [e] at z1; cases z1
        exact g2 q hq z2
      · exact .inl ⟨i, q, hq, rfl, hcs⟩
    · obtain ⟨j', o0, c, z1, z2, z3, z4, x, z5, z6, z7⟩ := outAt q hq
      rw [g1] at z2; cases z2
      exact .inr ⟨o0, z3, hσ0 j (hfr j _ z6), .inr ⟨z4, q, hq, g1, g2⟩⟩
  refine ⟨fun j o ho => ?_, fun b b' o o' c x y g1 g2 w1 w2 s1 s2 => ?_, fun b o c x ho ow s => ?_, fun b o c y hg hr s => ?_, fun b hb => ?_, fun b o c x ho s => ?_, fun b hb => ?_, ?_, ?_, HH.ok⟩
  · rcases kinds j o ho with ⟨i, q, hq, rfl, hcs⟩ | ⟨o0, g, hσ, ⟨rfl, hno⟩ | ⟨hw, q, hq, hbl, hren⟩⟩
    · exact NB.ren_ok hR hcs (fun x hx => ⟨by rw [hσ1 i q hq]; exact hx, hκ1 i q hq⟩) (H1.obj _ _ (hl q (List.mem_of_getElem? hq)))
    · refine (HH.obj j o0 g).mono hEle.tole0 (fun hn => by rw [hσ]; exact hn) (fun c x hc hk => hK.block c ((hS c).2 ⟨HH.lt j o0 c x g hc, fun q hq y hy => ?_⟩))
      obtain ⟨j', o1, c', z1, z2, z3, z4, x', z5, z6, z7⟩ := outAt q hq
      rw [hy] at z7; cases z7
      rcases hk with hk | hk
      · have := HH.inj _ _ _ _ _ _ _ g z3 hk z4 hc z6
        subst this
        exact hno q hq z1
      · exact HH.base _ _ _ _ z3 z4 z6 (HH.ro _ _ _ _ g hk hc)
    · obtain ⟨g1, _⟩ := hout q hq
      exact NB.ren_ok hR hren (fun x hx => hR.at_ _ _ _ hbl hx) (H1.obj _ _ g1)
  · have one : ∀ b o c x, h3.get b = some o → ownO o = true → (envN E E1 h.next l).σ b = some (c, x) →
        (∃ (i : Nat) (q : Nat × NB), l[i]? = some q ∧ b = h.next + i ∧ E1.σ q.1 = some (c, x)) ∨ (∃ o0, h.get b = some o0 ∧ ownO o0 = true ∧ E.σ b = some (c, x)) := by
      intro b o c x g0 w1 s
      rcases kinds b o g0 with ⟨i, q, hq, rfl, hcs⟩ | ⟨o0, g', hσ, ⟨rfl, hno⟩ | ⟨hw, _⟩⟩
      · rw [hσ1 i q hq] at s; exact .inl ⟨i, q, hq, rfl, s⟩
      · rw [hσ] at s; exact .inr ⟨o0, g', w1, s⟩
      · rw [hσ] at s; exact .inr ⟨o0, g', hw, s⟩
    rcases one b o c x g1 w1 s1 with ⟨i, q, hq, rfl, k1⟩ | ⟨o0, k1, k2, k3⟩
    · rcases one b' o' c y g2 w2 s2 with ⟨i', q', hq', rfl, k1'⟩ | ⟨o0', k1', k2', k3'⟩
      · have := H1.inj _ _ _ _ _ _ _ (hl q (List.mem_of_getElem? hq)) (hl q' (List.mem_of_getElem? hq')) q.2.raw_own q'.2.raw_own k1 k1'
        rw [rises_inj l n hrise i i' q q' hq hq' this]
      · have a1 := (newO i q hq c x k1).1
        have a2 := HH.lt _ _ _ _ k1' k3'
        omega
    · rcases one b' o' c y g2 w2 s2 with ⟨i', q', hq', rfl, k1'⟩ | ⟨o0', k1', k2', k3'⟩
      · have a1 := (newO i' q' hq' c y k1').1
        have a2 := HH.lt _ _ _ _ k1 k3
        omega
      · exact HH.inj _ _ _ _ _ _ _ k1 k1' k2 k2' k3 k3'
  · rcases kinds b o ho with ⟨i, q, hq, rfl, hcs⟩ | ⟨o0, g, hσ, ⟨rfl, hno⟩ | ⟨hw, _⟩⟩
    · rw [hσ1 i q hq] at s
      have a1 := (newO i q hq c x s).1
      intro hc
      have := HW.lt hc; omega
    · rw [hσ] at s; exact HH.base _ _ _ _ g ow s
    · rw [hσ] at s; exact HH.base _ _ _ _ g hw s
  · rcases kinds b o hg with ⟨i, q, hq, rfl, hcs⟩ | ⟨o0, g, hσ, ⟨rfl, hno⟩ | ⟨hw, q, hq, hbl, hren⟩⟩
    · rw [roO_own (NB.ren_own hcs)] at hr; cases hr
    · rw [hσ] at s; exact HH.ro _ _ _ _ g hr s
    · rw [roO_own (NB.ren_own hren)] at hr; cases hr
  · rw [hnx3, hnx] at hb; exact hσ2 b hb
  · rcases kinds b o ho with ⟨i, q, hq, rfl, hcs⟩ | ⟨o0, g, hσ, _⟩
    · rw [hσ1 i q hq] at s; exact (newO i q hq c x s).2
    · rw [hσ] at s; exact Nat.lt_of_lt_of_le (HH.lt _ _ _ _ g s) hK.size
  · rw [hσ0 b (by omega)]; exact HH.glob b hb
  · refine HW.trans ⟨hK.os, hK.tape, hK.output, hK.size, fun c hc => hK.block c ((hS c).2 ⟨HW.lt hc, fun q hq y hy => ?_⟩)⟩
    obtain ⟨j', o1, c', z1, z2, z3, z4, x', z5, z6, z7⟩ := outAt q hq
    rw [hy] at z7; cases z7
    exact HH.base _ _ _ _ z3 z4 z6 hc
  · rw [hnx3, hnx]; exact Nat.le_refl _

/-! ## Entries -/

theorem eqEs_eq : ∀ (l m : List (AV × AV × Nat)), eqEs l m = true → l = m
  | [], [], _ => rfl
  | [], _ :: _, h => by simp only [eqEs] at h; cases h
  | _ :: _, [], h => by simp only [eqEs] at h; cases h
  | (a1, a2, a3) :: l, (b1, b2, b3) :: m, h => by
    simp only [eqEs, Bool.and_eq_true] at h
    rw [eqAV_eq _ _ h.1.1, eqAV_eq _ _ h.1.2.1, beq_t.1 h.1.2.2, eqEs_eq l m h.2]

theorem newOk_get {h : Heap} {q : Nat × NB} (e : newOk h q = true) : h.get q.1 = some q.2.raw := by
  unfold newOk at e
  split at e
  · rename_i cs el ext hq
    split at e
    · rename_i cs' el' own ext' hg
      simp only [Bool.and_eq_true] at e
      rw [hg, hq, e.1, eqAVs_eq _ _ e.2.1, beq_t.1 e.2.2.1, beqB_eq e.2.2.2]; rfl
    · cases e
  · rename_i es k hq
    split at e
    · rename_i es' k' hg
      simp only [Bool.and_eq_true] at e
      rw [hg, hq, eqEs_eq _ _ e.1, beq_t.1 e.2]; rfl
    · cases e

noncomputable def li (n : Int) : AV := .int .i64 (.lit n)
theorem lAll_cons {α : Type} {p : α → Bool} {a : α} {l : List α} (h : p a = true) (k : lAll p l = true) : lAll p (a :: l) = true := by
  show cond (p a) (lAll p l) false = true
  rw [h]; exact k

/-- THE ENTRY's CALL, RUN -/
noncomputable def Ent.run (tb : Tabs) (d : Nat) (e : Ent) : Bool :=
  match evalN tb d false e.f e.args (viewO e.n e.view) with
  | .ret r => and (and (eqAV r.1 e.res) (lAll (newOk r.2) e.news)) (and (and (rises e.n e.news) (Nat.ble 1000 e.n)) (and (lAll (newOk r.2) e.outs) (and (viewUp 0 e.view) (outsOk e.n e.view e.outs))))
  | _ => false

theorem lAll_mem {α : Type} {p : α → Bool} : ∀ {l : List α}, lAll p l = true → ∀ a ∈ l, p a = true
  | [], _, a, h => by cases h
  | x :: l, h, a, ha => by
    have h : cond (p x) (lAll p l) false = true := h
    cases hx : p x with
    | false => rw [hx] at h; cases h
    | true =>
      rw [hx] at h
      rcases List.mem_cons.1 ha with rfl | ha
      · exact hx
      · exact lAll_mem h a ha

theorem Ent.meet_ok {p : Par} {ty : Nat → Option TI} {tb : Tabs} (B : TabOk p ty tb) {d : Nat} {e : Ent} (hrun : e.run tb d = true) {args : List AV} {h : Heap} {t : T (AV × Heap)}
    (hm : e.meet args h = some t) : CallOk p e.f args h t := by
  unfold Ent.meet at hm
  split at hm
  · rename_i r0 h0
    split at hm
    · rename_i r hr
      obtain ⟨hinj, hm⟩ := cond_some hm
      split at hm
      · rename_i v hv
        split at hm
        · rename_i h2 hn
          split at hm
          · rename_i h3 hp
            cases hm
            obtain ⟨s0, m0⟩ := mtL_ok _ _ _ _ h0
            obtain ⟨s1, m1⟩ := mtView_ok _ _ _ hr
            intro vs E w0 w Q K k HH ha P
            have R : Rel e.n E (envR e.n E r) r := envR_rel HH.glob
            unfold Ent.run at hrun
            split at hrun
            · rename_i q hq
              obtain ⟨v1, h1⟩ := q
              simp only [Bool.and_eq_true] at hrun
              obtain ⟨⟨k1, k2⟩, ⟨k3, k4⟩, k5, k6, k7⟩ := hrun
              have hn1 : 1000 ≤ e.n := ble_t.1 k4
              have k1 := eqAV_eq _ _ k1
              subst k1
              obtain ⟨o1, o2⟩ := outsOk_own _ _ k7
              have hargs : concL (envR e.n E r) e.args = some vs := by rw [m0 E _ (R.sub s1)]; exact ha
              have hview := m1 R HH
              have h1000 : ∀ b, b < 1000 → (envR e.n E r).σ b = some (b, 0) := fun b hb => by simp only [envR, if_pos hb]
              have res1000 : ∀ b c, 1000 ≤ b → (cond (Nat.ble (Nat.succ b) 1000) (some b) (cond (Nat.ble (Nat.succ b) e.n) (lFind r b) none)) = some c → lFind r b = some c := fun b c hb hc => by
                have k1 : Nat.ble (Nat.succ b) 1000 = false := by
                  cases hk : Nat.ble (Nat.succ b) 1000 with
                  | false => rfl
                  | true => have := ble_t.1 hk; omega
                rw [k1, cond_false] at hc
                exact (cond_some hc).2
              -- what may be written lies where it may be
              have outR : ∀ q ∈ e.outs, 1000 ≤ q.1 ∧ q.1 < e.n ∧ ∃ g ∈ e.view, g.1 = q.1 ∧ g.2.isOwn = true ∧ ∃ j o, lFind r q.1 = some j ∧ h.get j = some o ∧ ownO o = true ∧ (envR e.n E r).σ q.1 = E.σ j := fun q hq => by
                obtain ⟨b1, b2, g, b3, b4, b5⟩ := o2 q hq
                obtain ⟨b, o, c1, c2, c3, c4, c5⟩ := (hview g b3).at_
                rw [b4] at c1 c3
                exact ⟨b1, b2, g, b3, b4, b5, b, o, res1000 _ _ b1 c1, c2, c4 b5, c3⟩
              have inj : e.outs ≠ [] → injR r = true := fun hne => by
                unfold someInj at hinj
                split at hinj
                · rename_i he; exact absurd he hne
                · exact hinj
              let b1 : Base := ⟨w, fun c => c < w.heap.size ∧ ∀ q ∈ e.outs, ∀ x, (envR e.n E r).σ q.1 ≠ some (c, x), fun c hc => hc.1⟩
              have hvo : HeapOk p (envR e.n E r) (viewO e.n e.view) b1 w := by
                have obj : ∀ b o, (viewO e.n e.view).get b = some o → objOk p (envR e.n E r) b o w.heap := fun b o ho => by
                  obtain ⟨g, hg, rfl, rfl⟩ := viewO_get _ _ _ _ ho
                  exact (hview g hg).obj
                have lt : ∀ b o c x, (viewO e.n e.view).get b = some o → (envR e.n E r).σ b = some (c, x) → c < w.heap.size := fun b o c x ho hs => by
                  obtain ⟨g, hg, rfl, rfl⟩ := viewO_get _ _ _ _ ho
                  obtain ⟨b', o', c1, c2, c3, c4, c5⟩ := (hview g hg).at_
                  rw [c3] at hs
                  exact HH.lt _ _ _ _ c2 hs
                have own : ∀ b o, (viewO e.n e.view).get b = some o → ownO o = true → ∃ q ∈ e.outs, q.1 = b := fun b o ho hw => by
                  obtain ⟨g, hg, rfl, rfl⟩ := viewO_get _ _ _ _ ho
                  rw [VO.own_obj] at hw
                  exact o1 g hg hw
                have same : ∀ q ∈ e.outs, ∀ b o c x y, (viewO e.n e.view).get b = some o → (envR e.n E r).σ b = some (c, x) → (envR e.n E r).σ q.1 = some (c, y) → b = q.1 := by
                  intro q hq b o c x y ho hs hs'
                  have hi := injR_ok (inj (fun h0 => by rw [h0] at hq; cases hq))
                  obtain ⟨d1, d2, g', d3, d4, d5, j, o', d6, d7, d8, d9⟩ := outR q hq
                  obtain ⟨g, hg, rfl, rfl⟩ := viewO_get _ _ _ _ ho
                  obtain ⟨b', o2, c1, c2, c3, c4, c5⟩ := (hview g hg).at_
                  rw [c3] at hs
                  rw [d9] at hs'
                  have hj : b' = j := by
                    rcases c5 with c5 | c5
                    · exact HH.inj _ _ _ _ _ _ _ c2 d7 c5 d8 hs hs'
                    · exact absurd (HH.ro _ _ _ _ c2 c5 hs) (HH.base _ _ _ _ d7 d8 hs')
                  subst hj
                  rcases Nat.lt_or_ge g.1 1000 with hlt | hge
                  · have : g.1 = b' := by
                      have k1 : Nat.ble (Nat.succ g.1) 1000 = true := ble_t.2 hlt
                      rw [k1, cond_true] at c1; exact Option.some.inj c1
                    have := (hi.1 _ _ d6).1
                    omega
                  · exact hi.2 _ _ _ (res1000 _ _ hge c1) d6
                refine ⟨obj, fun b b' o o' c x y g1 g2 w1 w2 s1 s2 => ?_, fun b o c x ho hw hs hc => ?_, fun b o c y ho hr hs => ?_, fun b hb => ?_, lt, h1000, Kept.refl _ _, (by rw [viewO_next]; exact Nat.le_refl _), HH.ok.mono fun c o e' => ⟨⟨HH.below.lt e'.1, fun q hq x hx => ?_⟩, Base.Keeps.has HH.below e'⟩⟩
                · obtain ⟨q, hq, e1⟩ := own _ _ g2 w2
                  rw [← e1] at s2
                  rw [← e1]
                  exact same q hq _ _ _ _ _ g1 s1 s2
                · obtain ⟨q, hq, e1⟩ := own _ _ ho hw
                  rw [← e1] at hs
                  exact hc.2 q hq x hs
                · refine ⟨lt _ _ _ _ ho hs, fun q hq x hx => ?_⟩
                  have hb := same q hq _ _ _ _ _ ho hs hx
                  obtain ⟨d1, d2, g', d3, d4, d5, _⟩ := outR q hq
                  obtain ⟨g, hg, e1, rfl⟩ := viewO_get _ _ _ _ ho
                  have := viewUp_inj _ _ k6 g hg g' d3 (by rw [e1, hb, d4])
                  subst this
                  rw [VO.ro_obj, d5] at hr; cases hr
                · rw [viewO_next] at hb
                  simp only [envR]; rw [if_neg (by omega), if_neg (by omega)]
                · obtain ⟨d1, d2, g', d3, d4, d5, j, o', d6, d7, d8, d9⟩ := outR q hq
                  rw [d9] at hx
                  exact HH.base _ _ _ _ d7 d8 hx e'.1
              have key := eval_ok B d e.f e.args (viewO e.n e.view) vs (envR e.n E r) b1 w (fun r => r = (e.res, h1)) (fun cv w' => ∃ E1, (envR e.n E r).le E1 ∧ HeapOk p E1 h1 b1 w' ∧ conc E1 e.res = some cv)
                (by rw [hq]; rfl) hvo hargs ?_
              · refine ⟨key.1, key.2.mono ?_⟩
                rintro ex w' ⟨cv, rfl, E1, hle, H1, hcv⟩
                obtain ⟨z1, z2, z3⟩ := HH.merge (outs := e.outs) H1 rfl (fun c => Iff.rfl) hle k3 (fun q hq => newOk_get (lAll_mem k2 q hq))
                  (fun q hq => by
                    obtain ⟨d1, d2, g', d3, d4, d5, j, o', d6, d7, d8, d9⟩ := outR q hq
                    exact ⟨newOk_get (lAll_mem k5 q hq), d1, d2, j, o', d6, d7, d8⟩) hn hp
                exact ⟨cv, rfl, P v h3 _ w' cv k z1 z3 (rnV_ok z2 _ _ _ hv hcv)⟩
              · intro v' h' E' w' cv q hle HH' hv'
                cases q
                exact ⟨E', hle, HH', hv'⟩
            · cases hrun
          · cases hm
        · cases hm
      · cases hm
    · cases hm
  · cases hm

theorem entOrc_ok {p : Par} {ty : Nat → Option TI} {tb : Tabs} (B : TabOk p ty tb) {d : Nat} {f : FuncId} {args : List AV} {h : Heap} {t : T (AV × Heap)} : ∀ {l : List Ent}, lAll (Ent.run tb d) l = true → entOrc f args h l = some t → CallOk p f args h t
  | [], _, e => by cases e
  | x :: l, hl, e => by
    have e : cond (Nat.beq f x.f) (match x.meet args h with
      | some t => some t
      | none => entOrc f args h l) (entOrc f args h l) = some t := e
    have hx : Ent.run tb d x = true := lAll_mem hl x List.mem_cons_self
    have hl' : lAll (Ent.run tb d) l = true := by
      have h : cond (Ent.run tb d x) (lAll (Ent.run tb d) l) false = true := hl
      rw [hx] at h; exact h
    cases hf : Nat.beq f x.f with
    | false => rw [hf] at e; exact entOrc_ok B hl' e
    | true =>
      rw [hf, cond_true] at e
      have := beq_t.1 hf
      subst this
      cases hm : x.meet args h with
      | none => rw [hm] at e; exact entOrc_ok B hl' e
      | some u => rw [hm] at e; cases e; exact Ent.meet_ok B hx hm

/-- entries that were run -/
structure RunL (tb : Tabs) (d : Nat) (k : Nat) (l : List Ent) : Prop where
  ok : lAll (Ent.run tb d) l = true

theorem entPT_ok {p : Par} {ty : Nat → Option TI} {tb : Tabs} (B : TabOk p ty tb) {d m : Nat} {pt : PT (List Ent)} (H : pt.Every (RunL tb d)) {f : FuncId} {args : List AV} {h : Heap} {t : T (AV × Heap)}
    (e : entPT m pt f args h = some t) : CallOk p f args h t := by
  unfold entPT at e
  split at e
  · rename_i l hl
    exact entOrc_ok B (PT.every_get _ _ H _ _ hl).ok e
  · cases e

end Go.Sx
/-! WHAT COMES IN, OPENED: numbers, structs and arrays of numbers, slices of them. -/
namespace Go.Sx
open Go.RowKit

/-! ## Types of plain numbers -/
def flatB (P : Program) : Nat → TypeId → Bool
  | 0, _ => false
  | n + 1, t => match P.underlying t with
    | some (.int .i64) => true
    | some (.struct fs) => flatF P (flatB P n) fs.toList 0 (P.cellsOf t)
    | some (.array k e) => and (flatB P n e) (Nat.beq (k * P.cellsOf e) (P.cellsOf t))
    | _ => false
where
  flatF (P : Program) (g : TypeId → Bool) : List Field → Nat → Nat → Bool
    | [], off, tot => Nat.beq off tot
    | f :: fs, off, tot => and (and (Nat.beq f.offset off) (g f.type)) (flatF P g fs (off + P.cellsOf f.type) tot)

mutual
def leavesD {H : Type} : DataW H → List Value
  | .lit (.int k n) => [.int k n]
  | .agg xs => leavesL xs
  | _ => []
def leavesL {H : Type} : List (DataW H) → List Value
  | [] => []
  | x :: xs => leavesD x ++ leavesL xs
end

section
variable {H : Type} {enc : TypeId × Value → H} {P : Program} {w : World} {base : Nat} {spare : Nat → Bool} {held : Bool}

theorem flat_fields {g : TypeId → Bool} {m : Nat} (hg : ∀ t cs x, g t = true → DataW.trod enc P w base spare held m t cs = some x → cs = leavesD x.1 ∧ x.2 = [] ∧ (∀ v ∈ cs, ∃ n, v = .int .i64 n)) {cs : List Value} :
    ∀ (fs : List Field) (xs : List (DataW H × List MemPlace)) (off : Nat), xs.length = fs.length → flatB.flatF P g fs off cs.length = true → (∀ (i : Nat) (f : Field), fs[i]? = some f → DataW.trod enc P w base spare held m f.type ((cs.drop f.offset).take (P.cellsOf f.type)) = xs[i]?) →
      cs.drop off = leavesL (xs.map (·.1)) ∧ xs.flatMap (·.2) = [] ∧ (∀ v ∈ cs.drop off, ∃ n, v = .int .i64 n)
  | [], xs, off, hl, hf, _ => by
    cases xs with
    | cons x xs => simp at hl
    | nil =>
      have : off = cs.length := beq_t.1 hf
      subst this
      simp [leavesL]
  | f :: fs, [], off, hl, _, _ => by simp at hl
  | f :: fs, x :: xs, off, hl, hf, hx => by
    simp only [flatB.flatF, Bool.and_eq_true] at hf
    obtain ⟨⟨h1, h2⟩, h3⟩ := hf
    have h1 := beq_t.1 h1
    have hx0 := hx 0 f rfl
    simp only [List.getElem?_cons_zero] at hx0
    rw [h1] at hx0
    obtain ⟨g1, g2, g3⟩ := hg f.type _ x h2 hx0
    obtain ⟨r1, r2, r3⟩ := flat_fields hg fs xs (off + P.cellsOf f.type) (by simpa using hl) h3 (fun i f' hf' => by simpa using hx (i + 1) f' (by simpa using hf'))
    have split : cs.drop off = (cs.drop off).take (P.cellsOf f.type) ++ cs.drop (off + P.cellsOf f.type) := by
      rw [← List.drop_drop, List.take_append_drop]
    refine ⟨?_, by simp [g2, r2], fun v hv => ?_⟩
    · rw [split, r1]
      simp only [List.map_cons, leavesL]
      rw [← g1]
    · rw [split] at hv
      rcases List.mem_append.1 hv with hv | hv
      · exact g3 v hv
      · exact r3 v hv

theorem flat_array {m k e : Nat} {cs : List Value} (hg : ∀ cs x, DataW.trod enc P w base spare held m e cs = some x → cs = leavesD x.1 ∧ x.2 = [] ∧ (∀ v ∈ cs, ∃ n, v = .int .i64 n)) :
    ∀ (r : Nat) (xs : List (DataW H × List MemPlace)), xs.length = r → r ≤ k → cs.length = k * P.cellsOf e → (∀ i, i < r → DataW.trod enc P w base spare held m e ((cs.drop ((k - r + i) * P.cellsOf e)).take (P.cellsOf e)) = xs[i]?) →
      cs.drop ((k - r) * P.cellsOf e) = leavesL (xs.map (·.1)) ∧ xs.flatMap (·.2) = [] ∧ (∀ v ∈ cs.drop ((k - r) * P.cellsOf e), ∃ n, v = .int .i64 n)
  | 0, xs, hl, _, hc, _ => by
    cases xs with
    | cons x xs => simp at hl
    | nil => rw [Nat.sub_zero, List.drop_eq_nil_of_le (by omega)]; simp [leavesL]
  | r + 1, [], hl, _, _, _ => by simp at hl
  | r + 1, x :: xs, hl, hr, hc, hx => by
    have hx0 := hx 0 (by omega)
    simp only [List.getElem?_cons_zero, Nat.add_zero] at hx0
    obtain ⟨g1, g2, g3⟩ := hg _ x hx0
    obtain ⟨r1, r2, r3⟩ := flat_array hg r xs (by simpa using hl) (by omega) hc (fun i hi => by
      have := hx (i + 1) (by omega)
      rw [show k - (r + 1) + (i + 1) = k - r + i by omega] at this
      simpa using this)
    have e1 : (k - (r + 1)) * P.cellsOf e + P.cellsOf e = (k - r) * P.cellsOf e := by
      rw [show k - r = (k - (r + 1)) + 1 by omega, Nat.add_mul, Nat.one_mul]
    have split : cs.drop ((k - (r + 1)) * P.cellsOf e) = (cs.drop ((k - (r + 1)) * P.cellsOf e)).take (P.cellsOf e) ++ cs.drop ((k - r) * P.cellsOf e) := by
      rw [← e1, ← List.drop_drop, List.take_append_drop]
    refine ⟨?_, by simp [g2, r2], fun v hv => ?_⟩
    · rw [split, r1]
      simp only [List.map_cons, leavesL]
      rw [← g1]
    · rw [split] at hv
      rcases List.mem_append.1 hv with hv | hv
      · exact g3 v hv
      · exact r3 v hv

/-- what is read of a type of plain numbers is what lies there -/
theorem flat_trod : ∀ (n : Nat) (t : TypeId) (fuel : Nat) (cs : List Value) (x : DataW H × List MemPlace), flatB P n t = true → DataW.trod enc P w base spare held fuel t cs = some x → cs = leavesD x.1 ∧ x.2 = [] ∧ (∀ v ∈ cs, ∃ n, v = .int .i64 n)
  | 0, t, fuel, cs, x, h, _ => by cases h
  | n + 1, t, fuel, cs, x, h, k => by
    unfold flatB at h
    split at h
    · rename_i hu
      obtain ⟨z, rfl, rfl, _⟩ := DataW.trod_int hu k
      exact ⟨rfl, rfl, fun v hv => ⟨z, List.mem_singleton.1 hv⟩⟩
    · rename_i fs hu
      obtain ⟨xs, m, rfl, rfl, hl, hxl, hx⟩ := DataW.trod_struct hu k
      rw [← hl] at h
      obtain ⟨r1, r2, r3⟩ := flat_fields (m := m) (g := flatB P n) (fun t cs x h k => flat_trod n t m cs x h k) fs.toList xs 0 (by simpa using hxl) h (fun i f hf => hx i f (by simpa using hf))
      exact ⟨by simpa [leavesD] using r1, r2, by simpa using r3⟩
    · rename_i k' e hu
      rw [Bool.and_eq_true] at h
      obtain ⟨xs, m, rfl, rfl, hl, hxl, hx⟩ := DataW.trod_array hu k
      have hc := beq_t.1 h.2
      obtain ⟨r1, r2, r3⟩ := flat_array (m := m) (k := k') (e := e) (fun cs x k => flat_trod n e m cs x h.1 k) k' xs hxl (Nat.le_refl _) (by rw [hl, hc]) (fun i hi => by rw [Nat.sub_self, Nat.zero_add]; exact hx i hi)
      rw [Nat.sub_self, Nat.zero_mul] at r1 r3
      exact ⟨by simpa [leavesD] using r1, r2, by simpa using r3⟩
    · cases h
end

/-! ## Cells -/
theorem okCell_int {P : Program} {w : World} {r : Reach} {base : Nat} {u : TypeId} {v : Value} (hu : P.underlying u = some (.int .i64)) (h : Cell.okWide P w r base u v) : ∃ n, v = .int .i64 n := by
  unfold Cell.okWide at h
  rw [hu] at h
  have h' : Cell.ok P w r base u v := by
    revert h
    cases v <;> exact fun h => h
  unfold Cell.ok at h'
  rw [hu] at h'
  split at h' <;> simp_all

theorem okCell_slice {P : Program} {w : World} {r : Reach} {base : Nat} {u e : TypeId} {v : Value} (hu : P.underlying u = some (.slice e)) (h : Cell.okWide P w r base u v) :
    v = .slice none 0 0 ∨ ∃ b o len cap, v = .slice (some ⟨b, o, none⟩) len cap ∧ len ≤ cap := by
  unfold Cell.okWide at h
  rw [hu] at h
  have h' : Cell.ok P w r base u v := by
    revert h
    cases v <;> exact fun h => h
  clear h
  unfold Cell.ok at h'
  rw [hu] at h'
  cases v with
  | slice a len cap =>
    cases a with
    | none =>
      cases len with
      | zero => cases cap with
        | zero => exact .inl rfl
        | succ c => exact h'.elim
      | succ l => exact h'.elim
    | some a =>
      obtain ⟨h1, _, _, h4, _⟩ := h'
      refine .inr ⟨a.block, a.off, len, cap, ?_, h1⟩
      cases a
      simp_all
  | _ => exact h'.elim

/-- the cells of a struct or an array, by their types -/
theorem okRow {P : Program} {w : World} {r : Reach} {base : Nat} {t : TypeId} {v : Value} {ts : List TypeId} (hagg : (match P.underlying t with | some (.struct _) => true | some (.array _ _) => true | _ => false) = true) (hts : P.cellTypes P.depth t = some ts) (hlen : ts.length = P.cellsOf t)
    (h : Value.okWide P w r base t v) : ∃ cs : List Value, v = .agg cs.toArray ∧ cs.length = ts.length ∧ ∀ (i : Nat) (u : TypeId) (x : Value), ts[i]? = some u → cs[i]? = some x → Cell.okWide P w r base u x := by
  have h' : ∃ cs, v = .agg cs ∧ cs.size = P.cellsOf t ∧ Row.okWide P w r base t cs := by
    unfold Value.okWide at h
    split at h
    · exact h
    · exact h
    · rename_i h1 h2
      exfalso
      split at hagg
      · rename_i fs hu; exact h1 fs hu
      · rename_i n e hu; exact h2 n e hu
      · cases hagg
  obtain ⟨cs, rfl, hsz, ts', hts', _, hc⟩ := h'
  rw [hts] at hts'
  cases hts'
  refine ⟨cs.toList, rfl, by simp [hsz, hlen], fun i u x hu hx => ?_⟩
  have hi : i < ts.length := (List.getElem?_eq_some_iff.1 hu).1
  obtain ⟨u', h1, h2⟩ := hc i x (by simpa using hx)
  rw [Nat.mod_eq_of_lt hi, hu] at h1
  cases h1
  exact h2

end Go.Sx
